/- A fabric's Serve: one goes on, or has arrived. Conditions: each theorem's own. -/
import Derived.Test.YtpogpibjkolioaaGreatFpK14
import Derived.Test.YtpogpibjkolioaaGreatFpK1
import Derived.Test.YtpogpibjkolioaaGreatFpK4
import Derived.LoopTactic
import Derived.Outline
import Derived.WalkKit
import Derived.ProofKit
import Derived.Deep.LoopGhost
import Derived.Deep.Draws
import Derived.Deep.QuietTactic
import Derived.Deep.CutBlock
import Derived.Deep.RegionHeld3
import Derived.Deep.RegionLaw
import Derived.Deep.RegionWith
import Derived.Deep.DeepCutAuto
import Derived.Deep.DrawnRows
import Derived.WalkLawsBesides
import Derived.BigQuiet
set_option linter.unusedVariables false
set_option linter.unusedSimpArgs false
namespace Go.Proofs.YtpogpibjkolioaaGreat.Fb
open Go.RowKit Hp QuM QuN Rw Qu NumM NumC Po Fo FbM TpM Tp
attribute [local go_sem ↓] Go.wp_at_zero Go.wp_at_succ
variable {w0 w w' : World} {K : Cf} {a : Ad} {M : Mo}
theorem Bd.srv1 (hb : Bd K M) {p : Nat} {t : Int} {x : Bx} (hB : ∀ j, -1000000000 ≤ cB M.B x (-1) j ∧ cB M.B x (-1) j ≤ 1000000000) (hx : tkX (M.P p) t = some x) : Bd K (srv1 M p t x) := by
 refine ⟨hB, hb.l, fun q hq => ?_, hb.i⟩
 show (accL (upd M.P p (tkP (M.P p) t) q).ls (upd M.P p (tkP (M.P p) t) q).cr 9).length < 100000
 by_cases e : q = p
 ·subst e
  rw [upd_self]
  have h1 := wt_tk (fun _ => 1) hx
  have h2 := hb.n q hq
  rw [wt_one, wt_one] at h1
  omega
 ·rw [upd_ne _ _ e]
  exact hb.n q hq
def ServeF (w0 : World) (K : Cf) (a : Ad) (M : Mo) (w : World) (p : Nat) (t : Int) (x : Bx) (w' : World) : Prop :=
 ((nx K.H K.S p x.f.dst x.q).2 = true ∧ FabN w0 K a (srv2 M p t x x.f.dst.toNat) w w') ∨ ((nx K.H K.S p x.f.dst x.q).2 = false ∧ ∃ s c, FabN w0 K a (putM K (srv1 M p t x) (nx K.H K.S p x.f.dst x.q).1.toNat x s c) w w')
set_option maxRecDepth 100000 in
set_option maxHeartbeats 8000000 in
theorem serve_some (h : Fab w0 K a M w) (hb : Bd K M) {p : Nat} (hp : p < K.n) {t : Int} {x : Bx} (hx : tkX (M.P p) t = some x) (hg : Go K x) (hok : okAt K.H K.S p x.f.dst) (hB : ∀ j, -1000000000 ≤ cB M.B x (-1) j ∧ cB M.B x (-1) j ≤ 1000000000) :
  Calls Tryz.prog 10 #[ptr a.fb, .int .i64 (p : Nat), .int .i64 t] w fun e w' => e = .returned (.tuple #[.bool true, .int .i64 0]) ∧ ServeF w0 K a M w p t x w' := by
 have TK := Lib.hid (po_take (h.prt p hp) t (hb.n p hp))
 have PT := Lib.hid (port_yes h hp)
 rw [hx] at TK
 have HH := Lib.hid h
 have HBd := Lib.hid (hb.srv1 hB hx)
 have HBb := Lib.hid hb
 have HX := Lib.hid hx
 have HIn := Lib.hid (in_tkX hx)
 have HG := Lib.hid hg
 have HOK := Lib.hid (okAt_next h.cf.net hok x.q)
 have hbx := h.dat x (Or.inl ⟨p, hp, in_tkX hx⟩)
 have HDX := Lib.hid hbx
 have HIs : Hid (Is K M x) := Lib.hid (Or.inl ⟨p, hp, in_tkX hx⟩)
 unfold ServeF
 obtain ⟨d, hd⟩ := Int.eq_ofNat_of_zero_le hg.d.1
 have hdn : d < K.hn := by have := h.cf.hn; have := hg.d.2; omega
 clear h hb hx hok hB hbx hg
 obtain ⟨⟨x1, x2, x3, x4, x5, x6, x7, x8, x9, xd⟩, xa, xc, xq⟩ := x
 dsimp only at hd
 subst hd
 rw [Int.toNat_natCast]
 go_enter Tryz.func10, Tryz.ntmps10
 go_wp2_with fail
 with_reducible refine Calls.mono PT.out ?_
 rintro e w3 ⟨rfl, rfl⟩
 go_wp2_with fail
 with_reducible refine Calls.mono TK.out ?_
 rintro e w4 ⟨rfl, hT⟩
 obtain ⟨a1, f1, n1, q1, q2, q3, q4⟩ := HH.out.takeP hp hT
 have HF1 := Lib.hid f1
 have HN1 := Lib.hid n1
 have HQ := Lib.hid (And.intro q1 (And.intro q2 q3))
 have HAP := Lib.hid (q4 _ HIs.out)
 have HRow := Lib.hid (hT.1 _ HX.out)
 clear hT TK PT f1 n1 q1 q2 q3 q4
 dsimp only [tkA]
 go_upto_region 5 with fail
 have hO := Blk.new w4 [.int .i64 x1, .int .i64 x2, .int .i64 (d : Nat), .int .i64 x4, .int .u64 (x5 : Int), .int .i64 x6, .int .i64 x7, .int .i64 x8, .int .i64 x9, .slice xa xd.length xc, .int .i64 xq] 83
 have hkk := (Kept.refl (fun _ => False) w4).alloc (.cells [.int .i64 x1, .int .i64 x2, .int .i64 (d : Nat), .int .i64 x4, .int .u64 (x5 : Int), .int .i64 x6, .int .i64 x7, .int .i64 x8, .int .i64 x9, .slice xa xd.length xc, .int .i64 xq].toArray 83)
 dsimp only [List.toArray] at hO hkk
 have HK := Lib.hid hkk
 have HO := Lib.hid hO
 generalize w4.alloc (.cells #[.int .i64 x1, .int .i64 x2, .int .i64 (d : Nat), .int .i64 x4, .int .u64 (x5 : Int), .int .i64 x6, .int .i64 x7, .int .i64 x8, .int .i64 x9, .slice xa xd.length xc, .int .i64 xq] 83) = w5 at *
 obtain ⟨ob, hob⟩ : ∃ ob, w4.heap.size = ob := ⟨_, rfl⟩
 rw [hob] at hO HO
 simp only [hob]
 have HOE := Lib.hid hob
 clear hob hkk
 obtain ⟨e0, e1, e2, e3, e4, e5, e6, e7, e8, e9, e10⟩ := cs11 hO
 clear hO
 have CN := Lib.hid fun (w' : World) (kk : Kept (fun _ => False) w5 w') => cnt_any (x := ⟨⟨x1, x2, (d : Nat), x4, x5, x6, x7, x8, x9, xd⟩, xa, xc, xq⟩) (k := -1) ((HF1.out.old HK.out).old kk) HG.out.d HG.out.l (Or.inr rfl) HBb.out.b
 rw [HQ.out.1] at CN
 go_wp2_with fail
 with_reducible refine Calls.mono (CN.out _ (Kept.refl _ _)) ?_
 rintro e w6 ⟨rfl, hF6, hk6⟩
 have hob6 : ob ≠ a1.hb := by have := (HF1.out.bound (i := a1.hb) (Or.inr (Or.inr (Or.inr (Or.inl rfl))))).2; have := HOE.out; omega
 have hO6 := hk6.blk HO.out hob6
 have HF6 := Lib.hid hF6
 have HR6 : Hid (Byt.Row w6 w0.heap.size (.slice xa xd.length xc) xd) := Lib.hid ((HRow.out.kept HK.out (fun _ _ f => f)).kept hk6 (fun g hg e => by
  obtain ⟨cb, hb⟩ := byt_blk (HRow.out.kept HK.out (fun _ _ f => f)) hg
  obtain ⟨ch, hh, _⟩ := (HF1.out.old HK.out).hrow
  exact ne_blk hb hh (by decide) e))
 have HN6 : Hid (Qu.Next (ownA K a) w (ownA K a1) w6) := Lib.hid (nxt HN1.out ⟨(HK.out.mono (fun _ _ f => f.elim)).trans (hk6.mono (fun i _ e => Or.inr (Or.inr (Or.inr (Or.inl e))))), fun i hi => Or.inl hi⟩)
 have c0 := hF6.blk.cell (o := 0) rfl
 rw [HQ.out.1] at c0
 have NX := Lib.hid fun (w' : World) (kk : Kept (fun _ => False) w6 w') => (next_any (HF6.out.old kk).nv HF6.out.cf.net (p : Nat) (d : Nat) xq).mono fun _ _ ⟨e1, e2⟩ => And.intro e1 (kk.trans e2)
 have HO6 := Lib.hid hO6
 clear e0 e1 e2 e3 e4 e5 e6 e7 e8 e9 e10 CN hF6 hk6 HO
 obtain ⟨r0, r1, r2, r3, r4, r5, r6, r7, r8, r9, r10⟩ := cs11 hO6
 clear hO6
 have HS0 : Hid (∀ w', Kept (fun _ => False) w6 w' → w'.cell? ⟨a.fb, 0, none⟩ = some (ptr a1.nb) ∧ w'.cell? ⟨ob, 2, none⟩ = some (.int .i64 (d : Nat)) ∧ w'.cell? ⟨ob, 10, none⟩ = some (.int .i64 xq)) := Lib.hid fun w' kk => by
  have h1 := (HF6.out.old kk).blk.cell (o := 0) rfl
  rw [HQ.out.1] at h1
  have h2 := kk.blk HO6.out (fun f => f)
  exact ⟨h1, h2.cell (o := 2) rfl, h2.cell (o := 10) rfl⟩
 clear c0 r0 r1 r2 r3 r4 r5 r6 r7 r8 r9 r10
 go_upto_region 8 with fail
 go_region_held3 (fun w' => w'.cell? ⟨a.fb, 0, none⟩ = some (ptr a1.nb) ∧ w'.cell? ⟨ob, 2, none⟩ = some (.int .i64 (d : Nat)) ∧ w'.cell? ⟨ob, 10, none⟩ = some (.int .i64 xq)) ((refine HS0.out _ ?_; repeat (first | exact Kept.refl _ _ | assumption | (with_reducible refine Kept.drew ?_)))) ((go_at_call 40; (with_reducible refine Calls.mono (NX.out _ (by first | exact Kept.refl _ _ | exact (Kept.refl _ _).drew)) ?_); rintro e w7 ⟨rfl, hk7⟩))
 have HK7 := Lib.hid hk7
 have HF7 := Lib.hid (HF6.out.old hk7)
 have HO7 := Lib.hid (hk7.blk HO6.out (fun f => f))
 have HN7 : Hid (Qu.Next (ownA K a) w (ownA K a1) w7) := Lib.hid (nxt HN6.out ⟨hk7.mono (fun _ _ f => f.elim), fun i hi => Or.inl hi⟩)
 have HR7 : Hid (Byt.Row w7 w0.heap.size (.slice xa xd.length xc) xd) := Lib.hid (HR6.out.kept hk7 (fun _ _ f => f))
 clear hk7 HF6 HO6 HN6 HR6 NX HS0
 rcases HOK.out with ⟨hnx, _⟩ | ⟨hnx, hok⟩
 ·have HNX := Lib.hid hnx
  rw [hnx]
  clear hnx
  obtain ⟨c, Z, hz, hzl, hB, e0, e1, hR, hne, fin⟩ := HF7.out.inbox hdn
  have hil := HBb.out.i d hdn
  have IP := Lib.hid fun (w' : World) (kk : Kept (fun _ => False) w7 w') => iput_any (x := ⟨⟨x1, x2, (d : Nat), x4, x5, x6, x7, x8, x9, xd⟩, xa, xc, xq⟩) (b := a1.hb) (o := d * 3) (base := w0.heap.size) (kk.blk hB (fun f => f)) e0 (hR.old kk) (fun j e1 e2 => hne j e1 e2) (by rw [List.length_append]; have : (M.I d).length ≤ 50000 := hil; have h3 : Z.length ≤ (M.I d).length := hzl; show Z.length + (M.I d).length ≤ 100000; omega) (Nat.le_trans HF7.out.since.size kk.size)
  have HY := Lib.hid fun (w' : World) (kk : Kept (fun _ => False) w7 w') => host_yes (HF7.out.old kk) hdn
  rw [HQ.out.1] at HY
  have FIN := Lib.hid fin
  have HZ := Lib.hid (And.intro hz (And.intro hzl (And.intro e0 e1)))
  have HBh := Lib.hid hB
  clear hz hzl hB e0 e1 hR hne fin hil
  obtain ⟨r0, r1, r2, r3, r4, r5, r6, r7, r8, r9, r10⟩ := cs11 HO7.out
  go_upto_region 10 with fail
  go_region_with (first | (go_at_call 31; (with_reducible refine Calls.mono (HY.out _ (by first | exact Kept.refl _ _ | exact (Kept.refl _ _).drew)) ?_); rintro e w8 ⟨rfl, rfl⟩) | (go_at_call 41; (with_reducible refine Calls.mono (IP.out _ (by first | exact Kept.refl _ _ | exact (Kept.refl _ _).drew)) ?_); rintro e w8 ⟨rfl, v', hB8, hR8, hk8, hl8⟩))
  all_goals
   have R : Hid (FabN w0 K a (srv2 M p t ⟨⟨x1, x2, (d : Nat), x4, x5, x6, x7, x8, x9, xd⟩, xa, xc, xq⟩ d) w w8) := by
    have hk8' : Kept (fun i => i = a1.hb ∨ (a1.iv d).ownBlock = some i) w7 w8 := by first | exact hk8 | exact (Kept.refl _ w7).drew.trans hk8
    have hlen : d * 3 < c.length := (List.getElem?_eq_some_iff.1 HZ.out.2.2.1).1
    obtain ⟨g1, g2⟩ := FIN.out v' (c.set (d * 3) v') Z (M.I d ++ [⟨⟨x1, x2, (d : Nat), x4, x5, x6, x7, x8, x9, xd⟩, xa, xc, xq⟩]) w8 hB8 (fun i h1 h2 => List.getElem?_set_ne (Ne.symm h1)) (List.getElem?_set_self hlen) (by rw [List.getElem?_set_ne (by omega)]; exact HZ.out.2.2.2) (by rw [List.length_append]; have h3 : Z.length ≤ (M.I d).length := HZ.out.2.1; omega) (by rw [← List.append_assoc]; exact hR8) hk8' hl8 (fun y hy => by
     rcases List.mem_append.1 hy with hy | hy
     ·exact Or.inl hy
     ·rw [List.mem_singleton] at hy; subst hy
      exact Or.inr ⟨⟨HR7.out, HDX.out.2⟩, fun p' g hp' hg => HAP.out p' g hp' hg⟩)
    exact Lib.hid ⟨_, g1, nxt HN7.out g2, HQ.out.1⟩
   have HNX2 : Hid ((nx K.H K.S (p : Nat) (d : Nat) xq).2 = true) := Lib.hid (by rw [HNX.out])
   clear hB8 hR8 hk8 hl8 r0 r1 r2 r3 r4 r5 r6 r7 r8 r9 r10 IP HY FIN HBh
   go_wp2_with fail
   exact bodyPost_ret (v := .tuple #[.bool true, .int .i64 0]) (by simp [results, Tryz.results10, go_sem]) rfl ⟨rfl, Or.inl ⟨HNX2.out, by first | exact R.out | exact R.out.old (Kept.refl _ _).drew⟩⟩
 ·obtain ⟨q, hq⟩ := Int.eq_ofNat_of_zero_le hok.1
  have hqn : q < K.n := by have h1 := hok.2.1; have h2 := HF7.out.cf.n; rw [hq] at h1; omega
  have PU := Lib.hid fun (w' : World) (kk : Kept (fun _ => False) w7 w') => fput_any (p := q) (x := ⟨⟨x1, x2, (d : Nat), x4, x5, x6, x7, x8, x9, xd⟩, xa, xc, xq⟩) (M := srv1 M p t ⟨⟨x1, x2, (d : Nat), x4, x5, x6, x7, x8, x9, xd⟩, xa, xc, xq⟩) (HF7.out.old kk) HBd.out hqn ⟨(HR7.out.kept kk (fun _ _ f => f)).src, HDX.out.2.1⟩ HDX.out.2.2 HG.out
  rw [HQ.out.1] at PU
  have HNX := Lib.hid (And.intro hnx hq)
  rw [hnx, hq]
  clear hnx hok hq hqn
  obtain ⟨r0, r1, r2, r3, r4, r5, r6, r7, r8, r9, r10⟩ := cs11 HO7.out
  go_wp2_with fail
  with_reducible refine Calls.mono (PU.out _ (by first | exact Kept.refl _ _ | exact (Kept.refl _ _).drew)) ?_
  rintro e w8 ⟨rfl, s, c, a2, g1, g2, g3⟩
  have R : Hid (∃ s c, FabN w0 K a (putM K (srv1 M p t ⟨⟨x1, x2, (d : Nat), x4, x5, x6, x7, x8, x9, xd⟩, xa, xc, xq⟩) (nx K.H K.S (p : Nat) (d : Nat) xq).1.toNat ⟨⟨x1, x2, (d : Nat), x4, x5, x6, x7, x8, x9, xd⟩, xa, xc, xq⟩ s c) w w8) := by
   rw [HNX.out.2, Int.toNat_natCast]
   exact Lib.hid ⟨s, c, a2, g1, nxt HN7.out (by first | exact g2 | exact next_in (Kept.refl _ w7).drew g2), g3.trans HQ.out.1⟩
  clear g1 g2 g3 r0 r1 r2 r3 r4 r5 r6 r7 r8 r9 r10 PU
  go_wp2_with fail
  exact bodyPost_ret (v := .tuple #[.bool true, .int .i64 0]) (by simp [results, Tryz.results10, go_sem]) rfl ⟨rfl, Or.inr ⟨HNX.out.1, R.out⟩⟩
end Go.Proofs.YtpogpibjkolioaaGreat.Fb

/- Frames: one as a value, whether its numbers may be, its data's length, Size. Conditions: each theorem's own. -/
namespace Go.Proofs.YtpogpibjkolioaaGreat.Wr
open Go.RowKit Hp WrM
attribute [local go_sem ↓] Go.wp_at_zero Go.wp_at_succ
theorem within_yes {n m : Int} (h0 : 0 ≤ n) (h1 : n ≤ m) (w : World) : Calls Tryz.prog 84 #[.int .i64 n, .int .i64 m] w fun e w' => e = .returned (.bool true) ∧ w = w' := by
 go_enter Tryz.func84, Tryz.ntmps84
 go_wp2
 go_ret
 exact ⟨rfl, rfl⟩
theorem within_no {n m : Int} (h : ¬ (0 ≤ n ∧ n ≤ m)) (w : World) : Calls Tryz.prog 84 #[.int .i64 n, .int .i64 m] w fun e w' => e = .returned (.bool false) ∧ w = w' := by
 rcases Int.lt_or_le n 0 with h0 | h0
 ·have h2 : ¬ 0 ≤ n := by omega
  clear h
  go_enter Tryz.func84, Tryz.ntmps84
  go_wp2
  go_ret
  exact ⟨rfl, rfl⟩
 ·have h2 : ¬ n ≤ m := by omega
  clear h
  go_enter Tryz.func84, Tryz.ntmps84
  go_wp2
  go_ret
  exact ⟨rfl, rfl⟩
set_option maxHeartbeats 4000000 in
set_option maxRecDepth 100000 in
theorem fits_yes {f : Frm} (h : Fit f) (s : Option Addr) (c : Nat) (w : World) : Calls Tryz.prog 59 #[fv f s c] w (Ans w (.bool true)) := by
 obtain ⟨kind, src, dst, prio, msg, off, len, total, num, data⟩ := f
 obtain ⟨⟨k1, k2⟩, ⟨s1, s2⟩, ⟨d1, d2⟩, ⟨p1, p2⟩, m2, ⟨o1, o2⟩, ⟨t1, t2⟩, ⟨l1, l2⟩, ⟨n1, n2⟩⟩ := h
 dsimp only at *
 unfold fv fcs
 dsimp only
 have C1 := Lib.hid fun w => within_yes s1 s2 w
 have C2 := Lib.hid fun w => within_yes d1 d2 w
 have C3 := Lib.hid fun w => within_yes p1 p2 w
 have C4 := Lib.hid fun w => within_yes o1 o2 w
 have C5 := Lib.hid fun w => within_yes t1 t2 w
 have C6 := Lib.hid fun w => within_yes l1 l2 w
 have C7 := Lib.hid fun w => within_yes n1 n2 w
 have m3 : decide ((msg : Int) ≤ 1152921504606846976) = true := decide_eq_true (by omega)
 have k3 : decide ((1 : Int) ≤ kind) = true := decide_eq_true k1
 have k4 : decide (kind ≤ (12 : Int)) = true := decide_eq_true k2
 clear s1 s2 d1 d2 p1 p2 o1 o2 t1 t2 l1 l2 n1 n2 m2 k1 k2
 go_enter Tryz.func59, Tryz.ntmps59
 go_upto_region 1 with fail
 have hB : Blk (w.alloc (.cells #[.int .i64 kind, .int .i64 src, .int .i64 dst, .int .i64 prio, .int .u64 (msg : Int), .int .i64 off, .int .i64 len, .int .i64 total, .int .i64 num, .slice s data.length c] 35)) w.heap.size [.int .i64 kind, .int .i64 src, .int .i64 dst, .int .i64 prio, .int .u64 (msg : Int), .int .i64 off, .int .i64 len, .int .i64 total, .int .i64 num, .slice s data.length c] 35 := Blk.new w _ _
 have hk1 : Kept (fun _ => False) w (w.alloc (.cells #[.int .i64 kind, .int .i64 src, .int .i64 dst, .int .i64 prio, .int .u64 (msg : Int), .int .i64 off, .int .i64 len, .int .i64 total, .int .i64 num, .slice s data.length c] 35)) := (Kept.refl _ w).alloc _
 generalize w.alloc (.cells #[.int .i64 kind, .int .i64 src, .int .i64 dst, .int .i64 prio, .int .u64 (msg : Int), .int .i64 off, .int .i64 len, .int .i64 total, .int .i64 num, .slice s data.length c] 35) = w1 at *
 generalize w.heap.size = vb at *
 obtain ⟨e0, e1, e2, e3, e4, e5, e6, e7, e8⟩ := cs9 hB
 clear hB
 go_wp2_with (first | (go_at_call 84; with_reducible refine Calls.mono (C1.out _) ?_; rintro e w2 ⟨rfl, rfl⟩) | (go_at_call 84; with_reducible refine Calls.mono (C2.out _) ?_; rintro e w2 ⟨rfl, rfl⟩) | (go_at_call 84; with_reducible refine Calls.mono (C3.out _) ?_; rintro e w2 ⟨rfl, rfl⟩) | (go_at_call 84; with_reducible refine Calls.mono (C4.out _) ?_; rintro e w2 ⟨rfl, rfl⟩) | (go_at_call 84; with_reducible refine Calls.mono (C5.out _) ?_; rintro e w2 ⟨rfl, rfl⟩) | (go_at_call 84; with_reducible refine Calls.mono (C6.out _) ?_; rintro e w2 ⟨rfl, rfl⟩) | (go_at_call 84; with_reducible refine Calls.mono (C7.out _) ?_; rintro e w2 ⟨rfl, rfl⟩))
 go_ret
 exact ⟨rfl, hk1⟩
set_option maxHeartbeats 4000000 in
set_option maxRecDepth 100000 in
theorem fits_no {f : Frm} (h : ¬ Fit f) (s : Option Addr) (c : Nat) (w : World) : Calls Tryz.prog 59 #[fv f s c] w (Ans w (.bool false)) := by
 obtain ⟨kind, src, dst, prio, msg, off, len, total, num, data⟩ := f
 unfold Fit at h
 dsimp only at h
 unfold fv fcs
 dsimp only
 by_cases g0 : 1 ≤ kind
 rotate_left
 ·clear h
  have q0 : decide ((1 : Int) ≤ kind) = false := by rw [decide_eq_false_iff_not]; omega
  clear g0
  go_enter Tryz.func59, Tryz.ntmps59
  go_upto_region 1 with fail
  have hB : Blk (w.alloc (.cells #[.int .i64 kind, .int .i64 src, .int .i64 dst, .int .i64 prio, .int .u64 (msg : Int), .int .i64 off, .int .i64 len, .int .i64 total, .int .i64 num, .slice s data.length c] 35)) w.heap.size [.int .i64 kind, .int .i64 src, .int .i64 dst, .int .i64 prio, .int .u64 (msg : Int), .int .i64 off, .int .i64 len, .int .i64 total, .int .i64 num, .slice s data.length c] 35 := Blk.new w _ _
  have hk1 : Kept (fun _ => False) w (w.alloc (.cells #[.int .i64 kind, .int .i64 src, .int .i64 dst, .int .i64 prio, .int .u64 (msg : Int), .int .i64 off, .int .i64 len, .int .i64 total, .int .i64 num, .slice s data.length c] 35)) := (Kept.refl _ w).alloc _
  generalize w.alloc (.cells #[.int .i64 kind, .int .i64 src, .int .i64 dst, .int .i64 prio, .int .u64 (msg : Int), .int .i64 off, .int .i64 len, .int .i64 total, .int .i64 num, .slice s data.length c] 35) = w1 at *
  generalize w.heap.size = vb at *
  obtain ⟨e0, e1, e2, e3, e4, e5, e6, e7, e8⟩ := cs9 hB
  clear hB
  go_wp2_with fail
  go_ret
  exact ⟨rfl, hk1⟩
 by_cases g1 : kind ≤ 12
 rotate_left
 ·clear h
  have q0 : decide ((1 : Int) ≤ kind) = true := by exact decide_eq_true (by omega)
  have q1 : decide (kind ≤ (12 : Int)) = false := by rw [decide_eq_false_iff_not]; omega
  clear g0 g1
  go_enter Tryz.func59, Tryz.ntmps59
  go_upto_region 1 with fail
  have hB : Blk (w.alloc (.cells #[.int .i64 kind, .int .i64 src, .int .i64 dst, .int .i64 prio, .int .u64 (msg : Int), .int .i64 off, .int .i64 len, .int .i64 total, .int .i64 num, .slice s data.length c] 35)) w.heap.size [.int .i64 kind, .int .i64 src, .int .i64 dst, .int .i64 prio, .int .u64 (msg : Int), .int .i64 off, .int .i64 len, .int .i64 total, .int .i64 num, .slice s data.length c] 35 := Blk.new w _ _
  have hk1 : Kept (fun _ => False) w (w.alloc (.cells #[.int .i64 kind, .int .i64 src, .int .i64 dst, .int .i64 prio, .int .u64 (msg : Int), .int .i64 off, .int .i64 len, .int .i64 total, .int .i64 num, .slice s data.length c] 35)) := (Kept.refl _ w).alloc _
  generalize w.alloc (.cells #[.int .i64 kind, .int .i64 src, .int .i64 dst, .int .i64 prio, .int .u64 (msg : Int), .int .i64 off, .int .i64 len, .int .i64 total, .int .i64 num, .slice s data.length c] 35) = w1 at *
  generalize w.heap.size = vb at *
  obtain ⟨e0, e1, e2, e3, e4, e5, e6, e7, e8⟩ := cs9 hB
  clear hB
  go_wp2_with fail
  go_ret
  exact ⟨rfl, hk1⟩
 by_cases g2 : (0 ≤ src ∧ src ≤ 7)
 rotate_left
 ·clear h
  have q0 : decide ((1 : Int) ≤ kind) = true := by exact decide_eq_true (by omega)
  have q1 : decide (kind ≤ (12 : Int)) = true := by exact decide_eq_true (by omega)
  have C1 := Lib.hid fun w => within_no g2 w
  clear g0 g1 g2
  go_enter Tryz.func59, Tryz.ntmps59
  go_upto_region 1 with fail
  have hB : Blk (w.alloc (.cells #[.int .i64 kind, .int .i64 src, .int .i64 dst, .int .i64 prio, .int .u64 (msg : Int), .int .i64 off, .int .i64 len, .int .i64 total, .int .i64 num, .slice s data.length c] 35)) w.heap.size [.int .i64 kind, .int .i64 src, .int .i64 dst, .int .i64 prio, .int .u64 (msg : Int), .int .i64 off, .int .i64 len, .int .i64 total, .int .i64 num, .slice s data.length c] 35 := Blk.new w _ _
  have hk1 : Kept (fun _ => False) w (w.alloc (.cells #[.int .i64 kind, .int .i64 src, .int .i64 dst, .int .i64 prio, .int .u64 (msg : Int), .int .i64 off, .int .i64 len, .int .i64 total, .int .i64 num, .slice s data.length c] 35)) := (Kept.refl _ w).alloc _
  generalize w.alloc (.cells #[.int .i64 kind, .int .i64 src, .int .i64 dst, .int .i64 prio, .int .u64 (msg : Int), .int .i64 off, .int .i64 len, .int .i64 total, .int .i64 num, .slice s data.length c] 35) = w1 at *
  generalize w.heap.size = vb at *
  obtain ⟨e0, e1, e2, e3, e4, e5, e6, e7, e8⟩ := cs9 hB
  clear hB
  go_wp2_with (first | (go_at_call 84; with_reducible refine Calls.mono (C1.out _) ?_; rintro e w2 ⟨rfl, rfl⟩))
  go_ret
  exact ⟨rfl, hk1⟩
 by_cases g3 : (0 ≤ dst ∧ dst ≤ 7)
 rotate_left
 ·clear h
  have q0 : decide ((1 : Int) ≤ kind) = true := by exact decide_eq_true (by omega)
  have q1 : decide (kind ≤ (12 : Int)) = true := by exact decide_eq_true (by omega)
  have C1 := Lib.hid fun w => within_yes g2.1 g2.2 w
  have C2 := Lib.hid fun w => within_no g3 w
  clear g0 g1 g2 g3
  go_enter Tryz.func59, Tryz.ntmps59
  go_upto_region 1 with fail
  have hB : Blk (w.alloc (.cells #[.int .i64 kind, .int .i64 src, .int .i64 dst, .int .i64 prio, .int .u64 (msg : Int), .int .i64 off, .int .i64 len, .int .i64 total, .int .i64 num, .slice s data.length c] 35)) w.heap.size [.int .i64 kind, .int .i64 src, .int .i64 dst, .int .i64 prio, .int .u64 (msg : Int), .int .i64 off, .int .i64 len, .int .i64 total, .int .i64 num, .slice s data.length c] 35 := Blk.new w _ _
  have hk1 : Kept (fun _ => False) w (w.alloc (.cells #[.int .i64 kind, .int .i64 src, .int .i64 dst, .int .i64 prio, .int .u64 (msg : Int), .int .i64 off, .int .i64 len, .int .i64 total, .int .i64 num, .slice s data.length c] 35)) := (Kept.refl _ w).alloc _
  generalize w.alloc (.cells #[.int .i64 kind, .int .i64 src, .int .i64 dst, .int .i64 prio, .int .u64 (msg : Int), .int .i64 off, .int .i64 len, .int .i64 total, .int .i64 num, .slice s data.length c] 35) = w1 at *
  generalize w.heap.size = vb at *
  obtain ⟨e0, e1, e2, e3, e4, e5, e6, e7, e8⟩ := cs9 hB
  clear hB
  go_wp2_with (first | (go_at_call 84; with_reducible refine Calls.mono (C1.out _) ?_; rintro e w2 ⟨rfl, rfl⟩) | (go_at_call 84; with_reducible refine Calls.mono (C2.out _) ?_; rintro e w2 ⟨rfl, rfl⟩))
  go_ret
  exact ⟨rfl, hk1⟩
 by_cases g4 : (0 ≤ prio ∧ prio ≤ 7)
 rotate_left
 ·clear h
  have q0 : decide ((1 : Int) ≤ kind) = true := by exact decide_eq_true (by omega)
  have q1 : decide (kind ≤ (12 : Int)) = true := by exact decide_eq_true (by omega)
  have C1 := Lib.hid fun w => within_yes g2.1 g2.2 w
  have C2 := Lib.hid fun w => within_yes g3.1 g3.2 w
  have C3 := Lib.hid fun w => within_no g4 w
  clear g0 g1 g2 g3 g4
  go_enter Tryz.func59, Tryz.ntmps59
  go_upto_region 1 with fail
  have hB : Blk (w.alloc (.cells #[.int .i64 kind, .int .i64 src, .int .i64 dst, .int .i64 prio, .int .u64 (msg : Int), .int .i64 off, .int .i64 len, .int .i64 total, .int .i64 num, .slice s data.length c] 35)) w.heap.size [.int .i64 kind, .int .i64 src, .int .i64 dst, .int .i64 prio, .int .u64 (msg : Int), .int .i64 off, .int .i64 len, .int .i64 total, .int .i64 num, .slice s data.length c] 35 := Blk.new w _ _
  have hk1 : Kept (fun _ => False) w (w.alloc (.cells #[.int .i64 kind, .int .i64 src, .int .i64 dst, .int .i64 prio, .int .u64 (msg : Int), .int .i64 off, .int .i64 len, .int .i64 total, .int .i64 num, .slice s data.length c] 35)) := (Kept.refl _ w).alloc _
  generalize w.alloc (.cells #[.int .i64 kind, .int .i64 src, .int .i64 dst, .int .i64 prio, .int .u64 (msg : Int), .int .i64 off, .int .i64 len, .int .i64 total, .int .i64 num, .slice s data.length c] 35) = w1 at *
  generalize w.heap.size = vb at *
  obtain ⟨e0, e1, e2, e3, e4, e5, e6, e7, e8⟩ := cs9 hB
  clear hB
  go_wp2_with (first | (go_at_call 84; with_reducible refine Calls.mono (C1.out _) ?_; rintro e w2 ⟨rfl, rfl⟩) | (go_at_call 84; with_reducible refine Calls.mono (C2.out _) ?_; rintro e w2 ⟨rfl, rfl⟩) | (go_at_call 84; with_reducible refine Calls.mono (C3.out _) ?_; rintro e w2 ⟨rfl, rfl⟩))
  go_ret
  exact ⟨rfl, hk1⟩
 by_cases g5 : msg ≤ 1152921504606846976
 rotate_left
 ·clear h
  have q0 : decide ((1 : Int) ≤ kind) = true := by exact decide_eq_true (by omega)
  have q1 : decide (kind ≤ (12 : Int)) = true := by exact decide_eq_true (by omega)
  have C1 := Lib.hid fun w => within_yes g2.1 g2.2 w
  have C2 := Lib.hid fun w => within_yes g3.1 g3.2 w
  have C3 := Lib.hid fun w => within_yes g4.1 g4.2 w
  have q5 : decide ((msg : Int) ≤ 1152921504606846976) = false := by rw [decide_eq_false_iff_not]; omega
  clear g0 g1 g2 g3 g4 g5
  go_enter Tryz.func59, Tryz.ntmps59
  go_upto_region 1 with fail
  have hB : Blk (w.alloc (.cells #[.int .i64 kind, .int .i64 src, .int .i64 dst, .int .i64 prio, .int .u64 (msg : Int), .int .i64 off, .int .i64 len, .int .i64 total, .int .i64 num, .slice s data.length c] 35)) w.heap.size [.int .i64 kind, .int .i64 src, .int .i64 dst, .int .i64 prio, .int .u64 (msg : Int), .int .i64 off, .int .i64 len, .int .i64 total, .int .i64 num, .slice s data.length c] 35 := Blk.new w _ _
  have hk1 : Kept (fun _ => False) w (w.alloc (.cells #[.int .i64 kind, .int .i64 src, .int .i64 dst, .int .i64 prio, .int .u64 (msg : Int), .int .i64 off, .int .i64 len, .int .i64 total, .int .i64 num, .slice s data.length c] 35)) := (Kept.refl _ w).alloc _
  generalize w.alloc (.cells #[.int .i64 kind, .int .i64 src, .int .i64 dst, .int .i64 prio, .int .u64 (msg : Int), .int .i64 off, .int .i64 len, .int .i64 total, .int .i64 num, .slice s data.length c] 35) = w1 at *
  generalize w.heap.size = vb at *
  obtain ⟨e0, e1, e2, e3, e4, e5, e6, e7, e8⟩ := cs9 hB
  clear hB
  go_wp2_with (first | (go_at_call 84; with_reducible refine Calls.mono (C1.out _) ?_; rintro e w2 ⟨rfl, rfl⟩) | (go_at_call 84; with_reducible refine Calls.mono (C2.out _) ?_; rintro e w2 ⟨rfl, rfl⟩) | (go_at_call 84; with_reducible refine Calls.mono (C3.out _) ?_; rintro e w2 ⟨rfl, rfl⟩))
  go_ret
  exact ⟨rfl, hk1⟩
 by_cases g6 : (0 ≤ off ∧ off ≤ 1073741824)
 rotate_left
 ·clear h
  have q0 : decide ((1 : Int) ≤ kind) = true := by exact decide_eq_true (by omega)
  have q1 : decide (kind ≤ (12 : Int)) = true := by exact decide_eq_true (by omega)
  have C1 := Lib.hid fun w => within_yes g2.1 g2.2 w
  have C2 := Lib.hid fun w => within_yes g3.1 g3.2 w
  have C3 := Lib.hid fun w => within_yes g4.1 g4.2 w
  have q5 : decide ((msg : Int) ≤ 1152921504606846976) = true := by exact decide_eq_true (by omega)
  have C4 := Lib.hid fun w => within_no g6 w
  clear g0 g1 g2 g3 g4 g5 g6
  go_enter Tryz.func59, Tryz.ntmps59
  go_upto_region 1 with fail
  have hB : Blk (w.alloc (.cells #[.int .i64 kind, .int .i64 src, .int .i64 dst, .int .i64 prio, .int .u64 (msg : Int), .int .i64 off, .int .i64 len, .int .i64 total, .int .i64 num, .slice s data.length c] 35)) w.heap.size [.int .i64 kind, .int .i64 src, .int .i64 dst, .int .i64 prio, .int .u64 (msg : Int), .int .i64 off, .int .i64 len, .int .i64 total, .int .i64 num, .slice s data.length c] 35 := Blk.new w _ _
  have hk1 : Kept (fun _ => False) w (w.alloc (.cells #[.int .i64 kind, .int .i64 src, .int .i64 dst, .int .i64 prio, .int .u64 (msg : Int), .int .i64 off, .int .i64 len, .int .i64 total, .int .i64 num, .slice s data.length c] 35)) := (Kept.refl _ w).alloc _
  generalize w.alloc (.cells #[.int .i64 kind, .int .i64 src, .int .i64 dst, .int .i64 prio, .int .u64 (msg : Int), .int .i64 off, .int .i64 len, .int .i64 total, .int .i64 num, .slice s data.length c] 35) = w1 at *
  generalize w.heap.size = vb at *
  obtain ⟨e0, e1, e2, e3, e4, e5, e6, e7, e8⟩ := cs9 hB
  clear hB
  go_wp2_with (first | (go_at_call 84; with_reducible refine Calls.mono (C1.out _) ?_; rintro e w2 ⟨rfl, rfl⟩) | (go_at_call 84; with_reducible refine Calls.mono (C2.out _) ?_; rintro e w2 ⟨rfl, rfl⟩) | (go_at_call 84; with_reducible refine Calls.mono (C3.out _) ?_; rintro e w2 ⟨rfl, rfl⟩) | (go_at_call 84; with_reducible refine Calls.mono (C4.out _) ?_; rintro e w2 ⟨rfl, rfl⟩))
  go_ret
  exact ⟨rfl, hk1⟩
 by_cases g7 : (0 ≤ total ∧ total ≤ 1073741824)
 rotate_left
 ·clear h
  have q0 : decide ((1 : Int) ≤ kind) = true := by exact decide_eq_true (by omega)
  have q1 : decide (kind ≤ (12 : Int)) = true := by exact decide_eq_true (by omega)
  have C1 := Lib.hid fun w => within_yes g2.1 g2.2 w
  have C2 := Lib.hid fun w => within_yes g3.1 g3.2 w
  have C3 := Lib.hid fun w => within_yes g4.1 g4.2 w
  have q5 : decide ((msg : Int) ≤ 1152921504606846976) = true := by exact decide_eq_true (by omega)
  have C4 := Lib.hid fun w => within_yes g6.1 g6.2 w
  have C5 := Lib.hid fun w => within_no g7 w
  clear g0 g1 g2 g3 g4 g5 g6 g7
  go_enter Tryz.func59, Tryz.ntmps59
  go_upto_region 1 with fail
  have hB : Blk (w.alloc (.cells #[.int .i64 kind, .int .i64 src, .int .i64 dst, .int .i64 prio, .int .u64 (msg : Int), .int .i64 off, .int .i64 len, .int .i64 total, .int .i64 num, .slice s data.length c] 35)) w.heap.size [.int .i64 kind, .int .i64 src, .int .i64 dst, .int .i64 prio, .int .u64 (msg : Int), .int .i64 off, .int .i64 len, .int .i64 total, .int .i64 num, .slice s data.length c] 35 := Blk.new w _ _
  have hk1 : Kept (fun _ => False) w (w.alloc (.cells #[.int .i64 kind, .int .i64 src, .int .i64 dst, .int .i64 prio, .int .u64 (msg : Int), .int .i64 off, .int .i64 len, .int .i64 total, .int .i64 num, .slice s data.length c] 35)) := (Kept.refl _ w).alloc _
  generalize w.alloc (.cells #[.int .i64 kind, .int .i64 src, .int .i64 dst, .int .i64 prio, .int .u64 (msg : Int), .int .i64 off, .int .i64 len, .int .i64 total, .int .i64 num, .slice s data.length c] 35) = w1 at *
  generalize w.heap.size = vb at *
  obtain ⟨e0, e1, e2, e3, e4, e5, e6, e7, e8⟩ := cs9 hB
  clear hB
  go_wp2_with (first | (go_at_call 84; with_reducible refine Calls.mono (C1.out _) ?_; rintro e w2 ⟨rfl, rfl⟩) | (go_at_call 84; with_reducible refine Calls.mono (C2.out _) ?_; rintro e w2 ⟨rfl, rfl⟩) | (go_at_call 84; with_reducible refine Calls.mono (C3.out _) ?_; rintro e w2 ⟨rfl, rfl⟩) | (go_at_call 84; with_reducible refine Calls.mono (C4.out _) ?_; rintro e w2 ⟨rfl, rfl⟩) | (go_at_call 84; with_reducible refine Calls.mono (C5.out _) ?_; rintro e w2 ⟨rfl, rfl⟩))
  go_ret
  exact ⟨rfl, hk1⟩
 by_cases g8 : (0 ≤ len ∧ len ≤ 1500)
 rotate_left
 ·clear h
  have q0 : decide ((1 : Int) ≤ kind) = true := by exact decide_eq_true (by omega)
  have q1 : decide (kind ≤ (12 : Int)) = true := by exact decide_eq_true (by omega)
  have C1 := Lib.hid fun w => within_yes g2.1 g2.2 w
  have C2 := Lib.hid fun w => within_yes g3.1 g3.2 w
  have C3 := Lib.hid fun w => within_yes g4.1 g4.2 w
  have q5 : decide ((msg : Int) ≤ 1152921504606846976) = true := by exact decide_eq_true (by omega)
  have C4 := Lib.hid fun w => within_yes g6.1 g6.2 w
  have C5 := Lib.hid fun w => within_yes g7.1 g7.2 w
  have C6 := Lib.hid fun w => within_no g8 w
  clear g0 g1 g2 g3 g4 g5 g6 g7 g8
  go_enter Tryz.func59, Tryz.ntmps59
  go_upto_region 1 with fail
  have hB : Blk (w.alloc (.cells #[.int .i64 kind, .int .i64 src, .int .i64 dst, .int .i64 prio, .int .u64 (msg : Int), .int .i64 off, .int .i64 len, .int .i64 total, .int .i64 num, .slice s data.length c] 35)) w.heap.size [.int .i64 kind, .int .i64 src, .int .i64 dst, .int .i64 prio, .int .u64 (msg : Int), .int .i64 off, .int .i64 len, .int .i64 total, .int .i64 num, .slice s data.length c] 35 := Blk.new w _ _
  have hk1 : Kept (fun _ => False) w (w.alloc (.cells #[.int .i64 kind, .int .i64 src, .int .i64 dst, .int .i64 prio, .int .u64 (msg : Int), .int .i64 off, .int .i64 len, .int .i64 total, .int .i64 num, .slice s data.length c] 35)) := (Kept.refl _ w).alloc _
  generalize w.alloc (.cells #[.int .i64 kind, .int .i64 src, .int .i64 dst, .int .i64 prio, .int .u64 (msg : Int), .int .i64 off, .int .i64 len, .int .i64 total, .int .i64 num, .slice s data.length c] 35) = w1 at *
  generalize w.heap.size = vb at *
  obtain ⟨e0, e1, e2, e3, e4, e5, e6, e7, e8⟩ := cs9 hB
  clear hB
  go_wp2_with (first | (go_at_call 84; with_reducible refine Calls.mono (C1.out _) ?_; rintro e w2 ⟨rfl, rfl⟩) | (go_at_call 84; with_reducible refine Calls.mono (C2.out _) ?_; rintro e w2 ⟨rfl, rfl⟩) | (go_at_call 84; with_reducible refine Calls.mono (C3.out _) ?_; rintro e w2 ⟨rfl, rfl⟩) | (go_at_call 84; with_reducible refine Calls.mono (C4.out _) ?_; rintro e w2 ⟨rfl, rfl⟩) | (go_at_call 84; with_reducible refine Calls.mono (C5.out _) ?_; rintro e w2 ⟨rfl, rfl⟩) | (go_at_call 84; with_reducible refine Calls.mono (C6.out _) ?_; rintro e w2 ⟨rfl, rfl⟩))
  go_ret
  exact ⟨rfl, hk1⟩
 by_cases g9 : (0 ≤ num ∧ num ≤ 1073741824)
 rotate_left
 ·clear h
  have q0 : decide ((1 : Int) ≤ kind) = true := by exact decide_eq_true (by omega)
  have q1 : decide (kind ≤ (12 : Int)) = true := by exact decide_eq_true (by omega)
  have C1 := Lib.hid fun w => within_yes g2.1 g2.2 w
  have C2 := Lib.hid fun w => within_yes g3.1 g3.2 w
  have C3 := Lib.hid fun w => within_yes g4.1 g4.2 w
  have q5 : decide ((msg : Int) ≤ 1152921504606846976) = true := by exact decide_eq_true (by omega)
  have C4 := Lib.hid fun w => within_yes g6.1 g6.2 w
  have C5 := Lib.hid fun w => within_yes g7.1 g7.2 w
  have C6 := Lib.hid fun w => within_yes g8.1 g8.2 w
  have C7 := Lib.hid fun w => within_no g9 w
  clear g0 g1 g2 g3 g4 g5 g6 g7 g8 g9
  go_enter Tryz.func59, Tryz.ntmps59
  go_upto_region 1 with fail
  have hB : Blk (w.alloc (.cells #[.int .i64 kind, .int .i64 src, .int .i64 dst, .int .i64 prio, .int .u64 (msg : Int), .int .i64 off, .int .i64 len, .int .i64 total, .int .i64 num, .slice s data.length c] 35)) w.heap.size [.int .i64 kind, .int .i64 src, .int .i64 dst, .int .i64 prio, .int .u64 (msg : Int), .int .i64 off, .int .i64 len, .int .i64 total, .int .i64 num, .slice s data.length c] 35 := Blk.new w _ _
  have hk1 : Kept (fun _ => False) w (w.alloc (.cells #[.int .i64 kind, .int .i64 src, .int .i64 dst, .int .i64 prio, .int .u64 (msg : Int), .int .i64 off, .int .i64 len, .int .i64 total, .int .i64 num, .slice s data.length c] 35)) := (Kept.refl _ w).alloc _
  generalize w.alloc (.cells #[.int .i64 kind, .int .i64 src, .int .i64 dst, .int .i64 prio, .int .u64 (msg : Int), .int .i64 off, .int .i64 len, .int .i64 total, .int .i64 num, .slice s data.length c] 35) = w1 at *
  generalize w.heap.size = vb at *
  obtain ⟨e0, e1, e2, e3, e4, e5, e6, e7, e8⟩ := cs9 hB
  clear hB
  go_wp2_with (first | (go_at_call 84; with_reducible refine Calls.mono (C1.out _) ?_; rintro e w2 ⟨rfl, rfl⟩) | (go_at_call 84; with_reducible refine Calls.mono (C2.out _) ?_; rintro e w2 ⟨rfl, rfl⟩) | (go_at_call 84; with_reducible refine Calls.mono (C3.out _) ?_; rintro e w2 ⟨rfl, rfl⟩) | (go_at_call 84; with_reducible refine Calls.mono (C4.out _) ?_; rintro e w2 ⟨rfl, rfl⟩) | (go_at_call 84; with_reducible refine Calls.mono (C5.out _) ?_; rintro e w2 ⟨rfl, rfl⟩) | (go_at_call 84; with_reducible refine Calls.mono (C6.out _) ?_; rintro e w2 ⟨rfl, rfl⟩) | (go_at_call 84; with_reducible refine Calls.mono (C7.out _) ?_; rintro e w2 ⟨rfl, rfl⟩))
  go_ret
  exact ⟨rfl, hk1⟩
 exact absurd ⟨⟨g0, g1⟩, g2, g3, g4, g5, g6, g7, g8, g9⟩ h
set_option maxHeartbeats 4000000 in
set_option maxRecDepth 100000 in
theorem rng_yes {f : Frm} (hF : Fit f) (h : Rng f) (s : Option Addr) (c : Nat) (w : World) : Calls Tryz.prog 60 #[fv f s c] w (Ans w (.bool true)) := by
 obtain ⟨kind, src, dst, prio, msg, off, len, total, num, data⟩ := f
 obtain ⟨_, _, _, _, _, ⟨o1, o2⟩, ⟨t1, t2⟩, ⟨l1, l2⟩, _⟩ := hF
 unfold Rng at h
 dsimp only at *
 unfold fv fcs
 dsimp only
 have hw : IntKind.i64.wrap (off + len) = off + len := by rw [IntKind.wrap_i64]; omega
 by_cases hk : kind = 1 ∨ kind = 7
 rotate_left
 ·have h1 : (kind != 1) = true := by rw [bne_iff_ne]; omega
  have h2 : (kind != 7) = true := by rw [bne_iff_ne]; omega
  clear h hk o1 o2 t1 t2 l1 l2
  go_enter Tryz.func60, Tryz.ntmps60
  go_upto_region 1 with fail
  have hB : Blk (w.alloc (.cells #[.int .i64 kind, .int .i64 src, .int .i64 dst, .int .i64 prio, .int .u64 (msg : Int), .int .i64 off, .int .i64 len, .int .i64 total, .int .i64 num, .slice s data.length c] 35)) w.heap.size [.int .i64 kind, .int .i64 src, .int .i64 dst, .int .i64 prio, .int .u64 (msg : Int), .int .i64 off, .int .i64 len, .int .i64 total, .int .i64 num, .slice s data.length c] 35 := Blk.new w _ _
  have hk1 : Kept (fun _ => False) w (w.alloc (.cells #[.int .i64 kind, .int .i64 src, .int .i64 dst, .int .i64 prio, .int .u64 (msg : Int), .int .i64 off, .int .i64 len, .int .i64 total, .int .i64 num, .slice s data.length c] 35)) := (Kept.refl _ w).alloc _
  generalize w.alloc (.cells #[.int .i64 kind, .int .i64 src, .int .i64 dst, .int .i64 prio, .int .u64 (msg : Int), .int .i64 off, .int .i64 len, .int .i64 total, .int .i64 num, .slice s data.length c] 35) = w1 at *
  generalize w.heap.size = vb at *
  have e0 := hB.cell (o := 0) rfl
  clear hB
  go_wp2_with fail
  go_ret
  exact ⟨rfl, hk1⟩
 have hd : decide (off + len ≤ total) = true := by exact decide_eq_true (h hk)
 clear h o1 o2 t1 t2 l1 l2
 rcases hk with rfl | rfl
 ·go_enter Tryz.func60, Tryz.ntmps60
  go_upto_region 1 with fail
  have hB : Blk (w.alloc (.cells #[.int .i64 1, .int .i64 src, .int .i64 dst, .int .i64 prio, .int .u64 (msg : Int), .int .i64 off, .int .i64 len, .int .i64 total, .int .i64 num, .slice s data.length c] 35)) w.heap.size [.int .i64 1, .int .i64 src, .int .i64 dst, .int .i64 prio, .int .u64 (msg : Int), .int .i64 off, .int .i64 len, .int .i64 total, .int .i64 num, .slice s data.length c] 35 := Blk.new w _ _
  have hk1 : Kept (fun _ => False) w (w.alloc (.cells #[.int .i64 1, .int .i64 src, .int .i64 dst, .int .i64 prio, .int .u64 (msg : Int), .int .i64 off, .int .i64 len, .int .i64 total, .int .i64 num, .slice s data.length c] 35)) := (Kept.refl _ w).alloc _
  generalize w.alloc (.cells #[.int .i64 1, .int .i64 src, .int .i64 dst, .int .i64 prio, .int .u64 (msg : Int), .int .i64 off, .int .i64 len, .int .i64 total, .int .i64 num, .slice s data.length c] 35) = w1 at *
  generalize w.heap.size = vb at *
  have e0 := hB.cell (o := 0) rfl
  have e5 := hB.cell (o := 5) rfl
  have e6 := hB.cell (o := 6) rfl
  have e7 := hB.cell (o := 7) rfl
  clear hB
  go_wp2_with fail
  go_ret
  exact ⟨rfl, hk1⟩
 ·go_enter Tryz.func60, Tryz.ntmps60
  go_upto_region 1 with fail
  have hB : Blk (w.alloc (.cells #[.int .i64 7, .int .i64 src, .int .i64 dst, .int .i64 prio, .int .u64 (msg : Int), .int .i64 off, .int .i64 len, .int .i64 total, .int .i64 num, .slice s data.length c] 35)) w.heap.size [.int .i64 7, .int .i64 src, .int .i64 dst, .int .i64 prio, .int .u64 (msg : Int), .int .i64 off, .int .i64 len, .int .i64 total, .int .i64 num, .slice s data.length c] 35 := Blk.new w _ _
  have hk1 : Kept (fun _ => False) w (w.alloc (.cells #[.int .i64 7, .int .i64 src, .int .i64 dst, .int .i64 prio, .int .u64 (msg : Int), .int .i64 off, .int .i64 len, .int .i64 total, .int .i64 num, .slice s data.length c] 35)) := (Kept.refl _ w).alloc _
  generalize w.alloc (.cells #[.int .i64 7, .int .i64 src, .int .i64 dst, .int .i64 prio, .int .u64 (msg : Int), .int .i64 off, .int .i64 len, .int .i64 total, .int .i64 num, .slice s data.length c] 35) = w1 at *
  generalize w.heap.size = vb at *
  have e0 := hB.cell (o := 0) rfl
  have e5 := hB.cell (o := 5) rfl
  have e6 := hB.cell (o := 6) rfl
  have e7 := hB.cell (o := 7) rfl
  clear hB
  go_wp2_with fail
  go_ret
  exact ⟨rfl, hk1⟩
set_option maxHeartbeats 4000000 in
set_option maxRecDepth 100000 in
theorem rng_no {f : Frm} (hF : Fit f) (h : ¬ Rng f) (s : Option Addr) (c : Nat) (w : World) : Calls Tryz.prog 60 #[fv f s c] w (Ans w (.bool false)) := by
 obtain ⟨kind, src, dst, prio, msg, off, len, total, num, data⟩ := f
 obtain ⟨_, _, _, _, _, ⟨o1, o2⟩, ⟨t1, t2⟩, ⟨l1, l2⟩, _⟩ := hF
 unfold Rng at h
 dsimp only at *
 unfold fv fcs
 dsimp only
 have hw : IntKind.i64.wrap (off + len) = off + len := by rw [IntKind.wrap_i64]; omega
 have hk : kind = 1 ∨ kind = 7 := by omega
 have hd : decide (off + len ≤ total) = false := by rw [decide_eq_false_iff_not]; omega
 clear h o1 o2 t1 t2 l1 l2
 rcases hk with rfl | rfl
 ·go_enter Tryz.func60, Tryz.ntmps60
  go_upto_region 1 with fail
  have hB : Blk (w.alloc (.cells #[.int .i64 1, .int .i64 src, .int .i64 dst, .int .i64 prio, .int .u64 (msg : Int), .int .i64 off, .int .i64 len, .int .i64 total, .int .i64 num, .slice s data.length c] 35)) w.heap.size [.int .i64 1, .int .i64 src, .int .i64 dst, .int .i64 prio, .int .u64 (msg : Int), .int .i64 off, .int .i64 len, .int .i64 total, .int .i64 num, .slice s data.length c] 35 := Blk.new w _ _
  have hk1 : Kept (fun _ => False) w (w.alloc (.cells #[.int .i64 1, .int .i64 src, .int .i64 dst, .int .i64 prio, .int .u64 (msg : Int), .int .i64 off, .int .i64 len, .int .i64 total, .int .i64 num, .slice s data.length c] 35)) := (Kept.refl _ w).alloc _
  generalize w.alloc (.cells #[.int .i64 1, .int .i64 src, .int .i64 dst, .int .i64 prio, .int .u64 (msg : Int), .int .i64 off, .int .i64 len, .int .i64 total, .int .i64 num, .slice s data.length c] 35) = w1 at *
  generalize w.heap.size = vb at *
  have e0 := hB.cell (o := 0) rfl
  have e5 := hB.cell (o := 5) rfl
  have e6 := hB.cell (o := 6) rfl
  have e7 := hB.cell (o := 7) rfl
  clear hB
  go_wp2_with fail
  go_ret
  exact ⟨rfl, hk1⟩
 ·go_enter Tryz.func60, Tryz.ntmps60
  go_upto_region 1 with fail
  have hB : Blk (w.alloc (.cells #[.int .i64 7, .int .i64 src, .int .i64 dst, .int .i64 prio, .int .u64 (msg : Int), .int .i64 off, .int .i64 len, .int .i64 total, .int .i64 num, .slice s data.length c] 35)) w.heap.size [.int .i64 7, .int .i64 src, .int .i64 dst, .int .i64 prio, .int .u64 (msg : Int), .int .i64 off, .int .i64 len, .int .i64 total, .int .i64 num, .slice s data.length c] 35 := Blk.new w _ _
  have hk1 : Kept (fun _ => False) w (w.alloc (.cells #[.int .i64 7, .int .i64 src, .int .i64 dst, .int .i64 prio, .int .u64 (msg : Int), .int .i64 off, .int .i64 len, .int .i64 total, .int .i64 num, .slice s data.length c] 35)) := (Kept.refl _ w).alloc _
  generalize w.alloc (.cells #[.int .i64 7, .int .i64 src, .int .i64 dst, .int .i64 prio, .int .u64 (msg : Int), .int .i64 off, .int .i64 len, .int .i64 total, .int .i64 num, .slice s data.length c] 35) = w1 at *
  generalize w.heap.size = vb at *
  have e0 := hB.cell (o := 0) rfl
  have e5 := hB.cell (o := 5) rfl
  have e6 := hB.cell (o := 6) rfl
  have e7 := hB.cell (o := 7) rfl
  clear hB
  go_wp2_with fail
  go_ret
  exact ⟨rfl, hk1⟩
end Go.Proofs.YtpogpibjkolioaaGreat.Wr

