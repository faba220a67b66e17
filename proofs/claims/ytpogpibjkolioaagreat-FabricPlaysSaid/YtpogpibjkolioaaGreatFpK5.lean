/- A queue in memory: what is taken out, looked at, told. Conditions: each theorem's own. -/
import Derived.Test.YtpogpibjkolioaaGreatFpK4
import Derived.Test.YtpogpibjkolioaaGreatFpK1
import Derived.Laws.AppendOwn
import Derived.Laws.AppendOwnNone
import Derived.Laws.BytesArg
import Derived.Laws.IdiomStrings
import Derived.Maps.AppendAt
import Derived.Carry
set_option linter.unusedVariables false
set_option linter.unusedSimpArgs false
namespace Go.Proofs.YtpogpibjkolioaaGreat.Qu
open Go.RowKit Hp QuM QuN Rw
attribute [local go_sem ↓] Go.wp_at_zero Go.wp_at_succ
abbrev zB : Bx := ⟨⟨0, 0, 0, 0, 0, 0, 0, 0, 0, []⟩, none, 0, 0⟩
theorem map_erase (L : List Bx) (k : Nat) : (L.map it).eraseIdx k = (L.eraseIdx k).map it := by
 induction L generalizing k with
 | nil => rfl
 | cons x L ih =>
  cases k with
  | zero => rfl
  | succ k => rw [List.map_cons, List.eraseIdx_cons_succ, List.eraseIdx_cons_succ, List.map_cons, ih]
set_option maxRecDepth 100000 in
set_option maxHeartbeats 8000000 in
theorem qtake_any {w0 w : World} {b : Nat} {room : Int} {ls : Nat → List Bx} {F : Nat → Prop} (h : St w0 b room ls F w) {p k : Nat} {P K : Int} (hP : P = (p : Nat)) (hK : K = (k : Nat)) (hp : p < 8) {x : Bx} (hx : (ls p)[k]? = some x) (hl : (ls p).length ≤ 100000) :
  Calls Tryz.prog 91 #[.pointer (some ⟨b, 0, none⟩), .int .i64 P, .int .i64 K] w fun e w' => e = .returned (bv x) ∧ ∃ F', St w0 b room (upd ls p ((ls p).eraseIdx k)) F' w' ∧ Next F w F' w' := by
 subst hP
 subst hK
 obtain ⟨⟨x1, x2, x3, x4, x5, x6, x7, x8, x9, xd⟩, xa, xc, xq⟩ := x
 have hz := szI_in (nb ⟨⟨x1, x2, x3, x4, x5, x6, x7, x8, x9, xd⟩, xa, xc, xq⟩)
 have hn := tot_nonneg ls 8
 have htot : tot (upd ls p ((ls p).eraseIdx k)) 8 = tot ls 8 - szI (nb ⟨⟨x1, x2, x3, x4, x5, x6, x7, x8, x9, xd⟩, xa, xc, xq⟩) := by
  rw [tot_upd hp, sumB_erase hx]
  show tot ls 8 - sumB (ls p) + (sumB (ls p) - szI (nb ⟨⟨x1, x2, x3, x4, x5, x6, x7, x8, x9, xd⟩, xa, xc, xq⟩)) = _
  omega
 have hle : szI (nb ⟨⟨x1, x2, x3, x4, x5, x6, x7, x8, x9, xd⟩, xa, xc, xq⟩) ≤ tot ls 8 := by have := tot_nonneg (upd ls p ((ls p).eraseIdx k)) 8; omega
 have HH := Lib.hid h
 obtain ⟨h0, hr0, c, vs, fs, h1, h2, h3, h4⟩ := h
 have H1 := Lib.hid h1
 have H2 := Lib.hid h2
 have H3 := Lib.hid h3
 have TK := Lib.hid fun (w' : World) (hk : Kept (fun _ => False) w w') =>
  (show Calls Tryz.prog 100 #[.pointer (some ⟨b, 2 + p * 3, none⟩), .int .i64 (k : Nat)] w' (TakeP w' b (2 + p * 3) c tQ (vs p) (((ls p).map it).eraseIdx k) ((⟨⟨x1, x2, x3, x4, x5, x6, x7, x8, x9, xd⟩, xa, xc, xq⟩, szI (nb ⟨⟨x1, x2, x3, x4, x5, x6, x7, x8, x9, xd⟩, xa, xc, xq⟩)) : It)) from
   take_any (hk.blk h1.blk (fun f => f)) (h1.cv p hp) (h1.cf p hp) (by rw [List.length_map]; exact h1.cn p hp) tQ_ne ((h1.ring p hp).old hk) (by rw [List.length_map]; omega) (x := ((⟨⟨x1, x2, x3, x4, x5, x6, x7, x8, x9, xd⟩, xa, xc, xq⟩, szI (nb ⟨⟨x1, x2, x3, x4, x5, x6, x7, x8, x9, xd⟩, xa, xc, xq⟩)) : It)) (by rw [List.getElem?_map, hx]; rfl) rfl)
 rw [map_erase] at TK
 have hblt := h1.blk.lt
 have HT := Lib.hid htot
 have hp' : (p : Int) < 8 := by omega
 clear h0 h1 h2 h3 h4 htot hx hl
 obtain ⟨L', hL'⟩ : ∃ L', (ls p).eraseIdx k = L' := ⟨_, rfl⟩
 rw [hL'] at TK HT
 rw [hL']
 clear hL'
 obtain ⟨u, hu⟩ : ∃ u, tot ls 8 = u := ⟨_, rfl⟩
 have HU := Lib.hid hu
 rw [hu] at hn hr0 hle HT
 clear hu
 generalize szI (nb ⟨⟨x1, x2, x3, x4, x5, x6, x7, x8, x9, xd⟩, xa, xc, xq⟩) = s at *
 have hw2 : IntKind.i64.wrap (u - s) = u - s := by rw [IntKind.wrap_i64]; omega
 have hB1 := Blk.new w [.int .i64 0, .int .i64 0, .int .i64 0, .int .i64 0, .int .u64 0, .int .i64 0, .int .i64 0, .int .i64 0, .int .i64 0, .slice none 0 0, .int .i64 0] bT.E
 have hk1 : Kept (fun _ => False) w (w.alloc (.cells [.int .i64 0, .int .i64 0, .int .i64 0, .int .i64 0, .int .u64 0, .int .i64 0, .int .i64 0, .int .i64 0, .int .i64 0, .slice none 0 0, .int .i64 0].toArray bT.E)) := (Kept.refl _ w).alloc _
 have HB1 := Lib.hid hB1
 have HK1 := Lib.hid hk1
 dsimp only [List.toArray] at HB1 HK1
 clear hB1 hk1
 go_enter Tryz.func91, Tryz.ntmps91
 go_upto_region 1 with fail
 generalize w.alloc (.cells #[.int .i64 0, .int .i64 0, .int .i64 0, .int .i64 0, .int .u64 0, .int .i64 0, .int .i64 0, .int .i64 0, .int .i64 0, .slice none 0 0, .int .i64 0] 83) = w1 at *
 obtain ⟨rb, hrb⟩ : ∃ rb, w.heap.size = rb := ⟨_, rfl⟩
 rw [hrb] at HB1
 simp only [hrb]
 have HRB := Lib.hid hrb
 have hrbb : rb ≠ b := by omega
 clear hrb
 go_wp2_with fail
 with_reducible refine Calls.mono (TK.out _ HK1.out) ?_
 rintro e w2 ⟨rfl, v', f', hB2, hR2, ho2, hk2⟩
 have HRV : ∀ g, (vs p).ownBlock = some g → g ≠ rb := fun g e e2 => by have := ((H1.out.ring p hp).lt g e).1; have := HRB.out; omega
 have hr2 := hk2.blk HB1.out (fun e => e.elim hrbb (fun e => HRV _ e rfl))
 have k2 : Kept (fun i => i = b ∨ (vs p).ownBlock = some i) w w2 := (HK1.out.mono (fun _ _ f => f.elim)).trans hk2
 have ho2' : ∀ g, v'.ownBlock = some g → (vs p).ownBlock = some g ∨ w.heap.size ≤ g := fun g e => (ho2 g e).imp id (fun h => Nat.le_trans HK1.out.size h)
 have Q2 := Lib.hid (QuV.turn H1.out hp (L' := L') hB2 (by rw [List.length_map]) hR2 ho2' k2)
 rw [HU.out] at Q2
 have HK2 := Lib.hid k2
 have HO2 := Lib.hid ho2'
 have HR2 := Lib.hid hr2
 clear hB2 hR2 ho2 hk2 ho2' k2 hr2 TK HB1
 have hB3 := Blk.new w2 [.int .i64 x1, .int .i64 x2, .int .i64 x3, .int .i64 x4, .int .u64 (x5 : Int), .int .i64 x6, .int .i64 x7, .int .i64 x8, .int .i64 x9, .slice xa xd.length xc, .int .i64 xq, .int .i64 s] iT.E
 have hk3 : Kept (fun _ => False) w2 (w2.alloc (.cells [.int .i64 x1, .int .i64 x2, .int .i64 x3, .int .i64 x4, .int .u64 (x5 : Int), .int .i64 x6, .int .i64 x7, .int .i64 x8, .int .i64 x9, .slice xa xd.length xc, .int .i64 xq, .int .i64 s].toArray iT.E)) := (Kept.refl _ w2).alloc _
 have Q3 := Lib.hid (Q2.out.old hk3)
 have HR3 := Lib.hid (hk3.blk HR2.out (fun f => f))
 have HK3 := Lib.hid (HK2.out.trans (hk3.mono (fun _ _ f => f.elim)))
 have HOB := Lib.hid hB3
 dsimp only [List.toArray] at Q3 HR3 HK3 HOB
 have hob1 := HR2.out.lt
 have hob2 := Q2.out.blk.lt
 clear hB3 hk3 Q2 HR2 HK2
 go_upto_region 2 with fail
 generalize w2.alloc (.cells #[.int .i64 x1, .int .i64 x2, .int .i64 x3, .int .i64 x4, .int .u64 (x5 : Int), .int .i64 x6, .int .i64 x7, .int .i64 x8, .int .i64 x9, .slice xa xd.length xc, .int .i64 xq, .int .i64 s] 161) = w3 at *
 obtain ⟨ob, hob⟩ : ∃ ob, w2.heap.size = ob := ⟨_, rfl⟩
 rw [hob] at HOB
 simp only [hob]
 have hobb : ob ≠ b := by omega
 have hobr : ob ≠ rb := by omega
 clear hob
 have q1 := Q3.out.blk.cell Q3.out.c1
 have f1 := Q3.out.blk.frozen 1
 obtain ⟨o0, o1, o2, o3, o4, o5, o6, o7, o8, o9, o10, o11⟩ := cs12 HOB.out
 go_region_with (fail)
 all_goals
  have Q5 := (Q3.out.use (u - s)).old (Kept.refl (fun _ => False) _).drew
  have k35 : Kept (fun i => i = b) w3 (w3.setCell ⟨b, 1, none⟩ (.int .i64 (u - s))).drew := (Kept.one w3 b 1 _).drew
  have hr5 := k35.blk HR3.out (fun e => hrbb e)
  have ho5 := k35.blk HOB.out (fun e => hobb e)
  have k05 := HK3.out.trans (k35.mono (fun _ _ e => Or.inl e))
  clear q1 f1 o0 o1 o2 o3 o4 o5 o6 o7 o8 o9 o10 o11
  generalize (w3.setCell ⟨b, 1, none⟩ (.int .i64 (u - s))).drew = w5 at *
  obtain ⟨o0, o1, o2, o3, o4, o5, o6, o7, o8, o9, o10⟩ := cs11 ho5
  obtain ⟨e0, e1, e2, e3, e4, e5, e6, e7, e8, e9, e10⟩ := cs11 hr5
  obtain ⟨fz0, fz1, fz2, fz3, fz4, fz5, fz6, fz7, fz8, fz9, fz10⟩ := fz11 hr5
  have hr6 := ((((((((((hr5.set 0 (.int .i64 x1)).set 1 (.int .i64 x2)).set 2 (.int .i64 x3)).set 3 (.int .i64 x4)).set 4 (.int .u64 (x5 : Int))).set 5 (.int .i64 x6)).set 6 (.int .i64 x7)).set 7 (.int .i64 x8)).set 8 (.int .i64 x9)).set 9 (.slice xa xd.length xc)).set 10 (.int .i64 xq)
  have k56 : Kept (fun i => i = rb) w5 (((((((((((w5.setCell ⟨rb, 0, none⟩ (.int .i64 x1)).setCell ⟨rb, 1, none⟩ (.int .i64 x2)).setCell ⟨rb, 2, none⟩ (.int .i64 x3)).setCell ⟨rb, 3, none⟩ (.int .i64 x4)).setCell ⟨rb, 4, none⟩ (.int .u64 (x5 : Int))).setCell ⟨rb, 5, none⟩ (.int .i64 x6)).setCell ⟨rb, 6, none⟩ (.int .i64 x7)).setCell ⟨rb, 7, none⟩ (.int .i64 x8)).setCell ⟨rb, 8, none⟩ (.int .i64 x9)).setCell ⟨rb, 9, none⟩ (.slice xa xd.length xc)).setCell ⟨rb, 10, none⟩ (.int .i64 xq)) :=
   (((((((((((Kept.refl (fun i => i = rb) w5).set (b := rb) (fun _ => rfl) _ _).set (b := rb) (fun _ => rfl) _ _).set (b := rb) (fun _ => rfl) _ _).set (b := rb) (fun _ => rfl) _ _).set (b := rb) (fun _ => rfl) _ _).set (b := rb) (fun _ => rfl) _ _).set (b := rb) (fun _ => rfl) _ _).set (b := rb) (fun _ => rfl) _ _).set (b := rb) (fun _ => rfl) _ _).set (b := rb) (fun _ => rfl) _ _).set (b := rb) (fun _ => rfl) _ _
  have Q6 := Q5.kept k56 (fun e => hrbb e.symm) (fun j g hj hg e => by
   have e2 : g = rb := e
   subst e2
   obtain ⟨_, c', h⟩ := (Q5.ring j hj).lt g hg
   exact absurd (h.inj hr5).2 (by decide))
  rw [← HT.out] at Q6
  have R : Hid (∃ F', St w0 b room (upd ls p L') F' (((((((((((w5.setCell ⟨rb, 0, none⟩ (.int .i64 x1)).setCell ⟨rb, 1, none⟩ (.int .i64 x2)).setCell ⟨rb, 2, none⟩ (.int .i64 x3)).setCell ⟨rb, 3, none⟩ (.int .i64 x4)).setCell ⟨rb, 4, none⟩ (.int .u64 (x5 : Int))).setCell ⟨rb, 5, none⟩ (.int .i64 x6)).setCell ⟨rb, 6, none⟩ (.int .i64 x7)).setCell ⟨rb, 7, none⟩ (.int .i64 x8)).setCell ⟨rb, 8, none⟩ (.int .i64 x9)).setCell ⟨rb, 9, none⟩ (.slice xa xd.length xc)).setCell ⟨rb, 10, none⟩ (.int .i64 xq)) ∧ Next F w F' (((((((((((w5.setCell ⟨rb, 0, none⟩ (.int .i64 x1)).setCell ⟨rb, 1, none⟩ (.int .i64 x2)).setCell ⟨rb, 2, none⟩ (.int .i64 x3)).setCell ⟨rb, 3, none⟩ (.int .i64 x4)).setCell ⟨rb, 4, none⟩ (.int .u64 (x5 : Int))).setCell ⟨rb, 5, none⟩ (.int .i64 x6)).setCell ⟨rb, 6, none⟩ (.int .i64 x7)).setCell ⟨rb, 7, none⟩ (.int .i64 x8)).setCell ⟨rb, 8, none⟩ (.int .i64 x9)).setCell ⟨rb, 9, none⟩ (.slice xa xd.length xc)).setCell ⟨rb, 10, none⟩ (.int .i64 xq))) := by
   refine Lib.hid (St.nx HH.out ?_ (by rw [HT.out]; omega) Q6 ?_)
   ·refine (k05.mono (G := F) (fun i _ e => e.elim (fun e => e ▸ H2.out) (H3.out p i hp))).trans' k56 (fun i hi e => ?_)
    have := HRB.out
    omega
   ·intro j g hj hg
    by_cases e : j = p
    ·subst e
     rw [upd_self] at hg
     exact (HO2.out g hg).imp (H3.out j g hj) id
    ·rw [upd_ne vs v' e] at hg
     exact Or.inl (H3.out j g hj hg)
  obtain ⟨z0, z1, z2, z3, z4, z5, z6, z7, z8, z9, z10⟩ := cs11 hr6
  clear Q5 Q6 k05 k35 k56 hr5 ho5 hr6 Q3 HR3 HK3 HOB
  go_wp2_with fail
  exact bodyPost_ret (v := bv (⟨⟨x1, x2, x3, x4, x5, x6, x7, x8, x9, xd⟩, xa, xc, xq⟩ : Bx)) (by simp [results, Tryz.results91, go_sem, z0, z1, z2, z3, z4, z5, z6, z7, z8, z9, z10]) rfl ⟨rfl, R.out⟩
theorem highest_none {w0 w : World} {b : Nat} {room : Int} {ls : Nat → List Bx} {F : Nat → Prop} (h : St w0 b room ls F w) (ht : top ls 8 = none) :
  Calls Tryz.prog 90 #[.pointer (some ⟨b, 0, none⟩)] w fun e w' => e = .returned (.tuple #[.int .i64 0, .bool false]) ∧ w = w' := by
 have := highest_any h
 rw [ht] at this
 exact this
theorem highest_some {w0 w : World} {b : Nat} {room : Int} {ls : Nat → List Bx} {F : Nat → Prop} (h : St w0 b room ls F w) {p : Nat} (ht : top ls 8 = some p) :
  Calls Tryz.prog 90 #[.pointer (some ⟨b, 0, none⟩)] w fun e w' => e = .returned (.tuple #[.int .i64 (p : Nat), .bool true]) ∧ w = w' := by
 have := highest_any h
 rw [ht] at this
 exact this
theorem pop_off {q : Option Addr} {w : World} (hG : ∀ w', Kept (fun _ => False) w w' → Calls Tryz.prog 90 #[.pointer q] w' fun e w'' => e = .returned (.tuple #[.int .i64 0, .bool false]) ∧ w' = w'') :
  Calls Tryz.prog 69 #[.pointer q] w fun e w' => e = .returned (.tuple #[bv zB, .int .i64 0, .bool false]) ∧ Kept (fun _ => False) w w' := by
 have HG := Lib.hid hG
 have hB1 := Blk.new w [.int .i64 0, .int .i64 0, .int .i64 0, .int .i64 0, .int .u64 0, .int .i64 0, .int .i64 0, .int .i64 0, .int .i64 0, .slice none 0 0, .int .i64 0] bT.E
 have hk1 : Kept (fun _ => False) w (w.alloc (.cells [.int .i64 0, .int .i64 0, .int .i64 0, .int .i64 0, .int .u64 0, .int .i64 0, .int .i64 0, .int .i64 0, .int .i64 0, .slice none 0 0, .int .i64 0].toArray bT.E)) := (Kept.refl _ w).alloc _
 have HB1 := Lib.hid hB1
 have HK1 := Lib.hid hk1
 dsimp only [List.toArray] at HB1 HK1
 clear hB1 hk1 hG
 go_enter Tryz.func69, Tryz.ntmps69
 go_upto_region 1 with fail
 generalize w.alloc (.cells #[.int .i64 0, .int .i64 0, .int .i64 0, .int .i64 0, .int .u64 0, .int .i64 0, .int .i64 0, .int .i64 0, .int .i64 0, .slice none 0 0, .int .i64 0] 83) = w1 at *
 obtain ⟨rb, hrb⟩ : ∃ rb, w.heap.size = rb := ⟨_, rfl⟩
 rw [hrb] at HB1
 simp only [hrb]
 have HRB := Lib.hid hrb
 clear hrb
 go_wp2_with fail
 with_reducible refine Calls.mono (HG.out _ HK1.out) ?_
 rintro e w2 ⟨rfl, rfl⟩
 have hB2 := Blk.new w1 [.int .i64 0, .int .i64 0, .int .i64 0, .int .i64 0, .int .u64 0, .int .i64 0, .int .i64 0, .int .i64 0, .int .i64 0, .slice none 0 0, .int .i64 0] bT.E
 have hk2 : Kept (fun _ => False) w1 (w1.alloc (.cells [.int .i64 0, .int .i64 0, .int .i64 0, .int .i64 0, .int .u64 0, .int .i64 0, .int .i64 0, .int .i64 0, .int .i64 0, .slice none 0 0, .int .i64 0].toArray bT.E)) := (Kept.refl _ w1).alloc _
 have hr2 := hk2.blk HB1.out (fun f => f)
 have HK2 := Lib.hid (HK1.out.trans hk2)
 dsimp only [List.toArray] at hB2 hr2 HK2
 go_upto_region 4 with fail
 generalize w1.alloc (.cells #[.int .i64 0, .int .i64 0, .int .i64 0, .int .i64 0, .int .u64 0, .int .i64 0, .int .i64 0, .int .i64 0, .int .i64 0, .slice none 0 0, .int .i64 0] 83) = w2 at *
 generalize w1.heap.size = zb at *
 obtain ⟨t0, t1, t2, t3, t4, t5, t6, t7, t8, t9, t10⟩ := cs11 hB2
 obtain ⟨e0, e1, e2, e3, e4, e5, e6, e7, e8, e9, e10⟩ := cs11 hr2
 obtain ⟨fz0, fz1, fz2, fz3, fz4, fz5, fz6, fz7, fz8, fz9, fz10⟩ := fz11 hr2
 have hr3 := ((((((((((hr2.set 0 (.int .i64 0)).set 1 (.int .i64 0)).set 2 (.int .i64 0)).set 3 (.int .i64 0)).set 4 (.int .u64 0)).set 5 (.int .i64 0)).set 6 (.int .i64 0)).set 7 (.int .i64 0)).set 8 (.int .i64 0)).set 9 (.slice none 0 0)).set 10 (.int .i64 0)
 obtain ⟨z0, z1, z2, z3, z4, z5, z6, z7, z8, z9, z10⟩ := cs11 hr3
 have R : Hid (Kept (fun _ => False) w (((((((((((w2.setCell ⟨rb, 0, none⟩ (.int .i64 0)).setCell ⟨rb, 1, none⟩ (.int .i64 0)).setCell ⟨rb, 2, none⟩ (.int .i64 0)).setCell ⟨rb, 3, none⟩ (.int .i64 0)).setCell ⟨rb, 4, none⟩ (.int .u64 0)).setCell ⟨rb, 5, none⟩ (.int .i64 0)).setCell ⟨rb, 6, none⟩ (.int .i64 0)).setCell ⟨rb, 7, none⟩ (.int .i64 0)).setCell ⟨rb, 8, none⟩ (.int .i64 0)).setCell ⟨rb, 9, none⟩ (.slice none 0 0)).setCell ⟨rb, 10, none⟩ (.int .i64 0))) :=
  Lib.hid (((((((((((HK2.out.set (b := rb) (fun h => by have := HRB.out; omega) _ _).set (b := rb) (fun h => by have := HRB.out; omega) _ _).set (b := rb) (fun h => by have := HRB.out; omega) _ _).set (b := rb) (fun h => by have := HRB.out; omega) _ _).set (b := rb) (fun h => by have := HRB.out; omega) _ _).set (b := rb) (fun h => by have := HRB.out; omega) _ _).set (b := rb) (fun h => by have := HRB.out; omega) _ _).set (b := rb) (fun h => by have := HRB.out; omega) _ _).set (b := rb) (fun h => by have := HRB.out; omega) _ _).set (b := rb) (fun h => by have := HRB.out; omega) _ _).set (b := rb) (fun h => by have := HRB.out; omega) _ _)
 clear hB2 hk2 hr2 hr3 HG
 go_wp2_with fail
 exact bodyPost_ret (v := .tuple #[bv zB, .int .i64 0, .bool false]) (by simp [results, Tryz.results69, go_sem, z0, z1, z2, z3, z4, z5, z6, z7, z8, z9, z10]) rfl ⟨rfl, R.out⟩
theorem pop_none {w0 w : World} {b : Nat} {room : Int} {ls : Nat → List Bx} {F : Nat → Prop} (h : St w0 b room ls F w) (ht : top ls 8 = none) :
  Calls Tryz.prog 69 #[.pointer (some ⟨b, 0, none⟩)] w fun e w' => e = .returned (.tuple #[bv zB, .int .i64 0, .bool false]) ∧ Kept (fun _ => False) w w' :=
 pop_off fun w' hk => highest_none (h.old hk) ht
set_option maxHeartbeats 4000000 in
theorem pop_some {w0 w : World} {b : Nat} {room : Int} {ls : Nat → List Bx} {F : Nat → Prop} (h : St w0 b room ls F w) {p : Nat} (ht : top ls 8 = some p) {x : Bx} {L' : List Bx} (hx : ls p = x :: L') (hl : (ls p).length ≤ 100000) :
  Calls Tryz.prog 69 #[.pointer (some ⟨b, 0, none⟩)] w fun e w' => e = .returned (.tuple #[bv x, .int .i64 (p : Nat), .bool true]) ∧ ∃ F', St w0 b room (upd ls p L') F' w' ∧ Next F w F' w' := by
 obtain ⟨⟨x1, x2, x3, x4, x5, x6, x7, x8, x9, xd⟩, xa, xc, xq⟩ := x
 have hp := (top_some ht).1
 have HG := Lib.hid fun (w' : World) (hk : Kept (fun _ => False) w w') => highest_some (h.old hk) ht
 have TK := Lib.hid fun (w' : World) (hk : Kept (fun _ => False) w w') => qtake_any (k := 0) (K := 0) (P := (p : Nat)) (h.old hk) rfl rfl hp (x := (⟨⟨x1, x2, x3, x4, x5, x6, x7, x8, x9, xd⟩, xa, xc, xq⟩ : Bx)) (by rw [hx]; rfl) hl
 rw [show (ls p).eraseIdx 0 = L' by rw [hx]; rfl] at TK
 have H0 := Lib.hid h
 have hB1 := Blk.new w [.int .i64 0, .int .i64 0, .int .i64 0, .int .i64 0, .int .u64 0, .int .i64 0, .int .i64 0, .int .i64 0, .int .i64 0, .slice none 0 0, .int .i64 0] bT.E
 have hk1 : Kept (fun _ => False) w (w.alloc (.cells [.int .i64 0, .int .i64 0, .int .i64 0, .int .i64 0, .int .u64 0, .int .i64 0, .int .i64 0, .int .i64 0, .int .i64 0, .slice none 0 0, .int .i64 0].toArray bT.E)) := (Kept.refl _ w).alloc _
 have HB1 := Lib.hid hB1
 have HK1 := Lib.hid hk1
 dsimp only [List.toArray] at HB1 HK1
 clear hB1 hk1 hx hl ht h
 go_enter Tryz.func69, Tryz.ntmps69
 go_upto_region 1 with fail
 generalize w.alloc (.cells #[.int .i64 0, .int .i64 0, .int .i64 0, .int .i64 0, .int .u64 0, .int .i64 0, .int .i64 0, .int .i64 0, .int .i64 0, .slice none 0 0, .int .i64 0] 83) = w1 at *
 obtain ⟨rb, hrb⟩ : ∃ rb, w.heap.size = rb := ⟨_, rfl⟩
 rw [hrb] at HB1
 simp only [hrb]
 have HRB := Lib.hid hrb
 clear hrb
 go_wp2_with fail
 with_reducible refine Calls.mono (HG.out _ HK1.out) ?_
 rintro e w2 ⟨rfl, rfl⟩
 go_wp2_with fail
 with_reducible refine Calls.mono (TK.out _ HK1.out) ?_
 rintro e w2 ⟨rfl, F', hS2, hN2⟩
 have hrF : ¬ F rb := fun e => by have := (H0.out.own rb e).2; have := HRB.out; omega
 have hr2 := hN2.1.blk HB1.out hrF
 have hrF' : ¬ F' rb := fun e => (hN2.2 rb e).elim hrF (fun h => by have := HB1.out.lt; omega)
 obtain ⟨e0, e1, e2, e3, e4, e5, e6, e7, e8, e9, e10⟩ := cs11 hr2
 obtain ⟨fz0, fz1, fz2, fz3, fz4, fz5, fz6, fz7, fz8, fz9, fz10⟩ := fz11 hr2
 have hr3 := ((((((((((hr2.set 0 (.int .i64 x1)).set 1 (.int .i64 x2)).set 2 (.int .i64 x3)).set 3 (.int .i64 x4)).set 4 (.int .u64 (x5 : Int))).set 5 (.int .i64 x6)).set 6 (.int .i64 x7)).set 7 (.int .i64 x8)).set 8 (.int .i64 x9)).set 9 (.slice xa xd.length xc)).set 10 (.int .i64 xq)
 obtain ⟨z0, z1, z2, z3, z4, z5, z6, z7, z8, z9, z10⟩ := cs11 hr3
 have k3 : Kept (fun i => i = rb) w2 (((((((((((w2.setCell ⟨rb, 0, none⟩ (.int .i64 x1)).setCell ⟨rb, 1, none⟩ (.int .i64 x2)).setCell ⟨rb, 2, none⟩ (.int .i64 x3)).setCell ⟨rb, 3, none⟩ (.int .i64 x4)).setCell ⟨rb, 4, none⟩ (.int .u64 (x5 : Int))).setCell ⟨rb, 5, none⟩ (.int .i64 x6)).setCell ⟨rb, 6, none⟩ (.int .i64 x7)).setCell ⟨rb, 7, none⟩ (.int .i64 x8)).setCell ⟨rb, 8, none⟩ (.int .i64 x9)).setCell ⟨rb, 9, none⟩ (.slice xa xd.length xc)).setCell ⟨rb, 10, none⟩ (.int .i64 xq)) :=
  (((((((((((Kept.refl (fun i => i = rb) w2).set (b := rb) (fun _ => rfl) _ _).set (b := rb) (fun _ => rfl) _ _).set (b := rb) (fun _ => rfl) _ _).set (b := rb) (fun _ => rfl) _ _).set (b := rb) (fun _ => rfl) _ _).set (b := rb) (fun _ => rfl) _ _).set (b := rb) (fun _ => rfl) _ _).set (b := rb) (fun _ => rfl) _ _).set (b := rb) (fun _ => rfl) _ _).set (b := rb) (fun _ => rfl) _ _).set (b := rb) (fun _ => rfl) _ _
 have R : Hid (∃ F', St w0 b room (upd ls p L') F' (((((((((((w2.setCell ⟨rb, 0, none⟩ (.int .i64 x1)).setCell ⟨rb, 1, none⟩ (.int .i64 x2)).setCell ⟨rb, 2, none⟩ (.int .i64 x3)).setCell ⟨rb, 3, none⟩ (.int .i64 x4)).setCell ⟨rb, 4, none⟩ (.int .u64 (x5 : Int))).setCell ⟨rb, 5, none⟩ (.int .i64 x6)).setCell ⟨rb, 6, none⟩ (.int .i64 x7)).setCell ⟨rb, 7, none⟩ (.int .i64 x8)).setCell ⟨rb, 8, none⟩ (.int .i64 x9)).setCell ⟨rb, 9, none⟩ (.slice xa xd.length xc)).setCell ⟨rb, 10, none⟩ (.int .i64 xq)) ∧ Next F w F' (((((((((((w2.setCell ⟨rb, 0, none⟩ (.int .i64 x1)).setCell ⟨rb, 1, none⟩ (.int .i64 x2)).setCell ⟨rb, 2, none⟩ (.int .i64 x3)).setCell ⟨rb, 3, none⟩ (.int .i64 x4)).setCell ⟨rb, 4, none⟩ (.int .u64 (x5 : Int))).setCell ⟨rb, 5, none⟩ (.int .i64 x6)).setCell ⟨rb, 6, none⟩ (.int .i64 x7)).setCell ⟨rb, 7, none⟩ (.int .i64 x8)).setCell ⟨rb, 8, none⟩ (.int .i64 x9)).setCell ⟨rb, 9, none⟩ (.slice xa xd.length xc)).setCell ⟨rb, 10, none⟩ (.int .i64 xq))) := by
  refine Lib.hid ⟨F', hS2.far k3 (fun i e f => hrF' (e ▸ f)) (fun i e => by subst e; have := H0.out.1.size; have := HRB.out; omega), ?_, fun i hi => (hN2.2 i hi).imp id (fun h => Nat.le_trans HK1.out.size h)⟩
  exact ((HK1.out.mono (fun _ _ f => f.elim)).trans hN2.1).trans' k3 (fun i hi e => by have := HRB.out; omega)
 clear hS2 hN2 hr2 hr3 k3 HG TK HB1
 go_wp2_with fail
 exact bodyPost_ret (v := .tuple #[bv (⟨⟨x1, x2, x3, x4, x5, x6, x7, x8, x9, xd⟩, xa, xc, xq⟩ : Bx), .int .i64 (p : Nat), .bool true]) (by simp [results, Tryz.results69, go_sem, z0, z1, z2, z3, z4, z5, z6, z7, z8, z9, z10]) rfl ⟨rfl, R.out⟩
end Go.Proofs.YtpogpibjkolioaaGreat.Qu

/- A queue in memory: Peek, Line, Remove. Conditions: each theorem's own. -/
namespace Go.Proofs.YtpogpibjkolioaaGreat.Qu
open Go.RowKit Hp QuM QuN Rw
attribute [local go_sem ↓] Go.wp_at_zero Go.wp_at_succ
end Go.Proofs.YtpogpibjkolioaaGreat.Qu

/- A queue in memory: Remove. Conditions: each theorem's own. -/
namespace Go.Proofs.YtpogpibjkolioaaGreat.Qu
open Go.RowKit Hp QuM QuN Rw
attribute [local go_sem ↓] Go.wp_at_zero Go.wp_at_succ
theorem count_off {q : Option Addr} {p : Int} (h : q = none ∨ ¬ (0 ≤ p ∧ p < 8)) (w : World) :
  Calls Tryz.prog 93 #[.pointer q, .int .i64 p] w fun e w' => e = .returned (.int .i64 0) ∧ w = w' := by
 by_cases hq : q = none
 ·subst hq
  go_enter Tryz.func93, Tryz.ntmps93
  go_wp2_with fail
  go_ret
  exact ⟨rfl, rfl⟩
 ·obtain ⟨a, rfl⟩ := Option.ne_none_iff_exists'.1 hq
  have IP := Lib.hid fun w => isPrio_any p w
  rw [decide_eq_false (h.resolve_left hq)] at IP
  clear h hq
  go_enter Tryz.func93, Tryz.ntmps93
  go_wp2_with fail
  with_reducible refine Calls.mono (IP.out _) ?_
  rintro e w2 ⟨rfl, rfl⟩
  go_wp2_with fail
  go_ret
  exact ⟨rfl, rfl⟩
theorem count_at {b j n : Nat} {w : World} {p : Int} (hp : p = (j : Nat)) (hj : j < 8) (h : w.cell? ⟨b, 2 + j * 3 + 2, none⟩ = some (.int .i64 (n : Nat))) :
  Calls Tryz.prog 93 #[.pointer (some ⟨b, 0, none⟩), .int .i64 p] w fun e w' => e = .returned (.int .i64 (n : Nat)) ∧ w = w' := by
 subst hp
 have IP := Lib.hid fun w => isPrio_any (j : Nat) w
 rw [decide_eq_true (show 0 ≤ (j : Int) ∧ (j : Int) < 8 by omega)] at IP
 have hp' : (j : Int) < 8 := by omega
 go_enter Tryz.func93, Tryz.ntmps93
 go_wp2_with fail
 with_reducible refine Calls.mono (IP.out _) ?_
 rintro e w2 ⟨rfl, rfl⟩
 go_wp2_with fail
 go_ret
 exact ⟨rfl, rfl⟩
theorem has_no {q : Option Addr} {p k : Int} {w : World} (h : q = none ∨ ¬ (0 ≤ p ∧ p < 8) ∨ k < 0 ∨ ∃ (b j n : Nat), q = some ⟨b, 0, none⟩ ∧ p = (j : Nat) ∧ j < 8 ∧ (n : Int) ≤ k ∧ w.cell? ⟨b, 2 + j * 3 + 2, none⟩ = some (.int .i64 (n : Nat))) :
  Calls Tryz.prog 94 #[.pointer q, .int .i64 p, .int .i64 k] w fun e w' => e = .returned (.bool false) ∧ w = w' := by
 by_cases hk : k < 0
 ·have g0 : decide (0 ≤ k) = false := by rw [decide_eq_false_iff_not]; omega
  clear h hk
  go_enter Tryz.func94, Tryz.ntmps94
  go_wp2_with fail
  go_ret
  exact ⟨rfl, rfl⟩
 ·have g0 : decide (0 ≤ k) = true := by rw [decide_eq_true_iff]; omega
  obtain ⟨n, hn, hC⟩ : ∃ n : Int, n ≤ k ∧ Calls Tryz.prog 93 #[.pointer q, .int .i64 p] w fun e w' => e = .returned (.int .i64 n) ∧ w = w' := by
   rcases h with h | h | h | ⟨b, j, n, h1, h2, h3, h4, h5⟩
   ·exact ⟨0, by omega, count_off (Or.inl h) w⟩
   ·exact ⟨0, by omega, count_off (Or.inr h) w⟩
   ·exact absurd h hk
   ·subst h1; exact ⟨n, h4, count_at h2 h3 h5⟩
  have HC := Lib.hid hC
  have g1 : decide (k < n) = false := by rw [decide_eq_false_iff_not]; omega
  clear h hk hC hn
  go_enter Tryz.func94, Tryz.ntmps94
  go_wp2_with fail
  with_reducible refine Calls.mono HC.out ?_
  rintro e w2 ⟨rfl, rfl⟩
  go_wp2_with fail
  go_ret
  exact ⟨rfl, rfl⟩
theorem has_yes {b j n : Nat} {w : World} {p k : Int} (hp : p = (j : Nat)) (hj : j < 8) (h : w.cell? ⟨b, 2 + j * 3 + 2, none⟩ = some (.int .i64 (n : Nat))) (hk : 0 ≤ k) (hn : k < (n : Nat)) :
  Calls Tryz.prog 94 #[.pointer (some ⟨b, 0, none⟩), .int .i64 p, .int .i64 k] w fun e w' => e = .returned (.bool true) ∧ w = w' := by
 have HC := Lib.hid (count_at hp hj h)
 have g0 : decide (0 ≤ k) = true := by rw [decide_eq_true_iff]; omega
 have g1 : decide (k < (n : Int)) = true := by rw [decide_eq_true_iff]; omega
 clear hp hj h hk hn
 go_enter Tryz.func94, Tryz.ntmps94
 go_wp2_with fail
 with_reducible refine Calls.mono HC.out ?_
 rintro e w2 ⟨rfl, rfl⟩
 go_wp2_with fail
 go_ret
 exact ⟨rfl, rfl⟩
set_option maxHeartbeats 4000000 in
theorem remove_yes {w0 w : World} {b : Nat} {room : Int} {ls : Nat → List Bx} {F : Nat → Prop} (h : St w0 b room ls F w) {p k : Nat} {P K : Int} (hP : P = (p : Nat)) (hK : K = (k : Nat)) (hp : p < 8) {x : Bx} (hx : (ls p)[k]? = some x) (hl : (ls p).length ≤ 100000) :
  Calls Tryz.prog 78 #[.pointer (some ⟨b, 0, none⟩), .int .i64 P, .int .i64 K] w fun e w' => e = .returned (.tuple #[bv x, .bool true]) ∧ ∃ F', St w0 b room (upd ls p ((ls p).eraseIdx k)) F' w' ∧ Next F w F' w' := by
 subst hP
 subst hK
 obtain ⟨⟨x1, x2, x3, x4, x5, x6, x7, x8, x9, xd⟩, xa, xc, xq⟩ := x
 have hkl := (List.getElem?_eq_some_iff.1 hx).1
 have TK := Lib.hid fun (w' : World) (hk : Kept (fun _ => False) w w') => qtake_any (P := (p : Nat)) (K := (k : Nat)) (h.old hk) rfl rfl hp hx hl
 have HC : Hid (∀ w', Kept (fun _ => False) w w' → w'.cell? ⟨b, 2 + p * 3 + 2, none⟩ = some (.int .i64 ((ls p).length : Nat))) := by
  obtain ⟨h0, hr0, c, vs, fs, h1, h2, h3, h4⟩ := id h
  exact Lib.hid fun w' hk => (hk.blk h1.blk (fun f => f)).cell (h1.cn p hp)
 have HY := Lib.hid fun (w' : World) (hk : Kept (fun _ => False) w w') => has_yes (p := (p : Nat)) (k := (k : Nat)) rfl hp (HC.out w' hk) (by omega) (by omega)
 clear HC
 have H0 := Lib.hid h
 have hB1 := Blk.new w [.int .i64 0, .int .i64 0, .int .i64 0, .int .i64 0, .int .u64 0, .int .i64 0, .int .i64 0, .int .i64 0, .int .i64 0, .slice none 0 0, .int .i64 0] bT.E
 have hk1 : Kept (fun _ => False) w (w.alloc (.cells [.int .i64 0, .int .i64 0, .int .i64 0, .int .i64 0, .int .u64 0, .int .i64 0, .int .i64 0, .int .i64 0, .int .i64 0, .slice none 0 0, .int .i64 0].toArray bT.E)) := (Kept.refl _ w).alloc _
 have HB1 := Lib.hid hB1
 have HK1 := Lib.hid hk1
 dsimp only [List.toArray] at HB1 HK1
 clear hB1 hk1 hx h
 obtain ⟨L', hL'⟩ : ∃ L', (ls p).eraseIdx k = L' := ⟨_, rfl⟩
 rw [hL'] at TK ⊢
 clear hL'
 clear hkl
 go_enter Tryz.func78, Tryz.ntmps78
 go_upto_region 1 with fail
 generalize w.alloc (.cells #[.int .i64 0, .int .i64 0, .int .i64 0, .int .i64 0, .int .u64 0, .int .i64 0, .int .i64 0, .int .i64 0, .int .i64 0, .slice none 0 0, .int .i64 0] 83) = w1 at *
 obtain ⟨rb, hrb⟩ : ∃ rb, w.heap.size = rb := ⟨_, rfl⟩
 rw [hrb] at HB1
 simp only [hrb]
 have HRB := Lib.hid hrb
 clear hrb
 go_wp2_with fail
 with_reducible refine Calls.mono (HY.out _ HK1.out) ?_
 rintro e w2 ⟨rfl, rfl⟩
 go_wp2_with fail
 with_reducible refine Calls.mono (TK.out _ HK1.out) ?_
 rintro e w2 ⟨rfl, F', hS2, hN2⟩
 have hrF : ¬ F rb := fun e => by have := (H0.out.own rb e).2; have := HRB.out; omega
 have hr2 := hN2.1.blk HB1.out hrF
 have hrF' : ¬ F' rb := fun e => (hN2.2 rb e).elim hrF (fun h => by have := HB1.out.lt; omega)
 obtain ⟨e0, e1, e2, e3, e4, e5, e6, e7, e8, e9, e10⟩ := cs11 hr2
 obtain ⟨fz0, fz1, fz2, fz3, fz4, fz5, fz6, fz7, fz8, fz9, fz10⟩ := fz11 hr2
 have hr3 := ((((((((((hr2.set 0 (.int .i64 x1)).set 1 (.int .i64 x2)).set 2 (.int .i64 x3)).set 3 (.int .i64 x4)).set 4 (.int .u64 (x5 : Int))).set 5 (.int .i64 x6)).set 6 (.int .i64 x7)).set 7 (.int .i64 x8)).set 8 (.int .i64 x9)).set 9 (.slice xa xd.length xc)).set 10 (.int .i64 xq)
 obtain ⟨z0, z1, z2, z3, z4, z5, z6, z7, z8, z9, z10⟩ := cs11 hr3
 have k3 : Kept (fun i => i = rb) w2 (((((((((((w2.setCell ⟨rb, 0, none⟩ (.int .i64 x1)).setCell ⟨rb, 1, none⟩ (.int .i64 x2)).setCell ⟨rb, 2, none⟩ (.int .i64 x3)).setCell ⟨rb, 3, none⟩ (.int .i64 x4)).setCell ⟨rb, 4, none⟩ (.int .u64 (x5 : Int))).setCell ⟨rb, 5, none⟩ (.int .i64 x6)).setCell ⟨rb, 6, none⟩ (.int .i64 x7)).setCell ⟨rb, 7, none⟩ (.int .i64 x8)).setCell ⟨rb, 8, none⟩ (.int .i64 x9)).setCell ⟨rb, 9, none⟩ (.slice xa xd.length xc)).setCell ⟨rb, 10, none⟩ (.int .i64 xq)) :=
  (((((((((((Kept.refl (fun i => i = rb) w2).set (b := rb) (fun _ => rfl) _ _).set (b := rb) (fun _ => rfl) _ _).set (b := rb) (fun _ => rfl) _ _).set (b := rb) (fun _ => rfl) _ _).set (b := rb) (fun _ => rfl) _ _).set (b := rb) (fun _ => rfl) _ _).set (b := rb) (fun _ => rfl) _ _).set (b := rb) (fun _ => rfl) _ _).set (b := rb) (fun _ => rfl) _ _).set (b := rb) (fun _ => rfl) _ _).set (b := rb) (fun _ => rfl) _ _
 have R : Hid (∃ F', St w0 b room (upd ls p L') F' (((((((((((w2.setCell ⟨rb, 0, none⟩ (.int .i64 x1)).setCell ⟨rb, 1, none⟩ (.int .i64 x2)).setCell ⟨rb, 2, none⟩ (.int .i64 x3)).setCell ⟨rb, 3, none⟩ (.int .i64 x4)).setCell ⟨rb, 4, none⟩ (.int .u64 (x5 : Int))).setCell ⟨rb, 5, none⟩ (.int .i64 x6)).setCell ⟨rb, 6, none⟩ (.int .i64 x7)).setCell ⟨rb, 7, none⟩ (.int .i64 x8)).setCell ⟨rb, 8, none⟩ (.int .i64 x9)).setCell ⟨rb, 9, none⟩ (.slice xa xd.length xc)).setCell ⟨rb, 10, none⟩ (.int .i64 xq)) ∧ Next F w F' (((((((((((w2.setCell ⟨rb, 0, none⟩ (.int .i64 x1)).setCell ⟨rb, 1, none⟩ (.int .i64 x2)).setCell ⟨rb, 2, none⟩ (.int .i64 x3)).setCell ⟨rb, 3, none⟩ (.int .i64 x4)).setCell ⟨rb, 4, none⟩ (.int .u64 (x5 : Int))).setCell ⟨rb, 5, none⟩ (.int .i64 x6)).setCell ⟨rb, 6, none⟩ (.int .i64 x7)).setCell ⟨rb, 7, none⟩ (.int .i64 x8)).setCell ⟨rb, 8, none⟩ (.int .i64 x9)).setCell ⟨rb, 9, none⟩ (.slice xa xd.length xc)).setCell ⟨rb, 10, none⟩ (.int .i64 xq))) := by
  refine Lib.hid ⟨F', hS2.far k3 (fun i e f => hrF' (e ▸ f)) (fun i e => by subst e; have := H0.out.1.size; have := HRB.out; omega), ?_, fun i hi => (hN2.2 i hi).imp id (fun h => Nat.le_trans HK1.out.size h)⟩
  exact ((HK1.out.mono (fun _ _ f => f.elim)).trans hN2.1).trans' k3 (fun i hi e => by have := HRB.out; omega)
 clear hS2 hN2 hr2 hr3 k3 TK HB1 HY
 go_wp2_with fail
 exact bodyPost_ret (v := .tuple #[bv (⟨⟨x1, x2, x3, x4, x5, x6, x7, x8, x9, xd⟩, xa, xc, xq⟩ : Bx), .bool true]) (by simp [results, Tryz.results78, go_sem, z0, z1, z2, z3, z4, z5, z6, z7, z8, z9, z10]) rfl ⟨rfl, R.out⟩
end Go.Proofs.YtpogpibjkolioaaGreat.Qu

/- Bytes: a slice of them as an argument, as a row of one's own, as a source; append, as a string. Conditions: each theorem's own. -/
namespace Go.Proofs.YtpogpibjkolioaaGreat.Byt
open Go.ChangeShapes Go.WideShapes Go.RowKit Go.Deep Hp Go.Proofs.YtpogpibjkolioaaGreat.End
theorem infoB : (Tryz.prog.info? 5).map (fun i => (i.zero, i.size, i.bytes)) = some (some (.int .u8 0), 1, 1) := by kernel_rfl
theorem keptAt {F : Nat → Prop} {w w' : World} (h : Kept F w w') {k : Nat} (hk : k < w.heap.size) (hF : ¬ F k) (o : Nat) : w'.cell? ⟨k, o, none⟩ = w.cell? ⟨k, o, none⟩ := by
 simp [World.cell?, h.block k hk hF]
def bv (x : UInt8) : Value := .int .u8 (x.toNat : Int)
def bvs (l : List UInt8) : List Value := l.map bv
theorem bvs_len (l : List UInt8) : (bvs l).length = l.length * 1 := by simp [bvs]
theorem bvs_append (a b : List UInt8) : bvs (a ++ b) = bvs a ++ bvs b := by simp [bvs]
theorem bvs_at {l : List UInt8} {j : Nat} (hj : j < l.length) : (bvs l)[j]? = some (bv l[j]) := by simp [bvs, List.getElem?_eq_getElem hj]
theorem bvs_one {l : List UInt8} : ∀ u ∈ bvs l, u.oneCell' = true := by
 intro u hu
 obtain ⟨k, _, rfl⟩ := List.mem_map.1 hu
 rfl
def Src (w : World) (v : Value) (l : List UInt8) : Prop :=
 ∃ s c, v = .slice s l.length c ∧ l.length ≤ c ∧ (l = [] ∨ ∃ b o, s = some ⟨b, o, none⟩ ∧ b < w.heap.size ∧ ∀ j (hj : j < l.length), w.cell? ⟨b, o + j, none⟩ = some (bv l[j])) ∧ (s = none → c = 0)
theorem Src.kept {w w' : World} {v : Value} {l : List UInt8} (h : Src w v l) (k : Kept (fun _ => False) w w') : Src w' v l := by
 obtain ⟨s, c, rfl, hc, h, hn⟩ := h
 refine ⟨s, c, rfl, hc, ?_, hn⟩
 rcases h with h | ⟨b, o, rfl, hb, hc⟩
 ·exact Or.inl h
 ·exact Or.inr ⟨b, o, rfl, Nat.lt_of_lt_of_le hb k.size, fun j hj => (keptAt k hb (fun f => f) _).trans (hc j hj)⟩
def Row (w : World) (base : Nat) (v : Value) (l : List UInt8) : Prop := w.ownsRow base 5 1 v l.length (bvs l)
theorem row_nil (w : World) (b : Nat) : Row w b (.slice none 0 0) [] := ⟨rfl, Or.inl ⟨rfl, rfl⟩⟩
theorem Row.form {w : World} {base : Nat} {v : Value} {l : List UInt8} (h : Row w base v l) :
  (v = .slice none 0 0 ∧ l = []) ∨ ∃ g cap cur, v = .slice (some ⟨g, 0, none⟩) l.length cap ∧ base ≤ g ∧ Blk w g cur 5 ∧ l.length ≤ cap ∧ cap ≤ maxLen ∧ cur.length = cap ∧ cur.take l.length = bvs l := by
 rcases h.2 with ⟨rfl, h0⟩ | ⟨g, cap, cur, rfl, h1, h2, h3, h4, h5, h6⟩
 ·exact Or.inl ⟨rfl, List.length_eq_zero_iff.1 h0⟩
 ·exact Or.inr ⟨g, cap, cur.toList, rfl, h1, by unfold Blk; simpa using h2, h3, h4, by simpa using h5, by simpa using h6⟩
theorem Row.src {w : World} {base : Nat} {v : Value} {l : List UInt8} (h : Row w base v l) : Src w v l := by
 rcases h.form with ⟨rfl, rfl⟩ | ⟨g, cap, cur, rfl, h1, h2, h3, h4, h5, h6⟩
 ·exact ⟨none, 0, rfl, Nat.le_refl _, Or.inl rfl, fun _ => rfl⟩
 ·refine ⟨_, cap, rfl, h3, Or.inr ⟨g, 0, rfl, h2.lt, fun j hj => ?_⟩, fun h => by cases h⟩
  rw [Nat.zero_add]
  refine h2.cell ?_
  have := bvs_at hj
  rw [← h6, List.getElem?_take, if_pos hj] at this
  exact this
theorem Row.base {w : World} {b b' : Nat} {v : Value} {l : List UInt8} (h : Row w b v l) (hb : ∀ g, v.ownBlock = some g → b' ≤ g) : Row w b' v l := by
 rcases h.2 with ⟨rfl, h0⟩ | ⟨g, cap, cur, rfl, h1, h2, h3, h4, h5, h6⟩
 ·exact ⟨h.1, Or.inl ⟨rfl, h0⟩⟩
 ·exact ⟨h.1, Or.inr ⟨g, cap, cur, rfl, hb g rfl, h2, h3, h4, h5, h6⟩⟩
theorem Row.kept {w w' : World} {F : Nat → Prop} {base : Nat} {v : Value} {l : List UInt8} (h : Row w base v l) (k : Kept F w w') (hF : ∀ g, v.ownBlock = some g → ¬ F g) : Row w' base v l := by
 rcases h.2 with ⟨rfl, h0⟩ | ⟨g, cap, cur, rfl, h1, h2, h3, h4, h5, h6⟩
 ·exact ⟨h.1, Or.inl ⟨rfl, h0⟩⟩
 ·have hb : Blk w g cur.toList 5 := by unfold Blk; simpa using h2
  have := k.blk hb (hF g rfl)
  exact ⟨h.1, Or.inr ⟨g, cap, cur, rfl, h1, by unfold Blk at this; simpa using this, h3, h4, h5, h6⟩⟩
theorem Row.lt {w : World} {base : Nat} {v : Value} {l : List UInt8} (h : Row w base v l) : ∀ g, v.ownBlock = some g → base ≤ g ∧ g < w.heap.size := fun g hg => World.ownsRow.lt h g hg
theorem Row.slice {w : World} {base : Nat} {v : Value} {l : List UInt8} (h : Row w base v l) : ∃ s c, v = .slice s l.length c ∧ l.length ≤ c := by
 rcases h.form with ⟨rfl, rfl⟩ | ⟨g, cap, cur, rfl, _, _, h3, _⟩
 ·exact ⟨_, _, rfl, Nat.le_refl _⟩
 ·exact ⟨_, _, rfl, h3⟩
theorem row_new (w : World) : Row (w.alloc (.cells #[] 5)) w.heap.size (.slice (some ⟨w.heap.size, 0, none⟩) 0 0) [] :=
 ⟨rfl, Or.inr ⟨w.heap.size, 0, #[], rfl, Nat.le_refl _, heap_alloc_new w _, Nat.le_refl _, by unfold maxLen; omega, rfl, rfl⟩⟩
structure Apd (w : World) (base : Nat) (v : Value) (l : List UInt8) (v' : Value) (w' : World) : Prop where
 row : Row w' base v' l
 kept : Kept (fun k => v.ownBlock = some k) w w'
 lies : ∀ g, v'.ownBlock = some g → v.ownBlock = some g ∨ w.heap.size ≤ g
theorem grown_kept {w w' : World} {row : Option Nat} (h : w.grownBy w' row) : Kept (fun k => row = some k) w w' := ⟨h.os, h.tape, h.output, h.size, fun k hk hr => h.block k hk (fun e => hr e.symm)⟩
theorem run_app {w : World} (base : Nat) {v v2 : Value} {K K2 : List UInt8} (ty : TypeId) (h1 : Row w base v K) (h2 : Src w v2 K2) (hsm : K.length + K2.length ≤ 1000000000) (hbase : base ≤ w.heap.size) :
  ∃ v' w', (Builtin.append_ #[33, 33] ty #[v, v2]).run Tryz.prog w = .ok v' w' ∧ Apd w base v (K ++ K2) v' w' := by
 obtain ⟨ti, hti, hz0, hz1, hz2⟩ := info_parts infoB
 obtain ⟨s, c, rfl, hcap, hs, hn⟩ := h2
 cases s with
 | none =>
  obtain rfl := hn rfl
  obtain rfl : K2 = [] := List.length_eq_zero_iff.1 (by omega)
  have hr := run_append_owned_none (P := Tryz.prog) w base 33 ty 5 ti 1 Tryz.underlying33 hti v _ _ h1
  exact ⟨v, w, hr, ⟨by rw [List.append_nil]; exact h1, Kept.refl _ w, fun g hg => Or.inl hg⟩⟩
 | some a =>
  have hc : ∀ j u, (bvs K2)[j]? = some u → w.cell? (a.add j) = some u := fun j u hj => by
   have hj2 : j < K2.length := by have := (List.getElem?_eq_some_iff.1 hj).1; rw [bvs_len] at this; omega
   obtain ⟨b, o, e, _, hcell⟩ := hs.resolve_left (fun e => by rw [e] at hj2; simp at hj2)
   cases e
   rw [Go.WideShapes.add_plain, hcell j hj2, ← hj, bvs_at hj2]
  obtain ⟨v', w', hr, r2, r3, _, r5⟩ := run_append_own_at (P := Tryz.prog) w base 33 ty 5 ti _ 1 1 Tryz.underlying33 hti hz0 hz1 hz2 rfl (by decide) v _ _ h1 a K2.length c _ (bvs_len K2) hc bvs_one (by unfold maxLen; omega) (by omega) hbase
  refine ⟨v', w', hr, ⟨?_, grown_kept r3, fun g hg => ?_⟩⟩
  ·unfold Row
   rw [List.length_append, bvs_append]
   exact r2
  ·rcases r5 with r5 | r5
   ·left; rw [← r5]; exact hg
   ·right
    rw [r5] at hg
    cases hg
    exact Nat.le_refl _
theorem wp_app {w : World} {o : Oper} {a : Act} {K0 : Act → World → Prop} {Q : Exit → Act → World → Prop} (s x : Operand)
  (ho : o.op = .call { callee := .builtin .append, args := #[s, x], argTypes := #[33, 33] })
  (base : Nat) {v v2 : Value} {K K2 : List UInt8} (hs : a.eval s = v) (h1 : Row w base v K) (hx : a.eval x = v2) (h2 : Src w v2 K2) (hsm : K.length + K2.length ≤ 1000000000) (hbase : base ≤ w.heap.size)
  (h : ∀ v' w', Apd w base v (K ++ K2) v' w' → K0 (a.put o.dst v') w') : o.wp Tryz.prog a w K0 Q := by
 obtain ⟨v', w', hr, hA⟩ := run_app base o.type h1 h2 hsm hbase
 unfold Oper.wp execOp
 simp only [ho, resolve, invoke, builtin, Sem.run_bind, Sem.run_pure, Result.andThen_ok, List.map_toArray, List.map_cons, List.map_nil, hs, hx, hr]
 exact h v' w' hA
theorem wpList_app {w : World} {ops : Array Oper} {rest : List Oper} {o : Oper} {a : Act} {Q : Exit → Act → World → Prop} (hgd : o.guard = none) (s x : Operand)
  (ho : o.op = .call { callee := .builtin .append, args := #[s, x], argTypes := #[33, 33] })
  (base : Nat) {v v2 : Value} {K K2 : List UInt8} (hs : a.eval s = v) (h1 : Row w base v K) (hx : a.eval x = v2) (h2 : Src w v2 K2) (hsm : K.length + K2.length ≤ 1000000000) (hbase : base ≤ w.heap.size)
  (h : ∀ v' w', Apd w base v (K ++ K2) v' w' → wpList Tryz.prog ops Q rest (a.put o.dst v') w') : wpList Tryz.prog ops Q (o :: rest) a w :=
 wpList_plain hgd fun _ hK => wp_app s x ho base hs h1 hx h2 hsm hbase fun v' w' hA => hK _ _ (h v' w' hA)
theorem run_str {w : World} {v : Value} {l : List UInt8} (h : Src w v l) : (convert 33 9 v).run Tryz.prog w = .ok (.string ⟨l.toArray⟩) w := by
 obtain ⟨s, c, rfl, hcap, hs, hn⟩ := h
 cases s with
 | none =>
  obtain rfl := hn rfl
  obtain rfl : l = [] := List.length_eq_zero_iff.1 (by omega)
  exact run_convert_bytes_nil (P := Tryz.prog) w 33 5 Tryz.underlying33 Tryz.underlying5 0 0 9 Tryz.underlying9
 | some a =>
  refine run_convert_bytes_back (P := Tryz.prog) w 33 9 5 a c l Tryz.underlying33 Tryz.underlying5 Tryz.underlying9 (fun j hj => ?_)
  obtain ⟨b, o, e, _, hcell⟩ := hs.resolve_left (fun e => by rw [e] at hj; simp at hj)
  cases e
  rw [Go.WideShapes.add_plain]
  exact hcell j hj
end Go.Proofs.YtpogpibjkolioaaGreat.Byt
namespace Go.Proofs.YtpogpibjkolioaaGreat.Opn
open Go.ChangeShapes Go.WideShapes Go.RowKit Go.Deep Hp Go.Proofs.YtpogpibjkolioaaGreat.End Byt
def Byts (w : World) (s : Option Addr) (cap : Nat) (l : List UInt8) : Prop := Src w (.slice s l.length cap) l ∧ cap ≤ 9223372036854775807
end Go.Proofs.YtpogpibjkolioaaGreat.Opn

