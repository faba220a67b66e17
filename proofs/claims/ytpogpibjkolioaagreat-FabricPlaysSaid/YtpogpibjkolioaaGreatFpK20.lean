/- A fabric's New. Conditions: each theorem's own. -/
import Derived.Test.YtpogpibjkolioaaGreatFpK19
import Derived.Test.YtpogpibjkolioaaGreatFpK17
import Derived.Test.YtpogpibjkolioaaGreatFpK11
import Derived.Test.YtpogpibjkolioaaGreatFpK12
set_option linter.unusedVariables false
set_option linter.unusedSimpArgs false
namespace Go.Proofs.YtpogpibjkolioaaGreat.Fb
open Go.RowKit Hp QuM QuN Rw Qu NumM NumC Po Fo FbM TpM Tp
attribute [local go_sem ↓] Go.wp_at_zero Go.wp_at_succ
variable {w0 w w' : World} {K : Cf} {a : Ad} {M : Mo}
def NewP (w : World) (K : Cf) (e : Ending) (w' : World) : Prop := ∃ a, e = .returned (.tuple #[ptr a.fb, .int .i64 0]) ∧ Fab w K a M0 w' ∧ ∀ i, ownA K a i → w.heap.size ≤ i
theorem NewI.old {nb hb fb n0 : Nat} {v : Value} {pl : List Nat} {O : Nat → Nat → Prop} {wr w2 : World} (h : NewI w K nb hb fb n0 v pl O wr) (k : Kept (fun _ => False) wr w2) : NewI w K nb hb fb n0 v pl O w2 :=
 { kept := h.kept.trans k, blk := k.blk h.blk (fun f => f), nv := k.blk h.nv (fun f => f), hrow := k.blk h.hrow (fun f => f), row := h.row.old k, prt := fun p q hq => (h.prt p q hq).old k, own := h.own, oo := h.oo, orow := h.orow, low := ⟨h.low.1, h.low.2.1, h.low.2.2.1, h.low.2.2.2.1, h.low.2.2.2.2.1, h.low.2.2.2.2.2.1, Nat.le_trans h.low.2.2.2.2.2.2 k.size⟩ }
set_option maxRecDepth 100000 in
set_option maxHeartbeats 8000000 in
theorem fnew_yes (hc : K.Ok) (h0 : 0 ≤ K.room) (h1 : K.room ≤ 1073741824) (h2 : 0 ≤ K.most) (h3 : K.most ≤ 1073741824) (w : World) :
  Calls Tryz.prog 6 #[.int .i64 K.H, .int .i64 K.S, .int .i64 K.room, .int .i64 K.most, .bool K.trim] w (NewP w K) := by
 have TN := Lib.hid (tnew_yes hc.net w)
 have PN := Lib.hid fun w => pnew_yes h0 h1 h2 h3 K.trim w
 have HC := Lib.hid hc
 have hle := hc.le
 have MK := run_mh K.hn hle.1
 rw [hc.hn] at MK
 have hn48 : K.n ≤ 48 := hle.2.2.1
 have hpts := hc.n
 clear h0 h1 h2 h3 hle hc
 go_enter Tryz.func6, Tryz.ntmps6
 go_wp2_with fail
 with_reducible refine Calls.mono TN.out ?_
 rintro e w1 ⟨nb, rfl, hN, hk, hnb⟩
 have MK1 := MK w1
 have hN2 := Lib.hid hN
 have HK1 := Lib.hid hk
 have HNB := Lib.hid hnb
 clear hN hk hnb TN MK
 go_upto_region 5 with fail
 have HI : Hid (NewI w K nb w1.heap.size (w1.heap.size + 1) (w1.heap.size + 2) (.slice none 0 0) [] (fun _ _ => False) ((w1.alloc (.cells (Rw.flat hT (List.replicate K.hn ())).toArray 98)).alloc (.cells #[ptr nb, .slice none 0 0, .slice (some ⟨w1.heap.size, 0, none⟩) K.hn K.hn, .int .i64 0] 69))) := by
  have a1 := Blk.new w1 (Rw.flat hT (List.replicate K.hn ())) 98
  have k1 := (Kept.refl (fun _ => False) w1).alloc (.cells (Rw.flat hT (List.replicate K.hn ())).toArray 98)
  have s1 : (w1.alloc (.cells (Rw.flat hT (List.replicate K.hn ())).toArray 98)).heap.size = w1.heap.size + 1 := by simp
  have a2 := Blk.new (w1.alloc (.cells (Rw.flat hT (List.replicate K.hn ())).toArray 98)) [ptr nb, .slice none 0 0, .slice (some ⟨w1.heap.size, 0, none⟩) K.hn K.hn, .int .i64 0] 69
  have k2 := (Kept.refl (fun _ => False) (w1.alloc (.cells (Rw.flat hT (List.replicate K.hn ())).toArray 98))).alloc (.cells [ptr nb, .slice none 0 0, .slice (some ⟨w1.heap.size, 0, none⟩) K.hn K.hn, .int .i64 0].toArray 69)
  rw [s1] at a2
  dsimp only [List.toArray] at a2 k2
  have hnl := Blk.lt hN2.out
  have h01 := HK1.out.size
  refine Lib.hid { kept := HK1.out.trans (k1.trans k2), blk := a2, nv := k2.blk (k1.blk hN2.out (fun f => f)) (fun f => f), hrow := k2.blk a1 (fun f => f), row := Rw.Row.none pT _ _, prt := fun p q hq => by simp at hq, own := fun p g hp => by simp at hp, oo := fun p q g hp => by simp at hp, orow := fun p g hp => by simp at hp, low := ⟨HNB.out, by omega, h01, by omega, by omega, by omega, ?_⟩ }
  simp
 obtain ⟨n0, hn0⟩ : ∃ n0, w1.heap.size + 2 = n0 := ⟨_, rfl⟩
 obtain ⟨hb, hhb⟩ : ∃ hb, w1.heap.size = hb := ⟨_, rfl⟩
 obtain ⟨fb, hfb⟩ : ∃ fb, hb + 1 = fb := ⟨_, rfl⟩
 rw [hn0, hhb, hfb] at HI
 simp only [hhb, hfb]
 clear MK1 hN2 HK1 HNB hn0 hhb hfb
 generalize (w1.alloc (.cells (Rw.flat hT (List.replicate K.hn ())).toArray 98)).alloc (.cells #[ptr nb, .slice none 0 0, .slice (some ⟨hb, 0, none⟩) K.hn K.hn, .int .i64 0] 69) = w2 at *
 have PA := Lib.hid (ports_any HI.out.nv HC.out.net)
 go_wp2_with fail
 with_reducible refine Calls.mono PA.out ?_
 rintro e w3 ⟨rfl, m, rfl⟩
 have HI3 := Lib.hid (HI.out.old ((Kept.refl (fun _ => False) w2).drewN m))
 generalize w2.drewN m = w3 at *
 rw [← hpts]
 clear HI PA hpts
 go_wp2_with fail
 go_loopg [32] K.n (fun mm s32 wr => ∃ (i : Nat) (v : Value) (pl : List Nat) (O : Nat → Nat → Prop), Hid (K.n - i ≤ mm) ∧ i ≤ K.n ∧ s32 = .int .i64 (i : Nat) ∧ Hid (pl.length = i) ∧ Hid (NewI w K nb hb fb n0 v pl O wr))
 case atStart => exact ⟨0, _, [], _, Lib.hid (by omega), Nat.zero_le _, rfl, Lib.hid rfl, HI3⟩
 case round =>
  obtain ⟨i, v, pl, O, hmm, hi, rfl, hpl, hI⟩ := hrel
  rcases Nat.lt_or_ge i K.n with hlt | hge
  ·have hlt' : (i : Int) < (K.n : Int) := by omega
   go_wp2_with fail
   with_reducible refine Calls.mono (PN.out _) ?_
   rintro e w4 ⟨b, F, rfl, hP, hF⟩
   obtain ⟨O', hPO, hO⟩ := pn_of hP hI.out.kept hF
   have hk4 : Kept (fun _ => False) wr w4 := hP.since
   have HPO := Lib.hid (And.intro hPO hO)
   have HK4 := Lib.hid hk4
   obtain ⟨av, cv, rfl, _⟩ := hI.out.row.slice
   have hbl := (hI.out.old hk4).blk
   have c1 := hbl.cell (o := 1) rfl
   have HBL := Lib.hid hbl
   clear hP hF hPO hO hk4 hbl
   go_upto_region 10 with fail
   have k7 := (Kept.refl (fun _ => False) w4).alloc (.cells #[.pointer (some ⟨b, 0, none⟩)] 70)
   have HR7 := Lib.hid ((hI.out.old HK4.out).row.old k7)
   have HS7 : Hid (Rw.Src pT (w4.alloc (.cells #[.pointer (some ⟨b, 0, none⟩)] 70)) (.slice (some ⟨w4.heap.size, 0, none⟩) 1 1) [b]) := by
    have h1 := Blk.new w4 [.pointer (some ⟨b, 0, none⟩)] 70
    exact Lib.hid (Rw.src_blk (t := pT) (K := [b]) 1 h1)
   have HK7 := Lib.hid k7
   have hbs : Hid (n0 ≤ (w4.alloc (.cells #[.pointer (some ⟨b, 0, none⟩)] 70)).heap.size) := Lib.hid (Nat.le_trans (hI.out.old HK4.out).low.2.2.2.2.2.2 k7.size)
   clear k7
   go_wp2_with (refine wpList_app pT rfl _ _ rfl n0 rfl HR7.out rfl HS7.out (by have := hpl.out; rw [List.length_singleton]; omega) hbs.out ?_; rintro v8 w8 hA; have HA := Lib.hid hA; obtain ⟨a8, c8, rfl, _⟩ := hA.row.slice; have tt := (hA.kept.blk (HK7.out.blk HBL.out (fun f => f)) (fun e => by have h1 := ((hI.out.old HK4.out).row.lt fb e).1; have h2 := hI.out.low.2.2.2.2.2.1; omega)).cell (o := 1) rfl; have tf := (hA.kept.blk (HK7.out.blk HBL.out (fun f => f)) (fun e => by have h1 := ((hI.out.old HK4.out).row.lt fb e).1; have h2 := hI.out.low.2.2.2.2.2.1; omega)).frozen 1; clear hA)
   have HA' := HA.out
   rw [List.length_append, List.length_singleton] at HA'
   have HI8 := Lib.hid (hI.out.push HPO.out.1 HPO.out.2 HK4.out HK7.out HA')
   have HL8 : Hid ((pl ++ [b]).length = i + 1) := Lib.hid (by rw [List.length_append, hpl.out]; rfl)
   clear HA' HA tt tf HR7 HS7 HPO HK4 HK7 hI HBL c1
   go_roundg (K.n - (i + 1))
   case measure => have := hmm.out; omega
   case rel => exact ⟨i + 1, _, _, _, Lib.hid (Nat.le_refl _), by omega, by go_num, HL8, HI8⟩
  ·have hge' : ¬ ((i : Int) < (K.n : Int)) := by omega
   obtain rfl : i = K.n := by omega
   obtain ⟨a, ha, hF, ho⟩ := hI.out.fab HC.out hpl.out
   have R : Hid (NewP w K (.returned (.tuple #[ptr fb, .int .i64 0])) wr) := Lib.hid ⟨a, by rw [ha], hF, ho⟩
   clear hI hpl hF ho
   go_wp2_with fail
   exact bodyPost_ret (v := .tuple #[ptr fb, .int .i64 0]) (by simp [results, Tryz.results6, go_sem]) rfl R.out
end Go.Proofs.YtpogpibjkolioaaGreat.Fb

/- A fabric and its books: each call. Conditions: each theorem's own. -/
namespace Go.Proofs.YtpogpibjkolioaaGreat.Fb
open Go.RowKit Hp QuM QuN Rw Qu NumM NumC Po Fo FbM TpM Tp
def FV (w0 : World) (K : Cf) (M : Mo) (c : Int) (fb : Nat) (w : World) : Prop := Iv K M c ∧ ∃ a, a.fb = fb ∧ Fab w0 K a M w
variable {w0 w w' : World} {K : Cf} {M : Mo} {c : Int} {fb : Nat}
theorem FV.old (h : FV w0 K M c fb w) (k : Kept (fun _ => False) w w') : FV w0 K M c fb w' := by
 obtain ⟨h1, a, h2, h3⟩ := h
 exact ⟨h1, a, h2, h3.old k⟩
theorem FV.since (h : FV w0 K M c fb w) : Kept (fun _ => False) w0 w := by
 obtain ⟨h1, a, h2, h3⟩ := h
 exact h3.since
theorem iv_new (hc : K.Ok) : Iv K M0 0 := by
 refine ⟨hc, fun p hp x hx => ?_, fun j => ?_, Int.le_refl _, ?_⟩
 ·rcases hx with ⟨k, hk, hx⟩ | hx <;> cases hx
 ·show (0 : Int) = Wt _ (fun _ => (⟨fun _ => [], [], 0, 0⟩ : Pt)) K.n
  rw [Wt_empty]
 ·show 0 + Wt _ (fun _ => (⟨fun _ => [], [], 0, 0⟩ : Pt)) K.n + li (fun _ => []) K.hn = 0
  rw [Wt_empty, li_empty]; rfl
theorem fv_new (hc : K.Ok) (h0 : 0 ≤ K.room) (h1 : K.room ≤ 1073741824) (h2 : 0 ≤ K.most) (h3 : K.most ≤ 1073741824) (w : World) :
  Calls Tryz.prog 6 #[.int .i64 K.H, .int .i64 K.S, .int .i64 K.room, .int .i64 K.most, .bool K.trim] w fun e w' => ∃ fb, e = .returned (.tuple #[ptr fb, .int .i64 0]) ∧ FV w K M0 0 fb w' := by
 refine (fnew_yes hc h0 h1 h2 h3 w).mono ?_
 rintro e w' ⟨a, rfl, hF, _⟩
 exact ⟨a.fb, rfl, iv_new hc, a, rfl, hF⟩
theorem fv_send_yes (h : FV w0 K M c fb w) (hc : c ≤ 30000) {J q : Int} {x : Bx} (hr : Rd w x) (hx : (0 ≤ J ∧ J < K.H) ∧ WrM.Ok x.f ∧ (0 ≤ x.f.dst ∧ x.f.dst < K.H) ∧ x.f.dst ≠ J) :
  Calls Tryz.prog 8 #[ptr fb, .int .i64 J, fv x, .int .i64 q] w fun e w' => e = .returned (.tuple #[.int .i64 (dD K M J.toNat ⟨x.f, x.s, x.c, q⟩).1, .int .i64 0]) ∧ ∃ s cc, FV w0 K (putM K M J.toNat ⟨x.f, x.s, x.c, q⟩ s cc) (c + 1) fb w' := by
 obtain ⟨h1, a, rfl, h3⟩ := h
 have hl := h1.ok.le
 have hH := h1.ok.hn
 refine (send_yes h3 (h1.bd (by omega)) hr hx).mono ?_
 rintro e w' ⟨rfl, s, cc, a', g1, g2, g3⟩
 refine ⟨rfl, s, cc, h1.put (by omega) ⟨?_, ?_⟩ s cc, a', g3, g1⟩
 ·have := okAt_up h1.ok.net (p := J) hx.1.1 hx.1.2 hx.2.2.1.1 hx.2.2.1.2
  rw [Int.toNat_of_nonneg hx.1.1]
  exact this
 ·have := hx.2.1.1
  unfold WrM.Fit at this
  dsimp only
  omega
theorem fv_serve_none (h : FV w0 K M c fb w) (hc : c ≤ 30000) {p : Nat} (hp : p < K.n) {t : Int} (hx : tkX (M.P p) t = none) : Calls Tryz.prog 10 #[ptr fb, .int .i64 (p : Nat), .int .i64 t] w fun e w' => e = .returned (.tuple #[.bool false, .int .i64 0]) ∧ FV w0 K (srv0 M p t) c fb w' := by
 obtain ⟨h1, a, rfl, h3⟩ := h
 refine (serve_none h3 (h1.bd (by omega)) hp hx).mono ?_
 rintro e w' ⟨rfl, a', g1, g2, g3⟩
 exact ⟨rfl, h1.srv0 hp hx, a', g3, g1⟩
def SvM (K : Cf) (M : Mo) (p : Nat) (t : Int) (x : Bx) (M' : Mo) : Prop :=
 ((nx K.H K.S p x.f.dst x.q).2 = true ∧ (p : Int) = K.H + x.f.dst ∧ M' = srv2 M p t x x.f.dst.toNat) ∨ ((nx K.H K.S p x.f.dst x.q).2 = false ∧ 0 ≤ (nx K.H K.S p x.f.dst x.q).1 ∧ (nx K.H K.S p x.f.dst x.q).1.toNat < K.n ∧ ∃ s cc, M' = putM K (srv1 M p t x) (nx K.H K.S p x.f.dst x.q).1.toNat x s cc)
theorem fv_serve_some (h : FV w0 K M c fb w) (hc : c ≤ 30000) {p : Nat} (hp : p < K.n) {t : Int} {x : Bx} (hx : tkX (M.P p) t = some x) : Calls Tryz.prog 10 #[ptr fb, .int .i64 (p : Nat), .int .i64 t] w fun e w' => e = .returned (.tuple #[.bool true, .int .i64 0]) ∧ ∃ M', SvM K M p t x M' ∧ FV w0 K M' c fb w' := by
 obtain ⟨h1, a, rfl, h3⟩ := h
 have hf := h1.fine p hp x (in_tkX hx)
 have h4 := h1.srv1 hp hx
 have hok := okAt_next h1.ok.net hf.1 x.q
 refine (serve_some h3 (h1.bd (by omega)) hp hx (h1.go hp (in_tkX hx)) hf.1 (h4.bd (by omega)).b).mono ?_
 rintro e w' ⟨rfl, hS⟩
 refine ⟨rfl, ?_⟩
 rcases hS with ⟨e1, a', g1, g2, g3⟩ | ⟨e1, s, cc, a', g1, g2, g3⟩
 ·rcases hok with ⟨o1, o2⟩ | ⟨o1, o2⟩
  ·have hd : x.f.dst.toNat < K.hn := by have := h1.ok.hn; have := hf.1.2.2.1; have := hf.1.2.2.2.1; omega
   exact ⟨_, Or.inl ⟨e1, o2, rfl⟩, h1.srv2 hp hx hd, a', g3, g1⟩
  ·rw [e1] at o1; cases o1
 ·rcases hok with ⟨o1, o2⟩ | ⟨o1, o2⟩
  ·rw [o1] at e1; cases e1
  ·have hq0 := o2.1
   have hq : (nx K.H K.S p x.f.dst x.q).1.toNat < K.n := by have := o2.2.1; have := h1.ok.n; omega
   refine ⟨_, Or.inr ⟨e1, hq0, hq, s, cc, rfl⟩, ?_, a', g3, g1⟩
   have h5 := h4.put hq (x := x) ⟨by rw [Int.toNat_of_nonneg hq0]; exact o2, hf.2⟩ s cc
   rw [show c - 1 + 1 = c by omega] at h5
   exact h5
theorem fv_take_some (h : FV w0 K M c fb w) (hc : c ≤ 30000) {j : Nat} (hj : j < K.hn) {x : Bx} {L : List Bx} (hI : M.I j = x :: L) : Calls Tryz.prog 12 #[ptr fb, .int .i64 (j : Nat)] w fun e w' => e = .returned (.tuple #[fv x, .bool true]) ∧ Dat w0 w' x ∧ FV w0 K { M with I := upd M.I j L } (c - 1) fb w' := by
 obtain ⟨h1, a, rfl, h3⟩ := h
 refine (ftake_some h3 hj ((h1.bd (by omega)).i j hj) hI).mono ?_
 rintro e w' ⟨rfl, hd, a', g1, g2, g3⟩
 exact ⟨rfl, hd, h1.take hj hI, a', g3, g1⟩
theorem fv_wait (h : FV w0 K M c fb w) (hc : c ≤ 30000) {p : Nat} (hp : p < K.n) : Calls Tryz.prog 20 #[ptr fb, .int .i64 (p : Nat)] w fun e w' => e = .returned (.int .i64 ((accL (M.P p).ls (M.P p).cr 9).length : Nat)) ∧ ∃ m, w' = w.drewN m := by
 obtain ⟨h1, a, rfl, h3⟩ := h
 exact fwait_yes h3 (h1.bd (by omega)) hp
theorem fv_wait_off (h : FV w0 K M c fb w) {J : Int} (hj : J < 0 ∨ (K.n : Int) ≤ J) : Calls Tryz.prog 20 #[ptr fb, .int .i64 J] w fun e w' => e = .returned (.int .i64 0) ∧ w = w' := by
 obtain ⟨h1, a, rfl, h3⟩ := h
 exact fwait_off h3 hj
theorem fv_ports (h : FV w0 K M c fb w) : Calls Tryz.prog 24 #[ptr fb] w fun e w' => e = .returned (.int .i64 (K.n : Nat)) ∧ w = w' := by
 obtain ⟨h1, a, rfl, h3⟩ := h
 exact fports_any h3
theorem fv_lost (h : FV w0 K M c fb w) : Calls Tryz.prog 49 #[ptr fb] w fun e w' => e = .returned (.int .i64 M.L) ∧ w = w' := by
 obtain ⟨h1, a, rfl, h3⟩ := h
 exact flost_any h3
theorem fv_bytes (h : FV w0 K M c fb w) {j : Nat} (hj : j < K.hn) : Calls Tryz.prog 51 #[ptr fb, .int .i64 (j : Nat)] w fun e w' => e = .returned (.int .i64 (M.B j)) ∧ w = w' := by
 obtain ⟨h1, a, rfl, h3⟩ := h
 exact fbytes_yes h3 hj
theorem fv_arr (h : FV w0 K M c fb w) (hc : c ≤ 30000) {j : Nat} (hj : j < K.hn) : Calls Tryz.prog 21 #[ptr fb, .int .i64 (j : Nat)] w (LiP w (M.I j)) := by
 obtain ⟨h1, a, rfl, h3⟩ := h
 exact farr_yes h3 (h1.bd (by omega)) hj
theorem fv_empty (h : FV w0 K M c fb w) (hc : c ≤ 30000) : Calls Tryz.prog 23 #[ptr fb] w (EmP K M w) := by
 obtain ⟨h1, a, rfl, h3⟩ := h
 exact fempty_any h3 (h1.bd (by omega))
end Go.Proofs.YtpogpibjkolioaaGreat.Fb

/- What a fabric's New refuses. Conditions: each theorem's own. -/
namespace Go.Proofs.YtpogpibjkolioaaGreat.Fb
open Go.RowKit Hp QuM QuN Rw Qu NumM NumC Po Fo FbM TpM Tp
attribute [local go_sem ↓] Go.wp_at_zero Go.wp_at_succ
variable {H S room most : Int} {trim : Bool}
theorem tnet_no (h : ¬ Net H S) : H < 2 ∨ (decide (H < 2) = false ∧ 8 < H) ∨ (decide (H < 2) = false ∧ decide (8 < H) = false ∧ S < 1) ∨ (decide (H < 2) = false ∧ decide (8 < H) = false ∧ decide (S < 1) = false ∧ 4 < S) := by
 simp only [decide_eq_false_iff_not]
 by_cases h0 : H < 2
 ·exact Or.inl h0
 by_cases h1 : 8 < H
 ·exact Or.inr (Or.inl ⟨h0, h1⟩)
 by_cases h2 : S < 1
 ·exact Or.inr (Or.inr (Or.inl ⟨h0, h1, h2⟩))
 by_cases h3 : 4 < S
 ·exact Or.inr (Or.inr (Or.inr ⟨h0, h1, h2, h3⟩))
 exact absurd ⟨by omega, by omega, by omega, by omega⟩ h
theorem tnew_no (h : ¬ Net H S) (w : World) : Calls Tryz.prog 25 #[.int .i64 H, .int .i64 S] w fun e w' => e = .returned (.tuple #[.pointer none, .int .i64 1]) ∧ w = w' := by
 have h := tnet_no h
 rcases h with h0 | ⟨h0, h1⟩ | ⟨h0, h1, h2⟩ | ⟨h0, h1, h2, h3⟩
 all_goals
  go_enter Tryz.func25, Tryz.ntmps25
  go_wp2_with fail
  exact bodyPost_ret (v := .tuple #[.pointer none, .int .i64 1]) (by simp [results, Tryz.results25, go_sem]) rfl ⟨rfl, rfl⟩
theorem pnew_no (h : room < 0 ∨ 1073741824 < room ∨ most < 0 ∨ 1073741824 < most) (w : World) : Calls Tryz.prog 27 #[.int .i64 room, .int .i64 most, .bool trim] w fun e w' => e = .returned (.tuple #[.pointer none, .int .i64 1]) ∧ w = w' := by
 have hc : room < 0 ∨ (decide (room < 0) = false ∧ 1073741824 < room) ∨ (decide (room < 0) = false ∧ decide (1073741824 < room) = false ∧ most < 0) ∨ (decide (room < 0) = false ∧ decide (1073741824 < room) = false ∧ decide (most < 0) = false ∧ 1073741824 < most) := by
  simp only [decide_eq_false_iff_not]; omega
 clear h
 rcases hc with h1 | ⟨h1, h2⟩ | ⟨h1, h2, h3⟩ | ⟨h1, h2, h3, h4⟩
 all_goals
  go_enter Tryz.func27, Tryz.ntmps27
  go_wp2_with fail
  exact bodyPost_ret (v := .tuple #[.pointer none, .int .i64 1]) (by simp [results, Tryz.results27, go_sem]) rfl ⟨rfl, rfl⟩
set_option maxRecDepth 100000 in
set_option maxHeartbeats 8000000 in
theorem fnew_net (h : ¬ Net H S) (w : World) : Calls Tryz.prog 6 #[.int .i64 H, .int .i64 S, .int .i64 room, .int .i64 most, .bool trim] w fun e w' => e = .returned (.tuple #[.pointer none, .int .i64 1]) ∧ w = w' := by
 have TN := Lib.hid (tnew_no h w)
 clear h
 go_enter Tryz.func6, Tryz.ntmps6
 go_wp2_with fail
 with_reducible refine Calls.mono TN.out ?_
 rintro e w1 ⟨rfl, rfl⟩
 clear TN
 go_wp2_with fail
 exact bodyPost_ret (v := .tuple #[.pointer none, .int .i64 1]) (by simp [results, Tryz.results6, go_sem]) rfl ⟨rfl, rfl⟩
set_option maxRecDepth 100000 in
set_option maxHeartbeats 8000000 in
theorem fnew_port {K : Cf} (hc : K.Ok) (h : K.room < 0 ∨ 1073741824 < K.room ∨ K.most < 0 ∨ 1073741824 < K.most) (w : World) :
  Calls Tryz.prog 6 #[.int .i64 K.H, .int .i64 K.S, .int .i64 K.room, .int .i64 K.most, .bool K.trim] w fun e w' => e = .returned (.tuple #[.pointer none, .int .i64 1]) ∧ Kept (fun _ => False) w w' := by
 have TN := Lib.hid (tnew_yes hc.net w)
 have PN := Lib.hid fun w => pnew_no (trim := K.trim) h w
 have HC := Lib.hid hc
 have hle := hc.le
 have MK := run_mh K.hn hle.1
 rw [hc.hn] at MK
 have hn48 : K.n ≤ 48 := hle.2.2.1
 have hn0 : 0 < K.n := by have := hle.2.1; have := hle.2.2.2; omega
 have hpts := hc.n
 clear h hle hc
 go_enter Tryz.func6, Tryz.ntmps6
 go_wp2_with fail
 with_reducible refine Calls.mono TN.out ?_
 rintro e w1 ⟨nb, rfl, hN, hk, hnb⟩
 have MK1 := MK w1
 have HK1 := Lib.hid hk
 have HN1 := Lib.hid hN
 clear hN hk hnb TN MK
 go_upto_region 5 with fail
 have HK2 : Hid (Kept (fun _ => False) w ((w1.alloc (.cells (Rw.flat hT (List.replicate K.hn ())).toArray 98)).alloc (.cells #[ptr nb, .slice none 0 0, .slice (some ⟨w1.heap.size, 0, none⟩) K.hn K.hn, .int .i64 0] 69))) := Lib.hid ((HK1.out.alloc _).alloc _)
 have HN2 : Hid (NV ((w1.alloc (.cells (Rw.flat hT (List.replicate K.hn ())).toArray 98)).alloc (.cells #[ptr nb, .slice none 0 0, .slice (some ⟨w1.heap.size, 0, none⟩) K.hn K.hn, .int .i64 0] 69)) nb K.H K.S) := Lib.hid (Blk.old (Blk.old HN1.out _) _)
 clear MK1 HK1 HN1
 generalize (w1.alloc (.cells (Rw.flat hT (List.replicate K.hn ())).toArray 98)).alloc (.cells #[ptr nb, .slice none 0 0, .slice (some ⟨w1.heap.size, 0, none⟩) K.hn K.hn, .int .i64 0] 69) = w2 at *
 have PA := Lib.hid (ports_any HN2.out HC.out.net)
 go_wp2_with fail
 with_reducible refine Calls.mono PA.out ?_
 rintro e w3 ⟨rfl, m, rfl⟩
 have HK3 := Lib.hid (HK2.out.drewN m)
 generalize w2.drewN m = w3 at *
 rw [← hpts]
 clear HK2 HN2 PA hpts
 go_wp2_with fail
 go_loopg [32] K.n (fun mm s32 wr => s32 = .int .i64 ((0 : Nat) : Int) ∧ Hid (Kept (fun _ => False) w wr) ∧ Hid (K.n ≤ mm))
 case atStart => exact ⟨rfl, HK3, Lib.hid (Nat.le_refl _)⟩
 case round =>
  obtain ⟨rfl, hK, hmm⟩ := hrel
  have hlt' : ((0 : Nat) : Int) < (K.n : Int) := by omega
  have hlt2 : (0 : Int) < (K.n : Int) := by omega
  clear HK3
  go_wp2_with fail
  with_reducible refine Calls.mono (PN.out _) ?_
  rintro e w4 ⟨rfl, rfl⟩
  clear PN
  go_wp2_with fail
  exact bodyPost_ret (v := .tuple #[.pointer none, .int .i64 1]) (by simp [results, Tryz.results6, go_sem]) rfl ⟨rfl, hK.out⟩
theorem fnew_no (h : ¬ Net H S ∨ room < 0 ∨ 1073741824 < room ∨ most < 0 ∨ 1073741824 < most) (w : World) : Calls Tryz.prog 6 #[.int .i64 H, .int .i64 S, .int .i64 room, .int .i64 most, .bool trim] w fun e w' => e = .returned (.tuple #[.pointer none, .int .i64 1]) ∧ Kept (fun _ => False) w w' := by
 by_cases hn : Net H S
 ·have h2 := h.resolve_left (fun f => f hn)
  have hm := mm_in hn
  have h8 := hn.h0
  obtain ⟨hh, e1⟩ := Int.eq_ofNat_of_zero_le (show 0 ≤ H by omega)
  obtain ⟨n, e2⟩ := Int.eq_ofNat_of_zero_le (show 0 ≤ pts H S by unfold pts; omega)
  exact fnew_port (K := ⟨H, S, hh, n, room, most, trim⟩) ⟨hn, e1.symm, e2.symm⟩ h2 w
 ·refine (fnew_net hn w).mono ?_
  rintro e w' ⟨rfl, rfl⟩
  exact ⟨rfl, Kept.refl _ _⟩
end Go.Proofs.YtpogpibjkolioaaGreat.Fb

/- A fabric and its books beside WHATEVER other blocks that no call touches (a predicate X). Conditions: each theorem's own. -/
namespace Go.Proofs.YtpogpibjkolioaaGreat.Fb
open Go.RowKit Hp QuM QuN Rw Qu NumM NumC Po Fo FbM TpM Tp
def FP (w0 : World) (K : Cf) (M : Mo) (c : Int) (X : Nat → Prop) (fb : Nat) (w : World) : Prop := Iv K M c ∧ ∃ a, a.fb = fb ∧ Fab w0 K a M w ∧ ∀ b, X b → ¬ ownA K a b ∧ b < w.heap.size
abbrev NX (X : Nat → Prop) : Nat → Prop := fun i => ¬ X i
variable {w0 w w' : World} {K : Cf} {M : Mo} {c : Int} {X : Nat → Prop} {fb : Nat}
theorem FP.fv (h : FP w0 K M c X fb w) : FV w0 K M c fb w := by
 obtain ⟨h1, a, h2, h3, _⟩ := h
 exact ⟨h1, a, h2, h3⟩
theorem FP.iv (h : FP w0 K M c X fb w) : Iv K M c := h.1
theorem FP.since (h : FP w0 K M c X fb w) : Kept (fun _ => False) w0 w := h.fv.since
theorem FP.old (h : FP w0 K M c X fb w) (k : Kept (fun _ => False) w w') : FP w0 K M c X fb w' := by
 obtain ⟨h1, a, h2, h3, h4⟩ := h
 exact ⟨h1, a, h2, h3.old k, fun b hb => ⟨(h4 b hb).1, Nat.lt_of_lt_of_le (h4 b hb).2 k.size⟩⟩
theorem FP.far {G X' : Nat → Prop} (h : FP w0 K M c X fb w) (k : Kept G w w') (hG : ∀ i, G i → X i) (hu : ∀ i, G i → i < w.heap.size → ∃ C T, Blk w i C T ∧ T ≠ 5) (hw : ∀ i, G i → w0.heap.size ≤ i) (hX : ∀ i, X' i → X i ∨ w.heap.size ≤ i) (hl : ∀ i, X' i → i < w'.heap.size) : FP w0 K M c X' fb w' := by
 obtain ⟨h1, a, h2, h3, h4⟩ := h
 refine ⟨h1, a, h2, h3.far k (fun i hi e => (h4 i (hG i hi)).1 e) (fun x hx g hg hgb => ?_) hw, fun i hi => ⟨fun e => ?_, hl i hi⟩⟩
 ·obtain ⟨d, hd⟩ := byt_blk (h3.dat x hx).1 hg
  obtain ⟨C, T, hB, hT⟩ := hu g hgb hd.lt
  exact hT (hB.inj hd).2
 ·rcases hX i hi with e2 | e2
  ·exact (h4 i e2).1 e
  ·have := (h3.bound e).2; omega
theorem fp_of {M' : Mo} {c' : Int} {a a' : Ad} (hn : Qu.Next (ownA K a) w (ownA K a') w') (hI : Iv K M' c') (hF : Fab w0 K a' M' w') (he : a'.fb = fb) (hx : ∀ b, X b → ¬ ownA K a b ∧ b < w.heap.size) : FP w0 K M' c' X fb w' ∧ Kept (NX X) w w' :=
 ⟨⟨hI, a', he, hF, fun b hb => ⟨fun e => by
  rcases hn.2 b e with e2 | e2
  ·exact (hx b hb).1 e2
  ·have := (hx b hb).2; omega, Nat.lt_of_lt_of_le (hx b hb).2 hn.1.size⟩⟩, hn.1.mono fun i hi e hm => (hx i hm).1 e⟩
theorem fp_same (h : FP w0 K M c X fb w) (k : Kept (fun _ => False) w w') : FP w0 K M c X fb w' ∧ Kept (NX X) w w' := ⟨h.old k, k.mono fun _ _ f => f.elim⟩
theorem fp_new (hc : K.Ok) (h0 : 0 ≤ K.room) (h1 : K.room ≤ 1073741824) (h2 : 0 ≤ K.most) (h3 : K.most ≤ 1073741824) (w : World) :
  Calls Tryz.prog 6 #[.int .i64 K.H, .int .i64 K.S, .int .i64 K.room, .int .i64 K.most, .bool K.trim] w fun e w' => ∃ fb, e = .returned (.tuple #[ptr fb, .int .i64 0]) ∧ FP w K M0 0 (fun i => i < w.heap.size) fb w' := by
 refine (fnew_yes hc h0 h1 h2 h3 w).mono ?_
 rintro e w' ⟨a, rfl, hF, ho⟩
 exact ⟨a.fb, rfl, iv_new hc, a, rfl, hF, fun b hb => ⟨fun e => by have := ho b e; omega, Nat.lt_of_lt_of_le hb hF.since.size⟩⟩
theorem fp_send_no (h : FP w0 K M c X fb w) {J q : Int} {x : Bx} (hn : NoS K J x.f) :
  Calls Tryz.prog 8 #[ptr fb, .int .i64 J, fv x, .int .i64 q] w fun e w' => e = .returned (.tuple #[.int .i64 0, .int .i64 1]) ∧ FP w0 K M c X fb w' ∧ Kept (NX X) w w' := by
 have h' := h
 obtain ⟨h1, a, rfl, h3, _⟩ := h
 refine (send_no h3 hn).mono ?_
 rintro e w' ⟨rfl, k⟩
 exact ⟨rfl, fp_same h' k⟩
theorem fp_send_yes (h : FP w0 K M c X fb w) (hc : c ≤ 30000) {J q : Int} {x : Bx} (hr : Rd w x) (hx : (0 ≤ J ∧ J < K.H) ∧ WrM.Ok x.f ∧ (0 ≤ x.f.dst ∧ x.f.dst < K.H) ∧ x.f.dst ≠ J) :
  Calls Tryz.prog 8 #[ptr fb, .int .i64 J, fv x, .int .i64 q] w fun e w' => e = .returned (.tuple #[.int .i64 (dD K M J.toNat ⟨x.f, x.s, x.c, q⟩).1, .int .i64 0]) ∧ ∃ s cc, FP w0 K (putM K M J.toNat ⟨x.f, x.s, x.c, q⟩ s cc) (c + 1) X fb w' ∧ Kept (NX X) w w' := by
 obtain ⟨h1, a, rfl, h3, h4⟩ := h
 have hl := h1.ok.le
 have hH := h1.ok.hn
 refine (send_yes h3 (h1.bd (by omega)) hr hx).mono ?_
 rintro e w' ⟨rfl, s, cc, a', g1, g2, g3⟩
 refine ⟨rfl, s, cc, fp_of g2 (h1.put (by omega) ⟨?_, ?_⟩ s cc) g1 g3 h4⟩
 ·have := okAt_up h1.ok.net (p := J) hx.1.1 hx.1.2 hx.2.2.1.1 hx.2.2.1.2
  rw [Int.toNat_of_nonneg hx.1.1]
  exact this
 ·have := hx.2.1.1
  unfold WrM.Fit at this
  dsimp only
  omega
theorem fp_serve_no (h : FP w0 K M c X fb w) {J t : Int} (hj : J < 0 ∨ (K.n : Int) ≤ J) : Calls Tryz.prog 10 #[ptr fb, .int .i64 J, .int .i64 t] w fun e w' => e = .returned (.tuple #[.bool false, .int .i64 5]) ∧ FP w0 K M c X fb w' ∧ Kept (NX X) w w' := by
 have h' := h
 obtain ⟨h1, a, rfl, h3, _⟩ := h
 refine (serve_no h3 hj).mono ?_
 rintro e w' ⟨rfl, rfl⟩
 exact ⟨rfl, fp_same h' (Kept.refl _ _)⟩
theorem fp_serve_none (h : FP w0 K M c X fb w) (hc : c ≤ 30000) {p : Nat} (hp : p < K.n) {t : Int} (hx : tkX (M.P p) t = none) : Calls Tryz.prog 10 #[ptr fb, .int .i64 (p : Nat), .int .i64 t] w fun e w' => e = .returned (.tuple #[.bool false, .int .i64 0]) ∧ FP w0 K (srv0 M p t) c X fb w' ∧ Kept (NX X) w w' := by
 obtain ⟨h1, a, rfl, h3, h4⟩ := h
 refine (serve_none h3 (h1.bd (by omega)) hp hx).mono ?_
 rintro e w' ⟨rfl, a', g1, g2, g3⟩
 exact ⟨rfl, fp_of g2 (h1.srv0 hp hx) g1 g3 h4⟩
theorem fp_serve_some (h : FP w0 K M c X fb w) (hc : c ≤ 30000) {p : Nat} (hp : p < K.n) {t : Int} {x : Bx} (hx : tkX (M.P p) t = some x) : Calls Tryz.prog 10 #[ptr fb, .int .i64 (p : Nat), .int .i64 t] w fun e w' => e = .returned (.tuple #[.bool true, .int .i64 0]) ∧ ∃ M', SvM K M p t x M' ∧ FP w0 K M' c X fb w' ∧ Kept (NX X) w w' := by
 obtain ⟨h1, a, rfl, h3, hex⟩ := h
 have hf := h1.fine p hp x (in_tkX hx)
 have h4 := h1.srv1 hp hx
 have hok := okAt_next h1.ok.net hf.1 x.q
 refine (serve_some h3 (h1.bd (by omega)) hp hx (h1.go hp (in_tkX hx)) hf.1 (h4.bd (by omega)).b).mono ?_
 rintro e w' ⟨rfl, hS⟩
 refine ⟨rfl, ?_⟩
 rcases hS with ⟨e1, a', g1, g2, g3⟩ | ⟨e1, s, cc, a', g1, g2, g3⟩
 ·rcases hok with ⟨o1, o2⟩ | ⟨o1, o2⟩
  ·have hd : x.f.dst.toNat < K.hn := by have := h1.ok.hn; have := hf.1.2.2.1; have := hf.1.2.2.2.1; omega
   exact ⟨_, Or.inl ⟨e1, o2, rfl⟩, fp_of g2 (h1.srv2 hp hx hd) g1 g3 hex⟩
  ·rw [e1] at o1; cases o1
 ·rcases hok with ⟨o1, o2⟩ | ⟨o1, o2⟩
  ·rw [o1] at e1; cases e1
  ·have hq0 := o2.1
   have hq : (nx K.H K.S p x.f.dst x.q).1.toNat < K.n := by have := o2.2.1; have := h1.ok.n; omega
   have h5 := h4.put hq (x := x) ⟨by rw [Int.toNat_of_nonneg hq0]; exact o2, hf.2⟩ s cc
   rw [show c - 1 + 1 = c by omega] at h5
   exact ⟨_, Or.inr ⟨e1, hq0, hq, s, cc, rfl⟩, fp_of g2 h5 g1 g3 hex⟩
theorem fp_take_off (h : FP w0 K M c X fb w) {J : Int} (hj : J < 0 ∨ (K.hn : Int) ≤ J) : Calls Tryz.prog 12 #[ptr fb, .int .i64 J] w fun e w' => e = .returned (.tuple #[fv zF, .bool false]) ∧ FP w0 K M c X fb w' ∧ Kept (NX X) w w' := by
 have h' := h
 obtain ⟨h1, a, rfl, h3, _⟩ := h
 refine (ftake_off h3 hj).mono ?_
 rintro e w' ⟨rfl, k⟩
 exact ⟨rfl, fp_same h' k⟩
theorem fp_take_none (h : FP w0 K M c X fb w) {j : Nat} (hj : j < K.hn) (hI : M.I j = []) : Calls Tryz.prog 12 #[ptr fb, .int .i64 (j : Nat)] w fun e w' => e = .returned (.tuple #[fv zF, .bool false]) ∧ FP w0 K M c X fb w' ∧ Kept (NX X) w w' := by
 have h' := h
 obtain ⟨h1, a, rfl, h3, h4⟩ := h
 refine (ftake_none h3 hj hI).mono ?_
 rintro e w' ⟨rfl, k⟩
 exact ⟨rfl, fp_same h' k⟩
theorem fp_take_some (h : FP w0 K M c X fb w) (hc : c ≤ 30000) {j : Nat} (hj : j < K.hn) {x : Bx} {L : List Bx} (hI : M.I j = x :: L) : Calls Tryz.prog 12 #[ptr fb, .int .i64 (j : Nat)] w fun e w' => e = .returned (.tuple #[fv x, .bool true]) ∧ Dat w0 w' x ∧ FP w0 K { M with I := upd M.I j L } (c - 1) X fb w' ∧ Kept (NX X) w w' := by
 obtain ⟨h1, a, rfl, h3, h4⟩ := h
 refine (ftake_some h3 hj ((h1.bd (by omega)).i j hj) hI).mono ?_
 rintro e w' ⟨rfl, hd, a', g1, g2, g3⟩
 exact ⟨rfl, hd, fp_of g2 (h1.take hj hI) g1 g3 h4⟩
theorem fp_drop_no (h : FP w0 K M c X fb w) (hc : c ≤ 30000) {J k : Int} (hj : (J < 0 ∨ (K.n : Int) ≤ J) ∨ ∃ p : Nat, J = p ∧ p < K.n ∧ (k < 0 ∨ ((accL (M.P p).ls (M.P p).cr 9).length : Int) ≤ k)) (hk2 : k ≤ 9223372036854775807) : Calls Tryz.prog 15 #[ptr fb, .int .i64 J, .int .i64 k] w fun e w' => e = .returned (.int .i64 5) ∧ FP w0 K M c X fb w' ∧ Kept (NX X) w w' := by
 have h' := h
 obtain ⟨h1, a, rfl, h3, _⟩ := h
 rcases hj with hj | ⟨p, rfl, hp, hk⟩
 ·refine (fdrop_off h3 hj).mono ?_
  rintro e w' ⟨rfl, k⟩
  exact ⟨rfl, fp_same h' k⟩
 ·refine (fdrop_none h3 (h1.bd (by omega)) hp hk hk2).mono ?_
  rintro e w' ⟨rfl, k⟩
  exact ⟨rfl, fp_same h' k⟩
theorem fp_drop_yes (h : FP w0 K M c X fb w) (hc : c ≤ 30000) {p k : Nat} (hp : p < K.n) {x : Bx} (hx : (accL (M.P p).ls (M.P p).cr 9)[k]? = some x) : Calls Tryz.prog 15 #[ptr fb, .int .i64 (p : Nat), .int .i64 (k : Nat)] w fun e w' => e = .returned (.int .i64 0) ∧ ∃ i at_, i < 9 ∧ (lnl (M.P p).ls (M.P p).cr i)[at_]? = some x ∧ (accL (M.P p).ls (M.P p).cr i).length + at_ = k ∧ FP w0 K (drM M p i at_ x) c X fb w' ∧ Kept (NX X) w w' := by
 obtain ⟨h1, a, rfl, h3, h4⟩ := h
 refine (fdrop_yes h3 (h1.bd (by omega)) hp hx (h1.go hp (in_acc (List.mem_of_getElem? hx)))).mono ?_
 rintro e w' ⟨rfl, i, at_, g1, g2, g3, a', g4, g5, g6⟩
 exact ⟨rfl, i, at_, g1, g2, g3, fp_of g5 (h1.dr hp g1 g2) g4 g6 h4⟩
theorem fp_double_no (h : FP w0 K M c X fb w) (hc : c ≤ 30000) {J k : Int} (hj : (J < 0 ∨ (K.n : Int) ≤ J) ∨ ∃ p : Nat, J = p ∧ p < K.n ∧ (k < 0 ∨ ((accL (M.P p).ls (M.P p).cr 9).length : Int) ≤ k)) (hk2 : k ≤ 9223372036854775807) : Calls Tryz.prog 17 #[ptr fb, .int .i64 J, .int .i64 k] w fun e w' => e = .returned (.int .i64 5) ∧ FP w0 K M c X fb w' ∧ Kept (NX X) w w' := by
 have h' := h
 obtain ⟨h1, a, rfl, h3, _⟩ := h
 rcases hj with hj | ⟨p, rfl, hp, hk⟩
 ·refine (fdouble_off h3 hj).mono ?_
  rintro e w' ⟨rfl, k⟩
  exact ⟨rfl, fp_same h' k⟩
 ·refine (fdouble_none h3 (h1.bd (by omega)) hp hk hk2).mono ?_
  rintro e w' ⟨rfl, k⟩
  exact ⟨rfl, fp_same h' k⟩
theorem fp_double_yes (h : FP w0 K M c X fb w) (hc : c ≤ 30000) {p k : Nat} (hp : p < K.n) {x : Bx} (hx : (accL (M.P p).ls (M.P p).cr 9)[k]? = some x) : Calls Tryz.prog 17 #[ptr fb, .int .i64 (p : Nat), .int .i64 (k : Nat)] w fun e w' => e = .returned (.int .i64 0) ∧ ∃ s1 c1 s cc, FP w0 K (putM K M p ⟨x.f, s1, c1, x.q⟩ s cc) (c + 1) X fb w' ∧ Kept (NX X) w w' := by
 obtain ⟨h1, a, rfl, h3, h4⟩ := h
 have hin := in_acc (List.mem_of_getElem? hx)
 refine (fdouble_yes h3 (h1.bd (by omega)) hp hx (h1.go hp hin)).mono ?_
 rintro e w' ⟨rfl, s1, c1, s, cc, a', g1, g2, g3⟩
 exact ⟨rfl, s1, c1, s, cc, fp_of g2 (h1.put hp (x := ⟨x.f, s1, c1, x.q⟩) (h1.fine p hp x hin) s cc) g1 g3 h4⟩
end Go.Proofs.YtpogpibjkolioaaGreat.Fb

/- The reference's port in memory: rows, made, how much is used. Conditions: each theorem's own. -/
namespace Go.Proofs.YtpogpibjkolioaaGreat.Rf
open Go.RowKit Hp QuM Rw Qu Po NumM NumC
attribute [local go_sem ↓] Go.wp_at_zero Go.wp_at_succ
abbrev tI : TypeId := 88
@[reducible] def rT : Rw.Ty Bx where
 E := 88
 L := 103
 k := 11
 bz := 104
 enc x := [.int .i64 x.f.kind, .int .i64 x.f.src, .int .i64 x.f.dst, .int .i64 x.f.prio, .int .u64 (x.f.msg : Int), .int .i64 x.f.off, .int .i64 x.f.len, .int .i64 x.f.total, .int .i64 x.f.num, .slice x.s x.f.data.length x.c, .int .i64 x.q]
 z := .agg #[.int .i64 0, .int .i64 0, .int .i64 0, .int .i64 0, .int .u64 0, .int .i64 0, .int .i64 0, .int .i64 0, .int .i64 0, .slice none 0 0, .int .i64 0]
 hL := Tryz.underlying103
 hI := by kernel_rfl
 hz := rfl
 hk _ := rfl
 h1 x v hv := by simp at hv; rcases hv with rfl | rfl | rfl | rfl | rfl | rfl | rfl | rfl | rfl | rfl | rfl <;> rfl
 k0 := by decide
 hb := by decide
abbrev tR : TypeId := 119
abbrev rcs (room most : Int) (trim : Bool) (vs : Nat → Value) (vc : Value) (now last : Int) (ever : Bool) : List Value :=
 [.int .i64 room, .int .i64 most, .bool trim, vs 0, vs 1, vs 2, vs 3, vs 4, vs 5, vs 6, vs 7, vc, .int .i64 now, .int .i64 last, .bool ever]
theorem rcs_at (room most : Int) (trim : Bool) (vs : Nat → Value) (vc : Value) (now last : Int) (ever : Bool) {k : Nat} (hk : k < 8) : (rcs room most trim vs vc now last ever)[3 + k]? = some (vs k) := by
 have h8 : k = 0 ∨ k = 1 ∨ k = 2 ∨ k = 3 ∨ k = 4 ∨ k = 5 ∨ k = 6 ∨ k = 7 := by omega
 rcases h8 with rfl | rfl | rfl | rfl | rfl | rfl | rfl | rfl <;> rfl
theorem rcs_set (room most : Int) (trim : Bool) (vs : Nat → Value) (vc : Value) (now last : Int) (ever : Bool) {k : Nat} (hk : k < 8) (v : Value) : (rcs room most trim vs vc now last ever).set (3 + k) v = rcs room most trim (upd vs k v) vc now last ever := by
 have h8 : k = 0 ∨ k = 1 ∨ k = 2 ∨ k = 3 ∨ k = 4 ∨ k = 5 ∨ k = 6 ∨ k = 7 := by omega
 rcases h8 with rfl | rfl | rfl | rfl | rfl | rfl | rfl | rfl <;> rfl
def Rok (w0 : World) (x : Bx) : Prop := 0 ≤ x.f.len ∧ x.f.len ≤ 2000 ∧ Rd w0 x
structure Rf (w0 : World) (m : Nat) (room most : Int) (trim : Bool) (ls : Nat → List Bx) (cr : List Bx) (now last : Int) (ever : Bool) (vs : Nat → Value) (vc : Value) (w : World) : Prop where
 since : Kept (fun _ => False) w0 w
 blk : Blk w m (rcs room most trim vs vc now last ever) tR
 row : ∀ k, k < 8 → Ro.Row rT w (vs k) (ls k)
 rowc : Ro.Row rT w vc cr
 low : w0.heap.size ≤ m
 ok : ∀ k x, k < 8 → x ∈ ls k → Rok w0 x
 okc : ∀ x, x ∈ cr → Rok w0 x
 lim : 0 ≤ room ∧ room ≤ 1073741824 ∧ 0 ≤ most ∧ most ≤ 1073741824
def frp (m : Nat) (vs : Nat → Value) (vc : Value) (i : Nat) : Prop := i = m ∨ (∃ k, k < 8 ∧ (vs k).ownBlock = some i) ∨ vc.ownBlock = some i
def RS (w0 : World) (m : Nat) (room most : Int) (trim : Bool) (ls : Nat → List Bx) (cr : List Bx) (now last : Int) (ever : Bool) (R : Nat → Prop) (w : World) : Prop :=
 ∃ vs vc, Rf w0 m room most trim ls cr now last ever vs vc w ∧ R = frp m vs vc
variable {w0 w w' : World} {m : Nat} {room most : Int} {trim : Bool} {ls : Nat → List Bx} {cr : List Bx} {now last : Int} {ever : Bool} {vs : Nat → Value} {vc : Value} {R G : Nat → Prop}
theorem row_ne {v : Value} {l : List Bx} {c : List Value} (h : Ro.Row rT w v l) (hB : Blk w m c tR) {g : Nat} (hg : v.ownBlock = some g) : g ≠ m := by
 intro e
 subst e
 rcases h with ⟨rfl, _⟩ | ⟨g', o, cap, cur, rfl, h2⟩
 ·cases hg
 ·cases hg
  exact absurd (hB.inj h2.blk).2 (by decide)
theorem Rf.bound (h : Rf w0 m room most trim ls cr now last ever vs vc w) {i : Nat} (hi : frp m vs vc i) : i < w.heap.size := by
 rcases hi with rfl | ⟨k, hk, e⟩ | e
 ·exact h.blk.lt
 ·exact (h.row k hk).lt i e
 ·exact h.rowc.lt i e
theorem Rf.kept (h : Rf w0 m room most trim ls cr now last ever vs vc w) (k : Kept G w w') (hG : ∀ i, G i → frp m vs vc i → False) (hw : ∀ i, G i → w0.heap.size ≤ i) : Rf w0 m room most trim ls cr now last ever vs vc w' :=
 { h with
  since := h.since.trans' k (fun i hi g => by have := hw i g; omega)
  blk := k.blk h.blk (fun g => hG m g (Or.inl rfl))
  row := fun j hj => (h.row j hj).kept k (fun g hg e => hG g e (Or.inr (Or.inl ⟨j, hj, hg⟩)))
  rowc := h.rowc.kept k (fun g hg e => hG g e (Or.inr (Or.inr hg))) }
theorem Rf.old (h : Rf w0 m room most trim ls cr now last ever vs vc w) (k : Kept (fun _ => False) w w') : Rf w0 m room most trim ls cr now last ever vs vc w' := h.kept k (fun _ f => f.elim) (fun _ f => f.elim)
theorem RS.old (h : RS w0 m room most trim ls cr now last ever R w) (k : Kept (fun _ => False) w w') : RS w0 m room most trim ls cr now last ever R w' := by
 obtain ⟨vs, vc, h, rfl⟩ := h; exact ⟨vs, vc, h.old k, rfl⟩
theorem RS.far (h : RS w0 m room most trim ls cr now last ever R w) (k : Kept G w w') (hG : ∀ i, G i → R i → False) (hw : ∀ i, G i → w0.heap.size ≤ i) : RS w0 m room most trim ls cr now last ever R w' := by
 obtain ⟨vs, vc, h, rfl⟩ := h; exact ⟨vs, vc, h.kept k hG hw, rfl⟩
theorem RS.bound (h : RS w0 m room most trim ls cr now last ever R w) {i : Nat} (hi : R i) : i < w.heap.size := by
 obtain ⟨vs, vc, h, rfl⟩ := h; exact h.bound hi
theorem RS.own (h : RS w0 m room most trim ls cr now last ever R w) : R m ∧ w0.heap.size ≤ m := by
 obtain ⟨vs, vc, h, rfl⟩ := h; exact ⟨Or.inl rfl, h.low⟩
theorem newr_no {room most : Int} {trim : Bool} (h : room < 0 ∨ 1073741824 < room ∨ most < 0 ∨ 1073741824 < most) (w : World) : Calls Tryz.prog 30 #[.int .i64 room, .int .i64 most, .bool trim] w fun e w' => e = .returned (.tuple #[.pointer none, .int .i64 1]) ∧ w = w' := by
 have hc : room < 0 ∨ (decide (room < 0) = false ∧ 1073741824 < room) ∨ (decide (room < 0) = false ∧ decide (1073741824 < room) = false ∧ most < 0) ∨ (decide (room < 0) = false ∧ decide (1073741824 < room) = false ∧ decide (most < 0) = false ∧ 1073741824 < most) := by
  simp only [decide_eq_false_iff_not]; omega
 clear h
 rcases hc with h1 | ⟨h1, h2⟩ | ⟨h1, h2, h3⟩ | ⟨h1, h2, h3, h4⟩
 all_goals
  go_enter Tryz.func30, Tryz.ntmps30
  go_wp2_with fail
  exact bodyPost_ret (v := .tuple #[.pointer none, .int .i64 1]) (by simp [results, Tryz.results30, go_sem]) rfl ⟨rfl, rfl⟩
theorem newr_yes {room most : Int} {trim : Bool} (h0 : 0 ≤ room) (h1 : room ≤ 1073741824) (h2 : 0 ≤ most) (h3 : most ≤ 1073741824) (k0 : Kept (fun _ => False) w0 w) : Calls Tryz.prog 30 #[.int .i64 room, .int .i64 most, .bool trim] w fun e w' => ∃ m R, e = .returned (.tuple #[.pointer (some ⟨m, 0, none⟩), .int .i64 0]) ∧ RS w0 m room most trim (fun _ => []) [] 0 0 false R w' ∧ Kept (fun _ => False) w w' ∧ (∀ i, R i → w.heap.size ≤ i) := by
 have g0 : decide (room < 0) = false := by rw [decide_eq_false_iff_not]; omega
 have g1 : decide (1073741824 < room) = false := by rw [decide_eq_false_iff_not]; omega
 have g2 : decide (most < 0) = false := by rw [decide_eq_false_iff_not]; omega
 have g3 : decide (1073741824 < most) = false := by rw [decide_eq_false_iff_not]; omega
 have LM := Lib.hid (And.intro h0 (And.intro h1 (And.intro h2 h3)))
 have hB := Blk.new w (rcs room most trim (fun _ => .slice none 0 0) (.slice none 0 0) 0 0 false) tR
 have hk := (Kept.refl (fun _ => False) w).alloc (.cells (rcs room most trim (fun _ => .slice none 0 0) (.slice none 0 0) 0 0 false).toArray tR)
 have hR : Hid (RS w0 w.heap.size room most trim (fun _ => []) [] 0 0 false (frp w.heap.size (fun _ => .slice none 0 0) (.slice none 0 0)) (w.alloc (.cells (rcs room most trim (fun _ => .slice none 0 0) (.slice none 0 0) 0 0 false).toArray tR))) :=
  Lib.hid ⟨_, _, ⟨k0.trans hk, hB, fun k hk => Ro.Row.none rT _, Ro.Row.none rT _, k0.size, fun k x hk hx => (by cases hx), fun x hx => (by cases hx), ⟨h0, h1, h2, h3⟩⟩, rfl⟩
 have HK := Lib.hid hk
 unfold rcs at hR HK
 dsimp only [List.toArray] at hR HK
 clear hB hk
 go_enter Tryz.func30, Tryz.ntmps30
 go_wp2_with fail
 exact bodyPost_ret (v := .tuple #[.pointer (some ⟨w.heap.size, 0, none⟩), .int .i64 0]) (by simp [results, Tryz.results30, go_sem]) rfl ⟨_, _, rfl, hR.out, HK.out, fun i hi => by
  rcases hi with rfl | ⟨k, _, e⟩ | e
  ·exact Nat.le_refl _
  ·cases e
  ·cases e⟩
end Go.Proofs.YtpogpibjkolioaaGreat.Rf

