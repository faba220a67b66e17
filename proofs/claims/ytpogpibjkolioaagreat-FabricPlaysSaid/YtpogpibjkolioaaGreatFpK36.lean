/- The document's own fabric, made. Conditions: each theorem's own. -/
import Derived.Test.YtpogpibjkolioaaGreatFpK34
import Derived.Test.YtpogpibjkolioaaGreatFpK20
import Derived.Laws.MakeOwn
import Derived.Laws.OwnMore
set_option linter.unusedVariables false
set_option linter.unusedSimpArgs false
namespace Go.Proofs.YtpogpibjkolioaaGreat.Fc
open Go.RowKit Hp QuM QuN Rw Qu Po Fo NumM NumC FbM TpM Tp Go.Proofs.YtpogpibjkolioaaGreat.Fb Rf
attribute [local go_sem ↓] Go.wp_at_zero Go.wp_at_succ
variable {w0 w w' w'' : World} {K : Cf} {N N' : Mo} {X X' : Nat → Prop} {a : Ar} {mb : Nat} {H S room most : Int} {trim : Bool}
theorem netR_new (n : Net H S) (w : World) : Calls Tryz.prog 28 #[.int .i64 H, .int .i64 S] w fun e w' => ∃ b, e = .returned (.tuple #[ptr b, .int .i64 0]) ∧ MV w' b H S ∧ Kept (fun _ => False) w w' ∧ w.heap.size ≤ b := by
 obtain ⟨h0, h1, h2, h3⟩ := n
 have d1 : decide (8 < H) = false := by rw [decide_eq_false_iff_not]; omega
 have d2 : decide (S < 1) = false := by rw [decide_eq_false_iff_not]; omega
 have d3 : decide (4 < S) = false := by rw [decide_eq_false_iff_not]; omega
 go_enter Tryz.func28, Tryz.ntmps28
 go_wp2_with fail
 exact bodyPost_ret (v := .tuple #[ptr w.heap.size, .int .i64 0]) (by simp [results, Tryz.results28, go_sem]) rfl ⟨_, rfl, Blk.new w _ _, (Kept.refl _ w).alloc _, Nat.le_refl _⟩
@[reducible] def mT : Rw.Ty Nat where
 E := 75
 L := 54
 k := 1
 bz := 8
 enc x := [.pointer (some ⟨x, 0, none⟩)]
 z := .pointer none
 hL := Tryz.underlying54
 hI := by kernel_rfl
 hz := rfl
 hk _ := rfl
 h1 x v hv := by simp at hv; rcases hv with rfl; rfl
 k0 := by decide
 hb := by decide
@[reducible] def vT : Rw.Ty Unit where
 E := 58
 L := 55
 k := 1
 bz := 24
 enc x := [.slice none 0 0]
 z := .slice none 0 0
 hL := Tryz.underlying55
 hI := by kernel_rfl
 hz := rfl
 hk _ := rfl
 h1 x v hv := by simp at hv; rcases hv with rfl; rfl
 k0 := by decide
 hb := by decide
theorem made_v (n : Nat) : madeCells (vT.z).cells (n * 1) = (Rw.flat vT (List.replicate n ())).toArray := by
 apply Array.toList_inj.1
 apply List.ext_getElem?
 intro t
 have hl : (Rw.flat vT (List.replicate n ())).length = n * 1 := by have : (Rw.flat vT (List.replicate n ())).length = (List.replicate n ()).length * 1 := flat_len vT _; rwa [List.length_replicate] at this
 by_cases ht : t < n * 1
 ·show _ = (Rw.flat vT (List.replicate n ()))[t]?
  have h2 := flat_at vT (l := List.replicate n ()) (i := t) (x := ()) (by rw [List.getElem?_replicate, if_pos (by omega)]) (j := 0) (by decide)
  have e : t * vT.k + 0 = t := by show t * 1 + 0 = t; omega
  rw [e] at h2
  rw [h2]
  unfold madeCells
  rw [Array.toList_map, List.getElem?_map, Array.toList_range, List.getElem?_range ht]
  show some ((#[.slice none 0 0] : Array Value)[t % 1]!) = _
  rw [Nat.mod_one]
  rfl
 ·rw [List.getElem?_eq_none (by rw [Array.length_toList, size_madeCells]; omega), List.getElem?_eq_none (by show (Rw.flat vT (List.replicate n ())).length ≤ t; omega)]
theorem run_mv (n : Nat) (hn : n ≤ 8) (w : World) : (Instr.makeSlice vT.L (.int .i64 (n : Int)) (.int .i64 (n : Int))).run Tryz.prog w = .ok (.slice (some ⟨w.heap.size, 0, none⟩) n n) (w.alloc (.cells (Rw.flat vT (List.replicate n ())).toArray vT.E)) := by
 obtain ⟨ti, hti, hz0, hz1, hz2⟩ := info_parts vT.hI
 have := run_make (P := Tryz.prog) (w := w) vT.L vT.E ti _ vT.hL hti hz0 .i64 .i64 (n : Int) (n : Int) (by omega) (by omega) (by rw [hz2]; show ((24 : Nat) : Int) * _ ≤ _; omega) (by omega)
 rw [Int.toNat_natCast, hz1, made_v] at this
 exact this
theorem RP.sort {m i : Nat} {P : Pt} {R : Nat → Prop} (h : RP w0 m room most trim P R w) (hi : R i) : ∃ C T, Blk w i C T ∧ (T = tR ∨ T = 88) := by
 obtain ⟨_, _, _, vs, vc, h, rfl⟩ := h
 rcases hi with e | ⟨k, hk, e⟩ | e
 ·subst e; exact ⟨_, _, h.blk, Or.inl rfl⟩
 ·rcases h.row k hk with ⟨q, _⟩ | ⟨g', o, cap, cur, q, h8⟩
  ·rw [q] at e; cases e
  ·rw [q] at e; cases e; exact ⟨_, _, h8.blk, Or.inr rfl⟩
 ·rcases h.rowc with ⟨q, _⟩ | ⟨g', o, cap, cur, q, h8⟩
  ·rw [q] at e; cases e
  ·rw [q] at e; cases e; exact ⟨_, _, h8.blk, Or.inr rfl⟩
theorem RP.farT {m : Nat} {P : Pt} {R G : Nat → Prop} (h : RP w0 m room most trim P R w) (k : Kept G w w') (hG : ∀ i, G i → i < w.heap.size → ∃ C T, Blk w i C T ∧ T ≠ tR ∧ T ≠ 88) (hw : ∀ i, G i → w0.heap.size ≤ i) : RP w0 m room most trim P R w' :=
 h.far k (fun i e f => by
  obtain ⟨C, T, hB, h1, h2⟩ := hG i e (RP.bound h f)
  obtain ⟨C', T', hB', h3⟩ := RP.sort h f
  have := (hB.inj hB').2
  rcases h3 with h3 | h3
  ·exact h1 (this.trans h3)
  ·exact h2 (this.trans h3)) hw
structure NewJ (w0 w : World) (K : Cf) (nb ib mb n0 : Nat) (v : Value) (pl : List Nat) (wr : World) : Prop where
 base : Kept (fun _ => False) w0 w
 kept : Kept (fun _ => False) w wr
 blk : Blk wr mb [ptr nb, v, .slice (some ⟨ib, 0, none⟩) K.hn K.hn, .int .i64 0] tFr
 mv : MV wr nb K.H K.S
 irow : Blk wr ib (Rw.flat vT (List.replicate K.hn ())) tFs
 row : Rw.Row mT wr n0 v pl
 prt : ∀ (p q : Nat), pl[p]? = some q → ∃ R, RP w0 q K.room K.most K.trim eP R wr ∧ ∀ i, R i → w.heap.size ≤ i
 inj : ∀ (p q m : Nat), pl[p]? = some m → pl[q]? = some m → p = q
 low : w.heap.size ≤ nb ∧ nb < n0 ∧ w.heap.size ≤ ib ∧ ib < n0 ∧ w.heap.size ≤ mb ∧ mb < n0 ∧ n0 ≤ wr.heap.size
theorem NewJ.old {nb ib mb n0 : Nat} {v : Value} {pl : List Nat} {wr w2 : World} (h : NewJ w0 w K nb ib mb n0 v pl wr) (k : Kept (fun _ => False) wr w2) : NewJ w0 w K nb ib mb n0 v pl w2 :=
 { base := h.base, kept := h.kept.trans k, blk := k.blk h.blk (fun f => f), mv := k.blk h.mv (fun f => f), irow := k.blk h.irow (fun f => f), row := h.row.old k, prt := fun p q hq => by obtain ⟨R, h1, h2⟩ := h.prt p q hq; exact ⟨R, h1.old k, h2⟩, inj := h.inj, low := ⟨h.low.1, h.low.2.1, h.low.2.2.1, h.low.2.2.2.1, h.low.2.2.2.2.1, h.low.2.2.2.2.2.1, Nat.le_trans h.low.2.2.2.2.2.2 k.size⟩ }
theorem NewJ.push {nb ib mb n0 : Nat} {v v' : Value} {pl : List Nat} {wr w2 w3 w4 : World} (h : NewJ w0 w K nb ib mb n0 v pl wr) {m : Nat} {R : Nat → Prop} (hP : RP w0 m K.room K.most K.trim eP R w2) (hR : ∀ i, R i → wr.heap.size ≤ i) (k2 : Kept (fun _ => False) wr w2) (k3 : Kept (fun _ => False) w2 w3)
  (hA : Rw.Apd mT w3 n0 v (pl ++ [m]) v' w4) : NewJ w0 w K nb ib mb n0 v' (pl ++ [m]) (w4.setCell ⟨mb, 1, none⟩ v') := by
 obtain ⟨l1, l2, l3, l4, l5, l6, l7⟩ := h.low
 have h3 := h.old (k2.trans k3)
 have k5 := Kept.one w4 mb 1 v'
 have hvr : ∀ g, v.ownBlock = some g → n0 ≤ g ∧ g < w3.heap.size := fun g e => h3.row.lt g e
 have nv1 : ∀ g, g < n0 → ¬ v.ownBlock = some g := fun g hg e => by have := (hvr g e).1; omega
 have hs2 := k2.size
 have hs3 := k3.size
 have hs4 := hA.kept.size
 have hsb := h.base.size
 have hb4 := hA.kept.blk h3.blk (nv1 mb l6)
 have far : ∀ {q : Nat} {R2 : Nat → Prop}, RP w0 q K.room K.most K.trim eP R2 w3 → RP w0 q K.room K.most K.trim eP R2 (w4.setCell ⟨mb, 1, none⟩ v') := fun hq =>
  RP.farT (RP.farT hq hA.kept (fun i e hi => by obtain ⟨c, hc⟩ := row_blk h3.row e; exact ⟨c, _, hc, by decide, by decide⟩) (fun i e => by have := (hvr i e).1; omega)) k5 (fun i e hi => by have h9 : i = mb := e; subst h9; exact ⟨_, _, hb4, by decide, by decide⟩) (fun i e => by have h9 : i = mb := e; omega)
 have hv' : ∀ g, v'.ownBlock = some g → n0 ≤ g := fun g e => (hA.row.lt g e).1
 refine { base := h.base, kept := (h3.kept.trans' hA.kept (fun i hi e => by have := (hvr i e).1; omega)).trans' k5 (fun i hi e => by have h9 : i = mb := e; omega), blk := hb4.set 1 v', mv := ?_, irow := ?_, row := hA.row.kept k5 (fun g e f => by have h9 : g = mb := f; have := hv' g e; omega), prt := ?_, inj := ?_, low := ⟨l1, l2, l3, l4, l5, l6, by have := k5.size; omega⟩ }
 ·exact k5.blk (hA.kept.blk h3.mv (nv1 nb l2)) (fun e => ne_blk h.mv h.blk (by decide) e)
 ·exact k5.blk (hA.kept.blk h3.irow (nv1 ib l4)) (fun e => ne_blk h.irow h.blk (by decide) e)
 ·intro p q hq
  by_cases e : p = pl.length
  ·subst e
   rw [List.getElem?_append_right (Nat.le_refl _), Nat.sub_self] at hq
   obtain rfl : m = q := by simpa using hq
   exact ⟨R, far (hP.old k3), fun i hi => by have := hR i hi; have := h.kept.size; omega⟩
  ·have hp : p < pl.length := by
    have := (List.getElem?_eq_some_iff.1 hq).1
    rw [List.length_append, List.length_singleton] at this
    omega
   rw [List.getElem?_append_left hp] at hq
   obtain ⟨R2, h4, h5⟩ := h3.prt p q hq
   exact ⟨R2, far h4, h5⟩
 ·have hlt : ∀ p q, pl[p]? = some q → q < wr.heap.size := fun p q hq => by
   obtain ⟨R2, h4, h5⟩ := h.prt p q hq
   exact RP.bound h4 (RP.own h4).1
  have hm := hR m (RP.own hP).1
  have hcase : ∀ p q, (pl ++ [m])[p]? = some q → pl[p]? = some q ∨ (p = pl.length ∧ q = m) := fun p q hq => by
   by_cases e : p < pl.length
   ·rw [List.getElem?_append_left e] at hq; exact Or.inl hq
   ·have := (List.getElem?_eq_some_iff.1 hq).1
    rw [List.length_append, List.length_singleton] at this
    have e2 : p = pl.length := by omega
    subst e2
    rw [List.getElem?_append_right (Nat.le_refl _), Nat.sub_self] at hq
    exact Or.inr ⟨rfl, by simpa using hq.symm⟩
  intro p q x h1 h2
  rcases hcase p x h1 with h1 | ⟨h1, e1⟩ <;> rcases hcase q x h2 with h2 | ⟨h2, e2⟩
  ·exact h.inj p q x h1 h2
  ·have := hlt p x h1; omega
  ·have := hlt q x h2; omega
  ·omega
theorem NewJ.fab {nb ib mb n0 : Nat} {v : Value} {pl : List Nat} {wr : World} (h : NewJ w0 w K nb ib mb n0 v pl wr) (hc : K.Ok) (hl : pl.length = K.n) : RB w0 K M0 (fun i => w.heap.size ≤ i ∧ i < wr.heap.size) mb wr := by
 obtain ⟨l1, l2, l3, l4, l5, l6, l7⟩ := h.low
 have hle := hc.le
 have hsb := h.base.size
 obtain ⟨pb, cap, cur, hv, hpb, hL⟩ : ∃ pb cap cur, v = .slice (some ⟨pb, 0, none⟩) pl.length cap ∧ n0 ≤ pb ∧ Rw.Lies mT wr pb cap cur pl := by
  rcases h.row.form with ⟨_, h0⟩ | ⟨g, cap, cur, e, h1, h2⟩
  ·rw [h0] at hl; have : K.n = 0 := hl.symm; omega
  ·exact ⟨g, cap, cur, e, h1, h2⟩
 have hcp := h.row.slice
 have hblk := h.blk
 obtain ⟨a1, c1, e1, e2, e3⟩ := hcp
 rw [hv] at e1
 cases e1
 rw [hv, hl] at hblk
 have hat : ∀ p, p < K.n → pl[p]? = some (pl.getD p 0) := fun p hp => by
  rw [List.getD_eq_getElem?_getD, List.getElem?_eq_getElem (by omega)]; rfl
 refine ⟨⟨mb, nb, pb, cap, ib, fun p => pl.getD p 0, fun _ => .slice none 0 0⟩, rfl, ?_⟩
 refine ⟨hc, h.base.trans h.kept, fun i hi => ⟨by omega, hi.2⟩, hblk, h.mv, ⟨cur, hL.blk, fun p hp => ?_⟩, ⟨_, h.irow, fun j hj => ?_⟩, fun p hp => ?_, fun j hj => Or.inl ⟨rfl, rfl⟩, fun j x hj hx => (by cases hx), fun p q hp hq e => ?_, ⟨⟨l5, h.blk.lt⟩, ⟨l1, Blk.lt h.mv⟩, ⟨by show w.heap.size ≤ pb; omega, hL.blk.lt⟩, ⟨l3, h.irow.lt⟩⟩, fun j g hj hg => (by cases hg), ⟨by show K.n ≤ cap; omega, e3⟩⟩
 ·have h1 := hL.cur_at (j := p) (by show p < pl.length * 1; omega)
  have h2 := flat_at mT (l := pl) (i := p) (x := pl.getD p 0) (hat p hp) (j := 0) (by decide)
  have e : p * mT.k + 0 = p := by show p * 1 + 0 = p; omega
  rw [e] at h2
  rw [h1, h2]; rfl
 ·have key := flat_at vT (l := List.replicate K.hn ()) (i := j) (x := ()) (by rw [List.getElem?_replicate, if_pos hj]) (j := 0) (by decide)
  have e : j * vT.k + 0 = j := by show j * 1 + 0 = j; omega
  rw [e] at key
  exact key
 ·obtain ⟨R, h4, h5⟩ := h.prt p _ (hat p hp)
  exact ⟨R, h4, fun i hi => ⟨h5 i hi, RP.bound h4 hi⟩⟩
 ·exact h.inj p q _ (hat p hp) (by show pl[q]? = some (pl.getD p 0); rw [show pl.getD p 0 = pl.getD q 0 from e]; exact hat q hq)
set_option maxRecDepth 100000 in
set_option maxHeartbeats 8000000 in
theorem nref_yes (hc : K.Ok) (h0 : 0 ≤ K.room) (h1 : K.room ≤ 1073741824) (h2 : 0 ≤ K.most) (h3 : K.most ≤ 1073741824) (k0 : Kept (fun _ => False) w0 w) :
  Calls Tryz.prog 7 #[.int .i64 K.H, .int .i64 K.S, .int .i64 K.room, .int .i64 K.most, .bool K.trim] w fun e w' => ∃ mb, e = .returned (.tuple #[ptr mb, .int .i64 0]) ∧ Kept (fun _ => False) w w' ∧ RB w0 K M0 (fun i => w.heap.size ≤ i ∧ i < w'.heap.size) mb w' := by
 have TN := Lib.hid (netR_new hc.net w)
 have PN := Lib.hid fun (w1 : World) (k : Kept (fun _ => False) w w1) => newr_yes (trim := K.trim) h0 h1 h2 h3 (k0.trans k)
 have K00 := Lib.hid k0
 have HC := Lib.hid hc
 have hle := hc.le
 have MK := run_mv K.hn hle.1
 rw [hc.hn] at MK
 have hn48 : K.n ≤ 48 := hle.2.2.1
 have PA := Lib.hid fun (w' : World) (nb : Nat) (hB : MV w' nb K.H K.S) => by have := portsR_any hB hc.net; rw [← hc.n] at this; exact this
 clear h0 h1 h2 h3 hle hc k0
 go_enter Tryz.func7, Tryz.ntmps7
 go_wp2_with fail
 with_reducible refine Calls.mono TN.out ?_
 rintro e w1 ⟨nb, rfl, hN, hk, hnb⟩
 have MK1 := MK w1
 have hN2 := Lib.hid hN
 have HK1 := Lib.hid hk
 have HNB := Lib.hid hnb
 clear hN hk hnb TN MK
 go_upto_region 5 with fail
 have HI : Hid (NewJ w0 w K nb w1.heap.size (w1.heap.size + 1) (w1.heap.size + 2) (.slice none 0 0) [] ((w1.alloc (.cells (Rw.flat vT (List.replicate K.hn ())).toArray 58)).alloc (.cells #[ptr nb, .slice none 0 0, .slice (some ⟨w1.heap.size, 0, none⟩) K.hn K.hn, .int .i64 0] 57))) := by
  have a1 := Blk.new w1 (Rw.flat vT (List.replicate K.hn ())) 58
  have k1 := (Kept.refl (fun _ => False) w1).alloc (.cells (Rw.flat vT (List.replicate K.hn ())).toArray 58)
  have s1 : (w1.alloc (.cells (Rw.flat vT (List.replicate K.hn ())).toArray 58)).heap.size = w1.heap.size + 1 := by simp
  have a2 := Blk.new (w1.alloc (.cells (Rw.flat vT (List.replicate K.hn ())).toArray 58)) [ptr nb, .slice none 0 0, .slice (some ⟨w1.heap.size, 0, none⟩) K.hn K.hn, .int .i64 0] 57
  have k2 := (Kept.refl (fun _ => False) (w1.alloc (.cells (Rw.flat vT (List.replicate K.hn ())).toArray 58))).alloc (.cells [ptr nb, .slice none 0 0, .slice (some ⟨w1.heap.size, 0, none⟩) K.hn K.hn, .int .i64 0].toArray 57)
  rw [s1] at a2
  dsimp only [List.toArray] at a2 k2
  have hnl := Blk.lt hN2.out
  have h01 := HK1.out.size
  refine Lib.hid { base := K00.out, kept := HK1.out.trans (k1.trans k2), blk := a2, mv := k2.blk (k1.blk hN2.out (fun f => f)) (fun f => f), irow := k2.blk a1 (fun f => f), row := Rw.Row.none mT _ _, prt := fun p q hq => by simp at hq, inj := fun p q m hp => by simp at hp, low := ⟨HNB.out, by omega, h01, by omega, by omega, by omega, ?_⟩ }
  simp
 obtain ⟨n0, hn0⟩ : ∃ n0, w1.heap.size + 2 = n0 := ⟨_, rfl⟩
 obtain ⟨ib, hhb⟩ : ∃ ib, w1.heap.size = ib := ⟨_, rfl⟩
 obtain ⟨mb, hfb⟩ : ∃ mb, ib + 1 = mb := ⟨_, rfl⟩
 rw [hn0, hhb, hfb] at HI
 simp only [hhb, hfb]
 clear MK1 hN2 HK1 HNB hn0 hhb hfb
 generalize (w1.alloc (.cells (Rw.flat vT (List.replicate K.hn ())).toArray 58)).alloc (.cells #[ptr nb, .slice none 0 0, .slice (some ⟨ib, 0, none⟩) K.hn K.hn, .int .i64 0] 57) = w2 at *
 go_wp2_with fail
 go_loopg [15] K.n (fun mm s15 wr => ∃ (i : Nat) (v : Value) (pl : List Nat), Hid (K.n - i ≤ mm) ∧ i ≤ K.n ∧ s15 = .int .i64 (i : Nat) ∧ Hid (pl.length = i) ∧ Hid (NewJ w0 w K nb ib mb n0 v pl wr))
 case atStart => exact ⟨0, _, [], Lib.hid (by omega), Nat.zero_le _, rfl, Lib.hid rfl, HI⟩
 case round =>
  clear HI
  obtain ⟨i, v, pl, hmm, hi, rfl, hpl, hI⟩ := hrel
  have PA1 := Lib.hid (PA.out _ _ hI.out.mv)
  rcases Nat.lt_or_ge i K.n with hlt | hge
  ·have hlt' : (i : Int) < (K.n : Int) := by omega
   go_wp2_with fail
   with_reducible refine Calls.mono PA1.out ?_
   rintro e w3 ⟨rfl, m, rfl⟩
   have HI3 := Lib.hid (hI.out.old ((Kept.refl (fun _ => False) wr).drewN m))
   clear hI PA1
   generalize wr.drewN m = w3 at *
   have PN1 := Lib.hid (PN.out _ HI3.out.kept)
   go_wp2_with fail
   with_reducible refine Calls.mono PN1.out ?_
   rintro e w4 ⟨b, R, rfl, hP, hk4, hR⟩
   have hRP : RP w0 b K.room K.most K.trim eP R w4 := ⟨0, false, ⟨Int.le_refl _, Int.le_refl _, by decide, fun _ => Int.le_refl _, fun h => by cases h⟩, hP⟩
   have HPO := Lib.hid (And.intro hRP hR)
   have HK4 := Lib.hid hk4
   obtain ⟨av, cv, rfl, _⟩ := HI3.out.row.slice
   have hbl := (HI3.out.old hk4).blk
   have c1 := hbl.cell (o := 1) rfl
   have HBL := Lib.hid hbl
   clear hP hR hk4 hbl hRP PN1
   go_upto_region 11 with fail
   have k7 := (Kept.refl (fun _ => False) w4).alloc (.cells #[.pointer (some ⟨b, 0, none⟩)] 75)
   have HR7 := Lib.hid ((HI3.out.old HK4.out).row.old k7)
   have HS7 : Hid (Rw.Src mT (w4.alloc (.cells #[.pointer (some ⟨b, 0, none⟩)] 75)) (.slice (some ⟨w4.heap.size, 0, none⟩) 1 1) [b]) := by
    have h1 := Blk.new w4 [.pointer (some ⟨b, 0, none⟩)] 75
    exact Lib.hid (Rw.src_blk (t := mT) (K := [b]) 1 h1)
   have HK7 := Lib.hid k7
   have hbs : Hid (n0 ≤ (w4.alloc (.cells #[.pointer (some ⟨b, 0, none⟩)] 75)).heap.size) := Lib.hid (Nat.le_trans (HI3.out.old HK4.out).low.2.2.2.2.2.2 k7.size)
   clear k7
   go_wp2_with (refine wpList_app mT rfl _ _ rfl n0 rfl HR7.out rfl HS7.out (by have := hpl.out; rw [List.length_singleton]; omega) hbs.out ?_; rintro v8 w8 hA; have HA := Lib.hid hA; obtain ⟨a8, c8, rfl, _⟩ := hA.row.slice; have tt := (hA.kept.blk (HK7.out.blk HBL.out (fun f => f)) (fun e => by have h1 := ((HI3.out.old HK4.out).row.lt mb e).1; have h2 := HI3.out.low.2.2.2.2.2.1; omega)).cell (o := 1) rfl; have tf := (hA.kept.blk (HK7.out.blk HBL.out (fun f => f)) (fun e => by have h1 := ((HI3.out.old HK4.out).row.lt mb e).1; have h2 := HI3.out.low.2.2.2.2.2.1; omega)).frozen 1; clear hA)
   have HA' := HA.out
   rw [List.length_append, List.length_singleton] at HA'
   have HI8 := Lib.hid (HI3.out.push HPO.out.1 HPO.out.2 HK4.out HK7.out HA')
   have HL8 : Hid ((pl ++ [b]).length = i + 1) := Lib.hid (by rw [List.length_append, hpl.out]; rfl)
   clear HA' HA tt tf HR7 HS7 HPO HK4 HK7 HI3 HBL c1
   go_roundg (K.n - (i + 1))
   case measure => have := hmm.out; omega
   case rel => exact ⟨i + 1, _, _, Lib.hid (Nat.le_refl _), by omega, by go_num, HL8, HI8⟩
  ·have hge' : ¬ ((i : Int) < (K.n : Int)) := by omega
   obtain rfl : i = K.n := by omega
   go_wp2_with fail
   with_reducible refine Calls.mono PA1.out ?_
   rintro e w3 ⟨rfl, m, rfl⟩
   have HI3 := Lib.hid (hI.out.old ((Kept.refl (fun _ => False) wr).drewN m))
   clear hI PA1
   generalize wr.drewN m = w3 at *
   have R := Lib.hid (HI3.out.fab HC.out hpl.out)
   have R2 := Lib.hid HI3.out.kept
   clear HI3 hpl
   go_wp2_with fail
   exact bodyPost_ret (v := .tuple #[ptr mb, .int .i64 0]) (by simp [results, Tryz.results7, go_sem]) rfl ⟨mb, rfl, R2.out, R.out⟩
set_option maxRecDepth 100000 in
set_option maxHeartbeats 8000000 in
theorem nref_net (h : ¬ Net H S) (w : World) : Calls Tryz.prog 7 #[.int .i64 H, .int .i64 S, .int .i64 room, .int .i64 most, .bool trim] w fun e w' => e = .returned (.tuple #[.pointer none, .int .i64 1]) ∧ Kept (fun _ => False) w w' := by
 have TN := Lib.hid (netR_no h w)
 clear h
 go_enter Tryz.func7, Tryz.ntmps7
 go_wp2_with fail
 with_reducible refine Calls.mono TN.out ?_
 rintro e w1 ⟨rfl, rfl⟩
 go_wp2_with fail
 exact bodyPost_ret (v := .tuple #[.pointer none, .int .i64 1]) (by simp [results, Tryz.results7, go_sem]) rfl ⟨rfl, Kept.refl _ _⟩
set_option maxRecDepth 100000 in
set_option maxHeartbeats 8000000 in
theorem nref_port {K : Cf} (hc : K.Ok) (h : K.room < 0 ∨ 1073741824 < K.room ∨ K.most < 0 ∨ 1073741824 < K.most) (w : World) :
  Calls Tryz.prog 7 #[.int .i64 K.H, .int .i64 K.S, .int .i64 K.room, .int .i64 K.most, .bool K.trim] w fun e w' => e = .returned (.tuple #[.pointer none, .int .i64 1]) ∧ Kept (fun _ => False) w w' := by
 have TN := Lib.hid (netR_new hc.net w)
 have PN := Lib.hid fun (w1 : World) => newr_no (trim := K.trim) h w1
 have hle := hc.le
 have MK := run_mv K.hn hle.1
 rw [hc.hn] at MK
 have hlt' : (0 : Int) < (K.n : Int) := by omega
 have PA := Lib.hid fun (w' : World) (nb : Nat) (hB : MV w' nb K.H K.S) => by have := portsR_any hB hc.net; rw [← hc.n] at this; exact this
 clear h hc
 go_enter Tryz.func7, Tryz.ntmps7
 go_wp2_with fail
 with_reducible refine Calls.mono TN.out ?_
 rintro e w1 ⟨nb, rfl, hN, hk, hnb⟩
 have MK1 := MK w1
 have hN2 := Lib.hid hN
 have HK1 := Lib.hid hk
 clear hN hk hnb TN MK
 go_upto_region 5 with fail
 have k2 : Kept (fun _ => False) w1 ((w1.alloc (.cells (Rw.flat vT (List.replicate K.hn ())).toArray 58)).alloc (.cells #[ptr nb, .slice none 0 0, .slice (some ⟨w1.heap.size, 0, none⟩) K.hn K.hn, .int .i64 0] 57)) := ((Kept.refl (fun _ => False) w1).alloc _).alloc _
 have HN3 := Lib.hid (k2.blk hN2.out (fun f => f))
 have HK3 := Lib.hid (HK1.out.trans k2)
 clear MK1 k2 hN2 HK1
 generalize (w1.alloc (.cells (Rw.flat vT (List.replicate K.hn ())).toArray 58)).alloc (.cells #[ptr nb, .slice none 0 0, .slice (some ⟨w1.heap.size, 0, none⟩) K.hn K.hn, .int .i64 0] 57) = w2 at *
 have PA1 := Lib.hid (PA.out _ _ HN3.out)
 go_wp2_with fail
 go_loopg [15] 1 (fun mm s15 wr => s15 = .int .i64 0 ∧ wr = w2)
 case atStart => exact ⟨rfl, rfl⟩
 case round =>
  obtain ⟨rfl, rfl⟩ := hrel
  go_wp2_with fail
  with_reducible refine Calls.mono PA1.out ?_
  rintro e w3 ⟨rfl, m, rfl⟩
  have HK4 := Lib.hid (HK3.out.drewN m)
  go_wp2_with fail
  with_reducible refine Calls.mono (PN.out _) ?_
  rintro e w4 ⟨rfl, rfl⟩
  go_wp2_with fail
  exact bodyPost_ret (v := .tuple #[.pointer none, .int .i64 1]) (by simp [results, Tryz.results7, go_sem]) rfl ⟨rfl, HK4.out⟩
end Go.Proofs.YtpogpibjkolioaaGreat.Fc

/- The document's own fabric: Drop, Double. Conditions: each theorem's own. -/
namespace Go.Proofs.YtpogpibjkolioaaGreat.Fc
open Go.RowKit Hp QuM Rw Qu Po Fo NumM NumC FbM TpM Tp Go.Proofs.YtpogpibjkolioaaGreat.Fb Rf
attribute [local go_sem ↓] Go.wp_at_zero Go.wp_at_succ
variable {w0 w w' w'' : World} {K : Cf} {N N' : Mo} {X X' : Nat → Prop} {a : Ar} {mb : Nat}
theorem upd_id {α : Type} (f : Nat → α) (k : Nat) : upd f k (f k) = f := by
 funext q
 by_cases e : q = k
 ·subst e; rw [upd_self]
 ·rw [upd_ne _ _ e]
theorem rp_ok {m : Nat} {room most : Int} {trim : Bool} {P : Pt} {R : Nat → Prop} (h : RP w0 m room most trim P R w) {x : Bx} (hx : In P.ls P.cr x) : Rok w0 x := by
 obtain ⟨_, _, _, vs, vc, h, _⟩ := h
 rcases hx with ⟨k, hk, hx⟩ | hx
 ·exact h.ok k x hk hx
 ·exact h.okc x hx
theorem rp_wait {m : Nat} {room most : Int} {trim : Bool} {P : Pt} {R : Nat → Prop} (h : RP w0 m room most trim P R w) (hn : (accL P.ls P.cr 9).length ≤ 100000) :
  Calls Tryz.prog 48 #[.pointer (some ⟨m, 0, none⟩)] w fun e w' => ∃ v', e = .returned v' ∧ Rw.Row rT w' w.heap.size v' (accL P.ls P.cr 9) ∧ Kept (fun _ => False) w w' := by
 obtain ⟨_, _, _, h⟩ := h
 exact rwait_any h hn
theorem off_cases {J n : Int} (h : J < 0 ∨ n ≤ J) : J < 0 ∨ (decide (J < 0) = false ∧ n ≤ J) := by
 by_cases h0 : J < 0
 ·exact Or.inl h0
 ·exact Or.inr ⟨by rw [decide_eq_false_iff_not]; exact h0, by omega⟩
set_option maxRecDepth 100000 in
set_option maxHeartbeats 4000000 in
theorem rb_drop_off (h : RB w0 K N X mb w) {J k : Int} (hj : J < 0 ∨ (K.n : Int) ≤ J) :
  Calls Tryz.prog 16 #[ptr mb, .int .i64 J, .int .i64 k] w fun e w' => e = .returned (.int .i64 5) ∧ Kept (fun _ => False) w w' := by
 obtain ⟨a, rfl, h⟩ := h
 have c1 := h.blk.cell (o := 1) rfl
 clear h
 rcases off_cases hj with h1 | ⟨h1, h2⟩
 all_goals
  clear hj
  go_enter Tryz.func16, Tryz.ntmps16
  go_wp2_with fail
  go_ret
  exact ⟨rfl, by first | exact Kept.refl _ _ | exact (Kept.refl _ _).drew⟩
set_option maxRecDepth 100000 in
set_option maxHeartbeats 4000000 in
theorem rb_drop_no (h : RB w0 K N X mb w) {p : Nat} (hp : p < K.n) {k : Int} (hk : k < 0 ∨ ((accL (N.P p).ls (N.P p).cr 9).length : Int) ≤ k) (hk2 : k ≤ 9223372036854775807) (hl : (accL (N.P p).ls (N.P p).cr 9).length ≤ 1000) :
  Calls Tryz.prog 16 #[ptr mb, .int .i64 (p : Nat), .int .i64 k] w fun e w' => e = .returned (.int .i64 5) ∧ Rc w0 K X mb w N w' := by
 obtain ⟨a, rfl, h⟩ := h
 obtain ⟨R, hR, hRX⟩ := h.prt p hp
 have HH := Lib.hid h
 have HRP := Lib.hid hR
 have HRX := Lib.hid hRX
 have DR := Lib.hid (rp_drop_no hR hk hk2 hl)
 have c1 := h.blk.cell (o := 1) rfl
 have cp := h.ports_at hp
 have g0 : decide ((p : Int) < 0) = false := by rw [decide_eq_false_iff_not]; omega
 have g1 : decide ((K.n : Int) ≤ (p : Int)) = false := by rw [decide_eq_false_iff_not]; omega
 clear h hR hRX hk hl
 go_enter Tryz.func16, Tryz.ntmps16
 go_wp2_with fail
 with_reducible refine Calls.mono DR.out ?_
 rintro e w3 ⟨rfl, R', h1, h2⟩
 have hm := Rca.port HH.out hp HRP.out HRX.out h1 h2
 have HK := Lib.hid (Rca.old HH.out hm ((Kept.refl (fun _ => False) w3).alloc (.cells #[.int .i64 0, .int .i64 0, .int .i64 0, .int .i64 0, .int .u64 0, .int .i64 0, .int .i64 0, .int .i64 0, .int .i64 0, .slice none 0 0, .int .i64 0] 88)))
 clear h1 h2 hm DR
 dsimp only [List.length_nil, Int.natCast_zero]
 go_wp2_with fail
 go_ret
 exact ⟨rfl, Rca.rc (Rca.congr HK.out (upd_id _ _).symm rfl rfl)⟩
set_option maxRecDepth 100000 in
set_option maxHeartbeats 4000000 in
theorem rb_drop_yes (h : RB w0 K N X mb w) {p : Nat} (hp : p < K.n) {i at_ k : Nat} {x : Bx} (hi : i < 9) (hx : (lnl (N.P p).ls (N.P p).cr i)[at_]? = some x) (hk : (accL (N.P p).ls (N.P p).cr i).length + at_ = k) (hl : (accL (N.P p).ls (N.P p).cr 9).length ≤ 1000) (hL : 0 ≤ N.L ∧ N.L ≤ 1000000) :
  Calls Tryz.prog 16 #[ptr mb, .int .i64 (p : Nat), .int .i64 (k : Nat)] w fun e w' => e = .returned (.int .i64 0) ∧ Rc w0 K X mb w (drM N p i at_ x) w' := by
 obtain ⟨a, rfl, h⟩ := h
 obtain ⟨R, hR, hRX⟩ := h.prt p hp
 have HH := Lib.hid h
 have HRP := Lib.hid hR
 have HRX := Lib.hid hRX
 have DR := Lib.hid (rp_drop_yes hR hi hx hk hl)
 have c1 := h.blk.cell (o := 1) rfl
 have cp := h.ports_at hp
 have g0 : decide ((p : Int) < 0) = false := by rw [decide_eq_false_iff_not]; omega
 have g1 : decide ((K.n : Int) ≤ (p : Int)) = false := by rw [decide_eq_false_iff_not]; omega
 have hw : IntKind.i64.wrap (N.L + 1) = N.L + 1 := by rw [IntKind.wrap_i64]; omega
 clear h hR hRX hk hl hx
 obtain ⟨⟨x1, x2, x3, x4, x5, x6, x7, x8, x9, xd⟩, xa, xc, xq⟩ := x
 go_enter Tryz.func16, Tryz.ntmps16
 go_wp2_with fail
 with_reducible refine Calls.mono DR.out ?_
 rintro e w3 ⟨rfl, R', h1, h2⟩
 have hm := Rca.old HH.out (Rca.port HH.out hp HRP.out HRX.out h1 h2) ((Kept.refl (fun _ => False) w3).alloc (.cells #[.int .i64 x1, .int .i64 x2, .int .i64 x3, .int .i64 x4, .int .u64 (x5 : Int), .int .i64 x6, .int .i64 x7, .int .i64 x8, .int .i64 x9, .slice xa xd.length xc, .int .i64 xq] 88))
 have HM := Lib.hid hm
 clear h1 h2 hm DR c1 cp
 go_upto_region 4 with fail
 generalize w3.alloc (.cells #[.int .i64 x1, .int .i64 x2, .int .i64 x3, .int .i64 x4, .int .u64 (x5 : Int), .int .i64 x6, .int .i64 x7, .int .i64 x8, .int .i64 x9, .slice xa xd.length xc, .int .i64 xq] 88) = w4 at *
 generalize w3.heap.size = ob at *
 have f3 := HM.out.1.blk.cell (o := 3) rfl
 have z3 := HM.out.1.blk.frozen 3
 go_wp2_with fail
 go_ret
 exact ⟨rfl, Rca.rc (Rca.congr (Rca.setL HH.out HM.out (N.L + 1)) rfl rfl rfl)⟩
set_option maxRecDepth 100000 in
set_option maxHeartbeats 4000000 in
theorem rb_double_off (h : RB w0 K N X mb w) {J k : Int} (hj : J < 0 ∨ (K.n : Int) ≤ J) :
  Calls Tryz.prog 18 #[ptr mb, .int .i64 J, .int .i64 k] w fun e w' => e = .returned (.int .i64 5) ∧ Kept (fun _ => False) w w' := by
 obtain ⟨a, rfl, h⟩ := h
 have c1 := h.blk.cell (o := 1) rfl
 clear h
 rcases off_cases hj with h1 | ⟨h1, h2⟩
 all_goals
  clear hj
  go_enter Tryz.func18, Tryz.ntmps18
  go_wp2_with fail
  go_ret
  exact ⟨rfl, by first | exact Kept.refl _ _ | exact (Kept.refl _ _).drew⟩
set_option maxRecDepth 100000 in
set_option maxHeartbeats 4000000 in
theorem rb_double_no (h : RB w0 K N X mb w) {p : Nat} (hp : p < K.n) {k : Int} (hk : k < 0 ∨ ((accL (N.P p).ls (N.P p).cr 9).length : Int) ≤ k) (hl : (accL (N.P p).ls (N.P p).cr 9).length ≤ 1000) :
  Calls Tryz.prog 18 #[ptr mb, .int .i64 (p : Nat), .int .i64 k] w fun e w' => e = .returned (.int .i64 5) ∧ Kept (fun _ => False) w w' := by
 obtain ⟨a, rfl, h⟩ := h
 obtain ⟨R, hR, hRX⟩ := h.prt p hp
 have WT := Lib.hid (rp_wait hR (by omega))
 have c1 := h.blk.cell (o := 1) rfl
 have cp := h.ports_at hp
 have g0 : decide ((p : Int) < 0) = false := by rw [decide_eq_false_iff_not]; omega
 have g1 : decide ((K.n : Int) ≤ (p : Int)) = false := by rw [decide_eq_false_iff_not]; omega
 clear h hR hRX hl
 obtain ⟨A, hA⟩ : ∃ A, accL (N.P p).ls (N.P p).cr 9 = A := ⟨_, rfl⟩
 rw [hA] at WT hk
 clear hA
 rcases off_cases hk with h1 | ⟨h1, h2⟩
 all_goals
  clear hk
  go_enter Tryz.func18, Tryz.ntmps18
  go_wp2_with fail
  with_reducible refine Calls.mono WT.out ?_
  rintro e w3 ⟨v, rfl, hr, hk⟩
  obtain ⟨av, cv, rfl, _⟩ := hr.slice
  have HK := Lib.hid hk
  clear hr hk WT c1 cp
  go_wp2_with fail
  go_ret
  exact ⟨rfl, by first | exact HK.out | exact HK.out.drew⟩
theorem rr_cells {w : World} {base : Nat} {v : Value} {l : List Bx} (h : Rw.Row rT w base v l) {i : Nat} {x : Bx} (hi : l[i]? = some x) : ∃ g cap, v = .slice (some ⟨g, 0, none⟩) l.length cap ∧
  w.cell? ⟨g, i * 11, none⟩ = some (.int .i64 x.f.kind) ∧ w.cell? ⟨g, i * 11 + 1, none⟩ = some (.int .i64 x.f.src) ∧ w.cell? ⟨g, i * 11 + 2, none⟩ = some (.int .i64 x.f.dst) ∧ w.cell? ⟨g, i * 11 + 3, none⟩ = some (.int .i64 x.f.prio) ∧ w.cell? ⟨g, i * 11 + 4, none⟩ = some (.int .u64 (x.f.msg : Int)) ∧ w.cell? ⟨g, i * 11 + 5, none⟩ = some (.int .i64 x.f.off) ∧ w.cell? ⟨g, i * 11 + 6, none⟩ = some (.int .i64 x.f.len) ∧ w.cell? ⟨g, i * 11 + 7, none⟩ = some (.int .i64 x.f.total) ∧ w.cell? ⟨g, i * 11 + 8, none⟩ = some (.int .i64 x.f.num) ∧ w.cell? ⟨g, i * 11 + 9, none⟩ = some (.slice x.s x.f.data.length x.c) ∧ w.cell? ⟨g, i * 11 + 10, none⟩ = some (.int .i64 x.q) := by
 rcases h.form with ⟨_, e⟩ | ⟨g, cap, cur, rfl, h1, h2⟩
 ·subst e; cases hi
 ·have c : ∀ (j : Nat) (u : Value), (rT.enc x)[j]? = some u → w.cell? ⟨g, i * 11 + j, none⟩ = some u := fun j u hu => by have := h2.cell (t := rT) hi hu; exact this
  exact ⟨g, cap, rfl, c 0 _ rfl, c 1 _ rfl, c 2 _ rfl, c 3 _ rfl, c 4 _ rfl, c 5 _ rfl, c 6 _ rfl, c 7 _ rfl, c 8 _ rfl, c 9 _ rfl, c 10 _ rfl⟩
set_option maxRecDepth 100000 in
set_option maxHeartbeats 4000000 in
theorem rb_double_yes (h : RB w0 K N X mb w) {p k : Nat} (hp : p < K.n) {x : Bx} (hx : (accL (N.P p).ls (N.P p).cr 9)[k]? = some x) (hl : (accL (N.P p).ls (N.P p).cr 9).length ≤ 1000) (hf : Fw (N.P p)) (hL : 0 ≤ N.L ∧ N.L ≤ 1000000) :
  Calls Tryz.prog 18 #[ptr mb, .int .i64 (p : Nat), .int .i64 (k : Nat)] w fun e w' => e = .returned (.int .i64 0) ∧ ∃ s c, Rc w0 K X mb w (putM K N p x s c) w' := by
 obtain ⟨a, rfl, h⟩ := h
 obtain ⟨R, hR, hRX⟩ := h.prt p hp
 have hok := rp_ok hR (in_acc (List.mem_of_getElem? hx))
 have WT := Lib.hid (rp_wait hR (by omega))
 have PU := Lib.hid fun (w1 : World) (k : Kept (fun _ => False) w w1) => rb_put ⟨a, rfl, h.old k⟩ hp hok hf hL
 have HH := Lib.hid h
 have c1 := h.blk.cell (o := 1) rfl
 have cp := h.ports_at hp
 have g0 : decide ((p : Int) < 0) = false := by rw [decide_eq_false_iff_not]; omega
 have g1 : decide ((K.n : Int) ≤ (p : Int)) = false := by rw [decide_eq_false_iff_not]; omega
 clear h hR hRX hl hok hf
 obtain ⟨A, hA⟩ : ∃ A, accL (N.P p).ls (N.P p).cr 9 = A := ⟨_, rfl⟩
 rw [hA] at WT hx
 clear hA
 have hkl : k < A.length := (List.getElem?_eq_some_iff.1 hx).1
 have g2 : decide ((k : Int) < 0) = false := by rw [decide_eq_false_iff_not]; omega
 have g3 : decide ((A.length : Int) ≤ (k : Int)) = false := by rw [decide_eq_false_iff_not]; omega
 have g4 : (k : Int) < (A.length : Int) := by omega
 have g5 : (0 : Int) ≤ (k : Int) := by omega
 have HX := Lib.hid hx
 clear hx
 obtain ⟨⟨x1, x2, x3, x4, x5, x6, x7, x8, x9, xd⟩, xa, xc, xq⟩ := x
 go_enter Tryz.func18, Tryz.ntmps18
 go_wp2_with fail
 with_reducible refine Calls.mono WT.out ?_
 rintro e w3 ⟨v, rfl, hr, hk⟩
 obtain ⟨g, cv, rfl, d0, d1, d2, d3, d4, d5, d6, d7, d8, d9, d10⟩ := rr_cells hr HX.out
 have HK := Lib.hid hk
 clear hr hk WT c1 cp hkl
 generalize A.length = n at *
 go_wp2_with fail
 with_reducible refine Calls.mono (PU.out _ (by first | exact HK.out | exact HK.out.drew)) ?_
 rintro e w4 ⟨rfl, s, c, hR⟩
 have HR := Lib.hid (Rc.behind (by first | exact HK.out | exact HK.out.drew) hR HH.out.since.size HH.out.xb)
 clear hR PU
 go_wp2_with fail
 go_ret
 exact ⟨rfl, s, c, HR.out⟩
end Go.Proofs.YtpogpibjkolioaaGreat.Fc

/- The document's own fabric: how much waits. Conditions: each theorem's own. -/
namespace Go.Proofs.YtpogpibjkolioaaGreat.Fc
open Go.RowKit Hp QuM Rw Qu Po Fo NumM NumC FbM TpM Tp Go.Proofs.YtpogpibjkolioaaGreat.Fb Rf
attribute [local go_sem ↓] Go.wp_at_zero Go.wp_at_succ
variable {w0 w w' w'' : World} {K : Cf} {N N' : Mo} {X X' : Nat → Prop} {a : Ar} {mb : Nat}
theorem Wt_ones {P : Nat → Pt} {n : Nat} (h : ∀ p, p < n → (accL (P p).ls (P p).cr 9).length ≤ 1000) : ∀ i, i ≤ n → 0 ≤ Wt (fun _ => 1) P i ∧ Wt (fun _ => 1) P i ≤ 1000 * i
 | 0, _ => ⟨Int.le_refl _, Int.le_refl _⟩
 | i + 1, hi => by
  have h1 := Wt_ones h i (by omega)
  have h2 := wt_one (P i)
  have h3 := h i (by omega)
  show 0 ≤ Wt (fun _ => 1) P i + wt (fun _ => 1) (P i) ∧ Wt (fun _ => 1) P i + wt (fun _ => 1) (P i) ≤ _
  omega
theorem li_le {I : Nat → List Bx} {n : Nat} (h : ∀ j, j < n → (I j).length ≤ 1000) : ∀ i, i ≤ n → 0 ≤ li I i ∧ li I i ≤ 1000 * i
 | 0, _ => ⟨Int.le_refl _, Int.le_refl _⟩
 | i + 1, hi => by
  have h1 := li_le h i (by omega)
  have h3 := h i (by omega)
  show 0 ≤ li I i + ((I i).length : Int) ∧ li I i + ((I i).length : Int) ≤ _
  omega
set_option maxRecDepth 100000 in
set_option maxHeartbeats 8000000 in
theorem rb_waits (h : RB w0 K N X mb w) (hw : ∀ p, p < K.n → (accL (N.P p).ls (N.P p).cr 9).length ≤ 1000) (hi : ∀ j, j < K.hn → (N.I j).length ≤ 1000) :
  Calls Tryz.prog 50 #[ptr mb] w fun e w' => e = .returned (.int .i64 (Wt (fun _ => 1) N.P K.n + li N.I K.hn)) ∧ Kept (fun _ => False) w w' := by
 obtain ⟨a, rfl, h⟩ := h
 have h8 := h.cf.le
 have HW := Lib.hid hw
 have HI := Lib.hid hi
 have HH := Lib.hid h
 clear h hw hi
 obtain ⟨n, hn⟩ : ∃ n, K.n = n := ⟨_, rfl⟩
 obtain ⟨m, hm⟩ : ∃ m, K.hn = m := ⟨_, rfl⟩
 have HN := Lib.hid hn
 have HM := Lib.hid hm
 rw [hn, hm] at h8 ⊢
 clear hn hm
 go_enter Tryz.func50, Tryz.ntmps50
 go_wp2_with fail
 go_loopg [3, 4] n (fun mm s3 s4 wr => ∃ (i : Nat), Hid (n - i ≤ mm) ∧ i ≤ n ∧ s3 = .int .i64 (Wt (fun _ => 1) N.P i) ∧ s4 = .int .i64 (i : Nat) ∧ Hid (Kept (fun _ => False) w wr))
 case atStart => exact ⟨0, Lib.hid (by omega), Nat.zero_le _, rfl, rfl, Lib.hid (Kept.refl _ _)⟩
 case round =>
  obtain ⟨i, hmm, hi, rfl, rfl, hK⟩ := hrel
  have H1 := Lib.hid (HH.out.old hK.out)
  have c1 : wr.cell? ⟨a.mb, 1, none⟩ = some (.slice (some ⟨a.pb, 0, none⟩) n a.cp) := by rw [← HN.out]; exact H1.out.blk.cell rfl
  rcases Nat.lt_or_ge i n with hlt | hge
  ·have hii : (i : Int) < (n : Int) := by omega
   have hi0 : (0 : Int) ≤ (i : Int) := by omega
   have hin : i < K.n := by rw [HN.out]; exact hlt
   have cp := H1.out.ports_at hin
   obtain ⟨R, hR, _⟩ := H1.out.prt i hin
   have WT := Lib.hid (rp_wait hR (Nat.le_trans (HW.out i hin) (by omega)))
   have h1 := Wt_ones HW.out i (by omega)
   have h2 := wt_one (N.P i)
   have h3 := HW.out i hin
   have eW : Wt (fun _ => 1) N.P (i + 1) = Wt (fun _ => 1) N.P i + wt (fun _ => 1) (N.P i) := rfl
   rw [h2] at eW
   obtain ⟨q, hq⟩ : ∃ q, (accL (N.P i).ls (N.P i).cr 9).length = q := ⟨_, rfl⟩
   rw [hq] at eW h3
   have HQ := Lib.hid hq
   have EW := Lib.hid eW
   obtain ⟨t, ht⟩ : ∃ t, Wt (fun _ => 1) N.P i = t := ⟨_, rfl⟩
   rw [ht] at h1 EW ⊢
   have hwr : IntKind.i64.wrap (t + (q : Int)) = t + (q : Int) := by rw [IntKind.wrap_i64]; omega
   clear hR h2 eW ht hq h1 h3
   go_wp2_with fail
   with_reducible refine Calls.mono WT.out ?_
   rintro e w3 ⟨v, rfl, hr, hk⟩
   obtain ⟨av, cv, rfl, _⟩ := hr.slice
   rw [HQ.out]
   have HK := Lib.hid (hK.out.trans hk)
   clear hr hk WT c1 cp H1 hK
   go_wp2_with fail
   go_roundg (n - (i + 1))
   case measure => have := hmm.out; omega
   case rel => exact ⟨i + 1, Lib.hid (Nat.le_refl _), by omega, by rw [EW.out], by go_num, by first | exact HK | exact Lib.hid HK.out.drew⟩
  ·obtain rfl : i = n := by omega
   have hge' : ¬ ((i : Int) < (i : Int)) := by omega
   have hW := Wt_ones HW.out i (by have := HN.out; omega)
   have hLi := li_le HI.out
   have HLI := Lib.hid hLi
   obtain ⟨T, hT⟩ : ∃ T, Wt (fun _ => 1) N.P i = T := ⟨_, rfl⟩
   have HTT := Lib.hid hT
   rw [hT] at hW
   rw [hT]
   clear hT hLi
   obtain ⟨w1, rfl⟩ : ∃ w1 : World, w1 = wr := ⟨_, rfl⟩
   go_wp2_with fail
   go_loopg [3, 5] m (fun mm s3 s5 wr => ∃ (k : Nat), Hid (m - k ≤ mm) ∧ k ≤ m ∧ s3 = .int .i64 (T + li N.I k) ∧ s5 = .int .i64 (k : Nat) ∧ Hid (Kept (fun _ => False) w wr))
   case atStart => exact ⟨0, Lib.hid (by omega), Nat.zero_le _, by show _ = Value.int .i64 (T + 0); rw [Int.add_zero], rfl, by first | exact hK | exact Lib.hid hK.out.drew⟩
   case round =>
    clear H1 c1 hK
    obtain ⟨k, hmm, hk, rfl, rfl, hK⟩ := hrel
    have H1 := Lib.hid (HH.out.old hK.out)
    have c2 : wr.cell? ⟨a.mb, 2, none⟩ = some (.slice (some ⟨a.ib, 0, none⟩) m m) := by rw [← HM.out]; exact H1.out.blk.cell rfl
    rcases Nat.lt_or_ge k m with hlt | hge
    ·have hii : (k : Int) < (m : Int) := by omega
     have hi0 : (0 : Int) ≤ (k : Int) := by omega
     have hin : k < K.hn := by rw [HM.out]; exact hlt
     have cp := H1.out.inb_at hin
     obtain ⟨av, cv, hv, _⟩ := (H1.out.inb k hin).slice
     rw [hv] at cp
     have h1 := HLI.out k (by omega)
     have h3 := HI.out k hin
     have eW : li N.I (k + 1) = li N.I k + ((N.I k).length : Int) := rfl
     obtain ⟨q, hq⟩ : ∃ q, (N.I k).length = q := ⟨_, rfl⟩
     rw [hq] at eW h3 cp
     have EW := Lib.hid eW
     obtain ⟨t, ht⟩ : ∃ t, li N.I k = t := ⟨_, rfl⟩
     rw [ht] at h1 EW ⊢
     have hwr : IntKind.i64.wrap (T + t + (q : Int)) = T + t + (q : Int) := by rw [IntKind.wrap_i64]; omega
     clear eW ht hq h1 h3 hv
     go_wp2_with fail
     go_roundg (m - (k + 1))
     case measure => have := hmm.out; omega
     case rel => exact ⟨k + 1, Lib.hid (Nat.le_refl _), by omega, by rw [EW.out, Int.add_assoc], by go_num, by first | exact hK | exact Lib.hid hK.out.drew⟩
    ·obtain rfl : k = m := by omega
     have hge'' : ¬ ((k : Int) < (k : Int)) := by omega
     go_wp2_with fail
     go_ret
     exact ⟨by first | rfl | (rw [HTT.out]; rfl), by first | exact hK.out | exact hK.out.drew⟩
end Go.Proofs.YtpogpibjkolioaaGreat.Fc

