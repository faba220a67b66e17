/- A fabric made. Conditions: each theorem's own. -/
import Derived.Test.YtompbpiaapenaaaFbK19
import Derived.Test.YtompbpiaapenaaaFbK9
import Derived.Laws.MakeOwn
import Derived.Laws.OwnMore
import Derived.Test.YtompbpiaapenaaaFbK23
import Derived.Test.YtompbpiaapenaaaFbK25
set_option linter.unusedVariables false
set_option linter.unusedSimpArgs false
namespace Go.Proofs.Ytompbpiaapenaaa.Fb
open Go.RowKit Hp QuM QuN Rw Qu NumM NumC Po Fo FbM TpM Tp
attribute [local go_sem ↓] Go.wp_at_zero Go.wp_at_succ
variable {w0 w w' : World} {K : Cf} {a : Ad} {M : Mo}
theorem tnew_yes {H S : Int} (n : Net H S) (w : World) : Calls Try.prog 59 #[.int .i64 H, .int .i64 S] w fun e w' => ∃ b, e = .returned (.tuple #[ptr b, .int .i64 0]) ∧ NV w' b H S ∧ Kept (fun _ => False) w w' ∧ w.heap.size ≤ b := by
  obtain ⟨h0, h1, h2, h3⟩ := n
  have d1 : decide (8 < H) = false := by rw [decide_eq_false_iff_not]; omega
  have d2 : decide (S < 1) = false := by rw [decide_eq_false_iff_not]; omega
  have d3 : decide (4 < S) = false := by rw [decide_eq_false_iff_not]; omega
  go_enter Try.func59, Try.ntmps59
  go_wp2_with fail
  exact bodyPost_ret (v := .tuple #[ptr w.heap.size, .int .i64 0]) (by simp [results, Try.results59, go_sem]) rfl ⟨_, rfl, Blk.new w _ _, (Kept.refl _ w).alloc _, Nat.le_refl _⟩
@[reducible] def pT : Rw.Ty Nat where
  E := 25
  L := 110
  k := 1
  bz := 8
  enc x := [.pointer (some ⟨x, 0, none⟩)]
  z := .pointer none
  hL := Try.underlying110
  hI := by kernel_rfl
  hz := rfl
  hk _ := rfl
  h1 x v hv := by simp at hv; rcases hv with rfl; rfl
  k0 := by decide
  hb := by decide
@[reducible] def hT : Rw.Ty Unit where
  E := 124
  L := 109
  k := 3
  bz := 40
  enc x := [.slice none 0 0, .int .i64 0, .int .i64 0]
  z := .agg #[.slice none 0 0, .int .i64 0, .int .i64 0]
  hL := Try.underlying109
  hI := by kernel_rfl
  hz := rfl
  hk _ := rfl
  h1 x v hv := by simp at hv; rcases hv with rfl | rfl | rfl <;> rfl
  k0 := by decide
  hb := by decide
theorem made_host (n : Nat) : madeCells (hT.z).cells (n * 3) = (Rw.flat hT (List.replicate n ())).toArray := by
  apply Array.toList_inj.1
  apply List.ext_getElem?
  intro t
  have hl : (Rw.flat hT (List.replicate n ())).length = n * 3 := by have : (Rw.flat hT (List.replicate n ())).length = (List.replicate n ()).length * 3 := flat_len hT _; rwa [List.length_replicate] at this
  by_cases ht : t < n * 3
  · obtain ⟨q, r, hr, hq, rfl⟩ : ∃ q r, r < 3 ∧ q < n ∧ t = q * 3 + r := ⟨t / 3, t % 3, by omega, by omega, by omega⟩
    show _ = (Rw.flat hT (List.replicate n ()))[q * 3 + r]?
    rw [flat_at hT (x := ()) (by rw [List.getElem?_replicate, if_pos hq]) hr]
    unfold madeCells
    rw [Array.toList_map, List.getElem?_map, Array.toList_range, List.getElem?_range ht]
    have hm : (q * 3 + r) % 3 = r := by omega
    have h4 : r = 0 ∨ r = 1 ∨ r = 2 := by omega
    show some ((#[.slice none 0 0, .int .i64 0, .int .i64 0] : Array Value)[(q * 3 + r) % 3]!) = _
    rw [hm]
    rcases h4 with rfl | rfl | rfl <;> rfl
  · rw [List.getElem?_eq_none (by rw [Array.length_toList, size_madeCells]; omega), List.getElem?_eq_none (by show (Rw.flat hT (List.replicate n ())).length ≤ t; omega)]
theorem run_mh (n : Nat) (hn : n ≤ 8) (w : World) : (Instr.makeSlice hT.L (.int .i64 (n : Int)) (.int .i64 (n : Int))).run Try.prog w = .ok (.slice (some ⟨w.heap.size, 0, none⟩) n n) (w.alloc (.cells (Rw.flat hT (List.replicate n ())).toArray hT.E)) := by
  obtain ⟨ti, hti, hz0, hz1, hz2⟩ := info_parts hT.hI
  have := run_make (P := Try.prog) (w := w) hT.L hT.E ti _ hT.hL hti hz0 .i64 .i64 (n : Int) (n : Int) (by omega) (by omega) (by rw [hz2]; show ((40 : Nat) : Int) * _ ≤ _; omega) (by omega)
  rw [Int.toNat_natCast, hz1, made_host] at this
  exact this
/-- An empty port. -/
abbrev eP : Pt := ⟨fun _ => [], [], 0, 0⟩
/-- A fabric that is being made, with the first ports. -/
structure NewI (w : World) (K : Cf) (nb hb fb n0 : Nat) (v : Value) (pl : List Nat) (O : Nat → Nat → Prop) (wr : World) : Prop where
  kept : Kept (fun _ => False) w wr
  blk : Blk wr fb [ptr nb, v, .slice (some ⟨hb, 0, none⟩) K.hn K.hn, .int .i64 0] tF
  nv : NV wr nb K.H K.S
  hrow : Blk wr hb (Rw.flat hT (List.replicate K.hn ())) tH
  row : Rw.Row pT wr n0 v pl
  prt : ∀ p q, pl[p]? = some q → POP w q K eP (O p) wr
  own : ∀ p g, p < pl.length → O p g → n0 ≤ g
  oo : ∀ p q g, p < pl.length → q < pl.length → O p g → O q g → p = q
  orow : ∀ p g, p < pl.length → O p g → v.ownBlock ≠ some g
  low : w.heap.size ≤ nb ∧ nb < n0 ∧ w.heap.size ≤ hb ∧ hb < n0 ∧ w.heap.size ≤ fb ∧ fb < n0 ∧ n0 ≤ wr.heap.size
theorem pn_of {wr w2 : World} {b : Nat} {F : Nat → Prop} (h : PS wr b K.room K.most K.trim (fun _ => []) [] 0 0 F w2) (k : Kept (fun _ => False) w wr) (hF : ∀ i, F i → wr.heap.size ≤ i) : ∃ O, POP w b K eP O w2 ∧ ∀ i, O i → wr.heap.size ≤ i := by
  obtain ⟨O, h1, h2⟩ := po_of_ps h k
  exact ⟨O, h1, fun i e => hF i (h2 i e)⟩
/-- One port more. -/
theorem NewI.push {nb hb fb n0 : Nat} {v v' : Value} {pl : List Nat} {O : Nat → Nat → Prop} {wr w2 w3 w4 : World} (h : NewI w K nb hb fb n0 v pl O wr) {b : Nat} {O' : Nat → Prop} (hP : POP w b K eP O' w2) (hO : ∀ i, O' i → wr.heap.size ≤ i) (k2 : Kept (fun _ => False) wr w2) (k3 : Kept (fun _ => False) w2 w3)
    (hA : Rw.Apd pT w3 n0 v (pl ++ [b]) v' w4) : NewI w K nb hb fb n0 v' (pl ++ [b]) (upd O pl.length O') (w4.setCell ⟨fb, 1, none⟩ v') := by
  obtain ⟨l1, l2, l3, l4, l5, l6, l7⟩ := h.low
  have k5 := Kept.one w4 fb 1 v'
  have k03 : Kept (fun _ => False) wr w3 := k2.trans k3
  have hvr : ∀ g, v.ownBlock = some g → n0 ≤ g ∧ g < wr.heap.size := fun g e => h.row.lt g e
  have nv1 : ∀ g, g < n0 → ¬ v.ownBlock = some g := fun g hg e => by have := (hvr g e).1; omega
  have hs2 := k2.size
  have hs3 := k3.size
  have hs4 := hA.kept.size
  have far : ∀ q P O2, POP w q K P O2 w3 → (∀ g, O2 g → v.ownBlock ≠ some g) → (∀ g, O2 g → n0 ≤ g) → P = eP → POP w q K P O2 (w4.setCell ⟨fb, 1, none⟩ v') := fun q P O2 hq hv hn e => by
    subst e
    refine (hq.far hA.kept (fun i e f => hv i f e) (fun x hx => ?_) (fun i e => by have := (hvr i e).1; omega)).far k5 (fun i e f => by have h9 : i = fb := e; have := hn i f; omega) (fun x hx => ?_) (fun i e => by have h9 : i = fb := e; omega)
    · rcases hx with ⟨k, hk, hx⟩ | hx
      · cases hx
      · cases hx
    · rcases hx with ⟨k, hk, hx⟩ | hx
      · cases hx
      · cases hx
  have hv' : ∀ g, v'.ownBlock = some g → n0 ≤ g ∧ (v.ownBlock = some g ∨ w3.heap.size ≤ g) := fun g e => ⟨(hA.row.lt g e).1, hA.lies g e⟩
  refine { kept := ((h.kept.trans k03).trans' hA.kept (fun i hi e => by have := (hvr i e).1; omega)).trans' k5 (fun i hi e => by have h9 : i = fb := e; omega), blk := ?_, nv := ?_, hrow := ?_, row := hA.row.kept k5 (fun g e f => by have h9 : g = fb := f; have := (hv' g e).1; omega), prt := ?_, own := ?_, oo := ?_, orow := ?_, low := ⟨l1, l2, l3, l4, l5, l6, by have := k5.size; omega⟩ }
  · exact ((hA.kept.blk (k03.blk h.blk (fun f => f)) (nv1 fb l6)).set 1 v')
  · exact k5.blk (hA.kept.blk (k03.blk h.nv (fun f => f)) (nv1 nb l2)) (fun e => ne_blk h.nv h.blk (by decide) e)
  · exact k5.blk (hA.kept.blk (k03.blk h.hrow (fun f => f)) (nv1 hb l4)) (fun e => ne_blk h.hrow h.blk (by decide) e)
  · intro p q hq
    by_cases e : p = pl.length
    · subst e
      rw [List.getElem?_append_right (Nat.le_refl _), Nat.sub_self] at hq
      obtain rfl : b = q := by simpa using hq
      rw [upd_self]
      exact far b eP O' (hP.old k3) (fun g hg e => by have := hO g hg; have := (hvr g e).2; omega) (fun g hg => by have := hO g hg; omega) rfl
    · rw [upd_ne _ _ e]
      have hp : p < pl.length := by
        have := (List.getElem?_eq_some_iff.1 hq).1
        rw [List.length_append, List.length_singleton] at this
        omega
      rw [List.getElem?_append_left hp] at hq
      exact far q eP (O p) ((h.prt p q hq).old k03) (fun g hg => h.orow p g hp hg) (fun g hg => h.own p g hp hg) rfl
  · intro p g hp hg
    by_cases e : p = pl.length
    · subst e
      rw [upd_self] at hg
      have := hO g hg; omega
    · rw [upd_ne _ _ e] at hg
      rw [List.length_append, List.length_singleton] at hp
      exact h.own p g (by omega) hg
  · intro p q g hp hq e1 e2
    rw [List.length_append, List.length_singleton] at hp hq
    have hlt : ∀ p, p < pl.length → O p g → g < wr.heap.size := fun p hp e => by
      obtain ⟨q, hq⟩ : ∃ q, pl[p]? = some q := ⟨_, List.getElem?_eq_getElem hp⟩
      exact ((h.prt p q hq).bound e).2
    by_cases ep : p = pl.length
    · by_cases eq : q = pl.length
      · omega
      · rw [ep, upd_self] at e1
        rw [upd_ne _ _ eq] at e2
        have := hO g e1; have := hlt q (by omega) e2; omega
    · rw [upd_ne _ _ ep] at e1
      by_cases eq : q = pl.length
      · rw [eq, upd_self] at e2
        have := hO g e2; have := hlt p (by omega) e1; omega
      · rw [upd_ne _ _ eq] at e2
        exact h.oo p q g (by omega) (by omega) e1 e2
  · intro p g hp hg e
    rw [List.length_append, List.length_singleton] at hp
    by_cases ep : p = pl.length
    · rw [ep, upd_self] at hg
      have h1 := hO g hg
      have h2 := (hP.bound hg).2
      rcases (hv' g e).2 with f | f
      · have := (hvr g f).2; omega
      · omega
    · rw [upd_ne _ _ ep] at hg
      rcases (hv' g e).2 with f | f
      · exact h.orow p g (by omega) hg f
      · obtain ⟨q, hq⟩ : ∃ q, pl[p]? = some q := ⟨_, List.getElem?_eq_getElem (by omega)⟩
        have := ((h.prt p q hq).bound hg).2
        omega
/-- What a new fabric holds. -/
abbrev M0 : Mo := ⟨fun _ => eP, fun _ => [], fun _ => 0, 0⟩
theorem NewI.fab {nb hb fb n0 : Nat} {v : Value} {pl : List Nat} {O : Nat → Nat → Prop} {wr : World} (h : NewI w K nb hb fb n0 v pl O wr) (hc : K.Ok) (hl : pl.length = K.n) : ∃ a, a.fb = fb ∧ Fab w K a M0 wr ∧ ∀ i, ownA K a i → w.heap.size ≤ i := by
  obtain ⟨l1, l2, l3, l4, l5, l6, l7⟩ := h.low
  have hle := hc.le
  obtain ⟨pb, cap, cur, hv, hpb, hL⟩ : ∃ pb cap cur, v = .slice (some ⟨pb, 0, none⟩) pl.length cap ∧ n0 ≤ pb ∧ Rw.Lies pT wr pb cap cur pl := by
    rcases h.row.form with ⟨_, h0⟩ | ⟨g, cap, cur, e, h1, h2⟩
    · rw [h0] at hl; have : K.n = 0 := hl.symm; omega
    · exact ⟨g, cap, cur, e, h1, h2⟩
  have hblk := h.blk
  rw [hv, hl] at hblk
  have hnone : ∀ x, Is K M0 x → False := by
    rintro x (⟨p, hp, ⟨k, hk, hx⟩ | hx⟩ | ⟨j, hj, hx⟩) <;> cases hx
  have hF : Fab w K ⟨fb, nb, pb, hb, cap, K.hn, fun p => pl.getD p 0, O, fun _ => .slice none 0 0, fun _ => 0⟩ M0 wr := by
    refine { cf := hc, since := h.kept, blk := hblk, nv := h.nv, prow := ⟨cur, hL.blk, fun p hp => ?_⟩, hrow := ⟨_, h.hrow, fun j hj => ?_⟩, prt := fun p hp => ?_, inb := fun j hj => ⟨[], rfl, Nat.le_refl _, Rw.Row.none fT wr _⟩, dat := fun x hx => (hnone x hx).elim, oo := fun p q g hp hq => h.oo p q g (by omega) (by omega), of := fun p g hp e => ?_, od := fun p x g hp hx => (hnone x hx).elim, ii := fun i j g _ _ e => (by cases e), low := ⟨l5, l1, by show w.heap.size ≤ pb; omega, l3⟩ }
    · obtain ⟨q, hq⟩ : ∃ q, pl[p]? = some q := ⟨_, List.getElem?_eq_getElem (by omega)⟩
      have h1 := hL.cur_at (j := p) (by show p < pl.length * 1; omega)
      have h2 := flat_at pT (l := pl) (i := p) (x := q) hq (j := 0) (by decide)
      have e : p * pT.k + 0 = p := by show p * 1 + 0 = p; omega
      rw [e] at h2
      rw [h1, h2]
      show some (Value.pointer (some ⟨q, 0, none⟩)) = some (Value.pointer (some ⟨pl.getD p 0, 0, none⟩))
      rw [List.getD_eq_getElem?_getD, hq]; rfl
    · have key : ∀ r, r < 3 → (Rw.flat hT (List.replicate K.hn ()))[j * 3 + r]? = (hT.enc ())[r]? := fun r hr => flat_at hT (x := ()) (by rw [List.getElem?_replicate, if_pos hj]) hr
      exact ⟨key 0 (by decide), key 1 (by decide), key 2 (by decide)⟩
    · obtain ⟨q, hq⟩ : ∃ q, pl[p]? = some q := ⟨_, List.getElem?_eq_getElem (by omega)⟩
      show POP w (pl.getD p 0) K eP (O p) wr
      rw [List.getD_eq_getElem?_getD, hq]
      exact h.prt p q hq
    · have h1 := h.own p g (by omega) e
      refine ⟨by show g ≠ fb; omega, by show g ≠ nb; omega, fun f => ?_, by show g ≠ hb; omega, fun j hj f => by cases f⟩
      exact h.orow p g (by omega) e (by rw [hv, f]; rfl)
  exact ⟨_, rfl, hF, fun i hi => (hF.bound hi).1⟩
end Go.Proofs.Ytompbpiaapenaaa.Fb

/- A fabric's New. Conditions: each theorem's own. -/
namespace Go.Proofs.Ytompbpiaapenaaa.Fb
open Go.RowKit Hp QuM QuN Rw Qu NumM NumC Po Fo FbM TpM Tp
attribute [local go_sem ↓] Go.wp_at_zero Go.wp_at_succ
variable {w0 w w' : World} {K : Cf} {a : Ad} {M : Mo}
def NewP (w : World) (K : Cf) (e : Ending) (w' : World) : Prop := ∃ a, e = .returned (.tuple #[ptr a.fb, .int .i64 0]) ∧ Fab w K a M0 w' ∧ ∀ i, ownA K a i → w.heap.size ≤ i
theorem NewI.old {nb hb fb n0 : Nat} {v : Value} {pl : List Nat} {O : Nat → Nat → Prop} {wr w2 : World} (h : NewI w K nb hb fb n0 v pl O wr) (k : Kept (fun _ => False) wr w2) : NewI w K nb hb fb n0 v pl O w2 :=
  { kept := h.kept.trans k, blk := k.blk h.blk (fun f => f), nv := k.blk h.nv (fun f => f), hrow := k.blk h.hrow (fun f => f), row := h.row.old k, prt := fun p q hq => (h.prt p q hq).old k, own := h.own, oo := h.oo, orow := h.orow, low := ⟨h.low.1, h.low.2.1, h.low.2.2.1, h.low.2.2.2.1, h.low.2.2.2.2.1, h.low.2.2.2.2.2.1, Nat.le_trans h.low.2.2.2.2.2.2 k.size⟩ }
set_option maxRecDepth 100000 in
set_option maxHeartbeats 8000000 in
theorem fnew_yes (hc : K.Ok) (h0 : 0 ≤ K.room) (h1 : K.room ≤ 1073741824) (h2 : 0 ≤ K.most) (h3 : K.most ≤ 1073741824) (w : World) :
    Calls Try.prog 22 #[.int .i64 K.H, .int .i64 K.S, .int .i64 K.room, .int .i64 K.most, .bool K.trim] w (NewP w K) := by
  have TN := Lib.hid (tnew_yes hc.net w)
  have PN := Lib.hid fun w => pnew_yes h0 h1 h2 h3 K.trim w
  have HC := Lib.hid hc
  have hle := hc.le
  have MK := run_mh K.hn hle.1
  rw [hc.hn] at MK
  have hn48 : K.n ≤ 48 := hle.2.2.1
  have hpts := hc.n
  clear h0 h1 h2 h3 hle hc
  go_enter Try.func22, Try.ntmps22
  go_wp2_with fail
  with_reducible refine Calls.mono TN.out ?_
  rintro e w1 ⟨nb, rfl, hN, hk, hnb⟩
  have MK1 := MK w1
  have hN2 := Lib.hid hN
  have HK1 := Lib.hid hk
  have HNB := Lib.hid hnb
  clear hN hk hnb TN MK
  go_upto_region 5 with fail
  have HI : Hid (NewI w K nb w1.heap.size (w1.heap.size + 1) (w1.heap.size + 2) (.slice none 0 0) [] (fun _ _ => False) ((w1.alloc (.cells (Rw.flat hT (List.replicate K.hn ())).toArray 124)).alloc (.cells #[ptr nb, .slice none 0 0, .slice (some ⟨w1.heap.size, 0, none⟩) K.hn K.hn, .int .i64 0] 112))) := by
    have a1 := Blk.new w1 (Rw.flat hT (List.replicate K.hn ())) 124
    have k1 := (Kept.refl (fun _ => False) w1).alloc (.cells (Rw.flat hT (List.replicate K.hn ())).toArray 124)
    have s1 : (w1.alloc (.cells (Rw.flat hT (List.replicate K.hn ())).toArray 124)).heap.size = w1.heap.size + 1 := by simp
    have a2 := Blk.new (w1.alloc (.cells (Rw.flat hT (List.replicate K.hn ())).toArray 124)) [ptr nb, .slice none 0 0, .slice (some ⟨w1.heap.size, 0, none⟩) K.hn K.hn, .int .i64 0] 112
    have k2 := (Kept.refl (fun _ => False) (w1.alloc (.cells (Rw.flat hT (List.replicate K.hn ())).toArray 124))).alloc (.cells [ptr nb, .slice none 0 0, .slice (some ⟨w1.heap.size, 0, none⟩) K.hn K.hn, .int .i64 0].toArray 112)
    rw [s1] at a2
    dsimp only [List.toArray] at a2 k2
    have hnl := Blk.lt hN2.out
    have h01 := HK1.out.size
    refine Lib.hid { kept := HK1.out.trans (k1.trans k2), blk := a2, nv := k2.blk (k1.blk hN2.out (fun f => f)) (fun f => f), hrow := k2.blk a1 (fun f => f), row := Rw.Row.none pT _ _, prt := fun p q hq => by simp at hq, own := fun p g hp => by simp at hp, oo := fun p q g hp => by simp at hp, orow := fun p g hp => by simp at hp, low := ⟨HNB.out, by omega, h01, by omega, by omega, by omega, ?_⟩ }
    simp
  obtain ⟨n0, hn0⟩ : ∃ n0, w1.heap.size + 2 = n0 := ⟨_, rfl⟩
  obtain ⟨hb, hhb⟩ : ∃ hb, w1.heap.size = hb := ⟨_, rfl⟩
  obtain ⟨fb, hfb⟩ : ∃ fb, hb + 1 = fb := ⟨_, rfl⟩
  rw [hn0, hhb, hfb] at HI
  simp only [hhb, hfb]
  clear MK1 hN2 HK1 HNB hn0 hhb hfb
  generalize (w1.alloc (.cells (Rw.flat hT (List.replicate K.hn ())).toArray 124)).alloc (.cells #[ptr nb, .slice none 0 0, .slice (some ⟨hb, 0, none⟩) K.hn K.hn, .int .i64 0] 112) = w2 at *
  have PA := Lib.hid (ports_any HI.out.nv HC.out.net)
  go_wp2_with fail
  with_reducible refine Calls.mono PA.out ?_
  rintro e w3 ⟨rfl, m, rfl⟩
  have HI3 := Lib.hid (HI.out.old ((Kept.refl (fun _ => False) w2).drewN m))
  generalize w2.drewN m = w3 at *
  rw [← hpts]
  clear HI PA hpts
  go_wp2_with fail
  go_loopg [32] K.n (fun mm s32 wr => ∃ (i : Nat) (v : Value) (pl : List Nat) (O : Nat → Nat → Prop), Hid (K.n - i ≤ mm) ∧ i ≤ K.n ∧ s32 = .int .i64 (i : Nat) ∧ Hid (pl.length = i) ∧ Hid (NewI w K nb hb fb n0 v pl O wr))
  case atStart => exact ⟨0, _, [], _, Lib.hid (by omega), Nat.zero_le _, rfl, Lib.hid rfl, HI3⟩
  case round =>
    obtain ⟨i, v, pl, O, hmm, hi, rfl, hpl, hI⟩ := hrel
    rcases Nat.lt_or_ge i K.n with hlt | hge
    · have hlt' : (i : Int) < (K.n : Int) := by omega
      go_wp2_with fail
      with_reducible refine Calls.mono (PN.out _) ?_
      rintro e w4 ⟨b, F, rfl, hP, hF⟩
      obtain ⟨O', hPO, hO⟩ := pn_of hP hI.out.kept hF
      have hk4 : Kept (fun _ => False) wr w4 := hP.since
      have HPO := Lib.hid (And.intro hPO hO)
      have HK4 := Lib.hid hk4
      obtain ⟨av, cv, rfl, _⟩ := hI.out.row.slice
      have hbl := (hI.out.old hk4).blk
      have c1 := hbl.cell (o := 1) rfl
      have HBL := Lib.hid hbl
      clear hP hF hPO hO hk4 hbl
      go_upto_region 10 with fail
      have k7 := (Kept.refl (fun _ => False) w4).alloc (.cells #[.pointer (some ⟨b, 0, none⟩)] 25)
      have HR7 := Lib.hid ((hI.out.old HK4.out).row.old k7)
      have HS7 : Hid (Rw.Src pT (w4.alloc (.cells #[.pointer (some ⟨b, 0, none⟩)] 25)) (.slice (some ⟨w4.heap.size, 0, none⟩) 1 1) [b]) := by
        have h1 := Blk.new w4 [.pointer (some ⟨b, 0, none⟩)] 25
        exact Lib.hid (Rw.src_blk (t := pT) (K := [b]) 1 h1)
      have HK7 := Lib.hid k7
      have hbs : Hid (n0 ≤ (w4.alloc (.cells #[.pointer (some ⟨b, 0, none⟩)] 25)).heap.size) := Lib.hid (Nat.le_trans (hI.out.old HK4.out).low.2.2.2.2.2.2 k7.size)
      clear k7
      go_wp2_with (refine wpList_app pT rfl _ _ rfl n0 rfl HR7.out rfl HS7.out (by have := hpl.out; rw [List.length_singleton]; omega) hbs.out ?_; rintro v8 w8 hA; have HA := Lib.hid hA; obtain ⟨a8, c8, rfl, _⟩ := hA.row.slice; have tt := (hA.kept.blk (HK7.out.blk HBL.out (fun f => f)) (fun e => by have h1 := ((hI.out.old HK4.out).row.lt fb e).1; have h2 := hI.out.low.2.2.2.2.2.1; omega)).cell (o := 1) rfl; have tf := (hA.kept.blk (HK7.out.blk HBL.out (fun f => f)) (fun e => by have h1 := ((hI.out.old HK4.out).row.lt fb e).1; have h2 := hI.out.low.2.2.2.2.2.1; omega)).frozen 1; clear hA)
      have HA' := HA.out
      rw [List.length_append, List.length_singleton] at HA'
      have HI8 := Lib.hid (hI.out.push HPO.out.1 HPO.out.2 HK4.out HK7.out HA')
      have HL8 : Hid ((pl ++ [b]).length = i + 1) := Lib.hid (by rw [List.length_append, hpl.out]; rfl)
      clear HA' HA tt tf HR7 HS7 HPO HK4 HK7 hI HBL c1
      go_roundg (K.n - (i + 1))
      case measure => have := hmm.out; omega
      case rel => exact ⟨i + 1, _, _, _, Lib.hid (Nat.le_refl _), by omega, by go_num, HL8, HI8⟩
    · have hge' : ¬ ((i : Int) < (K.n : Int)) := by omega
      obtain rfl : i = K.n := by omega
      obtain ⟨a, ha, hF, ho⟩ := hI.out.fab HC.out hpl.out
      have R : Hid (NewP w K (.returned (.tuple #[ptr fb, .int .i64 0])) wr) := Lib.hid ⟨a, by rw [ha], hF, ho⟩
      clear hI hpl hF ho
      go_wp2_with fail
      exact bodyPost_ret (v := .tuple #[ptr fb, .int .i64 0]) (by simp [results, Try.results22, go_sem]) rfl R.out
end Go.Proofs.Ytompbpiaapenaaa.Fb

/- A fabric and its books: each call. Conditions: each theorem's own. -/
namespace Go.Proofs.Ytompbpiaapenaaa.Fb
open Go.RowKit Hp QuM QuN Rw Qu NumM NumC Po Fo FbM TpM Tp
def FV (w0 : World) (K : Cf) (M : Mo) (c : Int) (fb : Nat) (w : World) : Prop := Iv K M c ∧ ∃ a, a.fb = fb ∧ Fab w0 K a M w
variable {w0 w w' : World} {K : Cf} {M : Mo} {c : Int} {fb : Nat}
theorem FV.old (h : FV w0 K M c fb w) (k : Kept (fun _ => False) w w') : FV w0 K M c fb w' := by
  obtain ⟨h1, a, h2, h3⟩ := h
  exact ⟨h1, a, h2, h3.old k⟩
theorem FV.since (h : FV w0 K M c fb w) : Kept (fun _ => False) w0 w := by
  obtain ⟨h1, a, h2, h3⟩ := h
  exact h3.since
theorem iv_new (hc : K.Ok) : Iv K M0 0 := by
  refine ⟨hc, fun p hp x hx => ?_, fun j => ?_, Int.le_refl _, ?_⟩
  · rcases hx with ⟨k, hk, hx⟩ | hx <;> cases hx
  · show (0 : Int) = Wt _ (fun _ => (⟨fun _ => [], [], 0, 0⟩ : Pt)) K.n
    rw [Wt_empty]
  · show 0 + Wt _ (fun _ => (⟨fun _ => [], [], 0, 0⟩ : Pt)) K.n + li (fun _ => []) K.hn = 0
    rw [Wt_empty, li_empty]; rfl
theorem fv_new (hc : K.Ok) (h0 : 0 ≤ K.room) (h1 : K.room ≤ 1073741824) (h2 : 0 ≤ K.most) (h3 : K.most ≤ 1073741824) (w : World) :
    Calls Try.prog 22 #[.int .i64 K.H, .int .i64 K.S, .int .i64 K.room, .int .i64 K.most, .bool K.trim] w fun e w' => ∃ fb, e = .returned (.tuple #[ptr fb, .int .i64 0]) ∧ FV w K M0 0 fb w' := by
  refine (fnew_yes hc h0 h1 h2 h3 w).mono ?_
  rintro e w' ⟨a, rfl, hF, _⟩
  exact ⟨a.fb, rfl, iv_new hc, a, rfl, hF⟩
theorem fv_send_no (h : FV w0 K M c fb w) {J q : Int} {x : Bx} (hn : NoS K J x.f) :
    Calls Try.prog 24 #[ptr fb, .int .i64 J, fv x, .int .i64 q] w fun e w' => e = .returned (.tuple #[.int .i64 0, .int .i64 1]) ∧ FV w0 K M c fb w' := by
  obtain ⟨h1, a, rfl, h3⟩ := h
  refine (send_no h3 hn).mono ?_
  rintro e w' ⟨rfl, k⟩
  exact ⟨rfl, h1, a, rfl, h3.old k⟩
theorem fv_send_yes (h : FV w0 K M c fb w) (hc : c ≤ 30000) {J q : Int} {x : Bx} (hr : Rd w x) (hx : (0 ≤ J ∧ J < K.H) ∧ WrM.Ok x.f ∧ (0 ≤ x.f.dst ∧ x.f.dst < K.H) ∧ x.f.dst ≠ J) :
    Calls Try.prog 24 #[ptr fb, .int .i64 J, fv x, .int .i64 q] w fun e w' => e = .returned (.tuple #[.int .i64 (dD K M J.toNat ⟨x.f, x.s, x.c, q⟩).1, .int .i64 0]) ∧ ∃ s cc, FV w0 K (putM K M J.toNat ⟨x.f, x.s, x.c, q⟩ s cc) (c + 1) fb w' := by
  obtain ⟨h1, a, rfl, h3⟩ := h
  have hl := h1.ok.le
  have hH := h1.ok.hn
  refine (send_yes h3 (h1.bd (by omega)) hr hx).mono ?_
  rintro e w' ⟨rfl, s, cc, a', g1, g2, g3⟩
  refine ⟨rfl, s, cc, h1.put (by omega) ⟨?_, ?_⟩ s cc, a', g3, g1⟩
  · have := okAt_up h1.ok.net (p := J) hx.1.1 hx.1.2 hx.2.2.1.1 hx.2.2.1.2
    rw [Int.toNat_of_nonneg hx.1.1]
    exact this
  · have := hx.2.1.1
    unfold WrM.Fit at this
    dsimp only
    omega
theorem fv_serve_no (h : FV w0 K M c fb w) {J t : Int} (hj : J < 0 ∨ (K.n : Int) ≤ J) : Calls Try.prog 26 #[ptr fb, .int .i64 J, .int .i64 t] w fun e w' => e = .returned (.tuple #[.bool false, .int .i64 5]) ∧ FV w0 K M c fb w' := by
  obtain ⟨h1, a, rfl, h3⟩ := h
  refine (serve_no h3 hj).mono ?_
  rintro e w' ⟨rfl, rfl⟩
  exact ⟨rfl, h1, a, rfl, h3⟩
theorem fv_serve_none (h : FV w0 K M c fb w) (hc : c ≤ 30000) {p : Nat} (hp : p < K.n) {t : Int} (hx : tkX (M.P p) t = none) : Calls Try.prog 26 #[ptr fb, .int .i64 (p : Nat), .int .i64 t] w fun e w' => e = .returned (.tuple #[.bool false, .int .i64 0]) ∧ FV w0 K (srv0 M p t) c fb w' := by
  obtain ⟨h1, a, rfl, h3⟩ := h
  refine (serve_none h3 (h1.bd (by omega)) hp hx).mono ?_
  rintro e w' ⟨rfl, a', g1, g2, g3⟩
  exact ⟨rfl, h1.srv0 hp hx, a', g3, g1⟩
/-- What a Serve that takes one leaves. -/
def SvM (K : Cf) (M : Mo) (p : Nat) (t : Int) (x : Bx) (M' : Mo) : Prop :=
  ((nx K.H K.S p x.f.dst x.q).2 = true ∧ (p : Int) = K.H + x.f.dst ∧ M' = srv2 M p t x x.f.dst.toNat) ∨ ((nx K.H K.S p x.f.dst x.q).2 = false ∧ 0 ≤ (nx K.H K.S p x.f.dst x.q).1 ∧ (nx K.H K.S p x.f.dst x.q).1.toNat < K.n ∧ ∃ s cc, M' = putM K (srv1 M p t x) (nx K.H K.S p x.f.dst x.q).1.toNat x s cc)
theorem fv_serve_some (h : FV w0 K M c fb w) (hc : c ≤ 30000) {p : Nat} (hp : p < K.n) {t : Int} {x : Bx} (hx : tkX (M.P p) t = some x) : Calls Try.prog 26 #[ptr fb, .int .i64 (p : Nat), .int .i64 t] w fun e w' => e = .returned (.tuple #[.bool true, .int .i64 0]) ∧ ∃ M', SvM K M p t x M' ∧ FV w0 K M' c fb w' := by
  obtain ⟨h1, a, rfl, h3⟩ := h
  have hf := h1.fine p hp x (in_tkX hx)
  have h4 := h1.srv1 hp hx
  have hok := okAt_next h1.ok.net hf.1 x.q
  refine (serve_some h3 (h1.bd (by omega)) hp hx (h1.go hp (in_tkX hx)) hf.1 (h4.bd (by omega)).b).mono ?_
  rintro e w' ⟨rfl, hS⟩
  refine ⟨rfl, ?_⟩
  rcases hS with ⟨e1, a', g1, g2, g3⟩ | ⟨e1, s, cc, a', g1, g2, g3⟩
  · rcases hok with ⟨o1, o2⟩ | ⟨o1, o2⟩
    · have hd : x.f.dst.toNat < K.hn := by have := h1.ok.hn; have := hf.1.2.2.1; have := hf.1.2.2.2.1; omega
      exact ⟨_, Or.inl ⟨e1, o2, rfl⟩, h1.srv2 hp hx hd, a', g3, g1⟩
    · rw [e1] at o1; cases o1
  · rcases hok with ⟨o1, o2⟩ | ⟨o1, o2⟩
    · rw [o1] at e1; cases e1
    · have hq0 := o2.1
      have hq : (nx K.H K.S p x.f.dst x.q).1.toNat < K.n := by have := o2.2.1; have := h1.ok.n; omega
      refine ⟨_, Or.inr ⟨e1, hq0, hq, s, cc, rfl⟩, ?_, a', g3, g1⟩
      have h5 := h4.put hq (x := x) ⟨by rw [Int.toNat_of_nonneg hq0]; exact o2, hf.2⟩ s cc
      rw [show c - 1 + 1 = c by omega] at h5
      exact h5
theorem fv_take_off (h : FV w0 K M c fb w) {J : Int} (hj : J < 0 ∨ (K.hn : Int) ≤ J) : Calls Try.prog 27 #[ptr fb, .int .i64 J] w fun e w' => e = .returned (.tuple #[fv zF, .bool false]) ∧ FV w0 K M c fb w' := by
  obtain ⟨h1, a, rfl, h3⟩ := h
  refine (ftake_off h3 hj).mono ?_
  rintro e w' ⟨rfl, k⟩
  exact ⟨rfl, h1, a, rfl, h3.old k⟩
theorem fv_take_none (h : FV w0 K M c fb w) {j : Nat} (hj : j < K.hn) (hI : M.I j = []) : Calls Try.prog 27 #[ptr fb, .int .i64 (j : Nat)] w fun e w' => e = .returned (.tuple #[fv zF, .bool false]) ∧ FV w0 K M c fb w' := by
  obtain ⟨h1, a, rfl, h3⟩ := h
  refine (ftake_none h3 hj hI).mono ?_
  rintro e w' ⟨rfl, k⟩
  exact ⟨rfl, h1, a, rfl, h3.old k⟩
theorem fv_take_some (h : FV w0 K M c fb w) (hc : c ≤ 30000) {j : Nat} (hj : j < K.hn) {x : Bx} {L : List Bx} (hI : M.I j = x :: L) : Calls Try.prog 27 #[ptr fb, .int .i64 (j : Nat)] w fun e w' => e = .returned (.tuple #[fv x, .bool true]) ∧ Dat w0 w' x ∧ FV w0 K { M with I := upd M.I j L } (c - 1) fb w' := by
  obtain ⟨h1, a, rfl, h3⟩ := h
  refine (ftake_some h3 hj ((h1.bd (by omega)).i j hj) hI).mono ?_
  rintro e w' ⟨rfl, hd, a', g1, g2, g3⟩
  exact ⟨rfl, hd, h1.take hj hI, a', g3, g1⟩
theorem fv_drop_no (h : FV w0 K M c fb w) (hc : c ≤ 30000) {J k : Int} (hj : (J < 0 ∨ (K.n : Int) ≤ J) ∨ ∃ p : Nat, J = p ∧ p < K.n ∧ (k < 0 ∨ ((accL (M.P p).ls (M.P p).cr 9).length : Int) ≤ k)) (hk2 : k ≤ 9223372036854775807) : Calls Try.prog 31 #[ptr fb, .int .i64 J, .int .i64 k] w fun e w' => e = .returned (.int .i64 5) ∧ FV w0 K M c fb w' := by
  obtain ⟨h1, a, rfl, h3⟩ := h
  rcases hj with hj | ⟨p, rfl, hp, hk⟩
  · refine (fdrop_off h3 hj).mono ?_
    rintro e w' ⟨rfl, k⟩
    exact ⟨rfl, h1, a, rfl, h3.old k⟩
  · refine (fdrop_none h3 (h1.bd (by omega)) hp hk hk2).mono ?_
    rintro e w' ⟨rfl, k⟩
    exact ⟨rfl, h1, a, rfl, h3.old k⟩
theorem fv_drop_yes (h : FV w0 K M c fb w) (hc : c ≤ 30000) {p k : Nat} (hp : p < K.n) {x : Bx} (hx : (accL (M.P p).ls (M.P p).cr 9)[k]? = some x) : Calls Try.prog 31 #[ptr fb, .int .i64 (p : Nat), .int .i64 (k : Nat)] w fun e w' => e = .returned (.int .i64 0) ∧ ∃ i at_, i < 9 ∧ (lnl (M.P p).ls (M.P p).cr i)[at_]? = some x ∧ (accL (M.P p).ls (M.P p).cr i).length + at_ = k ∧ FV w0 K (drM M p i at_ x) c fb w' := by
  obtain ⟨h1, a, rfl, h3⟩ := h
  refine (fdrop_yes h3 (h1.bd (by omega)) hp hx (h1.go hp (in_acc (List.mem_of_getElem? hx)))).mono ?_
  rintro e w' ⟨rfl, i, at_, g1, g2, g3, a', g4, g5, g6⟩
  exact ⟨rfl, i, at_, g1, g2, g3, h1.dr hp g1 g2, a', g6, g4⟩
theorem fv_double_no (h : FV w0 K M c fb w) (hc : c ≤ 30000) {J k : Int} (hj : (J < 0 ∨ (K.n : Int) ≤ J) ∨ ∃ p : Nat, J = p ∧ p < K.n ∧ (k < 0 ∨ ((accL (M.P p).ls (M.P p).cr 9).length : Int) ≤ k)) (hk2 : k ≤ 9223372036854775807) : Calls Try.prog 32 #[ptr fb, .int .i64 J, .int .i64 k] w fun e w' => e = .returned (.int .i64 5) ∧ FV w0 K M c fb w' := by
  obtain ⟨h1, a, rfl, h3⟩ := h
  rcases hj with hj | ⟨p, rfl, hp, hk⟩
  · refine (fdouble_off h3 hj).mono ?_
    rintro e w' ⟨rfl, k⟩
    exact ⟨rfl, h1, a, rfl, h3.old k⟩
  · refine (fdouble_none h3 (h1.bd (by omega)) hp hk hk2).mono ?_
    rintro e w' ⟨rfl, k⟩
    exact ⟨rfl, h1, a, rfl, h3.old k⟩
theorem fv_double_yes (h : FV w0 K M c fb w) (hc : c ≤ 30000) {p k : Nat} (hp : p < K.n) {x : Bx} (hx : (accL (M.P p).ls (M.P p).cr 9)[k]? = some x) : Calls Try.prog 32 #[ptr fb, .int .i64 (p : Nat), .int .i64 (k : Nat)] w fun e w' => e = .returned (.int .i64 0) ∧ ∃ s1 c1 s cc, FV w0 K (putM K M p ⟨x.f, s1, c1, x.q⟩ s cc) (c + 1) fb w' := by
  obtain ⟨h1, a, rfl, h3⟩ := h
  have hin := in_acc (List.mem_of_getElem? hx)
  refine (fdouble_yes h3 (h1.bd (by omega)) hp hx (h1.go hp hin)).mono ?_
  rintro e w' ⟨rfl, s1, c1, s, cc, a', g1, g2, g3⟩
  exact ⟨rfl, s1, c1, s, cc, h1.put hp (x := ⟨x.f, s1, c1, x.q⟩) (h1.fine p hp x hin) s cc, a', g3, g1⟩
theorem fv_wait (h : FV w0 K M c fb w) (hc : c ≤ 30000) {p : Nat} (hp : p < K.n) : Calls Try.prog 33 #[ptr fb, .int .i64 (p : Nat)] w fun e w' => e = .returned (.int .i64 ((accL (M.P p).ls (M.P p).cr 9).length : Nat)) ∧ ∃ m, w' = w.drewN m := by
  obtain ⟨h1, a, rfl, h3⟩ := h
  exact fwait_yes h3 (h1.bd (by omega)) hp
theorem fv_wait_off (h : FV w0 K M c fb w) {J : Int} (hj : J < 0 ∨ (K.n : Int) ≤ J) : Calls Try.prog 33 #[ptr fb, .int .i64 J] w fun e w' => e = .returned (.int .i64 0) ∧ w = w' := by
  obtain ⟨h1, a, rfl, h3⟩ := h
  exact fwait_off h3 hj
theorem fv_ports (h : FV w0 K M c fb w) : Calls Try.prog 25 #[ptr fb] w fun e w' => e = .returned (.int .i64 (K.n : Nat)) ∧ w = w' := by
  obtain ⟨h1, a, rfl, h3⟩ := h
  exact fports_any h3
theorem fv_lost (h : FV w0 K M c fb w) : Calls Try.prog 29 #[ptr fb] w fun e w' => e = .returned (.int .i64 M.L) ∧ w = w' := by
  obtain ⟨h1, a, rfl, h3⟩ := h
  exact flost_any h3
theorem fv_bytes (h : FV w0 K M c fb w) {j : Nat} (hj : j < K.hn) : Calls Try.prog 35 #[ptr fb, .int .i64 (j : Nat)] w fun e w' => e = .returned (.int .i64 (M.B j)) ∧ w = w' := by
  obtain ⟨h1, a, rfl, h3⟩ := h
  exact fbytes_yes h3 hj
theorem fv_arr (h : FV w0 K M c fb w) (hc : c ≤ 30000) {j : Nat} (hj : j < K.hn) : Calls Try.prog 34 #[ptr fb, .int .i64 (j : Nat)] w (LiP w (M.I j)) := by
  obtain ⟨h1, a, rfl, h3⟩ := h
  exact farr_yes h3 (h1.bd (by omega)) hj
theorem fv_empty (h : FV w0 K M c fb w) (hc : c ≤ 30000) : Calls Try.prog 28 #[ptr fb] w (EmP K M w) := by
  obtain ⟨h1, a, rfl, h3⟩ := h
  exact fempty_any h3 (h1.bd (by omega))
end Go.Proofs.Ytompbpiaapenaaa.Fb

/- How many frames there are, all in all, behind any call. Conditions: each theorem's own. -/
namespace Go.Proofs.Ytompbpiaapenaaa.Fb
open Go.RowKit Hp QuM QuN Rw Qu NumM NumC Po Fo FbM TpM Tp
def FE (w0 : World) (K : Cf) (c : Int) (fb : Nat) (w : World) : Prop := ∃ M, FV w0 K M c fb w
variable {w0 w w' : World} {K : Cf} {c : Int} {fb : Nat}
theorem FE.old (h : FE w0 K c fb w) (k : Kept (fun _ => False) w w') : FE w0 K c fb w' := by
  obtain ⟨M, h⟩ := h
  exact ⟨M, h.old k⟩
theorem FE.since (h : FE w0 K c fb w) : Kept (fun _ => False) w0 w := by
  obtain ⟨M, h⟩ := h
  exact h.since
theorem FV.nonneg {M : Mo} (h : FV w0 K M c fb w) : 0 ≤ c := by
  have h1 := h.1.ones
  have h2 := li_nonneg M.I K.hn
  have h3 := h.1.lost
  have h4 := h.1.cnt
  unfold al at h4
  omega
/-- What a call that may add one leaves. -/
def Up (w0 : World) (K : Cf) (c : Int) (fb : Nat) (no g : Int) (w' : World) : Prop := (g = 0 ∧ FE w0 K (c + 1) fb w') ∨ (g = no ∧ FE w0 K c fb w')
theorem fe_send (h : FE w0 K c fb w) (hc : c ≤ 20000) {J q : Int} {x : Bx} (hr : Rd w x) :
    Calls Try.prog 24 #[ptr fb, .int .i64 J, fv x, .int .i64 q] w fun e w' => ∃ d g : Int, e = .returned (.tuple #[.int .i64 d, .int .i64 g]) ∧ Up w0 K c fb 1 g w' := by
  obtain ⟨M, h⟩ := h
  rcases send_or K J x.f with hn | hy
  · refine (fv_send_no h hn).mono ?_
    rintro e w' ⟨rfl, h2⟩
    exact ⟨0, 1, rfl, Or.inr ⟨rfl, M, h2⟩⟩
  · refine (fv_send_yes h (by omega) hr hy).mono ?_
    rintro e w' ⟨rfl, s, cc, h2⟩
    exact ⟨_, 0, rfl, Or.inl ⟨rfl, _, h2⟩⟩
theorem fe_serve (h : FE w0 K c fb w) (hc : c ≤ 20000) (J t : Int) :
    Calls Try.prog 26 #[ptr fb, .int .i64 J, .int .i64 t] w fun e w' => ∃ (b : Bool) (g : Int), e = .returned (.tuple #[.bool b, .int .i64 g]) ∧ FE w0 K c fb w' := by
  obtain ⟨M, h⟩ := h
  by_cases hj : J < 0 ∨ (K.n : Int) ≤ J
  · refine (fv_serve_no h hj).mono ?_
    rintro e w' ⟨rfl, h2⟩
    exact ⟨false, 5, rfl, M, h2⟩
  · obtain ⟨p, rfl⟩ := Int.eq_ofNat_of_zero_le (show 0 ≤ J by omega)
    have hp : p < K.n := by omega
    cases hx : tkX (M.P p) t with
    | none =>
      refine (fv_serve_none h (by omega) hp hx).mono ?_
      rintro e w' ⟨rfl, h2⟩
      exact ⟨false, 0, rfl, _, h2⟩
    | some x =>
      refine (fv_serve_some h (by omega) hp hx).mono ?_
      rintro e w' ⟨rfl, M', _, h2⟩
      exact ⟨true, 0, rfl, _, h2⟩
theorem fe_take (h : FE w0 K c fb w) (hc : c ≤ 20000) (J : Int) :
    Calls Try.prog 27 #[ptr fb, .int .i64 J] w fun e w' => ∃ (y : Bx) (ok : Bool), e = .returned (.tuple #[fv y, .bool ok]) ∧ ((ok = true ∧ FE w0 K (c - 1) fb w') ∨ (ok = false ∧ FE w0 K c fb w')) := by
  obtain ⟨M, h⟩ := h
  by_cases hj : J < 0 ∨ (K.hn : Int) ≤ J
  · refine (fv_take_off h hj).mono ?_
    rintro e w' ⟨rfl, h2⟩
    exact ⟨zF, false, rfl, Or.inr ⟨rfl, M, h2⟩⟩
  · obtain ⟨p, rfl⟩ := Int.eq_ofNat_of_zero_le (show 0 ≤ J by omega)
    have hp : p < K.hn := by omega
    cases hI : M.I p with
    | nil =>
      refine (fv_take_none h hp hI).mono ?_
      rintro e w' ⟨rfl, h2⟩
      exact ⟨zF, false, rfl, Or.inr ⟨rfl, M, h2⟩⟩
    | cons x L =>
      refine (fv_take_some h (by omega) hp hI).mono ?_
      rintro e w' ⟨rfl, _, h2⟩
      exact ⟨x, true, rfl, Or.inl ⟨rfl, _, h2⟩⟩
theorem which {M : Mo} {J k : Int} : ((J < 0 ∨ (K.n : Int) ≤ J) ∨ ∃ p : Nat, J = p ∧ p < K.n ∧ (k < 0 ∨ ((accL (M.P p).ls (M.P p).cr 9).length : Int) ≤ k)) ∨ ∃ (p j : Nat) (x : Bx), J = p ∧ p < K.n ∧ k = j ∧ (accL (M.P p).ls (M.P p).cr 9)[j]? = some x := by
  by_cases hj : J < 0 ∨ (K.n : Int) ≤ J
  · exact Or.inl (Or.inl hj)
  · obtain ⟨p, rfl⟩ := Int.eq_ofNat_of_zero_le (show 0 ≤ J by omega)
    by_cases hk : k < 0 ∨ ((accL (M.P p).ls (M.P p).cr 9).length : Int) ≤ k
    · exact Or.inl (Or.inr ⟨p, rfl, by omega, hk⟩)
    · obtain ⟨j, rfl⟩ := Int.eq_ofNat_of_zero_le (show 0 ≤ k by omega)
      exact Or.inr ⟨p, j, _, rfl, by omega, rfl, List.getElem?_eq_getElem (by omega)⟩
theorem fe_drop (h : FE w0 K c fb w) (hc : c ≤ 20000) (J : Int) {k : Int} (hk : k ≤ 9223372036854775807) :
    Calls Try.prog 31 #[ptr fb, .int .i64 J, .int .i64 k] w fun e w' => ∃ g : Int, e = .returned (.int .i64 g) ∧ FE w0 K c fb w' := by
  obtain ⟨M, h⟩ := h
  rcases which (K := K) (M := M) (J := J) (k := k) with hn | ⟨p, j, x, rfl, hp, rfl, hx⟩
  · refine (fv_drop_no h (by omega) hn hk).mono ?_
    rintro e w' ⟨rfl, h2⟩
    exact ⟨5, rfl, M, h2⟩
  · refine (fv_drop_yes h (by omega) hp hx).mono ?_
    rintro e w' ⟨rfl, i, at_, _, _, _, h2⟩
    exact ⟨0, rfl, _, h2⟩
theorem fe_double (h : FE w0 K c fb w) (hc : c ≤ 20000) (J : Int) {k : Int} (hk : k ≤ 9223372036854775807) :
    Calls Try.prog 32 #[ptr fb, .int .i64 J, .int .i64 k] w fun e w' => ∃ g : Int, e = .returned (.int .i64 g) ∧ Up w0 K c fb 5 g w' := by
  obtain ⟨M, h⟩ := h
  rcases which (K := K) (M := M) (J := J) (k := k) with hn | ⟨p, j, x, rfl, hp, rfl, hx⟩
  · refine (fv_double_no h (by omega) hn hk).mono ?_
    rintro e w' ⟨rfl, h2⟩
    exact ⟨5, rfl, Or.inr ⟨rfl, M, h2⟩⟩
  · refine (fv_double_yes h (by omega) hp hx).mono ?_
    rintro e w' ⟨rfl, s1, c1, s, cc, h2⟩
    exact ⟨0, rfl, Or.inl ⟨rfl, _, h2⟩⟩
theorem up_c {no g : Int} (hno : no ≠ 0) (h : Up w0 K c fb no g w') : (g == 0) = true ∧ FE w0 K (c + 1) fb w' ∨ (g == 0) = false ∧ FE w0 K c fb w' := by
  rcases h with ⟨rfl, h⟩ | ⟨rfl, h⟩
  · exact Or.inl ⟨rfl, h⟩
  · exact Or.inr ⟨by rw [beq_eq_false_iff_ne]; exact hno, h⟩
/-- What nothing answers. -/
theorem send_nil {J q : Int} {x : Bx} (w : World) :
    Calls Try.prog 24 #[.pointer none, .int .i64 J, fv x, .int .i64 q] w fun e w' => e = .returned (.tuple #[.int .i64 0, .int .i64 1]) ∧ Kept (fun _ => False) w w' := by
  have HA := Lib.hid fun w => host_nil J w
  obtain ⟨⟨x1, x2, x3, x4, x5, x6, x7, x8, x9, xd⟩, xa, xc, xq⟩ := x
  go_enter Try.func24, Try.ntmps24
  go_upto_region 1 with fail
  have hkk := (Kept.refl (fun _ => False) w).alloc (.cells [.int .i64 x1, .int .i64 x2, .int .i64 x3, .int .i64 x4, .int .u64 (x5 : Int), .int .i64 x6, .int .i64 x7, .int .i64 x8, .int .i64 x9, .slice xa xd.length xc].toArray 35)
  dsimp only [List.toArray] at hkk
  have HK := Lib.hid hkk
  generalize w.alloc (.cells #[.int .i64 x1, .int .i64 x2, .int .i64 x3, .int .i64 x4, .int .u64 (x5 : Int), .int .i64 x6, .int .i64 x7, .int .i64 x8, .int .i64 x9, .slice xa xd.length xc] 35) = w1 at *
  clear hkk
  go_wp2_with fail
  with_reducible refine Calls.mono (HA.out _) ?_
  rintro e w3 ⟨rfl, rfl⟩
  go_wp2_with fail
  exact bodyPost_ret (v := .tuple #[.int .i64 0, .int .i64 1]) (by simp [results, Try.results24, go_sem]) rfl ⟨rfl, HK.out⟩
abbrev K4 (room : Int) : Cf := ⟨4, 2, 4, 16, room, 2, true⟩
theorem k4_ok (room : Int) : (K4 room).Ok := ⟨⟨by show (2 : Int) ≤ 4; decide, by show (4 : Int) ≤ 8; decide, by show (1 : Int) ≤ 2; decide, by show (2 : Int) ≤ 4; decide⟩, rfl, by show (16 : Int) = pts 4 2; decide⟩
/-- The first p ports, and what was lost. -/
theorem Wt_succ (P : Nat → Pt) (p : Nat) : Wt (fun _ => 1) P (p + 1) = Wt (fun _ => 1) P p + ((accL (P p).ls (P p).cr 9).length : Nat) := by
  show Wt (fun _ => 1) P p + wt (fun _ => 1) (P p) = _
  rw [wt_one]
theorem Wt_mono (P : Nat → Pt) {p n : Nat} (h : p ≤ n) : Wt (fun _ => 1) P p ≤ Wt (fun _ => 1) P n := by
  induction n with
  | zero => obtain rfl : p = 0 := by omega
            exact Int.le_refl _
  | succ n ih =>
    by_cases e : p = n + 1
    · subst e; exact Int.le_refl _
    · have := ih (by omega)
      rw [Wt_succ]; omega
theorem li_mono (I : Nat → List Bx) {p n : Nat} (h : p ≤ n) : li I p ≤ li I n := by
  induction n with
  | zero => obtain rfl : p = 0 := by omega
            exact Int.le_refl _
  | succ n ih =>
    by_cases e : p = n + 1
    · subst e; exact Int.le_refl _
    · have := ih (by omega)
      have : li I (n + 1) = li I n + (I n).length := rfl
      omega
end Go.Proofs.Ytompbpiaapenaaa.Fb

