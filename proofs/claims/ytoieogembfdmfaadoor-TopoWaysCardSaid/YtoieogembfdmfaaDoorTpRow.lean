/- A row of ints of the call's own; a frame's route step by step. Conditions: each theorem's own. -/
import Derived.Test.YtoieogembfdmfaaDoorTpAw
import Derived.Test.YtoieogembfdmfaaDoorTbRw
import Derived.Test.YtoieogembfdmfaaDoorRnd
set_option linter.unusedVariables false
namespace Go.Proofs.YtoieogembfdmfaaDoor.Tp
open Go.RowKit Hp TpM Rw
/-- One number's cell. -/
@[reducible] def nT : Rw.Ty Int where
  E := 3
  L := 39
  k := 1
  bz := 8
  enc := fun x => [.int .i64 x]
  z := .int .i64 0
  hL := Tryd.underlying39
  hI := by kernel_rfl
  hz := rfl
  hk := fun x => rfl
  h1 := fun x v hv => by
    simp only [List.mem_cons, List.not_mem_nil, or_false] at hv
    subst hv; rfl
  k0 := by decide
  hb := by decide
theorem row_at {w : World} {base : Nat} {v : Value} {l : List Int} (h : Row nT w base v l) :
    ∃ a c, v = .slice a l.length c ∧ l.length ≤ c ∧ ∀ j (hj : j < l.length), ∃ g, a = some ⟨g, 0, none⟩ ∧ w.cell? ⟨g, j, none⟩ = some (.int .i64 l[j]) := by
  rcases h.form with ⟨rfl, rfl⟩ | ⟨g, cap, cur, rfl, h1, h2⟩
  · exact ⟨none, 0, rfl, Nat.le_refl _, fun j hj => by cases hj⟩
  · refine ⟨_, cap, rfl, h2.le, fun j hj => ⟨g, rfl, ?_⟩⟩
    have := h2.cell (List.getElem?_eq_getElem hj) (j := 0) (u := .int .i64 l[j]) rfl
    rwa [Nat.add_zero, Nat.mul_one] at this
theorem src_one {w : World} {g : Nat} {x : Int} {cap : Nat} (h : Blk w g [.int .i64 x] 3) : Src nT w (.slice (some ⟨g, 0, none⟩) 1 cap) [x] := src_blk (t := nT) (K := [x]) cap h
theorem goes_at {H S d q : Int} : ∀ {l : List Int} (h : Goes H S d q l) {k : Nat} {x : Int} (hk : l[k]? = some x), nx H S x d q = (l.getD (k + 1) (-1), decide (k + 1 = l.length))
  | [], h, k, x, hk => by simp at hk
  | [a], h, 0, x, hk => by
    simp at hk; subst hk
    rw [show nx H S a d q = (-1, true) from h]; rfl
  | [a], h, k + 1, x, hk => by simp at hk
  | a :: b :: l, h, 0, x, hk => by
    simp at hk; subst hk
    rw [h.1]
    simp
  | a :: b :: l, h, k + 1, x, hk => by
    have := goes_at (l := b :: l) h.2 (k := k) (x := x) (by simpa using hk)
    rw [this]
    simp
theorem pw_at {l : List Int} (h : l.Pairwise (· ≠ ·)) {j k : Nat} {x y : Int} (hjk : j < k) (hj : l[j]? = some x) (hk : l[k]? = some y) : x ≠ y := by
  obtain ⟨h1, rfl⟩ := List.getElem?_eq_some_iff.1 hj
  obtain ⟨h2, rfl⟩ := List.getElem?_eq_some_iff.1 hk
  exact List.pairwise_iff_getElem.1 h j k h1 h2 hjk
end Go.Proofs.YtoieogembfdmfaaDoor.Tp
