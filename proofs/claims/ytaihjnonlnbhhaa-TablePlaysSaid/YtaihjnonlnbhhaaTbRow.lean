/- Slots in memory: four cells each. Conditions: each theorem's own. -/
import Derived.Test.YtaihjnonlnbhhaaTbNum
set_option linter.unusedVariables false
namespace Go.Proofs.Ytaihjnonlnbhhaa.TbR
open Go.RowKit Hp TbM TbN
variable {V : Type} (ev : V → Value) (z : Value)
/-- A slot's four cells. -/
def sc : Option (Ky × V) → List Value
  | none => [.bool false, .int .i64 0, .int .u64 0, z]
  | some (k, v) => [.bool true, .int .i64 k.1, .int .u64 k.2, ev v]
def flat (S : List (Option (Ky × V))) : List Value := S.flatMap (sc ev z)
theorem sc_len (x : Option (Ky × V)) : (sc ev z x).length = 4 := by
  rcases x with _ | ⟨k, v⟩ <;> rfl
theorem flat_len : ∀ S : List (Option (Ky × V)), (flat ev z S).length = S.length * 4
  | [] => rfl
  | x :: S => by
    have := flat_len S
    unfold flat at this ⊢
    rw [List.flatMap_cons, List.length_append, this, sc_len, List.length_cons]; omega
theorem flat_at : ∀ {S : List (Option (Ky × V))} {i : Nat} {x : Option (Ky × V)} (h : S[i]? = some x) {j : Nat} (hj : j < 4), (flat ev z S)[i * 4 + j]? = (sc ev z x)[j]?
  | [], i, x, h, j, hj => by simp at h
  | y :: S, 0, x, h, j, hj => by
    simp at h; subst h
    unfold flat
    rw [List.flatMap_cons, List.getElem?_append_left (by rw [sc_len]; omega)]
    congr 1; omega
  | y :: S, i + 1, x, h, j, hj => by
    have := flat_at (S := S) (i := i) (x := x) (by simpa using h) hj
    unfold flat at this ⊢
    rw [List.flatMap_cons, List.getElem?_append_right (by rw [sc_len]; omega), sc_len, show (i + 1) * 4 + j - 4 = i * 4 + j by omega, this]
theorem flat_set {S : List (Option (Ky × V))} {i : Nat} (hi : i < S.length) (x : Option (Ky × V)) {a b c d : Value} (hx : sc ev z x = [a, b, c, d]) :
    flat ev z (S.set i x) = ((((flat ev z S).set (i * 4) a).set (i * 4 + 1) b).set (i * 4 + 2) c).set (i * 4 + 3) d := by
  have hl := flat_len ev z S
  apply List.ext_getElem?
  intro t
  by_cases ht : t < S.length * 4
  · have hq : t / 4 < S.length := by omega
    obtain ⟨q, r, hr, rfl⟩ : ∃ q r, r < 4 ∧ t = q * 4 + r := ⟨t / 4, t % 4, by omega, by omega⟩
    have hq : q < S.length := by omega
    by_cases e : i = q
    · subst e
      rw [flat_at ev z (x := x) (by rw [List.getElem?_set_self hi]) hr, hx]
      have h4 : r = 0 ∨ r = 1 ∨ r = 2 ∨ r = 3 := by omega
      rcases h4 with rfl | rfl | rfl | rfl <;> simp [List.getElem?_set, hl] <;> omega
    · rw [flat_at ev z (x := S[q]) (by rw [List.getElem?_set_ne e, List.getElem?_eq_getElem hq]) hr]
      rw [List.getElem?_set_ne (by omega), List.getElem?_set_ne (by omega), List.getElem?_set_ne (by omega), List.getElem?_set_ne (by omega)]
      rw [flat_at ev z (x := S[q]) (List.getElem?_eq_getElem hq) hr]
  · rw [List.getElem?_eq_none (by rw [flat_len, List.length_set]; omega), List.getElem?_eq_none (by simp [hl]; omega)]
theorem flat_free (n : Nat) : flat ev z (List.replicate n none) = (List.replicate n (sc ev z none)).flatten := by
  induction n with
  | zero => rfl
  | succ n ih => unfold flat at ih ⊢; rw [List.replicate_succ, List.replicate_succ, List.flatMap_cons, List.flatten_cons, ih]
/-- Slots, as they lie. -/
def SlV (w : World) (T : TypeId) (v : Value) (S : List (Option (Ky × V))) : Prop :=
  (S = [] ∧ v = .slice none 0 0) ∨ ∃ g, v = .slice (some ⟨g, 0, none⟩) S.length S.length ∧ Blk w g (flat ev z S) T
variable {ev : V → Value} {z : Value}
theorem SlV.kept {w w' : World} {T : TypeId} {v : Value} {S : List (Option (Ky × V))} {F : Nat → Prop} (h : SlV ev z w T v S) (k : Kept F w w') (hF : ∀ g, v.ownBlock = some g → ¬ F g) : SlV ev z w' T v S := by
  rcases h with h | ⟨g, rfl, h⟩
  · exact Or.inl h
  · exact Or.inr ⟨g, rfl, k.blk h (hF g rfl)⟩
theorem slot_cell {w : World} {T : TypeId} {g : Nat} {S : List (Option (Ky × V))} (h : Blk w g (flat ev z S) T) {i : Nat} {x : Option (Ky × V)} (hi : S[i]? = some x) {j : Nat} (hj : j < 4) {u : Value} (hu : (sc ev z x)[j]? = some u) :
    w.cell? ⟨g, i * 4 + j, none⟩ = some u := h.cell (by rw [flat_at ev z hi hj, hu])
theorem slot_cells {w : World} {T : TypeId} {g : Nat} {S : List (Option (Ky × V))} (h : Blk w g (flat ev z S) T) {i : Nat} {x : Option (Ky × V)} (hi : S[i]? = some x) {a b c d : Value} (hx : sc ev z x = [a, b, c, d]) :
    w.cell? ⟨g, i * 4, none⟩ = some a ∧ w.cell? ⟨g, i * 4 + 1, none⟩ = some b ∧ w.cell? ⟨g, i * 4 + 2, none⟩ = some c ∧ w.cell? ⟨g, i * 4 + 3, none⟩ = some d :=
  ⟨slot_cell h hi (j := 0) (by decide) (by rw [hx]; rfl), slot_cell h hi (j := 1) (by decide) (by rw [hx]; rfl), slot_cell h hi (j := 2) (by decide) (by rw [hx]; rfl), slot_cell h hi (j := 3) (by decide) (by rw [hx]; rfl)⟩
theorem slot_set {w : World} {T : TypeId} {g : Nat} {S : List (Option (Ky × V))} (h : Blk w g (flat ev z S) T) {i : Nat} (hi : i < S.length) (x : Option (Ky × V)) {a b c d : Value} (hx : sc ev z x = [a, b, c, d]) :
    Blk ((((w.setCell ⟨g, i * 4, none⟩ a).setCell ⟨g, i * 4 + 1, none⟩ b).setCell ⟨g, i * 4 + 2, none⟩ c).setCell ⟨g, i * 4 + 3, none⟩ d) g (flat ev z (S.set i x)) T := by
  rw [flat_set ev z hi x hx]
  exact ((((h.set _ _).set _ _).set _ _).set _ _)
theorem slot_kept (w : World) (g i : Nat) (a b c d : Value) :
    Kept (fun k => k = g) w ((((w.setCell ⟨g, i * 4, none⟩ a).setCell ⟨g, i * 4 + 1, none⟩ b).setCell ⟨g, i * 4 + 2, none⟩ c).setCell ⟨g, i * 4 + 3, none⟩ d) :=
  ((((Kept.refl (fun k => k = g) w).set (b := g) (fun _ => rfl) _ _).set (b := g) (fun _ => rfl) _ _).set (b := g) (fun _ => rfl) _ _).set (b := g) (fun _ => rfl) _ _
end Go.Proofs.Ytaihjnonlnbhhaa.TbR
