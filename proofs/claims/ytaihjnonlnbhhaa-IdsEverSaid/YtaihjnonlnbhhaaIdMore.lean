/- Windows of a row of numbers. Conditions: each theorem's own. -/
import Derived.Test.YtaihjnonlnbhhaaIdMath
set_option linter.unusedVariables false
namespace Go.Proofs.Ytaihjnonlnbhhaa.IdM
theorem asc_len {b : Int} : ∀ {l : List Int} {a : Int}, Asc l → (∀ x ∈ l, a < x ∧ x ≤ b) → a ≤ b → (l.length : Int) ≤ b - a
  | [], a, _, _, h => by simp; omega
  | x :: l, a, ha, hl, h => by
    have h1 := hl x (by simp)
    have h2 := asc_len (l := l) (a := x) (List.pairwise_cons.1 ha).2 (fun y hy => ⟨(List.pairwise_cons.1 ha).1 y hy, (hl y (by simp [hy])).2⟩) h1.2
    rw [List.length_cons]
    omega
/-- Only numbers of the row have ended, in a window with room for all of them. -/
structure Wrow (n : Nat) (M : Int) (l : List Int) : Prop where
  win : Win 60 M l
  mark : M ≤ (n : Int) + 1
  all : ∀ x ∈ l, x ≤ (n : Int)
theorem Wrow.new (n : Nat) : Wrow n 1 [] := ⟨Win.new 60, by omega, by simp⟩
theorem Wrow.done {n : Nat} (hn : n ≤ 60) {M : Int} {l : List Int} (h : Wrow n M l) {id : Int} (h1 : 1 ≤ id) (h2 : id ≤ n) : (done 60 M l id).1 = 0 ∧ Wrow n (done 60 M l id).2.1 (done 60 M l id).2.2 := by
  have ht : (top : Int) = 1152921504606846976 := rfl
  have hW := h.win.done id
  have hlo := h.win.lo
  have hlen : l.length ≤ 59 := by
    by_cases e : M ≤ n
    · have := asc_len h.win.asc (fun x hx => ⟨(h.win.over x hx).1, h.all x hx⟩) e
      omega
    · cases l with
      | nil => simp
      | cons x l => have h3 := (h.win.over x (by simp)).1; have h4 := h.all x (by simp); omega
  have h0 : (IdM.done 60 M l id).1 = 0 := by
    refine Classical.byContradiction fun e => ?_
    rcases done_no e with ⟨e1, _⟩ | ⟨e1, _⟩ <;> omega
  refine ⟨h0, hW, ?_, ?_⟩
  · unfold IdM.done
    split
    · exact h.mark
    · split
      · exact h.mark
      · split
        · exact goes_top l (M + 1) (by omega) h.all
        · split <;> exact h.mark
  · unfold IdM.done
    split
    · exact h.all
    · split
      · exact h.all
      · split
        · intro x hx
          simp only [goes_drop] at hx
          exact h.all x (List.mem_of_mem_drop hx)
        · split
          · exact h.all
          · intro x hx
            rcases ins_mem.1 hx with rfl | hx
            · exact h2
            · exact h.all x hx
/-- Once all of the row have ended there are no records, and the mark is behind it. -/
theorem Wrow.full {n : Nat} {M : Int} {l : List Int} (h : Wrow n M l) (he : ∀ k : Nat, 1 ≤ k → k ≤ n → isE M l k = true) : M = (n : Int) + 1 ∧ l = [] := by
  have hM : M = (n : Int) + 1 := by
    have h1 := h.mark
    have h2 := h.win.lo
    refine Classical.byContradiction fun e => ?_
    have := he M.toNat (by omega) (by omega)
    rw [show ((M.toNat : Nat) : Int) = M by omega, isE_mark h.win] at this
    cases this
  refine ⟨hM, ?_⟩
  cases l with
  | nil => rfl
  | cons x l => have h3 := (h.win.over x (by simp)).1; have h4 := h.all x (by simp); omega
theorem goes_len (m : Int) (l : List Int) : ((goes m l).2.2.length : Int) = (l.length : Int) - ((goes m l).1 : Int) := by
  have := goes_le l m
  rw [goes_drop, List.length_drop]
  omega
theorem retire_le (M : Int) (l : List Int) (below : Int) : (retire M l below).1 ≤ l.length := by
  unfold retire
  split
  · exact Nat.zero_le _
  · exact goes_le _ _
theorem retire_len (M : Int) (l : List Int) (below : Int) : ((retire M l below).2.2.length : Int) = (l.length : Int) - ((retire M l below).1 : Int) := by
  unfold retire
  split
  · simp
  · exact goes_len _ _
theorem retire_ge (M : Int) (l : List Int) {below : Int} (h : below ≤ top) : below ≤ (retire M l below).2.1 := by
  unfold retire
  split
  · simp only; omega
  · have := goes_mark l (min below (top + 1)); omega
theorem retire_none {M : Int} (l : List Int) {below : Int} (h : below ≤ M) : (retire M l below).1 = 0 := by
  unfold retire
  rw [if_pos (by omega)]
theorem retire_isE {most : Nat} {M : Int} {l : List Int} (hW : Win most M l) {below : Int} (h : below ≤ top) (y : Int) : isE (retire M l below).2.1 (retire M l below).2.2 y = decide (0 < y ∧ (y < below ∨ isE M l y = true)) := by
  unfold retire
  split
  · rename_i h1
    rw [Bool.eq_iff_iff, decide_eq_true_eq]
    constructor
    · intro e
      exact ⟨by unfold isE at e; rw [decide_eq_true_eq] at e; exact e.1, Or.inr e⟩
    · rintro ⟨h2, h3 | h3⟩
      · unfold isE; rw [decide_eq_true_eq]; exact ⟨h2, Or.inl (by simp only; omega)⟩
      · exact h3
  · rename_i h1
    rw [goes_isE (M := M) hW.asc, Bool.eq_iff_iff, decide_eq_true_eq, decide_eq_true_eq]
    unfold isE
    rw [decide_eq_true_eq]
    constructor
    · rintro ⟨h2, h3 | h3⟩
      · exact ⟨h2, Or.inl (by omega)⟩
      · exact ⟨h2, Or.inr ⟨h2, Or.inr h3⟩⟩
    · rintro ⟨h2, h3 | ⟨_, h3 | h3⟩⟩
      · exact ⟨h2, Or.inl (by omega)⟩
      · exact ⟨h2, Or.inl (by omega)⟩
      · exact ⟨h2, Or.inr h3⟩
end Go.Proofs.Ytaihjnonlnbhhaa.IdM
