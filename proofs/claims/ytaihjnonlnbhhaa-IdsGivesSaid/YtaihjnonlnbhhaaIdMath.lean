/- Windows as a mark and a rising list of numbers. Conditions: each theorem's own. -/
import Derived.Test.YtaihjnonlnbhhaaRows
set_option linter.unusedVariables false
namespace Go.Proofs.Ytaihjnonlnbhhaa.IdM
/-- The greatest number. -/
abbrev top : Int := 1152921504606846976
def Asc (l : List Int) : Prop := l.Pairwise (fun a b => a < b)
theorem Asc.lt {l : List Int} (h : Asc l) {i j : Nat} {x y : Int} (hij : i < j) (hx : l[i]? = some x) (hy : l[j]? = some y) : x < y := by
  obtain ⟨hi, rfl⟩ := List.getElem?_eq_some_iff.1 hx
  obtain ⟨hj, rfl⟩ := List.getElem?_eq_some_iff.1 hy
  exact List.pairwise_iff_getElem.1 h i j hi hj hij
theorem Asc.drop {l : List Int} (h : Asc l) (n : Nat) : Asc (l.drop n) := List.Pairwise.sublist (List.drop_sublist _ _) h
/-- How many stand ahead of a number. -/
def place (t : Int) : List Int → Nat
  | [] => 0
  | x :: l => if x < t then place t l + 1 else 0
theorem place_le (t : Int) : ∀ l : List Int, place t l ≤ l.length
  | [] => Nat.le_refl _
  | x :: l => by
    have := place_le t l
    unfold place
    split
    · simp only [List.length_cons]; omega
    · simp
theorem place_lt (t : Int) : ∀ (l : List Int) (i : Nat) (x : Int), i < place t l → l[i]? = some x → x < t
  | [], i, x, h, _ => by simp [place] at h
  | y :: l, i, x, h, hx => by
    unfold place at h
    split at h
    · rename_i hy
      cases i with
      | zero => simp at hx; subst hx; exact hy
      | succ i => exact place_lt t l i x (by omega) (by simpa using hx)
    · omega
theorem place_at (t : Int) : ∀ (l : List Int) (x : Int), l[place t l]? = some x → t ≤ x
  | [], x, h => by simp at h
  | y :: l, x, h => by
    unfold place at h
    split at h
    · exact place_at t l x (by simpa using h)
    · simp at h; omega
theorem place_ge {t : Int} {l : List Int} (h : Asc l) {i : Nat} {x : Int} (hi : place t l ≤ i) (hx : l[i]? = some x) : t ≤ x := by
  rcases Nat.lt_or_ge (place t l) i with h1 | h1
  · have hp : place t l < l.length := by have := (List.getElem?_eq_some_iff.1 hx).1; omega
    have h2 := place_at t l _ (List.getElem?_eq_getElem hp)
    have h3 := h.lt h1 (List.getElem?_eq_getElem hp) hx
    omega
  · obtain rfl : i = place t l := by omega
    exact place_at t l x hx
theorem place_is {t : Int} {l : List Int} (h : Asc l) {p : Nat} (hp : p ≤ l.length) (h1 : ∀ i x, i < p → l[i]? = some x → x < t) (h2 : ∀ x, l[p]? = some x → t ≤ x) : p = place t l := by
  rcases Nat.lt_trichotomy p (place t l) with e | e | e
  · have hl := place_le t l
    have hx := List.getElem?_eq_getElem (l := l) (i := p) (by omega)
    have := place_lt t l p _ e hx
    have := h2 _ hx
    omega
  · exact e
  · have hx := List.getElem?_eq_getElem (l := l) (i := place t l) (by omega)
    have := place_at t l _ hx
    have := h1 _ _ e hx
    omega
/-- Whether a number stands there. -/
def has (t : Int) (l : List Int) : Bool := l[place t l]? == some t
theorem has_iff {t : Int} {l : List Int} (h : Asc l) : has t l = true ↔ t ∈ l := by
  unfold has
  rw [beq_iff_eq]
  constructor
  · intro e; exact List.mem_of_getElem? e
  · intro hm
    obtain ⟨j, hj, hx⟩ := List.getElem_of_mem hm
    have hx' : l[j]? = some t := by rw [List.getElem?_eq_getElem hj, hx]
    rcases Nat.lt_trichotomy j (place t l) with e | e | e
    · have := place_lt t l j _ e hx'; omega
    · rw [← e]; exact hx'
    · have hp : place t l < l.length := by omega
      have h2 := place_at t l _ (List.getElem?_eq_getElem hp)
      have h3 := h.lt e (List.getElem?_eq_getElem hp) hx'
      omega
theorem has_not {t : Int} {l : List Int} (h : Asc l) : has t l = false ↔ t ∉ l := by
  rw [← Bool.not_eq_true, has_iff h]
/-- A number put in at its place. -/
def ins (t : Int) (l : List Int) : List Int := l.take (place t l) ++ t :: l.drop (place t l)
theorem ins_mem {t : Int} {l : List Int} {x : Int} : x ∈ ins t l ↔ x = t ∨ x ∈ l := by
  have h : (ins t l).Perm (t :: l) := by
    have h := (List.perm_middle (a := t) (l₁ := l.take (place t l)) (l₂ := l.drop (place t l)))
    rw [List.take_append_drop] at h
    exact h
  rw [h.mem_iff, List.mem_cons]
theorem ins_len (t : Int) (l : List Int) : (ins t l).length = l.length + 1 := by
  have := place_le t l
  unfold ins
  rw [List.length_append, List.length_cons, List.length_take, List.length_drop]
  omega
theorem ins_asc {t : Int} {l : List Int} (h : Asc l) (hn : t ∉ l) : Asc (ins t l) := by
  have hd : ∀ y ∈ l.drop (place t l), t < y := by
    intro y hy
    obtain ⟨j, hj, hx⟩ := List.getElem_of_mem hy
    have hy' : l[place t l + j]? = some y := by rw [← List.getElem?_drop, List.getElem?_eq_getElem hj, hx]
    have h1 := place_ge h (Nat.le_add_right _ j) hy'
    have h2 : y ≠ t := fun e => hn (e ▸ List.mem_of_getElem? hy')
    omega
  have ht : ∀ x ∈ l.take (place t l), x < t := by
    intro x hx
    obtain ⟨j, hj, hx⟩ := List.getElem_of_mem hx
    rw [List.length_take] at hj
    refine place_lt t l j x (by omega) ?_
    rw [List.getElem_take] at hx
    rw [← hx]
    exact List.getElem?_eq_getElem (by omega)
  unfold Asc ins
  rw [List.pairwise_append]
  refine ⟨List.Pairwise.sublist (List.take_sublist _ _) h, List.pairwise_cons.2 ⟨hd, List.Pairwise.sublist (List.drop_sublist _ _) h⟩, ?_⟩
  intro x hx y hy
  have := ht x hx
  rcases List.mem_cons.1 hy with rfl | hy
  · exact this
  · have := hd y hy; omega
/-- The mark goes on: how many records went, the mark, the records. -/
def goes : Int → List Int → Nat × Int × List Int
  | m, [] => (0, m, [])
  | m, x :: l => if x ≤ m then ((goes (if x = m then m + 1 else m) l).1 + 1, (goes (if x = m then m + 1 else m) l).2) else (0, m, x :: l)
theorem goes_below {m x : Int} {l : List Int} (h : x < m) : goes m (x :: l) = ((goes m l).1 + 1, (goes m l).2) := by
  rw [goes, if_pos (by omega), if_neg (by omega)]
theorem goes_at (m : Int) (l : List Int) : goes m (m :: l) = ((goes (m + 1) l).1 + 1, (goes (m + 1) l).2) := by
  rw [goes, if_pos (by omega), if_pos rfl]
theorem goes_above {m : Int} {l : List Int} (h : ∀ x ∈ l, m < x) : goes m l = (0, m, l) := by
  cases l with
  | nil => rfl
  | cons x l => have := h x (by simp); rw [goes, if_neg (by omega)]
theorem goes_skip (m : Int) : ∀ l : List Int, goes m l = (place m l + (goes m (l.drop (place m l))).1, (goes m (l.drop (place m l))).2)
  | [] => rfl
  | x :: l => by
    by_cases h : x < m
    · have h1 := goes_skip m l
      have h2 : place m (x :: l) = place m l + 1 := by rw [place, if_pos h]
      rw [goes_below h, h2, List.drop_succ_cons, h1]
      simp only [Prod.mk.injEq, and_true]
      omega
    · have h2 : place m (x :: l) = 0 := by rw [place, if_neg h]
      rw [h2, List.drop_zero]
      simp
theorem goes_le : ∀ (l : List Int) (m : Int), (goes m l).1 ≤ l.length
  | [], m => Nat.le_refl _
  | x :: l, m => by
    have := goes_le l (if x = m then m + 1 else m)
    rw [goes]
    split
    · simp only [List.length_cons]; omega
    · simp
theorem goes_drop : ∀ (l : List Int) (m : Int), (goes m l).2.2 = l.drop (goes m l).1
  | [], m => rfl
  | x :: l, m => by
    rw [goes]
    split
    · simp only [List.drop_succ_cons]; exact goes_drop l _
    · rfl
theorem goes_mark : ∀ (l : List Int) (m : Int), m ≤ (goes m l).2.1
  | [], m => Int.le_refl _
  | x :: l, m => by
    have := goes_mark l (if x = m then m + 1 else m)
    rw [goes]
    split
    · split at this <;> (simp_all; try omega)
    · exact Int.le_refl _
theorem goes_top {T : Int} : ∀ (l : List Int) (m : Int), m ≤ T + 1 → (∀ x ∈ l, x ≤ T) → (goes m l).2.1 ≤ T + 1
  | [], m, h, _ => h
  | x :: l, m, h, hl => by
    have hx := hl x (by simp)
    rw [goes]
    split
    · refine goes_top l _ ?_ (fun y hy => hl y (by simp [hy]))
      split <;> omega
    · exact h
theorem goes_over : ∀ (l : List Int) (m : Int), Asc l → ∀ x ∈ (goes m l).2.2, (goes m l).2.1 < x
  | [], m, _, x, hx => by simp [goes] at hx
  | y :: l, m, h, x, hx => by
    rw [goes] at hx ⊢
    split
    · rename_i hy
      rw [if_pos hy] at hx
      exact goes_over l _ (List.pairwise_cons.1 h).2 x hx
    · rename_i hy
      rw [if_neg hy] at hx
      simp only at hx ⊢
      rcases List.mem_cons.1 hx with rfl | hx
      · omega
      · have := (List.pairwise_cons.1 h).1 x hx; omega
/-- What has ended has ended still, and nothing else has. -/
theorem goes_ended : ∀ (l : List Int) (m : Int), Asc l → ∀ y, (y < (goes m l).2.1 ∨ y ∈ (goes m l).2.2) ↔ (y < m ∨ y ∈ l)
  | [], m, _, y => by simp [goes]
  | x :: l, m, h, y => by
    rw [goes]
    split
    · rename_i hx
      simp only
      rw [goes_ended l _ (List.pairwise_cons.1 h).2 y, List.mem_cons]
      split
      · rename_i e; subst e
        constructor
        · rintro (h1 | h1)
          · rcases Int.lt_or_le y x with h2 | h2
            · exact Or.inl h2
            · exact Or.inr (Or.inl (by omega))
          · exact Or.inr (Or.inr h1)
        · rintro (h1 | h1 | h1)
          · exact Or.inl (by omega)
          · exact Or.inl (by omega)
          · exact Or.inr h1
      · rename_i e
        constructor
        · rintro (h1 | h1)
          · exact Or.inl h1
          · exact Or.inr (Or.inr h1)
        · rintro (h1 | h1 | h1)
          · exact Or.inl h1
          · exact Or.inl (by omega)
          · exact Or.inr h1
    · rfl
/-- A window that may be. -/
structure Win (most : Nat) (M : Int) (l : List Int) : Prop where
  lo : 1 ≤ M
  hi : M ≤ top + 1
  asc : Asc l
  over : ∀ x ∈ l, M < x ∧ x ≤ top
  few : l.length ≤ most
theorem Win.new (most : Nat) : Win most 1 [] := ⟨by decide, by decide, List.Pairwise.nil, by simp, Nat.zero_le _⟩
theorem Win.no {most : Nat} {M : Int} {l : List Int} (h : Win most M l) : M ∉ l := fun hm => by have := (h.over M hm).1; omega
theorem Win.goes {most : Nat} {M : Int} {l : List Int} (h : Win most M l) {t : Int} (h1 : M ≤ t) (h2 : t ≤ top + 1) : Win most (goes t l).2.1 (goes t l).2.2 := by
  refine ⟨?_, goes_top l t h2 (fun x hx => (h.over x hx).2), ?_, fun x hx => ⟨goes_over l t h.asc x hx, ?_⟩, ?_⟩
  · have := goes_mark l t; have := h.lo; omega
  · rw [goes_drop]; exact h.asc.drop _
  · rw [goes_drop] at hx; exact (h.over x (List.mem_of_mem_drop hx)).2
  · rw [goes_drop, List.length_drop]; have := h.few; omega
/-- Whether a number has ended. -/
def isE (M : Int) (l : List Int) (id : Int) : Bool := decide (0 < id ∧ (id < M ∨ id ∈ l))
/-- What Done answers and leaves. -/
def done (most : Nat) (M : Int) (l : List Int) (id : Int) : Int × Int × List Int :=
  if id < 1 ∨ top < id then (1, M, l) else if id < M ∨ id ∈ l then (0, M, l) else if id = M then (0, (goes (M + 1) l).2) else if most ≤ l.length then (4, M, l) else (0, M, ins id l)
/-- What Retire answers and leaves. -/
def retire (M : Int) (l : List Int) (below : Int) : Nat × Int × List Int :=
  if min below (top + 1) ≤ M then (0, M, l) else goes (min below (top + 1)) l
theorem Win.done {most : Nat} {M : Int} {l : List Int} (h : Win most M l) (id : Int) : Win most (done most M l id).2.1 (done most M l id).2.2 := by
  unfold IdM.done
  split
  · exact h
  · rename_i h0
    split
    · exact h
    · rename_i h1
      split
      · rename_i h2
        exact h.goes (by omega) (by omega)
      · split
        · exact h
        · rename_i h2 h3
          refine ⟨h.lo, h.hi, ins_asc h.asc (fun e => h1 (Or.inr e)), fun x hx => ?_, ?_⟩
          · show M < x ∧ x ≤ top
            rcases ins_mem.1 hx with rfl | hx
            · have : ¬ x < M := fun e => h1 (Or.inl e)
              constructor <;> omega
            · exact h.over x hx
          · simp only; rw [ins_len]; omega
theorem Win.retire {most : Nat} {M : Int} {l : List Int} (h : Win most M l) (below : Int) : Win most (retire M l below).2.1 (retire M l below).2.2 := by
  unfold IdM.retire
  split
  · exact h
  · exact h.goes (by omega) (by omega)
theorem done_mark {most : Nat} {M : Int} {l : List Int} (id : Int) : M ≤ (done most M l id).2.1 := by
  unfold done
  split
  · exact Int.le_refl _
  · split
    · exact Int.le_refl _
    · split
      · have := goes_mark l (M + 1); simp only; omega
      · split <;> exact Int.le_refl _
theorem retire_mark {M : Int} {l : List Int} (below : Int) : M ≤ (retire M l below).2.1 := by
  unfold retire
  split
  · exact Int.le_refl _
  · have := goes_mark l (min below (top + 1)); omega
theorem goes_isE {M : Int} {l : List Int} (h : Asc l) {t : Int} (y : Int) : isE (goes t l).2.1 (goes t l).2.2 y = decide (0 < y ∧ (y < t ∨ y ∈ l)) := by
  unfold isE
  congr 1
  rw [goes_ended l t h y]
/-- What has ended stays so. -/
theorem done_keeps {most : Nat} {M : Int} {l : List Int} (h : Win most M l) (id : Int) {y : Int} (hy : isE M l y = true) : isE (done most M l id).2.1 (done most M l id).2.2 y = true := by
  unfold done
  split
  · exact hy
  · split
    · exact hy
    · split
      · simp only
        rw [goes_isE (M := M) h.asc]
        unfold isE at hy
        rw [decide_eq_true_eq] at hy ⊢
        exact ⟨hy.1, hy.2.imp (fun h => by omega) (fun h => h)⟩
      · split
        · exact hy
        · unfold isE at hy ⊢
          rw [decide_eq_true_eq] at hy ⊢
          exact ⟨hy.1, hy.2.imp (fun h => h) (fun h => ins_mem.2 (Or.inr h))⟩
theorem retire_keeps {most : Nat} {M : Int} {l : List Int} (h : Win most M l) (below : Int) {y : Int} (hy : isE M l y = true) : isE (retire M l below).2.1 (retire M l below).2.2 y = true := by
  unfold retire
  split
  · exact hy
  · rw [goes_isE (M := M) h.asc]
    unfold isE at hy
    rw [decide_eq_true_eq] at hy ⊢
    exact ⟨hy.1, hy.2.imp (fun h => by omega) (fun h => h)⟩
theorem done_ended {most : Nat} {M : Int} {l : List Int} (h : Win most M l) {id : Int} (h0 : (done most M l id).1 = 0) : isE (done most M l id).2.1 (done most M l id).2.2 id = true := by
  unfold done at h0 ⊢
  split
  · rename_i h1; rw [if_pos h1] at h0; simp at h0
  · rename_i h1
    rw [if_neg h1] at h0
    split
    · rename_i h2; unfold isE; rw [decide_eq_true_eq]; exact ⟨by omega, h2⟩
    · rename_i h2
      rw [if_neg h2] at h0
      split
      · rename_i h3
        simp only
        rw [goes_isE (M := M) h.asc, decide_eq_true_eq]
        exact ⟨by omega, Or.inl (by omega)⟩
      · rename_i h3
        rw [if_neg h3] at h0
        split
        · rename_i h4; rw [if_pos h4] at h0; simp at h0
        · unfold isE; rw [decide_eq_true_eq]; exact ⟨by omega, Or.inr (ins_mem.2 (Or.inl rfl))⟩
/-- Where it is refused it is a wrong number, or there is no room. -/
theorem done_no {most : Nat} {M : Int} {l : List Int} {id : Int} (h0 : (done most M l id).1 ≠ 0) : ((id < 1 ∨ top < id) ∧ done most M l id = (1, M, l)) ∨ (most ≤ l.length ∧ done most M l id = (4, M, l)) := by
  unfold done at h0 ⊢
  split
  · rename_i h1; exact Or.inl ⟨h1, rfl⟩
  · rename_i h1
    rw [if_neg h1] at h0
    split
    · rename_i h2; rw [if_pos h2] at h0; simp at h0
    · rename_i h2
      rw [if_neg h2] at h0
      split
      · rename_i h3; rw [if_pos h3] at h0; simp at h0
      · rename_i h3
        rw [if_neg h3] at h0
        split
        · rename_i h4; exact Or.inr ⟨h4, rfl⟩
        · rename_i h4; rw [if_neg h4] at h0; simp at h0
theorem isE_mark {most : Nat} {M : Int} {l : List Int} (h : Win most M l) : isE M l M = false := by
  unfold isE
  rw [decide_eq_false_iff_not]
  rintro ⟨_, h1 | h1⟩
  · omega
  · exact h.no h1
theorem isE_zero (M : Int) (l : List Int) : isE M l 0 = false := by
  unfold isE; rw [decide_eq_false_iff_not]; omega
/-- The document's own Done: put in at its place, and the mark goes on. -/
theorem done_ref {most : Nat} {M : Int} {l : List Int} (h : Win most M l) {id : Int} (h0 : ¬ (id < 1 ∨ top < id)) (h1 : ¬ (id < M ∨ id ∈ l)) (h2 : id = M ∨ l.length < most) : done most M l id = (0, (goes M (ins id l)).2) := by
  unfold done
  rw [if_neg h0, if_neg h1]
  by_cases e : id = M
  · subst e
    rw [if_pos rfl]
    have hp : place id l = 0 := by
      cases l with
      | nil => rfl
      | cons x l => have := (h.over x (by simp)).1; rw [place, if_neg (by omega)]
    have hi : ins id l = id :: l := by unfold ins; rw [hp]; rfl
    rw [hi, goes_at]
  · rw [if_neg e, if_neg (by omega), goes_above]
    intro x hx
    rcases ins_mem.1 hx with rfl | hx
    · have : ¬ x < M := fun e => h1 (Or.inl e)
      omega
    · exact (h.over x hx).1
theorem retire_ref {most : Nat} {M : Int} {l : List Int} (h : Win most M l) (below : Int) : retire M l below = goes (if M < below then min below (top + 1) else M) l := by
  have hab : goes M l = (0, M, l) := goes_above (fun x hx => (h.over x hx).1)
  have := h.hi
  unfold retire
  split
  · rename_i h1
    split
    · have : M = min below (top + 1) := by omega
      rw [← this, hab]
    · rw [hab]
  · rw [if_pos (by omega)]
end Go.Proofs.Ytaihjnonlnbhhaa.IdM
