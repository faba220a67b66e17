/- Windows as a mark and a rising list of numbers. Conditions: each theorem's own. -/
import Derived.Test.YtjjamooihddkgaaGreatRows
import Derived.Test.YtjjamooihddkgaaGreatPmG2
import Derived.WalkKit
import Derived.Outline
import Derived.ProofKit
import Derived.LoopTactic
import Derived.Deep.LoopGhost
import Derived.Deep.RegionLaw
import Derived.Deep.CutBlock
import Derived.Deep.RegionWith
import Derived.Deep.DeepCutAuto
import Derived.Deep.DrawnRows
import Derived.Deep.QuietTactic
import Derived.WalkLawsBesides
import Derived.Lib.Overlaps
set_option linter.unusedVariables false
set_option linter.unusedSimpArgs false
namespace Go.Proofs.YtjjamooihddkgaaGreat.IdM
/-- The greatest number. -/
abbrev top : Int := 1152921504606846976
def Asc (l : List Int) : Prop := l.Pairwise (fun a b => a < b)
theorem Asc.lt {l : List Int} (h : Asc l) {i j : Nat} {x y : Int} (hij : i < j) (hx : l[i]? = some x) (hy : l[j]? = some y) : x < y := by
  obtain ⟨hi, rfl⟩ := List.getElem?_eq_some_iff.1 hx
  obtain ⟨hj, rfl⟩ := List.getElem?_eq_some_iff.1 hy
  exact List.pairwise_iff_getElem.1 h i j hi hj hij
theorem Asc.drop {l : List Int} (h : Asc l) (n : Nat) : Asc (l.drop n) := List.Pairwise.sublist (List.drop_sublist _ _) h
/-- How many stand ahead of a number. -/
def place (t : Int) : List Int → Nat
  | [] => 0
  | x :: l => if x < t then place t l + 1 else 0
theorem place_le (t : Int) : ∀ l : List Int, place t l ≤ l.length
  | [] => Nat.le_refl _
  | x :: l => by
    have := place_le t l
    unfold place
    split
    · simp only [List.length_cons]; omega
    · simp
theorem place_lt (t : Int) : ∀ (l : List Int) (i : Nat) (x : Int), i < place t l → l[i]? = some x → x < t
  | [], i, x, h, _ => by simp [place] at h
  | y :: l, i, x, h, hx => by
    unfold place at h
    split at h
    · rename_i hy
      cases i with
      | zero => simp at hx; subst hx; exact hy
      | succ i => exact place_lt t l i x (by omega) (by simpa using hx)
    · omega
theorem place_at (t : Int) : ∀ (l : List Int) (x : Int), l[place t l]? = some x → t ≤ x
  | [], x, h => by simp at h
  | y :: l, x, h => by
    unfold place at h
    split at h
    · exact place_at t l x (by simpa using h)
    · simp at h; omega
theorem place_ge {t : Int} {l : List Int} (h : Asc l) {i : Nat} {x : Int} (hi : place t l ≤ i) (hx : l[i]? = some x) : t ≤ x := by
  rcases Nat.lt_or_ge (place t l) i with h1 | h1
  · have hp : place t l < l.length := by have := (List.getElem?_eq_some_iff.1 hx).1; omega
    have h2 := place_at t l _ (List.getElem?_eq_getElem hp)
    have h3 := h.lt h1 (List.getElem?_eq_getElem hp) hx
    omega
  · obtain rfl : i = place t l := by omega
    exact place_at t l x hx
theorem place_is {t : Int} {l : List Int} (h : Asc l) {p : Nat} (hp : p ≤ l.length) (h1 : ∀ i x, i < p → l[i]? = some x → x < t) (h2 : ∀ x, l[p]? = some x → t ≤ x) : p = place t l := by
  rcases Nat.lt_trichotomy p (place t l) with e | e | e
  · have hl := place_le t l
    have hx := List.getElem?_eq_getElem (l := l) (i := p) (by omega)
    have := place_lt t l p _ e hx
    have := h2 _ hx
    omega
  · exact e
  · have hx := List.getElem?_eq_getElem (l := l) (i := place t l) (by omega)
    have := place_at t l _ hx
    have := h1 _ _ e hx
    omega
/-- Whether a number stands there. -/
def has (t : Int) (l : List Int) : Bool := l[place t l]? == some t
theorem has_iff {t : Int} {l : List Int} (h : Asc l) : has t l = true ↔ t ∈ l := by
  unfold has
  rw [beq_iff_eq]
  constructor
  · intro e; exact List.mem_of_getElem? e
  · intro hm
    obtain ⟨j, hj, hx⟩ := List.getElem_of_mem hm
    have hx' : l[j]? = some t := by rw [List.getElem?_eq_getElem hj, hx]
    rcases Nat.lt_trichotomy j (place t l) with e | e | e
    · have := place_lt t l j _ e hx'; omega
    · rw [← e]; exact hx'
    · have hp : place t l < l.length := by omega
      have h2 := place_at t l _ (List.getElem?_eq_getElem hp)
      have h3 := h.lt e (List.getElem?_eq_getElem hp) hx'
      omega
theorem has_not {t : Int} {l : List Int} (h : Asc l) : has t l = false ↔ t ∉ l := by
  rw [← Bool.not_eq_true, has_iff h]
/-- A number put in at its place. -/
def ins (t : Int) (l : List Int) : List Int := l.take (place t l) ++ t :: l.drop (place t l)
theorem ins_mem {t : Int} {l : List Int} {x : Int} : x ∈ ins t l ↔ x = t ∨ x ∈ l := by
  have h : (ins t l).Perm (t :: l) := by
    have h := (List.perm_middle (a := t) (l₁ := l.take (place t l)) (l₂ := l.drop (place t l)))
    rw [List.take_append_drop] at h
    exact h
  rw [h.mem_iff, List.mem_cons]
theorem ins_len (t : Int) (l : List Int) : (ins t l).length = l.length + 1 := by
  have := place_le t l
  unfold ins
  rw [List.length_append, List.length_cons, List.length_take, List.length_drop]
  omega
theorem ins_asc {t : Int} {l : List Int} (h : Asc l) (hn : t ∉ l) : Asc (ins t l) := by
  have hd : ∀ y ∈ l.drop (place t l), t < y := by
    intro y hy
    obtain ⟨j, hj, hx⟩ := List.getElem_of_mem hy
    have hy' : l[place t l + j]? = some y := by rw [← List.getElem?_drop, List.getElem?_eq_getElem hj, hx]
    have h1 := place_ge h (Nat.le_add_right _ j) hy'
    have h2 : y ≠ t := fun e => hn (e ▸ List.mem_of_getElem? hy')
    omega
  have ht : ∀ x ∈ l.take (place t l), x < t := by
    intro x hx
    obtain ⟨j, hj, hx⟩ := List.getElem_of_mem hx
    rw [List.length_take] at hj
    refine place_lt t l j x (by omega) ?_
    rw [List.getElem_take] at hx
    rw [← hx]
    exact List.getElem?_eq_getElem (by omega)
  unfold Asc ins
  rw [List.pairwise_append]
  refine ⟨List.Pairwise.sublist (List.take_sublist _ _) h, List.pairwise_cons.2 ⟨hd, List.Pairwise.sublist (List.drop_sublist _ _) h⟩, ?_⟩
  intro x hx y hy
  have := ht x hx
  rcases List.mem_cons.1 hy with rfl | hy
  · exact this
  · have := hd y hy; omega
/-- The mark goes on: how many records went, the mark, the records. -/
def goes : Int → List Int → Nat × Int × List Int
  | m, [] => (0, m, [])
  | m, x :: l => if x ≤ m then ((goes (if x = m then m + 1 else m) l).1 + 1, (goes (if x = m then m + 1 else m) l).2) else (0, m, x :: l)
theorem goes_below {m x : Int} {l : List Int} (h : x < m) : goes m (x :: l) = ((goes m l).1 + 1, (goes m l).2) := by
  rw [goes, if_pos (by omega), if_neg (by omega)]
theorem goes_at (m : Int) (l : List Int) : goes m (m :: l) = ((goes (m + 1) l).1 + 1, (goes (m + 1) l).2) := by
  rw [goes, if_pos (by omega), if_pos rfl]
theorem goes_above {m : Int} {l : List Int} (h : ∀ x ∈ l, m < x) : goes m l = (0, m, l) := by
  cases l with
  | nil => rfl
  | cons x l => have := h x (by simp); rw [goes, if_neg (by omega)]
theorem goes_skip (m : Int) : ∀ l : List Int, goes m l = (place m l + (goes m (l.drop (place m l))).1, (goes m (l.drop (place m l))).2)
  | [] => rfl
  | x :: l => by
    by_cases h : x < m
    · have h1 := goes_skip m l
      have h2 : place m (x :: l) = place m l + 1 := by rw [place, if_pos h]
      rw [goes_below h, h2, List.drop_succ_cons, h1]
      simp only [Prod.mk.injEq, and_true]
      omega
    · have h2 : place m (x :: l) = 0 := by rw [place, if_neg h]
      rw [h2, List.drop_zero]
      simp
theorem goes_le : ∀ (l : List Int) (m : Int), (goes m l).1 ≤ l.length
  | [], m => Nat.le_refl _
  | x :: l, m => by
    have := goes_le l (if x = m then m + 1 else m)
    rw [goes]
    split
    · simp only [List.length_cons]; omega
    · simp
theorem goes_drop : ∀ (l : List Int) (m : Int), (goes m l).2.2 = l.drop (goes m l).1
  | [], m => rfl
  | x :: l, m => by
    rw [goes]
    split
    · simp only [List.drop_succ_cons]; exact goes_drop l _
    · rfl
theorem goes_mark : ∀ (l : List Int) (m : Int), m ≤ (goes m l).2.1
  | [], m => Int.le_refl _
  | x :: l, m => by
    have := goes_mark l (if x = m then m + 1 else m)
    rw [goes]
    split
    · split at this <;> (simp_all; try omega)
    · exact Int.le_refl _
theorem goes_top {T : Int} : ∀ (l : List Int) (m : Int), m ≤ T + 1 → (∀ x ∈ l, x ≤ T) → (goes m l).2.1 ≤ T + 1
  | [], m, h, _ => h
  | x :: l, m, h, hl => by
    have hx := hl x (by simp)
    rw [goes]
    split
    · refine goes_top l _ ?_ (fun y hy => hl y (by simp [hy]))
      split <;> omega
    · exact h
theorem goes_over : ∀ (l : List Int) (m : Int), Asc l → ∀ x ∈ (goes m l).2.2, (goes m l).2.1 < x
  | [], m, _, x, hx => by simp [goes] at hx
  | y :: l, m, h, x, hx => by
    rw [goes] at hx ⊢
    split
    · rename_i hy
      rw [if_pos hy] at hx
      exact goes_over l _ (List.pairwise_cons.1 h).2 x hx
    · rename_i hy
      rw [if_neg hy] at hx
      simp only at hx ⊢
      rcases List.mem_cons.1 hx with rfl | hx
      · omega
      · have := (List.pairwise_cons.1 h).1 x hx; omega
/-- What has ended has ended still, and nothing else has. -/
theorem goes_ended : ∀ (l : List Int) (m : Int), Asc l → ∀ y, (y < (goes m l).2.1 ∨ y ∈ (goes m l).2.2) ↔ (y < m ∨ y ∈ l)
  | [], m, _, y => by simp [goes]
  | x :: l, m, h, y => by
    rw [goes]
    split
    · rename_i hx
      simp only
      rw [goes_ended l _ (List.pairwise_cons.1 h).2 y, List.mem_cons]
      split
      · rename_i e; subst e
        constructor
        · rintro (h1 | h1)
          · rcases Int.lt_or_le y x with h2 | h2
            · exact Or.inl h2
            · exact Or.inr (Or.inl (by omega))
          · exact Or.inr (Or.inr h1)
        · rintro (h1 | h1 | h1)
          · exact Or.inl (by omega)
          · exact Or.inl (by omega)
          · exact Or.inr h1
      · rename_i e
        constructor
        · rintro (h1 | h1)
          · exact Or.inl h1
          · exact Or.inr (Or.inr h1)
        · rintro (h1 | h1 | h1)
          · exact Or.inl h1
          · exact Or.inl (by omega)
          · exact Or.inr h1
    · rfl
/-- A window that may be. -/
structure Win (most : Nat) (M : Int) (l : List Int) : Prop where
  lo : 1 ≤ M
  hi : M ≤ top + 1
  asc : Asc l
  over : ∀ x ∈ l, M < x ∧ x ≤ top
  few : l.length ≤ most
theorem Win.new (most : Nat) : Win most 1 [] := ⟨by decide, by decide, List.Pairwise.nil, by simp, Nat.zero_le _⟩
theorem Win.no {most : Nat} {M : Int} {l : List Int} (h : Win most M l) : M ∉ l := fun hm => by have := (h.over M hm).1; omega
theorem Win.goes {most : Nat} {M : Int} {l : List Int} (h : Win most M l) {t : Int} (h1 : M ≤ t) (h2 : t ≤ top + 1) : Win most (goes t l).2.1 (goes t l).2.2 := by
  refine ⟨?_, goes_top l t h2 (fun x hx => (h.over x hx).2), ?_, fun x hx => ⟨goes_over l t h.asc x hx, ?_⟩, ?_⟩
  · have := goes_mark l t; have := h.lo; omega
  · rw [goes_drop]; exact h.asc.drop _
  · rw [goes_drop] at hx; exact (h.over x (List.mem_of_mem_drop hx)).2
  · rw [goes_drop, List.length_drop]; have := h.few; omega
/-- Whether a number has ended. -/
def isE (M : Int) (l : List Int) (id : Int) : Bool := decide (0 < id ∧ (id < M ∨ id ∈ l))
/-- What Done answers and leaves. -/
def done (most : Nat) (M : Int) (l : List Int) (id : Int) : Int × Int × List Int :=
  if id < 1 ∨ top < id then (1, M, l) else if id < M ∨ id ∈ l then (0, M, l) else if id = M then (0, (goes (M + 1) l).2) else if most ≤ l.length then (4, M, l) else (0, M, ins id l)
/-- What Retire answers and leaves. -/
def retire (M : Int) (l : List Int) (below : Int) : Nat × Int × List Int :=
  if min below (top + 1) ≤ M then (0, M, l) else goes (min below (top + 1)) l
theorem Win.done {most : Nat} {M : Int} {l : List Int} (h : Win most M l) (id : Int) : Win most (done most M l id).2.1 (done most M l id).2.2 := by
  unfold IdM.done
  split
  · exact h
  · rename_i h0
    split
    · exact h
    · rename_i h1
      split
      · rename_i h2
        exact h.goes (by omega) (by omega)
      · split
        · exact h
        · rename_i h2 h3
          refine ⟨h.lo, h.hi, ins_asc h.asc (fun e => h1 (Or.inr e)), fun x hx => ?_, ?_⟩
          · show M < x ∧ x ≤ top
            rcases ins_mem.1 hx with rfl | hx
            · have : ¬ x < M := fun e => h1 (Or.inl e)
              constructor <;> omega
            · exact h.over x hx
          · simp only; rw [ins_len]; omega
theorem Win.retire {most : Nat} {M : Int} {l : List Int} (h : Win most M l) (below : Int) : Win most (retire M l below).2.1 (retire M l below).2.2 := by
  unfold IdM.retire
  split
  · exact h
  · exact h.goes (by omega) (by omega)
theorem done_mark {most : Nat} {M : Int} {l : List Int} (id : Int) : M ≤ (done most M l id).2.1 := by
  unfold done
  split
  · exact Int.le_refl _
  · split
    · exact Int.le_refl _
    · split
      · have := goes_mark l (M + 1); simp only; omega
      · split <;> exact Int.le_refl _
theorem retire_mark {M : Int} {l : List Int} (below : Int) : M ≤ (retire M l below).2.1 := by
  unfold retire
  split
  · exact Int.le_refl _
  · have := goes_mark l (min below (top + 1)); omega
theorem goes_isE {M : Int} {l : List Int} (h : Asc l) {t : Int} (y : Int) : isE (goes t l).2.1 (goes t l).2.2 y = decide (0 < y ∧ (y < t ∨ y ∈ l)) := by
  unfold isE
  congr 1
  rw [goes_ended l t h y]
/-- What has ended stays so. -/
theorem done_keeps {most : Nat} {M : Int} {l : List Int} (h : Win most M l) (id : Int) {y : Int} (hy : isE M l y = true) : isE (done most M l id).2.1 (done most M l id).2.2 y = true := by
  unfold done
  split
  · exact hy
  · split
    · exact hy
    · split
      · simp only
        rw [goes_isE (M := M) h.asc]
        unfold isE at hy
        rw [decide_eq_true_eq] at hy ⊢
        exact ⟨hy.1, hy.2.imp (fun h => by omega) (fun h => h)⟩
      · split
        · exact hy
        · unfold isE at hy ⊢
          rw [decide_eq_true_eq] at hy ⊢
          exact ⟨hy.1, hy.2.imp (fun h => h) (fun h => ins_mem.2 (Or.inr h))⟩
theorem retire_keeps {most : Nat} {M : Int} {l : List Int} (h : Win most M l) (below : Int) {y : Int} (hy : isE M l y = true) : isE (retire M l below).2.1 (retire M l below).2.2 y = true := by
  unfold retire
  split
  · exact hy
  · rw [goes_isE (M := M) h.asc]
    unfold isE at hy
    rw [decide_eq_true_eq] at hy ⊢
    exact ⟨hy.1, hy.2.imp (fun h => by omega) (fun h => h)⟩
theorem done_ended {most : Nat} {M : Int} {l : List Int} (h : Win most M l) {id : Int} (h0 : (done most M l id).1 = 0) : isE (done most M l id).2.1 (done most M l id).2.2 id = true := by
  unfold done at h0 ⊢
  split
  · rename_i h1; rw [if_pos h1] at h0; simp at h0
  · rename_i h1
    rw [if_neg h1] at h0
    split
    · rename_i h2; unfold isE; rw [decide_eq_true_eq]; exact ⟨by omega, h2⟩
    · rename_i h2
      rw [if_neg h2] at h0
      split
      · rename_i h3
        simp only
        rw [goes_isE (M := M) h.asc, decide_eq_true_eq]
        exact ⟨by omega, Or.inl (by omega)⟩
      · rename_i h3
        rw [if_neg h3] at h0
        split
        · rename_i h4; rw [if_pos h4] at h0; simp at h0
        · unfold isE; rw [decide_eq_true_eq]; exact ⟨by omega, Or.inr (ins_mem.2 (Or.inl rfl))⟩
/-- Where it is refused it is a wrong number, or there is no room. -/
theorem done_no {most : Nat} {M : Int} {l : List Int} {id : Int} (h0 : (done most M l id).1 ≠ 0) : ((id < 1 ∨ top < id) ∧ done most M l id = (1, M, l)) ∨ (most ≤ l.length ∧ done most M l id = (4, M, l)) := by
  unfold done at h0 ⊢
  split
  · rename_i h1; exact Or.inl ⟨h1, rfl⟩
  · rename_i h1
    rw [if_neg h1] at h0
    split
    · rename_i h2; rw [if_pos h2] at h0; simp at h0
    · rename_i h2
      rw [if_neg h2] at h0
      split
      · rename_i h3; rw [if_pos h3] at h0; simp at h0
      · rename_i h3
        rw [if_neg h3] at h0
        split
        · rename_i h4; exact Or.inr ⟨h4, rfl⟩
        · rename_i h4; rw [if_neg h4] at h0; simp at h0
theorem isE_mark {most : Nat} {M : Int} {l : List Int} (h : Win most M l) : isE M l M = false := by
  unfold isE
  rw [decide_eq_false_iff_not]
  rintro ⟨_, h1 | h1⟩
  · omega
  · exact h.no h1
theorem isE_zero (M : Int) (l : List Int) : isE M l 0 = false := by
  unfold isE; rw [decide_eq_false_iff_not]; omega
/-- The document's own Done: put in at its place, and the mark goes on. -/
theorem done_ref {most : Nat} {M : Int} {l : List Int} (h : Win most M l) {id : Int} (h0 : ¬ (id < 1 ∨ top < id)) (h1 : ¬ (id < M ∨ id ∈ l)) (h2 : id = M ∨ l.length < most) : done most M l id = (0, (goes M (ins id l)).2) := by
  unfold done
  rw [if_neg h0, if_neg h1]
  by_cases e : id = M
  · subst e
    rw [if_pos rfl]
    have hp : place id l = 0 := by
      cases l with
      | nil => rfl
      | cons x l => have := (h.over x (by simp)).1; rw [place, if_neg (by omega)]
    have hi : ins id l = id :: l := by unfold ins; rw [hp]; rfl
    rw [hi, goes_at]
  · rw [if_neg e, if_neg (by omega), goes_above]
    intro x hx
    rcases ins_mem.1 hx with rfl | hx
    · have : ¬ x < M := fun e => h1 (Or.inl e)
      omega
    · exact (h.over x hx).1
theorem retire_ref {most : Nat} {M : Int} {l : List Int} (h : Win most M l) (below : Int) : retire M l below = goes (if M < below then min below (top + 1) else M) l := by
  have hab : goes M l = (0, M, l) := goes_above (fun x hx => (h.over x hx).1)
  have := h.hi
  unfold retire
  split
  · rename_i h1
    split
    · have : M = min below (top + 1) := by omega
      rw [← this, hab]
    · rw [hab]
  · rw [if_pos (by omega)]
end Go.Proofs.YtjjamooihddkgaaGreat.IdM

/- Rows of numbers of a named type: a search by halves; append over two types of one form. Conditions: each theorem's own. -/
namespace Go.Proofs.YtjjamooihddkgaaGreat.Pn
open Go.RowKit Hp IdM Ro
attribute [local go_sem ↓] Go.wp_at_zero Go.wp_at_succ
/-- One number's cell. -/
@[reducible] def nT : Rw.Ty Int where
  E := 22
  L := 86
  k := 1
  bz := 8
  enc := fun x => [.int .u64 x]
  z := .int .u64 0
  hL := Tryz.underlying86
  hI := by kernel_rfl
  hz := rfl
  hk := fun x => rfl
  h1 := fun x v hv => by
    simp only [List.mem_cons, List.not_mem_nil, or_false] at hv
    subst hv; rfl
  k0 := by decide
  hb := by decide
theorem uat {w : World} {g o cap : Nat} {cur : List Value} {l : List Int} (h : Lies nT w g o cap cur l) {i : Nat} {x : Int} (hi : l[i]? = some x) : w.cell? ⟨g, o + i, none⟩ = some (.int .u64 x) := by
  have := h.cell hi (j := 0) (u := .int .u64 x) rfl
  rwa [Nat.add_zero, Nat.mul_one] at this
theorem less_any (a b : Int) (r : Bool) (hr : decide (a < b) = r) (w : World) : Calls Tryz.prog 101 #[.int .u64 a, .int .u64 b] w fun e w' => e = .returned (.bool r) ∧ w = w' := by
  go_enter Tryz.func101, Tryz.ntmps101
  go_wp2
  go_ret
  exact ⟨rfl, rfl⟩
theorem nan_any (a : Int) (w : World) : Calls Tryz.prog 102 #[.int .u64 a] w fun e w' => e = .returned (.bool false) ∧ w = w' := by
  go_enter Tryz.func102, Tryz.ntmps102
  go_wp2
  go_ret
  exact ⟨rfl, rfl⟩
set_option maxHeartbeats 4000000 in
theorem search_lies {w : World} {g o cap : Nat} {cur : List Value} {l : List Int} (h : Lies nT w g o cap cur l) (ha : Asc l) (hl : l.length ≤ 1000000) (t : Int) :
    Calls Tryz.prog 69 #[.slice (some ⟨g, o, none⟩) l.length cap, .int .u64 t] w fun e w' => e = .returned (.tuple #[.int .i64 (place t l : Nat), .bool (has t l)]) ∧ w = w' := by
  have H := Lib.hid h
  have HA := Lib.hid ha
  have NN := Lib.hid fun w => nan_any t w
  clear h ha
  obtain ⟨P, hP⟩ : ∃ P, P = place t l := ⟨_, rfl⟩
  obtain ⟨hs, hhs⟩ : ∃ hs, hs = has t l := ⟨_, rfl⟩
  rw [← hP, ← hhs]
  have HP := Lib.hid hP
  have HS := Lib.hid hhs
  clear hP hhs
  obtain ⟨n, hn⟩ : ∃ n, l.length = n := ⟨_, rfl⟩
  have HN := Lib.hid hn
  rw [hn] at hl ⊢
  clear hn
  go_enter Tryz.func69, Tryz.ntmps69
  go_wp2_with fail
  go_loopg [7, 8] n (fun kx s7 s8 wr => ∃ (lo hi : Nat), s7 = .int .i64 (lo : Nat) ∧ s8 = .int .i64 (hi : Nat) ∧ lo ≤ hi ∧ hi ≤ n ∧ Hid (hi - lo ≤ kx) ∧ Hid (∀ i x, i < lo → l[i]? = some x → x < t) ∧ Hid (∀ i x, hi ≤ i → l[i]? = some x → t ≤ x) ∧ w = wr)
  case atStart => exact ⟨0, n, rfl, rfl, Nat.zero_le _, Nat.le_refl _, Lib.hid (by omega), Lib.hid (fun i x hi => by omega), Lib.hid (fun i x hi hx => by have := (List.getElem?_eq_some_iff.1 hx).1; have := HN.out; omega), rfl⟩
  case round =>
    obtain ⟨lo, hi, rfl, rfl, hle, hin, hm, h1, h2, rfl⟩ := hrel
    by_cases hlt : lo < hi
    · obtain ⟨x, hx⟩ : ∃ x, l[(lo + hi) / 2]? = some x := ⟨_, List.getElem?_eq_getElem (by rw [HN.out]; omega)⟩
      have q := uat H.out hx
      have e1 : ((lo : Int) + (hi : Int)) / 2 = (((lo + hi) / 2 : Nat) : Int) := by omega
      have HX := Lib.hid hx
      clear hx
      obtain ⟨md, hmd⟩ : ∃ md, (lo + hi) / 2 = md := ⟨_, rfl⟩
      have hmd1 : lo ≤ md := by omega
      have hmd2 : md < hi := by omega
      have hmd3 : md < n := by omega
      have HMD := Lib.hid hmd
      rw [hmd] at q e1 HX
      clear hmd
      by_cases hb : x < t
      · have LS := Lib.hid (less_any x t true (by simpa using hb) w)
        go_wp2_with fail
        with_reducible refine Calls.mono LS.out ?_
        rintro e w' ⟨rfl, rfl⟩
        go_wp2_with fail
        go_roundg (hi - (md + 1))
        case measure => have := hm.out; omega
        case rel =>
          refine ⟨md + 1, hi, by go_num, rfl, by omega, hin, Lib.hid (Nat.le_refl _), Lib.hid (fun i y hi' hy => ?_), h2, rfl⟩
          rcases Nat.lt_or_ge i md with h | h
          · have := HA.out.lt h hy HX.out; omega
          · obtain rfl : i = md := by omega
            have := Option.some.inj (hy.symm.trans HX.out); omega
      · have LS := Lib.hid (less_any x t false (by simpa using hb) w)
        go_wp2_with fail
        with_reducible refine Calls.mono LS.out ?_
        rintro e w' ⟨rfl, rfl⟩
        go_wp2_with fail
        go_roundg (md - lo)
        case measure => have := hm.out; omega
        case rel =>
          refine ⟨lo, md, rfl, rfl, by omega, by omega, Lib.hid (Nat.le_refl _), h1, Lib.hid (fun i y hi' hy => ?_), rfl⟩
          rcases Nat.lt_or_ge md i with h | h
          · have := HA.out.lt h HX.out hy; omega
          · obtain rfl : i = md := by omega
            have := Option.some.inj (hy.symm.trans HX.out); omega
    · obtain rfl : hi = lo := by omega
      have hp : P = hi := by
        rw [HP.out]
        exact (place_is HA.out (by rw [HN.out]; exact hin) h1.out (fun x hx => h2.out hi x (Nat.le_refl _) hx)).symm
      have HPH := Lib.hid hp
      have hh : hs = (l[hi]? == some t) := by rw [HS.out, ← hp, HP.out]; rfl
      by_cases hend : hi < n
      · obtain ⟨x, hx⟩ : ∃ x, l[hi]? = some x := ⟨_, List.getElem?_eq_getElem (by rw [HN.out]; omega)⟩
        have q := uat H.out hx
        rw [hx] at hh
        have NX := Lib.hid fun w => nan_any x w
        by_cases hb : x = t
        · have HH := Lib.hid (show hs = true by rw [hh, hb]; simp)
          subst hb
          clear hh hx hp
          go_wp2
          go_ret2
          exact ⟨by rw [HH.out, HPH.out]; rfl, rfl⟩
        · have HH := Lib.hid (show hs = false by rw [hh]; simpa using hb)
          have hb2 : (x == t) = false := by simpa using hb
          clear hh hx hp
          go_wp2
          go_ret2
          exact ⟨by rw [HH.out, HPH.out]; rfl, rfl⟩
      · have HH := Lib.hid (show hs = false by rw [hh, List.getElem?_eq_none_iff.2 (by rw [HN.out]; omega)]; rfl)
        clear hh hp
        go_wp2
        go_ret2
        exact ⟨by rw [HH.out, HPH.out]; rfl, rfl⟩
theorem search_nil (t : Int) (w : World) : Calls Tryz.prog 69 #[.slice none 0 0, .int .u64 t] w fun e w' => e = .returned (.tuple #[.int .i64 0, .bool false]) ∧ w = w' := by
  go_enter Tryz.func69, Tryz.ntmps69
  go_wp2_with fail
  go_loopg [7, 8] 0 (fun mm s7 s8 wr => s7 = .int .i64 0 ∧ s8 = .int .i64 0 ∧ w = wr)
  case atStart => exact ⟨rfl, rfl, rfl⟩
  case round =>
    obtain ⟨rfl, rfl, rfl⟩ := hrel
    go_wp2
    go_ret2
    exact ⟨rfl, rfl⟩
/-- A search by halves: where a number stands, or would; whether it does. -/
theorem search_eq {w : World} {v : Value} {l : List Int} (h : Row nT w v l) (ha : Asc l) (hl : l.length ≤ 1000000) (t : Int) :
    Calls Tryz.prog 69 #[v, .int .u64 t] w fun e w' => e = .returned (.tuple #[.int .i64 (place t l : Nat), .bool (has t l)]) ∧ w = w' := by
  rcases h with ⟨rfl, rfl⟩ | ⟨g, o, cap, cur, rfl, h2⟩
  · exact search_nil t w
  · exact search_lies h2 ha hl t
theorem search_any {w : World} {v : Value} {l : List Int} (h : Row nT w v l) (ha : Asc l) (hl : l.length ≤ 1000000) (t : Int) :
    Calls Tryz.prog 69 #[v, .int .u64 t] w fun e w' => e = .returned (.tuple #[.int .i64 (place t l : Nat), .bool (has t l)]) ∧ Kept (fun _ => False) w w' :=
  (search_eq h ha hl t).mono fun e w' ⟨h1, h2⟩ => ⟨h1, h2 ▸ Kept.refl _ w⟩
/-- append over another type of the same form. -/
theorem app_two (w : World) (A B E ty : TypeId) (s x : Value) (hA : Tryz.prog.underlying A = some (.slice E)) (hB : Tryz.prog.underlying B = some (.slice E)) : (Builtin.append_ #[A, B] ty #[s, x]).run Tryz.prog w = (Builtin.append_ #[A, A] ty #[s, x]).run Tryz.prog w := by
  unfold Builtin.append_
  cases s <;> simp [run_underlying hA, run_underlying hB]
theorem wpList_app2 {w : World} {ops : Array Oper} {rest : List Oper} {o : Oper} {a : Act} {Q : Exit → Act → World → Prop} (B : TypeId) (hB : Tryz.prog.underlying B = some (.slice 22)) (hgd : o.guard = none) (s x : Operand)
    (ho : o.op = .call { callee := .builtin .append, args := #[s, x], argTypes := #[86, B] })
    {v v2 : Value} {K K2 : List Int} (hs : a.eval s = v) (h1 : Row nT w v K) (hx : a.eval x = v2) (h2 : Rw.Src nT w v2 K2) (hsm : K.length + K2.length ≤ 1000000)
    (h : ∀ v' w', Apd nT w v (K ++ K2) v' w' → wpList Tryz.prog ops Q rest (a.put o.dst v') w') : wpList Tryz.prog ops Q (o :: rest) a w :=
  wpList_plain hgd fun _ hK => by
    obtain ⟨v', w', hr, hA⟩ := run_app (t := nT) o.type h1 h2 hsm
    have hr2 := (app_two w 86 B 22 o.type v v2 Tryz.underlying86 hB).trans hr
    unfold Oper.wp execOp
    simp only [ho, resolve, invoke, builtin, Sem.run_bind, Sem.run_pure, Result.andThen_ok, List.map_toArray, List.map_cons, List.map_nil, hs, hx, hr2]
    exact hK _ _ (h v' w' hA)
theorem wpList_clear_run {w : World} {ops : Array Oper} {rest : List Oper} {o : Oper} {a : Act} {Q : Exit → Act → World → Prop} (hgd : o.guard = none) (d : Operand) (t : TypeId)
    (ho : o.op = .call { callee := .builtin .clear, args := #[d], argTypes := #[t] }) {v : Value} (hd : a.eval d = v) {v' : Value} {w' : World}
    (hr : (Builtin.clear_ #[t] o.type #[v]).run Tryz.prog w = .ok v' w') (h : wpList Tryz.prog ops Q rest (a.put o.dst v') w') : wpList Tryz.prog ops Q (o :: rest) a w :=
  wpList_plain hgd fun _ hK => by
    unfold Oper.wp execOp
    simp only [ho, resolve, invoke, builtin, Sem.run_bind, Sem.run_pure, Result.andThen_ok, List.map_toArray, List.map_cons, List.map_nil, hd, hr]
    exact hK _ _ h
end Go.Proofs.YtjjamooihddkgaaGreat.Pn

/- slices.Insert of one number at a named type. Conditions: each theorem's own. -/
namespace Go.Proofs.YtjjamooihddkgaaGreat.Pn
open Go.RowKit Hp Ro
attribute [local go_sem ↓] Go.wp_at_zero Go.wp_at_succ
theorem cp_two (A B C ty : TypeId) (args : Array Value) : Builtin.copy_ #[A, B] ty args = Builtin.copy_ #[A, C] ty args := rfl
/-- One more, in its place. -/
def PutP (w : World) (v : Value) (L : List Int) (e : Ending) (w' : World) : Prop := ∃ v', e = .returned v' ∧ Apd nT w v L v' w'
theorem src_one {w : World} {vb : Nat} {p : Int} (h : Blk w vb [.int .u64 p] 22) : Rw.Src nT w (.slice (some ⟨vb, 0, none⟩) 1 1) [p] :=
  Or.inr ⟨⟨vb, 0, none⟩, 1, rfl, fun j u hj => by rw [Go.WideShapes.add_plain, Nat.zero_add]; exact h.cell (by simpa [Rw.flat] using hj)⟩
set_option maxHeartbeats 4000000 in
set_option maxRecDepth 100000 in
theorem ins_end {w : World} {v : Value} {l : List Int} {vb : Nat} {p : Int} (h : Row nT w v l) (hv : Blk w vb [.int .u64 p] 22) (hsm : l.length ≤ 900000) :
    Calls Tryz.prog 70 #[v, .int .i64 (l.length : Int), .slice (some ⟨vb, 0, none⟩) 1 1] w (PutP w v (l ++ [p])) := by
  unfold PutP
  have hS := src_one hv
  have HR := Lib.hid h
  clear hv
  rcases h with ⟨rfl, rfl⟩ | ⟨g, o, cap, cur, rfl, h2⟩
  · go_enter Tryz.func70, Tryz.ntmps70
    go_wp2_with (at_builtin; refine wpList_app2 57 Tryz.underlying57 rfl _ _ rfl (v := .slice none 0 0) rfl HR.out rfl hS (by simp) ?_; intro v' w' hA)
    go_ret
    exact ⟨_, rfl, hA⟩
  · have hc := h2.le
    have hm := h2.most
    unfold maxLen at hm
    clear h2
    rcases Nat.lt_or_ge l.length cap with hlt | hge
    · have hne : ¬ (cap = l.length) := by omega
      go_enter Tryz.func70, Tryz.ntmps70
      go_wp2_with (at_builtin; refine wpList_app2 57 Tryz.underlying57 rfl _ _ rfl (v := .slice (some ⟨g, o, none⟩) l.length cap) rfl HR.out rfl hS (by simp; omega) ?_; intro v' w' hA)
      go_ret
      exact ⟨_, rfl, hA⟩
    · obtain rfl : cap = l.length := by omega
      go_enter Tryz.func70, Tryz.ntmps70
      go_wp2_with (at_builtin; refine wpList_app2 57 Tryz.underlying57 rfl _ _ rfl (v := .slice (some ⟨g, o, none⟩) l.length l.length) rfl HR.out rfl hS (by simp; omega) ?_; intro v' w' hA)
      go_ret
      exact ⟨_, rfl, hA⟩
theorem run_over {w : World} {vb g : Nat} {V cur : List Value} (hv : Blk w vb V 22) (hg : Blk w g cur 22) (hne : vb ≠ g) (h0 : 0 < cur.length) (la ca lb cb o : Nat) :
    (callFunc 103 #[.slice (some ⟨vb, 0, none⟩) la ca, .slice (some ⟨g, o, none⟩) lb cb]).run Tryz.prog w = .ok (.value (.bool false)) w := by
  have hz : ∀ w, (Go.sizeOf 22).run Tryz.prog w = .ok 1 w := fun w => by kernel_rfl
  have s1 : w.shape? vb = some (22, V.length) := by unfold Blk at hv; simp [World.shape?, hv]
  have s2 : w.shape? g = some (22, cur.length) := by unfold Blk at hg; simp [World.shape?, hg]
  rw [run_callFunc_extern Tryz.func103 (by kernel_rfl) (by kernel_rfl) (by kernel_rfl) (e := Extern.SlicesOverlaps.overlaps #[57, 57] #[4]) (by kernel_rfl),
    Lib.run_overlaps_apart w 57 4 22 Tryz.underlying57 1 hz ⟨vb, 0, none⟩ ⟨g, o, none⟩ la ca lb cb hne _ _ _ _ s1 s2 (by omega) (hv.frozen 0) (hv.frozen _)]
  rfl
set_option maxHeartbeats 8000000 in
set_option maxRecDepth 100000 in
theorem ins_grow {w : World} {g o cap i : Nat} {cur : List Value} {l : List Int} {vb : Nat} {p : Int} (h : Lies nT w g o cap cur l) (hi : i < l.length) (hg : cap < l.length + 1) (hv : Blk w vb [.int .u64 p] 22) (hsm : l.length ≤ 900000) :
    Calls Tryz.prog 70 #[.slice (some ⟨g, o, none⟩) l.length cap, .int .i64 (i : Int), .slice (some ⟨vb, 0, none⟩) 1 1] w (PutP w (.slice (some ⟨g, o, none⟩) l.length cap) (l.take i ++ p :: l.drop i)) := by
  unfold PutP
  have hc := h.le
  have H := Lib.hid h
  have HV := Lib.hid hv
  obtain ⟨n, hn⟩ : ∃ n, l.length = n := ⟨_, rfl⟩
  have HN := Lib.hid hn
  clear h hv
  rw [hn] at hi hg hsm hc ⊢
  obtain rfl : cap = n := by omega
  have hG : g ≠ w.heap.size := by have := H.out.blk.lt; omega
  have hVG : vb ≠ w.heap.size := by have := HV.out.lt; omega
  obtain ⟨c', r, hr1, hc', hM⟩ := run_zeros H.out 3 86 Tryz.underlying3 i (cap + 1 - i) (by omega) (by omega) (by omega) (by decide)
  rw [show i + (cap + 1 - i) = cap + 1 by omega, show ((cap + 1 - i : Nat) : Int) = (cap : Int) + 1 - (i : Int) by omega] at hr1
  have hB1 : Blk (w.drew.alloc (.cells (Rw.flat nT (l.take i) ++ (zeros nT (cap + 1 - i) ++ zeros nT r)).toArray 22)) w.heap.size (Rw.flat nT (l.take i) ++ (zeros nT (cap + 1 - i) ++ zeros nT r)) 22 := Blk.new w.drew _ _
  have hk1 : Kept (fun _ => False) w (w.drew.alloc (.cells (Rw.flat nT (l.take i) ++ (zeros nT (cap + 1 - i) ++ zeros nT r)).toArray 22)) := (Kept.refl _ w).drew.alloc _
  have hwG : w.heap.size < (w.drew.alloc (.cells (Rw.flat nT (l.take i) ++ (zeros nT (cap + 1 - i) ++ zeros nT r)).toArray 22)).heap.size := by simp
  obtain ⟨cur0, hc0⟩ : ∃ c, c = Rw.flat nT (l.take i) ++ (zeros nT (cap + 1 - i) ++ zeros nT r) := ⟨_, rfl⟩
  have l0 : cur0.length = c' := by rw [hc0, List.length_append, List.length_append, Rw.flat_len, zeros_len, zeros_len, List.length_take]; simp only [Nat.mul_one]; omega
  rw [← hc0] at hr1 hB1 hk1 hwG
  generalize w.drew.alloc (.cells cur0.toArray 22) = w1 at *
  obtain ⟨G, eG⟩ : ∃ G, w.heap.size = G := ⟨_, rfl⟩
  rw [eG] at hr1 hB1 hwG hG hVG
  have hV1 := hk1.blk HV.out (fun h => h)
  have hS1 := H.out.kept hk1 (fun h => h)
  obtain ⟨w2, hr2, hB2, hk2⟩ := run_cp nT hB1 3 i (cap + 1 - i) (c' - i) ⟨vb, 0, none⟩ 1 1 1 [.int .u64 p] (Nat.min_eq_left (show 1 ≤ cap + 1 - i by omega)).symm rfl
    (fun j u hj => by rw [Go.WideShapes.add_plain, Nat.zero_add]; exact hV1.cell hj) (by show i + 1 ≤ _; omega) (by intro u hu; simp at hu; subst hu; rfl)
  rw [cp_two 86 86 57] at hr2
  have hS2 := hS1.kept hk2 (fun h => hG h)
  have hdl : (Rw.flat nT (l.drop i)).length = cap - i := by rw [Rw.flat_len, List.length_drop, HN.out, Nat.mul_one]
  have l1 : (splice cur0 i [.int .u64 p]).length = c' := by rw [length_splice _ _ _ (by show i + 1 ≤ _; omega), l0]
  have hpart : ∀ j u, (Rw.flat nT (l.drop i))[j]? = some u → w2.drew.cell? ((⟨g, o + i, none⟩ : Addr).add j) = some u := by
    have := hS2.drew.part i (cap - i) (by rw [HN.out]; omega)
    rw [List.take_of_length_le (by rw [List.length_drop, HN.out]; omega), Nat.mul_one] at this
    exact this
  obtain ⟨w3, hr3, hB3, hk3⟩ := run_cp nT hB2.drew 3 (i + 1) (cap + 1 - (i + 1)) (c' - (i + 1)) ⟨g, o + i, none⟩ (cap - i) (cap - i) (cap - i) (Rw.flat nT (l.drop i)) (Nat.min_eq_left (show cap - i ≤ cap + 1 - (i + 1) by omega)).symm (by rw [hdl, Nat.mul_one])
    hpart (by rw [l1, hdl]; omega) (Rw.flat_one nT)
  have hL := mid_grow (t := nT) (l := l) (i := i) (p := p) (w := w3) (g := G) (cur1 := splice cur0 i [.int .u64 p]) (cur2 := splice (splice cur0 i [.int .u64 p]) (i + 1) (Rw.flat nT (l.drop i))) (m := cap + 1 - i) (r := r) (by rw [HN.out]; exact hi) (by rw [HN.out]) hc0 hc' hM (by show _ = splice cur0 (i * 1) _; rw [Nat.mul_one]) (by show _ = splice _ ((i + 1) * 1) _; rw [Nat.mul_one]) hB3
  have hkk : Kept (fun k => k = g ∨ k = G) w w3 := (((hk1.mono (fun _ _ f => f.elim)).trans (hk2.mono (fun k _ e => Or.inr e))).drew).trans (hk3.mono (fun k _ e => Or.inr e))
  have hkr : Kept (fun k => (Value.slice (some ⟨g, o, none⟩) cap cap).ownBlock = some k) w w3 := by
    refine ⟨hkk.os, hkk.tape, hkk.output, hkk.size, fun k hk hn => hkk.block k hk ?_⟩
    rintro (e | e)
    · exact hn (by rw [e]; rfl)
    · omega
  have hlen : (l.take i ++ p :: l.drop i).length = cap + 1 := by rw [List.length_append, List.length_cons, List.length_take, List.length_drop, HN.out]; omega
  have hrow := hL.row
  rw [hlen] at hrow
  have HA : Hid (Apd nT w (.slice (some ⟨g, o, none⟩) cap cap) (l.take i ++ p :: l.drop i) (.slice (some ⟨G, 0, none⟩) (cap + 1) c') w3) := ⟨hrow, hkr, fun q hq => by cases hq; right; show w.heap.size ≤ G; omega⟩
  have n1 : ¬ (c' = i) := by omega
  have n2 : ¬ (c' = i + 1) := by omega
  have n3 : ¬ (cap = i) := by omega
  have n4 : i ≤ cap + 1 := by omega
  have n5 : cap ≤ 900000 := hsm
  have n6 : cap + 1 ≤ c' := by omega
  clear hrow hkr hkk hL hB3 hk3 hpart hS2 hS1 hV1 hB2 hk2 hk1 hB1 hwG eG hc0 l0 l1 hdl hc' hM hn hG hVG hlen HN H HV
  go_enter Tryz.func70, Tryz.ntmps70
  go_upto_region 9 with fail
  go_wp2_with (first | (at_builtin; refine Lib.wpList_append_run _ rfl _ _ _ _ rfl _ _ rfl rfl _ _ hr1 ?_) | (with_reducible refine wpList_copy_run rfl _ _ _ _ rfl rfl rfl hr2 ?_))
  have m1 : IntKind.i64.wrap ((i : Int) + 1) = (i : Int) + 1 := by rw [IntKind.wrap_i64]; omega
  have m2 : (0 : Int) ≤ (i : Int) + 1 := by omega
  have m3 : ((i : Int) + 1).toNat = i + 1 := by omega
  have m4 : (i : Int) ≤ (cap : Int) := by omega
  go_region_law (refine step_copy_run rfl _ _ 86 86 rfl (by simp [Act.eval, Act.put]) (by simp [Act.eval, Act.put]) hr3 ?_)
  all_goals
    go_wp2_with fail
    go_ret
    exact ⟨_, rfl, HA.out⟩
set_option maxHeartbeats 8000000 in
set_option maxRecDepth 100000 in
theorem ins_room {w : World} {g o cap i : Nat} {cur : List Value} {l : List Int} {vb : Nat} {p : Int} (h : Lies nT w g o cap cur l) (hi : i < l.length) (hg : l.length + 1 ≤ cap) (hv : Blk w vb [.int .u64 p] 22) (hne : vb ≠ g) (hsm : l.length ≤ 900000) :
    Calls Tryz.prog 70 #[.slice (some ⟨g, o, none⟩) l.length cap, .int .i64 (i : Int), .slice (some ⟨vb, 0, none⟩) 1 1] w (PutP w (.slice (some ⟨g, o, none⟩) l.length cap) (l.take i ++ p :: l.drop i)) := by
  unfold PutP
  have H := Lib.hid h
  have HV := Lib.hid hv
  have hmost := h.most
  unfold maxLen at hmost
  have hfit := h.fit
  rw [Nat.mul_one] at hfit
  have hov := run_over hv h.blk hne (by omega)
  obtain ⟨n, hn⟩ : ∃ n, l.length = n := ⟨_, rfl⟩
  have HN := Lib.hid hn
  clear h hv
  rw [hn] at hi hg hsm ⊢
  clear hn
  have hdl : (Rw.flat nT (l.drop i)).length = n - i := by rw [Rw.flat_len, List.length_drop, HN.out, Nat.mul_one]
  have hpart : ∀ j u, (Rw.flat nT (l.drop i))[j]? = some u → w.drew.cell? ((⟨g, o + i, none⟩ : Addr).add j) = some u := by
    have := H.out.drew.part i (n - i) (by rw [HN.out]; omega)
    rw [List.take_of_length_le (by rw [List.length_drop, HN.out]; omega), Nat.mul_one] at this
    exact this
  obtain ⟨w1, hr1, hB1, hk1⟩ := run_cp nT H.out.drew.blk 3 (o + (i + 1)) (n + 1 - (i + 1)) (cap - (i + 1)) ⟨g, o + i, none⟩ (n + 1 - i) (cap - i) (n - i) (Rw.flat nT (l.drop i)) ((by rw [Nat.min_def]; split <;> omega) : n - i = min (n + 1 - i) (n + 1 - (i + 1))) (by rw [hdl, Nat.mul_one])
    hpart (by rw [hdl]; omega) (Rw.flat_one nT)
  have hV1 := hk1.blk HV.out.drew hne
  have l1 : (splice cur (o + (i + 1)) (Rw.flat nT (l.drop i))).length = cur.length := length_splice _ _ _ (by omega)
  obtain ⟨w2, hr2, hB2, hk2⟩ := run_cp nT hB1 3 (o + i) (n + 1 - i) (cap - i) ⟨vb, 0, none⟩ 1 1 1 [.int .u64 p] (Nat.min_eq_left (show 1 ≤ n + 1 - i by omega)).symm rfl
    (fun j u hj => by rw [Go.WideShapes.add_plain, Nat.zero_add]; exact hV1.cell hj) (by show o + i + 1 ≤ _; omega) (by intro u hu; simp at hu; subst hu; rfl)
  rw [cp_two 86 86 57] at hr2
  have hL := mid_room (w2 := w2) (p := p) (i := i) (cur1 := splice cur (o + (i + 1)) (Rw.flat nT (l.drop i))) (cur2 := splice (splice cur (o + (i + 1)) (Rw.flat nT (l.drop i))) (o + i) [.int .u64 p]) H.out (by rw [HN.out]; exact hi) (by rw [HN.out]; exact hg) (by show _ = splice cur (o + (i + 1) * 1) _; rw [Nat.mul_one]) (by show _ = splice _ (o + i * 1) _; rw [Nat.mul_one]) hB2
  have hkr : Kept (fun k => (Value.slice (some ⟨g, o, none⟩) n cap).ownBlock = some k) w w2 :=
    ((Kept.refl (fun k => k = g) w).drew.trans (hk1.trans hk2)).mono (fun k _ e => by rw [e]; rfl)
  have hlen : (l.take i ++ p :: l.drop i).length = n + 1 := by rw [List.length_append, List.length_cons, List.length_take, List.length_drop, HN.out]; omega
  have hrow := hL.row
  rw [hlen] at hrow
  have HA : Hid (Apd nT w (.slice (some ⟨g, o, none⟩) n cap) (l.take i ++ p :: l.drop i) (.slice (some ⟨g, o, none⟩) (n + 1) cap) w2) := ⟨hrow, hkr, fun q hq => by cases hq; left; rfl⟩
  have n1 : ¬ (cap = i) := by omega
  have n2 : ¬ (cap = i + 1) := by omega
  have n3 : ¬ (i = n) := by omega
  have m1 : IntKind.i64.wrap ((i : Int) + 1) = (i : Int) + 1 := by rw [IntKind.wrap_i64]; omega
  have m2 : (0 : Int) ≤ (i : Int) + 1 := by omega
  have m3 : ((i : Int) + 1).toNat = i + 1 := by omega
  have m4 : (i : Int) ≤ (n : Int) := by omega
  have m5 : (i : Int) ≤ (n : Int) + 1 := by omega
  have m6 : i ≤ n + 1 := by omega
  clear hrow hkr hL hB2 hk2 hV1 hk1 hB1 hfit l1 hdl hlen HN H HV hpart
  have n4 : ¬ (cap < n + 1) := by omega
  have hn2 : n ≤ cap := by omega
  go_enter Tryz.func70, Tryz.ntmps70
  go_wp2_with (simp only [hov])
  clear hov
  go_region_law (refine step_copy_run rfl _ _ 86 86 rfl (by simp [Act.eval, Act.put]) (by simp [Act.eval, Act.put]) hr1 ?_)
  all_goals
    go_wp2_with (with_reducible refine wpList_copy_run rfl _ _ _ _ rfl rfl rfl hr2 ?_)
    go_ret
    exact ⟨_, rfl, HA.out⟩
theorem ins_any {w : World} {v : Value} {l : List Int} {vb i : Nat} {p : Int} (h : Row nT w v l) (hi : i ≤ l.length) (hv : Blk w vb [.int .u64 p] 22) (hne : v.ownBlock ≠ some vb) (hsm : l.length ≤ 900000) :
    Calls Tryz.prog 70 #[v, .int .i64 (i : Int), .slice (some ⟨vb, 0, none⟩) 1 1] w (PutP w v (l.take i ++ p :: l.drop i)) := by
  by_cases he : i = l.length
  · subst he
    have := ins_end h hv hsm
    rw [List.take_length, List.drop_length]
    exact this
  · rcases h with ⟨rfl, rfl⟩ | ⟨g, o, cap, cur, rfl, h2⟩
    · simp at hi; exact absurd (by simpa using hi) he
    · have hne' : vb ≠ g := fun e => hne (by rw [e]; rfl)
      rcases Nat.lt_or_ge cap (l.length + 1) with hg | hg
      · exact ins_grow h2 (by omega) hg hv hsm
      · exact ins_room h2 (by omega) hg hv hne' hsm
end Go.Proofs.YtjjamooihddkgaaGreat.Pn

/- slices.Delete of a run of numbers at a named type. Conditions: each theorem's own. -/
namespace Go.Proofs.YtjjamooihddkgaaGreat.Pn
open Go.RowKit Hp IdM Ro
attribute [local go_sem ↓] Go.wp_at_zero Go.wp_at_succ
theorem step_apd_run {ops : Array Oper} {o : Oper} {a : Act} {w : World} {K : Act → World → Prop} {Q : Exit → Act → World → Prop} {E : Prop}
    (hg : o.guard = none) (d x : Operand) (dT sT : TypeId) (hop : o.op = Op.call { callee := Callee.builtin Builtin.append, args := #[d, x], argTypes := #[dT, sT] })
    {v u : Value} (hd : a.eval d = v) (hx : a.eval x = u) {v' : Value} {w' : World} (hr : (Builtin.append_ #[dT, sT] o.type #[v, u]).run Tryz.prog w = .ok v' w') (hK : K (a.put o.dst v') w') :
    if Region.wanted o (yielded ops a.tmps) = true then Oper.wp Tryz.prog o a w K Q else E := by
  have hw : Region.wanted o (yielded ops a.tmps) = true := by simp [Region.wanted, hg]
  rw [if_pos hw]
  unfold Oper.wp execOp
  simp only [hop, resolve, invoke, builtin, Sem.run_bind, Sem.run_pure, Result.andThen_ok, List.map_toArray, List.map_cons, List.map_nil, hd, hx, hr]
  exact hK
theorem Lies_front {w : World} {g o cap : Nat} {cur : List Value} {A C : List Int} (h : Lies nT w g o cap cur (A ++ C)) : Lies nT w g o cap cur A := by
  have h1 := h.le
  have h2 := h.head
  rw [List.length_append] at h1
  refine ⟨h.blk, by omega, h.most, h.fit, ?_⟩
  have e := congrArg (fun l : List Value => l.take (A.length * nT.k)) h2
  simp only [List.take_take, Rw.flat_append, List.length_append] at e
  rw [Nat.min_eq_left (by show A.length * 1 ≤ (A.length + C.length) * 1; omega), List.take_left' (Rw.flat_len nT A)] at e
  exact e
/-- So many zeros. -/
def zs (x : Nat) : List Value := zeros nT x
theorem zs_len (x : Nat) : (zs x).length = x := by unfold zs; rw [zeros_len, Nat.mul_one]
theorem zs_one (x : Nat) : ∀ v ∈ zs x, v.oneCell' = true := by
  intro v hv
  have e : zs x = ((List.range (x * 1)).map fun i => (#[Value.int .u64 0] : Array Value)[i % 1]!) := by
    show (Builtin.zeroCells (Value.cells (.int .u64 0)) x).toList = _
    simp [Builtin.zeroCells, Value.cells]
  rw [e] at hv
  obtain ⟨i, _, rfl⟩ := List.mem_map.1 hv
  rw [Nat.mod_one]
  rfl
theorem run_clr {w : World} {g : Nat} {cur : List Value} (hB : Blk w g cur 22) (ty : TypeId) (o x c : Nat) (hx : 0 < x) (hfit : o + x ≤ cur.length) :
    ∃ w', (Builtin.clear_ #[86] ty #[.slice (some ⟨g, o, none⟩) x c]).run Tryz.prog w = .ok (.tuple #[]) w' ∧ Blk w' g (splice cur o (zs x)) 22 ∧ Kept (fun k => k = g) w w' := by
  have hl := zs_len x
  have hst := run_storeCells_at Tryz.prog g o 22 (zs x) 0 cur.toArray w hB (by rw [hl]; simpa using hfit) (zs_one x)
  simp only [Nat.add_zero] at hst
  have hs := row_set hB (splice cur o (zs x))
  refine ⟨_, ?_, hs.1, hs.2⟩
  have e2 : cur.toArray.toList.take o ++ zs x ++ cur.toArray.toList.drop (o + (zs x).length) = splice cur o (zs x) := by simp [splice]
  rw [e2] at hst
  have hz : ∀ w : World, (zeroValue 22).run Tryz.prog w = .ok (.int .u64 0) w := fun w => by kernel_rfl
  have hc : (Builtin.zeroCells (Value.int IntKind.u64 0).cells x).toList = zs x := rfl
  obtain ⟨y, rfl⟩ : ∃ y, x = y + 1 := ⟨x - 1, by omega⟩
  simp [Builtin.clear_, run_underlying Tryz.underlying86, hz]
  rw [hc, hst]
  rfl
theorem Lies_cleared {w w' : World} {g o cap q x : Nat} {cur : List Value} {L : List Int} (h : Lies nT w g o cap cur L) (hq : o + L.length ≤ q) (hz : q + x ≤ cur.length) (hB : Blk w' g (splice cur q (zs x)) 22) : Lies nT w' g o cap (splice cur q (zs x)) L := by
  have hl : (splice cur q (zs x)).length = cur.length := length_splice _ _ _ (by rw [zs_len]; exact hz)
  refine ⟨hB, h.le, h.most, by rw [hl]; exact h.fit, ?_⟩
  have hd := (drop_splice (L := cur) (cs := zs x) (show o ≤ q by omega)).resolve_right (by omega)
  rw [hd, splice_take_le (by rw [List.length_drop]; omega) (by show L.length * 1 ≤ _; omega)]
  exact h.head
set_option maxHeartbeats 8000000 in
set_option maxRecDepth 100000 in
theorem del_lies {w : World} {g o cap : Nat} {cur : List Value} {A X B : List Int} (h : Lies nT w g o cap cur (A ++ (X ++ B))) (hX : 0 < X.length) (hsm : (A ++ (X ++ B)).length ≤ 900000) :
    Calls Tryz.prog 75 #[.slice (some ⟨g, o, none⟩) (A ++ (X ++ B)).length cap, .int .i64 (A.length : Int), .int .i64 ((A.length : Int) + (X.length : Int))] w fun e w' => e = .returned (.slice (some ⟨g, o, none⟩) (A.length + B.length) cap) ∧ Apd nT w (.slice (some ⟨g, o, none⟩) (A ++ (X ++ B)).length cap) (A ++ B) (.slice (some ⟨g, o, none⟩) (A.length + B.length) cap) w' := by
  have hlen : (A ++ (X ++ B)).length = A.length + (X.length + B.length) := by rw [List.length_append, List.length_append]
  have hc := h.le
  have hmost := h.most
  unfold maxLen at hmost
  have hfit := h.fit
  rw [Nat.mul_one] at hfit
  rw [hlen] at hc hsm ⊢
  have hF := Lies_front h.drew
  have hsrc : ∀ j u, (Rw.flat nT B)[j]? = some u → w.drew.cell? ((⟨g, o + (A.length + X.length), none⟩ : Addr).add j) = some u := by
    have := h.drew.part (A.length + X.length) B.length (by rw [hlen]; omega)
    rw [show A ++ (X ++ B) = (A ++ X) ++ B by simp, List.drop_left' (by simp), List.take_length, Nat.mul_one] at this
    exact this
  have hr1 : ∀ a c, (∀ j u, (Rw.flat nT B)[j]? = some u → w.drew.cell? ((a : Addr).add j) = some u) → ∃ w', (Builtin.append_ #[86, 86] 86 #[.slice (some ⟨g, o, none⟩) A.length cap, .slice (some a) B.length c]).run Tryz.prog w.drew = .ok (.slice (some ⟨g, o, none⟩) (A.length + B.length) cap) w' ∧ Blk w' g (splice cur (o + A.length * 1) (Rw.flat nT B)) 22 ∧ Kept (fun k => k = g) w.drew w' :=
    fun a c hc' => run_room hF 86 a c hc' (by omega)
  obtain ⟨m, hm⟩ : ∃ m, A.length = m := ⟨_, rfl⟩
  obtain ⟨n, hn⟩ : ∃ n, B.length = n := ⟨_, rfl⟩
  obtain ⟨x, hx⟩ : ∃ x, X.length = x := ⟨_, rfl⟩
  rw [hx] at hX
  have fin : ∀ w1, Blk w1 g (splice cur (o + A.length * 1) (Rw.flat nT B)) 22 → Kept (fun k => k = g) w.drew w1 → ∃ w2, (Builtin.clear_ #[86] 0 #[.slice (some ⟨g, o + (m + n), none⟩) x (cap - (m + n))]).run Tryz.prog w1 = .ok (.tuple #[]) w2 ∧ Apd nT w (.slice (some ⟨g, o, none⟩) (m + (x + n)) cap) (A ++ B) (.slice (some ⟨g, o, none⟩) (m + n) cap) w2 := by
    intro w1 hB hk
    have hL := room_lies hF (by omega) hB
    have hll : (splice cur (o + A.length * 1) (Rw.flat nT B)).length = cur.length := length_splice _ _ _ (by rw [Rw.flat_len]; show _ + B.length * 1 ≤ _; omega)
    obtain ⟨w2, hr2, hB2, hk2⟩ := run_clr hB 0 (o + (m + n)) x (cap - (m + n)) hX (by rw [hll]; omega)
    have hL2 := (Lies_cleared hL (q := o + (m + n)) (x := x) (by rw [List.length_append]; omega) (by show _ ≤ (splice cur (o + A.length * 1) _).length; rw [hll]; omega) hB2).row
    rw [List.length_append, hm, hn] at hL2
    exact ⟨w2, hr2, ⟨hL2, (((Kept.refl (fun k => k = g) w).drew.trans hk).trans hk2).mono (fun k _ e => by rw [e]; rfl), fun q hq => by cases hq; left; rfl⟩⟩
  clear hF h hfit hlen
  have FIN := Lib.hid fin
  clear fin
  rw [hm] at hr1 hsrc hc hsm FIN ⊢
  rw [hx] at hsrc hc hsm ⊢
  rw [hn] at hr1 hc hsm ⊢
  have hn0 := hn
  clear hm hn hx
  obtain ⟨j, hj⟩ : ∃ j, m + x = j := ⟨_, rfl⟩
  obtain ⟨t, ht⟩ : ∃ t, m + (x + n) = t := ⟨_, rfl⟩
  have hji : (m : Int) + (x : Int) = (j : Nat) := by omega
  rw [hji]
  rw [hj] at hsrc
  rw [ht] at hc hsm FIN ⊢
  have m2 : (0 : Int) ≤ (j : Int) := by omega
  have m4 : (m : Int) ≤ (j : Int) := by omega
  have m5 : (j : Int) ≤ (t : Int) := by omega
  have m6 : ¬ ((m : Int) = (j : Int)) := by omega
  have m7 : ((m : Int) == (j : Int)) = false := by rw [beq_eq_false_iff_ne]; omega
  rcases Nat.lt_or_ge j cap with hlt | hge
  · obtain ⟨w1, e1, e2, e3⟩ := hr1 ⟨g, o + j, none⟩ (cap - j) hsrc
    obtain ⟨w2, e4, e5⟩ := FIN.out w1 e2 e3
    have HA := Lib.hid e5
    have n1 : ¬ (cap = j) := by omega
    have n2 : t - j = n := by omega
    have n3 : m ≤ cap := by omega
    have n4 : j ≤ cap := by omega
    have n5 : ¬ (cap = m + n) := by omega
    have n6 : t - (m + n) = x := by omega
    have n7 : (m : Int) + (n : Int) ≤ (t : Int) := by omega
    have n8 : t ≤ cap := by omega
    clear hr1 hsrc FIN e2 e3 e5 hj ht hji hn0
    go_enter Tryz.func75, Tryz.ntmps75
    go_wp2_with fail
    go_region_law (refine step_apd_run rfl _ _ 86 86 rfl (by simp [Act.eval, Act.put]) (by simp [Act.eval, Act.put]) e1 ?_)
    all_goals
      go_wp2_with (with_reducible refine wpList_clear_run rfl _ _ rfl rfl e4 ?_)
      go_ret
      exact ⟨rfl, HA.out⟩
  · obtain rfl : n = 0 := by omega
    obtain rfl : t = cap := by omega
    obtain rfl : j = t := by omega
    obtain ⟨w1, e1, e2, e3⟩ := hr1 ⟨g, o, none⟩ 0 (by
      have : B = [] := List.length_eq_zero_iff.1 hn0
      rw [this]; intro j u hj; simp [Rw.flat] at hj)
    obtain ⟨w2, e4, e5⟩ := FIN.out w1 e2 e3
    rw [Nat.add_zero] at e1 e5 e4
    have n8 : x = j - m := by omega
    rw [n8] at e4
    have HA := Lib.hid e5
    have n5 : ¬ (j = m) := by omega
    have n7 : (m : Int) ≤ (j : Int) := by omega
    have n9 : m ≤ j := by omega
    rw [Nat.add_zero] 
    clear hr1 hsrc FIN e2 e3 e5 hn0 hj ht hji n8
    go_enter Tryz.func75, Tryz.ntmps75
    go_wp2_with fail
    go_region_law (refine step_apd_run rfl _ _ 86 86 rfl (by simp [Act.eval, Act.put]) (by simp [Act.eval, Act.put]) e1 ?_)
    all_goals
      go_wp2_with (with_reducible refine wpList_clear_run rfl _ _ rfl rfl e4 ?_)
      go_ret
      exact ⟨rfl, HA.out⟩
theorem del_none {w : World} {v : Value} {l : List Int} (h : Row nT w v l) {i : Nat} (hi : i ≤ l.length) :
    Calls Tryz.prog 75 #[v, .int .i64 (i : Int), .int .i64 (i : Int)] w fun e w' => e = .returned v ∧ w = w' := by
  rcases h with ⟨rfl, rfl⟩ | ⟨g, o, c, cur, rfl, h⟩
  · obtain rfl : i = 0 := by simpa using hi
    clear hi
    go_enter Tryz.func75, Tryz.ntmps75
    go_wp2_with fail
    go_ret
    exact ⟨rfl, rfl⟩
  have h1 := h.le
  have h2 := h.most
  unfold maxLen at h2
  clear h
  obtain ⟨n, hn⟩ : ∃ n, l.length = n := ⟨_, rfl⟩
  rw [hn] at hi h1 ⊢
  clear hn
  have m2 : (0 : Int) ≤ (i : Int) := by omega
  have m5 : (i : Int) ≤ (n : Int) := by omega
  have m6 : n ≤ c := h1
  rcases Nat.lt_or_ge i c with hlt | hge
  · have n1 : ¬ (c = i) := by omega
    go_enter Tryz.func75, Tryz.ntmps75
    go_wp2_with fail
    all_goals
      go_ret
      exact ⟨rfl, rfl⟩
  · obtain rfl : c = i := by omega
    obtain rfl : n = c := by omega
    clear h1 hi m5 m6
    go_enter Tryz.func75, Tryz.ntmps75
    go_wp2_with fail
    go_ret
    exact ⟨rfl, rfl⟩
/-- Any run of them. -/
theorem del_any {w : World} {v : Value} {A X B : List Int} (h : Row nT w v (A ++ (X ++ B))) (hsm : (A ++ (X ++ B)).length ≤ 900000) :
    Calls Tryz.prog 75 #[v, .int .i64 (A.length : Int), .int .i64 ((A.length : Int) + (X.length : Int))] w (PutP w v (A ++ B)) := by
  rcases Nat.eq_zero_or_pos X.length with h0 | h0
  · obtain rfl := List.length_eq_zero_iff.1 h0
    have := del_none h (i := A.length) (by rw [List.length_append]; omega)
    rw [List.length_nil, Int.natCast_zero, Int.add_zero]
    refine this.mono ?_
    rintro e w' ⟨rfl, rfl⟩
    exact ⟨v, rfl, h, Kept.refl _ _, fun g hg => Or.inl hg⟩
  · rcases h with ⟨_, h1⟩ | ⟨g, o, cap, cur, rfl, h⟩
    · have := congrArg List.length h1
      rw [List.length_append, List.length_append, List.length_nil] at this
      omega
    · exact (del_lies h h0 hsm).mono fun e w' ⟨h1, h2⟩ => ⟨_, h1, h2⟩
end Go.Proofs.YtjjamooihddkgaaGreat.Pn

