/- Sorted lists under an order, two of them merged in place, blocks of a stable sort. No dump. Conditions: each theorem's own. -/
import Derived.Test.YtbohigfhbjconaaRows
set_option linter.unusedVariables false
namespace Go.Proofs.Ytbohigfhbjconaa.SoM
/-- A strict order of all numbers. -/
structure Ord (lt : Int → Int → Bool) : Prop where
  asy : ∀ {x y}, lt x y = true → lt y x = false
  tr : ∀ {x y z}, lt x y = true → lt y z = true → lt x z = true
  tri : ∀ {x y}, x ≠ y → lt x y = true ∨ lt y x = true
def Srt (lt : Int → Int → Bool) (l : List Int) : Prop := l.Pairwise fun a b => lt a b = true
def Lss (L R : List Int) : Prop := ∀ x ∈ L, ∀ y ∈ R, x < y
variable {lt : Int → Int → Bool}
theorem Ord.of_not (h : Ord lt) {x y : Int} (n : x ≠ y) (f : ¬ lt y x = true) : lt x y = true := (h.tri n).resolve_right f
theorem srt_app {a b : List Int} : Srt lt (a ++ b) ↔ Srt lt a ∧ Srt lt b ∧ ∀ x ∈ a, ∀ y ∈ b, lt x y = true := List.pairwise_append
/-- Two halves merged. -/
theorem mg {L1 L2 R1 R2 M1 M2 : List Int} (hL : Srt lt (L1 ++ L2)) (hR : Srt lt (R1 ++ R2)) (h1 : ∀ x ∈ L1, ∀ y ∈ R2, lt x y = true) (h2 : ∀ y ∈ R1, ∀ x ∈ L2, lt y x = true)
    (p1 : M1.Perm (L1 ++ R1)) (p2 : M2.Perm (L2 ++ R2)) (s1 : Srt lt M1) (s2 : Srt lt M2) : Srt lt (M1 ++ M2) ∧ (M1 ++ M2).Perm ((L1 ++ L2) ++ (R1 ++ R2)) := by
  obtain ⟨_, _, hl⟩ := srt_app.1 hL
  obtain ⟨_, _, hr⟩ := srt_app.1 hR
  refine ⟨srt_app.2 ⟨s1, s2, fun x hx y hy => ?_⟩, ?_⟩
  · rcases List.mem_append.1 (p1.mem_iff.1 hx) with a | a <;> rcases List.mem_append.1 (p2.mem_iff.1 hy) with b | b
    · exact hl x a y b
    · exact h1 x a y b
    · exact h2 x a y b
    · exact hr x a y b
  · refine (p1.append p2).trans ?_
    rw [List.append_assoc, List.append_assoc]
    refine List.Perm.append_left L1 ?_
    rw [← List.append_assoc, ← List.append_assoc]
    exact List.Perm.append_right R2 List.perm_append_comm
/-- What is ahead of a place, and behind it. -/
theorem srt_at {l : List Int} (h : Srt lt l) {i : Nat} {x : Int} (e : l[i]? = some x) : (∀ u ∈ l.take i, lt u x = true) ∧ ∀ u ∈ l.drop (i + 1), lt x u = true := by
  obtain ⟨hi, rfl⟩ := List.getElem?_eq_some_iff.1 e
  have e1 : l = l.take i ++ l[i] :: l.drop (i + 1) := by rw [← List.drop_eq_getElem_cons hi, List.take_append_drop]
  unfold Srt at h
  rw [e1] at h
  obtain ⟨_, h2, h3⟩ := List.pairwise_append.1 h
  exact ⟨fun u hu => h3 u hu _ (List.mem_cons_self), (List.pairwise_cons.1 h2).1⟩
theorem cross (O : Ord lt) {L R : List Int} (hL : Srt lt L) (hR : Srt lt R) {i j : Nat} {x y : Int} (ex : L[i]? = some x) (ey : R[j]? = some y) (h : lt x y = true) : ∀ u ∈ L.take (i + 1), ∀ v ∈ R.drop j, lt u v = true := by
  intro u hu v hv
  have hu' : u = x ∨ lt u x = true := by
    rw [List.take_add_one, ex] at hu
    rcases List.mem_append.1 hu with a | a
    · exact Or.inr ((srt_at hL ex).1 u a)
    · left; simpa using a
  have hv' : v = y ∨ lt y v = true := by
    obtain ⟨hj, rfl⟩ := List.getElem?_eq_some_iff.1 ey
    rw [List.drop_eq_getElem_cons hj] at hv
    rcases List.mem_cons.1 hv with a | a
    · exact Or.inl a
    · exact Or.inr ((srt_at hR ey).2 v a)
  rcases hu' with rfl | a <;> rcases hv' with rfl | b
  · exact h
  · exact O.tr h b
  · exact O.tr a h
  · exact O.tr (O.tr a h) b
/-- One that stands ahead of sorted ones, put at its place. -/
theorem ins_left (O : Ord lt) {x : Int} {U1 U2 : List Int} (h : Srt lt (U1 ++ U2)) (h1 : ∀ u ∈ U1, lt u x = true) (h2 : ∀ u ∈ U2, lt x u = true) : Srt lt (U1 ++ x :: U2) := by
  obtain ⟨a, b, c⟩ := srt_app.1 h
  refine srt_app.2 ⟨a, List.pairwise_cons.2 ⟨h2, b⟩, fun u hu v hv => ?_⟩
  rcases List.mem_cons.1 hv with rfl | hv
  · exact h1 u hu
  · exact c u hu v hv
theorem perm_mid (x : Int) (U1 U2 : List Int) : (U1 ++ x :: U2).Perm (x :: (U1 ++ U2)) := List.perm_middle
/-- All below a place of which one holds. -/
theorem take_lt (O : Ord lt) {U : List Int} (h : Srt lt U) {i : Nat} {u x : Int} (e : U[i]? = some u) (hl : lt u x = true) : ∀ v ∈ U.take (i + 1), lt v x = true := by
  intro v hv
  rw [List.take_add_one, e] at hv
  rcases List.mem_append.1 hv with a | a
  · exact O.tr ((srt_at h e).1 v a) hl
  · have : v = u := by simpa using a
    subst this; exact hl
theorem drop_gt (O : Ord lt) {U : List Int} (h : Srt lt U) {i : Nat} {u x : Int} (e : U[i]? = some u) (hl : lt x u = true) : ∀ v ∈ U.drop i, lt x v = true := by
  intro v hv
  obtain ⟨hi, rfl⟩ := List.getElem?_eq_some_iff.1 e
  rw [List.drop_eq_getElem_cons hi] at hv
  rcases List.mem_cons.1 hv with rfl | a
  · exact hl
  · exact O.tr hl ((srt_at h e).2 v a)
/-- Blocks of so many, each sorted. -/
inductive Bk (lt : Int → Int → Bool) (s : Nat) : List Int → List Int → Prop
  | last {X0 X : List Int} (p : X.Perm X0) (o : Srt lt X) (n : X.length ≤ s) : Bk lt s X0 X
  | cons {X0 X Z0 Z : List Int} (p : X.Perm X0) (o : Srt lt X) (n : X.length = s) (t : Bk lt s Z0 Z) : Bk lt s (X0 ++ Z0) (X ++ Z)
inductive Fu (lt : Int → Int → Bool) (s : Nat) : List Int → List Int → Prop
  | nil : Fu lt s [] []
  | snoc {A0 A X0 X : List Int} (t : Fu lt s A0 A) (p : X.Perm X0) (o : Srt lt X) (n : X.length = s) : Fu lt s (A0 ++ X0) (A ++ X)
theorem Bk.perm {s : Nat} {Z0 Z : List Int} (h : Bk lt s Z0 Z) : Z.Perm Z0 := by
  induction h with
  | last p => exact p
  | cons p _ _ _ ih => exact p.append ih
theorem Fu.perm {s : Nat} {Z0 Z : List Int} (h : Fu lt s Z0 Z) : Z.Perm Z0 := by
  induction h with
  | nil => exact List.Perm.refl _
  | snoc _ p _ _ ih => exact ih.append p
theorem Fu.bk {s : Nat} {A0 A : List Int} (h : Fu lt s A0 A) : ∀ {Z0 Z : List Int}, Bk lt s Z0 Z → Bk lt s (A0 ++ Z0) (A ++ Z) := by
  induction h with
  | nil => intro Z0 Z h; exact h
  | snoc _ p o n ih => intro Z0 Z h; rw [List.append_assoc, List.append_assoc]; exact ih (Bk.cons p o n h)
/-- One block, and what is behind it. -/
theorem Bk.front {s : Nat} {Z0 Z : List Int} (h : Bk lt s Z0 Z) (hs : s ≤ Z.length) : ∃ X0 X Y0 Y, Z0 = X0 ++ Y0 ∧ Z = X ++ Y ∧ X.Perm X0 ∧ Srt lt X ∧ X.length = s ∧ Bk lt s Y0 Y := by
  cases h with
  | last p o n => exact ⟨Z0, Z, [], [], by simp, by simp, p, o, by omega, Bk.last (List.Perm.refl _) List.Pairwise.nil (by simp)⟩
  | cons p o n t => exact ⟨_, _, _, _, rfl, rfl, p, o, n, t⟩
theorem Bk.short {s : Nat} {Z0 Z : List Int} (h : Bk lt s Z0 Z) (hs : Z.length ≤ s) : Srt lt Z := by
  cases h with
  | last p o n => exact o
  | @cons X0 X Z0 Z p o n t =>
    have : Z.length = 0 := by rw [List.length_append] at hs; omega
    have : Z = [] := List.length_eq_zero_iff.1 this
    subst this
    rw [List.append_nil]; exact o
/-- Two sorted lists of the same numbers are one. -/
theorem one (O : Ord lt) : ∀ {l m : List Int}, Srt lt l → Srt lt m → l.Perm m → l = m
  | [], m, _, _, p => p.nil_eq
  | x :: l, [], _, _, p => by simp at p
  | x :: l, y :: m, hl, hm, p => by
    have hx := List.pairwise_cons.1 hl
    have hy := List.pairwise_cons.1 hm
    have e : x = y := by
      rcases List.mem_cons.1 (p.mem_iff.1 (List.mem_cons_self (a := x) (l := l))) with h | h
      · exact h
      · rcases List.mem_cons.1 (p.mem_iff.2 (List.mem_cons_self (a := y) (l := m))) with g | g
        · exact g.symm
        · have := O.asy (hy.1 x h); rw [hx.1 y g] at this; cases this
    subst e
    rw [one O hx.2 hy.2 ((List.perm_cons x).1 p)]
end Go.Proofs.Ytbohigfhbjconaa.SoM
