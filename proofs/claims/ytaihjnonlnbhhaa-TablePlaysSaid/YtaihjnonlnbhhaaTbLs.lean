/- Keys in order: the law's less; sorted keys are one list. Conditions: each theorem's own. -/
import Derived.Test.YtaihjnonlnbhhaaTbSrt
import Derived.Test.YtaihjnonlnbhhaaTbTab
set_option linter.unusedVariables false
namespace Go.Proofs.Ytaihjnonlnbhhaa.TbL
open Go.RowKit Hp TbM TbN TbR TbK Tb
attribute [local go_sem ↓] Go.wp_at_zero Go.wp_at_succ
theorem less_any (x y : Ky) (w : World) : Calls Try.prog 46 #[ky x, ky y] w fun e w' => e = .returned (.bool (ltK x y)) ∧ Kept (fun _ => False) w w' := by
  obtain ⟨x1, x2⟩ := x
  obtain ⟨y1, y2⟩ := y
  obtain ⟨r, hr⟩ : ∃ r, r = ltK (x1, x2) (y1, y2) := ⟨_, rfl⟩
  rw [← hr]
  unfold ltK at hr
  have hc : (x1 < y1 ∧ r = true) ∨ (decide (x1 < y1) = false ∧ ((x1 == y1) = false) ∧ r = false) ∨ (decide (x1 < y1) = false ∧ x1 = y1 ∧ decide (x2 < y2) = r) := by
    simp only at hr
    rw [hr]
    by_cases h1 : x1 < y1
    · exact Or.inl ⟨h1, by simp [h1]⟩
    · by_cases h2 : x1 = y1
      · exact Or.inr (Or.inr ⟨by simpa using h1, h2, by simp [h2]⟩)
      · exact Or.inr (Or.inl ⟨by simpa using h1, by simpa using h2, by simp [h1, h2]⟩)
  clear hr
  rcases hc with ⟨h1, rfl⟩ | ⟨h1, h2, rfl⟩ | ⟨h1, rfl, h2⟩
  · go_enter Try.func46, Try.ntmps46
    go_wp2_with fail
    go_ret
    exact ⟨rfl, ((Kept.refl _ w).alloc _).alloc _⟩
  · go_enter Try.func46, Try.ntmps46
    go_wp2_with fail
    go_ret
    exact ⟨rfl, ((Kept.refl _ w).alloc _).alloc _⟩
  · go_enter Try.func46, Try.ntmps46
    go_wp2_with fail
    go_ret
    exact ⟨rfl, ((Kept.refl _ w).alloc _).alloc _⟩
theorem lt_anti {a b : Ky} (h1 : ltK a b = false) (h2 : ltK b a = false) : a = b := by
  unfold ltK at h1 h2
  rw [decide_eq_false_iff_not] at h1 h2
  exact Prod.ext (by omega) (by omega)
theorem lt_irr (a : Ky) : ltK a a = false := by unfold ltK; simp
/-- Sorted keys are one list. -/
theorem sorted_one : ∀ {l l2 : List Ky}, l.Perm l2 → Sorted l → Sorted l2 → l = l2
  | [], l2, hp, _, _ => (List.nil_perm.1 hp).symm
  | a :: l, [], hp, _, _ => by have := hp.length_eq; simp at this
  | a :: l, b :: l2, hp, h1, h2 => by
    have h1' := List.pairwise_cons.1 h1
    have h2' := List.pairwise_cons.1 h2
    have e : a = b := by
      have ha : a ∈ b :: l2 := hp.mem_iff.1 (List.mem_cons_self ..)
      have hb : b ∈ a :: l := hp.mem_iff.2 (List.mem_cons_self ..)
      rcases List.mem_cons.1 ha with e | ha
      · exact e
      · rcases List.mem_cons.1 hb with e | hb
        · exact e.symm
        · exact lt_anti (h2'.1 a ha) (h1'.1 b hb)
    subst e
    rw [sorted_one hp.cons_inv h1'.2 h2'.2]
/-- Of sorted keys of which none stands twice each is less than the next one. -/
theorem sorted_lt {l : List Ky} (hs : Sorted l) (hn : l.Nodup) {i j : Nat} {a b : Ky} (hij : i < j) (ha : l[i]? = some a) (hb : l[j]? = some b) : ltK a b = true := by
  obtain ⟨hi, rfl⟩ := List.getElem?_eq_some_iff.1 ha
  obtain ⟨hj, rfl⟩ := List.getElem?_eq_some_iff.1 hb
  have h1 := List.pairwise_iff_getElem.1 hs i j hi hj hij
  cases h2 : ltK l[i] l[j] with
  | true => rfl
  | false =>
    have := lt_anti h2 h1
    exact absurd this (List.pairwise_iff_getElem.1 hn i j hi hj hij)
end Go.Proofs.Ytaihjnonlnbhhaa.TbL
