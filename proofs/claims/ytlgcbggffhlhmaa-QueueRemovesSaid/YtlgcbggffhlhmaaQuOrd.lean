/- Lines that fill in order, and empty the highest first. Conditions: each theorem's own. -/
import Derived.Test.YtlgcbggffhlhmaaQuSum
set_option linter.unusedVariables false
namespace Go.Proofs.Ytlgcbggffhlhmaa.QuM
/-- Line p holds those of the first n whose line it is, in order. -/
structure Ord (r : Nat → Nat) (n : Nat) (ls : Nat → List (Int × Int)) : Prop where
  row : ∀ p, p < 8 → ∃ l : List Nat, ls p = l.map (fun (i : Nat) => ((10 : Int), (i : Int))) ∧ l.Pairwise (· < ·) ∧ ∀ i ∈ l, i < n ∧ r i = p
  tc : tot ls 8 = 10 * (cnt ls 8 : Int)
theorem Ord.new (r : Nat → Nat) : Ord r 0 (fun _ => []) := ⟨fun p hp => ⟨[], rfl, List.Pairwise.nil, fun i h => by cases h⟩, rfl⟩
theorem sum_one (L : List (Int × Int)) (v : Int) : sumB (L ++ [(10, v)]) = sumB L + 10 := by
  rw [sumB_append]; show sumB L + (szI 10 + 0) = _; rw [show szI 10 = 10 by decide]; omega
theorem push_tc {ls : Nat → List (Int × Int)} {p : Nat} (hp : p < 8) (h : tot ls 8 = 10 * (cnt ls 8 : Int)) (v : Int) :
    tot (upd ls p (ls p ++ [(10, v)])) 8 = 10 * (cnt (upd ls p (ls p ++ [(10, v)])) 8 : Int) ∧ cnt (upd ls p (ls p ++ [(10, v)])) 8 = cnt ls 8 + 1 := by
  have h1 := tot_upd (ls := ls) (L := ls p ++ [(10, v)]) hp
  have h2 := cnt_upd (ls := ls) (L := ls p ++ [(10, v)]) hp
  rw [sum_one] at h1
  rw [List.length_append, List.length_singleton] at h2
  omega
theorem Ord.push {r : Nat → Nat} {n : Nat} {ls : Nat → List (Int × Int)} (h : Ord r n ls) (hp : r n < 8) :
    Ord r (n + 1) (upd ls (r n) (ls (r n) ++ [(10, (n : Int))])) := by
  refine ⟨fun p hp2 => ?_, (push_tc hp h.tc n).1⟩
  obtain ⟨l, h1, h2, h3⟩ := h.row p hp2
  by_cases e : p = r n
  · subst e
    rw [upd_self]
    refine ⟨l ++ [n], by rw [List.map_append, h1]; rfl, ?_, fun i hi => ?_⟩
    · rw [List.pairwise_append]
      exact ⟨h2, List.pairwise_singleton _ _, fun a ha b hb => by rw [List.mem_singleton] at hb; subst hb; exact (h3 a ha).1⟩
    · rcases List.mem_append.1 hi with h | h
      · exact ⟨Nat.lt_succ_of_lt (h3 i h).1, (h3 i h).2⟩
      · rw [List.mem_singleton] at h; subst h; exact ⟨Nat.lt_succ_self _, rfl⟩
  · rw [upd_ne ls _ e]
    exact ⟨l, h1, h2, fun i hi => ⟨Nat.lt_succ_of_lt (h3 i hi).1, (h3 i hi).2⟩⟩
theorem Ord.pop {r : Nat → Nat} {n : Nat} {ls : Nat → List (Int × Int)} (h : Ord r n ls) {p : Nat} (hp : p < 8) {x : Int × Int} {R : List (Int × Int)} (hx : ls p = x :: R) :
    Ord r n (upd ls p R) ∧ cnt (upd ls p R) 8 + 1 = cnt ls 8 ∧ ∃ i : Nat, x = (10, (i : Int)) ∧ i < n ∧ r i = p ∧ ∀ y ∈ R, (i : Int) < y.2 := by
  have h1 := tot_upd (ls := ls) (L := R) hp
  have h2 := cnt_upd (ls := ls) (L := R) hp
  rw [hx] at h1 h2
  rw [List.length_cons] at h2
  have hc := h.tc
  obtain ⟨l, e1, e2, e3⟩ := h.row p hp
  rw [hx] at e1
  obtain ⟨i, l', rfl, rfl, rfl⟩ : ∃ i l', l = i :: l' ∧ x = ((10 : Int), (i : Int)) ∧ R = l'.map (fun (i : Nat) => ((10 : Int), (i : Int))) := by
    cases l with
    | nil => cases e1
    | cons i l' => rw [List.map_cons] at e1; injection e1 with a b; exact ⟨i, l', rfl, a, b⟩
  have e4 := List.pairwise_cons.1 e2
  refine ⟨⟨fun q hq => ?_, ?_⟩, by omega, i, rfl, (e3 i List.mem_cons_self).1, (e3 i List.mem_cons_self).2, fun y hy => ?_⟩
  · by_cases e : q = p
    · subst e
      rw [upd_self]
      exact ⟨l', rfl, e4.2, fun j hj => e3 j (List.mem_cons_of_mem _ hj)⟩
    · rw [upd_ne ls _ e]; exact h.row q hq
  · have : sumB ((10, (i : Int)) :: l'.map (fun (i : Nat) => ((10 : Int), (i : Int)))) = 10 + sumB (l'.map (fun (i : Nat) => ((10 : Int), (i : Int)))) := by
      show szI 10 + _ = _; rw [show szI 10 = 10 by decide]
    rw [this] at h1
    omega
  · obtain ⟨j, hj, rfl⟩ := List.mem_map.1 hy
    have := e4.1 j hj
    show (i : Int) < (j : Int)
    omega
/-- What still stands comes behind. -/
def Aft (ls : Nat → List (Int × Int)) (last : Nat) (at' : Int) : Prop := ∀ p, p < 8 → ls p ≠ [] → p ≤ last ∧ (p = last → ∀ y ∈ ls p, at' < y.2)
theorem aft_new (ls : Nat → List (Int × Int)) : Aft ls 8 (-1) := fun p hp _ => ⟨by omega, fun e => by omega⟩
theorem Aft.pop {ls : Nat → List (Int × Int)} {last : Nat} {at' : Int} (h : Aft ls last at') {p : Nat} (ht : top ls 8 = some p) {x : Int × Int} {R : List (Int × Int)} (hx : ls p = x :: R) (hR : ∀ y ∈ R, x.2 < y.2) :
    p ≤ last ∧ (p = last → at' < x.2) ∧ Aft (upd ls p R) p x.2 := by
  obtain ⟨h1, h2, h3⟩ := top_some ht
  obtain ⟨h4, h5⟩ := h p h1 h2
  refine ⟨h4, fun e => h5 e x (by rw [hx]; exact List.mem_cons_self), fun q hq hn => ?_⟩
  by_cases e : q = p
  · subst e
    rw [upd_self]
    exact ⟨Nat.le_refl _, fun _ => hR⟩
  · rw [upd_ne ls _ e] at hn
    refine ⟨?_, fun e2 => absurd e2 e⟩
    rcases Nat.lt_or_ge p q with hlt | hge
    · exact absurd (h3 q hlt hq) hn
    · exact hge
theorem cnt_zero {ls : Nat → List (Int × Int)} : ∀ {n : Nat}, (∀ j, j < n → ls j = []) → cnt ls n = 0
  | 0, _ => rfl
  | n + 1, h => by unfold cnt; rw [cnt_zero (fun j hj => h j (by omega)), h n (by omega)]; rfl
theorem top_of_cnt {ls : Nat → List (Int × Int)} (h : 0 < cnt ls 8) : ∃ p x R, top ls 8 = some p ∧ p < 8 ∧ ls p = x :: R := by
  rcases ht : top ls 8 with _ | p
  · have := cnt_zero (top_none ht); omega
  · obtain ⟨h1, h2, _⟩ := top_some ht
    rcases hl : ls p with _ | ⟨x, R⟩
    · exact absurd hl h2
    · exact ⟨p, x, R, rfl, h1, hl⟩
end Go.Proofs.Ytlgcbggffhlhmaa.QuM
