/- TableFull's keys, as lists. Conditions: each theorem's own. -/
import Derived.Test.YtfdcmhcfjbileaaTbNum
set_option linter.unusedVariables false
namespace Go.Proofs.Ytfdcmhcfjbileaa.TbL
open TbN
def fkey (s : Int) (i : Nat) : Ky := ((i : Int) % 8, (i : Int) * s)
/-- What is there behind n. -/
def ms (s : Int) : Nat → List (Ky × Int)
  | 0 => []
  | n + 1 => (fkey s n, (n : Int) * s) :: ms s n
theorem ms_len (s : Int) : ∀ n, (ms s n).length = n
  | 0 => rfl
  | n + 1 => by rw [ms, List.length_cons, ms_len s n]
theorem ms_mem {s : Int} : ∀ {n j : Nat}, j < n → (fkey s j, (j : Int) * s) ∈ ms s n
  | n + 1, j, h => by
    rw [ms, List.mem_cons]
    rcases Nat.lt_or_ge j n with h1 | h1
    · exact Or.inr (ms_mem h1)
    · obtain rfl : j = n := by omega
      exact Or.inl rfl
theorem ms_id {s : Int} : ∀ {n : Nat} {x : Ky × Int}, x ∈ ms s n → ∃ j, j < n ∧ x.1 = fkey s j
  | n + 1, x, h => by
    rw [ms, List.mem_cons] at h
    rcases h with rfl | h
    · exact ⟨n, by omega, rfl⟩
    · obtain ⟨j, hj, e⟩ := ms_id h
      exact ⟨j, by omega, e⟩
theorem fkey_inj {s : Int} (h : 1 ≤ s) {i j : Nat} (e : fkey s i = fkey s j) : i = j := by
  have h2 := (Prod.mk.inj e).2
  have h3 : ((i : Int) - (j : Int)) * s = 0 := by rw [Int.sub_mul]; omega
  rcases Int.mul_eq_zero.1 h3 with h4 | h4
  · omega
  · omega
theorem ms_no {s : Int} (h : 1 ≤ s) {n i : Nat} (hi : n ≤ i) : ∀ u, (fkey s i, u) ∉ ms s n := by
  intro u hu
  obtain ⟨j, hj, e⟩ := ms_id hu
  have := fkey_inj h e
  omega
theorem small {s : Int} {i : Nat} (h0 : 1 ≤ s) (h1 : s ≤ 4294967296) (hi : i ≤ 63) : 0 ≤ (i : Int) * s ∧ (i : Int) * s ≤ 270582939648 := by
  have a : (i : Int) * s ≤ 63 * 4294967296 := Int.mul_le_mul (by omega) h1 (by omega) (by omega)
  exact ⟨Int.mul_nonneg (by omega) (by omega), by omega⟩
theorem ms_far {s : Int} (h0 : 1 ≤ s) (h1 : s ≤ 4294967296) {n : Nat} (hn : n ≤ 60) : ∀ u, (((7 : Int), (1152921504606846976 : Int)), u) ∉ ms s n := by
  intro u hu
  obtain ⟨j, hj, e⟩ := ms_id hu
  have h2 := (Prod.mk.inj e).2
  have := small (i := j) h0 h1 (by omega)
  omega
/-- The first one taken out. -/
theorem ms_first {s : Int} {n : Nat} (h : 1 ≤ n) : ∃ R, (ms s n).Perm (((0, 0), 0) :: R) := by
  have hm := ms_mem (s := s) (j := 0) (n := n) (by omega)
  have e : (fkey s 0, ((0 : Nat) : Int) * s) = (((0 : Int), (0 : Int)), (0 : Int)) := by
    unfold fkey; simp
  rw [e] at hm
  obtain ⟨A, B, hAB⟩ := List.append_of_mem hm
  exact ⟨A ++ B, by rw [hAB]; exact List.perm_middle⟩
end Go.Proofs.Ytfdcmhcfjbileaa.TbL
