/- Round of a positive number. Conditions: the theorem's own. -/
import Derived.Test.YtoieogembfdmfaaDoorHeap
import Derived.Deep.DrawnRows
set_option linter.unusedVariables false
namespace Go.Proofs.YtoieogembfdmfaaDoor.Rnd
open Go.RowKit Hp
attribute [local go_sem ↓] Go.wp_at_zero Go.wp_at_succ
theorem tmod_emod (k n : Int) (hn : 0 < n) : k % n = if k.tmod n < 0 then k.tmod n + n else k.tmod n := by
  have e : k % n = (k.tmod n) % n := by
    have h : k = k.tmod n + n * k.tdiv n := by rw [Int.tmod_def]; omega
    have h2 : (k.tmod n + n * k.tdiv n) % n = (k.tmod n) % n := Int.add_mul_emod_self_left _ _ _
    rw [← h] at h2
    exact h2
  have t1 := Int.tmod_lt_of_pos k hn
  have t2 : -n < k.tmod n := by
    have := Int.tmod_lt_of_pos (-k) hn
    rw [Int.neg_tmod] at this
    omega
  rw [e]
  split
  · rw [← Int.add_emod_right, Int.emod_eq_of_lt (by omega) (by omega)]
  · exact Int.emod_eq_of_lt (by omega) t1
theorem round_pos {k n : Int} (hn : 0 < n) (hn2 : n ≤ 1000000) (h0 : -9223372036854775808 ≤ k) (h1 : k ≤ 9223372036854775807) (w : World) :
    Calls Tryd.prog 21 #[.int .i64 k, .int .i64 n] w fun e w' => e = .returned (.int .i64 (k % n)) ∧ w = w' := by
  have hne : ¬ n = 0 := by omega
  have hne2 : (n == 0) = false := by rw [beq_eq_false_iff_ne]; exact hne
  have he := tmod_emod k n hn
  by_cases hk : 0 ≤ k
  · have t3 := Int.emod_nonneg k hne
    clear he
    go_enter Tryd.func21, Tryd.ntmps21
    go_wp2_with fail
    go_ret
    exact ⟨rfl, rfl⟩
  · have t1 := Int.tmod_lt_of_pos k hn
    have t2 : -n < k.tmod n := by
      have := Int.tmod_lt_of_pos (-k) hn
      rw [Int.neg_tmod] at this
      omega
    by_cases hr : k.tmod n < 0
    · rw [if_pos hr] at he
      rw [he]
      clear he
      go_enter Tryd.func21, Tryd.ntmps21
      go_wp2_with fail
      go_ret
      exact ⟨rfl, rfl⟩
    · rw [if_neg hr] at he
      rw [he]
      clear he
      go_enter Tryd.func21, Tryd.ntmps21
      go_wp2_with fail
      go_ret
      exact ⟨rfl, rfl⟩
end Go.Proofs.YtoieogembfdmfaaDoor.Rnd
