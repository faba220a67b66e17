/- What one counts as; which lines there are. Conditions: each theorem's own. -/
import Derived.Test.YtlgcbggffhlhmaaHeap
import Derived.Test.YtlgcbggffhlhmaaQuSum
import Derived.WalkKit
import Derived.Defers
import Derived.Recover
import Derived.Handy
import Derived.Deep.DrawnRows
set_option linter.unusedVariables false
namespace Go.Proofs.Ytlgcbggffhlhmaa.Qu
open Go.RowKit Hp QuM
attribute [local go_sem ↓] Go.wp_at_zero Go.wp_at_succ
theorem bytes_any (n v : Int) (w : World) : Calls Try.prog 115 #[.agg #[.int .i64 n, .int .i64 v]] w fun e w' => e = .returned (.int .i64 n) ∧ Kept (fun _ => False) w w' := by
  go_enter Try.func115, Try.ntmps115
  go_wp2_with fail
  go_ret
  exact ⟨rfl, (Kept.refl _ w).alloc _⟩
theorem idle_b (w : World) :
    CallsD Try.prog 85 #[] .returning w fun e u' w' => e = .returned (.tuple #[]) ∧ u' = .returning ∧ w' = w := by
  refine callsD_of_wpS Try.func85 rfl fun c₀ cs hu => ?_
  apply wpS_region
  simp [wpOpsS, go_sem, recoverD, hu, Try.ntmps85]
  cases c₀
  simp_all [bodyPostS, results, Try.results85]
theorem bytesOf_any (n v : Int) (w : World) : Calls Try.prog 66 #[.agg #[.int .i64 n, .int .i64 v]] w fun e w' => e = .returned (.tuple #[.int .i64 (szI n), .bool true]) ∧ Kept (fun _ => False) w w' := by
  have BY := Lib.hid fun w => bytes_any n v w
  obtain ⟨m, s, h1, h2, h3⟩ := szI_if n
  rw [h3]
  clear h3
  go_enter_defers Try.func66, Try.ntmps66
  go_wp2_with fail
  with_reducible refine Calls.mono (BY.out _) ?_
  rintro e w2 ⟨rfl, hk2⟩
  have HK2 := Lib.hid (((Kept.refl (fun _ => False) w).alloc _).trans hk2)
  clear hk2 BY
  go_wp2_with fail
  refine leaves_cons (f := 85) (args := #[]) (by simp) (by simp [go_sem]) ?_
  refine (idle_b _).mono ?_
  rintro e u' w'' ⟨rfl, rfl, rfl⟩
  exact ⟨.tuple #[.int .i64 s, .bool true], by simp [results, Try.results66, go_sem], rfl, HK2.out⟩
/-- Such a line there is. -/
theorem isPrio_any (p : Int) (w : World) : Calls Try.prog 65 #[.int .i64 p] w fun e w' => e = .returned (.bool (decide (0 ≤ p ∧ p < 8))) ∧ w = w' := by
  by_cases h : 0 ≤ p
  · by_cases h2 : p < 8
    · have hd : decide (0 ≤ p ∧ p < 8) = true := decide_eq_true ⟨h, h2⟩
      rw [hd]
      clear hd
      go_enter Try.func65, Try.ntmps65
      go_wp2_with fail
      go_ret
      exact ⟨rfl, rfl⟩
    · have hd : decide (0 ≤ p ∧ p < 8) = false := decide_eq_false (fun e => h2 e.2)
      rw [hd]
      clear hd
      go_enter Try.func65, Try.ntmps65
      go_wp2_with fail
      go_ret
      exact ⟨rfl, rfl⟩
  · have hd : decide (0 ≤ p ∧ p < 8) = false := decide_eq_false (fun e => h e.1)
    rw [hd]
    clear hd
    go_enter Try.func65, Try.ntmps65
    go_wp2_with fail
    go_ret
    exact ⟨rfl, rfl⟩
end Go.Proofs.Ytlgcbggffhlhmaa.Qu
