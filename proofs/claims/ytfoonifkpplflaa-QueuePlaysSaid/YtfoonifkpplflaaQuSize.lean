/- The law's own size; what nothing tells. Conditions: each theorem's own. -/
import Derived.Test.YtfoonifkpplflaaQuAwake
set_option linter.unusedVariables false
namespace Go.Proofs.Ytfoonifkpplflaa.Qu
open Go.RowKit Hp QuM QuN Rw
attribute [local go_sem ↓] Go.wp_at_zero Go.wp_at_succ
theorem size_any (n v : Int) (w : World) : Calls Try.prog 10 #[.agg #[.int .i64 n, .int .i64 v]] w fun e w' => e = .returned (.int .i64 (szI n)) ∧ Kept (fun _ => False) w w' := by
  obtain ⟨m, s, h1, h2, h3⟩ := szI_if n
  rw [h3]
  clear h3
  go_enter Try.func10, Try.ntmps10
  go_wp2_with fail
  go_ret
  exact ⟨rfl, (Kept.refl _ w).alloc _⟩
theorem len_nil (w : World) : Calls Try.prog 18 #[.pointer none] w fun e w' => e = .returned (.int .i64 0) ∧ w = w' := by
  go_enter Try.func18, Try.ntmps18
  go_wp2_with fail
  go_ret
  exact ⟨rfl, rfl⟩
theorem used_nil (w : World) : Calls Try.prog 16 #[.pointer none] w fun e w' => e = .returned (.int .i64 0) ∧ w = w' := by
  go_enter Try.func16, Try.ntmps16
  go_wp2_with fail
  go_ret
  exact ⟨rfl, rfl⟩
end Go.Proofs.Ytfoonifkpplflaa.Qu
