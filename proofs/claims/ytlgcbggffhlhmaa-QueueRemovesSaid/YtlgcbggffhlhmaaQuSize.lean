/- The law's own size; what nothing tells. Conditions: each theorem's own. -/
import Derived.Test.YtlgcbggffhlhmaaQuAwake
set_option linter.unusedVariables false
namespace Go.Proofs.Ytlgcbggffhlhmaa.Qu
open Go.RowKit Hp QuM QuN Rw
attribute [local go_sem ↓] Go.wp_at_zero Go.wp_at_succ
theorem size_any (n v : Int) (w : World) : Calls Try.prog 32 #[.agg #[.int .i64 n, .int .i64 v]] w fun e w' => e = .returned (.int .i64 (szI n)) ∧ Kept (fun _ => False) w w' := by
  obtain ⟨m, s, h1, h2, h3⟩ := szI_if n
  rw [h3]
  clear h3
  go_enter Try.func32, Try.ntmps32
  go_wp2_with fail
  go_ret
  exact ⟨rfl, (Kept.refl _ w).alloc _⟩
theorem len_nil (w : World) : Calls Try.prog 40 #[.pointer none] w fun e w' => e = .returned (.int .i64 0) ∧ w = w' := by
  go_enter Try.func40, Try.ntmps40
  go_wp2_with fail
  go_ret
  exact ⟨rfl, rfl⟩
theorem used_nil (w : World) : Calls Try.prog 38 #[.pointer none] w fun e w' => e = .returned (.int .i64 0) ∧ w = w' := by
  go_enter Try.func38, Try.ntmps38
  go_wp2_with fail
  go_ret
  exact ⟨rfl, rfl⟩
end Go.Proofs.Ytlgcbggffhlhmaa.Qu
