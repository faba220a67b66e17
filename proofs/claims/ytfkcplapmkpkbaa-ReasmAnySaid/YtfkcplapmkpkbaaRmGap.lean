/- The set of ranges: Gaps of nothing. Conditions: none. -/
import Derived.Test.YtfkcplapmkpkbaaRmAsk
set_option linter.unusedVariables false
namespace Go.Proofs.Ytfkcplapmkpkbaa.Iv
open Go.RowKit Hp IvM IvR IvN
attribute [local go_sem ↓] Go.wp_at_zero Go.wp_at_succ
theorem gaps_nil (u m : Int) (w : World) : Calls Try.prog 23 #[.pointer none, .int .i64 u, .int .i64 m] w fun e w' => e = .returned (.slice none 0 0) ∧ w = w' := by
  go_enter Try.func23, Try.ntmps23
  go_wp2_with fail
  go_ret
  exact ⟨rfl, rfl⟩
end Go.Proofs.Ytfkcplapmkpkbaa.Iv
