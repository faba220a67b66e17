/- Keys held against each other; sorted cells have sorted keys. Conditions: each theorem's own. -/
import Derived.Test.YtaihjnonlnbhhaaTbPl
set_option linter.unusedVariables false
namespace Go.Proofs.Ytaihjnonlnbhhaa.TbC
open Go.RowKit Hp TbM TbN TbR TbK TbL Tb
attribute [local go_sem ↓] Go.wp_at_zero Go.wp_at_succ
theorem neq_key (a b : Int) (w : World) : (binOp .neq 62 (.agg #[.int .i64 a, .int .u64 b]) (.agg #[.int .i64 a, .int .u64 b])).run Try.prog w = .ok (.bool false) w := by
  have hp : Try.prog.stoodInHeld 62 = false := by kernel_rfl
  rw [run_neq_struct, show (10000 : Nat) = 9999 + 1 from rfl, run_equalIn_agg w 9999 62 _ _ key_struct hp]
  simp only [Program.fieldsOf, Try.underlying62]
  have u3 := Try.underlying3
  have u4 := Try.underlying30
  have a3 := Try.isAgg3
  have z3 := Try.sizeOf3
  have a4 := Try.isAgg30
  have z4 := Try.sizeOf30
  go_simp
/-- Sorted keys. -/
theorem srt_keys {m : List Ce} (h : Srt m) : Sorted (m.map Prod.fst) := by
  unfold Sorted
  rw [List.pairwise_map]
  refine List.Pairwise.imp ?_ h
  intro a b hab
  cases hba : ltK b.1 a.1 with
  | false => rfl
  | true => have := lt_tr hab hba; rw [lt_irr] at this; cases this
end Go.Proofs.Ytaihjnonlnbhhaa.TbC
