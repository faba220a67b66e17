/- Messages in pieces: what the statements ask at first. Conditions: each theorem's own. -/
import Derived.Test.YtkgplpjecbbckaaSg
import Derived.Test.YtkgplpjecbbckaaEnd
set_option linter.unusedVariables false
namespace Go.Proofs.Ytkgplpjecbbckaa.Sg
open Go.RowKit Hp IvM IvR IvN SgM Go.Proofs.Ytkgplpjecbbckaa.End
attribute [local go_sem ↓] Go.wp_at_zero Go.wp_at_succ
set_option maxHeartbeats 2000000 in
set_option maxRecDepth 100000 in
theorem awake_any (w : World) : Calls Try.prog 6 #[] w fun e w' => e = .returned (.bool true) ∧ Old w w' := by
  have P1 := Lib.hid fun w => Piece_any 10 4 2 w
  have P2 := Lib.hid fun w => Piece_any 10 4 3 w
  have C1 := Lib.hid fun w => count_any 10 4 w
  have C2 := Lib.hid fun w => count_any 0 5 w
  rw [show pieceV 10 4 2 = .tuple #[.agg #[.int .i64 8, .int .i64 10], .int .i64 0] by unfold pieceV; rw [if_pos (by decide)]; rfl] at P1
  rw [show pieceV 10 4 3 = .tuple #[.agg #[.int .i64 0, .int .i64 0], .int .i64 1] by unfold pieceV; rw [if_neg (by decide)]; rfl] at P2
  rw [show cnt 10 4 = 3 by decide] at C1
  rw [show cnt 0 5 = 1 by decide] at C2
  go_enter Try.func6, Try.ntmps6
  go_wp2_with fail
  with_reducible refine Calls.mono (P1.out _) ?_
  rintro e w1 ⟨rfl, k1⟩
  have hB := Blk.new w1 [.int .i64 8, .int .i64 10] 23
  have k2 := k1.alloc (.cells #[.int .i64 8, .int .i64 10] 23)
  dsimp only [List.toArray] at hB
  go_upto_region 2 with fail
  generalize w1.alloc (.cells #[.int .i64 8, .int .i64 10] 23) = w2 at *
  generalize w1.heap.size = b at *
  clear k1
  go_wp2_with fail
  with_reducible refine Calls.mono (P2.out _) ?_
  rintro e w3 ⟨rfl, k3⟩
  have hB4 := (k3.blk hB (fun f => f)).old (.cells #[.int .i64 0, .int .i64 0] 23)
  have k4 := (k2.trans k3).alloc (.cells #[.int .i64 0, .int .i64 0] 23)
  go_upto_region 3 with fail
  generalize w3.alloc (.cells #[.int .i64 0, .int .i64 0] 23) = w4 at *
  clear k3 hB k2
  go_wp2_with fail
  with_reducible refine Calls.mono (C1.out _) ?_
  rintro e w5 ⟨rfl, k5⟩
  have hB5 := k5.blk hB4 (fun f => f)
  have c0 := hB5.cell (o := 0) rfl
  have c1 := hB5.cell (o := 1) rfl
  clear hB4 hB5
  go_wp2_with fail
  with_reducible refine Calls.mono (C2.out _) ?_
  rintro e w6 ⟨rfl, k6⟩
  go_wp2_with fail
  go_ret
  exact ⟨rfl, (k4.trans k5).trans k6⟩
end Go.Proofs.Ytkgplpjecbbckaa.Sg
