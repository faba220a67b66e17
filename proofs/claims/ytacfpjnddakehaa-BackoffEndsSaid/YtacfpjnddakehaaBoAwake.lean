/- What the document fixes of backoff answers true. Conditions: each theorem's own. -/
import Derived.Test.YtacfpjnddakehaaBo3
import Derived.Test.YtacfpjnddakehaaEnd
set_option linter.unusedVariables false
namespace Go.Proofs.Ytacfpjnddakehaa.BoAwake
open Go.RowKit Hp NumM NumC Bo Go.Proofs.Ytacfpjnddakehaa.End
theorem fits : Fits 2 10 0 := by decide
theorem unfits : ¬ Fits 3 2 0 := by decide
theorem d10 (w : World) : Calls Try.prog 17 #[.int .i64 2, .int .i64 10, .int .i64 3] w fun e w' => e = .returned (.int .i64 10) ∧ w = w' := delay_any 2 10 3 w
theorem s3 {b : Nat} {w : World} (hB : PT w b 2 10 0 0 0) : Calls Try.prog 9 #[.pointer (some ⟨b, 0, none⟩), .int .i64 1] w fun e w' =>
    e = .returned (.tuple #[]) ∧ PT w' b 2 10 0 0 3 ∧ Kept (fun k => k = b) w w' := start_any hB 1
theorem a3 {b : Nat} {w : World} (hB : PT w b 2 10 0 0 3) : Calls Try.prog 15 #[.pointer (some ⟨b, 0, none⟩)] w fun e w' =>
    e = .returned (.tuple #[.int .i64 3, .bool true]) ∧ PT w' b 2 10 0 0 3 ∧ Kept (fun _ => False) w w' := at_any hB
theorem awake_any (w : World) : Calls Try.prog 7 #[] w fun e w' => e = .returned (.bool true) ∧ Old w w' := by
  go_enter Try.func7, Try.ntmps7
  go_wp2_with fail
  refine (new_yes fits w).mono ?_
  rintro e w1 ⟨b, rfl, hB1, k1, l1⟩
  go_wp2_with fail
  refine (new_no unfits w1).mono ?_
  rintro e w2 ⟨rfl, rfl⟩
  go_wp2_with fail
  refine (s3 hB1).mono ?_
  rintro e w3 ⟨rfl, hB3, k3⟩
  go_wp2_with fail
  refine (a3 hB3).mono ?_
  rintro e w4 ⟨rfl, hB4, k4⟩
  go_wp2_with fail
  refine (d10 w4).mono ?_
  rintro e w5 ⟨rfl, rfl⟩
  go_wp2_with fail
  go_ret
  exact ⟨rfl, (k1.trans' k3 (fun i hi e => by omega)).trans k4⟩
end Go.Proofs.Ytacfpjnddakehaa.BoAwake
