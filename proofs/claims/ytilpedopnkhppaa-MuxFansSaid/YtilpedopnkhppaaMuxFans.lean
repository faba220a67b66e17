/- MuxFans (mizzenlaw11): for every input the law returns true, and all of its goroutines only leave. Conditions: none. -/
import Derived.Test.YtilpedopnkhppaaMfG29
set_option linter.unusedVariables false
namespace Go.Proofs.Ytilpedopnkhppaa.muxFans
open Go.ChangeShapes Go.WideShapes Go.ChangeAt Go.RowKit Go.Conc
theorem runs : Runs := fun w N Z => by
 rw [solo_eq_crowd]
 exact Go.Proofs.Ytilpedopnkhppaa.MxS.fans_ends _ none #[] (fun _ => 0) rfl (leavers_one _ _) (past_nil.mono (Nat.zero_le _))
theorem proved : Rows.MuxFansSaid := said runs
#print axioms proved
end Go.Proofs.Ytilpedopnkhppaa.muxFans
