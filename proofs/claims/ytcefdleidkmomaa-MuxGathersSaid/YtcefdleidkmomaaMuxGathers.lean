/- MuxGathers (mizzenlaw11): for every input the law returns true, and all of its goroutines only leave. Conditions: none. -/
import Derived.Test.YtcefdleidkmomaaMgG27
set_option linter.unusedVariables false
namespace Go.Proofs.Ytcefdleidkmomaa.muxGathers
open Go.ChangeShapes Go.WideShapes Go.ChangeAt Go.RowKit Go.Conc
theorem runs : Runs := fun w s n cl vals A C h => by
  rw [solo_eq_crowd]
  exact Go.Proofs.Ytcefdleidkmomaa.Mx.gathers_ends h _ none #[] (fun _ => 0) rfl (leavers_one _ _) (past_nil.mono (Nat.zero_le _))
theorem proved : Rows.MuxGathersSaid := said runs
#print axioms proved
end Go.Proofs.Ytcefdleidkmomaa.muxGathers
