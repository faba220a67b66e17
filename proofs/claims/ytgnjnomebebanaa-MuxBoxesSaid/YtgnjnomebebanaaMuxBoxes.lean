/- MuxBoxes (mizzenlaw11): for every input the law returns true, and all of its goroutines only leave. Conditions: none. -/
import Derived.Test.YtgnjnomebebanaaMbG27
set_option linter.unusedVariables false
namespace Go.Proofs.Ytgnjnomebebanaa.muxBoxes
open Go.ChangeShapes Go.WideShapes Go.ChangeAt Go.RowKit Go.Conc
theorem runs : Runs := fun _ _ _ _ _ _ _ hA hB => Go.Proofs.Ytgnjnomebebanaa.Mx.boxes_run hA hB
theorem proved : Rows.MuxBoxesSaid := said runs
#print axioms proved
end Go.Proofs.Ytgnjnomebebanaa.muxBoxes
