/- MuxOrder (mizzenlaw11): for every input the law returns true, and all of its goroutines only leave. Conditions: none. -/
import Derived.Test.YtoieogembfdmfaaMoG23
import Derived.Test.YtoieogembfdmfaaMoG24
set_option linter.unusedVariables false
namespace Go.Proofs.Ytoieogembfdmfaa.muxOrder
open Go.ChangeShapes Go.WideShapes Go.ChangeAt Go.RowKit Go.Conc
theorem runs : Runs := fun _ _ _ _ _ _ _ _ hA hB => Go.Proofs.Ytoieogembfdmfaa.Mx.order_run hA hB
theorem proved : Rows.MuxOrderSaid := said runs
#print axioms proved
end Go.Proofs.Ytoieogembfdmfaa.muxOrder
