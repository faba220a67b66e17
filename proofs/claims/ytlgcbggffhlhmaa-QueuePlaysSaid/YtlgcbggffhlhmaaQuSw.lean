/- QueuePlays' switch: where it stands. Conditions: each theorem's own. -/
import Derived.Test.YtlgcbggffhlhmaaQuPl
import Derived.Test.YtlgcbggffhlhmaaInts
import Derived.Deep.RegionLaw
import Derived.Deep.RegionHeld3
set_option linter.unusedVariables false
namespace Go.Proofs.Ytlgcbggffhlhmaa.Qu
open Go.RowKit Hp QuM QuN Go.Proofs.Ytlgcbggffhlhmaa.End Opn
attribute [local go_sem ↓] Go.wp_at_zero Go.wp_at_succ
def findBlock (k : Nat) : Code → Option Code
  | .loop c => findBlock k c
  | .seq a b => match findBlock k a with
    | some c => some c
    | none => findBlock k b
  | .block j c => if j = k then some (.block j c) else findBlock k c
  | .scope c => findBlock k c
  | .cond _ a b => match findBlock k a with
    | some c => some c
    | none => findBlock k b
  | _ => none
noncomputable def swc : Code := ((Try.f8.body.bind (findBlock 2)).getD .skip)
end Go.Proofs.Ytlgcbggffhlhmaa.Qu
