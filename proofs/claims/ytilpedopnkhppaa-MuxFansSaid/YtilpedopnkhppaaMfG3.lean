/- A lone walk, carried into company, seventh part: numbers, texts, places, append, calls. Conditions: each theorem's own. -/
import Derived.Test.YtilpedopnkhppaaMfG2
set_option linter.unusedVariables false
set_option linter.unusedSimpArgs false
namespace Go.Proofs.Ytilpedopnkhppaa.Br
open Go.Conc
namespace SimOk
section
variable {P : Program} {α : Type} {Φ : α → Prop}
theorem floatArith (o : BinOp) (k : FloatKind) (x y : Nat) : SimOk P (fun _ => True) (Op.floatArith o k x y) := by
 unfold Op.floatArith
 repeat' (first
  | with_reducible exact SimOk.pure trivial
  | with_reducible exact SimOk.stuck _
  | with_reducible exact SimOk.unsupported _
  | with_reducible exact SimOk.gPanic _
  | with_reducible exact SimOk.runtimePanic _
  | with_reducible exact SimOk.boundsPanic _ _ _ _
  | with_reducible exact SimOk.load _ _
  | with_reducible exact SimOk.store _ _ _
  | with_reducible exact SimOk.newObj _
  | with_reducible exact SimOk.newVar _ _
  | with_reducible exact SimOk.newRow _ _
  | with_reducible exact SimOk.choose _
  | with_reducible exact SimOk.loadCells _ _
  | with_reducible exact SimOk.storeCells _ _ _
  | with_reducible exact SimOk.part _ _ _
  | (with_reducible apply SimOk.bind
     first
      | with_reducible exact SimOk.underlying _
      | with_reducible exact SimOk.typeInfo _
      | with_reducible exact SimOk.sizeOf _
      | with_reducible exact SimOk.zeroValue _
      | with_reducible exact SimOk.isAgg _
      | with_reducible exact SimOk.elemOf _
      | with_reducible exact SimOk.part _ _ _
      | with_reducible exact SimOk.asIntOf _
      | with_reducible exact SimOk.asInt _
      | with_reducible exact SimOk.asBool _
      | with_reducible exact SimOk.asString _
      | with_reducible exact SimOk.asAgg _
      | with_reducible exact SimOk.asAddr _
      | with_reducible exact SimOk.sureAddr _
      | with_reducible exact SimOk.load _ _
      | with_reducible exact SimOk.store _ _ _
      | with_reducible exact SimOk.newVar _ _
      | with_reducible exact SimOk.newRow _ _
      | with_reducible exact SimOk.newObj _
      | with_reducible exact SimOk.choose _
      | with_reducible exact SimOk.askRoom _
      | with_reducible exact SimOk.loadCells _ _
      | with_reducible exact SimOk.storeCells _ _ _
      | with_reducible exact SimOk.program
      | with_reducible exact (SimOk.gPanic (Φ := fun _ => True) _)
      | with_reducible exact (SimOk.runtimePanic (Φ := fun _ => True) _)
      | with_reducible exact (SimOk.stuck (Φ := fun _ => True) _)
      | with_reducible exact (SimOk.unsupported (Φ := fun _ => True) _)
      | with_reducible exact (SimOk.pure (Φ := fun _ => True) trivial)
     intro _ _)
  | dsimp only
  | split)
theorem floatCmp (o : BinOp) (k : FloatKind) (x y : Nat) : SimOk P (fun _ => True) (Op.floatCmp o k x y) := by
 unfold Op.floatCmp
 repeat' (first
  | with_reducible exact SimOk.pure trivial
  | with_reducible exact SimOk.stuck _
  | with_reducible exact SimOk.unsupported _
  | with_reducible exact SimOk.gPanic _
  | with_reducible exact SimOk.runtimePanic _
  | with_reducible exact SimOk.boundsPanic _ _ _ _
  | with_reducible exact SimOk.load _ _
  | with_reducible exact SimOk.store _ _ _
  | with_reducible exact SimOk.newObj _
  | with_reducible exact SimOk.newVar _ _
  | with_reducible exact SimOk.newRow _ _
  | with_reducible exact SimOk.choose _
  | with_reducible exact SimOk.loadCells _ _
  | with_reducible exact SimOk.storeCells _ _ _
  | with_reducible exact SimOk.part _ _ _
  | (with_reducible apply SimOk.bind
     first
      | with_reducible exact SimOk.underlying _
      | with_reducible exact SimOk.typeInfo _
      | with_reducible exact SimOk.sizeOf _
      | with_reducible exact SimOk.zeroValue _
      | with_reducible exact SimOk.isAgg _
      | with_reducible exact SimOk.elemOf _
      | with_reducible exact SimOk.part _ _ _
      | with_reducible exact SimOk.asIntOf _
      | with_reducible exact SimOk.asInt _
      | with_reducible exact SimOk.asBool _
      | with_reducible exact SimOk.asString _
      | with_reducible exact SimOk.asAgg _
      | with_reducible exact SimOk.asAddr _
      | with_reducible exact SimOk.sureAddr _
      | with_reducible exact SimOk.load _ _
      | with_reducible exact SimOk.store _ _ _
      | with_reducible exact SimOk.newVar _ _
      | with_reducible exact SimOk.newRow _ _
      | with_reducible exact SimOk.newObj _
      | with_reducible exact SimOk.choose _
      | with_reducible exact SimOk.askRoom _
      | with_reducible exact SimOk.loadCells _ _
      | with_reducible exact SimOk.storeCells _ _ _
      | with_reducible exact SimOk.program
      | with_reducible exact (SimOk.gPanic (Φ := fun _ => True) _)
      | with_reducible exact (SimOk.runtimePanic (Φ := fun _ => True) _)
      | with_reducible exact (SimOk.stuck (Φ := fun _ => True) _)
      | with_reducible exact (SimOk.unsupported (Φ := fun _ => True) _)
      | with_reducible exact (SimOk.pure (Φ := fun _ => True) trivial)
     intro _ _)
  | dsimp only
  | split)
theorem floatToFloat (s : FloatKind) (x : Nat) (d : FloatKind) : SimOk P (fun _ => True) (Conv.floatToFloat s x d) := by
 unfold Conv.floatToFloat
 repeat' (first
  | with_reducible exact SimOk.pure trivial
  | with_reducible exact SimOk.stuck _
  | with_reducible exact SimOk.unsupported _
  | with_reducible exact SimOk.gPanic _
  | with_reducible exact SimOk.runtimePanic _
  | with_reducible exact SimOk.boundsPanic _ _ _ _
  | with_reducible exact SimOk.load _ _
  | with_reducible exact SimOk.store _ _ _
  | with_reducible exact SimOk.newObj _
  | with_reducible exact SimOk.newVar _ _
  | with_reducible exact SimOk.newRow _ _
  | with_reducible exact SimOk.choose _
  | with_reducible exact SimOk.loadCells _ _
  | with_reducible exact SimOk.storeCells _ _ _
  | with_reducible exact SimOk.part _ _ _
  | (with_reducible apply SimOk.bind
     first
      | with_reducible exact SimOk.underlying _
      | with_reducible exact SimOk.typeInfo _
      | with_reducible exact SimOk.sizeOf _
      | with_reducible exact SimOk.zeroValue _
      | with_reducible exact SimOk.isAgg _
      | with_reducible exact SimOk.elemOf _
      | with_reducible exact SimOk.part _ _ _
      | with_reducible exact SimOk.asIntOf _
      | with_reducible exact SimOk.asInt _
      | with_reducible exact SimOk.asBool _
      | with_reducible exact SimOk.asString _
      | with_reducible exact SimOk.asAgg _
      | with_reducible exact SimOk.asAddr _
      | with_reducible exact SimOk.sureAddr _
      | with_reducible exact SimOk.load _ _
      | with_reducible exact SimOk.store _ _ _
      | with_reducible exact SimOk.newVar _ _
      | with_reducible exact SimOk.newRow _ _
      | with_reducible exact SimOk.newObj _
      | with_reducible exact SimOk.choose _
      | with_reducible exact SimOk.askRoom _
      | with_reducible exact SimOk.loadCells _ _
      | with_reducible exact SimOk.storeCells _ _ _
      | with_reducible exact SimOk.program
      | with_reducible exact (SimOk.gPanic (Φ := fun _ => True) _)
      | with_reducible exact (SimOk.runtimePanic (Φ := fun _ => True) _)
      | with_reducible exact (SimOk.stuck (Φ := fun _ => True) _)
      | with_reducible exact (SimOk.unsupported (Φ := fun _ => True) _)
      | with_reducible exact (SimOk.pure (Φ := fun _ => True) trivial)
     intro _ _)
  | dsimp only
  | split)
theorem cArith (o : BinOp) (k : FloatKind) (x y : Nat) : SimOk P (fun _ => True) (Op.Complex.arith o k x y) := by
 unfold Op.Complex.arith
 repeat' (first
  | with_reducible exact SimOk.pure trivial
  | with_reducible exact SimOk.stuck _
  | with_reducible exact SimOk.unsupported _
  | with_reducible exact SimOk.gPanic _
  | with_reducible exact SimOk.runtimePanic _
  | with_reducible exact SimOk.boundsPanic _ _ _ _
  | with_reducible exact SimOk.load _ _
  | with_reducible exact SimOk.store _ _ _
  | with_reducible exact SimOk.newObj _
  | with_reducible exact SimOk.newVar _ _
  | with_reducible exact SimOk.newRow _ _
  | with_reducible exact SimOk.choose _
  | with_reducible exact SimOk.loadCells _ _
  | with_reducible exact SimOk.storeCells _ _ _
  | with_reducible exact SimOk.part _ _ _
  | (with_reducible apply SimOk.bind
     first
      | with_reducible exact SimOk.underlying _
      | with_reducible exact SimOk.typeInfo _
      | with_reducible exact SimOk.sizeOf _
      | with_reducible exact SimOk.zeroValue _
      | with_reducible exact SimOk.isAgg _
      | with_reducible exact SimOk.elemOf _
      | with_reducible exact SimOk.part _ _ _
      | with_reducible exact SimOk.asIntOf _
      | with_reducible exact SimOk.asInt _
      | with_reducible exact SimOk.asBool _
      | with_reducible exact SimOk.asString _
      | with_reducible exact SimOk.asAgg _
      | with_reducible exact SimOk.asAddr _
      | with_reducible exact SimOk.sureAddr _
      | with_reducible exact SimOk.load _ _
      | with_reducible exact SimOk.store _ _ _
      | with_reducible exact SimOk.newVar _ _
      | with_reducible exact SimOk.newRow _ _
      | with_reducible exact SimOk.newObj _
      | with_reducible exact SimOk.choose _
      | with_reducible exact SimOk.askRoom _
      | with_reducible exact SimOk.loadCells _ _
      | with_reducible exact SimOk.storeCells _ _ _
      | with_reducible exact SimOk.floatArith _ _ _ _
      | with_reducible exact SimOk.program
      | with_reducible exact (SimOk.gPanic (Φ := fun _ => True) _)
      | with_reducible exact (SimOk.runtimePanic (Φ := fun _ => True) _)
      | with_reducible exact (SimOk.stuck (Φ := fun _ => True) _)
      | with_reducible exact (SimOk.unsupported (Φ := fun _ => True) _)
      | with_reducible exact (SimOk.pure (Φ := fun _ => True) trivial)
     intro _ _)
  | dsimp only
  | split)
theorem cCmp (o : BinOp) (k : FloatKind) (x y : Nat) : SimOk P (fun _ => True) (Op.Complex.cmp o k x y) := by
 unfold Op.Complex.cmp
 exact SimOk.bind (floatCmp _ _ _ _) fun _ _ => asBool _
theorem cConv (s : FloatKind) (x : Nat) (d : FloatKind) : SimOk P (fun _ => True) (Op.Complex.conv s x d) := by
 unfold Op.Complex.conv
 repeat' (first
  | with_reducible exact SimOk.pure trivial
  | with_reducible exact SimOk.stuck _
  | with_reducible exact SimOk.unsupported _
  | with_reducible exact SimOk.gPanic _
  | with_reducible exact SimOk.runtimePanic _
  | with_reducible exact SimOk.boundsPanic _ _ _ _
  | with_reducible exact SimOk.load _ _
  | with_reducible exact SimOk.store _ _ _
  | with_reducible exact SimOk.newObj _
  | with_reducible exact SimOk.newVar _ _
  | with_reducible exact SimOk.newRow _ _
  | with_reducible exact SimOk.choose _
  | with_reducible exact SimOk.loadCells _ _
  | with_reducible exact SimOk.storeCells _ _ _
  | with_reducible exact SimOk.part _ _ _
  | (with_reducible apply SimOk.bind
     first
      | with_reducible exact SimOk.underlying _
      | with_reducible exact SimOk.typeInfo _
      | with_reducible exact SimOk.sizeOf _
      | with_reducible exact SimOk.zeroValue _
      | with_reducible exact SimOk.isAgg _
      | with_reducible exact SimOk.elemOf _
      | with_reducible exact SimOk.part _ _ _
      | with_reducible exact SimOk.asIntOf _
      | with_reducible exact SimOk.asInt _
      | with_reducible exact SimOk.asBool _
      | with_reducible exact SimOk.asString _
      | with_reducible exact SimOk.asAgg _
      | with_reducible exact SimOk.asAddr _
      | with_reducible exact SimOk.sureAddr _
      | with_reducible exact SimOk.load _ _
      | with_reducible exact SimOk.store _ _ _
      | with_reducible exact SimOk.newVar _ _
      | with_reducible exact SimOk.newRow _ _
      | with_reducible exact SimOk.newObj _
      | with_reducible exact SimOk.choose _
      | with_reducible exact SimOk.askRoom _
      | with_reducible exact SimOk.loadCells _ _
      | with_reducible exact SimOk.storeCells _ _ _
      | with_reducible exact SimOk.floatToFloat _ _ _
      | with_reducible exact SimOk.program
      | with_reducible exact (SimOk.gPanic (Φ := fun _ => True) _)
      | with_reducible exact (SimOk.runtimePanic (Φ := fun _ => True) _)
      | with_reducible exact (SimOk.stuck (Φ := fun _ => True) _)
      | with_reducible exact (SimOk.unsupported (Φ := fun _ => True) _)
      | with_reducible exact (SimOk.pure (Φ := fun _ => True) trivial)
     intro _ _)
  | dsimp only
  | split)
theorem cAdd (x y : Nat) : SimOk P (fun _ => True) (Op.Complex.add x y) := cArith _ _ _ _
theorem cSub (x y : Nat) : SimOk P (fun _ => True) (Op.Complex.sub x y) := cArith _ _ _ _
theorem cMul (x y : Nat) : SimOk P (fun _ => True) (Op.Complex.mul x y) := cArith _ _ _ _
theorem cQuo (x y : Nat) : SimOk P (fun _ => True) (Op.Complex.quo x y) := cArith _ _ _ _
theorem cProduct (a b c d : Nat) : SimOk P (fun _ => True) (Op.Complex.product a b c d) := by
 unfold Op.Complex.product
 repeat' (first
  | with_reducible exact SimOk.pure trivial
  | with_reducible exact SimOk.stuck _
  | with_reducible exact SimOk.unsupported _
  | with_reducible exact SimOk.gPanic _
  | with_reducible exact SimOk.runtimePanic _
  | with_reducible exact SimOk.boundsPanic _ _ _ _
  | with_reducible exact SimOk.load _ _
  | with_reducible exact SimOk.store _ _ _
  | with_reducible exact SimOk.newObj _
  | with_reducible exact SimOk.newVar _ _
  | with_reducible exact SimOk.newRow _ _
  | with_reducible exact SimOk.choose _
  | with_reducible exact SimOk.loadCells _ _
  | with_reducible exact SimOk.storeCells _ _ _
  | with_reducible exact SimOk.part _ _ _
  | (with_reducible apply SimOk.bind
     first
      | with_reducible exact SimOk.underlying _
      | with_reducible exact SimOk.typeInfo _
      | with_reducible exact SimOk.sizeOf _
      | with_reducible exact SimOk.zeroValue _
      | with_reducible exact SimOk.isAgg _
      | with_reducible exact SimOk.elemOf _
      | with_reducible exact SimOk.part _ _ _
      | with_reducible exact SimOk.asIntOf _
      | with_reducible exact SimOk.asInt _
      | with_reducible exact SimOk.asBool _
      | with_reducible exact SimOk.asString _
      | with_reducible exact SimOk.asAgg _
      | with_reducible exact SimOk.asAddr _
      | with_reducible exact SimOk.sureAddr _
      | with_reducible exact SimOk.load _ _
      | with_reducible exact SimOk.store _ _ _
      | with_reducible exact SimOk.newVar _ _
      | with_reducible exact SimOk.newRow _ _
      | with_reducible exact SimOk.newObj _
      | with_reducible exact SimOk.choose _
      | with_reducible exact SimOk.askRoom _
      | with_reducible exact SimOk.loadCells _ _
      | with_reducible exact SimOk.storeCells _ _ _
      | with_reducible exact SimOk.cAdd _ _
      | with_reducible exact SimOk.cSub _ _
      | with_reducible exact SimOk.cMul _ _
      | with_reducible exact SimOk.cQuo _ _
      | with_reducible exact SimOk.program
      | with_reducible exact (SimOk.gPanic (Φ := fun _ => True) _)
      | with_reducible exact (SimOk.runtimePanic (Φ := fun _ => True) _)
      | with_reducible exact (SimOk.stuck (Φ := fun _ => True) _)
      | with_reducible exact (SimOk.unsupported (Φ := fun _ => True) _)
      | with_reducible exact (SimOk.pure (Φ := fun _ => True) trivial)
     intro _ _)
  | dsimp only
  | split)
theorem cQuotient (a b c d : Nat) : SimOk P (fun _ => True) (Op.Complex.quotient a b c d) := by
 unfold Op.Complex.quotient Op.Complex.corrected
 repeat' (first
  | with_reducible exact SimOk.pure trivial
  | with_reducible exact SimOk.stuck _
  | with_reducible exact SimOk.unsupported _
  | with_reducible exact SimOk.gPanic _
  | with_reducible exact SimOk.runtimePanic _
  | with_reducible exact SimOk.boundsPanic _ _ _ _
  | with_reducible exact SimOk.load _ _
  | with_reducible exact SimOk.store _ _ _
  | with_reducible exact SimOk.newObj _
  | with_reducible exact SimOk.newVar _ _
  | with_reducible exact SimOk.newRow _ _
  | with_reducible exact SimOk.choose _
  | with_reducible exact SimOk.loadCells _ _
  | with_reducible exact SimOk.storeCells _ _ _
  | with_reducible exact SimOk.part _ _ _
  | (with_reducible apply SimOk.bind
     first
      | with_reducible exact SimOk.underlying _
      | with_reducible exact SimOk.typeInfo _
      | with_reducible exact SimOk.sizeOf _
      | with_reducible exact SimOk.zeroValue _
      | with_reducible exact SimOk.isAgg _
      | with_reducible exact SimOk.elemOf _
      | with_reducible exact SimOk.part _ _ _
      | with_reducible exact SimOk.asIntOf _
      | with_reducible exact SimOk.asInt _
      | with_reducible exact SimOk.asBool _
      | with_reducible exact SimOk.asString _
      | with_reducible exact SimOk.asAgg _
      | with_reducible exact SimOk.asAddr _
      | with_reducible exact SimOk.sureAddr _
      | with_reducible exact SimOk.load _ _
      | with_reducible exact SimOk.store _ _ _
      | with_reducible exact SimOk.newVar _ _
      | with_reducible exact SimOk.newRow _ _
      | with_reducible exact SimOk.newObj _
      | with_reducible exact SimOk.choose _
      | with_reducible exact SimOk.askRoom _
      | with_reducible exact SimOk.loadCells _ _
      | with_reducible exact SimOk.storeCells _ _ _
      | with_reducible exact SimOk.cCmp _ _ _ _
      | with_reducible exact SimOk.cAdd _ _
      | with_reducible exact SimOk.cSub _ _
      | with_reducible exact SimOk.cMul _ _
      | with_reducible exact SimOk.cQuo _ _
      | with_reducible exact SimOk.program
      | with_reducible exact (SimOk.gPanic (Φ := fun _ => True) _)
      | with_reducible exact (SimOk.runtimePanic (Φ := fun _ => True) _)
      | with_reducible exact (SimOk.stuck (Φ := fun _ => True) _)
      | with_reducible exact (SimOk.unsupported (Φ := fun _ => True) _)
      | with_reducible exact (SimOk.pure (Φ := fun _ => True) trivial)
     intro _ _)
  | dsimp only
  | split)
theorem complexOp (o : BinOp) (k : FloatKind) (a b c d : Nat) : SimOk P (fun _ => True) (Op.complexOp o k a b c d) := by
 unfold Op.complexOp
 repeat' (first
  | with_reducible exact SimOk.pure trivial
  | with_reducible exact SimOk.stuck _
  | with_reducible exact SimOk.unsupported _
  | with_reducible exact SimOk.gPanic _
  | with_reducible exact SimOk.runtimePanic _
  | with_reducible exact SimOk.boundsPanic _ _ _ _
  | with_reducible exact SimOk.load _ _
  | with_reducible exact SimOk.store _ _ _
  | with_reducible exact SimOk.newObj _
  | with_reducible exact SimOk.newVar _ _
  | with_reducible exact SimOk.newRow _ _
  | with_reducible exact SimOk.choose _
  | with_reducible exact SimOk.loadCells _ _
  | with_reducible exact SimOk.storeCells _ _ _
  | with_reducible exact SimOk.part _ _ _
  | (with_reducible apply SimOk.bind
     first
      | with_reducible exact SimOk.underlying _
      | with_reducible exact SimOk.typeInfo _
      | with_reducible exact SimOk.sizeOf _
      | with_reducible exact SimOk.zeroValue _
      | with_reducible exact SimOk.isAgg _
      | with_reducible exact SimOk.elemOf _
      | with_reducible exact SimOk.part _ _ _
      | with_reducible exact SimOk.asIntOf _
      | with_reducible exact SimOk.asInt _
      | with_reducible exact SimOk.asBool _
      | with_reducible exact SimOk.asString _
      | with_reducible exact SimOk.asAgg _
      | with_reducible exact SimOk.asAddr _
      | with_reducible exact SimOk.sureAddr _
      | with_reducible exact SimOk.load _ _
      | with_reducible exact SimOk.store _ _ _
      | with_reducible exact SimOk.newVar _ _
      | with_reducible exact SimOk.newRow _ _
      | with_reducible exact SimOk.newObj _
      | with_reducible exact SimOk.choose _
      | with_reducible exact SimOk.askRoom _
      | with_reducible exact SimOk.loadCells _ _
      | with_reducible exact SimOk.storeCells _ _ _
      | with_reducible exact SimOk.cArith _ _ _ _
      | with_reducible exact SimOk.cCmp _ _ _ _
      | with_reducible exact SimOk.cConv _ _ _
      | with_reducible exact SimOk.cProduct _ _ _ _
      | with_reducible exact SimOk.cQuotient _ _ _ _
      | with_reducible exact SimOk.program
      | with_reducible exact (SimOk.gPanic (Φ := fun _ => True) _)
      | with_reducible exact (SimOk.runtimePanic (Φ := fun _ => True) _)
      | with_reducible exact (SimOk.stuck (Φ := fun _ => True) _)
      | with_reducible exact (SimOk.unsupported (Φ := fun _ => True) _)
      | with_reducible exact (SimOk.pure (Φ := fun _ => True) trivial)
     intro _ _)
  | dsimp only
  | split)
theorem stringOp (o : BinOp) (x y : ByteArray) : SimOk P (fun _ => True) (Op.stringOp o x y) := by
 unfold Op.stringOp
 repeat' (first
  | with_reducible exact SimOk.pure trivial
  | with_reducible exact SimOk.stuck _
  | with_reducible exact SimOk.unsupported _
  | with_reducible exact SimOk.gPanic _
  | with_reducible exact SimOk.runtimePanic _
  | with_reducible exact SimOk.boundsPanic _ _ _ _
  | with_reducible exact SimOk.load _ _
  | with_reducible exact SimOk.store _ _ _
  | with_reducible exact SimOk.newObj _
  | with_reducible exact SimOk.newVar _ _
  | with_reducible exact SimOk.newRow _ _
  | with_reducible exact SimOk.choose _
  | with_reducible exact SimOk.loadCells _ _
  | with_reducible exact SimOk.storeCells _ _ _
  | with_reducible exact SimOk.part _ _ _
  | (with_reducible apply SimOk.bind
     first
      | with_reducible exact SimOk.underlying _
      | with_reducible exact SimOk.typeInfo _
      | with_reducible exact SimOk.sizeOf _
      | with_reducible exact SimOk.zeroValue _
      | with_reducible exact SimOk.isAgg _
      | with_reducible exact SimOk.elemOf _
      | with_reducible exact SimOk.part _ _ _
      | with_reducible exact SimOk.asIntOf _
      | with_reducible exact SimOk.asInt _
      | with_reducible exact SimOk.asBool _
      | with_reducible exact SimOk.asString _
      | with_reducible exact SimOk.asAgg _
      | with_reducible exact SimOk.asAddr _
      | with_reducible exact SimOk.sureAddr _
      | with_reducible exact SimOk.load _ _
      | with_reducible exact SimOk.store _ _ _
      | with_reducible exact SimOk.newVar _ _
      | with_reducible exact SimOk.newRow _ _
      | with_reducible exact SimOk.newObj _
      | with_reducible exact SimOk.choose _
      | with_reducible exact SimOk.askRoom _
      | with_reducible exact SimOk.loadCells _ _
      | with_reducible exact SimOk.storeCells _ _ _
      | with_reducible exact SimOk.program
      | with_reducible exact (SimOk.gPanic (Φ := fun _ => True) _)
      | with_reducible exact (SimOk.runtimePanic (Φ := fun _ => True) _)
      | with_reducible exact (SimOk.stuck (Φ := fun _ => True) _)
      | with_reducible exact (SimOk.unsupported (Φ := fun _ => True) _)
      | with_reducible exact (SimOk.pure (Φ := fun _ => True) trivial)
     intro _ _)
  | dsimp only
  | split)
theorem intOps (o : BinOp) (k : IntKind) (a b : Int) : SimOk P (fun _ => True) (Op.intArith o k a b) ∧ SimOk P (fun _ => True) (Op.intDiv o k a b) ∧ SimOk P (fun _ => True) (Op.intBits o k a b) ∧ SimOk P (fun _ => True) (Op.intCmp o a b) := by
 refine ⟨?_, ?_, ?_, ?_⟩
 ·unfold Op.intArith; repeat' (first
  | with_reducible exact SimOk.pure trivial
  | with_reducible exact SimOk.stuck _
  | with_reducible exact SimOk.unsupported _
  | with_reducible exact SimOk.gPanic _
  | with_reducible exact SimOk.runtimePanic _
  | with_reducible exact SimOk.boundsPanic _ _ _ _
  | with_reducible exact SimOk.load _ _
  | with_reducible exact SimOk.store _ _ _
  | with_reducible exact SimOk.newObj _
  | with_reducible exact SimOk.newVar _ _
  | with_reducible exact SimOk.newRow _ _
  | with_reducible exact SimOk.choose _
  | with_reducible exact SimOk.loadCells _ _
  | with_reducible exact SimOk.storeCells _ _ _
  | with_reducible exact SimOk.part _ _ _
  | (with_reducible apply SimOk.bind
     first
      | with_reducible exact SimOk.underlying _
      | with_reducible exact SimOk.typeInfo _
      | with_reducible exact SimOk.sizeOf _
      | with_reducible exact SimOk.zeroValue _
      | with_reducible exact SimOk.isAgg _
      | with_reducible exact SimOk.elemOf _
      | with_reducible exact SimOk.part _ _ _
      | with_reducible exact SimOk.asIntOf _
      | with_reducible exact SimOk.asInt _
      | with_reducible exact SimOk.asBool _
      | with_reducible exact SimOk.asString _
      | with_reducible exact SimOk.asAgg _
      | with_reducible exact SimOk.asAddr _
      | with_reducible exact SimOk.sureAddr _
      | with_reducible exact SimOk.load _ _
      | with_reducible exact SimOk.store _ _ _
      | with_reducible exact SimOk.newVar _ _
      | with_reducible exact SimOk.newRow _ _
      | with_reducible exact SimOk.newObj _
      | with_reducible exact SimOk.choose _
      | with_reducible exact SimOk.askRoom _
      | with_reducible exact SimOk.loadCells _ _
      | with_reducible exact SimOk.storeCells _ _ _
      | with_reducible exact SimOk.program
      | with_reducible exact (SimOk.gPanic (Φ := fun _ => True) _)
      | with_reducible exact (SimOk.runtimePanic (Φ := fun _ => True) _)
      | with_reducible exact (SimOk.stuck (Φ := fun _ => True) _)
      | with_reducible exact (SimOk.unsupported (Φ := fun _ => True) _)
      | with_reducible exact (SimOk.pure (Φ := fun _ => True) trivial)
     intro _ _)
  | dsimp only
  | split)
 ·unfold Op.intDiv; repeat' (first
  | with_reducible exact SimOk.pure trivial
  | with_reducible exact SimOk.stuck _
  | with_reducible exact SimOk.unsupported _
  | with_reducible exact SimOk.gPanic _
  | with_reducible exact SimOk.runtimePanic _
  | with_reducible exact SimOk.boundsPanic _ _ _ _
  | with_reducible exact SimOk.load _ _
  | with_reducible exact SimOk.store _ _ _
  | with_reducible exact SimOk.newObj _
  | with_reducible exact SimOk.newVar _ _
  | with_reducible exact SimOk.newRow _ _
  | with_reducible exact SimOk.choose _
  | with_reducible exact SimOk.loadCells _ _
  | with_reducible exact SimOk.storeCells _ _ _
  | with_reducible exact SimOk.part _ _ _
  | (with_reducible apply SimOk.bind
     first
      | with_reducible exact SimOk.underlying _
      | with_reducible exact SimOk.typeInfo _
      | with_reducible exact SimOk.sizeOf _
      | with_reducible exact SimOk.zeroValue _
      | with_reducible exact SimOk.isAgg _
      | with_reducible exact SimOk.elemOf _
      | with_reducible exact SimOk.part _ _ _
      | with_reducible exact SimOk.asIntOf _
      | with_reducible exact SimOk.asInt _
      | with_reducible exact SimOk.asBool _
      | with_reducible exact SimOk.asString _
      | with_reducible exact SimOk.asAgg _
      | with_reducible exact SimOk.asAddr _
      | with_reducible exact SimOk.sureAddr _
      | with_reducible exact SimOk.load _ _
      | with_reducible exact SimOk.store _ _ _
      | with_reducible exact SimOk.newVar _ _
      | with_reducible exact SimOk.newRow _ _
      | with_reducible exact SimOk.newObj _
      | with_reducible exact SimOk.choose _
      | with_reducible exact SimOk.askRoom _
      | with_reducible exact SimOk.loadCells _ _
      | with_reducible exact SimOk.storeCells _ _ _
      | with_reducible exact SimOk.program
      | with_reducible exact (SimOk.gPanic (Φ := fun _ => True) _)
      | with_reducible exact (SimOk.runtimePanic (Φ := fun _ => True) _)
      | with_reducible exact (SimOk.stuck (Φ := fun _ => True) _)
      | with_reducible exact (SimOk.unsupported (Φ := fun _ => True) _)
      | with_reducible exact (SimOk.pure (Φ := fun _ => True) trivial)
     intro _ _)
  | dsimp only
  | split)
 ·unfold Op.intBits; repeat' (first
  | with_reducible exact SimOk.pure trivial
  | with_reducible exact SimOk.stuck _
  | with_reducible exact SimOk.unsupported _
  | with_reducible exact SimOk.gPanic _
  | with_reducible exact SimOk.runtimePanic _
  | with_reducible exact SimOk.boundsPanic _ _ _ _
  | with_reducible exact SimOk.load _ _
  | with_reducible exact SimOk.store _ _ _
  | with_reducible exact SimOk.newObj _
  | with_reducible exact SimOk.newVar _ _
  | with_reducible exact SimOk.newRow _ _
  | with_reducible exact SimOk.choose _
  | with_reducible exact SimOk.loadCells _ _
  | with_reducible exact SimOk.storeCells _ _ _
  | with_reducible exact SimOk.part _ _ _
  | (with_reducible apply SimOk.bind
     first
      | with_reducible exact SimOk.underlying _
      | with_reducible exact SimOk.typeInfo _
      | with_reducible exact SimOk.sizeOf _
      | with_reducible exact SimOk.zeroValue _
      | with_reducible exact SimOk.isAgg _
      | with_reducible exact SimOk.elemOf _
      | with_reducible exact SimOk.part _ _ _
      | with_reducible exact SimOk.asIntOf _
      | with_reducible exact SimOk.asInt _
      | with_reducible exact SimOk.asBool _
      | with_reducible exact SimOk.asString _
      | with_reducible exact SimOk.asAgg _
      | with_reducible exact SimOk.asAddr _
      | with_reducible exact SimOk.sureAddr _
      | with_reducible exact SimOk.load _ _
      | with_reducible exact SimOk.store _ _ _
      | with_reducible exact SimOk.newVar _ _
      | with_reducible exact SimOk.newRow _ _
      | with_reducible exact SimOk.newObj _
      | with_reducible exact SimOk.choose _
      | with_reducible exact SimOk.askRoom _
      | with_reducible exact SimOk.loadCells _ _
      | with_reducible exact SimOk.storeCells _ _ _
      | with_reducible exact SimOk.program
      | with_reducible exact (SimOk.gPanic (Φ := fun _ => True) _)
      | with_reducible exact (SimOk.runtimePanic (Φ := fun _ => True) _)
      | with_reducible exact (SimOk.stuck (Φ := fun _ => True) _)
      | with_reducible exact (SimOk.unsupported (Φ := fun _ => True) _)
      | with_reducible exact (SimOk.pure (Φ := fun _ => True) trivial)
     intro _ _)
  | dsimp only
  | split)
 ·unfold Op.intCmp; repeat' (first
  | with_reducible exact SimOk.pure trivial
  | with_reducible exact SimOk.stuck _
  | with_reducible exact SimOk.unsupported _
  | with_reducible exact SimOk.gPanic _
  | with_reducible exact SimOk.runtimePanic _
  | with_reducible exact SimOk.boundsPanic _ _ _ _
  | with_reducible exact SimOk.load _ _
  | with_reducible exact SimOk.store _ _ _
  | with_reducible exact SimOk.newObj _
  | with_reducible exact SimOk.newVar _ _
  | with_reducible exact SimOk.newRow _ _
  | with_reducible exact SimOk.choose _
  | with_reducible exact SimOk.loadCells _ _
  | with_reducible exact SimOk.storeCells _ _ _
  | with_reducible exact SimOk.part _ _ _
  | (with_reducible apply SimOk.bind
     first
      | with_reducible exact SimOk.underlying _
      | with_reducible exact SimOk.typeInfo _
      | with_reducible exact SimOk.sizeOf _
      | with_reducible exact SimOk.zeroValue _
      | with_reducible exact SimOk.isAgg _
      | with_reducible exact SimOk.elemOf _
      | with_reducible exact SimOk.part _ _ _
      | with_reducible exact SimOk.asIntOf _
      | with_reducible exact SimOk.asInt _
      | with_reducible exact SimOk.asBool _
      | with_reducible exact SimOk.asString _
      | with_reducible exact SimOk.asAgg _
      | with_reducible exact SimOk.asAddr _
      | with_reducible exact SimOk.sureAddr _
      | with_reducible exact SimOk.load _ _
      | with_reducible exact SimOk.store _ _ _
      | with_reducible exact SimOk.newVar _ _
      | with_reducible exact SimOk.newRow _ _
      | with_reducible exact SimOk.newObj _
      | with_reducible exact SimOk.choose _
      | with_reducible exact SimOk.askRoom _
      | with_reducible exact SimOk.loadCells _ _
      | with_reducible exact SimOk.storeCells _ _ _
      | with_reducible exact SimOk.program
      | with_reducible exact (SimOk.gPanic (Φ := fun _ => True) _)
      | with_reducible exact (SimOk.runtimePanic (Φ := fun _ => True) _)
      | with_reducible exact (SimOk.stuck (Φ := fun _ => True) _)
      | with_reducible exact (SimOk.unsupported (Φ := fun _ => True) _)
      | with_reducible exact (SimOk.pure (Φ := fun _ => True) trivial)
     intro _ _)
  | dsimp only
  | split)
theorem shift (o : BinOp) (k : IntKind) (a : Int) (k' : IntKind) (b : Int) : SimOk P (fun _ => True) (Op.shift o k a k' b) := by
 unfold Op.shift
 repeat' (first
  | with_reducible exact SimOk.pure trivial
  | with_reducible exact SimOk.stuck _
  | with_reducible exact SimOk.unsupported _
  | with_reducible exact SimOk.gPanic _
  | with_reducible exact SimOk.runtimePanic _
  | with_reducible exact SimOk.boundsPanic _ _ _ _
  | with_reducible exact SimOk.load _ _
  | with_reducible exact SimOk.store _ _ _
  | with_reducible exact SimOk.newObj _
  | with_reducible exact SimOk.newVar _ _
  | with_reducible exact SimOk.newRow _ _
  | with_reducible exact SimOk.choose _
  | with_reducible exact SimOk.loadCells _ _
  | with_reducible exact SimOk.storeCells _ _ _
  | with_reducible exact SimOk.part _ _ _
  | (with_reducible apply SimOk.bind
     first
      | with_reducible exact SimOk.underlying _
      | with_reducible exact SimOk.typeInfo _
      | with_reducible exact SimOk.sizeOf _
      | with_reducible exact SimOk.zeroValue _
      | with_reducible exact SimOk.isAgg _
      | with_reducible exact SimOk.elemOf _
      | with_reducible exact SimOk.part _ _ _
      | with_reducible exact SimOk.asIntOf _
      | with_reducible exact SimOk.asInt _
      | with_reducible exact SimOk.asBool _
      | with_reducible exact SimOk.asString _
      | with_reducible exact SimOk.asAgg _
      | with_reducible exact SimOk.asAddr _
      | with_reducible exact SimOk.sureAddr _
      | with_reducible exact SimOk.load _ _
      | with_reducible exact SimOk.store _ _ _
      | with_reducible exact SimOk.newVar _ _
      | with_reducible exact SimOk.newRow _ _
      | with_reducible exact SimOk.newObj _
      | with_reducible exact SimOk.choose _
      | with_reducible exact SimOk.askRoom _
      | with_reducible exact SimOk.loadCells _ _
      | with_reducible exact SimOk.storeCells _ _ _
      | with_reducible exact SimOk.program
      | with_reducible exact (SimOk.gPanic (Φ := fun _ => True) _)
      | with_reducible exact (SimOk.runtimePanic (Φ := fun _ => True) _)
      | with_reducible exact (SimOk.stuck (Φ := fun _ => True) _)
      | with_reducible exact (SimOk.unsupported (Φ := fun _ => True) _)
      | with_reducible exact (SimOk.pure (Φ := fun _ => True) trivial)
     intro _ _)
  | dsimp only
  | split)
theorem isView {β : Type} (Ψ : β → Prop) (f : Obj → Sem β) (r : Nat) (y : β) (hy : Ψ y) (hcell : (f (.coro none)) = Pure.pure y) (hch : ∀ a b c d e g, f (.chan a b c d e g) = Pure.pure y) (hf : ∀ o, SimOk P Ψ (f o)) :
  SimOk P Ψ (Go.shape r >>= fun s => if s.isSome = true then Pure.pure y else Go.getObj r >>= f) := by
 intro S w v es hl hA
 have eb : ∀ (u : World), (Go.shape r >>= fun s => if s.isSome = true then Pure.pure y else Go.getObj r >>= f).run P u = (if (u.shape? r).isSome = true then Pure.pure y else Sem.getObj r f : Sem β).run P u := fun u => rfl
 have ec : ∀ (u : World) fs, (Go.shape r >>= fun s => if s.isSome = true then Pure.pure y else Go.getObj r >>= f).runT P u fs = (if (u.shape? r).isSome = true then Pure.pure y else Sem.getObj r f : Sem β).runT P u fs := fun u fs => rfl
 by_cases hS : S r
 ·have hv : (Go.shape r >>= fun s => if s.isSome = true then Pure.pure y else Go.getObj r >>= f).run P v = .ok y v := by
   rw [eb]
   have : v.shape? r = none := by unfold World.shape?; rw [hl.dead r hS]
   simp only [this, Option.isSome_none, Bool.false_eq_true, if_false, Sem.run, hl.dead r hS, hcell]
   rfl
  obtain ⟨o, ho, hs⟩ := hl.solid r hS
  rcases hs with ⟨c, t, rfl, _⟩ | ⟨a, b, c, d, e, g, rfl⟩
  ·refine .ok y w v [] ?_ hv hy (On.refl hl)
   rw [ec]
   have : w.shape? r = some (t, c.size) := by unfold World.shape?; rw [ho]
   simp only [this, Option.isSome_some, if_true, app_nil]
   rfl
  ·refine .ok y w v [⟨.obj r, false, true⟩] ?_ hv hy ⟨hl, Nat.le_refl _, rfl, rfl, Nat.le_refl _, rfl, fun x hx => by simp at hx; subst hx; exact ⟨fun _ => rfl, hl.lt hS⟩, fun _ _ => rfl⟩
   rw [ec]
   have : w.shape? r = none := by unfold World.shape?; rw [ho]
   simp only [this, Option.isSome_none, Bool.false_eq_true, if_false, Sem.runT, ho, hch, push_app]
   rfl
 ·have e1 : v.shape? r = w.shape? r := by unfold World.shape?; rw [hl.off r hS]
  cases hw : w.shape? r with
  | some s =>
   refine .ok y w v [] ?_ ?_ hy (On.refl hl)
   ·rw [ec, hw]; simp only [Option.isSome_some, if_true, app_nil]; rfl
   ·rw [eb, e1, hw]; rfl
  | none =>
   have a1 : (Go.shape r >>= fun s => if s.isSome = true then Pure.pure y else Go.getObj r >>= f).run P v = (Sem.getObj r f).run P v := by rw [eb, e1, hw]; rfl
   have a2 : (Go.shape r >>= fun s => if s.isSome = true then Pure.pure y else Go.getObj r >>= f).run P w = (Sem.getObj r f).run P w := by rw [eb, hw]; rfl
   have a3 : (Go.shape r >>= fun s => if s.isSome = true then Pure.pure y else Go.getObj r >>= f).runT P w es = (Sem.getObj r f).runT P w es := by rw [ec, hw]; rfl
   rw [a2] at hA
   cases ho : v.heap[r]? with
   | none => exact .dead (.stuck "getObj: no such block") v (by rw [a1]; simp only [Sem.run, ho]) trivial
   | some o =>
    have how : w.heap[r]? = some o := by rw [← hl.off _ hS]; exact ho
    have hcell : ¬ ∃ c t z, o = .cells c t z := by
     rintro ⟨c, t, z, rfl⟩
     unfold World.shape? at hw
     rw [how] at hw
     cases hw
    have r1 : ∀ u : World, u.heap[r]? = some o → (Sem.getObj r f).run P u = (f o).run P u := by
     intro u hu
     simp only [Sem.run, hu]
     cases o <;> first | rfl | exact (hcell ⟨_, _, _, rfl⟩).elim
    have r2 : (Sem.getObj r f).runT P w es = (f o).runT P w (es ++ [(⟨.obj r, false, o.isChan⟩ : Event)].toArray) := by
     simp only [Sem.runT, how, push_app]
     cases o <;> first | rfl | exact (hcell ⟨_, _, _, rfl⟩).elim
    have hon : On S w v w v [⟨.obj r, false, o.isChan⟩] := ⟨hl, Nat.le_refl _, rfl, rfl, Nat.le_refl _, rfl, fun e he => by simp at he; subst he; exact ⟨fun h => absurd h hS, (Array.getElem?_eq_some_iff.1 how).1⟩, fun _ _ => rfl⟩
    cases hf o S w v (es ++ [(⟨.obj r, false, o.isChan⟩ : Event)].toArray) hl (by rw [← r1 w how]; exact hA) with
    | dead e v' h1 h2 => exact .dead e v' (by rw [a1, r1 v ho]; exact h1) h2
    | panic y w' v' l h1 h2 h3 => exact .panic y w' v' (_ :: l) (by rw [a3, r2, h1]; simp) (by rw [a1, r1 v ho]; exact h2) (hon.trans h3)
    | ok a w' v' l h1 h2 h3 h4 => exact .ok a w' v' (_ :: l) (by rw [a3, r2, h1]; simp) (by rw [a1, r1 v ho]; exact h2) h3 (hon.trans h4)
theorem numberAt (r : Nat) : SimOk P (fun _ => True) (Go.numberAt r) := by
 unfold Go.numberAt
 refine isView (fun _ => True) _ r none trivial rfl (fun _ _ _ _ _ _ => rfl) fun o => ?_
 split <;> exact SimOk.pure trivial
theorem viewAt (r : Nat) : SimOk P (fun _ => True) (Go.viewAt r) := by
 unfold Go.viewAt
 refine isView (fun _ => True) _ r none trivial rfl (fun _ _ _ _ _ _ => rfl) fun o => ?_
 split <;> exact SimOk.pure trivial
theorem noView (a : Addr) : SimOk P (fun _ => True) (Go.noView a) := by
 unfold Go.noView
 refine SimOk.bind (viewAt _) fun o _ => ?_
 split
 ·exact SimOk.unsupported _
 ·exact SimOk.pure trivial
theorem behindNumber (a : Addr) : SimOk P (fun _ => True) (Go.behindNumber a) := by
 unfold Go.behindNumber
 exact SimOk.bind (numberAt _) fun _ _ => SimOk.pure trivial
theorem asNumber (a : Addr) (b : Bool) : SimOk P (fun _ => True) (Go.asNumber a b) := by
 unfold Go.asNumber
 exact SimOk.bind (SimOk.newObj _) fun _ _ => SimOk.pure trivial
theorem byteOf (a : Addr) : SimOk P (fun _ => True) (Go.byteOf a) := by
 unfold Go.byteOf
 split
 ·exact SimOk.pure trivial
 ·refine SimOk.bind SimOk.program fun p _ => SimOk.bind (noView a) fun _ _ => SimOk.shape (by trivial) fun s => ?_
  repeat' (first
  | with_reducible exact SimOk.pure trivial
  | with_reducible exact SimOk.stuck _
  | with_reducible exact SimOk.unsupported _
  | with_reducible exact SimOk.gPanic _
  | with_reducible exact SimOk.runtimePanic _
  | with_reducible exact SimOk.boundsPanic _ _ _ _
  | with_reducible exact SimOk.load _ _
  | with_reducible exact SimOk.store _ _ _
  | with_reducible exact SimOk.newObj _
  | with_reducible exact SimOk.newVar _ _
  | with_reducible exact SimOk.newRow _ _
  | with_reducible exact SimOk.choose _
  | with_reducible exact SimOk.loadCells _ _
  | with_reducible exact SimOk.storeCells _ _ _
  | with_reducible exact SimOk.part _ _ _
  | (with_reducible apply SimOk.bind
     first
      | with_reducible exact SimOk.underlying _
      | with_reducible exact SimOk.typeInfo _
      | with_reducible exact SimOk.sizeOf _
      | with_reducible exact SimOk.zeroValue _
      | with_reducible exact SimOk.isAgg _
      | with_reducible exact SimOk.elemOf _
      | with_reducible exact SimOk.part _ _ _
      | with_reducible exact SimOk.asIntOf _
      | with_reducible exact SimOk.asInt _
      | with_reducible exact SimOk.asBool _
      | with_reducible exact SimOk.asString _
      | with_reducible exact SimOk.asAgg _
      | with_reducible exact SimOk.asAddr _
      | with_reducible exact SimOk.sureAddr _
      | with_reducible exact SimOk.load _ _
      | with_reducible exact SimOk.store _ _ _
      | with_reducible exact SimOk.newVar _ _
      | with_reducible exact SimOk.newRow _ _
      | with_reducible exact SimOk.newObj _
      | with_reducible exact SimOk.choose _
      | with_reducible exact SimOk.askRoom _
      | with_reducible exact SimOk.loadCells _ _
      | with_reducible exact SimOk.storeCells _ _ _
      | with_reducible exact SimOk.program
      | with_reducible exact (SimOk.gPanic (Φ := fun _ => True) _)
      | with_reducible exact (SimOk.runtimePanic (Φ := fun _ => True) _)
      | with_reducible exact (SimOk.stuck (Φ := fun _ => True) _)
      | with_reducible exact (SimOk.unsupported (Φ := fun _ => True) _)
      | with_reducible exact (SimOk.pure (Φ := fun _ => True) trivial)
     intro _ _)
  | dsimp only
  | split)
theorem twoPlaces (a b : Addr) : SimOk P (fun _ => True) (Op.twoPlaces a b) := by
 unfold Op.twoPlaces
 repeat' (first
  | with_reducible exact SimOk.pure trivial
  | with_reducible exact SimOk.stuck _
  | with_reducible exact SimOk.unsupported _
  | with_reducible exact SimOk.gPanic _
  | with_reducible exact SimOk.runtimePanic _
  | with_reducible exact SimOk.boundsPanic _ _ _ _
  | with_reducible exact SimOk.load _ _
  | with_reducible exact SimOk.store _ _ _
  | with_reducible exact SimOk.newObj _
  | with_reducible exact SimOk.newVar _ _
  | with_reducible exact SimOk.newRow _ _
  | with_reducible exact SimOk.choose _
  | with_reducible exact SimOk.loadCells _ _
  | with_reducible exact SimOk.storeCells _ _ _
  | with_reducible exact SimOk.part _ _ _
  | (with_reducible apply SimOk.bind
     first
      | with_reducible exact SimOk.underlying _
      | with_reducible exact SimOk.typeInfo _
      | with_reducible exact SimOk.sizeOf _
      | with_reducible exact SimOk.zeroValue _
      | with_reducible exact SimOk.isAgg _
      | with_reducible exact SimOk.elemOf _
      | with_reducible exact SimOk.part _ _ _
      | with_reducible exact SimOk.asIntOf _
      | with_reducible exact SimOk.asInt _
      | with_reducible exact SimOk.asBool _
      | with_reducible exact SimOk.asString _
      | with_reducible exact SimOk.asAgg _
      | with_reducible exact SimOk.asAddr _
      | with_reducible exact SimOk.sureAddr _
      | with_reducible exact SimOk.load _ _
      | with_reducible exact SimOk.store _ _ _
      | with_reducible exact SimOk.newVar _ _
      | with_reducible exact SimOk.newRow _ _
      | with_reducible exact SimOk.newObj _
      | with_reducible exact SimOk.choose _
      | with_reducible exact SimOk.askRoom _
      | with_reducible exact SimOk.loadCells _ _
      | with_reducible exact SimOk.storeCells _ _ _
      | with_reducible exact SimOk.byteOf _
      | with_reducible exact SimOk.program
      | with_reducible exact (SimOk.gPanic (Φ := fun _ => True) _)
      | with_reducible exact (SimOk.runtimePanic (Φ := fun _ => True) _)
      | with_reducible exact (SimOk.stuck (Φ := fun _ => True) _)
      | with_reducible exact (SimOk.unsupported (Φ := fun _ => True) _)
      | with_reducible exact (SimOk.pure (Φ := fun _ => True) trivial)
     intro _ _)
  | dsimp only
  | split)
theorem addrs (o : BinOp) (k : IntKind) (a b : Addr) (n : Int) : SimOk P (fun _ => True) (Op.addrSub k a b) ∧ SimOk P (fun _ => True) (Op.addrCmp o a b) ∧ SimOk P (fun _ => True) (Op.addrMod k a n) := by
 refine ⟨?_, ?_, ?_⟩
 ·unfold Op.addrSub; repeat' (first
  | with_reducible exact SimOk.pure trivial
  | with_reducible exact SimOk.stuck _
  | with_reducible exact SimOk.unsupported _
  | with_reducible exact SimOk.gPanic _
  | with_reducible exact SimOk.runtimePanic _
  | with_reducible exact SimOk.boundsPanic _ _ _ _
  | with_reducible exact SimOk.load _ _
  | with_reducible exact SimOk.store _ _ _
  | with_reducible exact SimOk.newObj _
  | with_reducible exact SimOk.newVar _ _
  | with_reducible exact SimOk.newRow _ _
  | with_reducible exact SimOk.choose _
  | with_reducible exact SimOk.loadCells _ _
  | with_reducible exact SimOk.storeCells _ _ _
  | with_reducible exact SimOk.part _ _ _
  | (with_reducible apply SimOk.bind
     first
      | with_reducible exact SimOk.underlying _
      | with_reducible exact SimOk.typeInfo _
      | with_reducible exact SimOk.sizeOf _
      | with_reducible exact SimOk.zeroValue _
      | with_reducible exact SimOk.isAgg _
      | with_reducible exact SimOk.elemOf _
      | with_reducible exact SimOk.part _ _ _
      | with_reducible exact SimOk.asIntOf _
      | with_reducible exact SimOk.asInt _
      | with_reducible exact SimOk.asBool _
      | with_reducible exact SimOk.asString _
      | with_reducible exact SimOk.asAgg _
      | with_reducible exact SimOk.asAddr _
      | with_reducible exact SimOk.sureAddr _
      | with_reducible exact SimOk.load _ _
      | with_reducible exact SimOk.store _ _ _
      | with_reducible exact SimOk.newVar _ _
      | with_reducible exact SimOk.newRow _ _
      | with_reducible exact SimOk.newObj _
      | with_reducible exact SimOk.choose _
      | with_reducible exact SimOk.askRoom _
      | with_reducible exact SimOk.loadCells _ _
      | with_reducible exact SimOk.storeCells _ _ _
      | with_reducible exact SimOk.twoPlaces _ _
      | with_reducible exact SimOk.program
      | with_reducible exact (SimOk.gPanic (Φ := fun _ => True) _)
      | with_reducible exact (SimOk.runtimePanic (Φ := fun _ => True) _)
      | with_reducible exact (SimOk.stuck (Φ := fun _ => True) _)
      | with_reducible exact (SimOk.unsupported (Φ := fun _ => True) _)
      | with_reducible exact (SimOk.pure (Φ := fun _ => True) trivial)
     intro _ _)
  | dsimp only
  | split)
 ·unfold Op.addrCmp; repeat' (first
  | with_reducible exact SimOk.pure trivial
  | with_reducible exact SimOk.stuck _
  | with_reducible exact SimOk.unsupported _
  | with_reducible exact SimOk.gPanic _
  | with_reducible exact SimOk.runtimePanic _
  | with_reducible exact SimOk.boundsPanic _ _ _ _
  | with_reducible exact SimOk.load _ _
  | with_reducible exact SimOk.store _ _ _
  | with_reducible exact SimOk.newObj _
  | with_reducible exact SimOk.newVar _ _
  | with_reducible exact SimOk.newRow _ _
  | with_reducible exact SimOk.choose _
  | with_reducible exact SimOk.loadCells _ _
  | with_reducible exact SimOk.storeCells _ _ _
  | with_reducible exact SimOk.part _ _ _
  | (with_reducible apply SimOk.bind
     first
      | with_reducible exact SimOk.underlying _
      | with_reducible exact SimOk.typeInfo _
      | with_reducible exact SimOk.sizeOf _
      | with_reducible exact SimOk.zeroValue _
      | with_reducible exact SimOk.isAgg _
      | with_reducible exact SimOk.elemOf _
      | with_reducible exact SimOk.part _ _ _
      | with_reducible exact SimOk.asIntOf _
      | with_reducible exact SimOk.asInt _
      | with_reducible exact SimOk.asBool _
      | with_reducible exact SimOk.asString _
      | with_reducible exact SimOk.asAgg _
      | with_reducible exact SimOk.asAddr _
      | with_reducible exact SimOk.sureAddr _
      | with_reducible exact SimOk.load _ _
      | with_reducible exact SimOk.store _ _ _
      | with_reducible exact SimOk.newVar _ _
      | with_reducible exact SimOk.newRow _ _
      | with_reducible exact SimOk.newObj _
      | with_reducible exact SimOk.choose _
      | with_reducible exact SimOk.askRoom _
      | with_reducible exact SimOk.loadCells _ _
      | with_reducible exact SimOk.storeCells _ _ _
      | with_reducible exact SimOk.twoPlaces _ _
      | with_reducible exact SimOk.program
      | with_reducible exact (SimOk.gPanic (Φ := fun _ => True) _)
      | with_reducible exact (SimOk.runtimePanic (Φ := fun _ => True) _)
      | with_reducible exact (SimOk.stuck (Φ := fun _ => True) _)
      | with_reducible exact (SimOk.unsupported (Φ := fun _ => True) _)
      | with_reducible exact (SimOk.pure (Φ := fun _ => True) trivial)
     intro _ _)
  | dsimp only
  | split)
 ·unfold Op.addrMod
  refine SimOk.shape (by trivial) fun s => ?_
  repeat' (first
  | with_reducible exact SimOk.pure trivial
  | with_reducible exact SimOk.stuck _
  | with_reducible exact SimOk.unsupported _
  | with_reducible exact SimOk.gPanic _
  | with_reducible exact SimOk.runtimePanic _
  | with_reducible exact SimOk.boundsPanic _ _ _ _
  | with_reducible exact SimOk.load _ _
  | with_reducible exact SimOk.store _ _ _
  | with_reducible exact SimOk.newObj _
  | with_reducible exact SimOk.newVar _ _
  | with_reducible exact SimOk.newRow _ _
  | with_reducible exact SimOk.choose _
  | with_reducible exact SimOk.loadCells _ _
  | with_reducible exact SimOk.storeCells _ _ _
  | with_reducible exact SimOk.part _ _ _
  | (with_reducible apply SimOk.bind
     first
      | with_reducible exact SimOk.underlying _
      | with_reducible exact SimOk.typeInfo _
      | with_reducible exact SimOk.sizeOf _
      | with_reducible exact SimOk.zeroValue _
      | with_reducible exact SimOk.isAgg _
      | with_reducible exact SimOk.elemOf _
      | with_reducible exact SimOk.part _ _ _
      | with_reducible exact SimOk.asIntOf _
      | with_reducible exact SimOk.asInt _
      | with_reducible exact SimOk.asBool _
      | with_reducible exact SimOk.asString _
      | with_reducible exact SimOk.asAgg _
      | with_reducible exact SimOk.asAddr _
      | with_reducible exact SimOk.sureAddr _
      | with_reducible exact SimOk.load _ _
      | with_reducible exact SimOk.store _ _ _
      | with_reducible exact SimOk.newVar _ _
      | with_reducible exact SimOk.newRow _ _
      | with_reducible exact SimOk.newObj _
      | with_reducible exact SimOk.choose _
      | with_reducible exact SimOk.askRoom _
      | with_reducible exact SimOk.loadCells _ _
      | with_reducible exact SimOk.storeCells _ _ _
      | with_reducible exact SimOk.byteOf _
      | with_reducible exact SimOk.program
      | with_reducible exact (SimOk.gPanic (Φ := fun _ => True) _)
      | with_reducible exact (SimOk.runtimePanic (Φ := fun _ => True) _)
      | with_reducible exact (SimOk.stuck (Φ := fun _ => True) _)
      | with_reducible exact (SimOk.unsupported (Φ := fun _ => True) _)
      | with_reducible exact (SimOk.pure (Φ := fun _ => True) trivial)
     intro _ _)
  | dsimp only
  | split)
theorem unsafeAdd (ts : Array TypeId) (t : TypeId) (as : Array Value) : SimOk P (fun _ => True) (Builtin.unsafeAdd_ ts t as) := by
 unfold Builtin.unsafeAdd_
 obtain ⟨l⟩ := as
 rcases l with _ | ⟨x, _ | ⟨y, _ | ⟨z, r⟩⟩⟩
 ·exact SimOk.stuck _
 ·cases x <;> exact SimOk.stuck _
 rotate_left
 ·cases x <;> exact SimOk.stuck _
 cases x <;> first | exact SimOk.stuck _ | skip
 refine SimOk.bind (asInt y) fun n _ => ?_
 repeat' (first
  | with_reducible exact SimOk.pure trivial
  | with_reducible exact SimOk.stuck _
  | with_reducible exact SimOk.unsupported _
  | (with_reducible apply SimOk.bind
     first
      | with_reducible exact SimOk.asInt _
      | with_reducible exact SimOk.viewAt _
      | with_reducible exact SimOk.program
      | with_reducible exact (SimOk.unsupported (Φ := fun _ => True) _)
     intro _ _)
  | refine SimOk.shape (by trivial) fun _ => ?_
  | dsimp only
  | split)
theorem moved (t : TypeId) (x y : Value) : SimOk P (fun _ => True) (Go.movedNumber t x y) ∧ SimOk P (fun _ => True) (Go.movedPointer t x y) := by
 refine ⟨?_, ?_⟩
 ·unfold Go.movedNumber
  repeat' (first
   | with_reducible exact SimOk.unsafeAdd _ _ _
   | with_reducible exact SimOk.asNumber _ _
   | with_reducible exact SimOk.pure trivial
   | with_reducible exact SimOk.unsupported _
   | (with_reducible apply SimOk.bind
      first
       | with_reducible exact SimOk.underlying _
       | with_reducible exact SimOk.behindNumber _
       | with_reducible exact SimOk.unsafeAdd _ _ _
       | with_reducible exact (SimOk.unsupported (Φ := fun _ => True) _)
      intro _ _)
   | dsimp only
   | split)
 ·unfold Go.movedPointer
  repeat' (first
   | with_reducible exact SimOk.unsafeAdd _ _ _
   | with_reducible exact SimOk.unsupported _
   | (with_reducible apply SimOk.bind
      first
       | with_reducible exact SimOk.numberAt _
       | with_reducible exact (SimOk.unsupported (Φ := fun _ => True) _)
      intro _ _)
   | dsimp only
   | split)
def plainT (P : Program) (t : TypeId) : Bool := match P.underlying t with
 | some .bool | some (.int _) | some .string => true
 | _ => false
theorem equalIn_plain (d : Nat) (t : TypeId) (x y : Value) (ht : plainT P t = true) : SimOk P (fun _ => True) (Op.equalIn (d + 1) t x y) := by
 unfold Op.equalIn
 refine SimOk.bind (underlying t) fun d hd => ?_
 simp only [plainT, hd] at ht
 split at ht
 iterate 3
  ·rename_i h
   cases h
   repeat' (first
   | with_reducible exact SimOk.pure trivial
   | with_reducible exact SimOk.stuck _
   | with_reducible exact SimOk.unsupported _
   | with_reducible exact SimOk.gPanic _
   | with_reducible exact SimOk.runtimePanic _
   | with_reducible exact SimOk.boundsPanic _ _ _ _
   | with_reducible exact SimOk.load _ _
   | with_reducible exact SimOk.store _ _ _
   | with_reducible exact SimOk.newObj _
   | with_reducible exact SimOk.newVar _ _
   | with_reducible exact SimOk.newRow _ _
   | with_reducible exact SimOk.choose _
   | with_reducible exact SimOk.loadCells _ _
   | with_reducible exact SimOk.storeCells _ _ _
   | with_reducible exact SimOk.part _ _ _
   | (with_reducible apply SimOk.bind
      first
       | with_reducible exact SimOk.underlying _
       | with_reducible exact SimOk.typeInfo _
       | with_reducible exact SimOk.sizeOf _
       | with_reducible exact SimOk.zeroValue _
       | with_reducible exact SimOk.isAgg _
       | with_reducible exact SimOk.elemOf _
       | with_reducible exact SimOk.part _ _ _
       | with_reducible exact SimOk.asIntOf _
       | with_reducible exact SimOk.asInt _
       | with_reducible exact SimOk.asBool _
       | with_reducible exact SimOk.asString _
       | with_reducible exact SimOk.asAgg _
       | with_reducible exact SimOk.asAddr _
       | with_reducible exact SimOk.sureAddr _
       | with_reducible exact SimOk.load _ _
       | with_reducible exact SimOk.store _ _ _
       | with_reducible exact SimOk.newVar _ _
       | with_reducible exact SimOk.newRow _ _
       | with_reducible exact SimOk.newObj _
       | with_reducible exact SimOk.choose _
       | with_reducible exact SimOk.askRoom _
       | with_reducible exact SimOk.loadCells _ _
       | with_reducible exact SimOk.storeCells _ _ _
       | with_reducible exact SimOk.behindNumber _
       | with_reducible exact SimOk.byteOf _
       | with_reducible exact SimOk.program
       | with_reducible exact (SimOk.gPanic (Φ := fun _ => True) _)
       | with_reducible exact (SimOk.runtimePanic (Φ := fun _ => True) _)
       | with_reducible exact (SimOk.stuck (Φ := fun _ => True) _)
       | with_reducible exact (SimOk.unsupported (Φ := fun _ => True) _)
       | with_reducible exact (SimOk.pure (Φ := fun _ => True) trivial)
      intro _ _)
   | dsimp only
   | (split <;> try contradiction))
 ·cases ht
theorem equal (t : TypeId) (x y : Value) (ht : plainT P t = true) : SimOk P (fun _ => True) (Op.equal t x y) := by
 unfold Op.equal Op.maxDepth
 exact equalIn_plain 9999 t x y ht
theorem forIn_mem {β γ : Type} {f : β → γ → Sem (ForInStep γ)} : ∀ (l : List β) (_ : ∀ b ∈ l, ∀ c, SimOk P (fun _ => True) (f b c)) (c : γ), SimOk P (fun _ => True) (forIn l c f) := by
 intro l
 induction l with
 | nil => intro _ c; simp only [List.forIn_nil]; exact SimOk.pure trivial
 | cons x l ih =>
  intro hf c
  simp only [List.forIn_cons]
  refine SimOk.bind (hf x (by simp) c) fun s _ => ?_
  split
  ·exact SimOk.pure trivial
  ·exact ih (fun b hb => hf b (by simp [hb])) _
def flatS (P : Program) (t : TypeId) : Bool := match P.underlying t with
 | some (.struct fs) => fs.all fun f => plainT P f.type
 | _ => false
theorem flatS_of {t : TypeId} (h : flatS P t = true) : ∃ fs, P.underlying t = some (.struct fs) ∧ ∀ f ∈ fs.toList, plainT P f.type = true := by
 unfold flatS at h
 split at h
 ·rename_i fs hd
  exact ⟨fs, hd, fun f hf => Array.all_eq_true_iff_forall_mem.1 h f (Array.mem_toList_iff.1 hf)⟩
 ·cases h
set_option maxHeartbeats 2000000 in
theorem equal_flat (t : TypeId) (x y : Value) (ht : flatS P t = true) : SimOk P (fun _ => True) (Op.equal t x y) := by
 obtain ⟨fs, hd, hf⟩ := flatS_of ht
 unfold Op.equal Op.maxDepth
 unfold Op.equalIn
 refine SimOk.bind (underlying t) fun d hd' => ?_
 rw [hd] at hd'
 obtain rfl := Option.some.inj hd'
 split <;> first
  | contradiction
  | exact SimOk.stuck _
  | skip
 rename_i h1
 simp only [TypeDesc.struct.injEq] at h1
 subst h1
 refine SimOk.bind SimOk.program fun p _ => ?_
 split
 ·exact SimOk.unsupported _
 refine SimOk.bind (Φ := fun _ => True) ?_ fun r _ => ?_
 ·rw [← Array.forIn_toList]
  refine forIn_mem _ (fun f hm c => ?_) _
  have hp := hf f hm
  split
  ·refine SimOk.bind (SimOk.part _ _ _) fun a _ => ?_
   refine SimOk.bind (SimOk.part _ _ _) fun b _ => ?_
   refine SimOk.bind (equalIn_plain _ _ _ _ hp) fun e _ => ?_
   split <;> exact SimOk.pure trivial
  ·exact SimOk.pure trivial
 ·dsimp only
  split <;> exact SimOk.pure trivial
set_option maxHeartbeats 2000000 in
theorem equal_nil (t : TypeId) (x y : Value) (hy : y = .pointer none ∨ y = .chan none ∨ y = .slice none 0 0 ∨ y = .nilFunc)
  (ht : ∀ d, P.underlying t = some d → (∃ e, d = .pointer e) ∨ (∃ e f, d = .chan e f) ∨ (∃ e, d = .slice e) ∨ ∃ a b c, d = .func a b c) : SimOk P (fun _ => True) (Op.equal t x y) := by
 unfold Op.equal Op.maxDepth
 unfold Op.equalIn
 refine SimOk.bind (underlying t) fun d hd => ?_
 rcases ht d hd with ⟨e, rfl⟩ | ⟨e, f, rfl⟩ | ⟨e, rfl⟩ | ⟨a, b, c, rfl⟩ <;> rcases hy with rfl | rfl | rfl | rfl <;> cases x <;> first
  | exact SimOk.stuck _
  | exact SimOk.pure trivial
  | (split <;> first | exact SimOk.stuck _ | exact SimOk.pure trivial | contradiction | (exfalso; rename_i h1 h2 h3; first | (cases h3; done) | (cases h2; done) | (cases h1; done)))
theorem eqGuard (o : BinOp) (t : TypeId) (x y : Operand) (a b : Value) (ht : plainT P t = true ∨ (b = .pointer none ∨ b = .chan none ∨ b = .slice none 0 0 ∨ b = .nilFunc)) (hI : ∀ ms, P.underlying t ≠ some (.interface ms)) (hS : ∀ fs, P.underlying t ≠ some (.struct fs)) (hA : ∀ n e, P.underlying t ≠ some (.array n e)) : SimOk P (fun _ => True) (Go.eqGuard o t x y a b) := by
 have hg : ∀ d a b, SimOk P (fun _ => True) (Op.eqGuardIn (d + 1) t a b) := by
  intro d a b
  unfold Op.eqGuardIn
  refine SimOk.bind (underlying t) fun d hd => ?_
  split
  ·rename_i h _ _; exact absurd hd (hI _)
  ·exact absurd hd (hS _)
  ·exact absurd hd (hA _ _)
  ·exact SimOk.pure trivial
 unfold Go.eqGuard Op.maxDepth
 repeat' (first
  | with_reducible exact SimOk.pure trivial
  | with_reducible exact SimOk.unsupported _
  | (with_reducible apply SimOk.bind
     first
      | exact hg _ _ _
      | with_reducible exact SimOk.program
     intro _ _)
  | dsimp only
  | split)
theorem eqGuardIn_plain (d : Nat) (t : TypeId) (a b : Value) (ht : plainT P t = true) : SimOk P (fun _ => True) (Op.eqGuardIn (d + 1) t a b) := by
 unfold Op.eqGuardIn
 refine SimOk.bind (underlying t) fun e he => ?_
 simp only [plainT, he] at ht
 split <;> first
  | exact SimOk.pure trivial
  | (simp at ht; done)
theorem eqGuard_flat (o : BinOp) (t : TypeId) (x y : Operand) (a b : Value) (ht : flatS P t = true) : SimOk P (fun _ => True) (Go.eqGuard o t x y a b) := by
 obtain ⟨fs, hd, hf⟩ := flatS_of ht
 have hg : SimOk P (fun _ => True) (Op.eqGuardIn 10000 t a b) := by
  unfold Op.eqGuardIn
  refine SimOk.bind (underlying t) fun d hd' => ?_
  rw [hd] at hd'
  obtain rfl := Option.some.inj hd'
  split
  ·rename_i h; cases h
  ·rename_i h1
   cases h1
   refine SimOk.bind (Φ := fun _ => True) ?_ fun r _ => ?_
   ·rw [← Array.forIn_toList]
    refine forIn_mem _ (fun f hm c => ?_) _
    have hp := hf f hm
    split
    ·refine SimOk.bind (SimOk.part _ _ _) fun a _ => ?_
     refine SimOk.bind (SimOk.part _ _ _) fun b _ => ?_
     refine SimOk.bind (eqGuardIn_plain _ _ _ _ hp) fun e _ => ?_
     split <;> exact SimOk.pure trivial
    ·exact SimOk.pure trivial
   ·dsimp only
    split <;> exact SimOk.pure trivial
  ·rename_i h; cases h
  ·exact SimOk.pure trivial
 unfold Go.eqGuard Op.maxDepth
 repeat' (first
  | with_reducible exact SimOk.pure trivial
  | with_reducible exact SimOk.unsupported _
  | (with_reducible apply SimOk.bind
     first
      | exact hg
      | exact (SimOk.pure (Φ := fun _ => True) trivial)
      | with_reducible exact SimOk.program
     intro _ _)
  | dsimp only
  | split)
def okBin (P : Program) (o : BinOp) (t : TypeId) (y : Operand) : Bool :=
 plainT P t || flatS P t || ((match P.underlying t with
  | some (.pointer _) | some (.chan ..) | some (.slice _) | some (.func ..) => true
  | _ => false) && (match o with | .eql | .neq => true | _ => false) && (match y with
  | .const (.pointer none) | .const (.chan none) | .const (.slice none 0 0) | .const .nilFunc => true
  | _ => false))
theorem binOp_of (o : BinOp) (t : TypeId) (x y : Value) (he : SimOk P (fun _ => True) (Op.equal t x y)) : SimOk P (fun _ => True) (Go.binOp o t x y) := by
 unfold Go.binOp
 split
 ·exact shift _ _ _ _ _
 ·exact shift _ _ _ _ _
 ·rename_i k a k' b _ _
  split
  ·exact SimOk.stuck _
  ·have h := intOps (P := P) o k a b
   split <;> first | exact h.1 | exact h.2.1 | exact h.2.2.1 | exact h.2.2.2
 ·split
  ·exact SimOk.stuck _
  ·split <;> first | exact floatArith _ _ _ _ | exact floatCmp _ _ _ _
 ·split
  ·exact SimOk.stuck _
  ·exact complexOp _ _ _ _ _ _
 ·exact stringOp _ _ _
 iterate 2
  ·exact SimOk.bind he fun _ _ => SimOk.pure trivial
 ·refine SimOk.bind (underlying _) fun _ _ => ?_
  have h := moved (P := P) t
  split
  ·exact (h _ _).2
  ·exact (h _ _).1
 ·exact (moved _ _ _).1
 ·exact (moved _ _ _).1
 ·exact SimOk.bind (behindNumber _) fun _ _ => SimOk.bind (behindNumber _) fun _ _ => (addrs .add _ _ _ 0).1
 iterate 4
  ·exact SimOk.bind (behindNumber _) fun _ _ => SimOk.bind (behindNumber _) fun _ _ => (addrs _ .i64 _ _ 0).2.1
 iterate 3
  ·exact SimOk.bind (behindNumber _) fun _ _ => (addrs .add _ _ default _).2.2
 ·exact SimOk.unsupported _
 ·exact SimOk.unsupported _
 ·exact SimOk.stuck _
theorem binary (fr : Frame) (o : BinOp) (t : TypeId) (x y : Operand) (h : okBin P o t y = true) : SimOk P (fun _ => True) (do Go.eqGuard o t x y (fr.eval x) (fr.eval y); Go.binOp o t (fr.eval x) (fr.eval y)) := by
 unfold okBin at h
 rw [Bool.or_eq_true, Bool.or_eq_true] at h
 rcases h with (h | h) | h
 ·have h' := h
  unfold plainT at h'
  refine SimOk.bind (eqGuard o t x y _ _ (.inl h) ?_ ?_ ?_) fun _ _ => binOp_of _ _ _ _ (equal _ _ _ h)
  ·intro ms e; simp [e] at h'
  ·intro ms e; simp [e] at h'
  ·intro n e e'; simp [e'] at h'
 ·exact SimOk.bind (eqGuard_flat o t x y _ _ h) fun _ _ => binOp_of _ _ _ _ (equal_flat _ _ _ h)
 ·simp only [Bool.and_eq_true] at h
  obtain ⟨⟨h1, h2⟩, h3⟩ := h
  have hy : fr.eval y = .pointer none ∨ fr.eval y = .chan none ∨ fr.eval y = .slice none 0 0 ∨ fr.eval y = .nilFunc := by
   split at h3
   ·exact .inl rfl
   ·exact .inr (.inl rfl)
   ·exact .inr (.inr (.inl rfl))
   ·exact .inr (.inr (.inr rfl))
   ·cases h3
  refine SimOk.bind (eqGuard o t x y _ _ (.inr hy) ?_ ?_ ?_) fun _ _ => binOp_of _ _ _ _ (equal_nil _ _ _ hy fun d hd => ?_)
  ·intro ms e; simp [e] at h1
  ·intro ms e; simp [e] at h1
  ·intro n e e'; simp [e'] at h1
  ·rw [hd] at h1
   cases d <;> simp at h1 ⊢
end
end SimOk
end Go.Proofs.Ytilpedopnkhppaa.Br

