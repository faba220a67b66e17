/- A lone walk, carried into company, sixth part: each operation goes alike in two worlds that part in dead blocks and in the tape. Conditions: each theorem's own. -/
import Derived.Test.YtilpedopnkhppaaMfG1
set_option linter.unusedVariables false
set_option linter.unusedSimpArgs false
namespace Go.Proofs.Ytilpedopnkhppaa.Br
open Go.Conc
namespace SimOk
section
variable {P : Program} {α : Type} {Φ : α → Prop}
theorem gPanic (y : Value) : SimOk P Φ (Go.goPanic y) := halt_panic y
theorem typeInfo (t : TypeId) : SimOk P (fun i => P.info? t = some i) (Go.typeInfo t) := by
 unfold Go.typeInfo
 refine SimOk.bind SimOk.program (fun p hp => ?_)
 subst hp
 split
 ·rename_i h; exact SimOk.pure h
 ·exact SimOk.stuck _
theorem underlying (t : TypeId) : SimOk P (fun d => P.underlying t = some d) (Go.underlying t) := by
 unfold Go.underlying
 refine SimOk.bind SimOk.program (fun p hp => ?_)
 subst hp
 split
 ·rename_i h; exact SimOk.pure h
 ·exact SimOk.stuck _
theorem sizeOf (t : TypeId) : SimOk P (fun n => ∃ i, P.info? t = some i ∧ n = i.size) (Go.sizeOf t) := by
 unfold Go.sizeOf
 exact SimOk.bind (SimOk.typeInfo t) (fun i hi => SimOk.pure ⟨i, hi, rfl⟩)
theorem zeroValue (t : TypeId) : SimOk P (fun _ => True) (Go.zeroValue t) := by
 unfold Go.zeroValue
 refine SimOk.bind (SimOk.typeInfo t) (fun i hi => ?_)
 split
 ·exact SimOk.pure trivial
 ·exact SimOk.unsupported _
theorem isAgg (t : TypeId) : SimOk P (fun _ => True) (Go.isAgg t) := by
 unfold Go.isAgg
 refine SimOk.bind (SimOk.underlying t) (fun i hi => ?_)
 split <;> exact SimOk.pure trivial
theorem elemOf (t : TypeId) : SimOk P (fun _ => True) (Go.elemOf t) := by
 unfold Go.elemOf
 refine SimOk.bind (SimOk.underlying t) (fun i hi => ?_)
 split
 ·exact SimOk.pure trivial
 ·exact SimOk.stuck _
theorem newRow (t : TypeId) (c : Array Value) : SimOk P (fun _ => True) (Go.newRow t c) := by
 unfold Go.newRow
 exact SimOk.bind (SimOk.newObj _) (fun _ _ => SimOk.pure trivial)
theorem newVar (t : TypeId) (v : Value) : SimOk P (fun _ => True) (Go.newVar t v) := newRow t _
theorem runtimePanic (e : RuntimeError) : SimOk P Φ (Go.runtimePanic e) := by
 unfold Go.runtimePanic
 refine SimOk.bind SimOk.program (fun p hp => ?_)
 dsimp only
 split
 iterate 4
  ·exact gPanic _
 iterate 2
  ·exact SimOk.bind (elemOf _) fun _ _ => SimOk.bind (newVar _ _) fun _ _ => gPanic _
 ·exact gPanic _
theorem boundsPanic (k : IntKind) (x y : Int) (c : BoundsCode) : SimOk P Φ (Go.boundsPanic k x y c) := by
 unfold Go.boundsPanic
 dsimp only
 split
 ·exact SimOk.bind (Φ := fun _ => True) (SimOk.bind (Φ := fun _ => True) (SimOk.choose _) fun _ _ => SimOk.pure trivial) fun _ _ => runtimePanic _
 ·exact SimOk.bind (Φ := fun _ => True) (SimOk.pure trivial) fun _ _ => runtimePanic _
theorem asIntOf (v : Value) : SimOk P (fun _ => True) (Go.asIntOf v) := by
 unfold Go.asIntOf
 split
 ·exact SimOk.pure trivial
 ·exact SimOk.unsupported _
 ·exact SimOk.stuck _
theorem asInt (v : Value) : SimOk P (fun _ => True) (Go.asInt v) := SimOk.bind (asIntOf v) fun _ _ => SimOk.pure trivial
theorem asBool (v : Value) : SimOk P (fun _ => True) (Go.asBool v) := by
 unfold Go.asBool
 split
 ·exact SimOk.pure trivial
 ·exact SimOk.stuck _
theorem asString (v : Value) : SimOk P (fun _ => True) (Go.asString v) := by
 unfold Go.asString
 split
 ·exact SimOk.pure trivial
 ·exact SimOk.stuck _
theorem asAgg (v : Value) : SimOk P (fun _ => True) (Go.asAgg v) := by
 unfold Go.asAgg
 split
 ·exact SimOk.pure trivial
 ·exact SimOk.stuck _
theorem asAddr (v : Value) : SimOk P (fun _ => True) (Go.asAddr v) := by
 unfold Go.asAddr
 split
 ·exact SimOk.pure trivial
 ·exact runtimePanic _
 ·exact SimOk.stuck _
theorem sureAddr (v : Value) : SimOk P (fun _ => True) (Instr.sureAddr v) := by
 unfold Instr.sureAddr
 split
 ·exact SimOk.pure trivial
 ·exact SimOk.stuck _
theorem askRoom (n : Nat) : SimOk P (fun _ => True) (Go.askRoom n) := by
 unfold Go.askRoom
 split
 ·exact SimOk.noRoom
 ·exact SimOk.pure trivial
theorem part (t : TypeId) (cs : Array Value) (off : Nat) : SimOk P (fun _ => True) (Go.part t cs off) := by
 unfold Go.part
 refine SimOk.bind (isAgg t) fun b _ => ?_
 split
 ·exact SimOk.bind (sizeOf t) fun _ _ => SimOk.pure trivial
 ·split
  ·exact SimOk.pure trivial
  ·exact SimOk.stuck _
theorem loadCellsFrom (a : Addr) : ∀ (n i : Nat) (acc : Array Value), SimOk P (fun _ => True) (Go.loadCellsFrom a i n acc) := by
 intro n
 induction n with
 | zero => intro i acc; exact SimOk.pure trivial
 | succ n ih => intro i acc; exact SimOk.bind (SimOk.load _ _) fun v _ => ih _ _
theorem loadCells (a : Addr) (n : Nat) : SimOk P (fun _ => True) (Go.loadCells a n) := loadCellsFrom a n 0 #[]
theorem storeCells (a : Addr) : ∀ (vs : List Value) (i : Nat), SimOk P (fun _ => True) (Go.storeCells a vs i) := by
 intro vs
 induction vs with
 | nil => intro i; exact SimOk.pure trivial
 | cons v vs ih => intro i; exact SimOk.bind (SimOk.store _ _ _) fun _ _ => ih _
theorem loadAt (t : TypeId) (x : Value) : SimOk P (fun _ => True) (Instr.loadAt t x) := by
 unfold Instr.loadAt Go.loadVar
 repeat' (first
  | with_reducible exact SimOk.pure trivial
  | with_reducible exact SimOk.stuck _
  | with_reducible exact SimOk.unsupported _
  | with_reducible exact SimOk.gPanic _
  | with_reducible exact SimOk.runtimePanic _
  | with_reducible exact SimOk.boundsPanic _ _ _ _
  | with_reducible exact SimOk.load _ _
  | with_reducible exact SimOk.store _ _ _
  | with_reducible exact SimOk.newObj _
  | with_reducible exact SimOk.newVar _ _
  | with_reducible exact SimOk.newRow _ _
  | with_reducible exact SimOk.choose _
  | with_reducible exact SimOk.loadCells _ _
  | with_reducible exact SimOk.storeCells _ _ _
  | with_reducible exact SimOk.part _ _ _
  | (with_reducible apply SimOk.bind
     first
      | with_reducible exact SimOk.underlying _
      | with_reducible exact SimOk.typeInfo _
      | with_reducible exact SimOk.sizeOf _
      | with_reducible exact SimOk.zeroValue _
      | with_reducible exact SimOk.isAgg _
      | with_reducible exact SimOk.elemOf _
      | with_reducible exact SimOk.part _ _ _
      | with_reducible exact SimOk.asIntOf _
      | with_reducible exact SimOk.asInt _
      | with_reducible exact SimOk.asBool _
      | with_reducible exact SimOk.asString _
      | with_reducible exact SimOk.asAgg _
      | with_reducible exact SimOk.asAddr _
      | with_reducible exact SimOk.sureAddr _
      | with_reducible exact SimOk.load _ _
      | with_reducible exact SimOk.store _ _ _
      | with_reducible exact SimOk.newVar _ _
      | with_reducible exact SimOk.newRow _ _
      | with_reducible exact SimOk.newObj _
      | with_reducible exact SimOk.choose _
      | with_reducible exact SimOk.askRoom _
      | with_reducible exact SimOk.loadCells _ _
      | with_reducible exact SimOk.storeCells _ _ _
      | with_reducible exact SimOk.program
      | with_reducible exact (SimOk.gPanic (Φ := fun _ => True) _)
      | with_reducible exact (SimOk.runtimePanic (Φ := fun _ => True) _)
      | with_reducible exact (SimOk.stuck (Φ := fun _ => True) _)
      | with_reducible exact (SimOk.unsupported (Φ := fun _ => True) _)
      | with_reducible exact (SimOk.pure (Φ := fun _ => True) trivial)
     intro _ _)
  | dsimp only
  | split)
theorem storeAt (t : TypeId) (x y : Value) : SimOk P (fun _ => True) (Instr.storeAt t x y) := by
 unfold Instr.storeAt Go.storeVar
 repeat' (first
  | with_reducible exact SimOk.pure trivial
  | with_reducible exact SimOk.stuck _
  | with_reducible exact SimOk.unsupported _
  | with_reducible exact SimOk.gPanic _
  | with_reducible exact SimOk.runtimePanic _
  | with_reducible exact SimOk.boundsPanic _ _ _ _
  | with_reducible exact SimOk.load _ _
  | with_reducible exact SimOk.store _ _ _
  | with_reducible exact SimOk.newObj _
  | with_reducible exact SimOk.newVar _ _
  | with_reducible exact SimOk.newRow _ _
  | with_reducible exact SimOk.choose _
  | with_reducible exact SimOk.loadCells _ _
  | with_reducible exact SimOk.storeCells _ _ _
  | with_reducible exact SimOk.part _ _ _
  | (with_reducible apply SimOk.bind
     first
      | with_reducible exact SimOk.underlying _
      | with_reducible exact SimOk.typeInfo _
      | with_reducible exact SimOk.sizeOf _
      | with_reducible exact SimOk.zeroValue _
      | with_reducible exact SimOk.isAgg _
      | with_reducible exact SimOk.elemOf _
      | with_reducible exact SimOk.part _ _ _
      | with_reducible exact SimOk.asIntOf _
      | with_reducible exact SimOk.asInt _
      | with_reducible exact SimOk.asBool _
      | with_reducible exact SimOk.asString _
      | with_reducible exact SimOk.asAgg _
      | with_reducible exact SimOk.asAddr _
      | with_reducible exact SimOk.sureAddr _
      | with_reducible exact SimOk.load _ _
      | with_reducible exact SimOk.store _ _ _
      | with_reducible exact SimOk.newVar _ _
      | with_reducible exact SimOk.newRow _ _
      | with_reducible exact SimOk.newObj _
      | with_reducible exact SimOk.choose _
      | with_reducible exact SimOk.askRoom _
      | with_reducible exact SimOk.loadCells _ _
      | with_reducible exact SimOk.storeCells _ _ _
      | with_reducible exact SimOk.program
      | with_reducible exact (SimOk.gPanic (Φ := fun _ => True) _)
      | with_reducible exact (SimOk.runtimePanic (Φ := fun _ => True) _)
      | with_reducible exact (SimOk.stuck (Φ := fun _ => True) _)
      | with_reducible exact (SimOk.unsupported (Φ := fun _ => True) _)
      | with_reducible exact (SimOk.pure (Φ := fun _ => True) trivial)
     intro _ _)
  | dsimp only
  | split)
theorem alloc (t : TypeId) (y : Value) : SimOk P (fun _ => True) (Instr.alloc t true y) := by
 unfold Instr.alloc
 repeat' (first
  | with_reducible exact SimOk.pure trivial
  | with_reducible exact SimOk.stuck _
  | with_reducible exact SimOk.unsupported _
  | with_reducible exact SimOk.gPanic _
  | with_reducible exact SimOk.runtimePanic _
  | with_reducible exact SimOk.boundsPanic _ _ _ _
  | with_reducible exact SimOk.load _ _
  | with_reducible exact SimOk.store _ _ _
  | with_reducible exact SimOk.newObj _
  | with_reducible exact SimOk.newVar _ _
  | with_reducible exact SimOk.newRow _ _
  | with_reducible exact SimOk.choose _
  | with_reducible exact SimOk.loadCells _ _
  | with_reducible exact SimOk.storeCells _ _ _
  | with_reducible exact SimOk.part _ _ _
  | (with_reducible apply SimOk.bind
     first
      | with_reducible exact SimOk.underlying _
      | with_reducible exact SimOk.typeInfo _
      | with_reducible exact SimOk.sizeOf _
      | with_reducible exact SimOk.zeroValue _
      | with_reducible exact SimOk.isAgg _
      | with_reducible exact SimOk.elemOf _
      | with_reducible exact SimOk.part _ _ _
      | with_reducible exact SimOk.asIntOf _
      | with_reducible exact SimOk.asInt _
      | with_reducible exact SimOk.asBool _
      | with_reducible exact SimOk.asString _
      | with_reducible exact SimOk.asAgg _
      | with_reducible exact SimOk.asAddr _
      | with_reducible exact SimOk.sureAddr _
      | with_reducible exact SimOk.load _ _
      | with_reducible exact SimOk.store _ _ _
      | with_reducible exact SimOk.newVar _ _
      | with_reducible exact SimOk.newRow _ _
      | with_reducible exact SimOk.newObj _
      | with_reducible exact SimOk.choose _
      | with_reducible exact SimOk.askRoom _
      | with_reducible exact SimOk.loadCells _ _
      | with_reducible exact SimOk.storeCells _ _ _
      | with_reducible exact SimOk.program
      | with_reducible exact (SimOk.gPanic (Φ := fun _ => True) _)
      | with_reducible exact (SimOk.runtimePanic (Φ := fun _ => True) _)
      | with_reducible exact (SimOk.stuck (Φ := fun _ => True) _)
      | with_reducible exact (SimOk.unsupported (Φ := fun _ => True) _)
      | with_reducible exact (SimOk.pure (Φ := fun _ => True) trivial)
     intro _ _)
  | dsimp only
  | split)
theorem box (t : TypeId) (y : Value) : SimOk P (fun _ => True) (Instr.box t y) := by
 unfold Instr.box
 repeat' (first
  | with_reducible exact SimOk.pure trivial
  | with_reducible exact SimOk.stuck _
  | with_reducible exact SimOk.unsupported _
  | with_reducible exact SimOk.gPanic _
  | with_reducible exact SimOk.runtimePanic _
  | with_reducible exact SimOk.boundsPanic _ _ _ _
  | with_reducible exact SimOk.load _ _
  | with_reducible exact SimOk.store _ _ _
  | with_reducible exact SimOk.newObj _
  | with_reducible exact SimOk.newVar _ _
  | with_reducible exact SimOk.newRow _ _
  | with_reducible exact SimOk.choose _
  | with_reducible exact SimOk.loadCells _ _
  | with_reducible exact SimOk.storeCells _ _ _
  | with_reducible exact SimOk.part _ _ _
  | (with_reducible apply SimOk.bind
     first
      | with_reducible exact SimOk.underlying _
      | with_reducible exact SimOk.typeInfo _
      | with_reducible exact SimOk.sizeOf _
      | with_reducible exact SimOk.zeroValue _
      | with_reducible exact SimOk.isAgg _
      | with_reducible exact SimOk.elemOf _
      | with_reducible exact SimOk.part _ _ _
      | with_reducible exact SimOk.asIntOf _
      | with_reducible exact SimOk.asInt _
      | with_reducible exact SimOk.asBool _
      | with_reducible exact SimOk.asString _
      | with_reducible exact SimOk.asAgg _
      | with_reducible exact SimOk.asAddr _
      | with_reducible exact SimOk.sureAddr _
      | with_reducible exact SimOk.load _ _
      | with_reducible exact SimOk.store _ _ _
      | with_reducible exact SimOk.newVar _ _
      | with_reducible exact SimOk.newRow _ _
      | with_reducible exact SimOk.newObj _
      | with_reducible exact SimOk.choose _
      | with_reducible exact SimOk.askRoom _
      | with_reducible exact SimOk.loadCells _ _
      | with_reducible exact SimOk.storeCells _ _ _
      | with_reducible exact SimOk.program
      | with_reducible exact (SimOk.gPanic (Φ := fun _ => True) _)
      | with_reducible exact (SimOk.runtimePanic (Φ := fun _ => True) _)
      | with_reducible exact (SimOk.stuck (Φ := fun _ => True) _)
      | with_reducible exact (SimOk.unsupported (Φ := fun _ => True) _)
      | with_reducible exact (SimOk.pure (Φ := fun _ => True) trivial)
     intro _ _)
  | dsimp only
  | split)
theorem mapM_ok {β γ : Type} {f : β → Sem γ} (hf : ∀ b, SimOk P (fun _ => True) (f b)) : ∀ l : List β, SimOk P (fun _ => True) (l.mapM f) := by
 intro l
 induction l with
 | nil => simp only [List.mapM_nil]; exact SimOk.pure trivial
 | cons x l ih => simp only [List.mapM_cons]; exact SimOk.bind (hf x) fun _ _ => SimOk.bind ih fun _ _ => SimOk.pure trivial
theorem amapM_ok {β γ : Type} {f : β → Sem γ} (hf : ∀ b, SimOk P (fun _ => True) (f b)) (l : Array β) : SimOk P (fun _ => True) (l.mapM f) := by
 rw [Array.mapM_eq_mapM_toList]
 exact SimOk.bind (mapM_ok hf _) fun _ _ => SimOk.pure trivial
theorem foldlM_ok {β γ : Type} {f : γ → β → Sem γ} (hf : ∀ c b, SimOk P (fun _ => True) (f c b)) : ∀ (l : List β) (c : γ), SimOk P (fun _ => True) (l.foldlM f c) := by
 intro l
 induction l with
 | nil => intro c; simp only [List.foldlM_nil]; exact SimOk.pure trivial
 | cons x l ih => intro c; simp only [List.foldlM_cons]; exact SimOk.bind (hf c x) fun _ _ => ih _
theorem build (t : TypeId) (ps : Array (Nat × Value)) : SimOk P (fun _ => True) (Instr.build t ps) := by
 unfold Instr.build
 refine SimOk.bind (zeroValue t) fun z _ => SimOk.bind (underlying t) fun d _ => ?_
 split
 ·refine SimOk.bind (amapM_ok (fun f => SimOk.bind (sizeOf _) fun _ _ => SimOk.pure trivial) _) fun _ _ => ?_
  repeat' (first
  | with_reducible exact SimOk.pure trivial
  | with_reducible exact SimOk.stuck _
  | with_reducible exact SimOk.unsupported _
  | with_reducible exact SimOk.gPanic _
  | with_reducible exact SimOk.runtimePanic _
  | with_reducible exact SimOk.boundsPanic _ _ _ _
  | with_reducible exact SimOk.load _ _
  | with_reducible exact SimOk.store _ _ _
  | with_reducible exact SimOk.newObj _
  | with_reducible exact SimOk.newVar _ _
  | with_reducible exact SimOk.newRow _ _
  | with_reducible exact SimOk.choose _
  | with_reducible exact SimOk.loadCells _ _
  | with_reducible exact SimOk.storeCells _ _ _
  | with_reducible exact SimOk.part _ _ _
  | (with_reducible apply SimOk.bind
     first
      | with_reducible exact SimOk.underlying _
      | with_reducible exact SimOk.typeInfo _
      | with_reducible exact SimOk.sizeOf _
      | with_reducible exact SimOk.zeroValue _
      | with_reducible exact SimOk.isAgg _
      | with_reducible exact SimOk.elemOf _
      | with_reducible exact SimOk.part _ _ _
      | with_reducible exact SimOk.asIntOf _
      | with_reducible exact SimOk.asInt _
      | with_reducible exact SimOk.asBool _
      | with_reducible exact SimOk.asString _
      | with_reducible exact SimOk.asAgg _
      | with_reducible exact SimOk.asAddr _
      | with_reducible exact SimOk.sureAddr _
      | with_reducible exact SimOk.load _ _
      | with_reducible exact SimOk.store _ _ _
      | with_reducible exact SimOk.newVar _ _
      | with_reducible exact SimOk.newRow _ _
      | with_reducible exact SimOk.newObj _
      | with_reducible exact SimOk.choose _
      | with_reducible exact SimOk.askRoom _
      | with_reducible exact SimOk.loadCells _ _
      | with_reducible exact SimOk.storeCells _ _ _
      | with_reducible exact SimOk.program
      | with_reducible exact (SimOk.gPanic (Φ := fun _ => True) _)
      | with_reducible exact (SimOk.runtimePanic (Φ := fun _ => True) _)
      | with_reducible exact (SimOk.stuck (Φ := fun _ => True) _)
      | with_reducible exact (SimOk.unsupported (Φ := fun _ => True) _)
      | with_reducible exact (SimOk.pure (Φ := fun _ => True) trivial)
     intro _ _)
  | dsimp only
  | split)
 ·repeat' (first
  | with_reducible exact SimOk.pure trivial
  | with_reducible exact SimOk.stuck _
  | with_reducible exact SimOk.unsupported _
  | with_reducible exact SimOk.gPanic _
  | with_reducible exact SimOk.runtimePanic _
  | with_reducible exact SimOk.boundsPanic _ _ _ _
  | with_reducible exact SimOk.load _ _
  | with_reducible exact SimOk.store _ _ _
  | with_reducible exact SimOk.newObj _
  | with_reducible exact SimOk.newVar _ _
  | with_reducible exact SimOk.newRow _ _
  | with_reducible exact SimOk.choose _
  | with_reducible exact SimOk.loadCells _ _
  | with_reducible exact SimOk.storeCells _ _ _
  | with_reducible exact SimOk.part _ _ _
  | (with_reducible apply SimOk.bind
     first
      | with_reducible exact SimOk.underlying _
      | with_reducible exact SimOk.typeInfo _
      | with_reducible exact SimOk.sizeOf _
      | with_reducible exact SimOk.zeroValue _
      | with_reducible exact SimOk.isAgg _
      | with_reducible exact SimOk.elemOf _
      | with_reducible exact SimOk.part _ _ _
      | with_reducible exact SimOk.asIntOf _
      | with_reducible exact SimOk.asInt _
      | with_reducible exact SimOk.asBool _
      | with_reducible exact SimOk.asString _
      | with_reducible exact SimOk.asAgg _
      | with_reducible exact SimOk.asAddr _
      | with_reducible exact SimOk.sureAddr _
      | with_reducible exact SimOk.load _ _
      | with_reducible exact SimOk.store _ _ _
      | with_reducible exact SimOk.newVar _ _
      | with_reducible exact SimOk.newRow _ _
      | with_reducible exact SimOk.newObj _
      | with_reducible exact SimOk.choose _
      | with_reducible exact SimOk.askRoom _
      | with_reducible exact SimOk.loadCells _ _
      | with_reducible exact SimOk.storeCells _ _ _
      | with_reducible exact SimOk.program
      | with_reducible exact (SimOk.gPanic (Φ := fun _ => True) _)
      | with_reducible exact (SimOk.runtimePanic (Φ := fun _ => True) _)
      | with_reducible exact (SimOk.stuck (Φ := fun _ => True) _)
      | with_reducible exact (SimOk.unsupported (Φ := fun _ => True) _)
      | with_reducible exact (SimOk.pure (Φ := fun _ => True) trivial)
     intro _ _)
  | dsimp only
  | split)
 ·exact SimOk.stuck _
theorem buildSlice (t : TypeId) (n : Nat) (ps : Array (Nat × Value)) : SimOk P (fun _ => True) (Instr.buildSlice t n ps) := by
 unfold Instr.buildSlice
 repeat' (first
  | with_reducible exact SimOk.pure trivial
  | with_reducible exact SimOk.stuck _
  | with_reducible exact SimOk.unsupported _
  | with_reducible exact SimOk.gPanic _
  | with_reducible exact SimOk.runtimePanic _
  | with_reducible exact SimOk.boundsPanic _ _ _ _
  | with_reducible exact SimOk.load _ _
  | with_reducible exact SimOk.store _ _ _
  | with_reducible exact SimOk.newObj _
  | with_reducible exact SimOk.newVar _ _
  | with_reducible exact SimOk.newRow _ _
  | with_reducible exact SimOk.choose _
  | with_reducible exact SimOk.loadCells _ _
  | with_reducible exact SimOk.storeCells _ _ _
  | with_reducible exact SimOk.part _ _ _
  | (with_reducible apply SimOk.bind
     first
      | with_reducible exact SimOk.underlying _
      | with_reducible exact SimOk.typeInfo _
      | with_reducible exact SimOk.sizeOf _
      | with_reducible exact SimOk.zeroValue _
      | with_reducible exact SimOk.isAgg _
      | with_reducible exact SimOk.elemOf _
      | with_reducible exact SimOk.part _ _ _
      | with_reducible exact SimOk.asIntOf _
      | with_reducible exact SimOk.asInt _
      | with_reducible exact SimOk.asBool _
      | with_reducible exact SimOk.asString _
      | with_reducible exact SimOk.asAgg _
      | with_reducible exact SimOk.asAddr _
      | with_reducible exact SimOk.sureAddr _
      | with_reducible exact SimOk.load _ _
      | with_reducible exact SimOk.store _ _ _
      | with_reducible exact SimOk.newVar _ _
      | with_reducible exact SimOk.newRow _ _
      | with_reducible exact SimOk.newObj _
      | with_reducible exact SimOk.choose _
      | with_reducible exact SimOk.askRoom _
      | with_reducible exact SimOk.loadCells _ _
      | with_reducible exact SimOk.storeCells _ _ _
      | with_reducible exact SimOk.program
      | with_reducible exact (SimOk.gPanic (Φ := fun _ => True) _)
      | with_reducible exact (SimOk.runtimePanic (Φ := fun _ => True) _)
      | with_reducible exact (SimOk.stuck (Φ := fun _ => True) _)
      | with_reducible exact (SimOk.unsupported (Φ := fun _ => True) _)
      | with_reducible exact (SimOk.pure (Φ := fun _ => True) trivial)
     intro _ _)
  | dsimp only
  | split)
theorem extract (x : Value) (i : Nat) : SimOk P (fun _ => True) (Instr.extract x i) := by
 unfold Instr.extract
 repeat' (first
  | with_reducible exact SimOk.pure trivial
  | with_reducible exact SimOk.stuck _
  | with_reducible exact SimOk.unsupported _
  | with_reducible exact SimOk.gPanic _
  | with_reducible exact SimOk.runtimePanic _
  | with_reducible exact SimOk.boundsPanic _ _ _ _
  | with_reducible exact SimOk.load _ _
  | with_reducible exact SimOk.store _ _ _
  | with_reducible exact SimOk.newObj _
  | with_reducible exact SimOk.newVar _ _
  | with_reducible exact SimOk.newRow _ _
  | with_reducible exact SimOk.choose _
  | with_reducible exact SimOk.loadCells _ _
  | with_reducible exact SimOk.storeCells _ _ _
  | with_reducible exact SimOk.part _ _ _
  | (with_reducible apply SimOk.bind
     first
      | with_reducible exact SimOk.underlying _
      | with_reducible exact SimOk.typeInfo _
      | with_reducible exact SimOk.sizeOf _
      | with_reducible exact SimOk.zeroValue _
      | with_reducible exact SimOk.isAgg _
      | with_reducible exact SimOk.elemOf _
      | with_reducible exact SimOk.part _ _ _
      | with_reducible exact SimOk.asIntOf _
      | with_reducible exact SimOk.asInt _
      | with_reducible exact SimOk.asBool _
      | with_reducible exact SimOk.asString _
      | with_reducible exact SimOk.asAgg _
      | with_reducible exact SimOk.asAddr _
      | with_reducible exact SimOk.sureAddr _
      | with_reducible exact SimOk.load _ _
      | with_reducible exact SimOk.store _ _ _
      | with_reducible exact SimOk.newVar _ _
      | with_reducible exact SimOk.newRow _ _
      | with_reducible exact SimOk.newObj _
      | with_reducible exact SimOk.choose _
      | with_reducible exact SimOk.askRoom _
      | with_reducible exact SimOk.loadCells _ _
      | with_reducible exact SimOk.storeCells _ _ _
      | with_reducible exact SimOk.program
      | with_reducible exact (SimOk.gPanic (Φ := fun _ => True) _)
      | with_reducible exact (SimOk.runtimePanic (Φ := fun _ => True) _)
      | with_reducible exact (SimOk.stuck (Φ := fun _ => True) _)
      | with_reducible exact (SimOk.unsupported (Φ := fun _ => True) _)
      | with_reducible exact (SimOk.pure (Φ := fun _ => True) trivial)
     intro _ _)
  | dsimp only
  | split)
theorem index (t : TypeId) (x i : Value) : SimOk P (fun _ => True) (Instr.index t x i) := by
 unfold Instr.index
 repeat' (first
  | with_reducible exact SimOk.pure trivial
  | with_reducible exact SimOk.stuck _
  | with_reducible exact SimOk.unsupported _
  | with_reducible exact SimOk.gPanic _
  | with_reducible exact SimOk.runtimePanic _
  | with_reducible exact SimOk.boundsPanic _ _ _ _
  | with_reducible exact SimOk.load _ _
  | with_reducible exact SimOk.store _ _ _
  | with_reducible exact SimOk.newObj _
  | with_reducible exact SimOk.newVar _ _
  | with_reducible exact SimOk.newRow _ _
  | with_reducible exact SimOk.choose _
  | with_reducible exact SimOk.loadCells _ _
  | with_reducible exact SimOk.storeCells _ _ _
  | with_reducible exact SimOk.part _ _ _
  | (with_reducible apply SimOk.bind
     first
      | with_reducible exact SimOk.underlying _
      | with_reducible exact SimOk.typeInfo _
      | with_reducible exact SimOk.sizeOf _
      | with_reducible exact SimOk.zeroValue _
      | with_reducible exact SimOk.isAgg _
      | with_reducible exact SimOk.elemOf _
      | with_reducible exact SimOk.part _ _ _
      | with_reducible exact SimOk.asIntOf _
      | with_reducible exact SimOk.asInt _
      | with_reducible exact SimOk.asBool _
      | with_reducible exact SimOk.asString _
      | with_reducible exact SimOk.asAgg _
      | with_reducible exact SimOk.asAddr _
      | with_reducible exact SimOk.sureAddr _
      | with_reducible exact SimOk.load _ _
      | with_reducible exact SimOk.store _ _ _
      | with_reducible exact SimOk.newVar _ _
      | with_reducible exact SimOk.newRow _ _
      | with_reducible exact SimOk.newObj _
      | with_reducible exact SimOk.choose _
      | with_reducible exact SimOk.askRoom _
      | with_reducible exact SimOk.loadCells _ _
      | with_reducible exact SimOk.storeCells _ _ _
      | with_reducible exact SimOk.program
      | with_reducible exact (SimOk.gPanic (Φ := fun _ => True) _)
      | with_reducible exact (SimOk.runtimePanic (Φ := fun _ => True) _)
      | with_reducible exact (SimOk.stuck (Φ := fun _ => True) _)
      | with_reducible exact (SimOk.unsupported (Φ := fun _ => True) _)
      | with_reducible exact (SimOk.pure (Φ := fun _ => True) trivial)
     intro _ _)
  | dsimp only
  | split)
theorem indexAt (t : TypeId) (x i : Value) : SimOk P (fun _ => True) (Instr.indexAt t x i) := by
 unfold Instr.indexAt
 refine SimOk.bind (asIntOf _) fun ki _ => ?_
 dsimp only
 repeat' (first
  | with_reducible exact SimOk.pure trivial
  | with_reducible exact SimOk.stuck _
  | with_reducible exact SimOk.unsupported _
  | with_reducible exact SimOk.gPanic _
  | with_reducible exact SimOk.runtimePanic _
  | with_reducible exact SimOk.boundsPanic _ _ _ _
  | with_reducible exact SimOk.load _ _
  | with_reducible exact SimOk.store _ _ _
  | with_reducible exact SimOk.newObj _
  | with_reducible exact SimOk.newVar _ _
  | with_reducible exact SimOk.newRow _ _
  | with_reducible exact SimOk.choose _
  | with_reducible exact SimOk.loadCells _ _
  | with_reducible exact SimOk.storeCells _ _ _
  | with_reducible exact SimOk.part _ _ _
  | (with_reducible apply SimOk.bind
     first
      | with_reducible exact SimOk.underlying _
      | with_reducible exact SimOk.typeInfo _
      | with_reducible exact SimOk.sizeOf _
      | with_reducible exact SimOk.zeroValue _
      | with_reducible exact SimOk.isAgg _
      | with_reducible exact SimOk.elemOf _
      | with_reducible exact SimOk.part _ _ _
      | with_reducible exact SimOk.asIntOf _
      | with_reducible exact SimOk.asInt _
      | with_reducible exact SimOk.asBool _
      | with_reducible exact SimOk.asString _
      | with_reducible exact SimOk.asAgg _
      | with_reducible exact SimOk.asAddr _
      | with_reducible exact SimOk.sureAddr _
      | with_reducible exact SimOk.load _ _
      | with_reducible exact SimOk.store _ _ _
      | with_reducible exact SimOk.newVar _ _
      | with_reducible exact SimOk.newRow _ _
      | with_reducible exact SimOk.newObj _
      | with_reducible exact SimOk.choose _
      | with_reducible exact SimOk.askRoom _
      | with_reducible exact SimOk.loadCells _ _
      | with_reducible exact SimOk.storeCells _ _ _
      | with_reducible exact SimOk.program
      | with_reducible exact (SimOk.gPanic (Φ := fun _ => True) _)
      | with_reducible exact (SimOk.runtimePanic (Φ := fun _ => True) _)
      | with_reducible exact (SimOk.stuck (Φ := fun _ => True) _)
      | with_reducible exact (SimOk.unsupported (Φ := fun _ => True) _)
      | with_reducible exact (SimOk.pure (Φ := fun _ => True) trivial)
     intro _ _)
  | dsimp only
  | split)
theorem makeChan (t : TypeId) (x : Value) : SimOk P (fun _ => True) (Instr.makeChan t x) := by
 unfold Instr.makeChan
 repeat' (first
  | with_reducible exact SimOk.pure trivial
  | with_reducible exact SimOk.stuck _
  | with_reducible exact SimOk.unsupported _
  | with_reducible exact SimOk.gPanic _
  | with_reducible exact SimOk.runtimePanic _
  | with_reducible exact SimOk.boundsPanic _ _ _ _
  | with_reducible exact SimOk.load _ _
  | with_reducible exact SimOk.store _ _ _
  | with_reducible exact SimOk.newObj _
  | with_reducible exact SimOk.newVar _ _
  | with_reducible exact SimOk.newRow _ _
  | with_reducible exact SimOk.choose _
  | with_reducible exact SimOk.loadCells _ _
  | with_reducible exact SimOk.storeCells _ _ _
  | with_reducible exact SimOk.part _ _ _
  | (with_reducible apply SimOk.bind
     first
      | with_reducible exact SimOk.underlying _
      | with_reducible exact SimOk.typeInfo _
      | with_reducible exact SimOk.sizeOf _
      | with_reducible exact SimOk.zeroValue _
      | with_reducible exact SimOk.isAgg _
      | with_reducible exact SimOk.elemOf _
      | with_reducible exact SimOk.part _ _ _
      | with_reducible exact SimOk.asIntOf _
      | with_reducible exact SimOk.asInt _
      | with_reducible exact SimOk.asBool _
      | with_reducible exact SimOk.asString _
      | with_reducible exact SimOk.asAgg _
      | with_reducible exact SimOk.asAddr _
      | with_reducible exact SimOk.sureAddr _
      | with_reducible exact SimOk.load _ _
      | with_reducible exact SimOk.store _ _ _
      | with_reducible exact SimOk.newVar _ _
      | with_reducible exact SimOk.newRow _ _
      | with_reducible exact SimOk.newObj _
      | with_reducible exact SimOk.choose _
      | with_reducible exact SimOk.askRoom _
      | with_reducible exact SimOk.loadCells _ _
      | with_reducible exact SimOk.storeCells _ _ _
      | with_reducible exact SimOk.program
      | with_reducible exact (SimOk.gPanic (Φ := fun _ => True) _)
      | with_reducible exact (SimOk.runtimePanic (Φ := fun _ => True) _)
      | with_reducible exact (SimOk.stuck (Φ := fun _ => True) _)
      | with_reducible exact (SimOk.unsupported (Φ := fun _ => True) _)
      | with_reducible exact (SimOk.pure (Φ := fun _ => True) trivial)
     intro _ _)
  | dsimp only
  | split)
theorem makeSlice (t : TypeId) (x y : Value) : SimOk P (fun _ => True) (Instr.makeSlice t x y) := by
 unfold Instr.makeSlice
 repeat' (first
  | with_reducible exact SimOk.pure trivial
  | with_reducible exact SimOk.stuck _
  | with_reducible exact SimOk.unsupported _
  | with_reducible exact SimOk.gPanic _
  | with_reducible exact SimOk.runtimePanic _
  | with_reducible exact SimOk.boundsPanic _ _ _ _
  | with_reducible exact SimOk.load _ _
  | with_reducible exact SimOk.store _ _ _
  | with_reducible exact SimOk.newObj _
  | with_reducible exact SimOk.newVar _ _
  | with_reducible exact SimOk.newRow _ _
  | with_reducible exact SimOk.choose _
  | with_reducible exact SimOk.loadCells _ _
  | with_reducible exact SimOk.storeCells _ _ _
  | with_reducible exact SimOk.part _ _ _
  | (with_reducible apply SimOk.bind
     first
      | with_reducible exact SimOk.underlying _
      | with_reducible exact SimOk.typeInfo _
      | with_reducible exact SimOk.sizeOf _
      | with_reducible exact SimOk.zeroValue _
      | with_reducible exact SimOk.isAgg _
      | with_reducible exact SimOk.elemOf _
      | with_reducible exact SimOk.part _ _ _
      | with_reducible exact SimOk.asIntOf _
      | with_reducible exact SimOk.asInt _
      | with_reducible exact SimOk.asBool _
      | with_reducible exact SimOk.asString _
      | with_reducible exact SimOk.asAgg _
      | with_reducible exact SimOk.asAddr _
      | with_reducible exact SimOk.sureAddr _
      | with_reducible exact SimOk.load _ _
      | with_reducible exact SimOk.store _ _ _
      | with_reducible exact SimOk.newVar _ _
      | with_reducible exact SimOk.newRow _ _
      | with_reducible exact SimOk.newObj _
      | with_reducible exact SimOk.choose _
      | with_reducible exact SimOk.askRoom _
      | with_reducible exact SimOk.loadCells _ _
      | with_reducible exact SimOk.storeCells _ _ _
      | with_reducible exact SimOk.program
      | with_reducible exact (SimOk.gPanic (Φ := fun _ => True) _)
      | with_reducible exact (SimOk.runtimePanic (Φ := fun _ => True) _)
      | with_reducible exact (SimOk.stuck (Φ := fun _ => True) _)
      | with_reducible exact (SimOk.unsupported (Φ := fun _ => True) _)
      | with_reducible exact (SimOk.pure (Φ := fun _ => True) trivial)
     intro _ _)
  | dsimp only
  | split)
theorem sliceBound (x : Value) (y : Nat) (c : BoundsCode) : SimOk P (fun _ => True) (Instr.sliceBound x y c) := by
 unfold Instr.sliceBound
 repeat' (first
  | with_reducible exact SimOk.pure trivial
  | with_reducible exact SimOk.stuck _
  | with_reducible exact SimOk.unsupported _
  | with_reducible exact SimOk.gPanic _
  | with_reducible exact SimOk.runtimePanic _
  | with_reducible exact SimOk.boundsPanic _ _ _ _
  | with_reducible exact SimOk.load _ _
  | with_reducible exact SimOk.store _ _ _
  | with_reducible exact SimOk.newObj _
  | with_reducible exact SimOk.newVar _ _
  | with_reducible exact SimOk.newRow _ _
  | with_reducible exact SimOk.choose _
  | with_reducible exact SimOk.loadCells _ _
  | with_reducible exact SimOk.storeCells _ _ _
  | with_reducible exact SimOk.part _ _ _
  | (with_reducible apply SimOk.bind
     first
      | with_reducible exact SimOk.underlying _
      | with_reducible exact SimOk.typeInfo _
      | with_reducible exact SimOk.sizeOf _
      | with_reducible exact SimOk.zeroValue _
      | with_reducible exact SimOk.isAgg _
      | with_reducible exact SimOk.elemOf _
      | with_reducible exact SimOk.part _ _ _
      | with_reducible exact SimOk.asIntOf _
      | with_reducible exact SimOk.asInt _
      | with_reducible exact SimOk.asBool _
      | with_reducible exact SimOk.asString _
      | with_reducible exact SimOk.asAgg _
      | with_reducible exact SimOk.asAddr _
      | with_reducible exact SimOk.sureAddr _
      | with_reducible exact SimOk.load _ _
      | with_reducible exact SimOk.store _ _ _
      | with_reducible exact SimOk.newVar _ _
      | with_reducible exact SimOk.newRow _ _
      | with_reducible exact SimOk.newObj _
      | with_reducible exact SimOk.choose _
      | with_reducible exact SimOk.askRoom _
      | with_reducible exact SimOk.loadCells _ _
      | with_reducible exact SimOk.storeCells _ _ _
      | with_reducible exact SimOk.program
      | with_reducible exact (SimOk.gPanic (Φ := fun _ => True) _)
      | with_reducible exact (SimOk.runtimePanic (Φ := fun _ => True) _)
      | with_reducible exact (SimOk.stuck (Φ := fun _ => True) _)
      | with_reducible exact (SimOk.unsupported (Φ := fun _ => True) _)
      | with_reducible exact (SimOk.pure (Φ := fun _ => True) trivial)
     intro _ _)
  | dsimp only
  | split)
theorem sliceBounds (b : Bool) (n c : Nat) (lo hi mx : Option Value) : SimOk P (fun _ => True) (Instr.sliceBounds b n c lo hi mx) := by
 unfold Instr.sliceBounds
 dsimp only
 have h3 : ∀ (m h : Nat), SimOk P (fun _ => True) (match lo with
   | some v => do
     let l ← Instr.sliceBound v h (if mx.isSome = true then BoundsCode.slice3C else BoundsCode.sliceB)
     Pure.pure (l, h, m)
   | none => do
     let l ← Pure.pure 0
     Pure.pure (l, h, m) : Sem (Nat × Nat × Nat)) := by
  intro m h
  split
  ·exact SimOk.bind (Φ := fun _ => True) (sliceBound _ _ _) fun l _ => SimOk.pure trivial
  ·exact SimOk.bind (Φ := fun _ => True) (SimOk.pure trivial) fun l _ => SimOk.pure trivial
 cases mx with
 | none =>
  refine SimOk.bind (Φ := fun _ => True) (SimOk.pure trivial) fun m _ => ?_
  cases hi with
  | none => exact SimOk.bind (Φ := fun _ => True) (SimOk.pure trivial) fun h _ => h3 m h
  | some v => exact SimOk.bind (Φ := fun _ => True) (sliceBound _ _ _) fun h _ => h3 m h
 | some y =>
  refine SimOk.bind (Φ := fun _ => True) (sliceBound _ _ _) fun m _ => ?_
  cases hi with
  | none => exact SimOk.bind (Φ := fun _ => True) (SimOk.stuck _) fun h _ => h3 m h
  | some v => exact SimOk.bind (Φ := fun _ => True) (sliceBound _ _ _) fun h _ => h3 m h
theorem slice (t : TypeId) (x : Value) (lo hi mx : Option Value) : SimOk P (fun _ => True) (Instr.slice t x lo hi mx) := by
 unfold Instr.slice
 refine SimOk.bind (underlying t) fun d _ => ?_
 split
 ·split
  ·exact SimOk.bind (SimOk.stuck _) fun _ (_ : True) => SimOk.bind (sliceBounds _ _ _ _ _ _) fun _ _ => SimOk.pure trivial
  ·exact SimOk.bind (sliceBounds _ _ _ _ _ _) fun _ _ => SimOk.pure trivial
 ·exact SimOk.bind (sliceBounds _ _ _ _ _ _) fun _ _ => SimOk.bind (sizeOf _) fun _ _ => SimOk.pure trivial
 ·refine SimOk.bind (asAddr _) fun _ _ => SimOk.bind (underlying _) fun _ _ => ?_
  split
  ·exact SimOk.bind (sliceBounds _ _ _ _ _ _) fun _ _ => SimOk.bind (sizeOf _) fun _ _ => SimOk.pure trivial
  ·exact SimOk.stuck _
 ·exact SimOk.stuck _
theorem sliceAt (t : TypeId) (x : Value) (lo hi mx : Option Value) : SimOk P (fun _ => True) (Instr.sliceAt t x lo hi mx) := by
 unfold Instr.sliceAt
 refine SimOk.bind (underlying t) fun d _ => ?_
 split
 ·exact SimOk.bind (sureAddr _) fun _ _ => SimOk.bind (sliceBounds _ _ _ _ _ _) fun _ _ => SimOk.bind (sizeOf _) fun _ _ => SimOk.pure trivial
 ·exact slice _ _ _ _ _
theorem fieldAt (s : TypeId) (x : Value) (i : Nat) (hs : ∀ fs, P.underlying s = some (.struct fs) → ∀ f j, fs[i]? = some f → P.info? f.type = some j → j.size ≠ 0) : SimOk P (fun _ => True) (Instr.fieldAt s x i) := by
 unfold Instr.fieldAt
 refine SimOk.bind (underlying s) fun d hd => ?_
 split
 ·rename_i fs
  split
  ·rename_i f hf
   refine SimOk.bind (sureAddr _) fun a _ => SimOk.bind (Φ := fun _ => True) ?_ fun _ _ => SimOk.pure trivial
   unfold Go.fieldPlace
   refine SimOk.bind (sizeOf _) fun n hn => ?_
   obtain ⟨j, hj, rfl⟩ := hn
   rw [if_neg (hs fs hd f j hf hj)]
   exact SimOk.pure trivial
  ·exact SimOk.stuck _
 ·exact SimOk.stuck _
theorem unary (o : UnOp) (x : Value) : SimOk P (fun _ => True) (Op.unary o x) := by
 unfold Op.unary
 split
 ·unfold Op.intArith; repeat' (first
  | with_reducible exact SimOk.pure trivial
  | with_reducible exact SimOk.stuck _
  | with_reducible exact SimOk.unsupported _
  | with_reducible exact SimOk.gPanic _
  | with_reducible exact SimOk.runtimePanic _
  | with_reducible exact SimOk.boundsPanic _ _ _ _
  | with_reducible exact SimOk.load _ _
  | with_reducible exact SimOk.store _ _ _
  | with_reducible exact SimOk.newObj _
  | with_reducible exact SimOk.newVar _ _
  | with_reducible exact SimOk.newRow _ _
  | with_reducible exact SimOk.choose _
  | with_reducible exact SimOk.loadCells _ _
  | with_reducible exact SimOk.storeCells _ _ _
  | with_reducible exact SimOk.part _ _ _
  | (with_reducible apply SimOk.bind
     first
      | with_reducible exact SimOk.underlying _
      | with_reducible exact SimOk.typeInfo _
      | with_reducible exact SimOk.sizeOf _
      | with_reducible exact SimOk.zeroValue _
      | with_reducible exact SimOk.isAgg _
      | with_reducible exact SimOk.elemOf _
      | with_reducible exact SimOk.part _ _ _
      | with_reducible exact SimOk.asIntOf _
      | with_reducible exact SimOk.asInt _
      | with_reducible exact SimOk.asBool _
      | with_reducible exact SimOk.asString _
      | with_reducible exact SimOk.asAgg _
      | with_reducible exact SimOk.asAddr _
      | with_reducible exact SimOk.sureAddr _
      | with_reducible exact SimOk.load _ _
      | with_reducible exact SimOk.store _ _ _
      | with_reducible exact SimOk.newVar _ _
      | with_reducible exact SimOk.newRow _ _
      | with_reducible exact SimOk.newObj _
      | with_reducible exact SimOk.choose _
      | with_reducible exact SimOk.askRoom _
      | with_reducible exact SimOk.loadCells _ _
      | with_reducible exact SimOk.storeCells _ _ _
      | with_reducible exact SimOk.program
      | with_reducible exact (SimOk.gPanic (Φ := fun _ => True) _)
      | with_reducible exact (SimOk.runtimePanic (Φ := fun _ => True) _)
      | with_reducible exact (SimOk.stuck (Φ := fun _ => True) _)
      | with_reducible exact (SimOk.unsupported (Φ := fun _ => True) _)
      | with_reducible exact (SimOk.pure (Φ := fun _ => True) trivial)
     intro _ _)
  | dsimp only
  | split)
 ·unfold Op.intBits; dsimp only; repeat' (first
  | with_reducible exact SimOk.pure trivial
  | with_reducible exact SimOk.stuck _
  | with_reducible exact SimOk.unsupported _
  | with_reducible exact SimOk.gPanic _
  | with_reducible exact SimOk.runtimePanic _
  | with_reducible exact SimOk.boundsPanic _ _ _ _
  | with_reducible exact SimOk.load _ _
  | with_reducible exact SimOk.store _ _ _
  | with_reducible exact SimOk.newObj _
  | with_reducible exact SimOk.newVar _ _
  | with_reducible exact SimOk.newRow _ _
  | with_reducible exact SimOk.choose _
  | with_reducible exact SimOk.loadCells _ _
  | with_reducible exact SimOk.storeCells _ _ _
  | with_reducible exact SimOk.part _ _ _
  | (with_reducible apply SimOk.bind
     first
      | with_reducible exact SimOk.underlying _
      | with_reducible exact SimOk.typeInfo _
      | with_reducible exact SimOk.sizeOf _
      | with_reducible exact SimOk.zeroValue _
      | with_reducible exact SimOk.isAgg _
      | with_reducible exact SimOk.elemOf _
      | with_reducible exact SimOk.part _ _ _
      | with_reducible exact SimOk.asIntOf _
      | with_reducible exact SimOk.asInt _
      | with_reducible exact SimOk.asBool _
      | with_reducible exact SimOk.asString _
      | with_reducible exact SimOk.asAgg _
      | with_reducible exact SimOk.asAddr _
      | with_reducible exact SimOk.sureAddr _
      | with_reducible exact SimOk.load _ _
      | with_reducible exact SimOk.store _ _ _
      | with_reducible exact SimOk.newVar _ _
      | with_reducible exact SimOk.newRow _ _
      | with_reducible exact SimOk.newObj _
      | with_reducible exact SimOk.choose _
      | with_reducible exact SimOk.askRoom _
      | with_reducible exact SimOk.loadCells _ _
      | with_reducible exact SimOk.storeCells _ _ _
      | with_reducible exact SimOk.program
      | with_reducible exact (SimOk.gPanic (Φ := fun _ => True) _)
      | with_reducible exact (SimOk.runtimePanic (Φ := fun _ => True) _)
      | with_reducible exact (SimOk.stuck (Φ := fun _ => True) _)
      | with_reducible exact (SimOk.unsupported (Φ := fun _ => True) _)
      | with_reducible exact (SimOk.pure (Φ := fun _ => True) trivial)
     intro _ _)
  | dsimp only
  | split)
 iterate 6
  ·repeat' (first
   | with_reducible exact SimOk.pure trivial
   | with_reducible exact SimOk.stuck _
   | with_reducible exact SimOk.unsupported _
   | with_reducible exact SimOk.gPanic _
   | with_reducible exact SimOk.runtimePanic _
   | with_reducible exact SimOk.boundsPanic _ _ _ _
   | with_reducible exact SimOk.load _ _
   | with_reducible exact SimOk.store _ _ _
   | with_reducible exact SimOk.newObj _
   | with_reducible exact SimOk.newVar _ _
   | with_reducible exact SimOk.newRow _ _
   | with_reducible exact SimOk.choose _
   | with_reducible exact SimOk.loadCells _ _
   | with_reducible exact SimOk.storeCells _ _ _
   | with_reducible exact SimOk.part _ _ _
   | (with_reducible apply SimOk.bind
      first
       | with_reducible exact SimOk.underlying _
       | with_reducible exact SimOk.typeInfo _
       | with_reducible exact SimOk.sizeOf _
       | with_reducible exact SimOk.zeroValue _
       | with_reducible exact SimOk.isAgg _
       | with_reducible exact SimOk.elemOf _
       | with_reducible exact SimOk.part _ _ _
       | with_reducible exact SimOk.asIntOf _
       | with_reducible exact SimOk.asInt _
       | with_reducible exact SimOk.asBool _
       | with_reducible exact SimOk.asString _
       | with_reducible exact SimOk.asAgg _
       | with_reducible exact SimOk.asAddr _
       | with_reducible exact SimOk.sureAddr _
       | with_reducible exact SimOk.load _ _
       | with_reducible exact SimOk.store _ _ _
       | with_reducible exact SimOk.newVar _ _
       | with_reducible exact SimOk.newRow _ _
       | with_reducible exact SimOk.newObj _
       | with_reducible exact SimOk.choose _
       | with_reducible exact SimOk.askRoom _
       | with_reducible exact SimOk.loadCells _ _
       | with_reducible exact SimOk.storeCells _ _ _
       | with_reducible exact SimOk.program
       | with_reducible exact (SimOk.gPanic (Φ := fun _ => True) _)
       | with_reducible exact (SimOk.runtimePanic (Φ := fun _ => True) _)
       | with_reducible exact (SimOk.stuck (Φ := fun _ => True) _)
       | with_reducible exact (SimOk.unsupported (Φ := fun _ => True) _)
       | with_reducible exact (SimOk.pure (Φ := fun _ => True) trivial)
      intro _ _)
   | dsimp only
   | split)
theorem len_ (ts : Array TypeId) (t : TypeId) (as : Array Value) : SimOk P (fun _ => True) (Builtin.len_ ts t as) := by
 unfold Builtin.len_
 split
 ·refine SimOk.bind (underlying _) fun d _ => ?_
  split
  ·exact SimOk.pure trivial
  ·exact SimOk.pure trivial
  ·refine SimOk.bind (underlying _) fun d _ => ?_
   repeat' (first
  | with_reducible exact SimOk.pure trivial
  | with_reducible exact SimOk.stuck _
  | with_reducible exact SimOk.unsupported _
  | with_reducible exact SimOk.gPanic _
  | with_reducible exact SimOk.runtimePanic _
  | with_reducible exact SimOk.boundsPanic _ _ _ _
  | with_reducible exact SimOk.load _ _
  | with_reducible exact SimOk.store _ _ _
  | with_reducible exact SimOk.newObj _
  | with_reducible exact SimOk.newVar _ _
  | with_reducible exact SimOk.newRow _ _
  | with_reducible exact SimOk.choose _
  | with_reducible exact SimOk.loadCells _ _
  | with_reducible exact SimOk.storeCells _ _ _
  | with_reducible exact SimOk.part _ _ _
  | (with_reducible apply SimOk.bind
     first
      | with_reducible exact SimOk.underlying _
      | with_reducible exact SimOk.typeInfo _
      | with_reducible exact SimOk.sizeOf _
      | with_reducible exact SimOk.zeroValue _
      | with_reducible exact SimOk.isAgg _
      | with_reducible exact SimOk.elemOf _
      | with_reducible exact SimOk.part _ _ _
      | with_reducible exact SimOk.asIntOf _
      | with_reducible exact SimOk.asInt _
      | with_reducible exact SimOk.asBool _
      | with_reducible exact SimOk.asString _
      | with_reducible exact SimOk.asAgg _
      | with_reducible exact SimOk.asAddr _
      | with_reducible exact SimOk.sureAddr _
      | with_reducible exact SimOk.load _ _
      | with_reducible exact SimOk.store _ _ _
      | with_reducible exact SimOk.newVar _ _
      | with_reducible exact SimOk.newRow _ _
      | with_reducible exact SimOk.newObj _
      | with_reducible exact SimOk.choose _
      | with_reducible exact SimOk.askRoom _
      | with_reducible exact SimOk.loadCells _ _
      | with_reducible exact SimOk.storeCells _ _ _
      | with_reducible exact SimOk.program
      | with_reducible exact (SimOk.gPanic (Φ := fun _ => True) _)
      | with_reducible exact (SimOk.runtimePanic (Φ := fun _ => True) _)
      | with_reducible exact (SimOk.stuck (Φ := fun _ => True) _)
      | with_reducible exact (SimOk.unsupported (Φ := fun _ => True) _)
      | with_reducible exact (SimOk.pure (Φ := fun _ => True) trivial)
     intro _ _)
  | dsimp only
  | split)
  iterate 3
   ·exact SimOk.pure trivial
  iterate 2
   ·refine SimOk.getObj trivial fun o => ?_
    repeat' (first
   | with_reducible exact SimOk.pure trivial
   | with_reducible exact SimOk.stuck _
   | with_reducible exact SimOk.unsupported _
   | with_reducible exact SimOk.gPanic _
   | with_reducible exact SimOk.runtimePanic _
   | with_reducible exact SimOk.boundsPanic _ _ _ _
   | with_reducible exact SimOk.load _ _
   | with_reducible exact SimOk.store _ _ _
   | with_reducible exact SimOk.newObj _
   | with_reducible exact SimOk.newVar _ _
   | with_reducible exact SimOk.newRow _ _
   | with_reducible exact SimOk.choose _
   | with_reducible exact SimOk.loadCells _ _
   | with_reducible exact SimOk.storeCells _ _ _
   | with_reducible exact SimOk.part _ _ _
   | (with_reducible apply SimOk.bind
      first
       | with_reducible exact SimOk.underlying _
       | with_reducible exact SimOk.typeInfo _
       | with_reducible exact SimOk.sizeOf _
       | with_reducible exact SimOk.zeroValue _
       | with_reducible exact SimOk.isAgg _
       | with_reducible exact SimOk.elemOf _
       | with_reducible exact SimOk.part _ _ _
       | with_reducible exact SimOk.asIntOf _
       | with_reducible exact SimOk.asInt _
       | with_reducible exact SimOk.asBool _
       | with_reducible exact SimOk.asString _
       | with_reducible exact SimOk.asAgg _
       | with_reducible exact SimOk.asAddr _
       | with_reducible exact SimOk.sureAddr _
       | with_reducible exact SimOk.load _ _
       | with_reducible exact SimOk.store _ _ _
       | with_reducible exact SimOk.newVar _ _
       | with_reducible exact SimOk.newRow _ _
       | with_reducible exact SimOk.newObj _
       | with_reducible exact SimOk.choose _
       | with_reducible exact SimOk.askRoom _
       | with_reducible exact SimOk.loadCells _ _
       | with_reducible exact SimOk.storeCells _ _ _
       | with_reducible exact SimOk.program
       | with_reducible exact (SimOk.gPanic (Φ := fun _ => True) _)
       | with_reducible exact (SimOk.runtimePanic (Φ := fun _ => True) _)
       | with_reducible exact (SimOk.stuck (Φ := fun _ => True) _)
       | with_reducible exact (SimOk.unsupported (Φ := fun _ => True) _)
       | with_reducible exact (SimOk.pure (Φ := fun _ => True) trivial)
      intro _ _)
   | dsimp only
   | split)
  ·exact SimOk.stuck _
 ·exact SimOk.stuck _
end
end SimOk
end Go.Proofs.Ytilpedopnkhppaa.Br

