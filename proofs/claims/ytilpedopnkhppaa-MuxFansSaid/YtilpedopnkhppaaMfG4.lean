/- A lone walk, carried into company, eighth part: append, conversions, calls; a checker of operations. Conditions: each theorem's own. -/
import Derived.Test.YtilpedopnkhppaaMfG3
import Derived.Test.YtilpedopnkhppaaMfG1
import Derived.Conc.CrowdSel
import Derived.Conc.CrowdCom2
import Derived.Conc.CrowdComm
set_option linter.unusedVariables false
set_option linter.unusedSimpArgs false
namespace Go.Proofs.Ytilpedopnkhppaa.Br
open Go.Conc
def Calm {α : Type} : Sem α → Prop
 | .pure _ => True
 | .load _ _ k => ∀ v, Calm (k v)
 | .store _ _ _ k => Calm k
 | .new _ k => ∀ r, Calm (k r)
 | .shape _ k => ∀ s, Calm (k s)
 | .freeze _ _ k => Calm k
 | .frozen _ k => ∀ b, Calm (k b)
 | .getObj _ k => ∀ o, Calm (k o)
 | .setObj _ _ k => Calm k
 | .choose _ k => ∀ n, Calm (k n)
 | .sys _ _ => False
 | .program k => ∀ p, Calm (k p)
 | .mark _ k => Calm k
 | .halt h => Ends h
theorem Calm.bind {α β : Type} {x : Sem α} {f : α → Sem β} (hx : Calm x) (hf : ∀ a, Calm (f a)) : Calm (x >>= f) := by
 show Calm (x.bind f)
 induction x with
 | pure a => exact hf a
 | halt h => exact hx
 | load m a k ih => exact fun v => ih v (hx v)
 | store m a v k ih => exact ih hx
 | new o k ih => exact fun v => ih v (hx v)
 | shape r k ih => exact fun v => ih v (hx v)
 | freeze a n k ih => exact ih hx
 | frozen a k ih => exact fun v => ih v (hx v)
 | getObj r k ih => exact fun v => ih v (hx v)
 | setObj r o k ih => exact ih hx
 | choose q k ih => exact fun v => ih v (hx v)
 | sys c k ih => exact hx
 | program k ih => exact fun v => ih v (hx v)
 | mark m k ih => exact ih hx
theorem doomed_bind {P : Program} {α β : Type} {x : Sem α} {f : α → Sem β} (hx : Calm x) (hf : ∀ a, Doomed P (f a)) : Doomed P (x >>= f) := by
 show Doomed P (x.bind f)
 induction x with
 | pure a => exact hf a
 | halt h => exact hx
 | load m a k ih => exact fun v => ih v (hx v)
 | store m a v k ih => exact ih hx
 | new o k ih => exact fun v => ih v (hx v)
 | shape r k ih => exact fun v => ih v (hx v)
 | freeze a n k ih => exact ih hx
 | frozen a k ih => exact fun v => ih v (hx v)
 | getObj r k ih => exact fun v => ih v (hx v)
 | setObj r o k ih => exact ih hx
 | choose q k ih => exact fun v => ih v (hx v)
 | sys c k ih => exact hx
 | program k ih => exact ih _ (hx _)
 | mark m k ih => exact ih hx
theorem calm_holds (a : Addr) (n : Nat) : Calm (Builtin.holdsCells a n) := by
 unfold Builtin.holdsCells
 intro s
 cases s <;> trivial
theorem calm_share (sz n m : Nat) (base : Option Addr) (x : Value) : Calm (Builtin.mayShare sz n m base x) := by
 unfold Builtin.mayShare
 have h2 : ∀ t : Bool, Calm (if (!t) = true then Pure.pure true else match x with
   | .slice (some b) _ _ => do pure (!(← Builtin.holdsCells b (m * sz)) || base.any (·.block == b.block))
   | _ => pure false : Sem Bool) := by
  intro t
  split
  ·trivial
  ·split
   ·exact Calm.bind (calm_holds _ _) fun _ => trivial
   ·trivial
 dsimp only
 cases base with
 | none => exact h2 true
 | some a =>
  exact Calm.bind (calm_holds _ _) fun b1 => Calm.bind (x := frozen _) (fun _ => trivial) fun b2 => h2 _
namespace SimOk
section
variable {P : Program} {α : Type} {Φ : α → Prop}
theorem ite {c : Prop} [Decidable c] {x y : Sem α} (hx : c → SimOk P Φ x) (hy : ¬ c → SimOk P Φ y) : SimOk P Φ (if c then x else y) := by
 split
 ·rename_i h; exact hx h
 ·rename_i h; exact hy h
theorem firstCells (sz n : Nat) (x : Value) : SimOk P (fun _ => True) (Builtin.firstCells sz n x) := by
 unfold Builtin.firstCells
 split
 ·exact loadCells _ _
 ·exact SimOk.pure trivial
 ·exact SimOk.pure trivial
 ·exact SimOk.stuck _
theorem lenOf (x : Value) : SimOk P (fun _ => True) (Builtin.lenOf x) := by
 unfold Builtin.lenOf
 split
 ·exact SimOk.pure trivial
 ·exact SimOk.pure trivial
 ·exact SimOk.stuck _
theorem append_ (ts : Array TypeId) (t : TypeId) (as : Array Value) : SimOk P (fun _ => True) (Builtin.append_ ts t as) := by
 have hdoom : ∀ (β : Type) (sz n m : Nat) (base : Option Addr) (x : Value) (s : Unsupported), SimOk P (fun _ => True) (do
   let __do_lift ← Builtin.mayShare sz n m base x
   if (!__do_lift) = true then do
     Go.mark .noRoom
     Go.unsupported s
    else Go.unsupported s : Sem β) := by
  intro β sz n m base x s
  refine SimOk.doomed (doomed_bind (calm_share _ _ _ _ _) fun b => ?_)
  split
  ·trivial
  ·trivial
 have hd2 : ∀ (β : Type) (z : Bool) (sz n m : Nat) (base : Option Addr) (x : Value) (s : Unsupported), SimOk P (fun _ => True) (if z = true then Go.runtimePanic (RuntimeError.error "growslice: len out of range") else do
   let __do_lift ← Builtin.mayShare sz n m base x
   if (!__do_lift) = true then do
     Go.mark .noRoom
     Go.unsupported s
    else Go.unsupported s : Sem β) := fun β z sz n m base x s => ite (fun _ => runtimePanic _) fun _ => hdoom _ _ _ _ _ _ _
 have happ : ∀ (z : Bool) (sz n : Nat) (x : Value) (e : TypeId), SimOk P (fun _ => True) (if (!z) = true then Builtin.firstCells sz n x else if n * sz = 0 then Pure.pure #[] else do
   let __do_lift ← Go.zeroValue e
   Pure.pure (Builtin.zeroCells __do_lift.cells n) : Sem (Array Value)) := fun z sz n x e => ite (fun _ => firstCells _ _ _) fun _ => ite (fun _ => SimOk.pure trivial) fun _ => SimOk.bind (zeroValue _) fun _ _ => SimOk.pure trivial
 unfold Builtin.append_
 repeat' (first
  | with_reducible exact hd2 _ _ _ _ _ _ _ _
  | with_reducible exact hdoom _ _ _ _ _ _ _
  | with_reducible exact SimOk.pure trivial
  | with_reducible exact SimOk.stuck _
  | with_reducible exact SimOk.unsupported _
  | with_reducible exact SimOk.runtimePanic _
  | (with_reducible apply SimOk.bind
     first
      | with_reducible exact SimOk.underlying _
      | with_reducible exact SimOk.typeInfo _
      | with_reducible exact SimOk.sizeOf _
      | with_reducible exact SimOk.zeroValue _
      | with_reducible exact SimOk.asInt _
      | with_reducible exact SimOk.choose _
      | with_reducible exact SimOk.askRoom _
      | with_reducible exact SimOk.firstCells _ _ _
      | with_reducible exact SimOk.lenOf _
      | with_reducible exact happ _ _ _ _ _
      | with_reducible exact hd2 _ _ _ _ _ _ _ _
      | with_reducible exact SimOk.storeCells _ _ _
      | with_reducible exact SimOk.newRow _ _
      | with_reducible exact (SimOk.runtimePanic (Φ := fun _ => True) _)
      | with_reducible exact (SimOk.stuck (Φ := fun _ => True) _)
      | with_reducible exact (SimOk.unsupported (Φ := fun _ => True) _)
      | with_reducible exact (SimOk.pure (Φ := fun _ => True) trivial)
     intro _ _)
  | (with_reducible apply SimOk.ite <;> intro _)
  | dsimp only
  | split)
theorem min_ (ts : Array TypeId) (t : TypeId) (as : Array Value) : SimOk P (fun _ => True) (Builtin.min_ ts t as) := by
 have h2 : ∀ x y, SimOk P (fun _ => True) (Builtin.min2 x y) := by
  intro x y
  unfold Builtin.min2
  repeat' (first
   | with_reducible exact SimOk.pure trivial
   | with_reducible exact SimOk.stuck _
   | with_reducible exact SimOk.unsupported _
   | (with_reducible apply SimOk.bind
      first
       | with_reducible exact SimOk.choose _
       | with_reducible exact SimOk.stringOp _ _ _
       | with_reducible exact SimOk.asBool _
      intro _ _)
   | dsimp only
   | split)
 unfold Builtin.min_
 split
 ·exact SimOk.stuck _
 ·exact foldlM_ok h2 _ _
theorem max_ (ts : Array TypeId) (t : TypeId) (as : Array Value) : SimOk P (fun _ => True) (Builtin.max_ ts t as) := by
 have h2 : ∀ x y, SimOk P (fun _ => True) (Builtin.max2 x y) := by
  intro x y
  unfold Builtin.max2
  repeat' (first
   | with_reducible exact SimOk.pure trivial
   | with_reducible exact SimOk.stuck _
   | with_reducible exact SimOk.unsupported _
   | (with_reducible apply SimOk.bind
      first
       | with_reducible exact SimOk.choose _
       | with_reducible exact SimOk.stringOp _ _ _
       | with_reducible exact SimOk.asBool _
      intro _ _)
   | dsimp only
   | split)
 unfold Builtin.max_
 split
 ·exact SimOk.stuck _
 ·exact foldlM_ok h2 _ _
theorem followBlind : ∀ (l : List FieldStep) (t : TypeId) (x : Option Value), SimOk P (fun _ => True) (Go.followBlind l t x) := by
 intro l
 induction l with
 | nil => intro t x; exact SimOk.pure trivial
 | cons s l ih =>
  intro t x
  unfold Go.followBlind
  refine SimOk.bind (underlying _) fun d _ => ?_
  split
  ·split
   ·split
    ·exact SimOk.pure trivial
    ·exact ih _ _
    ·exact SimOk.stuck _
    ·exact SimOk.pure trivial
    ·exact SimOk.bind (part _ _ _) fun _ _ => ih _ _
    ·exact SimOk.stuck _
    ·exact ih _ _
   ·exact SimOk.stuck _
  ·exact SimOk.stuck _
theorem nilAhead (n : String) : ∀ (fuel : Nat) (t : TypeId) (v : Value), SimOk P (fun _ => True) (Go.nilAhead fuel t v n) := by
 intro fuel
 induction fuel with
 | zero => intro t v; exact SimOk.pure trivial
 | succ f ih =>
  intro t v
  unfold Go.nilAhead
  refine SimOk.bind (typeInfo _) fun i _ => ?_
  split
  ·refine SimOk.bind (followBlind _ _ _) fun r _ => ?_
   split
   ·exact SimOk.pure trivial
   ·split
    ·exact ih _ _
    ·exact SimOk.pure trivial
    ·exact SimOk.stuck _
    ·exact SimOk.pure trivial
    ·exact SimOk.pure trivial
    ·refine SimOk.bind (underlying _) fun _ _ => ?_
     split <;> exact SimOk.pure trivial
  ·exact SimOk.stuck _
theorem floatToInt (s : FloatKind) (b : Nat) (d : IntKind) : SimOk P (fun _ => True) (Conv.floatToInt s b d) := by
 unfold Conv.floatToInt
 repeat' (first
  | with_reducible exact SimOk.pure trivial
  | with_reducible exact SimOk.stuck _
  | with_reducible exact SimOk.unsupported _
  | with_reducible exact SimOk.gPanic _
  | with_reducible exact SimOk.runtimePanic _
  | with_reducible exact SimOk.boundsPanic _ _ _ _
  | with_reducible exact SimOk.load _ _
  | with_reducible exact SimOk.store _ _ _
  | with_reducible exact SimOk.newObj _
  | with_reducible exact SimOk.newVar _ _
  | with_reducible exact SimOk.newRow _ _
  | with_reducible exact SimOk.choose _
  | with_reducible exact SimOk.loadCells _ _
  | with_reducible exact SimOk.storeCells _ _ _
  | with_reducible exact SimOk.part _ _ _
  | (with_reducible apply SimOk.bind
     first
      | with_reducible exact SimOk.underlying _
      | with_reducible exact SimOk.typeInfo _
      | with_reducible exact SimOk.sizeOf _
      | with_reducible exact SimOk.zeroValue _
      | with_reducible exact SimOk.isAgg _
      | with_reducible exact SimOk.elemOf _
      | with_reducible exact SimOk.part _ _ _
      | with_reducible exact SimOk.asIntOf _
      | with_reducible exact SimOk.asInt _
      | with_reducible exact SimOk.asBool _
      | with_reducible exact SimOk.asString _
      | with_reducible exact SimOk.asAgg _
      | with_reducible exact SimOk.asAddr _
      | with_reducible exact SimOk.sureAddr _
      | with_reducible exact SimOk.load _ _
      | with_reducible exact SimOk.store _ _ _
      | with_reducible exact SimOk.newVar _ _
      | with_reducible exact SimOk.newRow _ _
      | with_reducible exact SimOk.newObj _
      | with_reducible exact SimOk.choose _
      | with_reducible exact SimOk.askRoom _
      | with_reducible exact SimOk.loadCells _ _
      | with_reducible exact SimOk.storeCells _ _ _
      | with_reducible exact SimOk.program
      | with_reducible exact (SimOk.gPanic (Φ := fun _ => True) _)
      | with_reducible exact (SimOk.runtimePanic (Φ := fun _ => True) _)
      | with_reducible exact (SimOk.stuck (Φ := fun _ => True) _)
      | with_reducible exact (SimOk.unsupported (Φ := fun _ => True) _)
      | with_reducible exact (SimOk.pure (Φ := fun _ => True) trivial)
     intro _ _)
  | dsimp only
  | split)
theorem forIn_ok {β γ : Type} {f : β → γ → Sem (ForInStep γ)} (hf : ∀ b c, SimOk P (fun _ => True) (f b c)) : ∀ (l : List β) (c : γ), SimOk P (fun _ => True) (forIn l c f) := by
 intro l
 induction l with
 | nil => intro c; simp only [List.forIn_nil]; exact SimOk.pure trivial
 | cons x l ih =>
  intro c
  simp only [List.forIn_cons]
  refine SimOk.bind (hf x c) fun s _ => ?_
  split
  ·exact SimOk.pure trivial
  ·exact ih _
theorem bytesToString (x : Value) : SimOk P (fun _ => True) (Conv.bytesToString x) := by
 unfold Conv.bytesToString
 split
 ·exact SimOk.pure trivial
 ·refine SimOk.bind (loadCells _ _) fun cs _ => ?_
  refine SimOk.bind (Φ := fun _ => True) ?_ fun _ _ => SimOk.pure trivial
  rw [← Array.forIn_toList]
  refine forIn_ok (fun b c => ?_) _ _
  repeat' (first
  | with_reducible exact SimOk.pure trivial
  | with_reducible exact SimOk.stuck _
  | with_reducible exact SimOk.unsupported _
  | with_reducible exact SimOk.gPanic _
  | with_reducible exact SimOk.runtimePanic _
  | with_reducible exact SimOk.boundsPanic _ _ _ _
  | with_reducible exact SimOk.load _ _
  | with_reducible exact SimOk.store _ _ _
  | with_reducible exact SimOk.newObj _
  | with_reducible exact SimOk.newVar _ _
  | with_reducible exact SimOk.newRow _ _
  | with_reducible exact SimOk.choose _
  | with_reducible exact SimOk.loadCells _ _
  | with_reducible exact SimOk.storeCells _ _ _
  | with_reducible exact SimOk.part _ _ _
  | (with_reducible apply SimOk.bind
     first
      | with_reducible exact SimOk.underlying _
      | with_reducible exact SimOk.typeInfo _
      | with_reducible exact SimOk.sizeOf _
      | with_reducible exact SimOk.zeroValue _
      | with_reducible exact SimOk.isAgg _
      | with_reducible exact SimOk.elemOf _
      | with_reducible exact SimOk.part _ _ _
      | with_reducible exact SimOk.asIntOf _
      | with_reducible exact SimOk.asInt _
      | with_reducible exact SimOk.asBool _
      | with_reducible exact SimOk.asString _
      | with_reducible exact SimOk.asAgg _
      | with_reducible exact SimOk.asAddr _
      | with_reducible exact SimOk.sureAddr _
      | with_reducible exact SimOk.load _ _
      | with_reducible exact SimOk.store _ _ _
      | with_reducible exact SimOk.newVar _ _
      | with_reducible exact SimOk.newRow _ _
      | with_reducible exact SimOk.newObj _
      | with_reducible exact SimOk.choose _
      | with_reducible exact SimOk.askRoom _
      | with_reducible exact SimOk.loadCells _ _
      | with_reducible exact SimOk.storeCells _ _ _
      | with_reducible exact SimOk.program
      | with_reducible exact (SimOk.gPanic (Φ := fun _ => True) _)
      | with_reducible exact (SimOk.runtimePanic (Φ := fun _ => True) _)
      | with_reducible exact (SimOk.stuck (Φ := fun _ => True) _)
      | with_reducible exact (SimOk.unsupported (Φ := fun _ => True) _)
      | with_reducible exact (SimOk.pure (Φ := fun _ => True) trivial)
     intro _ _)
  | dsimp only
  | split)
 ·exact SimOk.stuck _
def okConv (P : Program) (s d : TypeId) : Bool := match P.underlying s, P.underlying d with
 | some (.int _), some (.int _) => true
 | some (.slice e), some .string => (match P.underlying e with | some (.int .u8) => true | _ => false)
 | _, _ => false
theorem convert (s d : TypeId) (x : Value) (h : okConv P s d = true) : SimOk P (fun _ => True) (Go.convert s d x) := by
 unfold Go.convert
 refine SimOk.bind (underlying s) fun a ha => SimOk.bind (underlying d) fun b hb => ?_
 unfold okConv at h
 rw [ha, hb] at h
 split at h
 ·rename_i h1 h2
  cases h1; cases h2
  cases x <;> first
   | exact SimOk.unsupported _
   | exact SimOk.pure trivial
   | exact floatToInt _ _ _
   | (rename_i o; cases o <;> exact SimOk.unsupported _)
 ·rename_i e h1 h2
  cases h1; cases h2
  have hu : ∀ y, SimOk P (fun _ => True) (do
    let __do_lift ← Go.underlying e
    match __do_lift with
     | .int .u8 => Conv.bytesToString y
     | .int .i32 => Conv.runesToString y
     | _ => Go.stuck "Convert: a slice of what to string?" : Sem Value) := by
   intro y
   refine SimOk.bind (underlying e) fun c hc => ?_
   rw [hc] at h
   split at h
   ·rename_i h3; cases h3; exact bytesToString _
   ·cases h
  cases x <;> first
   | exact hu _
   | exact SimOk.pure trivial
 ·cases h
theorem callF (F : List FuncId) {f : FuncId} (hf : F.contains f = true) (hb : (match P.funcs[f]? with | some fn => fn.body.isSome && !(fn.name == "runtime.NumGoroutine") | none => false) = true) (as : Array Value) : SimOk P (NextOk F) (Go.callFunc f as) := by
 unfold Go.callFunc
 refine SimOk.bind SimOk.program fun p hp => ?_
 subst hp
 split
 ·exact SimOk.stuck _
 ·rename_i fn hfn
  rw [hfn] at hb
  simp only [Bool.and_eq_true, Bool.not_eq_true'] at hb
  have h2 : fn.body.isNone = false := by cases h : fn.body <;> simp_all
  simp only [hb.2, h2, Bool.false_eq_true, if_false]
  exact SimOk.pure (by simpa [NextOk] using hf)
theorem val (F : List FuncId) {x : Sem Value} (h : SimOk P (fun _ => True) x) : SimOk P (NextOk F) (do Pure.pure (.value (← x))) := SimOk.bind h fun _ _ => SimOk.pure trivial
theorem unt (F : List FuncId) {x : Sem Unit} (h : SimOk P (fun _ => True) x) : SimOk P (NextOk F) (do x; Pure.pure .skip) := SimOk.bind h fun _ _ => SimOk.pure trivial
end
end SimOk
def okOper (P : Program) (F : List FuncId) (o : Oper) : Bool := match o.op with
 | .move _ | .assign _ | .pick .. | .alloc _ | .box .. | .build .. | .buildSlice .. | .load .. | .store .. | .unOp .. | .makeFunc .. | .makeChan .. | .makeSlice .. | .slice .. | .indexAddr .. | .index .. | .extract .. | .nilCheck _ => true
 | .fieldAddr s _ i => (match P.underlying s with
   | some (.struct fs) => (match fs[i]? with
     | some f => (match P.info? f.type with | some j => j.size != 0 | none => true)
     | none => true)
   | _ => true)
 | .binOp op t _ y _ => SimOk.okBin P op t y
 | .convert s d _ => SimOk.okConv P s d
 | .call c => (match c.callee with
   | .value (.func f) => F.contains f && (match P.funcs[f]? with | some fn => fn.body.isSome && !(fn.name == "runtime.NumGoroutine") | none => false)
   | .builtin .len | .builtin .append | .builtin .min | .builtin .max => true
   | _ => false)
 | .select cases blocking => cases.size == 1 && !blocking
 | _ => false
theorem okOper_ok {P : Program} {F : List FuncId} {o : Oper} (h : okOper P F o = true) : OperOk P F o := by
 intro fr
 unfold okOper at h
 unfold execOp
 split at h <;> rename_i ho <;> simp only [ho]
 ·exact SimOk.pure trivial
 ·exact SimOk.pure trivial
 ·exact SimOk.bind (SimOk.asBool _) fun _ _ => SimOk.pure trivial
 ·exact SimOk.val F (SimOk.alloc _ _)
 ·exact SimOk.val F (SimOk.box _ _)
 ·exact SimOk.val F (SimOk.build _ _)
 ·exact SimOk.val F (SimOk.buildSlice _ _ _)
 ·exact SimOk.val F (SimOk.loadAt _ _)
 ·exact SimOk.unt F (SimOk.storeAt _ _ _)
 ·exact SimOk.val F (SimOk.unary _ _)
 ·exact SimOk.val F (SimOk.pure trivial)
 ·exact SimOk.val F (SimOk.makeChan _ _)
 ·exact SimOk.val F (SimOk.makeSlice _ _ _)
 ·exact SimOk.val F (SimOk.sliceAt _ _ _ _ _)
 ·exact SimOk.val F (SimOk.indexAt _ _ _)
 ·exact SimOk.val F (SimOk.index _ _ _)
 ·exact SimOk.val F (SimOk.extract _ _)
 ·split
  iterate 3
   ·exact SimOk.runtimePanic _
  ·split
   ·exact SimOk.runtimePanic _
   ·refine SimOk.bind SimOk.program fun p _ => SimOk.bind (SimOk.nilAhead _ _ _ _) fun b _ => ?_
    try dsimp only
    split
    ·exact SimOk.bind (SimOk.unsupported (Φ := fun _ => True) _) fun _ _ => SimOk.pure trivial
    ·exact SimOk.pure trivial
   ·exact SimOk.pure trivial
  ·exact SimOk.pure trivial
 ·rename_i s x i
  refine SimOk.val F (SimOk.fieldAt _ _ _ fun fs hfs f j hf hj => ?_)
  rw [hfs] at h
  simp only [hf, hj, bne_iff_ne, ne_eq] at h
  exact h
 ·exact SimOk.val F (SimOk.binary fr _ _ _ _ h)
 ·exact SimOk.val F (SimOk.convert _ _ _ h)
 ·rename_i c
  split at h
  ·rename_i f hc
   rw [Bool.and_eq_true] at h
   unfold resolve
   simp only [hc]
   exact SimOk.bind (Φ := fun d => ∃ as, d = { target := .fn (.func f) #[], args := as }) (SimOk.pure ⟨_, rfl⟩) fun d hd => by
    obtain ⟨as, rfl⟩ := hd
    exact SimOk.callF F h.1 h.2 _
  ·rename_i hc
   unfold resolve
   simp only [hc]
   exact SimOk.val F (SimOk.len_ _ _ _)
  ·rename_i hc
   unfold resolve
   simp only [hc]
   exact SimOk.val F (SimOk.append_ _ _ _)
  ·rename_i hc
   unfold resolve
   simp only [hc]
   exact SimOk.val F (SimOk.min_ _ _ _)
  ·rename_i hc
   unfold resolve
   simp only [hc]
   exact SimOk.val F (SimOk.max_ _ _ _)
  ·cases h
 ·rename_i cases blocking
  simp only [Bool.and_eq_true, beq_iff_eq, Bool.not_eq_true'] at h
  obtain ⟨h1, rfl⟩ := h
  refine SimOk.bind (Φ := fun cs => ∃ c, cs = #[c]) ?_ fun cs hcs => SimOk.pure ⟨rfl, rfl, hcs⟩
  obtain ⟨l⟩ := cases
  rcases l with _ | ⟨s, _ | ⟨t, r⟩⟩
  ·simp at h1
  ·rw [Array.mapM_eq_mapM_toList]
   refine SimOk.bind (Φ := fun l => ∃ c, l = [c]) ?_ fun l hl => SimOk.pure ?_
   ·simp only [List.mapM_cons, List.mapM_nil]
    refine SimOk.bind (Φ := fun _ => True) (SimOk.bind (SimOk.zeroValue _) fun _ _ => SimOk.pure trivial) fun c _ => ?_
    refine SimOk.bind (Φ := fun l => l = []) (SimOk.pure rfl) fun l hl => SimOk.pure ⟨c, by rw [hl]⟩
   ·obtain ⟨c, rfl⟩ := hl
    exact ⟨c, rfl⟩
  ·simp at h1
 ·cases h
def okCode (P : Program) (F : List FuncId) : Code → Bool
 | .skip | .label _ | .ret | .exit _ => true
 | .seq a b => okCode P F a && okCode P F b
 | .cond _ a b => okCode P F a && okCode P F b
 | .block _ c | .loop c => okCode P F c
 | .region _ ops _ => ops.all (okOper P F)
 | _ => false
theorem okCode_ok {P : Program} {F : List FuncId} : ∀ {c : Code}, okCode P F c = true → CodeOk P F c
 | .skip, _ | .label _, _ | .ret, _ | .exit _, _ => trivial
 | .seq a b, h => by
   unfold okCode at h
   rw [Bool.and_eq_true] at h
   exact ⟨okCode_ok h.1, okCode_ok h.2⟩
 | .cond _ a b, h => by
   unfold okCode at h
   rw [Bool.and_eq_true] at h
   exact ⟨okCode_ok h.1, okCode_ok h.2⟩
 | .block _ c, h => okCode_ok (c := c) h
 | .loop c, h => okCode_ok (c := c) h
 | .region _ ops _, h => fun i o ho => okOper_ok (Array.all_eq_true_iff_forall_mem.1 h o (Array.mem_of_getElem? ho))
 | .rangeFunc .., h | .scope _, h | .goto _, h | .refuse _, h => by cases h
def okFun (P : Program) (F : List FuncId) (f : FuncId) : Bool := match P.funcs[f]? with
 | some fn => (match fn.body with | some c => okCode P F c | none => false) && fn.results.all fun r => match r with | .tmp _ => true | _ => false
 | none => false
theorem okFun_ok {P : Program} {F : List FuncId} {f : FuncId} (h : okFun P F f = true) : FunOk P F f := by
 unfold okFun at h
 split at h
 ·rename_i fn hfn
  rw [Bool.and_eq_true] at h
  obtain ⟨h1, h2⟩ := h
  split at h1
  ·rename_i c hc
   refine ⟨fn, c, hfn, hc, okCode_ok h1, fun tmps => ?_⟩
   unfold results
   refine SimOk.bind (Φ := fun _ => True) ?_ fun _ _ => SimOk.pure trivial
   have hall : ∀ r ∈ fn.results.toList, ∃ t, r = .tmp t := by
    intro r hr
    have := Array.all_eq_true_iff_forall_mem.1 h2 r (Array.mem_toList_iff.1 hr)
    cases r with
    | tmp t => exact ⟨t, rfl⟩
    | cell a t => cases this
   rw [Array.mapM_eq_mapM_toList]
   refine SimOk.bind (Φ := fun _ => True) ?_ fun _ _ => SimOk.pure trivial
   generalize fn.results.toList = l at hall
   induction l with
   | nil => simp only [List.mapM_nil]; exact SimOk.pure trivial
   | cons r l ih =>
    obtain ⟨t, rfl⟩ := hall r (List.mem_cons_self ..)
    simp only [List.mapM_cons]
    exact SimOk.bind (Φ := fun _ => True) (SimOk.pure trivial) fun _ _ => SimOk.bind (ih fun r hr => hall r (List.mem_cons_of_mem _ hr)) fun _ _ => SimOk.pure trivial
  ·cases h1
 ·cases h
theorem okFuns {P : Program} {F : List FuncId} (h : F.all (okFun P F) = true) : ∀ f ∈ F, FunOk P F f := fun f hf => okFun_ok (List.all_eq_true.1 h f hf)
end Go.Proofs.Ytilpedopnkhppaa.Br

/- A lone walk, carried into company, third part: a select of one case with a default, where nobody waits at a channel. Conditions: each theorem's own. -/
namespace Go.Proofs.Ytilpedopnkhppaa.Br
open Go.Conc
def NoOne (gs : Array Goroutine) : Prop := ∀ r b, partners gs r b = []
def ActOk (B : Nat) (x : MemAct) : Prop := x.touch? = none ∧ x.low B ∧ (∀ m, x ≠ .mark m)
structure CommOut (P : Program) (c : CommCase) (w : World) (f : Frame → Frame) (w' : World) (acts : List MemAct) : Prop where
 run : ∀ (gs : Array Goroutine) (i : Nat) (g : Goroutine) (rest : Rest), NoOne gs → g.status = .running → g.offers = none →
  communicate P rest gs i g #[c] false .select w = (.next { world := w', gs := gs.setIfInBounds i { g with frame := f g.frame }, rest }, (acts.map fun a => { g := i, fn := g.frame.fn, pos := g.frame.place, act := a }).toArray)
def CommEnds (P : Program) (c : CommCase) (v : World) : Prop := ∀ (gs : Array Goroutine) (i : Nat) (g : Goroutine) (rest : Rest), ∃ o v', communicate P rest gs i g #[c] false .select v = (.ended o v', #[])
section
variable {P : Program} {F : List FuncId} {S : Sh} {w v : World}
theorem fin_eq (g : Goroutine) (cases : Array CommCase) (k : Int) (y : Value) (ok : Bool) (hs : g.status = .running) (ho : g.offers = none) : g.finishComm P cases .select k y ok = { g with frame := g.frame.finish (commResult cases .select k y ok) } := by
 obtain ⟨fr, cs, st, dy, off⟩ := g
 simp only at hs ho
 subst hs ho
 rfl
theorem comm_none {c : CommCase} (h : c.chan = .chan none) (u : World) : CommOut P c u (fun fr => fr.finish (commResult #[c] .select (-1) undef false)) u [] := by
 refine ⟨fun gs i g rest hn hs ho => ?_⟩
 rw [← fin_eq (P := P) g #[c] (-1) undef false hs ho]
 simp [communicate, h, ways]
theorem comm_full {c : CommCase} {r cap : Nat} {buf : Array Value} {s q : Nat} {tm : Bool} {y : Value} (h : c.chan = .chan (some r)) (hs : c.send = some y) {u : World} (hu : u.heap[r]? = some (.chan cap buf false s q tm)) (hf : ¬ buf.size < cap) :
  CommOut P c u (fun fr => fr.finish (commResult #[c] .select (-1) undef false)) u [] := by
 refine ⟨fun gs i g rest hn hst ho => ?_⟩
 rw [← fin_eq (P := P) g #[c] (-1) undef false hst ho]
 simp [communicate, h, ways, hu, hs, hn r false, hf]
theorem comm_empty {c : CommCase} {r cap : Nat} {s q : Nat} {tm : Bool} (h : c.chan = .chan (some r)) (hs : c.send = none) {u : World} (hu : u.heap[r]? = some (.chan cap #[] false s q tm)) :
  CommOut P c u (fun fr => fr.finish (commResult #[c] .select (-1) undef false)) u [] := by
 refine ⟨fun gs i g rest hn hst ho => ?_⟩
 rw [← fin_eq (P := P) g #[c] (-1) undef false hst ho]
 simp [communicate, h, ways, hu, hs, hn r true]
theorem comm_send {c : CommCase} {r cap : Nat} {buf : Array Value} {s q : Nat} {tm : Bool} {y : Value} (h : c.chan = .chan (some r)) (hs : c.send = some y) {u : World} (hu : u.heap[r]? = some (.chan cap buf false s q tm)) (hf : buf.size < cap) :
  CommOut P c u (fun fr => fr.finish (commResult #[c] .select 0 undef false)) { u with heap := u.heap.setIfInBounds r (.chan cap (buf.push y) false (s + 1) q tm) } [.send r s, .sendDone r s] := by
 refine ⟨fun gs i g rest hn hst ho => ?_⟩
 rw [← fin_eq (P := P) g #[c] 0 undef false hst ho]
 simp [communicate, h, ways, hu, hs, hn r false, hf, choose, Sem.run, bind, Sem.bind, Question.forced, pure]
theorem comm_recv {c : CommCase} {r cap : Nat} {buf : Array Value} {s q : Nat} {cl tm : Bool} (h : c.chan = .chan (some r)) (hs : c.send = none) {u : World} (hu : u.heap[r]? = some (.chan cap buf cl s q tm)) (hf : 0 < buf.size) :
  CommOut P c u (fun fr => fr.finish (commResult #[c] .select 0 (buf.getD 0 undef) true)) { u with heap := u.heap.setIfInBounds r (.chan cap (buf.extract 1 buf.size) cl s (q + 1) tm) } [.recv r q cap, .recvDone r q] := by
 refine ⟨fun gs i g rest hn hst ho => ?_⟩
 rw [← fin_eq (P := P) g #[c] 0 (buf.getD 0 undef) true hst ho]
 simp [communicate, h, ways, hu, hs, hn r true, hf, choose, Sem.run, bind, Sem.bind, Question.forced, pure]
theorem comm_shut {c : CommCase} {r cap : Nat} {s q : Nat} {tm : Bool} (h : c.chan = .chan (some r)) (hs : c.send = none) {u : World} (hu : u.heap[r]? = some (.chan cap #[] true s q tm)) :
  CommOut P c u (fun fr => fr.finish (commResult #[c] .select 0 c.zero false)) u [.recvClosed r] := by
 refine ⟨fun gs i g rest hn hst ho => ?_⟩
 rw [← fin_eq (P := P) g #[c] 0 c.zero false hst ho]
 simp [communicate, h, ways, hu, hs, hn r true, choose, Sem.run, bind, Sem.bind, Question.forced, pure]
theorem comm_bad {c : CommCase} {r cap : Nat} {buf : Array Value} {s q : Nat} {tm : Bool} {y : Value} (h : c.chan = .chan (some r)) (hs : c.send = some y) : ∃ ch : List PanicEntry, ∀ {u : World}, u.heap[r]? = some (.chan cap buf true s q tm) →
  CommOut P c u (fun fr => fr.raise ch) u [] := by
 refine ⟨[{ v := .iface P.rt.plainError (strVal "send on closed channel"), recovered := false }], fun {u} hu => ⟨fun gs i g rest hn hst ho => ?_⟩⟩
 simp [communicate, h, ways, hu, hs, choose, Sem.run, bind, Sem.bind, Question.forced, pure, runtimePanic, program, goPanic]
theorem comm_ends {c : CommCase} (h : ∀ (v' : Option Nat), c.chan = .chan v' → ∃ r, v' = some r ∧ ¬ ∃ cap buf cl s q tm, v.heap[r]? = some (.chan cap buf cl s q tm)) : CommEnds P c v := by
 intro gs i g rest
 have : ∃ y, c.chan = y := ⟨_, rfl⟩
 obtain ⟨y, hy⟩ := this
 unfold communicate
 have hill : (#[c].any fun c => match c.chan with
  | .chan none => false
  | .chan (some r) => !(match v.heap[r]? with | some (.chan ..) => true | _ => false)
  | _ => true) = true := by
  simp only [List.any_toArray, List.any_cons, List.any_nil, Bool.or_false]
  split
  ·rename_i h'
   obtain ⟨r, hr, _⟩ := h _ h'
   cases hr
  ·rename_i r h'
   obtain ⟨r', hr, hno⟩ := h _ h'
   cases hr
   split
   ·rename_i h''; exact (hno ⟨_, _, _, _, _, _, h''⟩).elim
   ·rfl
  ·rfl
 exact ⟨_, _, if_pos (by first | exact hill | simpa using hill)⟩
inductive CommSim (P : Program) (S : Sh) (c : CommCase) (w v : World) : Prop
 | ends : CommEnds P c v → CommSim P S c w v
 | out (f : Frame → Frame) (w' v' : World) (acts : List MemAct) : CommOut P c w f w' acts → CommOut P c v f v' acts → ((∃ y, f = fun fr => fr.finish y) ∨ ∃ ch, f = fun fr => fr.raise ch) →
     On S w v w' v' [] → w'.drawn = w.drawn → (∀ x ∈ acts, ActOk w'.heap.size x) → CommSim P S c w v
theorem comm_sim (hl : Like S w v) (c : CommCase) : CommSim P S c w v := by
 by_cases hc : ∃ r cap buf cl s q tm, c.chan = .chan (some r) ∧ v.heap[r]? = some (.chan cap buf cl s q tm)
 ·obtain ⟨r, cap, buf, cl, s, q, tm, h, hv⟩ := hc
  have hS : ¬ S r := fun hb => by
   have hz := hl.dead _ hb
   rw [hv] at hz; cases hz
  have hw : w.heap[r]? = some (.chan cap buf cl s q tm) := by rw [← hl.off _ hS]; exact hv
  have hlt : r < w.heap.size := (Array.getElem?_eq_some_iff.1 hw).1
  have on0 : On S w v w v [] := On.refl hl
  have on1 : ∀ o, On S w v { w with heap := w.heap.setIfInBounds r o } { v with heap := v.heap.setIfInBounds r o } [] := fun o => ⟨hl.setObj hS, by simp, rfl, rfl, Nat.le_refl _, rfl, by simp, same_setObj hS⟩
  cases hs : c.send with
  | some y =>
   cases cl with
   | true =>
    obtain ⟨ch, hb⟩ := comm_bad (P := P) (cap := cap) (buf := buf) (s := s) (q := q) (tm := tm) h hs
    exact .out _ w v [] (hb hw) (hb hv) (.inr ⟨ch, rfl⟩) on0 rfl (by simp)
   | false =>
    by_cases hf : buf.size < cap
    ·refine .out _ _ _ _ (comm_send h hs hw hf) (comm_send h hs hv hf) (.inl ⟨_, rfl⟩) (on1 _) rfl fun x hx => ?_
     simp only [List.mem_cons, List.not_mem_nil, or_false] at hx
     rcases hx with rfl | rfl <;> exact ⟨rfl, by simpa [MemAct.low] using hlt, by simp⟩
    ·exact .out _ w v [] (comm_full h hs hw hf) (comm_full h hs hv hf) (.inl ⟨_, rfl⟩) on0 rfl (by simp)
  | none =>
   by_cases hf : 0 < buf.size
   ·refine .out _ _ _ _ (comm_recv h hs hw hf) (comm_recv h hs hv hf) (.inl ⟨_, rfl⟩) (on1 _) rfl fun x hx => ?_
    simp only [List.mem_cons, List.not_mem_nil, or_false] at hx
    rcases hx with rfl | rfl <;> exact ⟨rfl, by simpa [MemAct.low] using hlt, by simp⟩
   ·obtain rfl : buf = #[] := by cases buf; simp_all
    cases cl with
    | true =>
     refine .out _ w v _ (comm_shut h hs hw) (comm_shut h hs hv) (.inl ⟨_, rfl⟩) on0 rfl fun x hx => ?_
     simp only [List.mem_cons, List.not_mem_nil, or_false] at hx
     subst hx
     exact ⟨rfl, by simpa [MemAct.low] using hlt, by simp⟩
    | false => exact .out _ w v [] (comm_empty h hs hw) (comm_empty h hs hv) (.inl ⟨_, rfl⟩) on0 rfl (by simp)
 ·by_cases hn : c.chan = .chan none
  ·exact .out _ w v [] (comm_none hn w) (comm_none hn v) (.inl ⟨_, rfl⟩) (On.refl hl) rfl (by simp)
  ·refine .ends (comm_ends fun v' hv' => ?_)
   cases v' with
   | none => exact absurd hv' hn
   | some r => exact ⟨r, rfl, fun ⟨cap, buf, cl, s, q, tm, h⟩ => hc ⟨r, cap, buf, cl, s, q, tm, hv', h⟩⟩
end
end Go.Proofs.Ytilpedopnkhppaa.Br

/- A lone walk, carried into company, fourth part: where the lone machine comes to its end on whatever tape, the goroutine does so among whatever draws. Conditions: each theorem's own. -/
namespace Go.Proofs.Ytilpedopnkhppaa.Br
open Go.Conc
structure St where
 fr : Frame
 seg : List Frame
 w : World
structure One (P : Program) (S : Sh) (cs : List Frame) (x : St) (d : Nat) (y : St) : Prop where
 step : (∃ es, stepG P true (G x.fr (x.seg ++ cs)) (x.w.at d) = .go (G y.fr (y.seg ++ cs)) y.w es ∧ ∀ e ∈ es, Fine S y.w.heap.size e) ∨
  (∃ c w₁ es f acts, stepG P true (G x.fr (x.seg ++ cs)) (x.w.at d) = .comm (G x.fr (x.seg ++ cs)) #[c] false .select w₁ es ∧ (∀ e ∈ es, Fine S y.w.heap.size e) ∧ CommOut P c w₁ f y.w acts ∧ y.fr = f x.fr ∧ y.seg = x.seg ∧ ∀ a ∈ acts, ActOk y.w.heap.size a)
 grow : x.w.heap.size ≤ y.w.heap.size
 tape : y.w.tape = x.w.tape
inductive Ev (P : Program) (S : Sh) (cs : List Frame) (Stop : St → Prop) : St → Prop
 | stop (x : St) : Stop x → Ev P S cs Stop x
 | step (x : St) (nx : Nat → St) : (∀ d, One P S cs x d (nx d)) → (∀ d, Ev P S cs Stop (nx d)) → Ev P S cs Stop x
section
variable {P : Program} {F : List FuncId} {S : Sh} {cs : List Frame}
theorem noOne_one {g : Goroutine} (h : g.status = .running) : NoOne #[g] := by
 intro r b
 simp [partners, h]
theorem out_unique {c : CommCase} {w w₁ w₂ : World} {f₁ f₂ : Frame → Frame} {a₁ a₂ : List MemAct} (h₁ : CommOut P c w f₁ w₁ a₁) (h₂ : CommOut P c w f₂ w₂ a₂) (fr : Frame) : f₁ fr = f₂ fr ∧ w₁ = w₂ := by
 have e₁ := h₁.run #[G fr []] 0 (G fr []) { timers := #[], alone := none, slice := none } (noOne_one rfl) rfl rfl
 have e₂ := h₂.run #[G fr []] 0 (G fr []) { timers := #[], alone := none, slice := none } (noOne_one rfl) rfl rfl
 have e := e₁.symm.trans e₂
 simp [G] at e
 exact ⟨e.1.2, e.1.1⟩
theorem one_unique {x y z : St} {d : Nat} (h : One P S cs x d y) (k : One P S cs x d z) : y = z := by
 obtain ⟨yf, ys, yw⟩ := y
 obtain ⟨zf, zs, zw⟩ := z
 rcases h.step with ⟨es, e, _⟩ | ⟨c, w₁, es, f, acts, e, _, ho, h1, h2, _⟩ <;> rcases k.step with ⟨es', e', _⟩ | ⟨c', w₁', es', f', acts', e', _, ho', h1', h2', _⟩
 ·have := e.symm.trans e'
  simp only [GStep.go.injEq, G, Goroutine.mk.injEq] at this
  obtain ⟨⟨rfl, hs, _⟩, rfl, _⟩ := this
  obtain rfl := List.append_cancel_right hs
  rfl
 iterate 2
  ·have := e.symm.trans e'; cases this
 ·have := e.symm.trans e'
  simp only [GStep.comm.injEq] at this
  obtain ⟨_, hc, _, _, rfl, _⟩ := this
  obtain rfl : c = c' := by simpa using hc
  obtain ⟨u1, u2⟩ := out_unique ho ho' x.fr
  simp only at h1 h1' h2 h2' u2
  subst u2
  rw [h1, h1', h2, h2', u1]
theorem step_lone_go' {fr fr' : Frame} {xs xs' : List Frame} {v v' : World} {es : Array Event} (h : stepG P true (G fr xs) v = .go (G fr' xs') v' es) : step P (lone fr xs v) = .next (lone fr' xs' v') := by
 apply step_lone_go
 show (stepG P true (G fr xs) v).bare = _
 rw [h]; rfl
theorem step_lone_ended' {fr : Frame} {xs : List Frame} {v v' : World} {es : Array Event} {o : Outcome} (h : stepG P true (G fr xs) v = .ended o v' es) : step P (lone fr xs v) = .ended o v' := by
 apply step_lone_ended
 show (stepG P true (G fr xs) v).bare = _
 rw [h]; rfl
theorem step_lone_comm {fr : Frame} {xs : List Frame} {v v₁ : World} {es : Array Event} {c : CommCase} (h : stepG P true (G fr xs) v = .comm (G fr xs) #[c] false .select v₁ es) :
  ∃ (ph : Goroutine) (sl : Rest), ph.status = .finished ∧ step P (lone fr xs v) = (communicate P { timers := #[], alone := none, slice := none } #[ph] 0 (G fr xs) #[c] false .select v₁).1 := by
 refine ⟨{ (default : Goroutine) with status := .finished }, default, rfl, ?_⟩
 have h' : stepG P true { frame := fr, callers := xs, status := .running, dying := none } v = .comm (G fr xs) #[c] false .select v₁ es := h
 rw [step, stepT, move_lone]
 simp [runT, lone, Array.swapAt!, h']
theorem noOne_fin {g : Goroutine} (h : g.status = .finished) : NoOne #[g] := by
 intro r b
 simp [partners, h]
theorem trap_ends {fr₀ : Frame} {v : World} (h : (∃ y, fr₀ = (trap P).finish y) ∨ ∃ ch, fr₀ = (trap P).raise ch) : ∃ o v', step P (lone fr₀ [] v) = .ended o v' := by
 rcases h with ⟨y, rfl⟩ | ⟨ch, rfl⟩
 ·have : ∃ o es, stepG P true (G ((trap P).finish y) []) v = .ended o v es := by
   have hx : Extern.next "fmt's door: none" = none := by rfl
   simp [trap, Frame.finish, G, stepG, stepG.exec, hx]
  obtain ⟨o, es, e⟩ := this
  exact ⟨o, v, step_lone_ended' e⟩
 ·have : ∃ o es, stepG P true (G ((trap P).raise ch) []) v = .ended o v es := by
   have hs : ("fmt's door: none".startsWith "fmt's door") = true := by decide +kernel
   simp [trap, Frame.raise, G, stepG, unwind, Frame.catches, hs]
  obtain ⟨o, es, e⟩ := this
  exact ⟨o, v, step_lone_ended' e⟩
theorem like_at {w v : World} (h : Like S w v) (d : Nat) : Like S (w.at d) v := ⟨h.size, h.os, h.out, h.osx, h.outx, h.off, h.dead, h.solid⟩
theorem like_tape {w v : World} (h : Like S w v) (t : Nat → Question → Nat) (d : Nat) : Like S w { v with tape := t, drawn := d } := ⟨h.size, h.os, h.out, h.osx, h.outx, h.off, h.dead, h.solid⟩
theorem runN_one (P : Program) (n : Nat) (m m' m'' : Machine) (h : runN P n m = .next m') (k : step P m' = .next m'') : runN P (n + 1) m = .next m'' := by
 rw [runN_add, h]
 simp [runN, k]
end
end Go.Proofs.Ytilpedopnkhppaa.Br

/- A lone walk, carried into company, fifth part: beside goroutines that only leave the machine carries it out, on whatever tape. Conditions: each theorem's own. -/
namespace Go.Proofs.Ytilpedopnkhppaa.Br
open Go.Conc
open Go.ConcN (sumTo upd sumTo_upd upd_ne upd_same)
def ShunIn (S : Sh) (Shun : Loc → Prop) : Prop := ∀ l, Shun l → ∃ a, l = .cell a ∧ S a.block
section
variable {P : Program} {S : Sh} {cs : List Frame} {Shun : Loc → Prop} {B : Nat}
theorem fine_evL (hS : ShunIn S Shun) {e : Event} (h : Fine S B e) : EvL Shun B e := by
 obtain ⟨l, wr, sy⟩ := e
 unfold Fine at h
 cases l with
 | cell a =>
  refine ⟨fun x hx hs => ?_, by simp, by simp, h.2⟩
  simp only [MemAct.ofEvent, MemAct.touch?, Option.some.injEq] at hx
  subst hx
  obtain ⟨b, hb, hSb⟩ := hS _ hs
  cases hb
  exact absurd hSb h.1
 | obj r =>
  refine ⟨fun x hx hs => ?_, by simp, by simp, ?_⟩
  ·cases wr <;> cases sy <;> simp only [MemAct.ofEvent, MemAct.touch?, Option.some.injEq, reduceCtorEq] at hx
   all_goals (subst hx; obtain ⟨b, hb, _⟩ := hS _ hs; cases hb)
  ·cases wr <;> cases sy <;> exact h.2
 | mark m =>
  simp only at h
  subst h
  exact ⟨fun x hx => by simp [MemAct.ofEvent, MemAct.touch?] at hx, by simp, by simp, trivial⟩
 | _ => exact h.elim
theorem noOne_leavers {t : Trace} {gs : Array Goroutine} {q : Nat → Nat} (hL : Leavers P t gs q) : NoOne (gs.setIfInBounds 0 ph) := by
 intro r b
 refine partners_nil fun j g hg => ?_
 have hst : g.status = .running ∨ g.status = .finished := by
  rcases Nat.eq_zero_or_pos j with rfl | hj
  ·rw [Array.getElem?_setIfInBounds] at hg
   simp only [if_true] at hg
   split at hg
   ·cases hg; exact .inr rfl
   ·cases hg
  ·rw [Array.getElem?_setIfInBounds_ne (by omega)] at hg
   exact (hL.old j g hj hg).status
 rcases hst with h | h <;> simp [offersAt, h]
def Comes (P : Program) (cs : List Frame) (Shun : Loc → Prop) (Stop : St → Prop) (gs : Array Goroutine) (w₁ : World) (sl : Option (Nat × Nat)) (t : Trace) : Prop :=
 ∃ (N : Nat) (gs' : Array Goroutine) (y : St) (sl' : Option (Nat × Nat)) (t' : Trace) (q' : Nat → Nat),
  runNT P N (crowd gs w₁ sl) t = (.next (crowd gs' y.w sl'), t') ∧ gs'.size = gs.size ∧ gs'[0]? = some (G y.fr (y.seg ++ cs)) ∧ Stop y ∧ Leavers P t' gs' q' ∧ Past Shun y.w.heap.size t'
theorem Comes.after {Stop : St → Prop} {gs gs₁ : Array Goroutine} {w₁ w₂ : World} {sl sl₁ : Option (Nat × Nat)} {t t₁ : Trace} {ops : Array MemOp} (h : stepT P (crowd gs w₁ sl) = (.next (crowd gs₁ w₂ sl₁), ops)) (ht : t₁ = t ++ ops) (hz : gs₁.size = gs.size)
  (k : Comes P cs Shun Stop gs₁ w₂ sl₁ t₁) : Comes P cs Shun Stop gs w₁ sl t := by
 obtain ⟨N, gs', y, sl', t', q', hr, hs, h0, hS, hL, hP⟩ := k
 subst ht
 exact ⟨N + 1, gs', y, sl', t', q', by simp only [runNT, h]; exact hr, hs.trans hz, h0, hS, hL, hP⟩
theorem one_beside (hS : ShunIn S Shun) {Stop : St → Prop} {x : St} {nx : Nat → St} (hone : ∀ d, One P S cs x d (nx d))
  (ih : ∀ (d M : Nat) (gs : Array Goroutine) (w₁ : World) (sl : Option (Nat × Nat)) (t : Trace) (q : Nat → Nat), AtRel (nx d).w w₁ → sumTo gs.size q ≤ M → gs[0]? = some (G (nx d).fr ((nx d).seg ++ cs)) → Leavers P t gs q → Past Shun (nx d).w.heap.size t → Comes P cs Shun Stop gs w₁ sl t)
  (M : Nat) (ihM : ∀ (gs : Array Goroutine) (w₁ : World) (sl : Option (Nat × Nat)) (t : Trace) (q : Nat → Nat), AtRel x.w w₁ → sumTo gs.size q < M → gs[0]? = some (G x.fr (x.seg ++ cs)) → Leavers P t gs q → Past Shun x.w.heap.size t → Comes P cs Shun Stop gs w₁ sl t)
  (gs : Array Goroutine) (w₁ : World) (sl : Option (Nat × Nat)) (t : Trace) (q : Nat → Nat) (hA : AtRel x.w w₁) (hM : sumTo gs.size q ≤ M) (h0 : gs[0]? = some (G x.fr (x.seg ++ cs))) (hL : Leavers P t gs q) (hP : Past Shun x.w.heap.size t) : Comes P cs Shun Stop gs w₁ sl t := by
 have hrun : (G x.fr (x.seg ++ cs)).status = .running := rfl
 have haw : ∀ g ∈ gs, awake g := by
  intro g hg
  obtain ⟨i, hi, rfl⟩ := Array.mem_iff_getElem.1 hg
  rcases Nat.eq_zero_or_pos i with rfl | hpos
  ·have : gs[0] = G x.fr (x.seg ++ cs) := by simpa [Array.getElem?_eq_getElem hi] using h0
   rw [this]; exact awake_of (.inl hrun)
  ·exact awake_of ((hL.old i _ hpos (Array.getElem?_eq_getElem hi)).status.elim .inl fun x => .inr (.inr x))
 obtain ⟨i, g, d, sl', hi, hg, hst⟩ := crowd_pick (P := P) (w := w₁) (sl := sl) haw ⟨0, _, h0, hrun⟩
 obtain ⟨d₀, rfl⟩ := hA
 have hlt0 : 0 < gs.size := (Array.getElem?_eq_some_iff.1 h0).1
 rcases Nat.eq_zero_or_pos i with rfl | hpos
 ·obtain rfl : g = G x.fr (x.seg ++ cs) := by rw [h0] at hi; exact (Option.some.inj hi).symm
  have ho := hone d
  have hP' := hP.mono ho.grow
  rcases ho.step with ⟨es, e, hes⟩ | ⟨c, w₂, es, f, acts, e, hes, hout, hf, hsg, hact⟩
  ·have hrunT := runT_crowd_go (P := P) (sl := sl') (i := 0) hi (show stepG P (0 == 0) _ ((x.w.at d₀).at d) = _ from e)
   refine Comes.after (hst.trans hrunT) rfl (by simp) (ih d _ _ _ _ _ q (atRel_refl _) (Nat.le_refl _) (by simp [hlt0]) ⟨fun j y hj hy => ?_, fun j hj => ?_⟩ (hP'.own fun e he => fine_evL hS (hes e he)))
   ·have hne : 0 ≠ j := by omega
    rw [Array.getElem?_setIfInBounds_ne hne, Array.getElem?_map] at hy
    obtain ⟨z, hz, rfl⟩ := Option.map_eq_some_iff.1 hy
    have hq := hL.old j z hj hz
    rw [woken_quitsD hq, Deaf_other t (by omega) _ (fun op hop => by obtain ⟨e, _, rfl⟩ := Go.Conc.mem_ofEvents hop; rfl)]
    exact hq
   ·rw [Deaf_other t (g' := 0) (by simp at hj; omega) _ (fun op hop => by obtain ⟨e, _, rfl⟩ := Go.Conc.mem_ofEvents hop; rfl)]
    exact hL.above j (by simpa using hj)
  ·have hrunT := runT_crowd_comm (P := P) (sl := sl') (i := 0) hi (show stepG P (0 == 0) _ ((x.w.at d₀).at d) = _ from e)
   have hcm := hout.run (gs.setIfInBounds 0 ph) 0 (G x.fr (x.seg ++ cs)) (crowd gs ((x.w.at d₀).at d) sl').rest (noOne_leavers hL) rfl rfl
   rw [hcm] at hrunT
   have hset : (gs.setIfInBounds 0 ph).setIfInBounds 0 (G (nx d).fr ((nx d).seg ++ cs)) = gs.setIfInBounds 0 (G (nx d).fr ((nx d).seg ++ cs)) := by simp
   have hgg : ({ G x.fr (x.seg ++ cs) with frame := f (G x.fr (x.seg ++ cs)).frame } : Goroutine) = G (nx d).fr ((nx d).seg ++ cs) := by rw [hf, hsg]; rfl
   rw [hgg, hset] at hrunT
   have own0 : ∀ op ∈ MemOp.ofEvents 0 (G x.fr (x.seg ++ cs)).frame.fn (G x.fr (x.seg ++ cs)).frame.place es ++ (acts.map fun a => ({ g := 0, fn := (G x.fr (x.seg ++ cs)).frame.fn, pos := (G x.fr (x.seg ++ cs)).frame.place, act := a } : MemOp)).toArray, op.g = 0 := by
    intro op hop
    rcases Array.mem_append.1 hop with h | h
    ·obtain ⟨e, _, rfl⟩ := Go.Conc.mem_ofEvents h; rfl
    ·simp only [List.mem_toArray, List.mem_map] at h
     obtain ⟨a, _, rfl⟩ := h; rfl
   have hP2 := hP'.own (fn := (G x.fr (x.seg ++ cs)).frame.fn) (pos := (G x.fr (x.seg ++ cs)).frame.place) (es := es) fun e he => fine_evL hS (hes e he)
   have hP3 := hP2.app0 (u := (acts.map fun a => ({ g := 0, fn := (G x.fr (x.seg ++ cs)).frame.fn, pos := (G x.fr (x.seg ++ cs)).frame.place, act := a } : MemOp)).toArray)
    (fun op hop => by simp only [List.mem_toArray, List.mem_map] at hop; obtain ⟨a, _, rfl⟩ := hop; rfl)
    (fun op hop b hb => by simp only [List.mem_toArray, List.mem_map] at hop; obtain ⟨a, ha, rfl⟩ := hop; rw [show (MemOp.act _) = a from rfl, (hact a ha).1] at hb; cases hb)
    (Go.ConcN.Deaf_still _ _ _ fun op hop => by simp only [List.mem_toArray, List.mem_map] at hop; obtain ⟨a, ha, rfl⟩ := hop; exact ⟨(hact a ha).2.2 _, (hact a ha).2.2 _⟩)
    (fun op hop => by simp only [List.mem_toArray, List.mem_map] at hop; obtain ⟨a, ha, rfl⟩ := hop; exact (hact a ha).2.1)
   rw [Array.append_assoc] at hP3
   refine Comes.after (hst.trans hrunT) rfl (by simp) (ih d _ _ _ _ _ q (atRel_refl _) (Nat.le_refl _) (by simp [hlt0]) ⟨fun j y hj hy => ?_, fun j hj => ?_⟩ hP3)
   ·have hne : 0 ≠ j := by omega
    rw [Array.getElem?_setIfInBounds_ne hne] at hy
    have hq := hL.old j y hj hy
    rw [Deaf_other t (g' := 0) (by omega) _ own0]
    exact hq
   ·rw [Deaf_other t (g' := 0) (by simp at hj; omega) _ own0]
    exact hL.above j (by simpa using hj)
 ·have hq := hL.old i g hpos hi
  have hi0 : (i == 0) = false := by simp; omega
  have hlt : i < gs.size := (Array.getElem?_eq_some_iff.1 hi).1
  cases hqi : q i with
  | zero => rw [hqi] at hq; rw [hq.1] at hg; cases hg
  | succ k =>
   rw [hqi] at hq
   rcases hq with ⟨hf, _⟩ | ⟨_, g', es, hm, hstp, hq'⟩
   ·rw [hf] at hg; cases hg
   have hrunT := runT_crowd_go (P := P) (sl := sl') (i := i) hi (by rw [hi0]; exact hstp ((x.w.at d₀).at d))
   have hsz : ((gs.map (woken P g g' ((x.w.at d₀).at d))).setIfInBounds i g').size = gs.size := by simp
   have hsum : sumTo gs.size (upd q i k) + (k + 1) = sumTo gs.size q + k := by
    have := sumTo_upd q k id hlt
    simpa [hqi] using this
   refine Comes.after (hst.trans hrunT) rfl hsz (ihM _ _ _ _ (upd q i k) ⟨d, rfl⟩ (by rw [hsz]; omega) ?_ ⟨fun j y hj hy => ?_, fun j hj => ?_⟩ (hP.mute (by omega) hm))
   ·have hne : i ≠ 0 := by omega
    rw [Array.getElem?_setIfInBounds_ne hne, Array.getElem?_map, h0]
    simp [woken_run hrun]
   ·by_cases hji : i = j
    ·subst hji
     rw [Array.getElem?_setIfInBounds_self_of_lt (by simpa using hlt)] at hy
     obtain rfl := Option.some.inj hy
     rw [upd_same, Deaf_own]
     exact hq'
    ·rw [Array.getElem?_setIfInBounds_ne hji, Array.getElem?_map] at hy
     obtain ⟨z, hz, rfl⟩ := Option.map_eq_some_iff.1 hy
     have hqj := hL.old j z hj hz
     rw [woken_quitsD hqj, upd_ne q k (Ne.symm hji), Deaf_other t hji _ (fun op hop => by obtain ⟨e, _, rfl⟩ := Go.Conc.mem_ofEvents hop; rfl)]
     exact hqj
   ·rw [Deaf_other t (g' := i) (by simp at hj; omega) _ (fun op hop => by obtain ⟨e, _, rfl⟩ := Go.Conc.mem_ofEvents hop; rfl)]
    exact hL.above j (by simpa using hj)
theorem ev_beside (hS : ShunIn S Shun) {Stop : St → Prop} (hst : ∀ x d, Stop x → Stop ⟨x.fr, x.seg, x.w.at d⟩) {x : St} (h : Ev P S cs Stop x) :
  ∀ (M : Nat) (gs : Array Goroutine) (w₁ : World) (sl : Option (Nat × Nat)) (t : Trace) (q : Nat → Nat), AtRel x.w w₁ → sumTo gs.size q ≤ M → gs[0]? = some (G x.fr (x.seg ++ cs)) → Leavers P t gs q → Past Shun x.w.heap.size t → Comes P cs Shun Stop gs w₁ sl t := by
 induction h with
 | stop x hx =>
  intro M gs w₁ sl t q hA _ h0 hL hP
  obtain ⟨d, rfl⟩ := hA
  exact ⟨0, gs, ⟨x.fr, x.seg, x.w.at d⟩, sl, t, q, rfl, rfl, h0, hst x d hx, hL, hP⟩
 | step x nx hone _ ih =>
  intro M
  induction M with
  | zero =>
   intro gs w₁ sl t q hA hM h0 hL hP
   exact one_beside hS hone ih 0 (fun gs' w₂ sl' t' q' _ hM' => by omega) gs w₁ sl t q hA hM h0 hL hP
  | succ M ihM =>
   intro gs w₁ sl t q hA hM h0 hL hP
   exact one_beside hS hone ih (M + 1) (fun gs' w₂ sl' t' q' hA' hM' h0' hL' hP' => ihM gs' w₂ sl' t' q' hA' (by omega) h0' hL' hP') gs w₁ sl t q hA hM h0 hL hP
end
end Go.Proofs.Ytilpedopnkhppaa.Br

