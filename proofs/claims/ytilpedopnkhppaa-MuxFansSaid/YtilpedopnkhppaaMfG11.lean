/- The program holds the library's WaitGroup under these numbers. Conditions: none. -/
import Derived.Test.YtilpedopnkhppaaChecked
import Derived.Conc.WgGenN2
import Derived.Conc.CompanyMem
import Derived.Test.YtilpedopnkhppaaMfG7
import Derived.Conc.WgGenN3
import Derived.Conc.TokenWalk
import Derived.Test.YtilpedopnkhppaaMfG5
import Derived.Test.YtilpedopnkhppaaRows
import Derived.Test.YtilpedopnkhppaaMfG6
import Derived.Conc.LoneCalls
import Derived.Conc.LoneSelect
import Derived.Conc.LoneSelectN
import Derived.WalkKit
set_option linter.unusedVariables false
set_option linter.unusedSimpArgs false
namespace Go.Proofs.Ytilpedopnkhppaa.Mx
open Go.Conc.Lib
def lnk : WgLink :=
 { add := 42, done := 45, wait := 36, relMerge := 60, disable := 47, enable := 49,
   inBubble := 55, associate := 61, fatal := 62, uOr := 63, uAdd := 64, raceRead := 65,
   uLoad := 48, uStore := 66, disassociate := 53, semrelease := 67, acquire := 50,
   isAssociated := 51, uCas := 52, raceWrite := 54, semacquire := 56,
   orU64 := 71, addU64 := 72, loadU64 := 68, storeU64 := 73, casU64 := 69,
   tWgP := 101, tUP := 109, tAssoc := 121, tWg := 90, tAU := 87, tU64 := 85, tUint := 107, tU32 := 88,
   tPU32 := 113, tPAU := 127, tPU64 := 129, tNoCopy := 82, tANoCopy := 83, tAlign64 := 84 }
theorem wgLib : WgLib Try.prog lnk :=
 ⟨Try.func42, Try.func45, Try.func36, Try.func60, Try.func47, Try.func49, Try.func55, Try.func61, Try.func62, Try.func63, Try.func64, Try.func65, Try.func48, Try.func66, Try.func53, Try.func67, Try.func50, Try.func51, Try.func52, Try.func54, Try.func56, Try.func71, Try.func72, Try.func68, Try.func73, Try.func69, Try.underlying101, Try.runUnderlying101, Try.sizeOf101, Try.isAgg101, Try.zeroValue101, Try.underlying109, Try.runUnderlying109, Try.sizeOf109, Try.isAgg109, Try.zeroValue109, Try.underlying121, Try.runUnderlying121, Try.sizeOf121, Try.isAgg121, Try.zeroValue121, Try.underlying90, Try.runUnderlying90, Try.sizeOf90, Try.isAgg90, Try.zeroValue90, Try.underlying87, Try.runUnderlying87, Try.sizeOf87, Try.isAgg87, Try.zeroValue87, Try.underlying85, Try.runUnderlying85, Try.sizeOf85, Try.isAgg85, Try.zeroValue85, Try.underlying107, Try.runUnderlying107, Try.sizeOf107, Try.isAgg107, Try.zeroValue107, Try.underlying88, Try.runUnderlying88, Try.sizeOf88, Try.isAgg88, Try.zeroValue88, Try.underlying113, Try.runUnderlying113, Try.sizeOf113, Try.isAgg113, Try.zeroValue113, Try.underlying127, Try.runUnderlying127, Try.sizeOf127, Try.isAgg127, Try.zeroValue127, Try.underlying129, Try.runUnderlying129, Try.sizeOf129, Try.isAgg129, Try.zeroValue129, Try.underlying0, Try.runUnderlying0, Try.sizeOf0, Try.isAgg0, Try.zeroValue0, Try.underlying3, Try.runUnderlying3, Try.sizeOf3, Try.isAgg3, Try.zeroValue3, Try.underlying4, Try.runUnderlying4, Try.sizeOf4, Try.isAgg4, Try.zeroValue4, Try.underlying9, Try.runUnderlying9, Try.sizeOf9, Try.isAgg9, Try.zeroValue9, Try.underlying20, Try.runUnderlying20, Try.sizeOf20, Try.isAgg20, Try.zeroValue20, Try.underlying21, Try.runUnderlying21, Try.sizeOf21, Try.isAgg21, Try.zeroValue21, (by kernel_rfl), (by kernel_rfl)⟩
end Go.Proofs.Ytilpedopnkhppaa.Mx

/- Small laws of a goroutine's walk in company: a step that is the same in every world; an operation that leaves the world. Conditions: each theorem's own. -/
namespace Go.Proofs.Ytilpedopnkhppaa.Mx
open Go.Conc
section
variable {P : Program} {main : Bool} {R : World → World → Prop} {D : World → World → Array Event → Prop} {S : Goroutine → World → Prop} {n : Nat} {g g' : Goroutine} {w : World}
variable {b : Frame} {a : Act} {kk : List Item} {cs : List Frame} {ops : Array Oper} {i : Nat} {rest : List Nat} {o : Oper} {v : Value}
theorem stepG_callV {f : FuncId} {fn : Func} {c : Code} {x : Operand} {cap : Array Value} {ats : Array TypeId}
  (ho : ops[i]? = some o) (hw : Region.wanted o (yielded ops a.tmps) = true) (hk : b.kind ≠ .early) (hop : o.op = .call { callee := .value x, args := #[], argTypes := ats }) (hx : a.eval x = .func (.func f) #[] cap)
  (hf : P.funcs[f]? = some fn) (hname : (fn.name == "runtime.NumGoroutine") = false) (hb : fn.body = some c) (w : World) :
  stepG P main (G (b.at a (.inRegion ops (i :: rest) :: kk)) cs) w = .go (G ((base f).at { tmps := cap ++ Array.replicate (fn.ntmps - cap.size) undef, defers := [] } [.code c]) (b.at a (.inRegion ops (i :: rest) :: kk) :: cs)) w #[] := by
 have h1 : ¬ fn.name = "runtime.NumGoroutine" := by simpa using hname
 have h2 : ¬ fn.body = none := by rw [hb]; simp
 have hr : (execOp a.eval o).run P w = .ok (.enter f cap) w := by
  unfold execOp
  simp [hop, resolve, Deferred.ofValue, hx, invoke, callFunc, hf, h1, h2]
 have he : (execOp a.eval o).events P w #[] = #[] := by
  unfold execOp
  simp [hop, resolve, Deferred.ofValue, hx, invoke, callFunc, hf, h1, h2]
 rw [stepG_enter ho hw hk hr, enter_at _ hf hb]
 have : listed P b.fn a o w = #[] := by unfold listed; rw [he]; exact seen_none P _
 rw [this]
variable {fn : Func} {todo : List Item} {b₀ : Frame} {a₀ : Act}
end
end Go.Proofs.Ytilpedopnkhppaa.Mx

/- A sender's Add(-1): its steps behind the release, out of the library's own walk. Conditions: each theorem's own. -/
namespace Go.Proofs.Ytilpedopnkhppaa.Mx
open Go.Conc Go.RowKit Go.Conc.Lib Go.ConcR.Gen
open Go.ConcR (KK wgBlock WgAt stA smA rd wr DC0 Payload)
open Go.ConcN (RW DWs AtR0 AtK1 AtD1 AtD2 AtD3 AtD4 PayAt Has WgLive RW.refl)
section
variable {p : Ph} [Payload] {k C : Nat} {val : Value}
def BoxAt (p : Ph) (k C : Nat) (val : Value) : Prop := ∀ w, p.K k w → PayAt C 1 w ∧ Has C 0 val w
theorem rw_of (hb : BoxAt p k C val) {w w₁ : World} (h : p.KL k w) (h₁ : p.KL k w₁) : RW p.ty p.Wg C 1 0 (1 - 1) w w₁ :=
 ⟨fun b hb => absurd hb (Nat.not_lt_zero _), fun _ => h₁.2, fun _ => (hb _ h₁.1).1, (hb _ h₁.1).2.trans (hb _ h.1).2.symm⟩
theorem goes_conv (hb : BoxAt p k C val) {S S' : Goroutine → World → Prop} (hS : ∀ g w, p.KL k w → S g w → S' g w) : ∀ (m : Nat) (g : Goroutine) (w : World), p.KL k w → Goes p.P false (RW p.ty p.Wg C 1 0 (1 - 1)) DC0 S m g w → Goes p.P false (Rk (p.KL k)) DC0 S' m g default := by
 intro m
 induction m with
 | zero => exact fun g w hw h w₁ h₁ => hS _ _ h₁ (h w₁ (rw_of hb hw h₁))
 | succ m ih =>
  intro g w hw h
  rcases h with h | ⟨hs, h⟩
  ·exact .inl fun w₁ h₁ => hS _ _ h₁ (h w₁ (rw_of hb hw h₁))
  ·refine .inr ⟨hs, fun w₁ h₁ => ?_⟩
   obtain ⟨g', w', es, e, ⟨rfl, rfl⟩, hg⟩ := goes_elim (h w₁ (rw_of hb hw h₁))
   rw [e, goes_go]
   exact ⟨⟨rfl, rfl⟩, goes_rk (ih g' w' h₁ hg) _⟩
omit [Payload] in
theorem kl_set (hk : p.Ok) (hkn : k < p.n) {w : World} {o : Nat} {v : Value} {st sm : Int} (h : p.KL k w) (h' : WgAt p.ty p.Wg (w.setCell ⟨p.Wg, o, none⟩ v) st sm) : p.KL k (w.setCell ⟨p.Wg, o, none⟩ v) := by
 obtain ⟨h1, st0, sm0, h2⟩ := h
 exact ⟨hk.kFar k _ _ hkn (Far.setWg h2 h') h1, _, _, h'⟩
omit [Payload] in
theorem t4_of {g : Goroutine} {w : World} (h : AtD4 p.P p.ty p.Wg g w) : p.T4 k g w := h
theorem t3_of (hb : BoxAt p k C val) (hk : p.Ok) (hkn : k < p.n) {g : Goroutine} {w : World} (hw : p.KL k w) (h : AtD3 p.P p.ty p.Wg C 1 0 1 g w) : p.T3 k g w :=
 ⟨h.1, fun hwg => by
  obtain ⟨g', e, m, hg⟩ := h.2 hwg
  exact ⟨g', e, m, goes_conv hb (fun _ _ _ x => t4_of x) m g' _ (kl_set hk hkn hw (hwg.setSt 0)) hg⟩⟩
theorem t2_of (hb : BoxAt p k C val) (hk : p.Ok) (hkn : k < p.n) {g : Goroutine} {w : World} (hw : p.KL k w) (h : AtD2 p.P p.ty p.Wg C 1 0 1 g w) : p.T2 k g w :=
 ⟨h.1, fun hwg => by
  obtain ⟨g', e, m, hg⟩ := h.2 hwg
  exact ⟨g', e, m, goes_conv hb (fun _ _ hw x => t3_of hb hk hkn hw x) m g' _ hw hg⟩⟩
theorem t1_of (hb : BoxAt p k C val) (hk : p.Ok) (hkn : k < p.n) {g : Goroutine} {w : World} (hw : p.KL k w) (h : AtD1 p.P p.ty p.Wg C 1 0 1 g w) : p.T1 k g w :=
 ⟨h.1, fun v wt hwt hv hwg => by
  obtain ⟨g', e, hl, hq⟩ := h.2 v wt hwt hv hwg
  refine ⟨g', e, fun hvw => ?_, hq⟩
  obtain ⟨m, hg⟩ := hl hvw
  exact ⟨m, goes_conv hb (fun _ _ hw x => t2_of hb hk hkn hw x) m g' _ (kl_set hk hkn hw (hwg.setSt _)) hg⟩⟩
theorem t0d_of (hb : BoxAt p k C val) (hk : p.Ok) (hkn : k < p.n) {g : Goroutine} {w : World} (hw : p.KL k w) (h : AtK1 p.P p.ty p.Wg C 1 0 1 g w) : p.T0d k g w := by
 obtain ⟨h1, g', e, m, hg⟩ := h
 exact ⟨h1, g', e, m, goes_conv hb (fun _ _ hw x => t1_of hb hk hkn hw x) m g' _ hw hg⟩
theorem t0_of (hb : BoxAt p k C val) (hk : p.Ok) (hkn : k < p.n) {g : Goroutine} {w : World} (hw : p.KL k w) (h : AtR0 p.P p.ty p.Wg C 1 0 1 val g w) : p.T0 k g w := by
 obtain ⟨h1, _, g', e, m, hg⟩ := h
 exact ⟨h1, g', e, m, goes_conv hb (fun _ _ hw x => t0d_of hb hk hkn hw x) m g' _ hw hg⟩
abbrev Old (p : Ph) [Payload] (k C : Nat) (val : Value) (n : Nat) (g : Goroutine) : Prop := ∀ w, p.KL k w → Goes p.P false (RW p.ty p.Wg C 1 0 (1 - 1)) (DWs p.Wg (fun _ _ => False) (fun _ _ => False) C 1 1) (AtR0 p.P p.ty p.Wg C 1 0 1 val) n g w
theorem old_next {n : Nat} {g g' : Goroutine} (ho : Old p k C val (n + 1) g) (h : ∀ w, p.KL k w → stepG p.P false g w = .go g' w #[]) : Old p k C val n g' := by
 intro w hw
 rcases ho w hw with hs | ⟨_, hs⟩
 ·obtain ⟨_, _, g1, e, _⟩ := hs w (RW.refl w)
  rw [h w hw] at e
  simp [Go.ConcR.mk] at e
 ·have := hs w (RW.refl w)
  rw [h w hw, goes_go] at this
  exact this.2
theorem old_step {n m : Nat} {g g' : Goroutine} (hs : g.status = .running) (h : ∀ w, p.KL k w → stepG p.P false g w = .go g' w #[]) (ho : Old p k C val (n + 1) g) (K : Old p k C val n g' → Goes p.P false (Rk (p.KL k)) (p.DR k) (p.T0 k) m g' default) :
  Goes p.P false (Rk (p.KL k)) (p.DR k) (p.T0 k) (m + 1) g default :=
 Goes.step hs fun w₁ r => by rw [h w₁ r, goes_go]; exact ⟨⟨rfl, by simp⟩, goes_rk (K (old_next ho h)) _⟩
theorem old_stop {n m : Nat} (hb : BoxAt p k C val) (hk : p.Ok) (hkn : k < p.n) {g g1 g2 g3 g4 g5 : Goroutine} {a : Addr} (ho : Old p k C val (n + 5) g) (h : ∀ w, p.KL k w → stepG p.P false g w = .go g1 w #[Go.ConcR.mk (.releaseMerge a)])
  (h1 : ∀ w, stepG p.P false g1 w = .go g2 w #[]) (h2 : ∀ w, stepG p.P false g2 w = .go g3 w #[]) (h3 : ∀ w, stepG p.P false g3 w = .go g4 w #[]) (h4 : ∀ w, stepG p.P false g4 w = .go g5 w #[Go.ConcR.mk .disable]) :
  Goes p.P false (Rk (p.KL k)) (p.DR k) (p.T0 k) m g default := by
 refine Goes.stop fun w hw => ?_
 rcases ho w hw with hs | ⟨_, hs⟩
 ·exact t0_of hb hk hkn hw (hs w (RW.refl w))
 ·exfalso
  have s1 := hs w (RW.refl w)
  rw [h w hw, goes_go] at s1
  have nx : ∀ {n : Nat} {g g' : Goroutine}, (∀ w, stepG p.P false g w = .go g' w #[]) → Goes p.P false (RW p.ty p.Wg C 1 0 (1 - 1)) (DWs p.Wg (fun _ _ => False) (fun _ _ => False) C 1 1) (AtR0 p.P p.ty p.Wg C 1 0 1 val) (n + 1) g w → Goes p.P false (RW p.ty p.Wg C 1 0 (1 - 1)) (DWs p.Wg (fun _ _ => False) (fun _ _ => False) C 1 1) (AtR0 p.P p.ty p.Wg C 1 0 1 val) n g' w := by
   intro n g g' hgo hx
   rcases hx with hx | ⟨_, hx⟩
   ·obtain ⟨_, _, g1, e, _⟩ := hx w (RW.refl w)
    rw [hgo w] at e
    simp [Go.ConcR.mk] at e
   ·have := hx w (RW.refl w)
    rw [hgo w, goes_go] at this
    exact this.2
  have s4 := nx h3 (nx h2 (nx h1 s1.2))
  rcases s4 with hx | ⟨_, hx⟩
  ·obtain ⟨_, _, g1, e, _⟩ := hx w (RW.refl w)
   rw [h4 w] at e
   simp [Go.ConcR.mk] at e
  ·have := hx w (RW.refl w)
   rw [h4 w, goes_go] at this
   exact (this.1.2 (Go.ConcR.mk .disable) (List.mem_toArray.2 (List.mem_singleton.2 rfl))).2.1 rfl
end
end Go.Proofs.Ytilpedopnkhppaa.Mx

/- Steps of literals: a deferred literal that captures, its entry, recover where nothing panics. Conditions: each theorem's own. -/
namespace Go.Proofs.Ytilpedopnkhppaa.Mx
open Go.Conc Go.Conc.Lib Go.ConcR.Gen
open Go.ConcR (DC0)
section
variable {P : Program} {main : Bool} {b : Frame} {a : Act} {k : List Item} {cs : List Frame} {w : World} {ops : Array Oper} {i : Nat} {rest : List Nat} {o : Oper}
def dlit (f : FuncId) (cap : Array Value) : Deferred := { target := .fn (.func f) cap, args := #[] }
theorem stepG_deferV {f : FuncId} {cap : Array Value} {x : Operand} {ats : Array TypeId} (ho : ops[i]? = some o) (hw : Region.wanted o (yielded ops a.tmps) = true) (hk : b.kind ≠ .early)
  (hop : o.op = .defer { callee := .value x, args := #[], argTypes := ats }) (hx : a.eval x = .func (.func f) #[] cap) :
  stepG P main (G (b.at a (.inRegion ops (i :: rest) :: k)) cs) w = .go (G (b.at (Act.put ⟨a.tmps, dlit f cap :: a.defers⟩ o.dst undef) (.inRegion ops rest :: k)) cs) w #[] := by
 have hr : (execOp a.eval o).run P w = .ok (.defer (dlit f cap)) w := by
  unfold execOp
  simp [hop, resolve, Deferred.ofValue, hx, dlit]
 have he : (execOp a.eval o).events P w #[] = #[] := by
  unfold execOp
  simp [hop, resolve, Deferred.ofValue, hx]
 have hfin : (b.at ⟨a.tmps, dlit f cap :: a.defers⟩ (.inRegion ops (i :: rest) :: k)).finish undef = b.at (Act.put ⟨a.tmps, dlit f cap :: a.defers⟩ o.dst undef) (.inRegion ops rest :: k) := by rw [Frame.finish_at, ho]; rfl
 have hk' : (b.kind == CallKind.early) = false := by simpa using hk
 rw [stepG_oper ho hw, ← hfin]
 simp [stepG.apply, hr, he, G, Frame.at, hk', GStep.after, seen_none]
theorem stepG_unwind_lit {todo : List Item} {ds : List Deferred} {f : FuncId} {fn : Func} {cap : Array Value} {c : Code} (hd : a.defers = dlit f cap :: ds) (hf : P.funcs[f]? = some fn) (hname : (fn.name == "runtime.NumGoroutine") = false) (hb : fn.body = some c) :
  stepG P main (G { b.at a todo with mode := .returning } cs) w =
   .go (G ((baseD f).at { tmps := cap ++ Array.replicate (fn.ntmps - cap.size) undef, defers := [] } [.code c]) ({ b.at ⟨a.tmps, ds⟩ todo with mode := .returning } :: cs)) w #[] := by
 have h1 : ¬ fn.name = "runtime.NumGoroutine" := by simpa using hname
 rw [← enter_atD cap hf hb]
 simp [G, stepG, unwind, callDeferred, Frame.at, hd, dlit, invoke, callFunc, hf, h1, hb, GStep.after, seen_none]
theorem stepG_recover0 {c : Frame} {ats : Array TypeId} (ho : ops[i]? = some o) (hw : Region.wanted o (yielded ops a.tmps) = true) (hk : b.kind = .deferred)
  (hop : o.op = .call { callee := .builtin .recover, args := #[], argTypes := ats }) (hc : c.mode = .returning) :
  stepG P main (G (b.at a (.inRegion ops (i :: rest) :: k)) (c :: cs)) w = .go (G (b.at (a.put o.dst .nilIface) (.inRegion ops rest :: k)) (c :: cs)) w #[] := by
 have hr : (execOp a.eval o).run P w = .ok .recover w := by
  unfold execOp
  simp only [hop]
  simp [go_sem]
 have he : (execOp a.eval o).events P w #[] = #[] := by
  unfold execOp
  simp only [hop]
  simp [go_sem]
 have hfin : (b.at a (.inRegion ops (i :: rest) :: k)).finish .nilIface = b.at (a.put o.dst .nilIface) (.inRegion ops rest :: k) := by rw [Frame.finish_at, ho]; rfl
 rw [stepG_oper ho hw, ← hfin]
 simp [stepG.apply, hr, he, G, Frame.at, GStep.after, seen_none, tryRecover, hk, hc]
theorem stepG_sendV {c : Nat} {x y : Operand} {v : Value} (ho : ops[i]? = some o) (hw : Region.wanted o (yielded ops a.tmps) = true) (hk : b.kind ≠ .early) (hop : o.op = .send x y) (hx : a.eval x = .chan (some c)) (hy : a.eval y = v) :
  stepG P main (G (b.at a (.inRegion ops (i :: rest) :: k)) cs) w = .comm (G (b.at a (.inRegion ops (i :: rest) :: k)) cs) #[scase c v (.tuple #[])] true .send w #[] := by
 have hr : (execOp a.eval o).run P w = .ok (.comm #[scase c v (.tuple #[])] true .send) w := by
  unfold execOp
  simp [hop, hx, hy, scase]
 have he : (execOp a.eval o).events P w #[] = #[] := by
  unfold execOp
  simp [hop]
 rw [stepG_comm ho hw hk hr, listed_nil he]
theorem served_at (v : Value) : Go.Conc.served (G (b.at a (.inRegion ops (i :: rest) :: k)) cs) v = G (b.at (a.put ((ops[i]?).bind (·.dst)) v) (.inRegion ops rest :: k)) cs := by
 simp [Go.Conc.served, G, Frame.finish_at]
end
theorem klr {α : Prop} {K : World → Prop} {w w₁ : World} (_ : α) (h : Rk K w w₁) : K w₁ := h
theorem dr_none {p : Ph} {k : Nat} {w : World} {es : Array Event} (h : ∀ e ∈ es, False) : p.DR k w w es := ⟨rfl, fun e he => (h e he).elim⟩
theorem dm_none {p : Ph} {j : Nat} {w : World} {es : Array Event} (h : ∀ e ∈ es, False) : p.DM j w w es := ⟨rfl, fun _ _ => rfl, fun _ _ h => h, fun e he => (h e he).elim, Nat.le_refl _⟩
theorem far_rely {p : Ph} {j : Nat} {F : World → Prop} (hF2 : ∀ w w₁, p.Far j w w₁ → F w → F w₁) {w w₁ : World} (h : F w ∧ p.Live w) (r : p.Far j w w₁) : F w₁ ∧ p.Live w₁ := ⟨hF2 _ _ r h.1, r.live h.2⟩
theorem evK_read {p : Ph} {k : Nat} (a : Addr) (h : p.Rd k (.cell a)) (hB : a.block < p.B) : p.EvK k ⟨.cell a, false, false⟩ := by
 refine ⟨⟨fun y hy => ?_, ?_, by rw [ofEvent_cell0]; simp⟩, fun y hy => ?_, by simp, by simp⟩
 ·rw [ofEvent_cell0] at hy
  simp only [MemAct.touch?, Option.some.injEq] at hy
  subst hy
  exact .inr ⟨h, rfl⟩
 ·rw [ofEvent_cell0]; exact hB
 ·rw [ofEvent_cell0] at hy
  simp only [MemAct.touch?, Option.some.injEq] at hy
  subst hy
  simp
end Go.Proofs.Ytilpedopnkhppaa.Mx

/- A group of senders of mux: where its things lie. Conditions: none; definitions and their small laws. -/
namespace Go.Proofs.Ytilpedopnkhppaa.Mx
open Go.Conc Go.Conc.Lib Go.ConcR.Gen
structure Grp where
 M : Nat
 Wg : Nat
 b : Nat
 n : Nat
 B : Nat
 Shun : Loc → Prop
 ad : Nat → Option Addr
 len : Nat → Nat
 cp : Nat → Nat
namespace Grp
variable (s : Grp)
def lbox (k : Nat) : Addr := ⟨s.M + 5 * k, 0, none⟩
def chan (k : Nat) : Nat := s.M + 5 * k + 1
def ibox (k : Nat) : Addr := ⟨s.M + 5 * k + 2, 0, none⟩
def gbox (k : Nat) : Addr := ⟨s.M + 5 * k + 3, 0, none⟩
def fbox (k : Nat) : Addr := ⟨s.M + 5 * k + 4, 0, none⟩
def wga : Addr := ⟨s.Wg, 0, none⟩
noncomputable def elems : Option Addr → Nat → List Value
 | none, _ => []
 | some a, n => (List.range n).map fun i => .pointer (some (a.add i))
def lit (f : FuncId) (k : Nat) : Value := .func (.func f) #[] #[.pointer (some (s.ibox k)), .pointer (some (s.lbox k))]
structure Boxes (f : FuncId) (tL tC : TypeId) (k : Nat) (w : World) : Prop where
 l : w.heap[s.M + 5 * k]? = some (.cells #[.slice (s.ad k) (s.len k) (s.cp k)] tL)
 i : w.heap[s.M + 5 * k + 2]? = some (.cells #[.chan (some (s.chan k))] tC)
 g : w.heap[s.M + 5 * k + 3]? = some (.cells #[.pointer (some s.wga)] 101)
 f : w.heap[s.M + 5 * k + 4]? = some (.cells #[s.lit f k] 1)
def Rd (k : Nat) (l : Loc) : Prop := l = .obj (s.chan k) ∨ ∃ a : Addr, l = .cell a ∧ s.M + 5 * k ≤ a.block ∧ a.block < s.M + 5 * k + 5
noncomputable def ph (f : FuncId) (tL tC : TypeId) (z : Value) (Anch Post : Goroutine → World → Prop) : Ph where
 P := Try.prog
 ty := lnk.tWg
 Wg := s.Wg
 b := s.b
 n := s.n
 B := s.B
 Shun := s.Shun
 vs k := elems (s.ad k) (s.len k)
 cap k := min (s.len k) 64
 ch := s.chan
 K := s.Boxes f tL tC
 Rd := s.Rd
 z := z
 Anch := Anch
 Post := Post
end Grp
theorem cell_of {w : World} {b : Nat} {v : Value} {t : TypeId} (h : w.heap[b]? = some (.cells #[v] t)) : w.cell? ⟨b, 0, none⟩ = some v := by simp [World.cell?, h]
namespace Grp
variable {s : Grp} {f : FuncId} {tL tC : TypeId} {k : Nat} {w : World}
theorem Boxes.lc (h : s.Boxes f tL tC k w) : w.cell? (s.lbox k) = some (.slice (s.ad k) (s.len k) (s.cp k)) := cell_of h.l
theorem Boxes.ic (h : s.Boxes f tL tC k w) : w.cell? (s.ibox k) = some (.chan (some (s.chan k))) := cell_of h.i
theorem Boxes.gc (h : s.Boxes f tL tC k w) : w.cell? (s.gbox k) = some (.pointer (some s.wga)) := cell_of h.g
theorem Boxes.fc (h : s.Boxes f tL tC k w) : w.cell? (s.fbox k) = some (s.lit f k) := cell_of h.f
end Grp
end Go.Proofs.Ytilpedopnkhppaa.Mx

/- Package mux: the program's functions that the bridge carries. Conditions: none. -/
namespace Go.Proofs.Ytilpedopnkhppaa.Br
abbrev sh0 (w : World) : Sh := ⟨fun _ => False, w.os, w.output⟩
end Go.Proofs.Ytilpedopnkhppaa.Br
namespace Go.Proofs.Ytilpedopnkhppaa.Mo
open Go.Conc Br
def Fs : List FuncId := [12, 13, 14, 15, 16, 17, 18, 19, 23, 24, 25, 28, 31]
theorem noEarly : NoEarly Try.prog := noEarly_of (by kernel_rfl) (by kernel_rfl)
theorem funs : ∀ f ∈ Fs, FunOk Try.prog Fs f := okFuns (by kernel_rfl)
end Go.Proofs.Ytilpedopnkhppaa.Mo

/- The starter's regions without calls: walked alone, in company. Conditions: each theorem's own. -/
namespace Go.Proofs.Ytilpedopnkhppaa.Mx
open Go.Conc Br
namespace Grp
variable (s : Grp)
def SdP (X : Nat → Prop) (j : Nat) (b : Nat) : Prop := X b ∨ b = s.Wg ∨ ∃ k, k < j ∧ s.M + 5 * k ≤ b ∧ b < s.M + 5 * k + 5
@[reducible] def Sd (X : Sh) (j : Nat) : Sh := ⟨s.SdP X j, X.os, X.out⟩
end Grp
section
variable {s : Grp} {X : Sh} {f : FuncId} {tL tC : TypeId} {z : Value} {Anch Post : Goroutine → World → Prop} {j : Nat} {w w₁ w' v v' : World} {es : Array Event}
theorem sd_rely (h : (s.ph f tL tC z Anch Post).Far j w w₁) (hl : Like (s.Sd X j) w v) : Like (s.Sd X j) w₁ v ∧ w₁.tape = w.tape := by
 refine ⟨⟨hl.size.trans h.size.symm, hl.os.trans h.os.symm, hl.out.trans h.output.symm, h.os.trans hl.osx, h.output.trans hl.outx, fun b hb => ?_, hl.dead, fun b hb => h.solid b (hl.solid b hb)⟩, h.tape⟩
 rw [hl.off b hb]
 refine (h.block b (fun e => hb (.inr (.inl e))) fun k hk e => hb (.inr (.inr ⟨k, hk, ?_⟩))).symm
 rw [e]
 show s.M + 5 * k ≤ s.M + 5 * k + 1 ∧ s.M + 5 * k + 1 < s.M + 5 * k + 5
 omega
theorem rd_sd {k : Nat} (hk : k < j) {l : Loc} (h : s.Rd k l) : (∃ a : Addr, l = .cell a ∧ s.Sd X j a.block) ∨ ∃ r, l = .obj r ∧ s.Sd X j r := by
 rcases h with rfl | ⟨a, rfl, h1, h2⟩
 ·exact .inr ⟨_, rfl, .inr (.inr ⟨k, hk, by unfold Grp.chan; omega⟩)⟩
 ·exact .inl ⟨a, rfl, .inr (.inr ⟨k, hk, h1, h2⟩)⟩
theorem sd_ev (hX : ShunIn X s.Shun) {e : Event} {B : Nat} (h : Fine (s.Sd X j) B e) : OkM s.Shun B s.Wg s.Rd j (.ofEvent e) ∧ e.loc ≠ .mark .disable ∧ e.loc ≠ .mark .enable := by
 obtain ⟨l, wr, sy⟩ := e
 unfold Fine at h
 cases l with
 | cell a =>
  refine ⟨⟨fun x hx => ?_, h.2, by simp [MemAct.ofEvent]⟩, by simp, by simp⟩
  simp only [MemAct.ofEvent, MemAct.touch?, Option.some.injEq] at hx
  subst hx
  refine ⟨fun hs => ?_, fun _ k hk hr => ?_⟩
  ·rcases hs with hs | ⟨b, hb, hw⟩
   ·obtain ⟨b, hb, hSb⟩ := hX _ hs
    cases hb
    exact absurd (.inl hSb) h.1
   ·cases hb
    exact absurd (.inr (.inl hw)) h.1
  ·rcases rd_sd (X := X) hk hr with ⟨b, hb, hs⟩ | ⟨r, hb, _⟩
   ·cases hb; exact h.1 hs
   ·cases hb
 | obj r =>
  refine ⟨⟨fun x hx => ?_, ?_, by cases wr <;> cases sy <;> simp [MemAct.ofEvent]⟩, by simp, by simp⟩
  ·cases wr <;> cases sy <;> simp only [MemAct.ofEvent, MemAct.touch?, Option.some.injEq, reduceCtorEq] at hx
   all_goals
    subst hx
    refine ⟨fun hs => ?_, fun hw k hk hr => ?_⟩
    ·rcases hs with hs | ⟨b, hb, hw⟩
     ·obtain ⟨b, hb, _⟩ := hX _ hs; cases hb
     ·cases hb
    ·first
     | cases hw; done
     | rcases rd_sd (X := X) hk hr with ⟨b, hb, _⟩ | ⟨r', hb, hs⟩
       ·cases hb
       ·cases hb
        have := h.1 hs
        cases this
  ·cases wr <;> cases sy <;> exact h.2
 | mark m =>
  simp only at h
  subst h
  exact ⟨⟨fun x hx => by simp [MemAct.ofEvent, MemAct.touch?] at hx, trivial, by simp [MemAct.ofEvent]⟩, by simp, by simp⟩
 | _ => exact h.elim
theorem sd_dm (hX : ShunIn X s.Shun) (h : On (s.Sd X j) w v w' v' es.toList) : (s.ph f tL tC z Anch Post).DM j w w' es := by
 have hb : ∀ k, k < j → ∀ i, i < 5 → w'.heap[s.M + 5 * k + i]? = w.heap[s.M + 5 * k + i]? := fun k hk i hi => h.same _ (.inr (.inr ⟨k, hk, by omega, by omega⟩))
 refine ⟨h.same _ (.inr (.inl rfl)), fun k hk => hb k hk 1 (by omega), fun k hk hB => ?_, fun e he => ?_, h.grow⟩
 ·have hB' : s.Boxes f tL tC k w := hB
  exact ⟨(hb k hk 0 (by omega)).trans hB'.l, (hb k hk 2 (by omega)).trans hB'.i, (hb k hk 3 (by omega)).trans hB'.g, (hb k hk 4 (by omega)).trans hB'.f⟩
 ·obtain ⟨h1, h2⟩ := sd_ev hX (h.fine e (Array.mem_toList_iff.2 he))
  exact ⟨h1.up (Nat.le_max_right _ _), h2⟩
theorem sd_live {l : List Event} (h : On (s.Sd X j) w v w' v' l) (k : (s.ph f tL tC z Anch Post).Live w) : (s.ph f tL tC z Anch Post).Live w' := by
 obtain ⟨st, sm, hw⟩ := k
 exact ⟨st, sm, hw.of_block (h.same _ (.inr (.inl rfl)))⟩
theorem goes_then {P : Program} {Rl : World → World → Prop} {D : World → World → Array Event → Prop} {St St' : Goroutine → World → Prop} (hr : ∀ w, Rl w w) {m : Nat} (h : ∀ g w, St g w → Goes P true Rl D St' m g w) : ∀ {n : Nat} {g : Goroutine} {w : World}, Goes P true Rl D St n g w → Goes P true Rl D St' (n + m) g w := by
 intro n
 have more : ∀ {n m : Nat} {g : Goroutine} {w : World}, Goes P true Rl D St' m g w → Goes P true Rl D St' (n + m) g w := by
  intro n
  induction n with
  | zero => intro m g w h; rw [Nat.zero_add]; exact h
  | succ n ih => intro m g w h; rw [show n + 1 + m = (n + m) + 1 by omega]; exact Goes.more (ih h)
 induction n with
 | zero => exact fun {g w} hg => more (h _ _ (hg w (hr w)))
 | succ n ih =>
  intro g w hg
  rcases hg with hg | ⟨hs, hg⟩
  ·exact more (h _ _ (hg w (hr w)))
  ·rw [show n + 1 + m = (n + m) + 1 by omega]
   refine .inr ⟨hs, fun w₁ hw => ?_⟩
   have := hg w₁ hw
   cases e : stepG P true g w₁ with
   | go g' w' es => rw [e] at this; exact ⟨this.1, ih this.2⟩
   | _ => rw [e] at this; exact this.elim
theorem m_region (hX : ShunIn X s.Shun) {b : Frame} (hb : b.kind = .normal) {cs : List Frame} {id : Nat} {ops : Array Oper} {draw : Bool} {k : List Item} (hops : ops.all (okPlain Try.prog) = true) {a : Act} (ha : a.defers = []) (hlive : (s.ph f tL tC z Anch Post).Live w) (hl : Like (s.Sd X j) w v) {R : Array Value → World → Prop}
  (hlone : ∀ v, Like (s.Sd X j) w v → (Code.region id ops draw).wp Try.prog (fun e a' w' => e = .normal ∧ R a'.tmps w') a v)
  {St : Goroutine → World → Prop} {m : Nat} (hnext : ∀ (a' : Act) (w' v' : World), a'.defers = [] → (s.ph f tL tC z Anch Post).Live w' → Like (s.Sd X j) w' v' → R a'.tmps v' → Goes Try.prog true ((s.ph f tL tC z Anch Post).Far j) ((s.ph f tL tC z Anch Post).DM j) St m (G (b.at a' k) cs) w') :
  Goes Try.prog true ((s.ph f tL tC z Anch Post).Far j) ((s.ph f tL tC z Anch Post).DM j) St (ops.size + 2 + m) (G (b.at a (.code (.region id ops draw) :: k)) cs) w :=
 goes_then (Far.refl _) (fun g w' ⟨a', v', e, hd, hi', hl', hR⟩ => e ▸ hnext a' w' v' hd hi' hl' hR)
  (goes_region Mo.noEarly hb (fun i o ho => okPlain_ok (Array.all_eq_true_iff_forall_mem.1 hops o (Array.mem_of_getElem? ho))) (fun h hl => sd_rely h hl) (fun h => sd_dm hX h) (Iv := (s.ph f tL tC z Anch Post).Live) (fun h k => h.live k) (fun h k => sd_live h k) hlive ha hl hlone)
theorem m_one (hX : ShunIn X s.Shun) {b : Frame} (hb : b.kind = .normal) {cs : List Frame} {ops : Array Oper} {i : Nat} {rest : List Nat} {k : List Item} {o : Oper} {a : Act} (ho : ops[i]? = some o) (hw : Region.wanted o (yielded ops a.tmps) = true) (hok : okPlain Try.prog o = true) (hlive : (s.ph f tL tC z Anch Post).Live w) (hl : Like (s.Sd X j) w v)
  {R : Value → World → Prop} (hr : ∀ v, Like (s.Sd X j) w v → ∃ y v', ((execOp a.eval o).run Try.prog v = .ok (.value y) v' ∨ ((execOp a.eval o).run Try.prog v = .ok .skip v' ∧ y = undef)) ∧ R y v')
  {St : Goroutine → World → Prop} {m : Nat} (hnext : ∀ (y : Value) (w' v' : World), (s.ph f tL tC z Anch Post).Live w' → Like (s.Sd X j) w' v' → R y v' → Goes Try.prog true ((s.ph f tL tC z Anch Post).Far j) ((s.ph f tL tC z Anch Post).DM j) St m (G (b.at (a.put o.dst y) (.inRegion ops rest :: k)) cs) w') :
  Goes Try.prog true ((s.ph f tL tC z Anch Post).Far j) ((s.ph f tL tC z Anch Post).DM j) St (m + 1) (G (b.at a (.inRegion ops (i :: rest) :: k)) cs) w := by
 refine .inr ⟨rfl, fun w₁ hr₁ => ?_⟩
 obtain ⟨hl₁, _⟩ := sd_rely hr₁ hl
 have hv : Like (s.Sd X j) w₁ { v with tape := w₁.tape, drawn := w₁.drawn } := like_tape hl₁ _ _
 have hv0 : Like (s.Sd X j) w { v with tape := w₁.tape, drawn := w₁.drawn } := like_tape hl _ _
 obtain ⟨y, v', hrun, hR⟩ := hr _ hv0
 have hk : ((b.at a (.inRegion ops (i :: rest) :: k)).kind == CallKind.early) = false := by
  show (b.kind == CallKind.early) = false
  rw [hb]; rfl
 have hf : (b.at a (.inRegion ops (i :: rest) :: k)).finish y = b.at (a.put o.dst y) (.inRegion ops rest :: k) := by rw [Frame.finish_at, ho]; rfl
 have hg : ∃ fs, stepG Try.prog true (G (b.at a (.inRegion ops (i :: rest) :: k)) cs) { v with tape := w₁.tape, drawn := w₁.drawn } = .go (G (b.at (a.put o.dst y) (.inRegion ops rest :: k)) cs) v' fs := by
  rw [stepG_oper ho hw]
  rcases hrun with hrun | ⟨hrun, rfl⟩ <;> exact ⟨_, by simp [stepG.apply, hrun, GStep.after, hk, G, hf]; rfl⟩
 obtain ⟨fs, hg⟩ := hg
 rcases plain_sim Mo.noEarly hb (rest := rest) ho hw (okPlain_ok hok) hv (fun _ _ _ => rfl) with ⟨u, h⟩ | ⟨y', w', u, es, h1, h2, h3, h4⟩ | ⟨ch, u, h⟩
 ·obtain ⟨o', es', e⟩ := h k cs
  rw [hg] at e
  cases e
 ·obtain ⟨fs', e⟩ := h2 k cs
  rw [hg] at e
  simp only [GStep.go.injEq] at e
  obtain ⟨e1, rfl, _⟩ := e
  have e2 := g_inj e1
  rw [h1 k cs, ← e2]
  exact ⟨sd_dm hX h3, hnext y w' v' (sd_live h3 (hr₁.live hlive)) h3.like hR⟩
 ·obtain ⟨fs', e⟩ := h k cs
  rw [hg] at e
  simp only [GStep.go.injEq] at e
  have e2 := congrArg Frame.mode (g_inj e.1)
  cases e2
end
end Go.Proofs.Ytilpedopnkhppaa.Mx

/- A walk of the kit's for ordinary frames alone, so that a select of one case with a default can stand in it. Conditions: each theorem's own. -/
namespace Go.Proofs.Ytilpedopnkhppaa.Mo
open Go.Conc
def Wpn (P : Program) (c : Code) (Q : Exit → Act → World → Prop) (a : Act) (w : World) : Prop :=
 ∀ (b : Frame) (k : List Item) (cs : List Frame), b.kind = .normal → ∃ e a' w', Q e a' w' ∧ Arrives P (lone (b.at a (.code c :: k)) cs w) b k cs e a' w'
section
variable {P : Program} {Q : Exit → Act → World → Prop} {a : Act} {w : World}
theorem Wpn.of {c : Code} (h : c.wp P Q a w) : Wpn P c Q a w := fun b k cs _ => h b k cs
theorem Wpn.seq {x y : Code} (h : ∀ K : Act → World → Prop, (∀ a w, Wpn P y Q a w → K a w) → Wpn P x (Exit.then K Q) a w) : Wpn P (Code.seq x y) Q a w := by
 intro b k cs hb
 obtain ⟨e, a₁, w₁, hq, harr⟩ := h _ (fun _ _ h => h) b (.code y :: k) cs hb
 cases e with
 | normal =>
  obtain ⟨e₂, a₂, w₂, hq₂, harr₂⟩ := hq b k cs hb
  exact ⟨e₂, a₂, w₂, hq₂, .of_steps (.head step_seq harr) harr₂⟩
 | exit id => exact ⟨_, a₁, w₁, hq, .of_steps (.one step_seq) (.pass (x := .code y) rfl (fun _ _ => .inl (by simp)) harr)⟩
 | goto l => exact ⟨_, a₁, w₁, hq, .of_steps (.one step_seq) (.pass (x := .code y) rfl (fun _ _ => .inl (by simp)) harr)⟩
 | ret => exact ⟨_, a₁, w₁, hq, .of_steps (.one step_seq) (.pass (x := .code y) rfl (fun _ _ => .inl (by simp)) harr)⟩
 | panic ch => exact ⟨_, a₁, w₁, hq, .of_steps (.one step_seq) (.pass (x := .code y) rfl (fun _ _ => .inl (by simp)) harr)⟩
 | outgrown => exact ⟨_, a₁, w₁, hq, .of_steps (.one step_seq) (.pass (x := .code y) rfl (fun _ _ => .inl (by simp)) harr)⟩
theorem wpOps_range' {ops : Array Oper} : ∀ (l : List Oper) (k : Nat), (∀ j, j < l.length → l[j]? = ops[k + j]?) → wpOps P ops Q (List.range' k l.length) = wpList P ops Q l := by
 intro l
 induction l with
 | nil => intro k _; funext a w; simp [wpOps, wpList]
 | cons o l ih =>
  intro k h
  have h0 : ops[k]? = some o := by simpa using (h 0 (by simp)).symm
  have ih' := ih (k + 1) (fun j hj => by have := h (j + 1) (by simp; omega); simpa [Nat.add_assoc, Nat.add_comm 1 j] using this)
  funext a w
  simp only [List.length_cons, List.range'_succ, wpOps, h0, wpList, ih']
theorem Wpn.comm {id : Nat} {o : Oper} {rest : List Oper} {c : CommCase} {w₁ w' : World} {v : Value} (hg : o.guard = none) (hr : (execOp a.eval o).run P w = .ok (.comm #[c] false .select) w₁)
  (hs : ∀ (fr : Frame) (cs : List Frame) (es : Array Event), stepG P true (G fr cs) w = .comm (G fr cs) #[c] false .select w₁ es → step P (solo (G fr cs) w) = .next (solo (G (fr.finish v) cs) w'))
  (h : wpList P (o :: rest).toArray Q rest (a.put o.dst v) w') : Wpn P (.region id (o :: rest).toArray false) Q a w := by
 intro b k cs hb
 have hcons : List.range (o :: rest).toArray.size = 0 :: List.range' 1 rest.length := by
  simp [List.range_eq_range', List.range'_succ]
 have hw : Region.wanted o (yielded (o :: rest).toArray a.tmps) = true := by simp [Region.wanted, hg]
 have e1 := hs (b.at a (.inRegion (o :: rest).toArray (0 :: List.range' 1 rest.length) :: k)) cs _ (stepG_comm (main := true) (ops := (o :: rest).toArray) (i := 0) (rest := List.range' 1 rest.length) (k := k) (cs := cs) (b := b) (o := o) rfl hw (by rw [hb]; decide) hr)
 rw [Frame.finish_at] at e1
 have hop : ((o :: rest).toArray[0]?).bind (·.dst) = o.dst := by simp
 rw [hop] at e1
 obtain ⟨e, a', w'', hq, harr⟩ := wp_ops (P := P) (ops := (o :: rest).toArray) (Q := Q) (List.range' 1 rest.length) (a.put o.dst v) w' (by rw [wpOps_range' rest 1 (fun j _ => by simp [Nat.add_comm 1 j])]; exact h) b k cs
 refine ⟨e, a', w'', hq, .of_steps (.head (step_region (ops := (o :: rest).toArray)) (.one ?_)) harr⟩
 rw [hcons]
 exact e1
theorem calls_of_wpn {f : FuncId} {fn : Func} {c : Code} {args : Array Value} {w : World} {R : Ending → World → Prop} (hf : P.funcs[f]? = some fn) (hb : fn.body = some c)
  (h : Wpn P c (bodyPost P fn R) { tmps := args ++ Array.replicate (fn.ntmps - args.size) undef, defers := [] } w) : Calls P f args w R := by
 intro cs
 let b : Frame := { (default : Frame) with fn := f, kind := .normal }
 have henter : Frame.enter P f args .normal = b.at { tmps := args ++ Array.replicate (fn.ntmps - args.size) undef, defers := [] } [.code c] := by
  simp [Frame.enter, Frame.at, hf, hb, b]
 obtain ⟨e, a', w', hq, harr⟩ := h b [] cs rfl
 rw [← henter] at harr
 cases e with
 | normal =>
  obtain ⟨hd, v, hr, hR⟩ := hq
  exact ⟨.returned v, w', _, hR, Steps.trans harr (.one step_end), rfl, rfl, hd, rfl, fn, hf, hr⟩
 | ret =>
  obtain ⟨hd, v, hr, hR⟩ := hq
  obtain ⟨todo, hs⟩ := harr
  exact ⟨.returned v, w', _, hR, hs, rfl, rfl, hd, rfl, fn, hf, hr⟩
 | panic chain =>
  obtain ⟨hd, hR⟩ := hq
  obtain ⟨todo, hs⟩ := harr
  exact ⟨.panicked chain, w', _, hR, hs, rfl, rfl, hd, fn, hf⟩
 | exit id => exact hq.elim
 | goto l => exact hq.elim
 | outgrown => exact ⟨.outgrown, w', b, hq, harr.resolve_left (by simp [b]), rfl, trivial⟩
end
end Go.Proofs.Ytilpedopnkhppaa.Mo

/- The starter in company: moves of control, calls, returns, what is left of a region. Conditions: each theorem's own. -/
namespace Go.Proofs.Ytilpedopnkhppaa.Mx
open Go.Conc Br
def MG (p : Ph) (j : Nat) (St : Goroutine → World → Prop) (m : Nat) (g : Goroutine) (w : World) : Prop := Goes p.P true (p.Far j) (p.DM j) St m g w
section
variable {p : Ph} {j m : Nat} {St : Goroutine → World → Prop} {w : World} {b : Frame} {a : Act} {k : List Item} {cs : List Frame} {ops : Array Oper} {i : Nat} {rest : List Nat}
theorem dm_zero (w : World) : p.DM j w w #[] := ⟨rfl, fun _ _ => rfl, fun _ _ h => h, fun e he => by simp at he, Nat.le_refl _⟩
theorem MG.rely {g : Goroutine} {w₁ : World} (h : MG p j St m g w) (hr : p.Far j w w₁) : MG p j St m g w₁ := Goes.rely (R := p.Far j) (fun _ _ _ h1 h2 => Far.trans h1 h2) h hr
theorem MG.more {g : Goroutine} (h : MG p j St m g w) (n : Nat) : MG p j St (n + m) g w := by
 induction n with
 | zero => rw [Nat.zero_add]; exact h
 | succ n ih => rw [show n + 1 + m = (n + m) + 1 by omega]; exact Goes.more ih
theorem MG.le {n : Nat} {g : Goroutine} (h : MG p j St m g w) (hn : m ≤ n) : MG p j St n g w := by
 have := h.more (n - m)
 rwa [show n - m + m = n by omega] at this
theorem MG.stop {g : Goroutine} (h : ∀ w₁, p.Far j w w₁ → St g w₁) : MG p j St m g w := Goes.stop h
theorem MG.ctl {fr fr' : Frame} {cs' : List Frame} (h : ∀ w₁, stepG p.P true (G fr cs) w₁ = .go (G fr' cs') w₁ #[]) (hk : MG p j St m (G fr' cs') w) : MG p j St (m + 1) (G fr cs) w :=
 .inr ⟨rfl, fun w₁ hr => by rw [h]; exact ⟨dm_zero _, hk.rely hr⟩⟩
theorem MG.goes {fr fr' : Frame} {cs' : List Frame} (h : ∀ (w₁ : World) (K : Goroutine → World → Array Event → Prop), K (G fr' cs') w₁ #[] → (stepG p.P true (G fr cs) w₁).goes K) (hk : MG p j St m (G fr' cs') w) : MG p j St (m + 1) (G fr cs) w :=
 .inr ⟨rfl, fun w₁ hr => h w₁ _ ⟨dm_zero _, hk.rely hr⟩⟩
theorem MG.seq {x y : Code} (hk : MG p j St m (G (b.at a (.code x :: .code y :: k)) cs) w) : MG p j St (m + 1) (G (b.at a (.code (.seq x y) :: k)) cs) w := .ctl (fun _ => stepG_seq) hk
theorem MG.skip (hk : MG p j St m (G (b.at a k) cs) w) : MG p j St (m + 1) (G (b.at a (.code .skip :: k)) cs) w := .ctl (fun _ => stepG_skip) hk
theorem MG.condT {c : Operand} {x y : Code} (h : a.eval c = .bool true) (hk : MG p j St m (G (b.at a (.code x :: k)) cs) w) : MG p j St (m + 1) (G (b.at a (.code (.cond c x y) :: k)) cs) w := .ctl (fun _ => (stepG_cond h).trans (by simp)) hk
theorem MG.condF {c : Operand} {x y : Code} (h : a.eval c = .bool false) (hk : MG p j St m (G (b.at a (.code y :: k)) cs) w) : MG p j St (m + 1) (G (b.at a (.code (.cond c x y) :: k)) cs) w := .ctl (fun _ => (stepG_cond h).trans (by simp)) hk
theorem MG.block {id : Nat} {x : Code} (hk : MG p j St m (G (b.at a (.code x :: .inBlock id :: k)) cs) w) : MG p j St (m + 1) (G (b.at a (.code (.block id x) :: k)) cs) w := .ctl (fun _ => stepG_block) hk
theorem MG.inBlock {id : Nat} (hk : MG p j St m (G (b.at a k) cs) w) : MG p j St (m + 1) (G (b.at a (.inBlock id :: k)) cs) w := .ctl (fun _ => stepG_inBlock) hk
theorem MG.loop {x : Code} (hk : MG p j St m (G (b.at a (.code x :: .inLoop x :: k)) cs) w) : MG p j St (m + 1) (G (b.at a (.code (.loop x) :: k)) cs) w := .ctl (fun _ => stepG_loop) hk
theorem MG.inLoop {x : Code} (hk : MG p j St m (G (b.at a (.code x :: .inLoop x :: k)) cs) w) : MG p j St (m + 1) (G (b.at a (.inLoop x :: k)) cs) w := .ctl (fun _ => stepG_inLoop) hk
theorem MG.exit {id : Nat} {k' : List Item} (h : exitTo id k = some k') (hk : MG p j St m (G (b.at a k') cs) w) : MG p j St (m + 1) (G (b.at a (.code (.exit id) :: k)) cs) w := .goes (fun _ _ hK => goes_exit h hK) hk
theorem MG.ret (hk : MG p j St m (G { b.at a (.code .ret :: k) with mode := .returning } cs) w) : MG p j St (m + 1) (G (b.at a (.code .ret :: k)) cs) w := .ctl (fun _ => stepG_ret') hk
theorem MG.end_ (hk : MG p j St m (G { b.at a [] with mode := .returning } cs) w) : MG p j St (m + 1) (G (b.at a []) cs) w := .ctl (fun _ => stepG_end) hk
theorem MG.reg {id : Nat} (hk : MG p j St m (G (b.at a (.inRegion ops (List.range ops.size) :: k)) cs) w) : MG p j St (m + 1) (G (b.at a (.code (.region id ops false) :: k)) cs) w := .ctl (fun _ => stepG_region) hk
theorem MG.regEnd (hk : MG p j St m (G (b.at a k) cs) w) : MG p j St (m + 1) (G (b.at a (.inRegion ops [] :: k)) cs) w := .ctl (fun _ => stepG_region_end) hk
theorem MG.pure {o : Oper} {y : Value} (ho : ops[i]? = some o) (hw : Region.wanted o (yielded ops a.tmps) = true) (hb : b.kind = .normal) (hr : ∀ w, (execOp a.eval o).runT p.P w #[] = (.ok (.value y) w, #[]))
  (hk : MG p j St m (G (b.at (a.put o.dst y) (.inRegion ops rest :: k)) cs) w) : MG p j St (m + 1) (G (b.at a (.inRegion ops (i :: rest) :: k)) cs) w := by
 refine .ctl (fun w₁ => ?_) hk
 rw [stepG_oper ho hw]
 have hR : (execOp a.eval o).run p.P w₁ = .ok (.value y) w₁ := by rw [← Sem.runT_fst p.P _ w₁ #[], hr]
 have hE : (execOp a.eval o).events p.P w₁ #[] = #[] := by unfold Sem.events; rw [hr]
 have hf : (b.at a (.inRegion ops (i :: rest) :: k)).finish y = b.at (a.put o.dst y) (.inRegion ops rest :: k) := by rw [Frame.finish_at, ho]; rfl
 have hk' : ((b.at a (.inRegion ops (i :: rest) :: k)).kind == CallKind.early) = false := by
  show (b.kind == CallKind.early) = false
  rw [hb]; rfl
 simp [stepG.apply, hR, hE, GStep.after, hk', G, hf, seen_nil]
theorem MG.call {o : Oper} {f : FuncId} {fn : Func} {c : Code} {args : Array Operand} {ats : Array TypeId} (ho : ops[i]? = some o) (hw : Region.wanted o (yielded ops a.tmps) = true) (hb : b.kind = .normal) (hop : o.op = .call { callee := .value (.func f), args, argTypes := ats })
  (hf : p.P.funcs[f]? = some fn) (hname : (fn.name == "runtime.NumGoroutine") = false) (hc : fn.body = some c)
  (hk : MG p j St m (G ((base f).at { tmps := args.map a.eval ++ Array.replicate (fn.ntmps - (args.map a.eval).size) undef, defers := [] } [.code c]) (b.at a (.inRegion ops (i :: rest) :: k) :: cs)) w) :
  MG p j St (m + 1) (G (b.at a (.inRegion ops (i :: rest) :: k)) cs) w := .goes (fun _ _ hK => goes_call ho hw (by rw [hb]; decide) hop hf hname hc hK) hk
theorem MG.call' {o : Oper} {f : FuncId} {fn : Func} {c : Code} {args : Array Operand} {ats : Array TypeId} {vals : Array Value} (ho : ops[i]? = some o) (hw : Region.wanted o (yielded ops a.tmps) = true) (hb : b.kind = .normal) (hop : o.op = .call { callee := .value (.func f), args, argTypes := ats })
  (hf : p.P.funcs[f]? = some fn) (hname : (fn.name == "runtime.NumGoroutine") = false) (hc : fn.body = some c) (hv : args.map a.eval = vals)
  (hk : MG p j St m (G ((base f).at { tmps := vals ++ Array.replicate (fn.ntmps - vals.size) undef, defers := [] } [.code c]) (b.at a (.inRegion ops (i :: rest) :: k) :: cs)) w) :
  MG p j St (m + 1) (G (b.at a (.inRegion ops (i :: rest) :: k)) cs) w := .call ho hw hb hop hf hname hc (by rw [hv]; exact hk)
theorem MG.leave0 {fn : Func} {todo : List Item} {b₀ : Frame} {a₀ : Act} (hb : b.kind = .normal) (hd : a.defers = []) (hf : p.P.funcs[b.fn]? = some fn) (hr : fn.results = #[])
  (hk : MG p j St m (G (b₀.at (a₀.put ((ops[i]?).bind (·.dst)) (.tuple #[])) (.inRegion ops rest :: k)) cs) w) : MG p j St (m + 1) (G { b.at a todo with mode := .returning } (b₀.at a₀ (.inRegion ops (i :: rest) :: k) :: cs)) w :=
 .goes (fun _ _ hK => goes_leave0 hb hd hf hr hK) hk
end
end Go.Proofs.Ytilpedopnkhppaa.Mx

/- send: a list's elements' addresses into a channel, one by one; then it is closed. Conditions: each theorem's own. -/
namespace Go.Proofs.Ytilpedopnkhppaa.Mx
open Go.Conc Go.Conc.Lib Go.ConcR.Gen
open Go.ConcR (DC0)
noncomputable def snd0 : Code := (Try.f34).body.getD .skip
noncomputable def sndL : Code := match snd0 with | .seq (.seq _ (.block _ (.loop c))) _ => c | _ => .skip
noncomputable def sndT : Code := match snd0 with | .seq _ c => c | _ => .skip
theorem loudS : (Try.prog.funcs[(base 34).fn]?).any (·.norace) = false := by kernel_rfl
theorem elems_length {oa : Option Addr} {n : Nat} (hz : oa = none → n = 0) : (Grp.elems oa n).length = n := by
 cases oa with
 | none => simp [Grp.elems, hz rfl]
 | some a => simp [Grp.elems]
section
variable {s : Grp} {f : FuncId} {tL tC : TypeId} {z : Value} {Anch Post : Goroutine → World → Prop} {k : Nat} {b₀ : Frame} {a₀ : Act} {ops₀ : Array Oper} {i₀ : Nat} {rest₀ : List Nat} {k₀ : List Item} {cs : List Frame}
set_option maxRecDepth 100000 in
theorem sendLoop (oa : Option Addr) (n cp : Nat) (hz : oa = none → n = 0) (hn : n < 9223372036854775807) (hT : ∃ m, Goes Try.prog false (Rk ((s.ph f tL tC z Anch Post).KL k)) ((s.ph f tL tC z Anch Post).DR k) ((s.ph f tL tC z Anch Post).T0 k) m (G (b₀.at (a₀.put ((ops₀[i₀]?).bind (·.dst)) (.tuple #[])) (.inRegion ops₀ rest₀ :: k₀)) cs) default)
  (l : List Value) : ∀ (i : Nat) (x2 x3 x4 x5 x8 x9 x10 x11 x12 x13 x14 x15 : Value) (w : World), l = (Grp.elems oa n).drop i → i ≤ n →
   ∃ m, Goes Try.prog false (Rk ((s.ph f tL tC z Anch Post).KL k)) ((s.ph f tL tC z Anch Post).DR k) ((s.ph f tL tC z Anch Post).SStop k l) m
    (G ((base 34).at ⟨#[.chan (some (s.chan k)), .slice oa n cp, x2, x3, x4, x5, .int .i64 n, .int .i64 i, x8, x9, x10, x11, x12, x13, x14, x15], []⟩ [.code sndL, .inLoop sndL, .inBlock 0, .code sndT]) (b₀.at a₀ (.inRegion ops₀ (i₀ :: rest₀) :: k₀) :: cs)) w := by
 induction l with
 | nil =>
  intro i x2 x3 x4 x5 x8 x9 x10 x11 x12 x13 x14 x15 w hl hi
  have hin : i = n := by
   have := congrArg List.length hl
   simp [elems_length hz] at this
   omega
  subst hin
  clear hl
  obtain ⟨m, hT⟩ := hT
  refine ⟨40, ?_⟩
  simp only [sndL, sndT, snd0, Try.f34, Option.getD_some]
  have hF : True := trivial
  (u_in klr hF; rw [stepG_seq]; simp only [goes_go]; refine ⟨by ((first | refine dr_none ?_ | refine dm_none ?_); intro e he; simp at he), ?_⟩)
  (u_in klr hF; rw [stepG_region]; simp only [goes_go, List.size_toArray, List.length_cons, List.length_nil, Nat.reduceAdd, Nat.zero_add, List.range, List.range.loop]; refine ⟨by ((first | refine dr_none ?_ | refine dm_none ?_); intro e he; simp at he), ?_⟩)
  (u_in klr hF
   refine goes_oper_k rfl rfl (by k_ne) (fun K hK => ?_)
   go_simp
   refine hK _ _ ⟨?_, ?_⟩
   ·(first | refine dr_none ?_ | refine dm_none ?_)
    intro e he
    have hm := mem_listed he
    simp [go_sem, *] at hm
   clear hK K
   try w_num)
  (u_in klr hF; rw [stepG_region_end]; simp only [goes_go]; refine ⟨by ((first | refine dr_none ?_ | refine dm_none ?_); intro e he; simp at he), ?_⟩)
  (u_in klr hF; rw [stepG_seq]; simp only [goes_go]; refine ⟨by ((first | refine dr_none ?_ | refine dm_none ?_); intro e he; simp at he), ?_⟩)
  (u_in klr hF; rw [stepG_cond (t := false) (by first | rfl | (simp [Act.eval]; omega))]; simp only [goes_go, if_true, if_false, Bool.false_eq_true, ↓reduceIte]; refine ⟨by ((first | refine dr_none ?_ | refine dm_none ?_); intro e he; simp at he), ?_⟩)
  (u_in klr hF; refine goes_exit rfl ?_; refine ⟨by ((first | refine dr_none ?_ | refine dm_none ?_); intro e he; simp at he), ?_⟩)
  (u_in klr hF; rw [stepG_region]; simp only [goes_go, List.size_toArray, List.length_cons, List.length_nil, Nat.reduceAdd, Nat.zero_add, List.range, List.range.loop]; refine ⟨by ((first | refine dr_none ?_ | refine dm_none ?_); intro e he; simp at he), ?_⟩)
  (u_in klr hF
   refine goes_oper_k rfl rfl (by k_ne) (fun K hK => ?_)
   go_simp
   refine hK _ _ ⟨?_, ?_⟩
   ·(first | refine dr_none ?_ | refine dm_none ?_)
    intro e he
    have hm := mem_listed he
    simp [go_sem, *] at hm
   clear hK K
   try w_num)
  refine Goes.stop fun w₁ h₁ => ⟨rfl, by simp [mayWake, G, Frame.at], _, fun w cap buf a r hK hc => stepG_close rfl rfl (by k_ne) rfl rfl hc loudS, rfl, m + 3, ?_⟩
  clear hF
  have hF : True := trivial
  walk_nrm
  (u_in klr hF; rw [stepG_region_end]; simp only [goes_go]; refine ⟨by ((first | refine dr_none ?_ | refine dm_none ?_); intro e he; simp at he), ?_⟩)
  (u_in klr hF; rw [stepG_end]; simp only [goes_go]; refine ⟨by ((first | refine dr_none ?_ | refine dm_none ?_); intro e he; simp at he), ?_⟩)
  (u_in klr hF; refine goes_leave0 rfl rfl Try.func34 rfl ⟨by ((first | refine dr_none ?_ | refine dm_none ?_); intro e he; simp at he), ?_⟩; walk_nrm)
  exact goes_rk hT _
 | cons v l ih =>
  intro i x2 x3 x4 x5 x8 x9 x10 x11 x12 x13 x14 x15 w hl hi
  have hin : i < n := by
   have := congrArg List.length hl
   simp [elems_length hz] at this
   omega
  obtain ⟨ad, rfl⟩ : ∃ ad, oa = some ad := by
   cases oa with
   | none => have := hz rfl; omega
   | some ad => exact ⟨ad, rfl⟩
  have hv : v = .pointer (some (ad.add i)) ∧ l = (Grp.elems (some ad) n).drop (i + 1) := by
   have h0 := hl
   rw [List.drop_eq_getElem_cons (by simpa [Grp.elems] using hin)] at h0
   injection h0 with h1 h2
   refine ⟨h1.trans ?_, h2⟩
   simp [Grp.elems]
  obtain ⟨rfl, hl'⟩ := hv
  clear hl
  refine ⟨40, ?_⟩
  simp only [sndL, sndT, snd0, Try.f34, Option.getD_some]
  have hF : True := trivial
  (u_in klr hF; rw [stepG_seq]; simp only [goes_go]; refine ⟨by ((first | refine dr_none ?_ | refine dm_none ?_); intro e he; simp at he), ?_⟩)
  (u_in klr hF; rw [stepG_region]; simp only [goes_go, List.size_toArray, List.length_cons, List.length_nil, Nat.reduceAdd, Nat.zero_add, List.range, List.range.loop]; refine ⟨by ((first | refine dr_none ?_ | refine dm_none ?_); intro e he; simp at he), ?_⟩)
  (u_in klr hF
   refine goes_oper_k rfl rfl (by k_ne) (fun K hK => ?_)
   go_simp
   refine hK _ _ ⟨?_, ?_⟩
   ·(first | refine dr_none ?_ | refine dm_none ?_)
    intro e he
    have hm := mem_listed he
    simp [go_sem, *] at hm
   clear hK K
   try w_num)
  (u_in klr hF; rw [stepG_region_end]; simp only [goes_go]; refine ⟨by ((first | refine dr_none ?_ | refine dm_none ?_); intro e he; simp at he), ?_⟩)
  (u_in klr hF; rw [stepG_seq]; simp only [goes_go]; refine ⟨by ((first | refine dr_none ?_ | refine dm_none ?_); intro e he; simp at he), ?_⟩)
  (u_in klr hF; rw [stepG_cond (t := true) (by first | rfl | (simp [Act.eval]; omega))]; simp only [goes_go, if_true, if_false, Bool.false_eq_true, ↓reduceIte]; refine ⟨by ((first | refine dr_none ?_ | refine dm_none ?_); intro e he; simp at he), ?_⟩)
  (u_in klr hF; rw [stepG_skip]; simp only [goes_go]; refine ⟨by ((first | refine dr_none ?_ | refine dm_none ?_); intro e he; simp at he), ?_⟩)
  (u_in klr hF; rw [stepG_seq]; simp only [goes_go]; refine ⟨by ((first | refine dr_none ?_ | refine dm_none ?_); intro e he; simp at he), ?_⟩)
  (u_in klr hF; rw [stepG_block]; simp only [goes_go]; refine ⟨by ((first | refine dr_none ?_ | refine dm_none ?_); intro e he; simp at he), ?_⟩)
  (u_in klr hF; rw [stepG_seq]; simp only [goes_go]; refine ⟨by ((first | refine dr_none ?_ | refine dm_none ?_); intro e he; simp at he), ?_⟩)
  (u_in klr hF; rw [stepG_region]; simp only [goes_go, List.size_toArray, List.length_cons, List.length_nil, Nat.reduceAdd, Nat.zero_add, List.range, List.range.loop]; refine ⟨by ((first | refine dr_none ?_ | refine dm_none ?_); intro e he; simp at he), ?_⟩)
  iterate 2
   (u_in klr hF
    refine goes_oper_k rfl rfl (by k_ne) (fun K hK => ?_)
    go_simp
    refine hK _ _ ⟨?_, ?_⟩
    ·(first | refine dr_none ?_ | refine dm_none ?_)
     intro e he
     have hm := mem_listed he
     simp [go_sem, *] at hm
    clear hK K
    try w_num)
  (u_in klr hF; rw [stepG_region_end]; simp only [goes_go]; refine ⟨by ((first | refine dr_none ?_ | refine dm_none ?_); intro e he; simp at he), ?_⟩)
  (u_in klr hF; rw [stepG_region]; simp only [goes_go, List.size_toArray, List.length_cons, List.length_nil, Nat.reduceAdd, Nat.zero_add, List.range, List.range.loop]; refine ⟨by ((first | refine dr_none ?_ | refine dm_none ?_); intro e he; simp at he), ?_⟩)
  iterate 4
   (u_in klr hF
    refine goes_oper_k rfl rfl (by k_ne) (fun K hK => ?_)
    go_simp
    refine hK _ _ ⟨?_, ?_⟩
    ·(first | refine dr_none ?_ | refine dm_none ?_)
     intro e he
     have hm := mem_listed he
     simp [go_sem, *] at hm
    clear hK K
    try w_num)
  obtain ⟨m, hm⟩ := ih (i + 1) x2 x3 (.int .i64 i) x5 (.bool true) (.int .i64 i) (.chan (some (s.chan k))) (.slice (some ad) n cp) (.int .i64 i) (.pointer (some (ad.add i))) (.int .i64 ((i : Int) + 1)) x15 default hl' (by omega)
  have ei : ((i + 1 : Nat) : Int) = (i : Int) + 1 := by omega
  simp only [ei, sndL, sndT, snd0, Try.f34, Option.getD_some] at hm
  refine Goes.stop fun w₁ h₁ => ⟨rfl, _, _, fun w hK => stepG_sendV rfl rfl (by k_ne) rfl rfl rfl, ?_⟩
  rw [served_at]
  refine (Ph.sends_iff _ _ _ _).2 ⟨m + 7, ?_⟩
  clear hF ih
  have hF : True := trivial
  have e1 : IntKind.i64.wrap ((i : Int) + 1) = (i : Int) + 1 := by rw [IntKind.wrap_i64]; omega
  walk_nrm
  (u_in klr hF; rw [stepG_region_end]; simp only [goes_go]; refine ⟨by ((first | refine dr_none ?_ | refine dm_none ?_); intro e he; simp at he), ?_⟩)
  (u_in klr hF; rw [stepG_inBlock]; simp only [goes_go]; refine ⟨by ((first | refine dr_none ?_ | refine dm_none ?_); intro e he; simp at he), ?_⟩)
  (u_in klr hF; rw [stepG_region]; simp only [goes_go, List.size_toArray, List.length_cons, List.length_nil, Nat.reduceAdd, Nat.zero_add, List.range, List.range.loop]; refine ⟨by ((first | refine dr_none ?_ | refine dm_none ?_); intro e he; simp at he), ?_⟩)
  iterate 2
   (u_in klr hF
    refine goes_oper_k rfl rfl (by k_ne) (fun K hK => ?_)
    go_simp
    refine hK _ _ ⟨?_, ?_⟩
    ·(first | refine dr_none ?_ | refine dm_none ?_)
     intro e he
     have hm := mem_listed he
     simp [go_sem, *] at hm
    clear hK K
    try w_num)
  (u_in klr hF; rw [stepG_region_end]; simp only [goes_go]; refine ⟨by ((first | refine dr_none ?_ | refine dm_none ?_); intro e he; simp at he), ?_⟩)
  (u_in klr hF; rw [stepG_inLoop]; simp only [goes_go]; refine ⟨by ((first | refine dr_none ?_ | refine dm_none ?_); intro e he; simp at he), ?_⟩)
  exact goes_rk hm _
set_option maxRecDepth 100000 in
theorem sendWalk (oa : Option Addr) (n cp : Nat) (hz : oa = none → n = 0) (hn : n < 9223372036854775807) (hT : ∃ m, Goes Try.prog false (Rk ((s.ph f tL tC z Anch Post).KL k)) ((s.ph f tL tC z Anch Post).DR k) ((s.ph f tL tC z Anch Post).T0 k) m (G (b₀.at (a₀.put ((ops₀[i₀]?).bind (·.dst)) (.tuple #[])) (.inRegion ops₀ rest₀ :: k₀)) cs) default) (w : World) :
  ∃ m, Goes Try.prog false (Rk ((s.ph f tL tC z Anch Post).KL k)) ((s.ph f tL tC z Anch Post).DR k) ((s.ph f tL tC z Anch Post).SStop k (Grp.elems oa n)) m
   (G ((base 34).at ⟨#[.chan (some (s.chan k)), .slice oa n cp, undef, undef, undef, undef, undef, undef, undef, undef, undef, undef, undef, undef, undef, undef], []⟩ [.code snd0]) (b₀.at a₀ (.inRegion ops₀ (i₀ :: rest₀) :: k₀) :: cs)) w := by
 obtain ⟨m, hm⟩ := sendLoop oa n cp hz hn hT _ 0 undef undef undef (.slice oa n cp) undef undef undef undef undef undef undef undef default (by simp; rfl) (by omega)
 simp only [sndL, sndT, snd0, Try.f34, Option.getD_some] at hm
 refine ⟨m + 30, ?_⟩
 simp only [snd0, Try.f34, Option.getD_some]
 clear hT
 have hF : True := trivial
 iterate 2
  (u_in klr hF; rw [stepG_seq]; simp only [goes_go]; refine ⟨by ((first | refine dr_none ?_ | refine dm_none ?_); intro e he; simp at he), ?_⟩)
 (u_in klr hF; rw [stepG_region]; simp only [goes_go, List.size_toArray, List.length_cons, List.length_nil, Nat.reduceAdd, Nat.zero_add, List.range, List.range.loop]; refine ⟨by ((first | refine dr_none ?_ | refine dm_none ?_); intro e he; simp at he), ?_⟩)
 iterate 3
  (u_in klr hF
   refine goes_oper_k rfl rfl (by k_ne) (fun K hK => ?_)
   go_simp
   refine hK _ _ ⟨?_, ?_⟩
   ·(first | refine dr_none ?_ | refine dm_none ?_)
    intro e he
    have hm := mem_listed he
    simp [go_sem, *] at hm
   clear hK K
   try w_num)
 (u_in klr hF; rw [stepG_region_end]; simp only [goes_go]; refine ⟨by ((first | refine dr_none ?_ | refine dm_none ?_); intro e he; simp at he), ?_⟩)
 (u_in klr hF; rw [stepG_block]; simp only [goes_go]; refine ⟨by ((first | refine dr_none ?_ | refine dm_none ?_); intro e he; simp at he), ?_⟩)
 (u_in klr hF; rw [stepG_loop]; simp only [goes_go]; refine ⟨by ((first | refine dr_none ?_ | refine dm_none ?_); intro e he; simp at he), ?_⟩)
 exact Goes.mono (goes_rk hm _) (by omega)
end
end Go.Proofs.Ytilpedopnkhppaa.Mx

