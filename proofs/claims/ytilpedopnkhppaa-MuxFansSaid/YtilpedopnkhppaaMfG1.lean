/- A lone walk, carried into company, first part: what an operation does in two worlds that part in dead blocks and in the tape. Conditions: each theorem's own. -/
import Derived.Conc.Beside
import Derived.Conc.Listed
import Derived.Calls
set_option linter.unusedVariables false
set_option linter.unusedSimpArgs false
namespace Go.Proofs.Ytilpedopnkhppaa.Br
open Go.Conc
def Ends : Halt → Prop
 | .stuck _ => True
 | .unsupported _ => True
 | _ => False
def Doomed (P : Program) {α : Type} : Sem α → Prop
 | .pure _ => False
 | .load _ _ k => ∀ v, Doomed P (k v)
 | .store _ _ _ k => Doomed P k
 | .new _ k => ∀ r, Doomed P (k r)
 | .shape _ k => ∀ s, Doomed P (k s)
 | .freeze _ _ k => Doomed P k
 | .frozen _ k => ∀ b, Doomed P (k b)
 | .getObj _ k => ∀ o, Doomed P (k o)
 | .setObj _ _ k => Doomed P k
 | .choose _ k => ∀ n, Doomed P (k n)
 | .sys _ _ => False
 | .program k => Doomed P (k P)
 | .mark _ k => Doomed P k
 | .halt h => Ends h
structure Sh where
 dd : Nat → Prop
 os : Os
 out : Array (Nat × ByteArray)
instance : CoeFun Sh (fun _ => Nat → Prop) := ⟨Sh.dd⟩
instance : Coe Sh (Nat → Prop) := ⟨Sh.dd⟩
def Solid (o : Obj) : Prop := (∃ c t, o = .cells c t (0, 0) ∧ c.size ≠ 0) ∨ ∃ a b c d e f, o = .chan a b c d e f
structure Like (S : Sh) (w v : World) : Prop where
 size : v.heap.size = w.heap.size
 os : v.os = w.os
 out : v.output = w.output
 osx : w.os = S.os
 outx : w.output = S.out
 off : ∀ b, ¬ S b → v.heap[b]? = w.heap[b]?
 dead : ∀ b, S b → v.heap[b]? = some (.coro none)
 solid : ∀ b, S b → ∃ o, w.heap[b]? = some o ∧ Solid o
def Fine (S : Sh) (B : Nat) (e : Event) : Prop :=
 match e.loc with
 | .cell a => ¬ S a.block ∧ a.block < B
 | .obj r => (S r → e.write = false) ∧ r < B
 | .mark m => m = .noRoom
 | _ => False
structure On (S : Sh) (w v w' v' : World) (es : List Event) : Prop where
 like : Like S w' v'
 grow : w.heap.size ≤ w'.heap.size
 tw : w'.tape = w.tape
 tv : v'.tape = v.tape
 dw : w.drawn ≤ w'.drawn
 dv : v'.drawn + w.drawn = v.drawn + w'.drawn
 fine : ∀ e ∈ es, Fine S w'.heap.size e
 same : ∀ b, S b → w'.heap[b]? = w.heap[b]?
theorem Fine.mono {S : Sh} {B B' : Nat} {e : Event} (h : Fine S B e) (hB : B ≤ B') : Fine S B' e := by
 unfold Fine at h ⊢
 split at h
 ·exact ⟨h.1, by omega⟩
 ·exact ⟨h.1, by omega⟩
 ·exact h
 ·exact h
theorem On.refl {S : Sh} {w v : World} (h : Like S w v) : On S w v w v [] := ⟨h, Nat.le_refl _, rfl, rfl, Nat.le_refl _, rfl, by simp, fun _ _ => rfl⟩
theorem On.trans {S : Sh} {w v w' v' w'' v'' : World} {es fs : List Event} (h : On S w v w' v' es) (k : On S w' v' w'' v'' fs) : On S w v w'' v'' (es ++ fs) := by
 refine ⟨k.like, Nat.le_trans h.grow k.grow, k.tw.trans h.tw, k.tv.trans h.tv, Nat.le_trans h.dw k.dw, by have := h.dv; have := k.dv; omega, fun e he => ?_, fun b hb => (k.same b hb).trans (h.same b hb)⟩
 rcases List.mem_append.1 he with x | x
 ·exact (h.fine e x).mono k.grow
 ·exact k.fine e x
def Agree (w v : World) (K : Nat) : Prop := ∀ j q, w.drawn + j < K → v.tape (v.drawn + j) q = w.tape (w.drawn + j) q
theorem Agree.on {S : Sh} {w v w' v' : World} {es : List Event} {K : Nat} (h : Agree w v K) (k : On S w v w' v' es) : Agree w' v' K := by
 intro j q hj
 have e1 : w'.drawn + j = w.drawn + (w'.drawn - w.drawn + j) := by have := k.dw; omega
 have e2 : v'.drawn + j = v.drawn + (w'.drawn - w.drawn + j) := by have := k.dw; have := k.dv; omega
 rw [k.tw, k.tv, e1, e2]
 exact h _ q (by omega)
def RWorld {α : Type} : Result α → World
 | .ok _ w => w
 | .halt _ w => w
inductive Sim {α : Type} (P : Program) (Φ : α → Prop) (S : Sh) (x : Sem α) (w v : World) (es : Array Event) : Prop
 | dead (h : Halt) (v' : World) : x.run P v = .halt h v' → Ends h → Sim P Φ S x w v es
 | ok (a : α) (w' v' : World) (l : List Event) : x.runT P w es = (.ok a w', es ++ l.toArray) → x.run P v = .ok a v' → Φ a → On S w v w' v' l → Sim P Φ S x w v es
 | panic (p : Value) (w' v' : World) (l : List Event) : x.runT P w es = (.halt (.panic p) w', es ++ l.toArray) → x.run P v = .halt (.panic p) v' → On S w v w' v' l → Sim P Φ S x w v es
section
variable {P : Program} {α β : Type} {Φ : α → Prop} {S : Sh}
theorem noCell_ends (v : World) (a : Addr) (s : String) : Ends (v.noCell a s) := by
 unfold World.noCell
 split <;> trivial
theorem farLoad_err {v : World} {p : Program} {a : Addr} {x : Bool} {h : Halt} (e : v.farLoad p a x = .error h) : Ends h := by
 unfold World.farLoad at e
 split at e
 ·split at e
  ·cases e
  ·cases e; trivial
 ·cases e; exact noCell_ends v a _
theorem farStore_err {v : World} {p : Program} {a : Addr} {y : Value} {x : Bool} {h : Halt} (e : v.farStore p a y x = .error h) : Ends h := by
 unfold World.farStore at e
 split at e
 ·split at e
  ·cases e
  ·cases e; trivial
 ·cases e; exact noCell_ends v a _
theorem Like.lt {w v : World} (h : Like S w v) {b : Nat} (hb : S b) : b < w.heap.size := by
 rw [← h.size]
 exact (Array.getElem?_eq_some_iff.1 (h.dead b hb)).1
theorem Like.setCell {w v : World} (h : Like S w v) {a : Addr} {x : Value} (ha : ¬ S a.block) : Like S (w.setCell a x) (v.setCell a x) := by
 refine ⟨by simp [World.setCell, h.size], h.os, h.out, h.osx, h.outx, fun b hb => ?_, fun b hb => ?_, fun b hb => ?_⟩
 ·simp only [World.setCell, Array.getElem?_modify, h.off b hb]
 ·have hne : a.block ≠ b := fun e => ha (e ▸ hb)
  simp only [World.setCell, Array.getElem?_modify, hne, if_false]
  exact h.dead b hb
 ·have hne : a.block ≠ b := fun e => ha (e ▸ hb)
  simp only [World.setCell, Array.getElem?_modify, hne, if_false]
  exact h.solid b hb
theorem Like.push {w v : World} (h : Like S w v) {o : Obj} : Like S { w with heap := w.heap.push o } { v with heap := v.heap.push o } := by
 refine ⟨by simp [h.size], h.os, h.out, h.osx, h.outx, fun b hb => ?_, fun b hb => ?_, fun b hb => ?_⟩
 ·simp only [Array.getElem?_push, h.off b hb, h.size]
 ·have := h.lt hb
  rw [Array.getElem?_push, if_neg (by rw [h.size]; omega)]
  exact h.dead b hb
 ·have := h.lt hb
  rw [Array.getElem?_push, if_neg (by omega)]
  exact h.solid b hb
theorem Like.setObj {w v : World} (h : Like S w v) {r : Nat} {o : Obj} (hr : ¬ S r) : Like S { w with heap := w.heap.setIfInBounds r o } { v with heap := v.heap.setIfInBounds r o } := by
 refine ⟨by simp [h.size], h.os, h.out, h.osx, h.outx, fun b hb => ?_, fun b hb => ?_, fun b hb => ?_⟩
 ·simp only [Array.getElem?_setIfInBounds, h.off b hb, h.size]
 ·have hne : r ≠ b := fun e => hr (e ▸ hb)
  simp only [Array.getElem?_setIfInBounds, hne, if_false]
  exact h.dead b hb
 ·have hne : r ≠ b := fun e => hr (e ▸ hb)
  simp only [Array.getElem?_setIfInBounds, hne, if_false]
  exact h.solid b hb
theorem same_setObj {w : World} {r : Nat} {o : Obj} (hr : ¬ S r) : ∀ b, S b → ({ w with heap := w.heap.setIfInBounds r o } : World).heap[b]? = w.heap[b]? := by
 intro b hb
 have hne : r ≠ b := fun e => hr (e ▸ hb)
 simp only [Array.getElem?_setIfInBounds, hne, if_false]
theorem cell_not_dead {w v : World} (h : Like S w v) {a : Addr} {x : Value} (hx : v.cell? a = some x) : ¬ S a.block ∧ w.cell? a = some x ∧ a.block < w.heap.size := by
 have hS : ¬ S a.block := by
  intro hb
  simp only [World.cell?, h.dead _ hb] at hx
  cases hx
 refine ⟨hS, ?_, ?_⟩
 ·unfold World.cell? at hx ⊢
  rw [← h.off _ hS]; exact hx
 ·rw [← h.size]
  unfold World.cell? at hx
  split at hx
  ·rename_i h'; exact (Array.getElem?_eq_some_iff.1 h').1
  ·cases hx
theorem ok_bind {ε α β : Type} {x : Except ε α} {f : α → Except ε β} {r : β} (h : (x >>= f) = .ok r) : ∃ a, x = .ok a ∧ f a = .ok r := by
 cases x with
 | error e => cases h
 | ok a => exact ⟨a, rfl, h⟩
theorem seen_congr {P : Program} {w v : World} {at_ k : Addr} {u : TypeId} {x : Bool} (h : v.heap[at_.block]? = w.heap[at_.block]?) : World.seen P v at_ u k x = World.seen P w at_ u k x := by
 unfold World.seen
 rw [h]
theorem seen_cells {P : Program} {v : World} {at_ k : Addr} {u : TypeId} {x : Bool} {r : Array Value × TypeId × (Nat × Nat) × Nat × Value × List (Nat × Nat × List UInt8)} (h : World.seen P v at_ u k x = .ok r) : ∃ c t z, v.heap[at_.block]? = some (.cells c t z) := by
 unfold World.seen at h
 dsimp only at h
 split at h
 ·obtain ⟨_, h', h⟩ := ok_bind h
  cases h'
 split at h
 ·split at h
  ·split at h
   ·split at h
    ·rename_i hh
     exact ⟨_, _, _, hh⟩
    ·cases h
   ·cases h
  ·cases h
 ·cases h
theorem viewLoad_congr {P : Program} {w v : World} {at_ k : Addr} {u : TypeId} {x : Bool} (h : v.heap[at_.block]? = w.heap[at_.block]?) : v.viewLoad P at_ u k x = w.viewLoad P at_ u k x := by
 unfold World.viewLoad
 rw [seen_congr h]
theorem viewLoad_ok {P : Program} {v : World} {at_ k : Addr} {u : TypeId} {x : Bool} {y : Value} {l : List Addr} (h : v.viewLoad P at_ u k x = .ok (y, l)) : (∃ c t z, v.heap[at_.block]? = some (.cells c t z)) ∧ ∀ a ∈ l, a.block = at_.block := by
 unfold World.viewLoad at h
 obtain ⟨⟨c, e, fz, first, like, cells⟩, hs, h⟩ := ok_bind h
 dsimp only at h
 split at h
 ·cases h
  refine ⟨seen_cells hs, fun a ha => ?_⟩
  simp only [List.mem_map] at ha
  obtain ⟨_, _, rfl⟩ := ha
  rfl
 ·cases h
theorem viewStore_ok {P : Program} {w v v' : World} {at_ k : Addr} {u : TypeId} {y : Value} {x : Bool} {l : List Addr} (hh : v.heap[at_.block]? = w.heap[at_.block]?) (h : v.viewStore P at_ u k y x = .ok (v', l)) :
  (∃ c t z, v.heap[at_.block]? = some (.cells c t z)) ∧ (∀ a ∈ l, a.block = at_.block) ∧ ∃ o, v' = { v with heap := v.heap.setIfInBounds at_.block o } ∧ w.viewStore P at_ u k y x = .ok ({ w with heap := w.heap.setIfInBounds at_.block o }, l) := by
 unfold World.viewStore at h ⊢
 rw [seen_congr hh] at h
 dsimp only at h ⊢
 split at h
 ·obtain ⟨_, h', h⟩ := ok_bind h
  cases h'
 rename_i ht
 rw [if_neg ht]
 obtain ⟨⟨c, e, fz, first, like, cells⟩, hs, h⟩ := ok_bind h
 rw [hs]
 dsimp only [bind, Except.bind] at h ⊢
 split at h
 ·rename_i bytes hb
  split at h
  ·cases h
  ·rename_i hsz
   split at h
   ·cases h
   ·rename_i c' hc
    cases h
    refine ⟨?_, fun a ha => ?_, .cells c' e fz, rfl, ?_⟩
    ·obtain ⟨c₀, t₀, z₀, h₀⟩ := seen_cells hs
     exact ⟨c₀, t₀, z₀, hh.trans h₀⟩
    ·simp only [List.mem_map] at ha
     obtain ⟨_, _, rfl⟩ := ha
     rfl
    ·simp only [hb, hsz, if_false, hc]
     rfl
 ·cases h
def isRow : Value → Bool
 | .agg _ | .tuple _ => true
 | _ => false
theorem run_store_row {m : Mode} {a : Addr} {y : Value} {k : Sem α} {v : World} (h : isRow y = true) : (Sem.store m a y k).run P v = .halt (.stuck "store: not the value of one cell") v := by cases y <;> first | rfl | cases h
theorem run_store {m : Mode} {a : Addr} {y : Value} {k : Sem α} {v : World} (h : isRow y = false) : (Sem.store m a y k).run P v = (match v.cell? a with
  | some _ => if v.frozen? a then .halt (.unsupported (.unsafePointer "a write to bytes that a string shares")) v else k.run P (v.setCell a y)
  | none => match v.farStore P a y (m == .atomic) with
    | .ok (w, _) => k.run P w
    | .error h => .halt h v) := by cases y <;> first | rfl | cases h
theorem runT_store {m : Mode} {a : Addr} {y : Value} {k : Sem α} {v : World} {es : Array Event} (h : isRow y = false) : (Sem.store m a y k).runT P v es = (match v.cell? a with
  | some _ =>
   if v.frozen? a then (.halt (.unsupported (.unsafePointer "a write to bytes that a string shares")) v, es)
   else k.runT P (v.setCell a y) (es.push ⟨.cell a, true, m == .atomic⟩)
  | none => match v.farStore P a y (m == .atomic) with
    | .ok (w, touched) => k.runT P w (es ++ touched.toArray.map (⟨.cell ·, true, m == .atomic⟩))
    | .error h => (.halt h v, es)) := by cases y <;> first | rfl | cases h
theorem doomed_run (x : Sem α) : ∀ v, Doomed P x → ∃ h v', x.run P v = .halt h v' ∧ Ends h := by
 induction x with
 | pure a => intro v h; exact h.elim
 | halt e => intro v h; exact ⟨e, v, rfl, h⟩
 | load m a k ih =>
  intro v h
  simp only [Sem.run]
  split
  ·exact ih _ v (h _)
  ·split
   ·exact ih _ v (h _)
   ·rename_i e he
    exact ⟨e, v, rfl, farLoad_err he⟩
 | store m a y k ih =>
  intro v h
  cases hr : isRow y with
  | true => exact ⟨_, _, run_store_row hr, trivial⟩
  | false =>
   rw [run_store hr]
   split
   ·split
    ·exact ⟨_, _, rfl, trivial⟩
    ·exact ih _ h
   ·split
    ·exact ih _ h
    ·rename_i e he
     exact ⟨e, v, rfl, farStore_err he⟩
 | new o k ih => intro v h; exact ih _ _ (h _)
 | shape r k ih => intro v h; exact ih _ _ (h _)
 | freeze a n k ih => intro v h; exact ih _ h
 | frozen a k ih => intro v h; exact ih _ _ (h _)
 | getObj r k ih =>
  intro v h
  simp only [Sem.run]
  split
  ·exact ⟨_, _, rfl, trivial⟩
  ·exact ih _ _ (h _)
  ·exact ⟨_, _, rfl, trivial⟩
 | setObj r o k ih =>
  intro v h
  simp only [Sem.run]
  split
  ·exact ⟨_, _, rfl, trivial⟩
  ·exact ih _ h
  ·exact ⟨_, _, rfl, trivial⟩
 | choose q k ih =>
  intro v h
  simp only [Sem.run]
  split
  ·exact ih _ _ (h _)
  ·exact ih _ _ (h _)
 | sys c k ih => intro v h; exact h.elim
 | program k ih => intro v h; exact ih _ _ h
 | mark m k ih => intro v h; exact ih _ h
theorem ask_le {β : Type} (x : Ask β) : ∀ w : World, w.drawn ≤ (w.ask x).2.drawn := by
 induction x with
 | done a => intro w; exact Nat.le_refl _
 | ask what range k ih =>
  intro w
  unfold World.ask
  simp only
  split
  ·exact ih _ w
  ·exact Nat.le_trans (Nat.le_succ _) (ih _ { w with drawn := w.drawn + 1 })
theorem viewStore_drawn {P : Program} {w w' : World} {at_ k : Addr} {u : TypeId} {v : Value} {x : Bool} {l : List Addr} (h : w.viewStore P at_ u k v x = .ok (w', l)) : w'.drawn = w.drawn := by
 unfold World.viewStore at h
 dsimp only at h
 split at h
 ·obtain ⟨_, h', h⟩ := ok_bind h
  cases h'
 obtain ⟨⟨c, e, fz, first, like, cells⟩, _, h⟩ := ok_bind h
 dsimp only at h
 split at h
 ·split at h
  ·obtain ⟨_, h', h⟩ := ok_bind h
   cases h'
  ·obtain ⟨_, _, h⟩ := ok_bind h
   cases h
   rfl
 ·cases h
theorem drawn_le (x : Sem α) : ∀ w, w.drawn ≤ (RWorld (x.run P w)).drawn := by
 induction x with
 | pure a => intro w; exact Nat.le_refl _
 | halt e => intro w; exact Nat.le_refl _
 | load m a k ih =>
  intro w
  simp only [Sem.run]
  split
  ·exact ih _ _
  ·split
   ·exact ih _ _
   ·exact Nat.le_refl _
 | store m a y k ih =>
  intro w
  cases hr : isRow y with
  | true => rw [run_store_row hr]; exact Nat.le_refl _
  | false =>
   rw [run_store hr]
   split
   ·split
    ·exact Nat.le_refl _
    ·exact ih (w.setCell a y)
   ·split
    ·rename_i w' tt he
     have hd : w'.drawn = w.drawn := by
      unfold World.farStore at he
      split at he
      ·split at he
       ·rename_i r hv
        obtain rfl := Except.ok.inj he
        exact viewStore_drawn hv
       ·cases he
      ·cases he
     rw [← hd]; exact ih _
    ·exact Nat.le_refl _
 | new o k ih => intro w; exact ih _ { w with heap := w.heap.push o }
 | shape r k ih => intro w; exact ih _ w
 | freeze a n k ih =>
  intro w
  have : (w.freeze a n).drawn = w.drawn := by unfold World.freeze; split <;> rfl
  rw [← this]; exact ih _
 | frozen a k ih => intro w; exact ih _ w
 | getObj r k ih =>
  intro w
  simp only [Sem.run]
  split
  ·exact Nat.le_refl _
  ·exact ih _ _
  ·exact Nat.le_refl _
 | setObj r o k ih =>
  intro w
  simp only [Sem.run]
  split
  ·exact Nat.le_refl _
  ·exact ih { w with heap := w.heap.setIfInBounds r o }
  ·exact Nat.le_refl _
 | choose q k ih =>
  intro w
  simp only [Sem.run]
  split
  ·exact ih _ w
  ·exact Nat.le_trans (Nat.le_succ _) (ih _ { w with drawn := w.drawn + 1 })
 | sys c k ih =>
  intro w
  refine Nat.le_trans ?_ (ih _ _)
  have := ask_le (Kernel.perform c w.os) w
  unfold World.sys
  split
  ·exact Nat.le_refl _
  ·rename_i h; rw [h] at this; exact this
 | program k ih => intro w; exact ih _ w
 | mark m k ih => intro w; exact ih w
end
theorem push_app (es : Array Event) (e : Event) : es.push e = es ++ [e].toArray := by simp
theorem app_nil (es : Array Event) : es ++ ([] : List Event).toArray = es := by simp
def SimOk (P : Program) {α : Type} (Φ : α → Prop) (x : Sem α) : Prop := ∀ (S : Sh) (w v : World) (es : Array Event), Like S w v → Agree w v (RWorld (x.run P w)).drawn → Sim P Φ S x w v es
namespace SimOk
variable {P : Program} {α β : Type} {Φ : α → Prop} {Ψ : β → Prop}
theorem pure {a : α} (h : Φ a) : SimOk P Φ (Pure.pure a) := fun S w v es hl _ => .ok a w v [] (by simp only [Sem.runT, Pure.pure, app_nil]) rfl h (On.refl hl)
theorem halt_panic (y : Value) : SimOk P Φ (.halt (.panic y)) := fun S w v es hl _ => .panic y w v [] (by simp only [Sem.runT, app_nil]) rfl (On.refl hl)
theorem halt_ends {e : Halt} (h : Ends e) : SimOk P Φ (.halt e) := fun S w v es hl _ => .dead e v rfl h
theorem stuck (y : String) : SimOk P Φ (Go.stuck y) := halt_ends trivial
theorem unsupported (y : Unsupported) : SimOk P Φ (Go.unsupported y) := halt_ends trivial
theorem doomed {x : Sem α} (h : Doomed P x) : SimOk P Φ x := fun S w v es hl _ => by
 obtain ⟨e, v', h1, h2⟩ := doomed_run x v h
 exact .dead e v' h1 h2
theorem bind {x : Sem α} {f : α → Sem β} (hx : SimOk P Φ x) (hf : ∀ a, Φ a → SimOk P Ψ (f a)) : SimOk P Ψ (x >>= f) := by
 intro S w v es hl hA
 have eR : ∀ u, (x >>= f).run P u = match x.run P u with | .ok a u' => (f a).run P u' | .halt e u' => .halt e u' := fun u => (Sem.run_bind' P x f u).trans (by cases x.run P u <;> rfl)
 have eT : ∀ u fs, (x >>= f).runT P u fs = match x.runT P u fs with | (.ok a u', gs) => (f a).runT P u' gs | (.halt e u', gs) => (.halt e u', gs) := fun u fs => Sem.runT_bind' P x f u fs
 have hA1 : Agree w v (RWorld (x.run P w)).drawn := by
  rw [eR] at hA
  intro j q hj
  refine hA j q (Nat.lt_of_lt_of_le hj ?_)
  cases hr : x.run P w with
  | ok a u => exact drawn_le (P := P) (f a) u
  | halt e u => exact Nat.le_refl _
 cases hx S w v es hl hA1 with
 | dead e v' h1 h2 => exact .dead e v' (by rw [eR, h1]) h2
 | panic y w' v' l h1 h2 h3 => exact .panic y w' v' l (by rw [eT, h1]) (by rw [eR, h2]) h3
 | ok a w' v' l h1 h2 h3 h4 =>
  have hr : x.run P w = .ok a w' := by rw [← Sem.runT_fst P x w es, h1]
  have hA2 : Agree w' v' (RWorld ((f a).run P w')).drawn := by
   rw [eR, hr] at hA
   exact hA.on h4
  cases hf a h3 S w' v' (es ++ l.toArray) h4.like hA2 with
  | dead e v'' g1 g2 => exact .dead e v'' (by rw [eR, h2]; exact g1) g2
  | panic y w'' v'' l' g1 g2 g3 => exact .panic y w'' v'' (l ++ l') (by rw [eT, h1]; simp only [g1]; simp) (by rw [eR, h2]; exact g2) (h4.trans g3)
  | ok b w'' v'' l' g1 g2 g3 g4 => exact .ok b w'' v'' (l ++ l') (by rw [eT, h1]; simp only [g1]; simp) (by rw [eR, h2]; exact g2) g3 (h4.trans g4)
theorem load (m : Mode) (a : Addr) : SimOk P (fun _ => True) (Go.load a m) := by
 intro S w v es hl _
 cases hc : v.cell? a with
 | some y =>
  obtain ⟨hS, hw, hb⟩ := cell_not_dead hl hc
  exact .ok y w v [⟨.cell a, false, m == .atomic⟩] (by simp only [Go.load, Sem.runT, hw, push_app]) (by simp only [Go.load, Sem.run, hc]) trivial
   ⟨hl, Nat.le_refl _, rfl, rfl, Nat.le_refl _, rfl, fun e he => by simp at he; subst he; exact ⟨hS, hb⟩, fun _ _ => rfl⟩
 | none =>
  cases hfl : v.farLoad P a (m == .atomic) with
  | error e => exact .dead e v (by simp only [Go.load, Sem.run, hc, hfl]) (farLoad_err hfl)
  | ok r =>
   obtain ⟨y, ts⟩ := r
   have hfl0 := hfl
   unfold World.farLoad at hfl
   split at hfl
   ·rename_i at_ u hv
    split at hfl
    ·rename_i r' hvl
     obtain rfl := Except.ok.inj hfl
     obtain ⟨⟨c, t, z, hcell⟩, hts⟩ := viewLoad_ok hvl
     have hS1 : ¬ S a.block := fun hb => by have := hl.dead _ hb; rw [hv] at this; cases this
     have hS2 : ¬ S at_.block := fun hb => by have := hl.dead _ hb; rw [hcell] at this; cases this
     have hw1 : w.heap[a.block]? = some (.view at_ u) := by rw [← hl.off _ hS1]; exact hv
     have hw2 : w.viewLoad P at_ u a (m == .atomic) = .ok (y, ts) := by rw [← viewLoad_congr (hl.off _ hS2)]; exact hvl
     have hwc : w.cell? a = none := by unfold World.cell?; rw [hw1]
     have hwf : w.farLoad P a (m == .atomic) = .ok (y, ts) := by unfold World.farLoad; rw [hw1]; simp only [hw2]
     have hblt : at_.block < w.heap.size := by rw [← hl.size]; exact (Array.getElem?_eq_some_iff.1 hcell).1
     exact .ok y w v (ts.map fun b => ⟨.cell b, false, m == .atomic⟩) (by simp only [Go.load, Sem.runT, hwc, hwf, List.map_toArray]) (by simp only [Go.load, Sem.run, hc, hfl0]) trivial
      ⟨hl, Nat.le_refl _, rfl, rfl, Nat.le_refl _, rfl, fun e he => by
       simp only [List.mem_map] at he
       obtain ⟨b, hb, rfl⟩ := he
       exact ⟨by rw [hts b hb]; exact hS2, by rw [hts b hb]; exact hblt⟩, fun _ _ => rfl⟩
    ·cases hfl
   ·cases hfl
theorem store (m : Mode) (a : Addr) (y : Value) : SimOk P (fun _ => True) (Go.store a y m) := by
 intro S w v es hl _
 cases hr : isRow y with
 | true => exact .dead _ v (run_store_row hr) trivial
 | false =>
  cases hc : v.cell? a with
  | some z =>
   obtain ⟨hS, hw, hb⟩ := cell_not_dead hl hc
   have hfz : w.frozen? a = v.frozen? a := by unfold World.frozen?; rw [hl.off _ hS]
   cases hf : v.frozen? a with
   | true => exact .dead (.unsupported (.unsafePointer "a write to bytes that a string shares")) v (by unfold Go.store; rw [run_store hr]; simp only [hc, hf, if_true]) trivial
   | false =>
    exact .ok () (w.setCell a y) (v.setCell a y) [⟨.cell a, true, m == .atomic⟩] (by unfold Go.store; rw [runT_store hr]; simp only [hw, hfz, hf, Sem.runT, Bool.false_eq_true, if_false, push_app]) (by unfold Go.store; rw [run_store hr]; simp only [hc, hf, Sem.run, Bool.false_eq_true, if_false]) trivial
     ⟨hl.setCell hS, by simp [World.setCell], rfl, rfl, Nat.le_refl _, rfl, fun e he => by simp at he; subst he; exact ⟨hS, by simpa [World.setCell] using hb⟩, fun b hb => by
      have hne : a.block ≠ b := fun e => hS (e ▸ hb)
      simp [World.setCell, Array.getElem?_modify, hne]⟩
  | none =>
   cases hfl : v.farStore P a y (m == .atomic) with
   | error e => exact .dead e v (by unfold Go.store; rw [run_store hr]; simp only [hc, hfl]) (farStore_err hfl)
   | ok r =>
    obtain ⟨v', ts⟩ := r
    have hfl0 := hfl
    unfold World.farStore at hfl
    split at hfl
    ·rename_i at_ u hv
     split at hfl
     ·rename_i r' hvl
      obtain rfl := Except.ok.inj hfl
      have hS1 : ¬ S a.block := fun hb => by have := hl.dead _ hb; rw [hv] at this; cases this
      have hS2 : ¬ S at_.block := fun hb => by
       obtain ⟨⟨c, t, z, hcell⟩, _, _⟩ := viewStore_ok (w := v) rfl hvl
       have := hl.dead _ hb; rw [hcell] at this; cases this
      obtain ⟨⟨c, t, z, hcell⟩, hts, o, rfl, hws⟩ := viewStore_ok (w := w) (hl.off _ hS2) hvl
      have hw1 : w.heap[a.block]? = some (.view at_ u) := by rw [← hl.off _ hS1]; exact hv
      have hwc : w.cell? a = none := by unfold World.cell?; rw [hw1]
      have hwf : w.farStore P a y (m == .atomic) = .ok ({ w with heap := w.heap.setIfInBounds at_.block o }, ts) := by unfold World.farStore; rw [hw1]; simp only [hws]
      have hblt : at_.block < w.heap.size := by rw [← hl.size]; exact (Array.getElem?_eq_some_iff.1 hcell).1
      exact .ok () { w with heap := w.heap.setIfInBounds at_.block o } { v with heap := v.heap.setIfInBounds at_.block o } (ts.map fun b => ⟨.cell b, true, m == .atomic⟩) (by unfold Go.store; rw [runT_store hr]; simp only [hwc, hwf, Sem.runT, List.map_toArray]) (by unfold Go.store; rw [run_store hr]; simp only [hc, hfl0, Sem.run]) trivial
       ⟨hl.setObj hS2, by simp, rfl, rfl, Nat.le_refl _, rfl, fun e he => by
        simp only [List.mem_map] at he
        obtain ⟨b, hb, rfl⟩ := he
        exact ⟨by rw [hts b hb]; exact hS2, by rw [hts b hb]; simpa using hblt⟩, same_setObj hS2⟩
     ·cases hfl
    ·cases hfl
theorem newObj (o : Obj) : SimOk P (fun _ => True) (Go.newObj o) := fun S w v es hl _ =>
 .ok w.heap.size { w with heap := w.heap.push o } { v with heap := v.heap.push o } [] (by simp only [Go.newObj, Sem.runT, app_nil]) (by simp only [Go.newObj, Sem.run, hl.size]) trivial ⟨hl.push, by simp, rfl, rfl, Nat.le_refl _, rfl, by simp, fun b hb => by
  have := hl.lt hb
  rw [Array.getElem?_push, if_neg (by omega)]⟩
theorem program : SimOk P (fun p => p = P) Go.program := fun S w v es hl _ => .ok P w v [] (by simp only [Go.program, Sem.runT, app_nil]) rfl rfl (On.refl hl)
theorem noRoom : SimOk P (fun _ => True) (Go.mark .noRoom) := fun S w v es hl _ =>
 .ok () w v [⟨.mark .noRoom, false, true⟩] (by simp only [Go.mark, Sem.runT, push_app]) rfl trivial ⟨hl, Nat.le_refl _, rfl, rfl, Nat.le_refl _, rfl, fun e he => by simp at he; subst he; rfl, fun _ _ => rfl⟩
theorem choose (q : Question) : SimOk P (fun _ => True) (Go.choose q) := by
 intro S w v es hl hA
 cases hf : q.forced with
 | true => exact .ok 0 w v [] (by simp only [Go.choose, Sem.runT, hf, if_true, app_nil]) (by simp only [Go.choose, Sem.run, hf, if_true]) trivial (On.refl hl)
 | false =>
  have ht : v.tape v.drawn q = w.tape w.drawn q := hA 0 q (by simp only [Go.choose, Sem.run, hf, RWorld, Bool.false_eq_true, if_false]; omega)
  exact .ok (q.cut (w.tape w.drawn q)) { w with drawn := w.drawn + 1 } { v with drawn := v.drawn + 1 } [] (by simp only [Go.choose, Sem.runT, hf, Bool.false_eq_true, if_false, app_nil]) (by simp only [Go.choose, Sem.run, hf, ht, Bool.false_eq_true, if_false]) trivial
   ⟨⟨hl.size, hl.os, hl.out, hl.osx, hl.outx, hl.off, hl.dead, hl.solid⟩, Nat.le_refl _, rfl, rfl, Nat.le_succ _, by simp only; omega, by simp, fun _ _ => rfl⟩
theorem getObj {f : Obj → Sem β} {r : Nat} (hc : Doomed P (f (.coro none))) (hf : ∀ o, SimOk P Ψ (f o)) : SimOk P Ψ (Go.getObj r >>= f) := by
 intro S w v es hl hA
 have eb : (Go.getObj r >>= f) = Sem.getObj r f := rfl
 rw [eb] at hA ⊢
 by_cases hS : S r
 ·obtain ⟨e, v', h1, h2⟩ := doomed_run (P := P) (f (.coro none)) v hc
  exact .dead e v' (by simp only [Sem.run, hl.dead r hS]; exact h1) h2
 ·cases ho : v.heap[r]? with
  | none => exact .dead (.stuck "getObj: no such block") v (by simp only [Sem.run, ho]) trivial
  | some o =>
   by_cases hcell : ∃ c t z, o = .cells c t z
   ·obtain ⟨c, t, z, rfl⟩ := hcell
    exact .dead (.stuck "getObj: a row of cells") v (by simp only [Sem.run, ho]) trivial
   ·have hw : w.heap[r]? = some o := by rw [← hl.off _ hS]; exact ho
    have r1 : ∀ u : World, u.heap[r]? = some o → (Sem.getObj r f).run P u = (f o).run P u := by
     intro u hu
     simp only [Sem.run, hu]
     cases o <;> first | rfl | exact (hcell ⟨_, _, _, rfl⟩).elim
    have r2 : ∀ fs, (Sem.getObj r f).runT P w fs = (f o).runT P w (fs ++ [(⟨.obj r, false, o.isChan⟩ : Event)].toArray) := by
     intro fs
     simp only [Sem.runT, hw, push_app]
     cases o <;> first | rfl | exact (hcell ⟨_, _, _, rfl⟩).elim
    have hon : On S w v w v [⟨.obj r, false, o.isChan⟩] := ⟨hl, Nat.le_refl _, rfl, rfl, Nat.le_refl _, rfl, fun e he => by simp at he; subst he; exact ⟨fun h => absurd h hS, (Array.getElem?_eq_some_iff.1 hw).1⟩, fun _ _ => rfl⟩
    cases hf o S w v (es ++ [(⟨.obj r, false, o.isChan⟩ : Event)].toArray) hl (by rw [← r1 w hw]; exact hA) with
    | dead e v' h1 h2 => exact .dead e v' ((r1 v ho).trans h1) h2
    | panic y w' v' l h1 h2 h3 => exact .panic y w' v' (_ :: l) (by rw [r2, h1]; simp) ((r1 v ho).trans h2) (hon.trans h3)
    | ok a w' v' l h1 h2 h3 h4 => exact .ok a w' v' (_ :: l) (by rw [r2, h1]; simp) ((r1 v ho).trans h2) h3 (hon.trans h4)
theorem shape {f : Option (TypeId × Nat) → Sem β} {r : Nat} (hc : Doomed P (f none)) (hf : ∀ s, SimOk P Ψ (f (some s))) : SimOk P Ψ (Go.shape r >>= f) := by
 intro S w v es hl hA
 have e0 : ∀ u, (Go.shape r >>= f).run P u = (f (u.shape? r)).run P u := fun u => rfl
 have e1 : ∀ u fs, (Go.shape r >>= f).runT P u fs = (f (u.shape? r)).runT P u fs := fun u fs => rfl
 cases hs : v.shape? r with
 | none =>
  obtain ⟨e, v', h1, h2⟩ := doomed_run (P := P) (f none) v hc
  exact .dead e v' (by rw [e0, hs]; exact h1) h2
 | some s =>
  have hS : ¬ S r := fun hb => by
   unfold World.shape? at hs
   rw [hl.dead _ hb] at hs
   cases hs
  have hw : w.shape? r = some s := by unfold World.shape? at hs ⊢; rw [← hl.off _ hS]; exact hs
  cases hf s S w v es hl (by rw [e0, hw] at hA; exact hA) with
  | dead e v' h1 h2 => exact .dead e v' (by rw [e0, hs]; exact h1) h2
  | panic y w' v' l h1 h2 h3 => exact .panic y w' v' l (by rw [e1, hw]; exact h1) (by rw [e0, hs]; exact h2) h3
  | ok a w' v' l h1 h2 h3 h4 => exact .ok a w' v' l (by rw [e1, hw]; exact h1) (by rw [e0, hs]; exact h2) h3 h4
end SimOk
end Go.Proofs.Ytilpedopnkhppaa.Br

/- A lone walk, carried into company, second part: one step of a goroutine whose code is plain. Conditions: each theorem's own. -/
namespace Go.Proofs.Ytilpedopnkhppaa.Br
open Go.Conc
section
variable (P : Program) (F : List FuncId)
def NextOk : Next → Prop
 | .value _ | .skip => True
 | .enter f _ => f ∈ F
 | .comm cases blocking shape => blocking = false ∧ shape = .select ∧ ∃ c, cases = #[c]
 | _ => False
def OperOk (o : Oper) : Prop := ∀ fr : Frame, SimOk P (NextOk F) (execOp fr.eval o)
def CodeOk : Code → Prop
 | .skip | .label _ | .ret | .exit _ => True
 | .seq a b => CodeOk a ∧ CodeOk b
 | .cond _ a b => CodeOk a ∧ CodeOk b
 | .block _ c | .loop c => CodeOk c
 | .region _ ops _ => ∀ (i : Nat) (o : Oper), ops[i]? = some o → OperOk P F o
 | _ => False
def ItemOk : Item → Prop
 | .code c => CodeOk P F c
 | .inRegion ops _ => ∀ (i : Nat) (o : Oper), ops[i]? = some o → OperOk P F o
 | .inLoop c => CodeOk P F c
 | .inBlock _ => True
 | _ => False
structure FrOk (fr : Frame) : Prop where
 defers : fr.defers = []
 round : fr.roundOf = none
 kind : fr.kind = .normal
 fn : fr.fn ∈ F
 todo : ∀ it ∈ fr.todo, ItemOk P F it
def FunOk (f : FuncId) : Prop := ∃ fn c, P.funcs[f]? = some fn ∧ fn.body = some c ∧ CodeOk P F c ∧ ∀ tmps, SimOk P (fun _ => True) (results fn tmps)
def NoEarly : Prop := ∀ (fr : Frame) (cs : List Frame) (d : Option Dying) (g : Nat) (v : World), ∃ o es, early P fr cs d g v = .ended o v es
def stepDrawn (fr : Frame) (w : World) : Nat :=
 match fr.mode with
 | .run => match fr.todo with
   | .inRegion ops (i :: _) :: _ =>
    if ((ops[i]?).map (Region.wanted · (yielded ops fr.tmps))).getD false then (match ops[i]? with | some o => (RWorld ((execOp fr.eval o).run P w)).drawn | none => w.drawn) else w.drawn
   | .code (.region _ _ true) :: _ => w.drawn + 1
   | _ => w.drawn
 | .returning => match P.funcs[fr.fn]? with
   | some fn => (RWorld ((results fn fr.tmps).run P w)).drawn
   | none => w.drawn
 | _ => w.drawn
end
def trap (P : Program) : Frame := { fn := P.funcs.size, tmps := #[], todo := [.call { target := .nil, args := #[] } false "fmt's door: none" #[]], defers := [], mode := .run, kind := .normal }
inductive StepSim (P : Program) (F : List FuncId) (S : Sh) (cs ct : List Frame) (fr : Frame) (seg : List Frame) (w v : World) : Prop
 | dead (o : Outcome) (v' : World) (es : Array Event) : stepG P true (G fr (seg ++ ct)) v = .ended o v' es → StepSim P F S cs ct fr seg w v
 | go (fr' : Frame) (seg' : List Frame) (w' v' : World) (es fs : Array Event) : stepG P true (G fr (seg ++ cs)) w = .go (G fr' (seg' ++ cs)) w' es → stepG P true (G fr (seg ++ ct)) v = .go (G fr' (seg' ++ ct)) v' fs →
     FrOk P F fr' → (∀ x ∈ seg', FrOk P F x) → On S w v w' v' es.toList → w'.drawn = stepDrawn P fr w → StepSim P F S cs ct fr seg w v
 | ret (y : Value) (w' v' : World) (es : Array Event) : seg = [] → fr.mode = .returning → (∀ c xs, stepG P true (G fr (c :: xs)) w = .go (G (c.finish y) xs) w' es) → (∀ c xs, ∃ fs, stepG P true (G fr (c :: xs)) v = .go (G (c.finish y) xs) v' fs) →
     On S w v w' v' es.toList → w'.drawn = stepDrawn P fr w → StepSim P F S cs ct fr seg w v
 | thrown (ch : List PanicEntry) : seg = [] → (∀ u c xs, stepG P true (G fr (c :: xs)) u = .go (G (c.raise ch) xs) u) → w.drawn = stepDrawn P fr w → StepSim P F S cs ct fr seg w v
 | comm (c : CommCase) (w' v' : World) (es fs : Array Event) : fr.mode = .run → stepG P true (G fr (seg ++ cs)) w = .comm (G fr (seg ++ cs)) #[c] false .select w' es → stepG P true (G fr (seg ++ ct)) v = .comm (G fr (seg ++ ct)) #[c] false .select v' fs →
     On S w v w' v' es.toList → w'.drawn = stepDrawn P fr w → StepSim P F S cs ct fr seg w v
section
variable {P : Program} {F : List FuncId} {S : Sh} {cs ct : List Frame} {fr : Frame} {seg : List Frame} {w v : World}
theorem exitTo_ok {id : Nat} : ∀ {k k' : List Item}, exitTo id k = some k' → (∀ it ∈ k, ItemOk P F it) → ∀ it ∈ k', ItemOk P F it := by
 intro k
 induction k with
 | nil => intro k' h; simp [exitTo] at h
 | cons x k ih =>
  intro k' h hk
  have hk2 : ∀ it ∈ k, ItemOk P F it := fun it hi => hk it (List.mem_cons_of_mem _ hi)
  cases x with
  | inBlock id' =>
   simp only [exitTo] at h
   split at h
   ·obtain rfl := Option.some.inj h; exact hk2
   ·exact ih h hk2
  | _ => exact ih (by simpa only [exitTo] using h) hk2
theorem on_seen {fn : FuncId} {w' v' : World} {l : List Event} (h : On S w v w' v' l) : On S w v w' v' (seen P fn l.toArray).toList :=
 ⟨h.like, h.grow, h.tw, h.tv, h.dw, h.dv, fun e he => h.fine e (by have := mem_seen (Array.mem_toList_iff.1 he); simpa using this), h.same⟩
theorem still_on (h : Like S w v) : On S w v w v (#[] : Array Event).toList := On.refl h
theorem seen_nil (fn : FuncId) : seen P fn #[] = #[] := by simp [seen]
theorem enter_ok (hF : ∀ f ∈ F, FunOk P F f) {f : FuncId} (hf : f ∈ F) (args : Array Value) : FrOk P F (Frame.enter P f args .normal) := by
 obtain ⟨fn, c, h1, h2, h3, _⟩ := hF f hf
 refine ⟨rfl, rfl, rfl, hf, fun it hi => ?_⟩
 simp only [Frame.enter, h1, h2, Option.bind_some, Option.getD_some, List.mem_singleton] at hi
 subst hi
 exact h3
theorem finish_ok (h : FrOk P F fr) (y : Value) : FrOk P F (fr.finish y) := by
 obtain ⟨fn, tmps, todo, defers, mode, kind, rd⟩ := fr
 obtain ⟨h1, h2, h3, h4, h5⟩ := h
 unfold Frame.finish
 split <;> first | exact ⟨h1, h2, h3, h4, h5⟩ | skip
 ·rename_i ops i rest k e
  refine ⟨h1, h2, h3, h4, fun it hi => ?_⟩
  rcases List.mem_cons.1 hi with rfl | hi
  ·exact h5 (.inRegion ops (i :: rest)) (by rw [e]; exact List.mem_cons_self ..)
  ·exact h5 it (by rw [e]; exact List.mem_cons_of_mem _ hi)
 ·rename_i l k e
  exact ((h5 (.inRangeFunc l) (by rw [e]; exact List.mem_cons_self ..)) : False).elim
 ·rename_i k e
  exact ((h5 .beginRound (by rw [e]; exact List.mem_cons_self ..)) : False).elim
 ·rename_i d wr rs sv k e
  exact ((h5 (.call d wr rs sv) (by rw [e]; exact List.mem_cons_self ..)) : False).elim
 ·rename_i rs sv k e
  exact ((h5 (.extern rs sv) (by rw [e]; exact List.mem_cons_self ..)) : False).elim
theorem raise_ok (h : FrOk P F fr) (ch : List PanicEntry) : FrOk P F (fr.raise ch) := by
 obtain ⟨fn, tmps, todo, defers, mode, kind, rd⟩ := fr
 obtain ⟨h1, h2, h3, h4, h5⟩ := h
 cases mode <;> exact ⟨h1, h2, h3, h4, h5⟩
theorem step_oper (hE : NoEarly P) (hF : ∀ f ∈ F, FunOk P F f) (h : FrOk P F fr) (hs : ∀ x ∈ seg, FrOk P F x) (hm : fr.mode = .run) {ops : Array Oper} {i : Nat} {rest : List Nat} {k : List Item} (ht : fr.todo = .inRegion ops (i :: rest) :: k) {o : Oper} (ho : ops[i]? = some o)
  (hw : Region.wanted o (yielded ops fr.tmps) = true) (hl : Like S w v) (hA : Agree w v (RWorld ((execOp fr.eval o).run P w)).drawn) (hd : stepDrawn P fr w = (RWorld ((execOp fr.eval o).run P w)).drawn) : StepSim P F S cs ct fr seg w v := by
 have hok : OperOk P F o := by
  have := h.todo (.inRegion ops (i :: rest)) (by rw [ht]; exact List.mem_cons_self ..)
  exact this i o ho
 have e0 : ∀ (u : World) (xs : List Frame), stepG P true (G fr xs) u = stepG.apply P true fr xs none (execOp fr.eval o) u := by
  intro u xs
  have hr := h.round
  obtain ⟨fn, tmps, todo, defers, mode, kind, rd⟩ := fr
  simp only at hm ht hw hr
  subst hm ht hr
  simp [G, stepG, stepG.exec, stepG.oper, Frame.oper?, ho, hw]
 have hk : (fr.kind == CallKind.early) = false := by rw [h.kind]; rfl
 have hv : ∀ (u : World) (xs : List Frame) (r : Result Next), (execOp fr.eval o).run P u = r → ∃ es, (execOp fr.eval o).runT P u #[] = (r, es) := fun u xs r hr => ⟨((execOp fr.eval o).runT P u #[]).2, Prod.ext (by rw [Sem.runT_fst]; exact hr) rfl⟩
 have hwk : (match fr.todo with | .call _ true _ _ :: _ => CallKind.wrapped | _ => CallKind.normal) = CallKind.normal := by rw [ht]
 cases hok fr S w v #[] hl hA with
 | dead e v' h1 h2 =>
  have : ∃ o' es', stepG.apply P true fr (seg ++ ct) none (execOp fr.eval o) v = .ended o' v' es' := by
   cases e with
   | stuck y => simp [stepG.apply, h1, GStep.after, hk]
   | unsupported u =>
    cases u with
    | initOrder g =>
     obtain ⟨o', es', he⟩ := hE fr (seg ++ ct) none g v'
     exact ⟨o', es', by simp [stepG.apply, h1, GStep.after, hk, he, seen]⟩
    | _ => simp [stepG.apply, h1, GStep.after, hk]
   | _ => exact h2.elim
  obtain ⟨o', es', hh⟩ := this
  exact .dead o' v' es' ((e0 _ _).trans hh)
 | panic y w' v' l h1 h2 h3 =>
  have hR : (execOp fr.eval o).run P w = .halt (.panic y) w' := by rw [← Sem.runT_fst P _ w #[], h1]
  have hE : (execOp fr.eval o).events P w #[] = l.toArray := by unfold Sem.events; rw [h1]; simp
  have e1 : ∀ xs, stepG.apply P true fr xs none (execOp fr.eval o) w = .go (G (fr.raise [{ v := y, recovered := false }]) xs) w' (seen P fr.fn l.toArray) := by
   intro xs
   simp [stepG.apply, hR, hE, GStep.after, hk, G]
  have e2 : ∀ xs, ∃ es', stepG.apply P true fr xs none (execOp fr.eval o) v = .go (G (fr.raise [{ v := y, recovered := false }]) xs) v' es' := by
   intro xs
   simp [stepG.apply, h2, GStep.after, hk, G]
  obtain ⟨fs, e2⟩ := e2 (seg ++ ct)
  have hdr : w'.drawn = stepDrawn P fr w := by
   have hr : (execOp fr.eval o).run P w = .halt (.panic y) w' := by rw [← Sem.runT_fst P _ w #[], h1]
   rw [hd, hr]; rfl
  exact .go _ seg w' v' _ fs ((e0 _ _).trans (e1 _)) ((e0 _ _).trans e2) (raise_ok h _) hs (on_seen h3) hdr
 | ok a w' v' l h1 h2 h3 h4 =>
  have hR : (execOp fr.eval o).run P w = .ok a w' := by rw [← Sem.runT_fst P _ w #[], h1]
  have hE : (execOp fr.eval o).events P w #[] = l.toArray := by unfold Sem.events; rw [h1]; simp
  have hdr : w'.drawn = stepDrawn P fr w := by
   have hr : (execOp fr.eval o).run P w = .ok a w' := by rw [← Sem.runT_fst P _ w #[], h1]
   rw [hd, hr]; rfl
  cases a with
  | value y =>
   have e1 : ∀ xs, stepG.apply P true fr xs none (execOp fr.eval o) w = .go (G (fr.finish y) xs) w' (seen P fr.fn l.toArray) := by
    intro xs
    simp [stepG.apply, hR, hE, GStep.after, hk, G]
   have e2 : ∀ xs, ∃ es', stepG.apply P true fr xs none (execOp fr.eval o) v = .go (G (fr.finish y) xs) v' es' := by
    intro xs
    simp [stepG.apply, h2, GStep.after, hk, G]
   obtain ⟨fs, e2⟩ := e2 (seg ++ ct)
   exact .go _ seg w' v' _ fs ((e0 _ _).trans (e1 _)) ((e0 _ _).trans e2) (finish_ok h _) hs (on_seen h4) hdr
  | skip =>
   have e1 : ∀ xs, stepG.apply P true fr xs none (execOp fr.eval o) w = .go (G (fr.finish undef) xs) w' (seen P fr.fn l.toArray) := by
    intro xs
    simp [stepG.apply, hR, hE, GStep.after, hk, G]
   have e2 : ∀ xs, ∃ es', stepG.apply P true fr xs none (execOp fr.eval o) v = .go (G (fr.finish undef) xs) v' es' := by
    intro xs
    simp [stepG.apply, h2, GStep.after, hk, G]
   obtain ⟨fs, e2⟩ := e2 (seg ++ ct)
   exact .go _ seg w' v' _ fs ((e0 _ _).trans (e1 _)) ((e0 _ _).trans e2) (finish_ok h _) hs (on_seen h4) hdr
  | enter f args =>
   have e1 : ∀ xs, stepG.apply P true fr xs none (execOp fr.eval o) w = .go (G (Frame.enter P f args .normal) (fr :: xs)) w' (seen P fr.fn l.toArray) := by
    intro xs
    simp [stepG.apply, hR, hE, GStep.after, hk, G, hwk, ht]
   have e2 : ∀ xs, ∃ es', stepG.apply P true fr xs none (execOp fr.eval o) v = .go (G (Frame.enter P f args .normal) (fr :: xs)) v' es' := by
    intro xs
    simp [stepG.apply, h2, GStep.after, hk, G, hwk, ht]
   obtain ⟨fs, e2⟩ := e2 (seg ++ ct)
   exact .go _ (fr :: seg) w' v' _ fs ((e0 _ _).trans (e1 _)) ((e0 _ _).trans e2) (enter_ok hF h3 _) (fun x hx => (List.mem_cons.1 hx).elim (fun e => e ▸ h) (hs x)) (on_seen h4) hdr
  | comm cases blocking shape =>
   obtain ⟨rfl, rfl, c, rfl⟩ := h3
   have e1 : ∀ xs, stepG.apply P true fr xs none (execOp fr.eval o) w = .comm (G fr xs) #[c] false .select w' (seen P fr.fn l.toArray) := by
    intro xs
    simp [stepG.apply, hR, hE, GStep.after, hk, G]
   have e2 : ∀ xs, ∃ es', stepG.apply P true fr xs none (execOp fr.eval o) v = .comm (G fr xs) #[c] false .select v' es' := by
    intro xs
    simp [stepG.apply, h2, GStep.after, hk, G]
   obtain ⟨fs, e2⟩ := e2 (seg ++ ct)
   exact .comm c w' v' _ fs hm ((e0 _ _).trans (e1 _)) ((e0 _ _).trans e2) (on_seen h4) hdr
  | _ => exact h3.elim
theorem step_ctl (h' : True) {fr' : Frame} (hl : Like S w v) (hd : stepDrawn P fr w = w.drawn) (ho : FrOk P F fr') (hs : ∀ x ∈ seg, FrOk P F x) (e : ∀ (u : World) (xs : List Frame), stepG P true (G fr xs) u = .go (G fr' xs) u) : StepSim P F S cs ct fr seg w v :=
 .go fr' seg w v #[] #[] (e _ _) (e _ _) ho hs (still_on hl) hd.symm
theorem step_sim (hE : NoEarly P) (hF : ∀ f ∈ F, FunOk P F f) (h : FrOk P F fr) (hs : ∀ x ∈ seg, FrOk P F x) (hl : Like S w v) (hA : Agree w v (stepDrawn P fr w)) : StepSim P F S cs ct fr seg w v := by
 have h0 := h
 obtain ⟨fn, tmps, todo, defers, mode, kind, rd⟩ := fr
 obtain ⟨h1, h2, h3, h4, h5⟩ := h
 simp only at h1 h2 h3 h4 h5
 subst h1 h2 h3
 cases mode with
 | run =>
  cases todo with
  | nil => exact step_ctl trivial hl rfl ⟨rfl, rfl, rfl, h4, h5⟩ hs (fr' := ⟨fn, tmps, [], [], .returning, .normal, none⟩) fun u xs => by simp [G, stepG, stepG.exec]
  | cons it k =>
   have hk : ∀ it ∈ k, ItemOk P F it := fun x hx => h5 x (List.mem_cons_of_mem _ hx)
   have hi : ItemOk P F it := h5 it (List.mem_cons_self ..)
   have two : ∀ {a b : Item}, ItemOk P F a → ItemOk P F b → ∀ x ∈ a :: b :: k, ItemOk P F x := by
    intro a b ha hb x hx
    rcases List.mem_cons.1 hx with rfl | hx
    ·exact ha
    rcases List.mem_cons.1 hx with rfl | hx
    ·exact hb
    ·exact hk x hx
   have one : ∀ {a : Item}, ItemOk P F a → ∀ x ∈ a :: k, ItemOk P F x := by
    intro a ha x hx
    rcases List.mem_cons.1 hx with rfl | hx
    ·exact ha
    ·exact hk x hx
   cases it with
   | inBlock id => exact step_ctl trivial hl rfl ⟨rfl, rfl, rfl, h4, hk⟩ hs (fr' := ⟨fn, tmps, k, [], .run, .normal, none⟩) fun u xs => by simp [G, stepG, stepG.exec]
   | inLoop c => exact step_ctl trivial hl rfl ⟨rfl, rfl, rfl, h4, two (a := .code c) (b := .inLoop c) hi hi⟩ hs (fr' := ⟨fn, tmps, .code c :: .inLoop c :: k, [], .run, .normal, none⟩) fun u xs => by simp [G, stepG, stepG.exec]
   | code c =>
    cases c with
    | skip => exact step_ctl trivial hl rfl ⟨rfl, rfl, rfl, h4, hk⟩ hs (fr' := ⟨fn, tmps, k, [], .run, .normal, none⟩) fun u xs => by simp [G, stepG, stepG.exec]
    | label l => exact step_ctl trivial hl rfl ⟨rfl, rfl, rfl, h4, hk⟩ hs (fr' := ⟨fn, tmps, k, [], .run, .normal, none⟩) fun u xs => by simp [G, stepG, stepG.exec]
    | ret => exact step_ctl trivial hl rfl ⟨rfl, rfl, rfl, h4, h5⟩ hs (fr' := ⟨fn, tmps, .code .ret :: k, [], .returning, .normal, none⟩) fun u xs => by simp [G, stepG, stepG.exec]
    | seq a b => exact step_ctl trivial hl rfl ⟨rfl, rfl, rfl, h4, two (a := .code a) (b := .code b) hi.1 hi.2⟩ hs (fr' := ⟨fn, tmps, .code a :: .code b :: k, [], .run, .normal, none⟩) fun u xs => by simp [G, stepG, stepG.exec]
    | block id c => exact step_ctl trivial hl rfl ⟨rfl, rfl, rfl, h4, two (a := .code c) (b := .inBlock id) hi trivial⟩ hs (fr' := ⟨fn, tmps, .code c :: .inBlock id :: k, [], .run, .normal, none⟩) fun u xs => by simp [G, stepG, stepG.exec]
    | loop c => exact step_ctl trivial hl rfl ⟨rfl, rfl, rfl, h4, two (a := .code c) (b := .inLoop c) hi hi⟩ hs (fr' := ⟨fn, tmps, .code c :: .inLoop c :: k, [], .run, .normal, none⟩) fun u xs => by simp [G, stepG, stepG.exec]
    | cond c a b =>
     cases hc : Frame.eval ⟨fn, tmps, .code (.cond c a b) :: k, [], .run, .normal, none⟩ c with
     | bool t =>
      refine step_ctl trivial hl rfl ⟨rfl, rfl, rfl, h4, one (a := .code (if t then a else b)) ?_⟩ hs (fr' := ⟨fn, tmps, .code (if t then a else b) :: k, [], .run, .normal, none⟩) fun u xs => by simp [G, stepG, stepG.exec, hc]
      cases t
      ·exact hi.2
      ·exact hi.1
     | _ =>
      have : ∃ o es, stepG P true (G ⟨fn, tmps, .code (.cond c a b) :: k, [], .run, .normal, none⟩ (seg ++ ct)) v = .ended o v es := by simp [G, stepG, stepG.exec, hc]
      obtain ⟨o, es, e⟩ := this
      exact .dead o v es e
    | exit id =>
     cases he : exitTo id k with
     | some k' => exact step_ctl trivial hl rfl ⟨rfl, rfl, rfl, h4, exitTo_ok he hk⟩ hs (fr' := ⟨fn, tmps, k', [], .run, .normal, none⟩) fun u xs => by simp [G, stepG, stepG.exec, he]
     | none =>
      have : ∃ o es, stepG P true (G ⟨fn, tmps, .code (.exit id) :: k, [], .run, .normal, none⟩ (seg ++ ct)) v = .ended o v es := by simp [G, stepG, stepG.exec, he]
      obtain ⟨o, es, e⟩ := this
      exact .dead o v es e
    | region id ops draw =>
     cases draw with
     | false => exact step_ctl trivial hl rfl ⟨rfl, rfl, rfl, h4, one (a := .inRegion ops (List.range ops.size)) hi⟩ hs (fr' := ⟨fn, tmps, .inRegion ops (List.range ops.size) :: k, [], .run, .normal, none⟩) fun u xs => by simp [G, stepG, stepG.exec]
     | true =>
      have ht : v.tape v.drawn (.order fn id) = w.tape w.drawn (.order fn id) := hA 0 _ (by simp [stepDrawn])
      have hl' : Like S { w with drawn := w.drawn + 1 } { v with drawn := v.drawn + 1 } := ⟨hl.size, hl.os, hl.out, hl.osx, hl.outx, hl.off, hl.dead, hl.solid⟩
      have e : ∀ (u : World) (xs : List Frame), stepG P true (G ⟨fn, tmps, .code (.region id ops true) :: k, [], .run, .normal, none⟩ xs) u = .go (G ⟨fn, tmps, .inRegion ops (Region.schedule (P.follows .mixedOrders) ops (u.tape u.drawn (.order fn id))) :: k, [], .run, .normal, none⟩ xs) { u with drawn := u.drawn + 1 } := by
       intro u xs
       simp [G, stepG, stepG.exec, choose, Sem.run, Question.forced, Question.cut]
      exact .go ⟨fn, tmps, .inRegion ops (Region.schedule (P.follows .mixedOrders) ops (w.tape w.drawn (.order fn id))) :: k, [], .run, .normal, none⟩ seg { w with drawn := w.drawn + 1 } { v with drawn := v.drawn + 1 } #[] #[] (e _ _) (by rw [e, ht]) ⟨rfl, rfl, rfl, h4, one (a := .inRegion ops _) hi⟩ hs
       ⟨hl', Nat.le_refl _, rfl, rfl, Nat.le_succ _, by simp only; omega, by simp, fun _ _ => rfl⟩ rfl
    | _ => exact hi.elim
   | inRegion ops l =>
    cases l with
    | nil => exact step_ctl trivial hl rfl ⟨rfl, rfl, rfl, h4, hk⟩ hs (fr' := ⟨fn, tmps, k, [], .run, .normal, none⟩) fun u xs => by simp [G, stepG, stepG.exec]
    | cons i rest =>
     cases hw : ((ops[i]?).map (Region.wanted · (yielded ops tmps))).getD false with
     | false =>
      refine step_ctl trivial hl (by simp only [stepDrawn, hw]; rfl) (finish_ok h0 undef) hs fun u xs => ?_
      simp [G, stepG, stepG.exec, hw]
     | true =>
      obtain ⟨o, ho, hw'⟩ : ∃ o, ops[i]? = some o ∧ Region.wanted o (yielded ops tmps) = true := by
       cases ho : ops[i]? with
       | none => simp [ho] at hw
       | some o => exact ⟨o, rfl, by simpa [ho] using hw⟩
      have hd : stepDrawn P ⟨fn, tmps, .inRegion ops (i :: rest) :: k, [], .run, .normal, none⟩ w = (RWorld ((execOp (Frame.eval ⟨fn, tmps, .inRegion ops (i :: rest) :: k, [], .run, .normal, none⟩) o).run P w)).drawn := by
       simp [stepDrawn, ho, hw']
      exact step_oper hE hF h0 hs rfl rfl ho hw' hl (by rw [← hd]; exact hA) hd
   | _ => exact hi.elim
 | returning =>
  obtain ⟨f, c, hf, hb, hc, hr⟩ := hF fn h4
  have hd : stepDrawn P ⟨fn, tmps, todo, [], .returning, .normal, none⟩ w = (RWorld ((results f tmps).run P w)).drawn := by simp only [stepDrawn, hf]
  cases hr tmps S w v #[] hl (by rw [← hd]; exact hA) with
  | dead e v' g1 g2 =>
   have : ∃ o es, stepG P true (G ⟨fn, tmps, todo, [], .returning, .normal, none⟩ (seg ++ ct)) v = .ended o v' es := by
    cases e <;> simp [G, stepG, unwind, hf, g1, GStep.after] 
   obtain ⟨o, es, e⟩ := this
   exact .dead o v' es e
  | panic y w' v' l g1 g2 g3 =>
   have : ∃ o es, stepG P true (G ⟨fn, tmps, todo, [], .returning, .normal, none⟩ (seg ++ ct)) v = .ended o v' es := by
    simp [G, stepG, unwind, hf, g2, GStep.after] 
   obtain ⟨o, es, e⟩ := this
   exact .dead o v' es e
  | ok y w' v' l g1 g2 g3 g4 =>
   have hR : (results f tmps).run P w = .ok y w' := by rw [← Sem.runT_fst P _ w #[], g1]
   have hE : (results f tmps).events P w #[] = l.toArray := by unfold Sem.events; rw [g1]; simp
   cases seg with
   | nil =>
    have e1 : ∀ c xs, stepG P true (G ⟨fn, tmps, todo, [], .returning, .normal, none⟩ (c :: xs)) w = .go (G (c.finish y) xs) w' (seen P fn l.toArray) := by
     intro c xs
     simp [G, stepG, unwind, hf, hR, hE, GStep.after, doReturn]
    have e2 : ∀ c xs, ∃ es, stepG P true (G ⟨fn, tmps, todo, [], .returning, .normal, none⟩ (c :: xs)) v = .go (G (c.finish y) xs) v' es := by
     intro c xs
     simp [G, stepG, unwind, hf, g2, GStep.after, doReturn]
    exact .ret y w' v' _ rfl rfl e1 e2 (on_seen g4) (by rw [hd, hR]; rfl)
   | cons c₁ seg =>
    have e1 : ∀ xs, stepG P true (G ⟨fn, tmps, todo, [], .returning, .normal, none⟩ (c₁ :: xs)) w = .go (G (c₁.finish y) xs) w' (seen P fn l.toArray) := by
     intro xs
     simp [G, stepG, unwind, hf, hR, hE, GStep.after, doReturn]
    have e2 : ∀ xs, ∃ es, stepG P true (G ⟨fn, tmps, todo, [], .returning, .normal, none⟩ (c₁ :: xs)) v = .go (G (c₁.finish y) xs) v' es := by
     intro xs
     simp [G, stepG, unwind, hf, g2, GStep.after, doReturn]
    obtain ⟨es, e2⟩ := e2 (seg ++ ct)
    exact .go _ seg w' v' _ es (e1 _) e2 (finish_ok (hs c₁ (List.mem_cons_self ..)) y) (fun x hx => hs x (List.mem_cons_of_mem _ hx)) (on_seen g4) (by rw [hd, hR]; rfl)
 | panicking ch =>
  obtain ⟨f, c, hf, hb, hc, hr⟩ := hF fn h4
  have hct : Frame.catches P ⟨fn, tmps, todo, [], .panicking ch, .normal, none⟩ = false := by simp [Frame.catches, hf]
  cases seg with
  | nil =>
   exact .thrown ch rfl (fun u c xs => by simp [G, stepG, unwind, hct]) rfl
  | cons c₁ seg =>
   have e : ∀ (u : World) (xs : List Frame), stepG P true (G ⟨fn, tmps, todo, [], .panicking ch, .normal, none⟩ (c₁ :: xs)) u = .go (G (c₁.raise ch) xs) u := by
    intro u xs
    simp [G, stepG, unwind, hct]
   exact .go _ seg w v #[] #[] (e _ _) (e _ _) (raise_ok (hs c₁ (List.mem_cons_self ..)) ch) (fun x hx => hs x (List.mem_cons_of_mem _ hx)) (still_on hl) rfl
end
end Go.Proofs.Ytilpedopnkhppaa.Br

