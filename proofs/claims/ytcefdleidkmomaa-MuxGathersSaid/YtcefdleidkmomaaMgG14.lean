/- WaitGroup.Go, by the starter, in company. Conditions: each theorem's own. -/
import Derived.Test.YtcefdleidkmomaaMgG11
import Derived.Test.YtcefdleidkmomaaMgG13
import Derived.Test.YtcefdleidkmomaaRows
import Derived.WalkKit
import Derived.ProofKit
import Derived.Lib.Hide
import Derived.BigQuiet
import Derived.Deep.QuietTactic
import Derived.LoopTactic
import Derived.Outline
import Derived.Deep.LoopGhost
import Derived.Deep.CutBlock
import Derived.WalkLawsBesides
import Derived.KernelRfl
set_option linter.unusedVariables false
set_option linter.unusedSimpArgs false
namespace Go.Proofs.Ytcefdleidkmomaa.Mx
open Go.Conc Go.Conc.Lib Br
theorem spawn_lit {P : Program} {main : Bool} {b : Frame} {a : Act} {k : List Item} {cs : List Frame} {w : World} {ops : Array Oper} {i : Nat} {rest : List Nat} {o : Oper} {x : Operand} {ats : Array TypeId} {f : FuncId} {cap : Array Value} (ho : ops[i]? = some o) (hw : Region.wanted o (yielded ops a.tmps) = true) (hk : b.kind ≠ .early)
    (hop : o.op = .go { callee := .value x, args := #[], argTypes := ats }) (hx : a.eval x = .func (.func f) #[] cap) :
    stepG P main (G (b.at a (.inRegion ops (i :: rest) :: k)) cs) w = .spawn (G (b.at (a.put o.dst undef) (.inRegion ops rest :: k)) cs) (born P (dlit f cap)) w #[] := by
  have hr : (execOp a.eval o).runT P w #[] = (.ok (.spawn (dlit f cap)) w, #[]) := by
    simp only [execOp, hop, resolve, hx, List.map_toArray, List.map_nil]
    rfl
  rw [stepG_spawn (d := dlit f cap) ho hw hk (w' := w) (by rw [← Sem.runT_fst P _ w #[], hr]) rfl]
  have he : listed P b.fn a o w = #[] := by
    unfold listed Sem.events
    rw [hr]
    exact seen_none _ _
  rw [he]
section
variable {s : Grp} {X : Sh} {z : Value} {Anch Post : Goroutine → World → Prop} {j : Nat} {Next : Goroutine → World → Prop} {cs : List Frame}
/-- What lies there when a sender is started. -/
structure Rdy (s : Grp) (X : Sh) (j : Nat) (Inv : World → Prop) (w : World) : Prop where
  box : s.Boxes 33 28 68 j w
  chan : w.heap[s.chan j]? = some (.chan (min (s.len j) 64) #[] false 0 0 false)
  inv : ∃ v, Like (s.Sd X j) w v ∧ Inv v
  size : w.heap.size = s.M + 5 * j + 5
theorem Rdy.far {Inv : World → Prop} {w w₁ : World} (hWM : s.Wg < s.M) (h : (phI s z Anch Post).Far j w w₁) (r : Rdy s X j Inv w) : Rdy s X j Inv w₁ := by
  have hb : ∀ i, i < 5 → w₁.heap[s.M + 5 * j + i]? = w.heap[s.M + 5 * j + i]? := fun i hi => h.block _ (by show s.M + 5 * j + i ≠ s.Wg; omega) fun k hk => by show s.M + 5 * j + i ≠ s.M + 5 * k + 1; omega
  obtain ⟨v, hv, hi⟩ := r.inv
  exact ⟨⟨(hb 0 (by omega)).trans r.box.l, (hb 2 (by omega)).trans r.box.i, (hb 3 (by omega)).trans r.box.g, (hb 4 (by omega)).trans r.box.f⟩, (hb 1 (by omega)).trans r.chan, ⟨v, (sd_rely h hv).1, hi⟩, h.size.trans r.size⟩
/-- Behind Add: the literal is made, and started. -/
theorem goTail (hk : (phI s z Anch Post).Ok) (hj : j < s.n) (hB : s.M + 5 * s.n ≤ s.B) (hWM : s.Wg < s.M) (hz : s.ad j = none → s.len j = 0) (hn : s.len j < 9223372036854775807) {Inv : World → Prop} {fv u5 : Value}
    (hnext : ∀ w, Rdy s X j Inv w → (phI s z Anch Post).Live w → Next (G ((base 32).at ⟨#[.pointer (some s.wga), fv, .pointer (some (s.gbox j)), .pointer (some (s.fbox j)), .pointer (some s.wga), u5, .func (.func 43) #[] #[.pointer (some (s.gbox j)), .pointer (some (s.fbox j))]], []⟩ [.inRegion (match (Try.f32).body with | some (.seq _ (.seq _ (.region _ ops _))) => ops | _ => #[]) []]) cs) w)
    (w : World) (hF : Rdy s X j Inv w ∧ (phI s z Anch Post).Live w) :
    Goes Try.prog true ((phI s z Anch Post).Far j) ((phI s z Anch Post).DM j) ((phI s z Anch Post).U4 j Next) 3 (G ((base 32).at ⟨#[.pointer (some s.wga), fv, .pointer (some (s.gbox j)), .pointer (some (s.fbox j)), .pointer (some s.wga), u5, undef], []⟩
      [.inRegion (match (Try.f32).body with | some (.seq _ (.seq (.region _ ops _) _)) => ops | _ => #[]) [], .code (match (Try.f32).body with | some (.seq _ (.seq _ c)) => c | _ => .skip)]) cs) w := by
  refine MG.regEnd ?_
  refine MG.reg ?_
  refine MG.pure (y := .func (.func 43) #[] #[.pointer (some (s.gbox j)), .pointer (some (s.fbox j))]) rfl rfl rfl (fun w => by
    simp only [execOp, List.getElem_toArray, List.getElem_cons_zero, List.map_toArray, List.map_cons, List.map_nil, Act.eval, Instr.makeFunc]
    rfl) ?_
  refine MG.stop fun w₁ h₁ => ?_
  have r := hF.1.far hWM h₁
  have hl := h₁.live hF.2
  refine ⟨rfl, _, _, ?_, childSends hk hj hB hz hn, r.box, r.chan, hnext w₁ r hl⟩
  exact spawn_lit (b := base 32) (a := ⟨#[.pointer (some s.wga), fv, .pointer (some (s.gbox j)), .pointer (some (s.fbox j)), .pointer (some s.wga), u5, .func (.func 43) #[] #[.pointer (some (s.gbox j)), .pointer (some (s.fbox j))]], []⟩)
    (ops := match (Try.f32).body with | some (.seq _ (.seq _ (.region _ ops _))) => ops | _ => #[]) (i := 1) (rest := []) (k := []) (x := .tmp 6) rfl rfl (by decide) rfl rfl
theorem like_same {S : Sh} {w v v' : World} (h : Like S w v) (h' : Like S w v') : v'.heap = v.heap := by
  refine Array.ext_getElem? fun b => ?_
  by_cases hb : S b
  · rw [h.dead b hb, h'.dead b hb]
  · rw [h.off b hb, h'.off b hb]
theorem sd_no (hWM : s.Wg < s.M) (hXM : ∀ b, X b → b < s.M) {i : Nat} : ¬ s.Sd X j (s.M + 5 * j + i) := by
  rintro (h | h | ⟨k, hk, h1, h2⟩)
  · have := hXM _ h; omega
  · omega
  · omega
/-- What lies there when Go is called, in the lone walk's world. -/
structure Pre (s : Grp) (j : Nat) (Inv : World → Prop) (v : World) : Prop where
  size : v.heap.size = s.M + 5 * j + 3
  l : v.heap[s.M + 5 * j]? = some (.cells #[.slice (s.ad j) (s.len j) (s.cp j)] 28)
  c : v.heap[s.M + 5 * j + 1]? = some (.chan (min (s.len j) 64) #[] false 0 0 false)
  i : v.heap[s.M + 5 * j + 2]? = some (.cells #[.chan (some (s.chan j))] 68)
  inv : Inv v
set_option maxRecDepth 100000 in
/-- Go, from its entry to Add. -/
theorem goWalk (hX : ShunIn X s.Shun) (hXM : ∀ b, X b → b < s.M) (hk : (phI s z Anch Post).Ok) (hj : j < s.n) (hB : s.M + 5 * s.n ≤ s.B) (hWM : s.Wg < s.M) (hz : s.ad j = none → s.len j = 0) (hn : s.len j < 9223372036854775807)
    {Inv : World → Prop} (hI : ∀ v v' : World, (∀ b, b < s.M + 5 * j → v'.heap[b]? = v.heap[b]?) → Inv v → Inv v')
    (hnext : ∀ w u5, Rdy s X j Inv w → (phI s z Anch Post).Live w → Next (G ((base 32).at ⟨#[.pointer (some s.wga), s.lit 33 j, .pointer (some (s.gbox j)), .pointer (some (s.fbox j)), .pointer (some s.wga), u5, .func (.func 43) #[] #[.pointer (some (s.gbox j)), .pointer (some (s.fbox j))]], []⟩ [.inRegion (match (Try.f32).body with | some (.seq _ (.seq _ (.region _ ops _))) => ops | _ => #[]) []]) cs) w)
    {w v : World} (hl : Like (s.Sd X j) w v) (hp : Pre s j Inv v) (hlive : (phI s z Anch Post).Live w) {c : Code} (hc : (Try.f32).body = some c) :
    Goes Try.prog true ((phI s z Anch Post).Far j) ((phI s z Anch Post).DM j) ((phI s z Anch Post).U1 j Next) 39 (G ((base 32).at ⟨#[.pointer (some s.wga), s.lit 33 j, undef, undef, undef, undef, undef], []⟩ [.code c]) cs) w := by
  unfold Try.f32 at hc
  simp only [Option.some.injEq] at hc
  subst hc
  show MG (phI s z Anch Post) j _ (38 + 1) _ _
  refine MG.seq ?_
  refine m_region (m := 34) (R := fun t v' => t = #[.pointer (some s.wga), s.lit 33 j, .pointer (some (s.gbox j)), .pointer (some (s.fbox j)), undef, undef, undef] ∧ v'.heap = (v.heap.push (.cells #[.pointer (some s.wga)] 101)).push (.cells #[s.lit 33 j] 1))
    hX rfl (by kernel_rfl) rfl hlive hl (fun v1 h1 => ?_) (fun a' w' v' hd hi' hl' hR => ?_)
  · have hh := like_same hl h1
    go_wp2
    refine ⟨⟨by rw [hp.size]; rfl, by rw [hp.size]; rfl⟩, ?_⟩
    rw [← hh]
    rfl
  · obtain ⟨t', d'⟩ := a'
    have hd1 : d' = [] := hd
    subst hd1
    obtain ⟨ht, hv⟩ := hR
    have ht1 : t' = #[.pointer (some s.wga), s.lit 33 j, .pointer (some (s.gbox j)), .pointer (some (s.fbox j)), undef, undef, undef] := ht
    subst ht1
    clear ht hd
    have hsz : v.heap.size = s.M + 5 * j + 3 := hp.size
    have old : ∀ b, b < s.M + 5 * j + 3 → v'.heap[b]? = v.heap[b]? := fun b hb => by
      rw [hv, Array.getElem?_push_lt (by simp; omega), Array.getElem_push_lt (by omega)]
      simp [show b < v.heap.size by omega]
    have n3 : v'.heap[s.M + 5 * j + 3]? = some (.cells #[.pointer (some s.wga)] 101) := by
      rw [hv, ← hsz, Array.getElem?_push_lt (by simp), Array.getElem_push_eq]
    have n4 : v'.heap[s.M + 5 * j + 4]? = some (.cells #[s.lit 33 j] 1) := by
      rw [hv, show s.M + 5 * j + 4 = (v.heap.push (.cells #[.pointer (some s.wga)] 101)).size by simp; omega, Array.getElem?_push_size]
    have off : ∀ i, w'.heap[s.M + 5 * j + i]? = v'.heap[s.M + 5 * j + i]? := fun i => (hl'.off _ (sd_no hWM hXM)).symm
    have rdy : Rdy s X j Inv w' := ⟨⟨(off 0).trans ((old _ (by omega)).trans hp.l), (off 2).trans ((old _ (by omega)).trans hp.i), (off 3).trans n3, (off 4).trans n4⟩, (off 1).trans ((old _ (by omega)).trans hp.c), ⟨v', hl', hI v v' (fun b hb => old b (by omega)) hp.inv⟩, by rw [← hl'.size, hv]; simp [hsz]⟩
    show MG (phI s z Anch Post) j _ (33 + 1) _ _
    refine MG.seq ?_
    refine MG.reg ?_
    refine m_one (m := 31) (R := fun y v2 => y = .pointer (some s.wga) ∧ v2.heap = v'.heap) hX rfl rfl rfl (by kernel_rfl) hi' hl' (fun v1 h1 => ?_) (fun y w2 v2 hi2 hl2 hR => ?_)
    · have hh := like_same hl' h1
      have hcell : v1.cell? (s.gbox j) = some (.pointer (some s.wga)) := by
        unfold World.cell? Grp.gbox
        rw [hh, n3]
        rfl
      refine ⟨.pointer (some s.wga), v1, .inl ?_, rfl, hh⟩
      simp [go_sem, execOp, Act.eval, hcell]
    · obtain ⟨rfl, hv2⟩ := hR
      have e2 : ∀ i, w2.heap[s.M + 5 * j + i]? = w'.heap[s.M + 5 * j + i]? := fun i => by rw [← hl2.off _ (sd_no hWM hXM), hv2, hl'.off _ (sd_no hWM hXM)]
      have rdy2 : Rdy s X j Inv w2 := ⟨⟨(e2 0).trans rdy.box.l, (e2 2).trans rdy.box.i, (e2 3).trans rdy.box.g, (e2 4).trans rdy.box.f⟩, (e2 1).trans rdy.chan, ⟨v2, hl2, hI v v2 (fun b hb => by rw [hv2]; exact old b (by omega)) hp.inv⟩, by rw [← hl2.size, hv2, hl'.size]; exact rdy.size⟩
      show MG (phI s z Anch Post) j _ (30 + 1) _ _
      refine MG.call' (f := lnk.add) (vals := #[.pointer (some ⟨s.Wg, 0, none⟩), .int .i64 1]) rfl rfl rfl rfl wgLib.f_add (Go.ConcR.Gen.nm_add lnk) rfl (by simp [Act.eval, Act.put, Grp.wga]) ?_
      have hA := addPos (s := s) (f := 33) (tL := 28) (tC := 68) (z := z) (Anch := Anch) (Post := Post) (j := j) (Next := Next) (F := Rdy s X j Inv) (b₀ := base 32)
        (a₀ := ⟨#[.pointer (some s.wga), s.lit 33 j, .pointer (some (s.gbox j)), .pointer (some (s.fbox j)), .pointer (some s.wga), undef, undef], []⟩)
        (ops₀ := match (Try.f32).body with | some (.seq _ (.seq (.region _ ops _) _)) => ops | _ => #[]) (i₀ := 1) (rest₀ := []) (k₀ := [.code (match (Try.f32).body with | some (.seq _ (.seq _ c)) => c | _ => .skip)]) (cs := cs) (mT := 3)
        (by have := hk.lowWg; exact this) (fun w w₁ h r => r.far hWM h) (fun w hw => goTail hk hj hB hWM hz hn (fun w h1 h2 => hnext w _ h1 h2) w hw) w2 ⟨rdy2, hi2⟩
      exact hA
end
end Go.Proofs.Ytcefdleidkmomaa.Mx

/- A sender is started: what it has got is dead to the starter's lone walk from then on. Conditions: each theorem's own. -/
namespace Go.Proofs.Ytcefdleidkmomaa.Mx
open Go.Conc Go.Conc.Lib Br
open Classical in
theorem like_kill {S T : Sh} {w v : World} (hos : T.os = S.os) (hout : T.out = S.out) (h : Like S w v) (hS : ∀ b, S b → T b) (hT : ∀ b, T b → S b ∨ ∃ o, w.heap[b]? = some o ∧ Solid o) :
    ∃ v', Like T w v' ∧ ∀ b, (T b → S b) → v'.heap[b]? = v.heap[b]? := by
  have hs : ∀ b, T b → ∃ o, w.heap[b]? = some o ∧ Solid o := fun b hb => (hT b hb).elim (fun h' => h.solid b h') id
  have hlt : ∀ b, T b → b < v.heap.size := fun b hb => by
    obtain ⟨o, ho, _⟩ := hs b hb
    rw [h.size]
    exact (Array.getElem?_eq_some_iff.1 ho).1
  let v' : World := { v with heap := Array.ofFn fun i : Fin v.heap.size => if T i.1 then .coro none else v.heap[i.1] }
  have e1 : ∀ b, T b → v'.heap[b]? = some (.coro none) := fun b hb => by
    have := hlt b hb
    simp [v', this, hb]
  have e2 : ∀ b, ¬ T b → v'.heap[b]? = v.heap[b]? := fun b hb => by
    rcases Nat.lt_or_ge b v.heap.size with hl | hl
    · simp [v', hl, hb]
    · rw [Array.getElem?_eq_none hl, Array.getElem?_eq_none (by simpa [v'] using hl)]
  refine ⟨v', ⟨by simp [v', h.size], h.os, h.out, h.osx.trans hos.symm, h.outx.trans hout.symm, fun b hb => (e2 b hb).trans (h.off b fun h' => hb (hS b h')), e1, hs⟩, fun b hb => ?_⟩
  by_cases hT' : T b
  · rw [e1 b hT', h.dead b (hb hT')]
  · exact e2 b hT'
section
variable {s : Grp} {X : Sh} {j : Nat} {w : World}
theorem sd_grow {Inv : World → Prop} (hI : ∀ v v' : World, (∀ b, b < s.M + 5 * j → v'.heap[b]? = v.heap[b]?) → Inv v → Inv v') (r : Rdy s X j Inv w) : ∃ v', Like (s.Sd X (j + 1)) w v' ∧ Inv v' ∧ v'.heap.size = s.M + 5 * (j + 1) := by
  obtain ⟨v, hl, hi⟩ := r.inv
  have old : ∀ b, s.SdP X j b → s.SdP X (j + 1) b := by
    rintro b (h | h | ⟨k, hk, h1⟩)
    · exact .inl h
    · exact .inr (.inl h)
    · exact .inr (.inr ⟨k, by omega, h1⟩)
  have new : ∀ b, s.SdP X (j + 1) b → s.SdP X j b ∨ (s.M + 5 * j ≤ b ∧ b < s.M + 5 * j + 5) := by
    rintro b (h | h | ⟨k, hk, h1⟩)
    · exact .inl (.inl h)
    · exact .inl (.inr (.inl h))
    · rcases Nat.lt_or_ge k j with hkj | hkj
      · exact .inl (.inr (.inr ⟨k, hkj, h1⟩))
      · obtain rfl : k = j := by omega
        exact .inr h1
  obtain ⟨v', hl', hv⟩ := like_kill (S := s.Sd X j) (T := s.Sd X (j + 1)) rfl rfl hl old fun b hb => by
    rcases new b hb with h | ⟨h1, h2⟩
    · exact .inl h
    · right
      obtain ⟨i, rfl⟩ : ∃ i, b = s.M + 5 * j + i := ⟨b - (s.M + 5 * j), by omega⟩
      have hi5 : i = 0 ∨ i = 1 ∨ i = 2 ∨ i = 3 ∨ i = 4 := by omega
      rcases hi5 with rfl | rfl | rfl | rfl | rfl
      · exact ⟨_, r.box.l, .inl ⟨_, _, rfl, by simp⟩⟩
      · exact ⟨_, r.chan, .inr ⟨_, _, _, _, _, _, rfl⟩⟩
      · exact ⟨_, r.box.i, .inl ⟨_, _, rfl, by simp⟩⟩
      · exact ⟨_, r.box.g, .inl ⟨_, _, rfl, by simp⟩⟩
      · exact ⟨_, r.box.f, .inl ⟨_, _, rfl, by simp⟩⟩
  refine ⟨v', hl', hI v v' (fun b hb => hv b fun h => ?_) hi, by rw [hl'.size, r.size]; omega⟩
  rcases new b h with h' | ⟨h1, _⟩
  · exact h'
  · omega
end
end Go.Proofs.Ytcefdleidkmomaa.Mx

/- Blocks known whole: what a cell of one reads, what a store leaves, what a new one leaves. Conditions: none. -/
namespace Go.Proofs.Ytcefdleidkmomaa.Hp
open Go.RowKit
/-- Block b holds the cells c, none frozen. -/
def Blk (w : World) (b : Nat) (c : List Value) (T : TypeId) : Prop := w.heap[b]? = some (.cells c.toArray T (0, 0))
theorem Blk.cell {w : World} {b : Nat} {c : List Value} {T : TypeId} (h : Blk w b c T) {o : Nat} {v : Value} (hv : c[o]? = some v) : w.cell? ⟨b, o, none⟩ = some v := by
  unfold Blk at h
  simp [World.cell?, h, hv]
theorem Blk.frozen {w : World} {b : Nat} {c : List Value} {T : TypeId} (h : Blk w b c T) (o : Nat) : w.frozen? ⟨b, o, none⟩ = false := by
  unfold Blk at h
  simp [World.frozen?, h]
theorem Blk.lt {w : World} {b : Nat} {c : List Value} {T : TypeId} (h : Blk w b c T) : b < w.heap.size := by
  unfold Blk at h
  rcases Nat.lt_or_ge b w.heap.size with h' | h'
  · exact h'
  · rw [Array.getElem?_eq_none h'] at h; cases h
theorem Blk.set {w : World} {b : Nat} {c : List Value} {T : TypeId} (h : Blk w b c T) (o : Nat) (v : Value) : Blk (w.setCell ⟨b, o, none⟩ v) b (c.set o v) T := by
  unfold Blk at h ⊢
  simp only [World.setCell, Array.getElem?_modify, ↓reduceIte, h, Option.map_some]
  simp
theorem Blk.far {w : World} {b : Nat} {c : List Value} {T : TypeId} (h : Blk w b c T) {p : Nat} (hp : p ≠ b) (o : Nat) (v : Value) : Blk (w.setCell ⟨p, o, none⟩ v) b c T := by
  unfold Blk at h ⊢
  simp only [World.setCell, Array.getElem?_modify]
  rw [if_neg (by simpa using hp)]
  exact h
theorem Blk.old {w : World} {b : Nat} {c : List Value} {T : TypeId} (h : Blk w b c T) (o : Obj) : Blk (w.alloc o) b c T := by
  have := h.lt
  unfold Blk at h ⊢
  simp only [World.alloc, Array.getElem?_push]
  rw [if_neg (by omega)]
  exact h
theorem Blk.new (w : World) (c : List Value) (T : TypeId) : Blk (w.alloc (.cells c.toArray T)) w.heap.size c T := by
  unfold Blk
  simp only [World.alloc, Array.getElem?_push, if_pos]
theorem Blk.heap {w w' : World} {b : Nat} {c : List Value} {T : TypeId} (h : Blk w b c T) (e : w'.heap[b]? = w.heap[b]?) : Blk w' b c T := by
  unfold Blk at h ⊢; rw [e]; exact h
theorem Blk.inj {w : World} {b : Nat} {c c' : List Value} {T T' : TypeId} (h : Blk w b c T) (h' : Blk w b c' T') : c = c' ∧ T = T' := by
  unfold Blk at h h'
  rw [h] at h'
  simp at h'
  exact h'
/-- Outside the blocks of F the world is as it was. -/
structure Kept (F : Nat → Prop) (w w' : World) : Prop where
  os : w'.os = w.os
  tape : w'.tape = w.tape
  output : w'.output = w.output
  size : w.heap.size ≤ w'.heap.size
  block : ∀ k, k < w.heap.size → ¬ F k → w'.heap[k]? = w.heap[k]?
theorem Kept.refl (F : Nat → Prop) (w : World) : Kept F w w := ⟨rfl, rfl, rfl, Nat.le_refl _, fun _ _ _ => rfl⟩
theorem Kept.trans {F : Nat → Prop} {a b c : World} (h : Kept F a b) (k : Kept F b c) : Kept F a c :=
  ⟨k.os.trans h.os, k.tape.trans h.tape, k.output.trans h.output, Nat.le_trans h.size k.size, fun i hi hF => (k.block i (Nat.lt_of_lt_of_le hi h.size) hF).trans (h.block i hi hF)⟩
/-- What came new in between may be written, too. -/
theorem Kept.trans' {F G : Nat → Prop} {a b c : World} (h : Kept F a b) (k : Kept G b c) (hG : ∀ i, i < a.heap.size → G i → F i) : Kept F a c :=
  ⟨k.os.trans h.os, k.tape.trans h.tape, k.output.trans h.output, Nat.le_trans h.size k.size, fun i hi hF => (k.block i (Nat.lt_of_lt_of_le hi h.size) (fun g => hF (hG i hi g))).trans (h.block i hi hF)⟩
theorem Kept.mono {F G : Nat → Prop} {w w' : World} (h : Kept F w w') (hF : ∀ i, i < w.heap.size → F i → G i) : Kept G w w' :=
  ⟨h.os, h.tape, h.output, h.size, fun i hi hG => h.block i hi fun f => hG (hF i hi f)⟩
theorem Kept.set {F : Nat → Prop} {a w : World} (h : Kept F a w) {b : Nat} (hb : b < a.heap.size → F b) (o : Nat) (v : Value) : Kept F a (w.setCell ⟨b, o, none⟩ v) :=
  h.trans' (G := fun k => k = b) ⟨rfl, rfl, rfl, by simp, fun k _ hk => by simp only [World.setCell, Array.getElem?_modify]; rw [if_neg (fun e => hk e.symm)]⟩ (fun i hi e => e ▸ hb (e ▸ hi))
theorem Kept.alloc {F : Nat → Prop} {a w : World} (h : Kept F a w) (o : Obj) : Kept F a (w.alloc o) :=
  h.trans ⟨rfl, rfl, rfl, by simp, fun k hk _ => by simp only [World.alloc, Array.getElem?_push]; rw [if_neg (by omega)]⟩
theorem Kept.drew {F : Nat → Prop} {a w : World} (h : Kept F a w) : Kept F a w.drew := ⟨h.os, h.tape, h.output, h.size, h.block⟩
theorem Kept.drewN {F : Nat → Prop} {a w : World} (h : Kept F a w) (n : Nat) : Kept F a (w.drewN n) := ⟨h.os, h.tape, h.output, h.size, h.block⟩
theorem Kept.blk {F : Nat → Prop} {w w' : World} (h : Kept F w w') {b : Nat} {c : List Value} {T : TypeId} (hb : Blk w b c T) (hF : ¬ F b) : Blk w' b c T := hb.heap (h.block b hb.lt hF)
theorem Blk.drew {w : World} {b : Nat} {c : List Value} {T : TypeId} (h : Blk w b c T) : Blk w.drew b c T := h
theorem Blk.drewN {w : World} {b : Nat} {c : List Value} {T : TypeId} (h : Blk w b c T) (n : Nat) : Blk (w.drewN n) b c T := h
theorem Kept.one (w : World) (b o : Nat) (v : Value) : Kept (fun k => k = b) w (w.setCell ⟨b, o, none⟩ v) := (Kept.refl (fun k => k = b) w).set (b := b) (fun _ => rfl) o v
end Go.Proofs.Ytcefdleidkmomaa.Hp

/- A box of ints: a channel of pointers with room; Offer, Take, Len of one goroutine that alone has it. Conditions: each theorem's own. -/
namespace Go.Proofs.Ytcefdleidkmomaa.Mo
open Go.Conc Go.RowKit Hp
abbrev ptr (b : Nat) : Value := .pointer (some ⟨b, 0, none⟩)
/-- A box: its own block, its channel, what lies in it. -/
structure Bx (w : World) (b c room : Nat) (ps : List Nat) (vs : List Int) : Prop where
  box : Blk w b [.chan (some c)] 70
  chan : ∃ s r, w.heap[c]? = some (.chan room (ps.map ptr).toArray false s r false)
  len : ps.length = vs.length
  cells : ∀ (i : Nat) (p : Nat) (v : Int), ps[i]? = some p → vs[i]? = some v → Blk w p [.int .i64 v] 3
theorem Bx.lt {w : World} {b c room : Nat} {ps : List Nat} {vs : List Int} (h : Bx w b c room ps vs) : c < w.heap.size := by
  obtain ⟨s, r, hc⟩ := h.chan
  rcases Nat.lt_or_ge c w.heap.size with h' | h'
  · exact h'
  · rw [Array.getElem?_eq_none h'] at hc; cases hc
theorem Bx.ne {w : World} {b c room : Nat} {ps : List Nat} {vs : List Int} (h : Bx w b c room ps vs) {p : Nat} {l : List Value} {T : TypeId} (hp : Blk w p l T) : p ≠ c := by
  rintro rfl
  obtain ⟨s, r, hc⟩ := h.chan
  unfold Blk at hp
  rw [hp] at hc
  cases hc
/-- What is no channel of the box's bears what is done to another. -/
theorem Bx.kept {w w' : World} {b c room : Nat} {ps : List Nat} {vs : List Int} (h : Bx w b c room ps vs) {c' : Nat} {r' : Nat} {x : Obj} (hx : w.heap[c']? = some x) (hn : ∀ l T z, x ≠ .cells l T z) (hc : c' ≠ c) (k : Kept (fun i => i = c') w w') : Bx w' b c room ps vs := by
  have key : ∀ {p : Nat} {l : List Value} {T : TypeId}, Blk w p l T → p ≠ c' := by
    rintro p l T hp rfl
    unfold Blk at hp
    rw [hp] at hx
    simp only [Option.some.injEq] at hx
    exact hn _ _ _ hx.symm
  obtain ⟨s, r, h2⟩ := h.chan
  exact ⟨k.blk h.box (key h.box), ⟨s, r, (k.block c h.lt (fun e => hc e.symm)).trans h2⟩, h.len, fun i p v h3 h4 => k.blk (h.cells i p v h3 h4) (key (h.cells i p v h3 h4))⟩
theorem chan_nil (w : World) : Calls Try.prog 28 #[.pointer none] w fun e w' => e = .returned (.chan none) ∧ w = w' := by
  go_enter Try.func28, Try.ntmps28
  go_wp2
  go_ret
  exact ⟨rfl, rfl⟩
theorem chan_box {w : World} {b c : Nat} (h : Blk w b [.chan (some c)] 70) : Calls Try.prog 28 #[ptr b] w fun e w' => e = .returned (.chan (some c)) ∧ w = w' := by
  have e1 := h.cell (o := 0) rfl
  unfold ptr
  go_enter Try.func28, Try.ntmps28
  go_wp2
  go_ret
  exact ⟨rfl, rfl⟩
end Go.Proofs.Ytcefdleidkmomaa.Mo

/- Offer, Take, Len, New of boxes of ints. Conditions: each theorem's own. -/
namespace Go.Proofs.Ytcefdleidkmomaa.Mo
open Go.Conc Go.RowKit Hp
theorem setChan_other (w : World) (c c' cap : Nat) (buf : Array Value) (closed : Bool) (s r : Nat) (tm : Bool) (h : c ≠ c') : (w.setChan c cap buf closed s r tm).heap[c']? = w.heap[c']? := by
  simp [World.setChan, Array.getElem?_setIfInBounds_ne h]
theorem kept_setChan (w : World) (c cap : Nat) (buf : Array Value) (closed : Bool) (s r : Nat) (tm : Bool) : Kept (fun i => i = c) w (w.setChan c cap buf closed s r tm) :=
  ⟨rfl, rfl, rfl, by rw [size_setChan]; exact Nat.le_refl _, fun k _ hk => setChan_other _ _ _ _ _ _ _ _ _ (fun e => hk e.symm)⟩
theorem heap_old (w : World) (o : Obj) {c : Nat} (h : c < w.heap.size) : (w.alloc o).heap[c]? = w.heap[c]? := by
  simp only [World.alloc, Array.getElem?_push]
  rw [if_neg (by omega)]
theorem offer_room {w : World} {b c room : Nat} {ps : List Nat} {vs : List Int} (h : Bx w b c room ps vs) (hr : vs.length < room) (v : Int) :
    Calls Try.prog 14 #[ptr b, .int .i64 v] w fun e w' => e = .returned (.bool true) ∧ Bx w' b c room (ps ++ [w.heap.size]) (vs ++ [v]) ∧ Kept (fun i => i = c) w w' := by
  refine calls_of_wpn Try.func14 rfl ?_
  simp only [Try.ntmps14, List.size_toArray, List.length_cons, List.length_nil, Nat.reduceAdd, Nat.reduceSub, Array.replicate_succ, Array.replicate_zero, List.push_toArray, List.append_toArray, List.nil_append, List.cons_append]
  refine Wpn.seq fun K1 hK1 => Wpn.of ?_
  go_wp2
  have hbx := h.box.old (.cells #[.int .i64 v] 3)
  refine Wpn.seq fun K1 hK1 => Wpn.of ?_
  go_wp2_with (go_at_call 28; (refine Calls.mono (chan_box hbx) ?_); rintro e w2 ⟨rfl, rfl⟩)
  obtain ⟨s, r, hc⟩ := h.chan
  have hlt := h.lt
  have hc1 := (heap_old w (.cells #[.int .i64 v] 3) hlt).trans hc
  have hz : (execOp (Act.eval ⟨#[ptr b, .int .i64 v, undef, .pointer (some ⟨w.heap.size, 0, none⟩), .bool false, ptr b, .chan (some c), undef, undef, undef], []⟩) { dst := some 7, op := Op.select #[{ chan := Operand.tmp 6, send := some (Operand.tmp 3), elem := 72 }] false, type := 0, pos := "box.go:34", after := #[], guard := none }).run Try.prog (w.alloc (.cells #[.int .i64 v] 3)) = .ok (.comm #[scase c (ptr w.heap.size) (.pointer none)] false .select) (w.alloc (.cells #[.int .i64 v] 3)) := by
    simp [go_sem, execOp, scase, Act.eval, ptr]
  refine Wpn.seq fun K1 hK1 => ?_
  refine Wpn.comm rfl hz (fun fr cs es he => step_lone_select_send_room he hc1 (by simpa [h.len] using hr)) ?_
  dsimp only [Act.put]
  simp only [List.setIfInBounds_toArray, List.set_cons_succ, List.set_cons_zero]
  go_wp2
  refine Wpn.of ?_
  go_wp2
  go_ret
  have hk : Kept (fun i => i = c) w ((w.alloc (.cells #[.int .i64 v] 3)).setChan c room ((ps.map ptr) ++ [ptr w.heap.size]).toArray false (s + 1) r false) :=
    ((Kept.refl (fun i => i = c) w).alloc _).trans (kept_setChan _ _ _ _ _ _ _ _)
  have hne : ∀ {p : Nat} {l : List Value} {T : TypeId}, Blk w p l T → ¬ p = c := fun hp => h.ne hp
  refine ⟨rfl, ⟨hk.blk h.box (hne h.box), ⟨s + 1, r, ?_⟩, by simp [h.len], ?_⟩, hk⟩
  · rw [heap_setChan _ _ _ _ _ _ _ _ (by simp; omega)]
    simp
  · intro i p u hp hu
    rcases Nat.lt_or_ge i ps.length with hi | hi
    · rw [List.getElem?_append_left hi] at hp
      rw [List.getElem?_append_left (by have := h.len; omega)] at hu
      exact hk.blk (h.cells i p u hp hu) (hne (h.cells i p u hp hu))
    · rw [List.getElem?_append_right hi] at hp
      rw [List.getElem?_append_right (by have := h.len; omega)] at hu
      have h0 : i - ps.length = 0 := by
        rcases Nat.eq_zero_or_pos (i - ps.length) with e | e
        · exact e
        · rw [List.getElem?_eq_none (by simp; omega)] at hp; cases hp
      have h1 : i - vs.length = 0 := by have := h.len; omega
      rw [h0] at hp
      rw [h1] at hu
      simp only [List.getElem?_cons_zero, Option.some.injEq] at hp hu
      subst hp hu
      exact (Blk.new w [.int .i64 v] 3).heap (setChan_other _ _ _ _ _ _ _ _ _ (by omega))
theorem offer_full {w : World} {b c room : Nat} {ps : List Nat} {vs : List Int} (h : Bx w b c room ps vs) (hr : room ≤ vs.length) (v : Int) :
    Calls Try.prog 14 #[ptr b, .int .i64 v] w fun e w' => e = .returned (.bool false) ∧ Kept (fun _ => False) w w' := by
  refine calls_of_wpn Try.func14 rfl ?_
  simp only [Try.ntmps14, List.size_toArray, List.length_cons, List.length_nil, Nat.reduceAdd, Nat.reduceSub, Array.replicate_succ, Array.replicate_zero, List.push_toArray, List.append_toArray, List.nil_append, List.cons_append]
  refine Wpn.seq fun K1 hK1 => Wpn.of ?_
  go_wp2
  have hbx := h.box.old (.cells #[.int .i64 v] 3)
  refine Wpn.seq fun K1 hK1 => Wpn.of ?_
  go_wp2_with (go_at_call 28; (refine Calls.mono (chan_box hbx) ?_); rintro e w2 ⟨rfl, rfl⟩)
  obtain ⟨s, r, hc⟩ := h.chan
  have hlt := h.lt
  have hc1 := (heap_old w (.cells #[.int .i64 v] 3) hlt).trans hc
  have hz : (execOp (Act.eval ⟨#[ptr b, .int .i64 v, undef, .pointer (some ⟨w.heap.size, 0, none⟩), .bool false, ptr b, .chan (some c), undef, undef, undef], []⟩) { dst := some 7, op := Op.select #[{ chan := Operand.tmp 6, send := some (Operand.tmp 3), elem := 72 }] false, type := 0, pos := "box.go:34", after := #[], guard := none }).run Try.prog (w.alloc (.cells #[.int .i64 v] 3)) = .ok (.comm #[scase c (ptr w.heap.size) (.pointer none)] false .select) (w.alloc (.cells #[.int .i64 v] 3)) := by
    simp [go_sem, execOp, scase, Act.eval, ptr]
  refine Wpn.seq fun K1 hK1 => ?_
  refine Wpn.comm rfl hz (fun fr cs es he => step_lone_select_send_full he hc1 (by have := h.len; simp; omega)) ?_
  dsimp only [Act.put]
  simp only [List.setIfInBounds_toArray, List.set_cons_succ, List.set_cons_zero]
  go_wp2
  refine Wpn.of ?_
  go_wp2
  go_ret
  exact ⟨rfl, (Kept.refl _ w).alloc _⟩
theorem offer_nil (w : World) (v : Int) :
    Calls Try.prog 14 #[.pointer none, .int .i64 v] w fun e w' => e = .returned (.bool false) ∧ Kept (fun _ => False) w w' := by
  refine calls_of_wpn Try.func14 rfl ?_
  simp only [Try.ntmps14, List.size_toArray, List.length_cons, List.length_nil, Nat.reduceAdd, Nat.reduceSub, Array.replicate_succ, Array.replicate_zero, List.push_toArray, List.append_toArray, List.nil_append, List.cons_append]
  refine Wpn.seq fun K1 hK1 => Wpn.of ?_
  go_wp2
  refine Wpn.seq fun K1 hK1 => Wpn.of ?_
  go_wp2_with (go_at_call 28; (refine Calls.mono (chan_nil _) ?_); rintro e w2 ⟨rfl, rfl⟩)
  have hz : (execOp (Act.eval ⟨#[.pointer none, .int .i64 v, undef, .pointer (some ⟨w.heap.size, 0, none⟩), .bool false, .pointer none, .chan none, undef, undef, undef], []⟩) { dst := some 7, op := Op.select #[{ chan := Operand.tmp 6, send := some (Operand.tmp 3), elem := 72 }] false, type := 0, pos := "box.go:34", after := #[], guard := none }).run Try.prog (w.alloc (.cells #[.int .i64 v] 3)) = .ok (.comm #[scaseNil (ptr w.heap.size) (.pointer none)] false .select) (w.alloc (.cells #[.int .i64 v] 3)) := by
    simp [go_sem, execOp, scaseNil, Act.eval, ptr]
  refine Wpn.seq fun K1 hK1 => ?_
  refine Wpn.comm rfl hz (fun fr cs es he => step_lone_select_send_nil he) ?_
  dsimp only [Act.put]
  simp only [List.setIfInBounds_toArray, List.set_cons_succ, List.set_cons_zero]
  go_wp2
  refine Wpn.of ?_
  go_wp2
  go_ret
  exact ⟨rfl, (Kept.refl _ w).alloc _⟩
end Go.Proofs.Ytcefdleidkmomaa.Mo

/- Take of a box of ints. Conditions: each theorem's own. -/
namespace Go.Proofs.Ytcefdleidkmomaa.Mo
open Go.Conc Go.RowKit Hp
theorem take_first {w : World} {b c room : Nat} {p : Nat} {ps : List Nat} {v : Int} {vs : List Int} (h : Bx w b c room (p :: ps) (v :: vs)) :
    Calls Try.prog 15 #[ptr b] w fun e w' => e = .returned (.tuple #[.int .i64 v, .bool true]) ∧ Bx w' b c room ps vs ∧ Kept (fun i => i = c) w w' := by
  refine calls_of_wpn Try.func15 rfl ?_
  simp only [Try.ntmps15, List.size_toArray, List.length_cons, List.length_nil, Nat.reduceAdd, Nat.reduceSub, Array.replicate_succ, Array.replicate_zero, List.push_toArray, List.append_toArray, List.nil_append, List.cons_append]
  refine Wpn.seq fun K1 hK1 => Wpn.of ?_
  go_wp2
  refine Wpn.seq fun K1 hK1 => Wpn.of ?_
  go_wp2_with (go_at_call 28; (refine Calls.mono (chan_box h.box) ?_); rintro e w2 ⟨rfl, rfl⟩)
  obtain ⟨s, r, hc⟩ := h.chan
  have hlt := h.lt
  have hz : (execOp (Act.eval ⟨#[ptr b, undef, .int .i64 0, .bool false, undef, undef, ptr b, .chan (some c), undef, undef, undef, undef, undef, undef, undef, undef], []⟩) { dst := some 8, op := Op.select #[{ chan := Operand.tmp 7, send := none, elem := 72 }] false, type := 0, pos := "box.go:44", after := #[], guard := none }).run Try.prog w = .ok (.comm #[rcase c (.pointer none)] false .select) w := by
    simp [go_sem, execOp, rcase, Act.eval, ptr]
  refine Wpn.seq fun K1 hK1 => ?_
  refine Wpn.comm rfl hz (fun fr cs es he => step_lone_select_recv_buf he hc (by simp)) ?_
  have hk := kept_setChan w c room (ps.map ptr).toArray false s (r + 1) false
  have hne : ∀ {p : Nat} {l : List Value} {T : TypeId}, Blk w p l T → ¬ p = c := fun hp => h.ne hp
  have h0 := h.cells 0 p v rfl rfl
  have hp1 := (hk.blk h0 (hne h0)).cell (o := 0) rfl
  have hx : ((p :: ps).map ptr).toArray.extract 1 ((p :: ps).map ptr).toArray.size = (ps.map ptr).toArray := by simp [List.take_of_length_le]
  have hy : ((p :: ps).map ptr).toArray.getD 0 undef = .pointer (some ⟨p, 0, none⟩) := by simp [ptr]
  rw [hx, hy]
  have hB : Bx (w.setChan c room (ps.map ptr).toArray false s (r + 1) false) b c room ps vs :=
    ⟨hk.blk h.box (hne h.box), ⟨s, r + 1, heap_setChan _ _ _ _ _ _ _ _ hlt⟩, by simpa using h.len, fun i q u hq hu => hk.blk (h.cells (i + 1) q u (by simpa using hq) (by simpa using hu)) (hne (h.cells (i + 1) q u (by simpa using hq) (by simpa using hu)))⟩
  generalize w.setChan c room (ps.map ptr).toArray false s (r + 1) false = w1 at *
  dsimp only [Act.put]
  simp only [List.setIfInBounds_toArray, List.set_cons_succ, List.set_cons_zero]
  go_wp2
  refine Wpn.of ?_
  go_wp2
  go_ret2
  exact ⟨rfl, hB, hk⟩
theorem take_empty {w : World} {b c room : Nat} (h : Bx w b c room [] []) :
    Calls Try.prog 15 #[ptr b] w fun e w' => e = .returned (.tuple #[.int .i64 0, .bool false]) ∧ w = w' := by
  refine calls_of_wpn Try.func15 rfl ?_
  simp only [Try.ntmps15, List.size_toArray, List.length_cons, List.length_nil, Nat.reduceAdd, Nat.reduceSub, Array.replicate_succ, Array.replicate_zero, List.push_toArray, List.append_toArray, List.nil_append, List.cons_append]
  refine Wpn.seq fun K1 hK1 => Wpn.of ?_
  go_wp2
  refine Wpn.seq fun K1 hK1 => Wpn.of ?_
  go_wp2_with (go_at_call 28; (refine Calls.mono (chan_box h.box) ?_); rintro e w2 ⟨rfl, rfl⟩)
  obtain ⟨s, r, hc⟩ := h.chan
  have hz : (execOp (Act.eval ⟨#[ptr b, undef, .int .i64 0, .bool false, undef, undef, ptr b, .chan (some c), undef, undef, undef, undef, undef, undef, undef, undef], []⟩) { dst := some 8, op := Op.select #[{ chan := Operand.tmp 7, send := none, elem := 72 }] false, type := 0, pos := "box.go:44", after := #[], guard := none }).run Try.prog w = .ok (.comm #[rcase c (.pointer none)] false .select) w := by
    simp [go_sem, execOp, rcase, Act.eval, ptr]
  refine Wpn.seq fun K1 hK1 => ?_
  refine Wpn.comm rfl hz (fun fr cs es he => step_lone_select_default he hc) ?_
  dsimp only [Act.put]
  simp only [List.setIfInBounds_toArray, List.set_cons_succ, List.set_cons_zero]
  go_wp2
  refine Wpn.of ?_
  go_wp2
  go_ret2
  exact ⟨rfl, rfl⟩
theorem take_nil (w : World) :
    Calls Try.prog 15 #[.pointer none] w fun e w' => e = .returned (.tuple #[.int .i64 0, .bool false]) ∧ w = w' := by
  refine calls_of_wpn Try.func15 rfl ?_
  simp only [Try.ntmps15, List.size_toArray, List.length_cons, List.length_nil, Nat.reduceAdd, Nat.reduceSub, Array.replicate_succ, Array.replicate_zero, List.push_toArray, List.append_toArray, List.nil_append, List.cons_append]
  refine Wpn.seq fun K1 hK1 => Wpn.of ?_
  go_wp2
  refine Wpn.seq fun K1 hK1 => Wpn.of ?_
  go_wp2_with (go_at_call 28; (refine Calls.mono (chan_nil _) ?_); rintro e w2 ⟨rfl, rfl⟩)
  have hz : (execOp (Act.eval ⟨#[.pointer none, undef, .int .i64 0, .bool false, undef, undef, .pointer none, .chan none, undef, undef, undef, undef, undef, undef, undef, undef], []⟩) { dst := some 8, op := Op.select #[{ chan := Operand.tmp 7, send := none, elem := 72 }] false, type := 0, pos := "box.go:44", after := #[], guard := none }).run Try.prog w = .ok (.comm #[rcaseNil (.pointer none)] false .select) w := by
    simp [go_sem, execOp, rcaseNil, Act.eval]
  refine Wpn.seq fun K1 hK1 => ?_
  refine Wpn.comm rfl hz (fun fr cs es he => step_lone_select_recv_nil he) ?_
  dsimp only [Act.put]
  simp only [List.setIfInBounds_toArray, List.set_cons_succ, List.set_cons_zero]
  go_wp2
  refine Wpn.of ?_
  go_wp2
  go_ret2
  exact ⟨rfl, rfl⟩
end Go.Proofs.Ytcefdleidkmomaa.Mo

/- New and Len of boxes of ints. Conditions: each theorem's own. -/
namespace Go.Proofs.Ytcefdleidkmomaa.Mo
open Go.Conc Go.RowKit Hp
theorem bytesPtr : ∃ i, Try.prog.info? 72 = some i ∧ i.bytes = 8 := by
  have h : (Try.prog.info? 72).map (·.bytes) = some 8 := by kernel_rfl
  obtain ⟨i, hi, hb⟩ := Option.map_eq_some_iff.1 h
  exact ⟨i, hi, hb⟩
theorem mkBox {n : Int} (h0 : 0 ≤ n) (h1 : n ≤ 10000) (w : World) : (Instr.makeChan 68 (.int .i64 n)).run Try.prog w = .ok (.chan (some w.heap.size)) (w.alloc (.chan n.toNat #[] false 0 0 false)) := by
  obtain ⟨i, hi, hb⟩ := bytesPtr
  obtain ⟨k, rfl⟩ := Int.eq_ofNat_of_zero_le h0
  simpa using run_makeChan (P := Try.prog) (w := w) Try.underlying68 hi .i64 k (by omega) (by rw [hb]; omega)
theorem new_ok {n : Int} (h0 : 0 ≤ n) (h1 : n ≤ 10000) (w : World) : Calls Try.prog 12 #[.int .i64 n] w fun e w' => e = .returned (.tuple #[ptr (w.heap.size + 1), .int .i64 0]) ∧ Bx w' (w.heap.size + 1) w.heap.size n.toNat [] [] ∧ Kept (fun _ => False) w w' ∧ w'.heap.size = w.heap.size + 2 := by
  have hmc := mkBox h0 h1
  go_enter Try.func12, Try.ntmps12
  go_wp2
  go_ret2
  have hB := Blk.new (w.alloc (.chan n.toNat #[] false 0 0 false)) [.chan (some w.heap.size)] 70
  have hk := ((Kept.refl (fun _ => False) w).alloc (.chan n.toNat #[] false 0 0 false)).alloc (.cells #[.chan (some w.heap.size)] 70)
  simp only [World.size_alloc] at hB
  refine ⟨rfl, ⟨hB, ⟨0, 0, ?_⟩, rfl, fun i p v hp => by simp at hp⟩, hk, by simp⟩
  rw [heap_old _ _ (by simp)]
  exact heap_alloc_new w _
theorem new_bad {n : Int} (h : n < 0 ∨ 10000 < n) (w : World) : Calls Try.prog 12 #[.int .i64 n] w fun e w' => e = .returned (.tuple #[.pointer none, .int .i64 1]) ∧ w = w' := by
  rcases Int.lt_or_le n 0 with h1 | h1
  · clear h
    go_enter Try.func12, Try.ntmps12
    go_wp2
    go_ret2
    exact ⟨rfl, rfl⟩
  · have h2 : 10000 < n := by omega
    clear h
    go_enter Try.func12, Try.ntmps12
    go_wp2
    go_ret2
    exact ⟨rfl, rfl⟩
theorem len_box {w : World} {b c room : Nat} {ps : List Nat} {vs : List Int} (h : Bx w b c room ps vs) : Calls Try.prog 19 #[ptr b] w fun e w' => e = .returned (.int .i64 vs.length) ∧ w = w' := by
  obtain ⟨s, r, hc⟩ := h.chan
  have hl := fun ty => run_len_chan (P := Try.prog) 68 ty Try.underlying68 hc
  simp only [List.size_toArray, List.length_map, h.len] at hl
  have HB := Lib.hid h.box
  clear hc h
  go_enter Try.func19, Try.ntmps19
  go_wp2_with (go_at_call 28; (refine Calls.mono (chan_box HB.out) ?_); rintro e w2 ⟨rfl, rfl⟩)
  go_ret
  exact ⟨rfl, rfl⟩
theorem len_nil (w : World) : Calls Try.prog 19 #[.pointer none] w fun e w' => e = .returned (.int .i64 0) ∧ w = w' := by
  have hl : ∀ (ty : TypeId) (w : World), (Builtin.len_ #[68] ty #[.chan none]).run Try.prog w = .ok (.int .i64 0) w := by
    intro ty w
    simp [Builtin.len_, run_underlying Try.underlying68]
    rfl
  go_enter Try.func19, Try.ntmps19
  go_wp2_with (go_at_call 28; (refine Calls.mono (chan_nil _) ?_); rintro e w2 ⟨rfl, rfl⟩)
  go_ret
  exact ⟨rfl, rfl⟩
end Go.Proofs.Ytcefdleidkmomaa.Mo

