/- The queue and the law's own beside each other, and what else lies about. Conditions: each theorem's own. -/
import Derived.Test.YtlgcbggffhlhmaaQuMd
set_option linter.unusedVariables false
namespace Go.Proofs.Ytlgcbggffhlhmaa.Qu
open Go.RowKit Hp QuM QuN Rw
attribute [local go_sem ↓] Go.wp_at_zero Go.wp_at_succ
abbrev Ex := List (Nat × List Value × TypeId)
/-- Both queues; blocks of neither. -/
def PX (W : World) (b m : Nat) (room : Int) (ls l2 : Nat → List Bx) (ex : Ex) (w : World) : Prop :=
  ∃ F c us, St W b room ls F w ∧ MdV w m c us l2 ∧ ¬ F m ∧ (∀ k g, k < 8 → (us k).ownBlock = some g → ¬ F g) ∧ W.heap.size ≤ m ∧ ∀ x ∈ ex, Blk w x.1 x.2.1 x.2.2 ∧ ¬ F x.1 ∧ x.1 ≠ m
variable {W w w' : World} {b m : Nat} {room : Int} {ls l2 : Nat → List Bx} {ex : Ex}
theorem PX.keep (h : PX W b m room ls l2 ex w) (k : Kept (fun _ => False) w w') : PX W b m room ls l2 ex w' := by
  obtain ⟨F, c, us, h1, h2, h3, h4, h5, h6⟩ := h
  exact ⟨F, c, us, h1.old k, h2.old k, h3, h4, h5, fun x hx => ⟨k.blk (h6 x hx).1 (fun f => f), (h6 x hx).2⟩⟩
theorem PX.drew (h : PX W b m room ls l2 ex w) : PX W b m room ls l2 ex w.drew := h.keep (Kept.refl _ w).drew
theorem PX.blk (h : PX W b m room ls l2 ex w) {x : Nat × List Value × TypeId} (hx : x ∈ ex) : Blk w x.1 x.2.1 x.2.2 := by
  obtain ⟨F, c, us, h1, h2, h3, h4, h5, h6⟩ := h
  exact (h6 x hx).1
theorem PX.old (h : PX W b m room ls l2 ex w) : Kept (fun _ => False) W w := by
  obtain ⟨F, c, us, h1, _⟩ := h
  exact h1.1
theorem PX.fit (h : PX W b m room ls l2 ex w) : tot ls 8 ≤ room := by
  obtain ⟨F, c, us, h1, _⟩ := h
  exact h1.2.1.2.2
theorem PX.less (h : PX W b m room ls l2 ex w) {ex' : Ex} (hx : ∀ x ∈ ex', x ∈ ex) : PX W b m room ls l2 ex' w := by
  obtain ⟨F, c, us, h1, h2, h3, h4, h5, h6⟩ := h
  exact ⟨F, c, us, h1, h2, h3, h4, h5, fun x h => h6 x (hx x h)⟩
/-- A new block. -/
theorem PX.alloc (h : PX W b m room ls l2 ex w) (c : List Value) (T : TypeId) : PX W b m room ls l2 ((w.heap.size, c, T) :: ex) (w.alloc (.cells c.toArray T)) := by
  have hk : Kept (fun _ => False) w (w.alloc (.cells c.toArray T)) := (Kept.refl _ w).alloc _
  obtain ⟨F, c', us, h1, h2, h3, h4, h5, h6⟩ := h
  refine ⟨F, c', us, h1.old hk, h2.old hk, h3, h4, h5, fun x hx => ?_⟩
  rcases List.mem_cons.1 hx with rfl | hx
  · exact ⟨Blk.new w c T, fun e => by have := (h1.own _ e).2; simp at this, fun e => by have := h2.blk.lt; simp only at e; omega⟩
  · exact ⟨hk.blk (h6 x hx).1 (fun f => f), (h6 x hx).2⟩
/-- A call that turns the queue. -/
theorem PX.call {f : FuncId} {args : Array Value} {E : Ending} {ls' : Nat → List Bx} (h : PX W b m room ls l2 ex w)
    (H : ∀ F, St W b room ls F w → Calls Try.prog f args w fun e w' => e = E ∧ ∃ F', St W b room ls' F' w' ∧ Next F w F' w') :
    Calls Try.prog f args w fun e w' => e = E ∧ PX W b m room ls' l2 ex w' := by
  obtain ⟨F, c, us, h1, h2, h3, h4, h5, h6⟩ := h
  refine (H F h1).mono fun e w' ⟨e1, F', e2, e3, e4⟩ => ⟨e1, F', c, us, e2, h2.kept e3 h3 h4, fun e => (e4 m e).elim h3 (fun hh => by have := h2.blk.lt; omega), fun k g hk hg e => (e4 g e).elim (h4 k g hk hg) (fun hh => by have := (h2.row k hk).lt g hg; omega), h5, fun x hx => ?_⟩
  obtain ⟨g1, g2, g3⟩ := h6 x hx
  exact ⟨e3.blk g1 g2, fun e => (e4 x.1 e).elim g2 (fun hh => by have := g1.lt; omega), g3⟩
/-- A call that leaves it. -/
theorem PX.look {f : FuncId} {args : Array Value} {E : Ending} (h : PX W b m room ls l2 ex w)
    (H : ∀ F, St W b room ls F w → Calls Try.prog f args w fun e w' => e = E ∧ Kept (fun _ => False) w w') :
    Calls Try.prog f args w fun e w' => e = E ∧ PX W b m room ls l2 ex w' := by
  have hh := h
  obtain ⟨F, c, us, h1, _⟩ := hh
  exact (H F h1).mono fun e w' ⟨e1, e2⟩ => ⟨e1, h.keep e2⟩
theorem PX.usedM (h : PX W b m room ls l2 ex w) (ht : tot l2 8 ≤ 1099511627776) :
    Calls Try.prog 31 #[.pointer (some ⟨m, 0, none⟩)] w fun e w' => e = .returned (.int .i64 (tot l2 8)) ∧ PX W b m room ls l2 ex w' := by
  have hh := h
  obtain ⟨F, c, us, h1, h2, _⟩ := hh
  exact (used_m h2 ht).mono fun e w' ⟨e1, e2⟩ => ⟨e1, h.keep e2⟩
theorem PX.firstM (h : PX W b m room ls l2 ex w) :
    Calls Try.prog 35 #[.pointer (some ⟨m, 0, none⟩)] w fun e w' => e = .returned (.int .i64 (topI l2)) ∧ w = w' := by
  obtain ⟨F, c, us, h1, h2, _⟩ := h
  exact first_m h2
theorem PX.size (h : PX W b m room ls l2 ex w) (n v : Int) : Calls Try.prog 32 #[.agg #[.int .i64 n, .int .i64 v]] w fun e w' => e = .returned (.int .i64 (szI n)) ∧ PX W b m room ls l2 ex w' :=
  (size_any n v w).mono fun e w' ⟨e1, e2⟩ => ⟨e1, h.keep e2⟩
/-- The law's own rows. -/
theorem PX.row (h : PX W b m room ls l2 ex w) {k : Nat} (hk : k < 8) : ∃ v, w.cell? ⟨m, 1 + k, none⟩ = some v ∧ w.frozen? ⟨m, 1 + k, none⟩ = false ∧ Ro.Row bT w v (l2 k) := by
  obtain ⟨F, c, us, h1, h2, _⟩ := h
  exact ⟨us k, h2.blk.cell (h2.cu k hk), h2.blk.frozen _, h2.row k hk⟩
/-- One of them is another one. -/
theorem store_at {F : Nat → Prop} {c : List Value} {us : Nat → Value} (h1 : St W b room ls F w) (h2 : MdV w m c us l2) (h3 : ¬ F m) (h4 : ∀ k g, k < 8 → (us k).ownBlock = some g → ¬ F g) (h5 : W.heap.size ≤ m) (h6 : ∀ x ∈ ex, Blk w x.1 x.2.1 x.2.2 ∧ ¬ F x.1 ∧ x.1 ≠ m)
    {k : Nat} (hk : k < 8) {v' : Value} {L' : List Bx} (hR : Ro.Row bT w v' L') (hvF : ∀ g, v'.ownBlock = some g → ¬ F g) :
    PX W b m room ls (upd l2 k L') ex (w.setCell ⟨m, 1 + k, none⟩ v') := by
  have K := Kept.one w m (1 + k) v'
  have hm : ∀ (v : Value) (l : List Bx), Ro.Row bT w v l → ∀ g, v.ownBlock = some g → g ≠ m := by
    intro v l hr g hg e
    rcases hr with ⟨rfl, _⟩ | ⟨g', o, cap, cur, rfl, h⟩
    · cases hg
    · have e2 : g' = g := Option.some.inj hg
      subst e2
      subst e
      exact absurd (h2.blk.inj h.blk).2 (by decide)
  refine ⟨F, _, upd us k v', h1.far K (fun i e f => h3 (e ▸ f)) (fun i e => e ▸ h5), h2.turn hk (h2.blk.set _ _) (hR.kept K (fun g hg e => hm v' L' hR g hg e)) K (fun j g hj hg => hm (us j) (l2 j) (h2.row j hj) g hg), h3, ?_, h5, fun x hx => ?_⟩
  · intro j g hj hg
    by_cases e : j = k
    · subst e; rw [upd_self] at hg; exact hvF g hg
    · rw [upd_ne us v' e] at hg; exact h4 j g hj hg
  · obtain ⟨g1, g2, g3⟩ := h6 x hx
    exact ⟨K.blk g1 g3, g2, g3⟩
/-- By a row that is new. -/
theorem PX.put (h : PX W b m room ls l2 ex w) (k' : Kept (fun i => w.heap.size ≤ i) w w') {k : Nat} (hk : k < 8) {v' : Value} {L' : List Bx} (hR : Ro.Row bT w' v' L') (hv : ∀ g, v'.ownBlock = some g → w.heap.size ≤ g) :
    PX W b m room ls (upd l2 k L') ex (w'.setCell ⟨m, 1 + k, none⟩ v') := by
  have k0 : Kept (fun _ => False) w w' := k'.mono (fun i hi e => by omega)
  obtain ⟨F, c, us, h1, h2, h3, h4, h5, h6⟩ := h
  exact store_at (h1.old k0) (h2.old k0) h3 h4 h5 (fun x hx => ⟨k0.blk (h6 x hx).1 (fun f => f), (h6 x hx).2⟩) hk hR (fun g hg e => by have := (h1.own g e).2; have := hv g hg; omega)
/-- By a part of what it was. -/
theorem PX.cut (h : PX W b m room ls l2 ex w) {k : Nat} (hk : k < 8) {u v' : Value} {L' : List Bx} (hu : w.cell? ⟨m, 1 + k, none⟩ = some u) (hR : Ro.Row bT w v' L') (hv : ∀ g, v'.ownBlock = some g → u.ownBlock = some g) :
    PX W b m room ls (upd l2 k L') ex (w.setCell ⟨m, 1 + k, none⟩ v') := by
  obtain ⟨F, c, us, h1, h2, h3, h4, h5, h6⟩ := h
  have := h2.blk.cell (h2.cu k hk)
  rw [this] at hu
  cases hu
  exact store_at h1 h2 h3 h4 h5 h6 hk hR (fun g hg => h4 k g hk (hv g hg))
/-- Without the first one. -/
theorem ro_tail {w : World} {a : Option Addr} {cc : Nat} {x : Bx} {L : List Bx} (h : Ro.Row bT w (.slice a (L.length + 1) cc) (x :: L)) :
    Ro.Row bT w (.slice (if cc = 1 then a else a.map (fun z => z.add 2)) L.length (cc - 1)) L ∧ ∀ g, (Value.slice (if cc = 1 then a else a.map (fun z => z.add 2)) L.length (cc - 1)).ownBlock = some g → (Value.slice a (L.length + 1) cc).ownBlock = some g := by
  rcases h with ⟨e, h⟩ | ⟨g, o, cap, cur, e, h2⟩
  · cases h
  · cases e
    have hle := h2.le
    rw [List.length_cons] at hle
    by_cases e : cc = 1
    · rw [if_pos e]
      have hL : L = [] := List.length_eq_zero_iff.1 (by omega)
      subst hL
      subst e
      exact ⟨h2.cut_all, fun g hg => hg⟩
    · rw [if_neg e]
      have := h2.cut (n := 1) (by rw [List.length_cons]; omega)
      simp only [Option.map_some, Go.WideShapes.add_plain]
      exact ⟨by simpa using this, fun g hg => hg⟩
theorem PX.ne (h : PX W b m room ls l2 ex w) {x : Nat × List Value × TypeId} (hx : x ∈ ex) : x.1 ≠ m := by
  obtain ⟨F, c, us, h1, h2, h3, h4, h5, h6⟩ := h
  exact (h6 x hx).2.2
theorem PX.mlt (h : PX W b m room ls l2 ex w) : m < w.heap.size := by
  obtain ⟨F, c, us, h1, h2, h3, h4, h5, h6⟩ := h
  exact h2.blk.lt
end Go.Proofs.Ytlgcbggffhlhmaa.Qu
