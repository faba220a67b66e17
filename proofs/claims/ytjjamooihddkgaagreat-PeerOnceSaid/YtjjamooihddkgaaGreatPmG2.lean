/- Blocks known whole: what a cell of one reads, what a store leaves, what a new one leaves. Conditions: none. -/
import Derived.Test.YtjjamooihddkgaaGreatRows
import Derived.WalkKit
import Derived.ProofKit
import Derived.Lib.Hide
import Derived.BigQuiet
import Derived.Deep.QuietTactic
import Derived.Laws.AppendOwn
import Derived.Laws.AppendOwnNone
import Derived.Laws.OwnMore
import Derived.Maps.AppendAt
import Derived.OwnWalk
import Derived.Carry
import Derived.Laws.CopyOwn
import Derived.Lib.AppendZeros
import Derived.Laws.Externs
set_option linter.unusedVariables false
set_option linter.unusedSimpArgs false
namespace Go.Proofs.YtjjamooihddkgaaGreat.Hp
open Go.RowKit
/-- Block b holds the cells c, none frozen. -/
def Blk (w : World) (b : Nat) (c : List Value) (T : TypeId) : Prop := w.heap[b]? = some (.cells c.toArray T (0, 0))
theorem Blk.cell {w : World} {b : Nat} {c : List Value} {T : TypeId} (h : Blk w b c T) {o : Nat} {v : Value} (hv : c[o]? = some v) : w.cell? ⟨b, o, none⟩ = some v := by
  unfold Blk at h
  simp [World.cell?, h, hv]
theorem Blk.frozen {w : World} {b : Nat} {c : List Value} {T : TypeId} (h : Blk w b c T) (o : Nat) : w.frozen? ⟨b, o, none⟩ = false := by
  unfold Blk at h
  simp [World.frozen?, h]
theorem Blk.lt {w : World} {b : Nat} {c : List Value} {T : TypeId} (h : Blk w b c T) : b < w.heap.size := by
  unfold Blk at h
  rcases Nat.lt_or_ge b w.heap.size with h' | h'
  · exact h'
  · rw [Array.getElem?_eq_none h'] at h; cases h
theorem Blk.set {w : World} {b : Nat} {c : List Value} {T : TypeId} (h : Blk w b c T) (o : Nat) (v : Value) : Blk (w.setCell ⟨b, o, none⟩ v) b (c.set o v) T := by
  unfold Blk at h ⊢
  simp only [World.setCell, Array.getElem?_modify, ↓reduceIte, h, Option.map_some]
  simp
theorem Blk.far {w : World} {b : Nat} {c : List Value} {T : TypeId} (h : Blk w b c T) {p : Nat} (hp : p ≠ b) (o : Nat) (v : Value) : Blk (w.setCell ⟨p, o, none⟩ v) b c T := by
  unfold Blk at h ⊢
  simp only [World.setCell, Array.getElem?_modify]
  rw [if_neg (by simpa using hp)]
  exact h
theorem Blk.old {w : World} {b : Nat} {c : List Value} {T : TypeId} (h : Blk w b c T) (o : Obj) : Blk (w.alloc o) b c T := by
  have := h.lt
  unfold Blk at h ⊢
  simp only [World.alloc, Array.getElem?_push]
  rw [if_neg (by omega)]
  exact h
theorem Blk.new (w : World) (c : List Value) (T : TypeId) : Blk (w.alloc (.cells c.toArray T)) w.heap.size c T := by
  unfold Blk
  simp only [World.alloc, Array.getElem?_push, if_pos]
theorem Blk.heap {w w' : World} {b : Nat} {c : List Value} {T : TypeId} (h : Blk w b c T) (e : w'.heap[b]? = w.heap[b]?) : Blk w' b c T := by
  unfold Blk at h ⊢; rw [e]; exact h
theorem Blk.inj {w : World} {b : Nat} {c c' : List Value} {T T' : TypeId} (h : Blk w b c T) (h' : Blk w b c' T') : c = c' ∧ T = T' := by
  unfold Blk at h h'
  rw [h] at h'
  simp at h'
  exact h'
/-- Outside the blocks of F the world is as it was. -/
structure Kept (F : Nat → Prop) (w w' : World) : Prop where
  os : w'.os = w.os
  tape : w'.tape = w.tape
  output : w'.output = w.output
  size : w.heap.size ≤ w'.heap.size
  block : ∀ k, k < w.heap.size → ¬ F k → w'.heap[k]? = w.heap[k]?
theorem Kept.refl (F : Nat → Prop) (w : World) : Kept F w w := ⟨rfl, rfl, rfl, Nat.le_refl _, fun _ _ _ => rfl⟩
theorem Kept.trans {F : Nat → Prop} {a b c : World} (h : Kept F a b) (k : Kept F b c) : Kept F a c :=
  ⟨k.os.trans h.os, k.tape.trans h.tape, k.output.trans h.output, Nat.le_trans h.size k.size, fun i hi hF => (k.block i (Nat.lt_of_lt_of_le hi h.size) hF).trans (h.block i hi hF)⟩
/-- What came new in between may be written, too. -/
theorem Kept.trans' {F G : Nat → Prop} {a b c : World} (h : Kept F a b) (k : Kept G b c) (hG : ∀ i, i < a.heap.size → G i → F i) : Kept F a c :=
  ⟨k.os.trans h.os, k.tape.trans h.tape, k.output.trans h.output, Nat.le_trans h.size k.size, fun i hi hF => (k.block i (Nat.lt_of_lt_of_le hi h.size) (fun g => hF (hG i hi g))).trans (h.block i hi hF)⟩
theorem Kept.mono {F G : Nat → Prop} {w w' : World} (h : Kept F w w') (hF : ∀ i, i < w.heap.size → F i → G i) : Kept G w w' :=
  ⟨h.os, h.tape, h.output, h.size, fun i hi hG => h.block i hi fun f => hG (hF i hi f)⟩
theorem Kept.set {F : Nat → Prop} {a w : World} (h : Kept F a w) {b : Nat} (hb : b < a.heap.size → F b) (o : Nat) (v : Value) : Kept F a (w.setCell ⟨b, o, none⟩ v) :=
  h.trans' (G := fun k => k = b) ⟨rfl, rfl, rfl, by simp, fun k _ hk => by simp only [World.setCell, Array.getElem?_modify]; rw [if_neg (fun e => hk e.symm)]⟩ (fun i hi e => e ▸ hb (e ▸ hi))
theorem Kept.alloc {F : Nat → Prop} {a w : World} (h : Kept F a w) (o : Obj) : Kept F a (w.alloc o) :=
  h.trans ⟨rfl, rfl, rfl, by simp, fun k hk _ => by simp only [World.alloc, Array.getElem?_push]; rw [if_neg (by omega)]⟩
theorem Kept.drew {F : Nat → Prop} {a w : World} (h : Kept F a w) : Kept F a w.drew := ⟨h.os, h.tape, h.output, h.size, h.block⟩
theorem Kept.drewN {F : Nat → Prop} {a w : World} (h : Kept F a w) (n : Nat) : Kept F a (w.drewN n) := ⟨h.os, h.tape, h.output, h.size, h.block⟩
theorem Kept.blk {F : Nat → Prop} {w w' : World} (h : Kept F w w') {b : Nat} {c : List Value} {T : TypeId} (hb : Blk w b c T) (hF : ¬ F b) : Blk w' b c T := hb.heap (h.block b hb.lt hF)
theorem Blk.drew {w : World} {b : Nat} {c : List Value} {T : TypeId} (h : Blk w b c T) : Blk w.drew b c T := h
theorem Blk.drewN {w : World} {b : Nat} {c : List Value} {T : TypeId} (h : Blk w b c T) (n : Nat) : Blk (w.drewN n) b c T := h
theorem Kept.one (w : World) (b o : Nat) (v : Value) : Kept (fun k => k = b) w (w.setCell ⟨b, o, none⟩ v) := (Kept.refl (fun k => k = b) w).set (b := b) (fun _ => rfl) o v
end Go.Proofs.YtjjamooihddkgaaGreat.Hp

/- Whose a block is: blocks told by tags; what a part's call leaves of all other parts. Conditions: none. -/
namespace Go.Proofs.YtjjamooihddkgaaGreat.Po
open Go.RowKit Hp
/-- Part j's blocks become F. -/
structure Re (O : Nat → Nat) (j : Nat) (F : Nat → Prop) (O' : Nat → Nat) : Prop where
  yes : ∀ k, F k → O' k = j
  was : ∀ k, ¬ F k → O k = j → O' k = 0
  no : ∀ k, ¬ F k → O k ≠ j → O' k = O k
theorem re_ex (O : Nat → Nat) (j : Nat) (F : Nat → Prop) : ∃ O', Re O j F O' := by
  classical
  refine ⟨fun k => if F k then j else if O k = j then 0 else O k, ⟨fun k h => if_pos h, fun k h e => ?_, fun k h e => ?_⟩⟩
  · show (if F k then j else if O k = j then 0 else O k) = 0
    rw [if_neg h, if_pos e]
  · show (if F k then j else if O k = j then 0 else O k) = O k
    rw [if_neg h, if_neg e]
variable {O O' : Nat → Nat} {j : Nat} {F : Nat → Prop}
theorem Re.self (h : Re O j F O') (hj : j ≠ 0) : (fun k => O' k = j) = F := by
  funext k
  refine propext ⟨fun e => ?_, fun f => h.yes k f⟩
  by_cases f : F k
  · exact f
  · by_cases e2 : O k = j
    · have := h.was k f e2; omega
    · have := h.no k f e2; omega
theorem Re.eq (h : Re O j F O') {i : Nat} (hi : i ≠ j) (h0 : i ≠ 0) {k : Nat} (hF : F k → O k = j ∨ O k = 0) : O' k = i ↔ O k = i := by
  by_cases f : F k
  · have := h.yes k f
    have := hF f
    omega
  · by_cases e2 : O k = j
    · have := h.was k f e2; omega
    · have := h.no k f e2; omega
theorem Re.other (h : Re O j F O') {i : Nat} (hi : i ≠ j) (h0 : i ≠ 0) (hF : ∀ k, F k → O k = j ∨ O k = 0) : (fun k => O' k = i) = fun k => O k = i := by
  funext k
  exact propext (h.eq hi h0 (hF k))
theorem Re.some (h : Re O j F O') {k : Nat} (h0 : O' k ≠ 0) : F k ∨ (O k ≠ 0 ∧ O k ≠ j) := by
  by_cases f : F k
  · exact Or.inl f
  · by_cases e2 : O k = j
    · exact absurd (h.was k f e2) h0
    · rw [h.no k f e2] at h0; exact Or.inr ⟨h0, e2⟩
/-- All that has an owner is of the call's own, and there. -/
def Ow (w : World) (base : Nat) (O : Nat → Nat) : Prop := ∀ k, O k ≠ 0 → base ≤ k ∧ k < w.heap.size
theorem Ow.size {w w' : World} {base : Nat} {O : Nat → Nat} (h : Ow w base O) (hs : w.heap.size ≤ w'.heap.size) : Ow w' base O := fun k hk => ⟨(h k hk).1, Nat.lt_of_lt_of_le (h k hk).2 hs⟩
/-- What a part's call takes is its own or new: nobody else's. -/
theorem Ow.free {w : World} {base : Nat} {O : Nat → Nat} (h : Ow w base O) {j : Nat} {F : Nat → Prop} (hF : ∀ k, F k → O k = j ∨ w.heap.size ≤ k) : ∀ k, F k → O k = j ∨ O k = 0 := by
  intro k hk
  rcases hF k hk with e | e
  · exact Or.inl e
  · right
    rcases Nat.eq_zero_or_pos (O k) with h0 | h0
    · exact h0
    · have := (h k (by omega)).2; omega
theorem Ow.re {w w' : World} {base : Nat} (h : Ow w base O) (hr : Re O j F O') (hs : w.heap.size ≤ w'.heap.size) (hbase : base ≤ w.heap.size) (hF : ∀ k, F k → (O k = j ∧ j ≠ 0 ∨ w.heap.size ≤ k) ∧ k < w'.heap.size) : Ow w' base O' := by
  intro k hk
  rcases hr.some hk with f | ⟨h1, _⟩
  · rcases (hF k f).1 with ⟨e, e2⟩ | e
    · have := h k (by rw [e]; exact e2); exact ⟨this.1, (hF k f).2⟩
    · exact ⟨by omega, (hF k f).2⟩
  · exact ⟨(h k h1).1, Nat.lt_of_lt_of_le (h k h1).2 hs⟩
/-- What a call on the parts A leaves (0: what nobody owns). -/
structure Fr (A : Nat → Prop) (w : World) (O : Nat → Nat) (w' : World) (O' : Nat → Nat) : Prop where
  kept : Kept (fun k => A (O k)) w w'
  same : ∀ j, j ≠ 0 → ¬ A j → ∀ k, O' k = j ↔ O k = j
  more : ∀ k, O' k ≠ 0 → A (O' k) → (O k ≠ 0 ∧ A (O k)) ∨ (w.heap.size ≤ k ∧ k < w'.heap.size)
variable {A B : Nat → Prop} {w w1 w2 w' : World} {O1 O2 : Nat → Nat} {base : Nat}
theorem Fr.old (k : Kept (fun _ => False) w w') : Fr A w O w' O :=
  ⟨k.mono (fun _ _ f => f.elim), fun _ _ _ _ => Iff.rfl, fun k h0 h => Or.inl ⟨h0, h⟩⟩
/-- What another writes. -/
theorem Fr.out {G : Nat → Prop} (k : Kept G w w') (hG : ∀ i, O i ≠ 0 → ¬ G i) : Fr (fun j => j = 0) w O w' O := by
  refine ⟨k.mono (fun i _ g => ?_), fun _ _ _ _ => Iff.rfl, fun k h0 h => Or.inl ⟨h0, h⟩⟩
  rcases Nat.eq_zero_or_pos (O i) with h0 | h0
  · exact h0
  · exact absurd g (hG i (by omega))
theorem Fr.part (h : Fr A w O w' O') {j : Nat} (h0 : j ≠ 0) (hA : ¬ A j) : (fun k => O' k = j) = fun k => O k = j := by
  funext k; exact propext (h.same j h0 hA k)
theorem Fr.ow (h : Fr A w O w' O') (o : Ow w base O) (hb : base ≤ w.heap.size) : Ow w' base O' := by
  intro k hk
  by_cases hA : A (O' k)
  · rcases h.more k hk hA with ⟨e, _⟩ | e
    · exact ⟨(o k e).1, Nat.lt_of_lt_of_le (o k e).2 h.kept.size⟩
    · exact ⟨by omega, e.2⟩
  · have e := (h.same _ hk hA k).1 rfl
    have : O k ≠ 0 := by rw [e]; exact hk
    exact ⟨(o k this).1, Nat.lt_of_lt_of_le (o k this).2 h.kept.size⟩
/-- What is owned behind it was, or is new. -/
theorem Fr.owned (h : Fr A w O w' O') {k : Nat} (hk : O' k ≠ 0) : O k ≠ 0 ∨ (w.heap.size ≤ k ∧ k < w'.heap.size) := by
  by_cases hA : A (O' k)
  · exact (h.more k hk hA).imp (fun h => h.1) id
  · have e := (h.same _ hk hA k).1 rfl
    left; rw [e]; exact hk
theorem Fr.trans (h : Fr A w O w1 O1) (k : Fr A w1 O1 w2 O2) : Fr A w O w2 O2 := by
  refine ⟨h.kept.trans' k.kept (fun i hi e => ?_), fun j h0 hA i => (k.same j h0 hA i).trans (h.same j h0 hA i), fun i h0 hi => ?_⟩
  · by_cases z : O1 i = 0
    · by_cases hA : A (O i)
      · exact hA
      · rcases Nat.eq_zero_or_pos (O i) with q | q
        · rw [z] at e; rw [q]; exact e
        · have := (h.same (O i) (by omega) hA i).2 rfl
          omega
    · rcases h.more i z e with h1 | h1
      · exact h1.2
      · omega
  · have s1 := h.kept.size
    have s2 := k.kept.size
    rcases k.more i h0 hi with h1 | h1
    · rcases h.more i h1.1 h1.2 with h2 | h2
      · exact Or.inl h2
      · exact Or.inr ⟨h2.1, by omega⟩
    · exact Or.inr ⟨by omega, h1.2⟩
theorem Fr.mono (h : Fr A w O w' O') (hAB : ∀ j, A j → B j) : Fr B w O w' O' := by
  refine ⟨h.kept.mono (fun i _ e => hAB _ e), fun j h0 hj => h.same j h0 (fun a => hj (hAB _ a)), fun k h0 hk => ?_⟩
  by_cases hA : A (O' k)
  · exact (h.more k h0 hA).imp (fun h => ⟨h.1, hAB _ h.2⟩) id
  · have e := (h.same _ h0 hA k).1 rfl
    rw [e]; exact Or.inl ⟨h0, hk⟩
/-- A call on one part. -/
theorem Fr.of (hr : Re O j F O') (hj : j ≠ 0) (o : Ow w base O) (k : Kept (fun k => O k = j) w w') (hF : ∀ k, F k → O k = j ∨ (w.heap.size ≤ k ∧ k < w'.heap.size)) : Fr (fun i => i = j) w O w' O' := by
  have free := o.free (j := j) (F := F) (fun k h => (hF k h).imp id (fun h => h.1))
  refine ⟨k, fun i h0 hi q => hr.eq hi h0 (free q), fun q _ hq => ?_⟩
  by_cases f : F q
  · rcases hF q f with e | e
    · exact Or.inl ⟨by omega, e⟩
    · exact Or.inr e
  · by_cases e : O q = j
    · exact Or.inl ⟨by omega, e⟩
    · have := hr.no q f e; omega
theorem Fr.blk' (h : Fr A w O w' O') {b : Nat} {c : List Value} {T : TypeId} (hb : Blk w b c T) (h0 : ¬ A (O b)) : Blk w' b c T := h.kept.blk hb h0
end Go.Proofs.YtjjamooihddkgaaGreat.Po

/- Rows of elements of whatever cells, of the call's own: how they lie, append, make. Conditions: each theorem's own. -/
namespace Go.Proofs.YtjjamooihddkgaaGreat.Rw
open Go.RowKit Hp
/-- A type of elements: how one lies. -/
structure Ty (α : Type) where
  E : TypeId
  L : TypeId
  k : Nat
  bz : Nat
  enc : α → List Value
  z : Value
  hL : Tryz.prog.underlying L = some (.slice E)
  hI : (Tryz.prog.info? E).map (fun i => (i.zero, i.size, i.bytes)) = some (some z, k, bz)
  hz : z.cells.size = k
  hk : ∀ x, (enc x).length = k
  h1 : ∀ x, ∀ v ∈ enc x, v.oneCell' = true
  k0 : 0 < k
  hb : bz ≤ 128
variable {α : Type} {t : Ty α}
def flat (t : Ty α) (l : List α) : List Value := l.flatMap t.enc
theorem flat_len (t : Ty α) : ∀ l : List α, (flat t l).length = l.length * t.k
  | [] => by simp [flat]
  | x :: l => by
    have := flat_len t l
    unfold flat at this ⊢
    rw [List.flatMap_cons, List.length_append, this, t.hk, List.length_cons, Nat.add_mul, Nat.one_mul, Nat.add_comm]
theorem flat_append (t : Ty α) (a b : List α) : flat t (a ++ b) = flat t a ++ flat t b := by unfold flat; rw [List.flatMap_append]
theorem flat_at (t : Ty α) : ∀ {l : List α} {i : Nat} {x : α} (h : l[i]? = some x) {j : Nat} (hj : j < t.k), (flat t l)[i * t.k + j]? = (t.enc x)[j]?
  | [], i, x, h, j, hj => by simp at h
  | y :: l, 0, x, h, j, hj => by
    simp at h; subst h
    unfold flat
    rw [List.flatMap_cons, List.getElem?_append_left (by rw [t.hk]; omega)]
    congr 1; omega
  | y :: l, i + 1, x, h, j, hj => by
    have := flat_at t (l := l) (i := i) (x := x) (by simpa using h) hj
    unfold flat at this ⊢
    have e : (i + 1) * t.k + j = t.k + (i * t.k + j) := by rw [Nat.add_mul, Nat.one_mul]; omega
    rw [List.flatMap_cons, e, List.getElem?_append_right (by rw [t.hk]; omega), t.hk, Nat.add_sub_cancel_left, this]
theorem flat_one (t : Ty α) {l : List α} : ∀ u ∈ flat t l, u.oneCell' = true := by
  intro u hu
  obtain ⟨x, _, hx⟩ := List.mem_flatMap.1 hu
  exact t.h1 x u hx
/-- A row. -/
def Row (t : Ty α) (w : World) (base : Nat) (v : Value) (l : List α) : Prop := w.ownsRow base t.E t.k v l.length (flat t l)
/-- A row that has a block of its own. -/
structure Lies (t : Ty α) (w : World) (g cap : Nat) (cur : List Value) (l : List α) : Prop where
  blk : Blk w g cur t.E
  le : l.length ≤ cap
  most : cap ≤ maxLen
  len : cur.length = cap * t.k
  head : cur.take (l.length * t.k) = flat t l
theorem Row.form {w : World} {base : Nat} {v : Value} {l : List α} (h : Row t w base v l) :
    (v = .slice none 0 0 ∧ l = []) ∨ ∃ g cap cur, v = .slice (some ⟨g, 0, none⟩) l.length cap ∧ base ≤ g ∧ Lies t w g cap cur l := by
  rcases h.2 with ⟨rfl, h0⟩ | ⟨g, cap, cur, rfl, h1, h2, h3, h4, h5, h6⟩
  · exact Or.inl ⟨rfl, List.length_eq_zero_iff.1 h0⟩
  · exact Or.inr ⟨g, cap, cur.toList, rfl, h1, ⟨by unfold Blk; simpa using h2, h3, h4, by simpa using h5, h6⟩⟩
theorem Lies.row {w : World} {g cap base : Nat} {cur : List Value} {l : List α} (h : Lies t w g cap cur l) (hb : base ≤ g) : Row t w base (.slice (some ⟨g, 0, none⟩) l.length cap) l :=
  ⟨flat_len t l, Or.inr ⟨g, cap, cur.toArray, rfl, hb, h.blk, h.le, h.most, by simpa using h.len, h.head⟩⟩
theorem Lies.cur_at {w : World} {g cap : Nat} {cur : List Value} {l : List α} (h : Lies t w g cap cur l) {j : Nat} (hj : j < l.length * t.k) : cur[j]? = (flat t l)[j]? := by
  rw [← h.head, List.getElem?_take, if_pos hj]
theorem Lies.cell {w : World} {g cap : Nat} {cur : List Value} {l : List α} (h : Lies t w g cap cur l) {i : Nat} {x : α} (hi : l[i]? = some x) {j : Nat} {u : Value} (hu : (t.enc x)[j]? = some u) : w.cell? ⟨g, i * t.k + j, none⟩ = some u := by
  have hj : j < t.k := by have := (List.getElem?_eq_some_iff.1 hu).1; rwa [t.hk] at this
  have hil := (List.getElem?_eq_some_iff.1 hi).1
  refine h.blk.cell ?_
  rw [h.cur_at ?_, flat_at t hi hj, hu]
  have : (i + 1) * t.k ≤ l.length * t.k := Nat.mul_le_mul_right _ hil
  rw [Nat.add_mul, Nat.one_mul] at this
  omega
theorem Lies.kept {w w' : World} {F : Nat → Prop} {g cap : Nat} {cur : List Value} {l : List α} (h : Lies t w g cap cur l) (k : Kept F w w') (hF : ¬ F g) : Lies t w' g cap cur l := ⟨k.blk h.blk hF, h.le, h.most, h.len, h.head⟩
theorem Row.kept {w w' : World} {F : Nat → Prop} {base : Nat} {v : Value} {l : List α} (h : Row t w base v l) (k : Kept F w w') (hF : ∀ g, v.ownBlock = some g → ¬ F g) : Row t w' base v l := by
  rcases h.form with ⟨rfl, rfl⟩ | ⟨g, cap, cur, rfl, h1, h2⟩
  · exact ⟨by simp [flat], Or.inl ⟨rfl, rfl⟩⟩
  · exact (h2.kept k (hF g rfl)).row h1
theorem Row.old {w w' : World} {base : Nat} {v : Value} {l : List α} (h : Row t w base v l) (k : Kept (fun _ => False) w w') : Row t w' base v l := h.kept k (fun _ _ f => f)
theorem Row.lt {w : World} {base : Nat} {v : Value} {l : List α} (h : Row t w base v l) : ∀ g, v.ownBlock = some g → base ≤ g ∧ g < w.heap.size := fun g hg => World.ownsRow.lt h g hg
theorem Row.base {w : World} {b b' : Nat} {v : Value} {l : List α} (h : Row t w b v l) (hb : ∀ g, v.ownBlock = some g → b' ≤ g) : Row t w b' v l := by
  rcases h.form with ⟨rfl, rfl⟩ | ⟨g, cap, cur, rfl, h1, h2⟩
  · exact ⟨by simp [flat], Or.inl ⟨rfl, rfl⟩⟩
  · exact h2.row (hb g rfl)
theorem Row.none (t : Ty α) (w : World) (b : Nat) : Row t w b (.slice none 0 0) [] := ⟨by simp [flat], Or.inl ⟨rfl, rfl⟩⟩
theorem Row.slice {w : World} {base : Nat} {v : Value} {l : List α} (h : Row t w base v l) : ∃ a c, v = .slice a l.length c ∧ l.length ≤ c ∧ c ≤ maxLen := by
  rcases h.form with ⟨rfl, rfl⟩ | ⟨g, cap, cur, rfl, h1, h2⟩
  · exact ⟨_, 0, rfl, Nat.le_refl _, by decide⟩
  · exact ⟨_, cap, rfl, h2.le, h2.most⟩
/-- What 'append' adds. -/
def Src (t : Ty α) (w : World) (v : Value) (K : List α) : Prop :=
  (K = [] ∧ v = .slice none 0 0) ∨ ∃ a c, v = .slice (some a) K.length c ∧ ∀ j u, (flat t K)[j]? = some u → w.cell? (a.add j) = some u
theorem Src.old {w w' : World} {v : Value} {K : List α} (h : Src t w v K) (hc : ∀ a u, w.cell? a = some u → w'.cell? a = some u) : Src t w' v K := by
  rcases h with h | ⟨a, c, rfl, h⟩
  · exact Or.inl h
  · exact Or.inr ⟨a, c, rfl, fun j u hj => hc _ _ (h j u hj)⟩
theorem src_blk {w : World} {g : Nat} {K : List α} (c : Nat) (h : Blk w g (flat t K) t.E) : Src t w (.slice (some ⟨g, 0, none⟩) K.length c) K :=
  Or.inr ⟨_, c, rfl, fun j u hj => by rw [Go.WideShapes.add_plain, Nat.zero_add]; exact h.cell hj⟩
/-- A part of a row. -/
theorem Lies.src {w : World} {g cap : Nat} {cur : List Value} {l : List α} (h : Lies t w g cap cur l) (i n c : Nat) (hn : i + n ≤ l.length) : Src t w (.slice (some ⟨g, i * t.k, none⟩) n c) ((l.drop i).take n) := by
  have hl : ((l.drop i).take n).length = n := by rw [List.length_take, List.length_drop]; omega
  refine Or.inr ⟨_, c, by rw [hl], fun j u hj => ?_⟩
  have hjl := (List.getElem?_eq_some_iff.1 hj).1
  rw [flat_len, hl] at hjl
  rw [Go.WideShapes.add_plain]
  refine h.blk.cell ?_
  have hm : (i + n) * t.k ≤ l.length * t.k := Nat.mul_le_mul_right _ hn
  rw [Nat.add_mul] at hm
  rw [h.cur_at (by omega)]
  have hq : j / t.k < n := Nat.div_lt_of_lt_mul (by rw [Nat.mul_comm]; exact hjl)
  have hr : j % t.k < t.k := Nat.mod_lt _ t.k0
  have hj2 : j = (j / t.k) * t.k + j % t.k := by rw [Nat.mul_comm]; exact (Nat.div_add_mod j t.k).symm
  have hx : ((l.drop i).take n)[j / t.k]? = some l[i + j / t.k] := by
    rw [List.getElem?_take, if_pos hq, List.getElem?_drop, List.getElem?_eq_getElem (by omega)]
  rw [hj2] at hj
  rw [flat_at t hx hr] at hj
  rw [hj2, show i * t.k + (j / t.k * t.k + j % t.k) = (i + j / t.k) * t.k + j % t.k by rw [Nat.add_mul]; omega, flat_at t (List.getElem?_eq_getElem (by omega)) hr]
  exact hj
/-- What an append leaves: a row that was there or is new. -/
structure Apd (t : Ty α) (w : World) (base : Nat) (v : Value) (l : List α) (v' : Value) (w' : World) : Prop where
  row : Row t w' base v' l
  kept : Kept (fun k => v.ownBlock = some k) w w'
  lies : ∀ g, v'.ownBlock = some g → v.ownBlock = some g ∨ w.heap.size ≤ g
theorem grown_kept {w w' : World} {row : Option Nat} (h : w.grownBy w' row) : Kept (fun k => row = some k) w w' := ⟨h.os, h.tape, h.output, h.size, fun k hk hr => h.block k hk (fun e => hr e.symm)⟩
theorem run_app {w : World} (base : Nat) {v v2 : Value} {K K2 : List α} (ty : TypeId) (h1 : Row t w base v K) (h2 : Src t w v2 K2) (hsm : K.length + K2.length ≤ 1000000) (hbase : base ≤ w.heap.size) :
    ∃ v' w', (Builtin.append_ #[t.L, t.L] ty #[v, v2]).run Tryz.prog w = .ok v' w' ∧ Apd t w base v (K ++ K2) v' w' := by
  obtain ⟨ti, hti, hz0, hz1, hz2⟩ := info_parts t.hI
  rcases h2 with ⟨rfl, rfl⟩ | ⟨a, c, rfl, hc⟩
  · have hr := run_append_owned_none (P := Tryz.prog) w base t.L ty t.E ti t.k t.hL hti v _ _ h1
    exact ⟨v, w, hr, ⟨by rw [List.append_nil]; exact h1, Kept.refl _ w, fun g hg => Or.inl hg⟩⟩
  · have hbb : (K.length + K2.length) * t.bz ≤ 1000000 * 128 := Nat.mul_le_mul hsm t.hb
    obtain ⟨v', w', hr, r2, r3, _, r5⟩ := run_append_own_at (P := Tryz.prog) w base t.L ty t.E ti _ t.k t.bz t.hL hti hz0 hz1 hz2 t.hz t.k0 v _ _ h1 a K2.length c _ (flat_len t K2) hc (flat_one t) (by unfold maxLen; omega) (by omega) hbase
    refine ⟨v', w', hr, ⟨?_, grown_kept r3, fun g hg => ?_⟩⟩
    · unfold Row
      rw [List.length_append, flat_append]
      exact r2
    · rcases r5 with r5 | r5
      · left; rw [← r5]; exact hg
      · right
        rw [r5] at hg
        cases hg
        exact Nat.le_refl _
theorem wp_app {w : World} {o : Oper} {a : Act} {K0 : Act → World → Prop} {Q : Exit → Act → World → Prop} (t : Ty α) (s x : Operand)
    (ho : o.op = .call { callee := .builtin .append, args := #[s, x], argTypes := #[t.L, t.L] })
    (base : Nat) {v v2 : Value} {K K2 : List α} (hs : a.eval s = v) (h1 : Row t w base v K) (hx : a.eval x = v2) (h2 : Src t w v2 K2) (hsm : K.length + K2.length ≤ 1000000) (hbase : base ≤ w.heap.size)
    (h : ∀ v' w', Apd t w base v (K ++ K2) v' w' → K0 (a.put o.dst v') w') : o.wp Tryz.prog a w K0 Q := by
  obtain ⟨v', w', hr, hA⟩ := run_app base o.type h1 h2 hsm hbase
  unfold Oper.wp execOp
  simp only [ho, resolve, invoke, builtin, Sem.run_bind, Sem.run_pure, Result.andThen_ok, List.map_toArray, List.map_cons, List.map_nil, hs, hx, hr]
  exact h v' w' hA
/-- In a plain region. -/
theorem wpList_app {w : World} {ops : Array Oper} {rest : List Oper} {o : Oper} {a : Act} {Q : Exit → Act → World → Prop} (t : Ty α) (hgd : o.guard = none) (s x : Operand)
    (ho : o.op = .call { callee := .builtin .append, args := #[s, x], argTypes := #[t.L, t.L] })
    (base : Nat) {v v2 : Value} {K K2 : List α} (hs : a.eval s = v) (h1 : Row t w base v K) (hx : a.eval x = v2) (h2 : Src t w v2 K2) (hsm : K.length + K2.length ≤ 1000000) (hbase : base ≤ w.heap.size)
    (h : ∀ v' w', Apd t w base v (K ++ K2) v' w' → wpList Tryz.prog ops Q rest (a.put o.dst v') w') : wpList Tryz.prog ops Q (o :: rest) a w :=
  wpList_plain hgd fun _ hK => wp_app t s x ho base hs h1 hx h2 hsm hbase fun v' w' hA => hK _ _ (h v' w' hA)
/-- In a region that draws. -/
theorem step_app {ops : Array Oper} {o : Oper} {a : Act} {w : World} {K0 : Act → World → Prop} {Q : Exit → Act → World → Prop} {E : Prop} (t : Ty α)
    (hg : o.guard = none) (s x : Operand) (ho : o.op = .call { callee := .builtin .append, args := #[s, x], argTypes := #[t.L, t.L] })
    (base : Nat) {v v2 : Value} {K K2 : List α} (hs : a.eval s = v) (h1 : Row t w base v K) (hx : a.eval x = v2) (h2 : Src t w v2 K2) (hsm : K.length + K2.length ≤ 1000000) (hbase : base ≤ w.heap.size)
    (h : ∀ v' w', Apd t w base v (K ++ K2) v' w' → K0 (a.put o.dst v') w') :
    if Region.wanted o (yielded ops a.tmps) = true then Oper.wp Tryz.prog o a w K0 Q else E := by
  have hw : Region.wanted o (yielded ops a.tmps) = true := by simp [Region.wanted, hg]
  rw [if_pos hw]
  exact wp_app t s x ho base hs h1 hx h2 hsm hbase h
/-- A row made with room for n. -/
theorem wpList_make {w : World} {ops : Array Oper} {rest : List Oper} {o : Oper} {a : Act} {Q : Exit → Act → World → Prop} (t : Ty α) (hg : o.guard = none) (l c : Operand) (hop : o.op = Op.makeSlice t.L l c)
    (C : Int) (n : Nat) (hl : a.eval l = .int .i64 0) (hc : a.eval c = .int .i64 C) (hC : C = (n : Int)) (hn : n ≤ 1000000)
    (hK : ∀ w', Row t w' w.heap.size (.slice (some ⟨w.heap.size, 0, none⟩) 0 n) [] → Kept (fun _ => False) w w' → wpList Tryz.prog ops Q rest (a.put o.dst (.slice (some ⟨w.heap.size, 0, none⟩) 0 n)) w') :
    wpList Tryz.prog ops Q (o :: rest) a w := by
  obtain ⟨ti, hti, hz0, hz1, hz2⟩ := info_parts t.hI
  have hbb : t.bz * n ≤ 128 * 1000000 := Nat.mul_le_mul t.hb hn
  refine wpList_make_own (P := Tryz.prog) w hg l c t.L hop w.heap.size t.E ti t.z t.k t.hL hti hz0 hz1 .i64 .i64 C n hl hc hC (by rw [hz2]; omega) (by unfold maxLen; omega) (Nat.le_refl _) ?_
  intro w' hR hG
  exact hK w' hR ((grown_kept hG).mono (fun _ _ e => by cases e))
end Go.Proofs.YtjjamooihddkgaaGreat.Rw

/- Rows of elements of whatever cells that begin anywhere in their block: append, copy, cut. Conditions: each theorem's own. -/
namespace Go.Proofs.YtjjamooihddkgaaGreat.Ro
open Go.RowKit Hp Rw
variable {α : Type} {t : Ty α}
theorem flat_take (t : Ty α) : ∀ (l : List α) (k : Nat), (flat t l).take (k * t.k) = flat t (l.take k)
  | [], k => by simp [flat]
  | x :: l, 0 => by simp [flat]
  | x :: l, k + 1 => by
    have := flat_take t l k
    unfold flat at this ⊢
    have e : (k + 1) * t.k = t.k + k * t.k := by rw [Nat.add_mul, Nat.one_mul, Nat.add_comm]
    rw [List.take_succ_cons, List.flatMap_cons, List.flatMap_cons, ← this, e, List.take_append, List.take_of_length_le (by rw [t.hk]; omega), t.hk, Nat.add_sub_cancel_left]
theorem flat_drop (t : Ty α) : ∀ (l : List α) (k : Nat), (flat t l).drop (k * t.k) = flat t (l.drop k)
  | [], k => by simp [flat]
  | x :: l, 0 => by simp [flat]
  | x :: l, k + 1 => by
    have := flat_drop t l k
    unfold flat at this ⊢
    have e : (k + 1) * t.k = t.k + k * t.k := by rw [Nat.add_mul, Nat.one_mul, Nat.add_comm]
    rw [List.drop_succ_cons, List.flatMap_cons, ← this, e, ← List.drop_drop]
    congr 1
    rw [List.drop_append_of_le_length (by rw [t.hk]; omega), List.drop_of_length_le (by rw [t.hk]; omega), List.nil_append]
theorem drop_splice {L cs : List Value} {o s : Nat} (hs : s ≤ o) : (splice L o cs).drop s = splice (L.drop s) (o - s) cs ∨ L.length < o := by
  rcases Nat.lt_or_ge L.length o with h | h
  · exact Or.inr h
  · left
    unfold splice
    rw [List.drop_append_of_le_length (by rw [List.length_take]; omega), List.drop_take, List.drop_drop]
    congr 3
    omega
theorem splice_take_end {L cs : List Value} {o : Nat} (ho : o ≤ L.length) (k : Nat) (hk : k = o + cs.length) : (splice L o cs).take k = L.take o ++ cs := by
  unfold splice
  have : (L.take o ++ cs).length = k := by rw [List.length_append, List.length_take]; omega
  rw [← List.append_assoc, ← this, List.take_left]
theorem splice_take_more {L cs : List Value} {o : Nat} (ho : o ≤ L.length) (k m : Nat) (hk : k = o + cs.length + m) : (splice L o cs).take k = L.take o ++ (cs ++ (L.drop (o + cs.length)).take m) := by
  unfold splice
  have e : (L.take o).length = o := by rw [List.length_take]; omega
  rw [List.take_append, List.take_of_length_le (l := L.take o) (by rw [e]; omega), e, List.take_append, List.take_of_length_le (l := cs) (by omega)]
  congr 3
  omega
theorem splice_take_le {L cs : List Value} {o : Nat} (ho : o ≤ L.length) {k : Nat} (hk : k ≤ o) : (splice L o cs).take k = L.take k := by
  unfold splice
  have e : (L.take o).length = o := by rw [List.length_take]; omega
  rw [List.take_append_of_le_length (by omega), List.take_take]
  congr 1; omega
theorem splice_mid {L cs : List Value} {o : Nat} (ho : o ≤ L.length) (k : Nat) (hk : k = cs.length) : ((splice L o cs).drop o).take k = cs := by
  unfold splice
  have e : (L.take o).length = o := by rw [List.length_take]; omega
  subst hk
  rw [List.drop_append_of_le_length (by omega), List.drop_of_length_le (by omega), List.nil_append, List.take_left]
/-- A row that begins at cell o of its block. -/
structure Lies (t : Ty α) (w : World) (g o cap : Nat) (cur : List Value) (l : List α) : Prop where
  blk : Blk w g cur t.E
  le : l.length ≤ cap
  most : cap ≤ maxLen
  fit : o + cap * t.k ≤ cur.length
  head : (cur.drop o).take (l.length * t.k) = flat t l
/-- A row. -/
def Row (t : Ty α) (w : World) (v : Value) (l : List α) : Prop :=
  (v = .slice none 0 0 ∧ l = []) ∨ ∃ g o cap cur, v = .slice (some ⟨g, o, none⟩) l.length cap ∧ Lies t w g o cap cur l
theorem Row.none (t : Ty α) (w : World) : Row t w (.slice none 0 0) [] := Or.inl ⟨rfl, rfl⟩
theorem Lies.row {w : World} {g o cap : Nat} {cur : List Value} {l : List α} (h : Lies t w g o cap cur l) : Row t w (.slice (some ⟨g, o, none⟩) l.length cap) l := Or.inr ⟨g, o, cap, cur, rfl, h⟩
theorem Lies.cur_at {w : World} {g o cap : Nat} {cur : List Value} {l : List α} (h : Lies t w g o cap cur l) {j : Nat} (hj : j < l.length * t.k) : cur[o + j]? = (flat t l)[j]? := by
  rw [← h.head, List.getElem?_take, if_pos hj, List.getElem?_drop]
theorem Lies.cell {w : World} {g o cap : Nat} {cur : List Value} {l : List α} (h : Lies t w g o cap cur l) {i : Nat} {x : α} (hi : l[i]? = some x) {j : Nat} {u : Value} (hu : (t.enc x)[j]? = some u) : w.cell? ⟨g, o + i * t.k + j, none⟩ = some u := by
  have hj : j < t.k := by have := (List.getElem?_eq_some_iff.1 hu).1; rwa [t.hk] at this
  have hil := (List.getElem?_eq_some_iff.1 hi).1
  refine h.blk.cell ?_
  rw [Nat.add_assoc, h.cur_at ?_, flat_at t hi hj, hu]
  have : (i + 1) * t.k ≤ l.length * t.k := Nat.mul_le_mul_right _ hil
  rw [Nat.add_mul, Nat.one_mul] at this
  omega
theorem Lies.kept {w w' : World} {F : Nat → Prop} {g o cap : Nat} {cur : List Value} {l : List α} (h : Lies t w g o cap cur l) (k : Kept F w w') (hF : ¬ F g) : Lies t w' g o cap cur l := ⟨k.blk h.blk hF, h.le, h.most, h.fit, h.head⟩
theorem Lies.drew {w : World} {g o cap : Nat} {cur : List Value} {l : List α} (h : Lies t w g o cap cur l) : Lies t w.drew g o cap cur l := ⟨h.blk.drew, h.le, h.most, h.fit, h.head⟩
theorem Row.kept {w w' : World} {F : Nat → Prop} {v : Value} {l : List α} (h : Row t w v l) (k : Kept F w w') (hF : ∀ g, v.ownBlock = some g → ¬ F g) : Row t w' v l := by
  rcases h with h | ⟨g, o, cap, cur, rfl, h⟩
  · exact Or.inl h
  · exact (h.kept k (hF g rfl)).row
theorem Row.old {w w' : World} {v : Value} {l : List α} (h : Row t w v l) (k : Kept (fun _ => False) w w') : Row t w' v l := h.kept k (fun _ _ f => f)
theorem Row.lt {w : World} {v : Value} {l : List α} (h : Row t w v l) : ∀ g, v.ownBlock = some g → g < w.heap.size := by
  rcases h with ⟨rfl, _⟩ | ⟨g, o, cap, cur, rfl, h⟩
  · intro g e; cases e
  · intro g' e; cases e; exact h.blk.lt
theorem Row.slice {w : World} {v : Value} {l : List α} (h : Row t w v l) : ∃ a c, v = .slice a l.length c ∧ l.length ≤ c ∧ c ≤ maxLen := by
  rcases h with ⟨rfl, rfl⟩ | ⟨g, o, cap, cur, rfl, h2⟩
  · exact ⟨_, 0, rfl, Nat.le_refl _, by decide⟩
  · exact ⟨_, cap, rfl, h2.le, h2.most⟩
/-- A row of its own type that begins its block. -/
theorem of_rw {w : World} {base : Nat} {v : Value} {l : List α} (h : Rw.Row t w base v l) : Row t w v l := by
  rcases h.form with ⟨rfl, rfl⟩ | ⟨g, cap, cur, rfl, _, h2⟩
  · exact Or.inl ⟨rfl, rfl⟩
  · exact Or.inr ⟨g, 0, cap, cur, rfl, ⟨h2.blk, h2.le, h2.most, by rw [h2.len]; omega, by rw [List.drop_zero]; exact h2.head⟩⟩
/-- A part of a row. -/
theorem Lies.part {w : World} {g o cap : Nat} {cur : List Value} {l : List α} (h : Lies t w g o cap cur l) (i n : Nat) (hn : i + n ≤ l.length) : ∀ j u, (flat t ((l.drop i).take n))[j]? = some u → w.cell? ((⟨g, o + i * t.k, none⟩ : Addr).add j) = some u := by
  intro j u hj
  have hjl := (List.getElem?_eq_some_iff.1 hj).1
  rw [flat_len, List.length_take, List.length_drop, Nat.min_eq_left (by omega)] at hjl
  have hm : (i + n) * t.k ≤ l.length * t.k := Nat.mul_le_mul_right _ hn
  rw [Nat.add_mul] at hm
  rw [← flat_take, List.getElem?_take, if_pos hjl, ← flat_drop, List.getElem?_drop] at hj
  rw [Go.WideShapes.add_plain, Nat.add_assoc]
  refine h.blk.cell ?_
  rw [h.cur_at (by omega)]
  exact hj
theorem Lies.src {w : World} {g o cap : Nat} {cur : List Value} {l : List α} (h : Lies t w g o cap cur l) (i n c : Nat) (hn : i + n ≤ l.length) : Src t w (.slice (some ⟨g, o + i * t.k, none⟩) n c) ((l.drop i).take n) := by
  have hl : ((l.drop i).take n).length = n := by rw [List.length_take, List.length_drop]; omega
  exact Or.inr ⟨_, c, by rw [hl], h.part i n hn⟩
theorem Row.src {w : World} {v : Value} {l : List α} (h : Row t w v l) : Src t w v l := by
  rcases h with ⟨rfl, rfl⟩ | ⟨g, o, cap, cur, rfl, h2⟩
  · exact Or.inl ⟨rfl, rfl⟩
  · have := h2.src 0 l.length cap (by omega)
    rw [List.drop_zero, List.take_length, Nat.zero_mul, Nat.add_zero] at this
    exact this
/-- Without its first ones. -/
theorem Lies.cut {w : World} {g o cap : Nat} {cur : List Value} {l : List α} (h : Lies t w g o cap cur l) {n : Nat} (hn : n ≤ l.length) : Row t w (.slice (some ⟨g, o + n * t.k, none⟩) (l.length - n) (cap - n)) (l.drop n) := by
  have hl : (l.drop n).length = l.length - n := List.length_drop
  have hc := h.le
  have hf := h.fit
  have hnk : (n + (cap - n)) * t.k = cap * t.k := by rw [Nat.add_sub_cancel' (by omega)]
  rw [Nat.add_mul] at hnk
  refine Or.inr ⟨g, o + n * t.k, cap - n, cur, by rw [hl], ⟨h.blk, by omega, by have := h.most; omega, by omega, ?_⟩⟩
  have e : (n + (l.length - n)) * t.k = l.length * t.k := by rw [Nat.add_sub_cancel' hn]
  rw [Nat.add_mul] at e
  rw [hl, ← List.drop_drop, ← flat_drop, ← h.head, List.drop_take, show l.length * t.k - n * t.k = (l.length - n) * t.k by omega]
/-- Cut at its room's end: none is left. -/
theorem Lies.cut_all {w : World} {g o cap : Nat} {cur : List Value} {l : List α} (h : Lies t w g o cap cur l) : Row t w (.slice (some ⟨g, o, none⟩) 0 0) (l.drop l.length) := by
  have hf := h.fit
  rw [List.drop_length]
  exact Or.inr ⟨g, o, 0, cur, rfl, ⟨h.blk, Nat.le_refl _, by decide, by omega, by simp [flat]⟩⟩
theorem row_set {w : World} {g : Nat} {cur : List Value} {T : TypeId} (hB : Blk w g cur T) (cs : List Value) : Blk (w.setRow g cs.toArray) g cs T ∧ Kept (fun k => k = g) w (w.setRow g cs.toArray) :=
  ⟨setRow_heap w g _ _ _ _ hB, ⟨rfl, rfl, rfl, by simp [World.setRow], fun k _ hk => setRow_other w g k _ (fun e => hk e)⟩⟩
theorem run_cp {w : World} {g : Nat} {cur : List Value} (t : Ty α) (hB : Blk w g cur t.E) (ty : TypeId) (o dLen dCap : Nat) (a : Addr) (sLen sCap n : Nat) (cs : List Value) (hn : n = Nat.min sLen dLen) (hl : cs.length = n * t.k)
    (hsrc : ∀ j v, cs[j]? = some v → w.cell? (a.add j) = some v) (hfit : o + cs.length ≤ cur.length) (h1 : ∀ v ∈ cs, v.oneCell' = true) :
    ∃ w', (Builtin.copy_ #[t.L, t.L] ty #[.slice (some ⟨g, o, none⟩) dLen dCap, .slice (some a) sLen sCap]).run Tryz.prog w = .ok (goInt n) w' ∧ Blk w' g (splice cur o cs) t.E ∧ Kept (fun k => k = g) w w' := by
  obtain ⟨i, hi, hz0, hz1, hz2⟩ := info_parts t.hI
  have hld := run_loadCells_list (P := Tryz.prog) w a cs hsrc
  have hst := run_storeCells_at Tryz.prog g o t.E cs 0 cur.toArray w hB (by simpa using hfit) h1
  simp only [Nat.add_zero] at hst
  have hs := row_set hB (splice cur o cs)
  refine ⟨_, ?_, hs.1, hs.2⟩
  have e : Nat.min sLen dLen * t.k = cs.length := by rw [hl, hn]
  have e2 : cur.toArray.toList.take o ++ cs ++ cur.toArray.toList.drop (o + cs.length) = splice cur o cs := by simp [splice]
  rw [e2] at hst
  simp [Builtin.copy_, run_underlying t.hL, Builtin.lenOf, Builtin.firstCells, sizeOf, typeInfo, hi, hz1, e, hld, hst, hn]
/-- So many zero cells. -/
def zeros (t : Ty α) (n : Nat) : List Value := (Builtin.zeroCells t.z.cells n).toList
theorem zeros_len (t : Ty α) (n : Nat) : (zeros t n).length = n * t.k := by unfold zeros; rw [Array.length_toList, size_zeroCells, t.hz]
/-- What an append leaves: a row that was there or is new. -/
structure Apd (t : Ty α) (w : World) (v : Value) (l : List α) (v' : Value) (w' : World) : Prop where
  row : Row t w' v' l
  kept : Kept (fun k => v.ownBlock = some k) w w'
  lies : ∀ g, v'.ownBlock = some g → v.ownBlock = some g ∨ w.heap.size ≤ g
/-- In a new block. -/
theorem grown {w : World} {v : Value} (t : Ty α) (l : List α) {c : Nat} (h : l.length ≤ c) (hM : c ≤ maxLen) : Apd t w v l (.slice (some ⟨w.heap.size, 0, none⟩) l.length c) (w.drew.alloc (.cells (flat t l ++ zeros t (c - l.length)).toArray t.E)) := by
  have hB := Blk.new w.drew (flat t l ++ zeros t (c - l.length)) t.E
  have e : (l.length + (c - l.length)) * t.k = c * t.k := by rw [Nat.add_sub_cancel' h]
  rw [Nat.add_mul] at e
  refine ⟨Or.inr ⟨w.heap.size, 0, c, _, rfl, ⟨hB, h, hM, ?_, ?_⟩⟩, ((Kept.refl (fun _ => False) w).drew.alloc _).mono (fun _ _ f => f.elim), fun g hg => ?_⟩
  · rw [List.length_append, flat_len, zeros_len]; omega
  · rw [List.drop_zero, ← flat_len, List.take_left]
  · cases hg; exact Or.inr (Nat.le_refl _)
theorem run_room {w : World} {g o cap : Nat} {cur : List Value} {l K : List α} (h : Lies t w g o cap cur l) (ty : TypeId) (a : Addr) (c : Nat) (hc : ∀ j u, (flat t K)[j]? = some u → w.cell? (a.add j) = some u) (hr : l.length + K.length ≤ cap) :
    ∃ w', (Builtin.append_ #[t.L, t.L] ty #[.slice (some ⟨g, o, none⟩) l.length cap, .slice (some a) K.length c]).run Tryz.prog w = .ok (.slice (some ⟨g, o, none⟩) (l.length + K.length) cap) w' ∧ Blk w' g (splice cur (o + l.length * t.k) (flat t K)) t.E ∧ Kept (fun k => k = g) w w' := by
  obtain ⟨i, hi, hz0, hz1, hz2⟩ := info_parts t.hI
  have hk : (l.length + K.length) * t.k ≤ cap * t.k := Nat.mul_le_mul_right _ hr
  rw [Nat.add_mul] at hk
  have hf := h.fit
  have hfc := run_firstCells_some (P := Tryz.prog) w t.k K.length a K.length c (flat t K) (flat_len t K) hc
  have hst := run_storeCells_at Tryz.prog g (o + l.length * t.k) t.E (flat t K) 0 cur.toArray w h.blk (by rw [flat_len, List.size_toArray]; omega) (flat_one t)
  simp only [Nat.add_zero] at hst
  have hs := row_set h.blk (splice cur (o + l.length * t.k) (flat t K))
  refine ⟨_, ?_, hs.1, hs.2⟩
  have e2 : cur.toArray.toList.take (o + l.length * t.k) ++ flat t K ++ cur.toArray.toList.drop (o + l.length * t.k + (flat t K).length) = splice cur (o + l.length * t.k) (flat t K) := by simp [splice]
  rw [e2] at hst
  simp [Builtin.append_, run_underlying t.hL, sizeOf, typeInfo, hi, Builtin.lenOf, hr, hfc, Go.WideShapes.add_plain, hz1, hst]
theorem room_lies {w w' : World} {g o cap : Nat} {cur : List Value} {l K : List α} (h : Lies t w g o cap cur l) (hr : l.length + K.length ≤ cap) (hB : Blk w' g (splice cur (o + l.length * t.k) (flat t K)) t.E) : Lies t w' g o cap (splice cur (o + l.length * t.k) (flat t K)) (l ++ K) := by
  have hk : (l.length + K.length) * t.k ≤ cap * t.k := Nat.mul_le_mul_right _ hr
  rw [Nat.add_mul] at hk
  have hf := h.fit
  have hfl := flat_len t K
  refine ⟨hB, by rw [List.length_append]; exact hr, h.most, by rw [length_splice _ _ _ (by omega)]; exact hf, ?_⟩
  rw [(drop_splice (Nat.le_add_right o (l.length * t.k))).resolve_right (by omega), Nat.add_sub_cancel_left, List.length_append, Nat.add_mul, splice_take_end (by rw [List.length_drop]; omega) _ (by omega), h.head, flat_append]
theorem run_app {w : World} {v v2 : Value} {K K2 : List α} (ty : TypeId) (h1 : Row t w v K) (h2 : Src t w v2 K2) (hsm : K.length + K2.length ≤ 1000000) :
    ∃ v' w', (Builtin.append_ #[t.L, t.L] ty #[v, v2]).run Tryz.prog w = .ok v' w' ∧ Apd t w v (K ++ K2) v' w' := by
  obtain ⟨ti, hti, hz0, hz1, hz2⟩ := info_parts t.hI
  have hbb : (K.length + K2.length) * t.bz ≤ 1000000 * 128 := Nat.mul_le_mul hsm t.hb
  have nothing : ∀ v2, (Builtin.lenOf v2).run Tryz.prog w = .ok 0 w → (Builtin.firstCells ti.size 0 v2).run Tryz.prog w = .ok #[] w → (Builtin.append_ #[t.L, t.L] ty #[v, v2]).run Tryz.prog w = .ok v w := by
    intro v2 e1 e2
    rcases h1 with ⟨rfl, rfl⟩ | ⟨g, o, cap, cur, rfl, h1⟩
    · simp [Builtin.append_, run_underlying t.hL, sizeOf, typeInfo, hti, e1, e2]
    · have := h1.le
      simp [Builtin.append_, run_underlying t.hL, sizeOf, typeInfo, hti, e1, e2, this, storeCells]
  rcases h2 with ⟨rfl, rfl⟩ | ⟨a, c, rfl, hc⟩
  · exact ⟨v, w, nothing _ (by simp [Builtin.lenOf]) (by simp [Builtin.firstCells]), ⟨by rw [List.append_nil]; exact h1, Kept.refl _ w, fun g hg => Or.inl hg⟩⟩
  · rcases h1 with ⟨rfl, rfl⟩ | ⟨g, o, cap, cur, rfl, h1⟩
    · by_cases hm : K2.length = 0
      · obtain rfl := List.length_eq_zero_iff.1 hm
        refine ⟨_, w, nothing _ (by simp [Builtin.lenOf]) (by simp [Builtin.firstCells, loadCells, loadCellsFrom]), ⟨Or.inl ⟨rfl, rfl⟩, Kept.refl _ w, fun g hg => Or.inl hg⟩⟩
      · have hr := run_append_nil (P := Tryz.prog) w t.L ty t.E ti t.z t.hL hti hz0 a K2.length c (flat t K2) (by rw [hz1]; exact flat_len t K2) hc (by omega) (by simp at hsm; omega) (by rw [hz2]; simp at hbb; omega)
        refine ⟨_, _, hr, ?_⟩
        have hg := grown (w := w) (v := .slice none 0 0) t K2 (grownCap_ge w K2.length 0 t.E) (grownCap_le_maxLen w K2.length 0 t.E (by simp at hsm; unfold maxLen; omega))
        have e : (flat t K2).toArray ++ Builtin.zeroCells t.z.cells (grownCap w K2.length 0 t.E - K2.length) = (flat t K2 ++ zeros t (grownCap w K2.length 0 t.E - K2.length)).toArray := by apply Array.ext'; simp [zeros]
        rw [e]
        exact hg
    · rcases Nat.lt_or_ge cap (K.length + K2.length) with hg | hg
      · have hr := run_append_grow (P := Tryz.prog) w t.L ty t.E ti t.z t.hL hti hz0 ⟨g, o, none⟩ K.length cap (flat t K) (by rw [hz1]; exact flat_len t K)
          (fun j u hj => by
            have := h1.part 0 K.length (by omega) j u
            rw [List.drop_zero, List.take_length, Nat.zero_mul, Nat.add_zero] at this
            exact this hj)
          a K2.length c (flat t K2) (by rw [hz1]; exact flat_len t K2) hc hg (by omega) (growslice_fits hg (by rw [hz2]; omega))
        refine ⟨_, _, hr, ?_⟩
        have hl : (K ++ K2).length = K.length + K2.length := List.length_append
        have hgr := grown (w := w) (v := .slice (some ⟨g, o, none⟩) K.length cap) t (K ++ K2) (c := grownCap w (K.length + K2.length) cap t.E) (by rw [hl]; exact grownCap_ge w _ cap t.E) (grownCap_le_maxLen w _ cap t.E (by unfold maxLen; omega))
        rw [hl, flat_append] at hgr
        have e : (flat t K).toArray ++ (flat t K2).toArray ++ Builtin.zeroCells t.z.cells (grownCap w (K.length + K2.length) cap t.E - (K.length + K2.length)) = (flat t K ++ flat t K2 ++ zeros t (grownCap w (K.length + K2.length) cap t.E - (K.length + K2.length))).toArray := by apply Array.ext'; simp [zeros]
        rw [e]
        exact hgr
      · obtain ⟨w', hr, hB, hk⟩ := run_room h1 ty a c hc hg
        have hL := room_lies h1 hg hB
        have hrow := hL.row
        rw [List.length_append] at hrow
        exact ⟨_, w', hr, ⟨hrow, hk.mono (fun k _ e => by rw [e]; rfl), fun q hq => by cases hq; exact Or.inl rfl⟩⟩
theorem wp_app {w : World} {o : Oper} {a : Act} {K0 : Act → World → Prop} {Q : Exit → Act → World → Prop} (t : Ty α) (s x : Operand)
    (ho : o.op = .call { callee := .builtin .append, args := #[s, x], argTypes := #[t.L, t.L] })
    {v v2 : Value} {K K2 : List α} (hs : a.eval s = v) (h1 : Row t w v K) (hx : a.eval x = v2) (h2 : Src t w v2 K2) (hsm : K.length + K2.length ≤ 1000000)
    (h : ∀ v' w', Apd t w v (K ++ K2) v' w' → K0 (a.put o.dst v') w') : o.wp Tryz.prog a w K0 Q := by
  obtain ⟨v', w', hr, hA⟩ := run_app o.type h1 h2 hsm
  unfold Oper.wp execOp
  simp only [ho, resolve, invoke, builtin, Sem.run_bind, Sem.run_pure, Result.andThen_ok, List.map_toArray, List.map_cons, List.map_nil, hs, hx, hr]
  exact h v' w' hA
/-- In a plain region. -/
theorem wpList_app {w : World} {ops : Array Oper} {rest : List Oper} {o : Oper} {a : Act} {Q : Exit → Act → World → Prop} (t : Ty α) (hgd : o.guard = none) (s x : Operand)
    (ho : o.op = .call { callee := .builtin .append, args := #[s, x], argTypes := #[t.L, t.L] })
    {v v2 : Value} {K K2 : List α} (hs : a.eval s = v) (h1 : Row t w v K) (hx : a.eval x = v2) (h2 : Src t w v2 K2) (hsm : K.length + K2.length ≤ 1000000)
    (h : ∀ v' w', Apd t w v (K ++ K2) v' w' → wpList Tryz.prog ops Q rest (a.put o.dst v') w') : wpList Tryz.prog ops Q (o :: rest) a w :=
  wpList_plain hgd fun _ hK => wp_app t s x ho hs h1 hx h2 hsm fun v' w' hA => hK _ _ (h v' w' hA)
/-- In a region that draws. -/
theorem step_app {ops : Array Oper} {o : Oper} {a : Act} {w : World} {K0 : Act → World → Prop} {Q : Exit → Act → World → Prop} {E : Prop} (t : Ty α)
    (hg : o.guard = none) (s x : Operand) (ho : o.op = .call { callee := .builtin .append, args := #[s, x], argTypes := #[t.L, t.L] })
    {v v2 : Value} {K K2 : List α} (hs : a.eval s = v) (h1 : Row t w v K) (hx : a.eval x = v2) (h2 : Src t w v2 K2) (hsm : K.length + K2.length ≤ 1000000)
    (h : ∀ v' w', Apd t w v (K ++ K2) v' w' → K0 (a.put o.dst v') w') :
    if Region.wanted o (yielded ops a.tmps) = true then Oper.wp Tryz.prog o a w K0 Q else E := by
  have hw : Region.wanted o (yielded ops a.tmps) = true := by simp [Region.wanted, hg]
  rw [if_pos hw]
  exact wp_app t s x ho hs h1 hx h2 hsm h
theorem wp_copy_run {w : World} {o : Oper} {a : Act} {K : Act → World → Prop} {Q : Exit → Act → World → Prop} (d s : Operand) (t t' : TypeId)
    (ho : o.op = .call { callee := .builtin .copy, args := #[d, s], argTypes := #[t, t'] }) {v u : Value} (hd : a.eval d = v) (hs : a.eval s = u) {v' : Value} {w' : World}
    (hr : (Builtin.copy_ #[t, t'] o.type #[v, u]).run Tryz.prog w = .ok v' w') (h : K (a.put o.dst v') w') : o.wp Tryz.prog a w K Q := by
  unfold Oper.wp execOp
  simp only [ho, resolve, invoke, builtin, Sem.run_bind, Sem.run_pure, Result.andThen_ok, List.map_toArray, List.map_cons, List.map_nil, hd, hs, hr]
  exact h
theorem wpList_copy_run {w : World} {ops : Array Oper} {rest : List Oper} {o : Oper} {a : Act} {Q : Exit → Act → World → Prop} (hgd : o.guard = none) (d s : Operand) (t t' : TypeId)
    (ho : o.op = .call { callee := .builtin .copy, args := #[d, s], argTypes := #[t, t'] }) {v u : Value} (hd : a.eval d = v) (hs : a.eval s = u) {v' : Value} {w' : World}
    (hr : (Builtin.copy_ #[t, t'] o.type #[v, u]).run Tryz.prog w = .ok v' w') (h : wpList Tryz.prog ops Q rest (a.put o.dst v') w') : wpList Tryz.prog ops Q (o :: rest) a w :=
  wpList_plain hgd fun _ hK => wp_copy_run d s t t' ho hd hs hr (hK _ _ h)
theorem step_copy_run {ops : Array Oper} {o : Oper} {a : Act} {w : World} {K : Act → World → Prop} {Q : Exit → Act → World → Prop} {E : Prop}
    (hg : o.guard = none) (d x : Operand) (dT sT : TypeId) (hop : o.op = Op.call { callee := Callee.builtin Builtin.copy, args := #[d, x], argTypes := #[dT, sT] })
    {v u : Value} (hd : a.eval d = v) (hx : a.eval x = u) {v' : Value} {w' : World} (hr : (Builtin.copy_ #[dT, sT] o.type #[v, u]).run Tryz.prog w = .ok v' w') (hK : K (a.put o.dst v') w') :
    if Region.wanted o (yielded ops a.tmps) = true then Oper.wp Tryz.prog o a w K Q else E := by
  have hw : Region.wanted o (yielded ops a.tmps) = true := by simp [Region.wanted, hg]
  rw [if_pos hw]
  exact wp_copy_run d x dT sT hop hd hx hr hK
/-- 'append(s[:i], make([]T, m)...)' where it must grow. -/
theorem run_zeros {w : World} {g o cap : Nat} {cur : List Value} {l : List α} (h : Lies t w g o cap cur l) (T ty : TypeId) (hT : Tryz.prog.underlying T = some (.int .i64)) (i m : Nat) (hi : i ≤ l.length) (hg : cap < i + m) (hsm : i + m ≤ 1000000) (hkb : 0 < t.k) :
    ∃ c' r, (Builtin.append_ #[t.L, T] ty #[.slice (some ⟨g, o, none⟩) i cap, .int .i64 (m : Int)]).run Tryz.prog w =
      .ok (.slice (some ⟨w.heap.size, 0, none⟩) (i + m) c') (w.drew.alloc (.cells (flat t (l.take i) ++ (zeros t m ++ zeros t r)).toArray t.E)) ∧ i + m + r = c' ∧ c' ≤ maxLen := by
  obtain ⟨ti, hti, hz0, hz1, hz2⟩ := info_parts t.hI
  have hge := grownCap_ge w (i + m) cap t.E
  refine ⟨grownCap w (i + m) cap t.E, grownCap w (i + m) cap t.E - (i + m), ?_, by omega, grownCap_le_maxLen w (i + m) cap _ (by unfold maxLen; omega)⟩
  have hbb : (i + m) * t.bz ≤ 1000000 * 128 := Nat.mul_le_mul hsm t.hb
  have hbb2 : m * t.bz ≤ (i + m) * t.bz := Nat.mul_le_mul_right _ (by omega)
  have hw : IntKind.i64.wrap (m : Int) = m := by rw [IntKind.wrap_i64]; omega
  have hneg : ¬ ((m : Int) < 0) := by omega
  have hm : 0 < m := by have := h.le; omega
  have hns : ¬ (m * t.k = 0) := Nat.ne_of_gt (Nat.mul_pos hm hkb)
  have hn : ¬ (i + m ≤ cap) := by omega
  have h63' : ¬ (9223372036854775807 < ((i : Int) + (m : Int))) := by omega
  have h48i : ¬ (281474976710656 < (m : Int) * (t.bz : Int)) := by
    have : ((m * t.bz : Nat) : Int) = (m : Int) * (t.bz : Int) := Int.natCast_mul _ _
    omega
  have h48' : ¬ (281474976710656 < Builtin.nextslicecap (i + m) cap * t.bz) := by have := growslice_fits (bytes := t.bz) hg (by omega); omega
  have hfo := run_firstCells_some (P := Tryz.prog) w.drew t.k i ⟨g, o, none⟩ i cap (flat t (l.take i)) (by rw [flat_len, List.length_take, Nat.min_eq_left (by omega)]) (fun j v hj => by
    have := h.drew.part 0 i (by omega) j v
    rw [List.drop_zero, Nat.zero_mul, Nat.add_zero] at this
    exact this hj)
  unfold zeros
  simp [Builtin.append_, run_underlying t.hL, run_underlying hT, sizeOf, typeInfo, zeroValue, hti, hz0, hz1, hz2, asInt, asIntOf, hw, hneg, hns, h48i, hn, h63', h48', Question.forced, hfo, newRow, grownCap]
  refine congrArg (fun c => w.drew.alloc (Obj.cells c t.E)) ?_
  apply Array.ext'
  simp only [Array.toList_append]
/-- One put in the midst, where it must grow. -/
theorem mid_grow {cur0 cur1 cur2 : List Value} {l : List α} {i m r c' g : Nat} {p : α} {w : World} (hi : i < l.length) (hm : m = l.length + 1 - i) (h0 : cur0 = flat t (l.take i) ++ (zeros t m ++ zeros t r)) (hc : i + m + r = c') (hM : c' ≤ maxLen)
    (h1 : cur1 = splice cur0 (i * t.k) (t.enc p)) (h2 : cur2 = splice cur1 ((i + 1) * t.k) (flat t (l.drop i))) (hB : Blk w g cur2 t.E) : Lies t w g 0 c' cur2 (l.take i ++ p :: l.drop i) := by
  have hrc := t.hk p
  have hfl := flat_len t (l.drop i)
  have hft := flat_len t (l.take i)
  rw [List.length_drop] at hfl
  rw [List.length_take, Nat.min_eq_left (by omega)] at hft
  have ec : i * t.k + (m * t.k + r * t.k) = c' * t.k := by rw [← hc, Nat.add_mul, Nat.add_mul, Nat.add_assoc]
  have em : m * t.k = t.k + (l.length - i) * t.k := by rw [hm, show l.length + 1 - i = 1 + (l.length - i) by omega, Nat.add_mul, Nat.one_mul]
  have ei : (i + 1) * t.k = i * t.k + t.k := by rw [Nat.add_mul, Nat.one_mul]
  have l0 : cur0.length = c' * t.k := by rw [h0, List.length_append, List.length_append, hft, zeros_len, zeros_len]; omega
  have l1 : cur1.length = c' * t.k := by rw [h1, length_splice _ _ _ (by omega), l0]
  have l2 : cur2.length = c' * t.k := by rw [h2, length_splice _ _ _ (by omega), l1]
  have hlen : (l.take i ++ p :: l.drop i).length = l.length + 1 := by rw [List.length_append, List.length_cons, List.length_take, List.length_drop]; omega
  have el : (l.length + 1) * t.k = i * t.k + t.k + (l.length - i) * t.k := by rw [show l.length + 1 = i + 1 + (l.length - i) by omega, Nat.add_mul, Nat.add_mul, Nat.one_mul]
  refine ⟨hB, by omega, hM, by omega, ?_⟩
  rw [List.drop_zero, hlen, h2, splice_take_end (by omega) _ (by omega), h1, splice_take_end (by omega) _ (by omega), h0]
  have : (flat t (l.take i) ++ (zeros t m ++ zeros t r)).take (i * t.k) = flat t (l.take i) := by
    rw [List.take_append_of_le_length (by omega), List.take_of_length_le (by omega)]
  rw [this]
  unfold flat
  rw [List.flatMap_append, List.flatMap_cons, List.append_assoc]
/-- One put in the midst, where there is room. -/
theorem mid_room {cur cur1 cur2 : List Value} {l : List α} {i cap g o : Nat} {p : α} {w w2 : World} (h : Lies t w g o cap cur l) (hi : i < l.length) (hr : l.length + 1 ≤ cap)
    (h1 : cur1 = splice cur (o + (i + 1) * t.k) (flat t (l.drop i))) (h2 : cur2 = splice cur1 (o + i * t.k) (t.enc p)) (hB : Blk w2 g cur2 t.E) : Lies t w2 g o cap cur2 (l.take i ++ p :: l.drop i) := by
  have hrc := t.hk p
  have hfl := flat_len t (l.drop i)
  rw [List.length_drop] at hfl
  have hf := h.fit
  have hk : (l.length + 1) * t.k ≤ cap * t.k := Nat.mul_le_mul_right _ hr
  have ei : (i + 1) * t.k = i * t.k + t.k := by rw [Nat.add_mul, Nat.one_mul]
  have el : (l.length + 1) * t.k = i * t.k + t.k + (l.length - i) * t.k := by rw [show l.length + 1 = i + 1 + (l.length - i) by omega, Nat.add_mul, Nat.add_mul, Nat.one_mul]
  have l1 : cur1.length = cur.length := by rw [h1, length_splice _ _ _ (by omega)]
  have l2 : cur2.length = cur.length := by rw [h2, length_splice _ _ _ (by omega), l1]
  have hlen : (l.take i ++ p :: l.drop i).length = l.length + 1 := by rw [List.length_append, List.length_cons, List.length_take, List.length_drop]; omega
  have d1 : cur1.drop o = splice (cur.drop o) ((i + 1) * t.k) (flat t (l.drop i)) := by
    have := (drop_splice (L := cur) (cs := flat t (l.drop i)) (Nat.le_add_right o ((i + 1) * t.k))).resolve_right (by omega)
    rw [h1, this, Nat.add_sub_cancel_left]
  have d2 : cur2.drop o = splice (cur1.drop o) (i * t.k) (t.enc p) := by
    have := (drop_splice (L := cur1) (cs := t.enc p) (Nat.le_add_right o (i * t.k))).resolve_right (by omega)
    rw [h2, this, Nat.add_sub_cancel_left]
  have ld : (cur.drop o).length = cur.length - o := List.length_drop
  have ld1 : (cur1.drop o).length = cur.length - o := by rw [List.length_drop, l1]
  refine ⟨hB, by omega, h.most, by omega, ?_⟩
  have e1 : (cur1.drop o).take (i * t.k) = flat t (l.take i) := by
    rw [d1, splice_take_le (by omega) (by omega), ← flat_take, ← h.head, List.take_take]
    congr 1
    have : i * t.k ≤ l.length * t.k := Nat.mul_le_mul_right _ (by omega)
    omega
  have e2 : ((cur1.drop o).drop (i * t.k + t.k)).take ((l.length - i) * t.k) = flat t (l.drop i) := by
    rw [d1, ← ei]
    exact splice_mid (by omega) _ (by omega)
  rw [hlen, d2, splice_take_more (by omega) _ ((l.length - i) * t.k) (by omega), hrc, e1, e2]
  unfold flat
  rw [List.flatMap_append, List.flatMap_cons]
end Go.Proofs.YtjjamooihddkgaaGreat.Ro

