/- The wheel's buckets as a tree: what it holds, how it lies in memory, what a change of one kid or one leaf leaves. Conditions: each theorem's own. -/
import Derived.Test.YtjmlglibmlfjaaaDoorHeap
import Derived.Test.YtjmlglibmlfjaaaDoorBitsMath
set_option linter.unusedVariables false
namespace Go.Proofs.YtjmlglibmlfjaaaDoor.Tree
open Go.RowKit Hp BitsM
/-- One that waits: its block, time, number and value. -/
structure Tm where
  b : Nat
  at_ : Nat
  id : Nat
  v : Value
/-- The buckets: a leaf for one time; a node of height h (its level is h - 1). -/
inductive Tr where
  | nil
  | leaf (b a : Nat) (ts : List Tm)
  | node (b ib h a : Nat) (kids : Nat → Tr)
/-- The types: bucket, timer, pointer to bucket. -/
structure Tys where
  tb : TypeId
  tt : TypeId
  tp : TypeId
def Tr.ptr : Tr → Value
  | .nil => .pointer none
  | .leaf b _ _ => .pointer (some ⟨b, 0, none⟩)
  | .node b _ _ _ _ => .pointer (some ⟨b, 0, none⟩)
def Tr.isNil : Tr → Bool
  | .nil => true
  | _ => false
def Tr.hgt : Tr → Nat
  | .node _ _ h _ _ => h
  | _ => 0
def Tr.rep : Tr → Nat
  | .nil => 0
  | .leaf _ a _ => a
  | .node _ _ _ a _ => a
/-- A leaf: its block, its time, what it holds. -/
structure Lf where
  b : Nat
  a : Nat
  ts : List Tm
/-- The leaves. -/
def Tr.lvs : Tr → List Lf
  | .nil => []
  | .leaf b a ts => [⟨b, a, ts⟩]
  | .node _ _ _ _ kids => (List.range 16).flatMap fun d => (kids d).lvs
/-- The blocks. -/
def Tr.F : Tr → Nat → Prop
  | .nil, _ => False
  | .leaf b _ ts, k => k = b ∨ ∃ t ∈ ts, k = t.b
  | .node b ib _ _ kids, k => k = b ∨ k = ib ∨ ∃ d, d < 16 ∧ (kids d).F k
def tptr (t : Tm) : Value := .pointer (some ⟨t.b, 0, none⟩)
def hd : List Tm → Value → Value
  | [], n => n
  | t :: _, _ => tptr t
def lst : Value → List Tm → Value
  | p, [] => p
  | _, t :: ts => lst (tptr t) ts
/-- Timers one behind the other; p ahead of the first, n behind the last. -/
def Seg (Y : Tys) (w : World) : Value → List Tm → Value → Prop
  | _, [], _ => True
  | p, t :: ts, n => Blk w t.b [.int .i64 t.at_, .int .i64 t.id, t.v, p, hd ts n] Y.tt ∧ Seg Y w (tptr t) ts n
def Rep (Y : Tys) (w : World) : Tr → Prop
  | .nil => True
  | .leaf b a ts => Blk w b [.int .i64 (-1), .int .i64 a, hd ts (.pointer none), lst (.pointer none) ts, .int .u16 0, .slice none 0 0] Y.tb ∧
      Seg Y w (.pointer none) ts (.pointer none) ∧ (∀ t ∈ ts, t.b ≠ b) ∧ (ts.map (·.b)).Nodup
  | .node b ib h a kids => (∃ m : Nat, m < 65536 ∧ (∀ d, d < 16 → m.testBit d = !(kids d).isNil) ∧
        Blk w b [.int .i64 ((h : Int) - 1), .int .i64 a, .pointer none, .pointer none, .int .u16 m, .slice (some ⟨ib, 0, none⟩) 16 16] Y.tb) ∧
      Blk w ib ((List.range 16).map fun d => (kids d).ptr) Y.tp ∧ b ≠ ib ∧
      ∀ d, d < 16 → Rep Y w (kids d) ∧ ¬ (kids d).F b ∧ ¬ (kids d).F ib ∧ ∀ d', d' < 16 → d ≠ d' → ∀ k, (kids d).F k → ¬ (kids d').F k
def WF : Tr → Prop
  | .nil => True
  | .leaf _ a ts => a ≤ 1125899906842624 ∧ (∀ t ∈ ts, t.at_ = a) ∧ ts.Pairwise (fun x y => x.id < y.id)
  | .node _ _ h a kids => 1 ≤ h ∧ h ≤ 13 ∧ a ≤ 1125899906842624 ∧ (∃ d d', d < 16 ∧ d' < 16 ∧ d ≠ d' ∧ (kids d).isNil = false ∧ (kids d').isNil = false) ∧
      ∀ d, d < 16 → WF (kids d) ∧ ((kids d).isNil = false → (kids d).hgt < h ∧ dig (kids d).rep (h - 1) = d ∧ (kids d).rep / 16 ^ h = a / 16 ^ h)
/-! ### lists -/
theorem range16 {d : Nat} (h : d < 16) : List.range 16 = List.range d ++ d :: List.range' (d + 1) (15 - d) := by
  have e : 16 = d + (1 + (15 - d)) := by omega
  rw [List.range_eq_range', e, ← List.range'_append_1, ← List.range'_append_1, List.range_eq_range']
  simp
theorem kids_split {α : Type} {d : Nat} (h : d < 16) (f : Nat → List α) : (List.range 16).flatMap f = (List.range d).flatMap f ++ (f d ++ (List.range' (d + 1) (15 - d)).flatMap f) := by
  rw [range16 h]; simp
theorem mem_pre {α : Type} {d : Nat} {f : Nat → List α} {x : α} (h : x ∈ (List.range d).flatMap f) : ∃ i, i < d ∧ x ∈ f i := by
  obtain ⟨i, hi, hx⟩ := List.mem_flatMap.1 h
  exact ⟨i, by simpa using hi, hx⟩
theorem mem_post {α : Type} {d : Nat} (_hd : d < 16) {f : Nat → List α} {x : α} (h : x ∈ (List.range' (d + 1) (15 - d)).flatMap f) : ∃ i, d < i ∧ i < 16 ∧ x ∈ f i := by
  obtain ⟨i, hi, hx⟩ := List.mem_flatMap.1 h
  simp only [List.mem_range'_1] at hi
  exact ⟨i, by omega, by omega, hx⟩
def upd (kids : Nat → Tr) (d : Nat) (T : Tr) : Nat → Tr := fun i => if i = d then T else kids i
theorem upd_same (kids : Nat → Tr) (d : Nat) (T : Tr) : upd kids d T d = T := by simp [upd]
theorem upd_other (kids : Nat → Tr) {d i : Nat} (h : i ≠ d) (T : Tr) : upd kids d T i = kids i := by simp [upd, h]
theorem flat_congr {α β : Type} : ∀ (l : List α) {f g : α → List β}, (∀ i ∈ l, f i = g i) → l.flatMap f = l.flatMap g
  | [], _, _, _ => rfl
  | x :: xs, f, g, h => by simp only [List.flatMap_cons, h x (by simp), flat_congr xs (fun i hi => h i (by simp [hi]))]
theorem flat_upd {α : Type} {d : Nat} (h : d < 16) (kids : Nat → Tr) (T : Tr) (f : Tr → List α) :
    (List.range 16).flatMap (fun i => f (upd kids d T i)) = (List.range d).flatMap (fun i => f (kids i)) ++ (f T ++ (List.range' (d + 1) (15 - d)).flatMap (fun i => f (kids i))) := by
  rw [kids_split h, upd_same]
  congr 1
  · exact flat_congr _ fun i hi => by rw [upd_other _ (by simp at hi; omega)]
  · congr 1
    exact flat_congr _ fun i hi => by rw [upd_other _ (by simp only [List.mem_range'_1] at hi; omega)]
theorem map_upd {d : Nat} (h : d < 16) (kids : Nat → Tr) (T : Tr) : ((List.range 16).map fun i => (kids i).ptr).set d T.ptr = (List.range 16).map fun i => (upd kids d T i).ptr := by
  apply List.ext_getElem
  · simp
  · intro i h1 h2
    simp only [List.getElem_set, List.getElem_map, List.getElem_range]
    by_cases e : d = i
    · subst e; simp [upd]
    · rw [if_neg e, upd_other _ (fun x => e x.symm)]

/-! ### memory -/
theorem Seg.heap {Y : Tys} {w w' : World} : ∀ {ts : List Tm} {p n : Value}, (∀ t ∈ ts, w'.heap[t.b]? = w.heap[t.b]?) → Seg Y w p ts n → Seg Y w' p ts n
  | [], _, _, _, _ => trivial
  | t :: ts, _, _, h, hs => ⟨hs.1.heap (h t (by simp)), Seg.heap (fun x hx => h x (by simp [hx])) hs.2⟩
theorem Seg.append {Y : Tys} {w : World} : ∀ {xs ys : List Tm} {p n : Value}, Seg Y w p (xs ++ ys) n ↔ Seg Y w p xs (hd ys n) ∧ Seg Y w (lst p xs) ys n
  | [], _, _, _ => by simp [Seg, lst]
  | x :: xs, ys, p, n => by
    simp only [List.cons_append, Seg, lst, Seg.append (xs := xs)]
    have e : hd (xs ++ ys) n = hd xs (hd ys n) := by cases xs <;> rfl
    rw [e]
    exact ⟨fun ⟨a, b, c⟩ => ⟨⟨a, b⟩, c⟩, fun ⟨⟨a, b⟩, c⟩ => ⟨a, b, c⟩⟩
theorem hd_append (xs ys : List Tm) (n : Value) : hd (xs ++ ys) n = hd xs (hd ys n) := by cases xs <;> rfl
theorem lst_append : ∀ (xs ys : List Tm) (p : Value), lst p (xs ++ ys) = lst (lst p xs) ys
  | [], _, _ => rfl
  | _ :: xs, ys, _ => lst_append xs ys _
theorem Rep.frame {Y : Tys} {w w' : World} : ∀ {T : Tr}, (∀ k, T.F k → w'.heap[k]? = w.heap[k]?) → Rep Y w T → Rep Y w' T
  | .nil, _, _ => trivial
  | .leaf b a ts, h, ⟨h1, h2, h3⟩ => ⟨h1.heap (h b (Or.inl rfl)), Seg.heap (fun t ht => h t.b (Or.inr ⟨t, ht, rfl⟩)) h2, h3⟩
  | .node b ib h a kids, hk, ⟨⟨m, m1, m2, m3⟩, h2, h3, h4⟩ =>
    ⟨⟨m, m1, m2, m3.heap (hk b (Or.inl rfl))⟩, h2.heap (hk ib (Or.inr (Or.inl rfl))), h3, fun d hd => ⟨Rep.frame (fun k hF => hk k (Or.inr (Or.inr ⟨d, hd, hF⟩))) (h4 d hd).1, (h4 d hd).2⟩⟩
theorem Seg.lt {Y : Tys} {w : World} : ∀ {ts : List Tm} {p n : Value}, Seg Y w p ts n → ∀ t ∈ ts, t.b < w.heap.size
  | [], _, _, _, t, ht => by simp at ht
  | x :: xs, _, _, hs, t, ht => by
    rcases List.mem_cons.1 ht with rfl | ht
    · exact hs.1.lt
    · exact Seg.lt hs.2 t ht
theorem Rep.lt {Y : Tys} {w : World} : ∀ {T : Tr}, Rep Y w T → ∀ k, T.F k → k < w.heap.size
  | .nil, _, k, hF => hF.elim
  | .leaf b a ts, ⟨h1, h2, _⟩, k, hF => by
    rcases hF with rfl | ⟨t, ht, rfl⟩
    · exact h1.lt
    · exact h2.lt t ht
  | .node b ib h a kids, ⟨⟨m, m1, m2, m3⟩, h2, h3, h4⟩, k, hF => by
    rcases hF with rfl | rfl | ⟨d, hd, hF⟩
    · exact m3.lt
    · exact h2.lt
    · exact Rep.lt (h4 d hd).1 k hF
theorem Rep.kept {Y : Tys} {w w' : World} {T : Tr} {G : Nat → Prop} (h : Rep Y w T) (k : Kept G w w') (hd : ∀ k, T.F k → ¬ G k) : Rep Y w' T :=
  h.frame fun i hi => k.block i (h.lt i hi) (hd i hi)
/-- A block is of one type. -/
theorem Seg.blk {Y : Tys} {w : World} : ∀ {ts : List Tm} {p n : Value}, Seg Y w p ts n → ∀ t ∈ ts, ∃ q r, Blk w t.b [.int .i64 t.at_, .int .i64 t.id, t.v, q, r] Y.tt
  | [], _, _, _, t, ht => by simp at ht
  | x :: xs, p, n, hs, t, ht => by
    rcases List.mem_cons.1 ht with rfl | ht
    · exact ⟨_, _, hs.1⟩
    · exact Seg.blk hs.2 t ht
theorem F_lvs {T : Tr} : ∀ p ∈ T.lvs, T.F p.b ∧ ∀ t ∈ p.ts, T.F t.b := by
  induction T with
  | nil => intro t ht; simp [Tr.lvs] at ht
  | leaf b a ts =>
    intro p hp
    simp only [Tr.lvs, List.mem_singleton] at hp
    subst hp
    exact ⟨Or.inl rfl, fun t ht => Or.inr ⟨t, ht, rfl⟩⟩
  | node b ib h a kids ih =>
    intro p hp
    obtain ⟨d, hd, hx⟩ := List.mem_flatMap.1 hp
    have := ih d p hx
    exact ⟨Or.inr (Or.inr ⟨d, by simpa using hd, this.1⟩), fun t ht => Or.inr (Or.inr ⟨d, by simpa using hd, this.2 t ht⟩)⟩
/-- One kid is another one now, and the node's two blocks say so. -/
theorem Rep.setKid {Y : Tys} {w w1 w2 : World} {b ib h a d : Nat} {kids : Nat → Tr} {T' : Tr} {X : Nat → Prop} (hr : Rep Y w (.node b ib h a kids)) (hd : d < 16)
    (hX : ∀ k, X k → ¬ (Tr.node b ib h a kids).F k) (hk1 : Kept (fun k => (kids d).F k ∨ X k) w w1) (hT : Rep Y w1 T') (hF : ∀ k, T'.F k → (kids d).F k ∨ X k ∨ w.heap.size ≤ k) 
    (hk2 : Kept (fun k => k = b ∨ k = ib) w1 w2) (m : Nat) (hm : m < 65536) (hbits : ∀ i, i < 16 → m.testBit i = !(upd kids d T' i).isNil)
    (hb : Blk w2 b [.int .i64 ((h : Int) - 1), .int .i64 a, .pointer none, .pointer none, .int .u16 m, .slice (some ⟨ib, 0, none⟩) 16 16] Y.tb)
    (hc : Blk w2 ib ((List.range 16).map fun i => (upd kids d T' i).ptr) Y.tp) :
    Rep Y w2 (.node b ib h a (upd kids d T')) ∧ Kept (fun k => (Tr.node b ib h a kids).F k ∨ X k) w w2 ∧ ∀ k, (Tr.node b ib h a (upd kids d T')).F k → (Tr.node b ib h a kids).F k ∨ X k ∨ w.heap.size ≤ k := by
  have hlt := hr.lt
  obtain ⟨⟨m0, m1, m2, m3⟩, h2, h3, h4⟩ := hr
  have hbs := m3.lt
  have his := h2.lt
  -- the new kid does not hold the node's blocks
  have nb : ¬ T'.F b := fun hf => by
    rcases hF b hf with e | e | e
    · exact (h4 d hd).2.1 e
    · exact hX b e (Or.inl rfl)
    · omega
  have nib : ¬ T'.F ib := fun hf => by
    rcases hF ib hf with e | e | e
    · exact (h4 d hd).2.2.1 e
    · exact hX ib e (Or.inr (Or.inl rfl))
    · omega
  have apart : ∀ i, i < 16 → i ≠ d → ∀ k, (kids i).F k → ¬ T'.F k := fun i hi hne k hk hT' => by
    rcases hF k hT' with e | e | e
    · exact (h4 i hi).2.2.2 d hd hne k hk e
    · exact hX k e (Or.inr (Or.inr ⟨i, hi, hk⟩))
    · have := hlt k (Or.inr (Or.inr ⟨i, hi, hk⟩)); omega
  refine ⟨⟨⟨m, hm, hbits, hb⟩, hc, h3, fun i hi => ?_⟩, ?_, ?_⟩
  · by_cases e : i = d
    · subst e
      rw [upd_same]
      refine ⟨hT.kept hk2 (fun k hk e => ?_), nb, nib, fun d' hd' hne k hk => ?_⟩
      · rcases e with rfl | rfl
        · exact nb hk
        · exact nib hk
      · rw [upd_other _ (fun x => hne x.symm)]
        exact fun hk' => apart d' hd' (fun x => hne x.symm) k hk' hk
    · rw [upd_other _ e]
      obtain ⟨g1, g2, g3, g4⟩ := h4 i hi
      refine ⟨(g1.kept hk1 (fun k hk e' => ?_)).kept hk2 (fun k hk e' => ?_), g2, g3, fun d' hd' hne k hk => ?_⟩
      · rcases e' with e' | e'
        · exact g4 d hd e k hk e'
        · exact hX k e' (Or.inr (Or.inr ⟨i, hi, hk⟩))
      · rcases e' with rfl | rfl
        · exact g2 hk
        · exact g3 hk
      · by_cases e2 : d' = d
        · subst e2; rw [upd_same]; exact apart i hi e k hk
        · rw [upd_other _ e2]; exact g4 d' hd' hne k hk
  · refine (hk1.mono (G := fun k => (Tr.node b ib h a kids).F k ∨ X k) (fun i _ e => ?_)).trans' hk2 (fun i _ e => ?_)
    · rcases e with e | e
      · exact Or.inl (Or.inr (Or.inr ⟨d, hd, e⟩))
      · exact Or.inr e
    · rcases e with rfl | rfl
      · exact Or.inl (Or.inl rfl)
      · exact Or.inl (Or.inr (Or.inl rfl))
  · intro k hk
    rcases hk with rfl | rfl | ⟨i, hi, hk⟩
    · exact Or.inl (Or.inl rfl)
    · exact Or.inl (Or.inr (Or.inl rfl))
    · by_cases e : i = d
      · subst e
        rw [upd_same] at hk
        rcases hF k hk with e | e | e
        · exact Or.inl (Or.inr (Or.inr ⟨i, hi, e⟩))
        · exact Or.inr (Or.inl e)
        · exact Or.inr (Or.inr e)
      · rw [upd_other _ e] at hk
        exact Or.inl (Or.inr (Or.inr ⟨i, hi, hk⟩))
end Go.Proofs.YtjmlglibmlfjaaaDoor.Tree
