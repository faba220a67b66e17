/- Cutoff: which sizes are kept, where they are cut, how many cuts a size is above. Conditions: each theorem's own. -/
import Derived.Test.YtkggnbibjcogeaaRows
set_option linter.unusedVariables false
namespace Go.Proofs.Ytkggnbibjcogeaa.CoM
/-- A size as it is kept. -/
def cl (x : Int) : Int := if x < 0 then 0 else if 1073741824 < x then 1073741824 else x
theorem cl_bd (x : Int) : 0 ≤ cl x ∧ cl x ≤ 1073741824 := by unfold cl; split <;> (try split) <;> omega
/-- One more, of so many at most. -/
def keep (M : Nat) (l : List Int) (x : Int) : List Int := if l.length < M then l ++ [x] else l.drop 1 ++ [x]
theorem keep_len {M : Nat} {l : List Int} (x : Int) (h : l.length ≤ M) (h1 : 1 ≤ M) : (keep M l x).length ≤ M := by
  unfold keep; split
  · simp only [List.length_append, List.length_singleton]; omega
  · simp only [List.length_append, List.length_singleton, List.length_drop]; omega
theorem keep_all {M : Nat} {l : List Int} {x : Int} {P : Int → Prop} (h : ∀ y ∈ l, P y) (hx : P x) : ∀ y ∈ keep M l x, P y := by
  intro y hy
  unfold keep at hy
  split at hy
  · simp only [List.mem_append, List.mem_singleton] at hy
    rcases hy with hy | rfl
    · exact h y hy
    · exact hx
  · simp only [List.mem_append, List.mem_singleton] at hy
    rcases hy with hy | rfl
    · exact h y (List.mem_of_mem_drop hy)
    · exact hx
/-- As the document's own answer keeps them. -/
theorem keep_ref {M : Nat} {l : List Int} (x : Int) (h : l.length ≤ M) (hM : 1 ≤ M) : keep M l x = if M < (l ++ [x]).length then (l ++ [x]).drop 1 else l ++ [x] := by
  unfold keep
  simp only [List.length_append, List.length_singleton]
  by_cases h1 : l.length < M
  · rw [if_pos h1, if_neg (by omega)]
  · rw [if_neg h1, if_pos (by omega)]
    cases l with
    | nil => exact absurd h1 (by simp; omega)
    | cons y l => rfl
/-- All of them, one behind the other. -/
def keeps (M : Nat) : List Int → List Int → List Int
  | l, [] => l
  | l, x :: r => keeps M (keep M l (cl x)) r
theorem keeps_snoc (M : Nat) : ∀ (l r : List Int) (x : Int), keeps M l (r ++ [x]) = keep M (keeps M l r) (cl x)
  | l, [], x => rfl
  | l, y :: r, x => by rw [List.cons_append, keeps, keeps, keeps_snoc]
theorem keeps_app (M : Nat) : ∀ (l r s : List Int), keeps M l (r ++ s) = keeps M (keeps M l r) s
  | l, [], s => rfl
  | l, y :: r, s => by rw [List.cons_append, keeps, keeps, keeps_app]
theorem keeps_ok {M : Nat} (h1 : 1 ≤ M) : ∀ (l r : List Int), l.length ≤ M → (∀ y ∈ l, 0 ≤ y ∧ y ≤ 1073741824) → (keeps M l r).length ≤ M ∧ ∀ y ∈ keeps M l r, 0 ≤ y ∧ y ≤ 1073741824
  | l, [], h, hb => ⟨h, hb⟩
  | l, x :: r, h, hb => keeps_ok h1 _ r (keep_len _ h h1) (keep_all hb (cl_bd x))
/-- The last ones. -/
theorem keeps_last {M : Nat} (h1 : 1 ≤ M) : ∀ (r l : List Int), l.length ≤ M → keeps M l r = (l ++ r.map cl).drop (l.length + r.length - M)
  | [], l, h => by rw [List.map_nil, List.append_nil, List.length_nil, show l.length + 0 - M = 0 by omega]; rfl
  | x :: r, l, h => by
    rw [keeps, keeps_last h1 r _ (keep_len _ h h1), List.map_cons]
    unfold keep
    split
    · rw [List.length_append, List.length_singleton, List.length_cons, List.append_assoc, List.singleton_append]
      congr 1; omega
    · rename_i hn
      have e : l.length = M := by omega
      rw [List.length_append, List.length_singleton, List.length_drop, List.length_cons, List.append_assoc, List.singleton_append]
      rw [← List.drop_append_of_le_length (by omega), List.drop_drop]
      congr 1; omega
theorem keeps_forget (old new : List Int) (h : 1 ≤ new.length) : keeps new.length (keeps new.length [] old) new = keeps new.length [] new := by
  rw [← keeps_app, keeps_last h _ _ (by simp), keeps_last h _ _ (by simp)]
  simp only [List.nil_append, List.length_nil, Nat.zero_add, List.length_append, List.map_append]
  rw [show old.length + new.length - new.length = (old.map cl).length by rw [List.length_map]; omega, List.drop_left]
  simp
/-- How a meter's ring lies: from f on, and then from the first one. -/
structure Ring (M : Nat) (zs : List Int) (f : Nat) (l : List Int) : Prop where
  is : l = zs.drop f ++ zs.take f
  le : zs.length ≤ M
  in1 : f < M
  at0 : zs.length < M → f = 0
theorem Ring.len {M : Nat} {zs l : List Int} {f : Nat} (h : Ring M zs f l) : l.length = zs.length := by
  rw [h.is, List.length_append, List.length_drop, List.length_take]; omega
theorem Ring.perm {M : Nat} {zs l : List Int} {f : Nat} (h : Ring M zs f l) : zs.Perm l := by
  rw [h.is]
  have := (List.perm_append_comm : (zs.take f ++ zs.drop f).Perm (zs.drop f ++ zs.take f))
  rwa [List.take_append_drop] at this
theorem Ring.nil {M : Nat} (h : 1 ≤ M) : Ring M [] 0 [] := ⟨rfl, by simp, by omega, fun _ => rfl⟩
theorem Ring.more {M : Nat} {zs l : List Int} {f : Nat} (h : Ring M zs f l) (hl : zs.length < M) (x : Int) : Ring M (zs ++ [x]) f (keep M l x) := by
  obtain rfl := h.at0 hl
  refine ⟨?_, by simp only [List.length_append, List.length_singleton]; omega, h.in1, fun _ => rfl⟩
  unfold keep
  rw [if_pos (by rw [h.len]; exact hl), h.is]
  simp
theorem Ring.turn {M : Nat} {zs l : List Int} {f : Nat} (h : Ring M zs f l) (hl : ¬ zs.length < M) (x : Int) : Ring M (zs.set f x) ((f + 1) % M) (keep M l x) := by
  have e : zs.length = M := by have := h.le; omega
  have hf := h.in1
  refine ⟨?_, by rw [List.length_set]; omega, Nat.mod_lt _ (by omega), fun h' => by rw [List.length_set] at h'; omega⟩
  unfold keep
  rw [if_neg (by rw [h.len]; exact hl), h.is]
  have hd : zs.drop f = zs[f] :: zs.drop (f + 1) := List.drop_eq_getElem_cons (by omega)
  rw [hd, List.cons_append, List.drop_succ_cons, List.drop_zero]
  by_cases h2 : f + 1 < M
  · rw [Nat.mod_eq_of_lt h2, List.drop_set_of_lt (by omega)]
    rw [List.take_succ_eq_append_getElem (by rw [List.length_set]; omega), List.getElem_set_self, List.take_set_of_le (by omega), List.append_assoc]
  · have e2 : f + 1 = M := by omega
    rw [e2, Nat.mod_self, List.drop_zero, List.take_zero, List.append_nil, ← e, List.drop_length, List.nil_append]
    apply List.ext_getElem
    · simp; omega
    · intro i h1 h3
      rw [List.getElem_set]
      rw [List.getElem_append]
      rw [List.length_set] at h3
      by_cases hi : f = i
      · rw [if_pos hi, dif_neg (by rw [List.length_take]; omega)]; simp
      · rw [if_neg hi, dif_pos (by rw [List.length_take]; omega), List.getElem_take]
/-- All unasked bytes. -/
def pr (W : Int) : List Int → Int
  | [] => 0
  | x :: l => min x W + pr W l
theorem pr_app (W : Int) : ∀ a b : List Int, pr W (a ++ b) = pr W a + pr W b
  | [], b => by simp [pr]
  | x :: a, b => by rw [List.cons_append, pr, pr, pr_app]; omega
theorem pr_snoc (W : Int) (a : List Int) (x : Int) : pr W (a ++ [x]) = pr W a + min x W := by rw [pr_app]; simp [pr]
theorem pr_perm {W : Int} {a b : List Int} (h : a.Perm b) : pr W a = pr W b := by
  induction h with
  | nil => rfl
  | cons x _ ih => simp only [pr, ih]
  | swap x y l => simp only [pr]; omega
  | trans _ _ h1 h2 => exact h1.trans h2
theorem pr_bd {W : Int} (hW : 0 ≤ W) : ∀ {l : List Int}, (∀ y ∈ l, 0 ≤ y ∧ y ≤ 1073741824) → 0 ≤ pr W l ∧ pr W l ≤ 1073741824 * (l.length : Int)
  | [], _ => by simp [pr]
  | x :: l, h => by
    have h1 := pr_bd hW (l := l) (fun y hy => h y (List.mem_cons_of_mem _ hy))
    have h2 := h x (List.mem_cons_self ..)
    simp only [pr, List.length_cons]
    omega
/-- The first one at which t is reached. -/
def cutOf (W t : Int) : List Int → Int → Int
  | [], a => 0
  | x :: l, a => if t ≤ a + min x W then x else cutOf W t l (a + min x W)
theorem cutOf_mem {W t : Int} (hW : 0 ≤ W) : ∀ {l : List Int} {a : Int}, l ≠ [] → t ≤ a + pr W l → cutOf W t l a ∈ l
  | [], a, h, _ => absurd rfl h
  | x :: l, a, _, ht => by
    unfold cutOf
    split
    · exact List.mem_cons_self ..
    · rename_i hn
      simp only [pr] at ht
      cases l with
      | nil => simp only [pr] at ht; omega
      | cons y l => exact List.mem_cons_of_mem _ (cutOf_mem hW (by simp) (by omega))
def Up (l : List Int) : Prop := l.Pairwise fun a b => a ≤ b
theorem cutOf_up {W t t' : Int} (hW : 0 ≤ W) (htt : t ≤ t') : ∀ {l : List Int} {a : Int}, Up l → t' ≤ a + pr W l → cutOf W t l a ≤ cutOf W t' l a
  | [], a, _, _ => Int.le_refl _
  | x :: l, a, hu, ht => by
    have hu' := List.pairwise_cons.1 hu
    simp only [pr] at ht
    unfold cutOf
    by_cases h1 : t' ≤ a + min x W
    · rw [if_pos h1, if_pos (by omega)]; exact Int.le_refl _
    · rw [if_neg h1]
      by_cases h2 : t ≤ a + min x W
      · rw [if_pos h2]
        cases l with
        | nil => simp only [pr] at ht; omega
        | cons y l => exact hu'.1 _ (cutOf_mem hW (by simp) (by omega))
      · rw [if_neg h2]
        exact cutOf_up hW htt hu'.2 (by omega)
/-- What the i-th level reaches. -/
def thr (L : Nat) (B : Int) (i : Nat) : Int := (i : Int) * B / (L : Int)
theorem thr_bd {L i : Nat} {B : Int} (h1 : 1 ≤ L) (hi : i ≤ L) (hB : 0 ≤ B) : 0 ≤ thr L B i ∧ thr L B i ≤ B := by
  unfold thr
  have hL : (0 : Int) < (L : Int) := by omega
  have hm : 0 ≤ (i : Int) * B := Int.mul_nonneg (by omega) hB
  refine ⟨Int.ediv_nonneg hm (by omega), ?_⟩
  have h2 : (i : Int) * B ≤ (L : Int) * B := Int.mul_le_mul_of_nonneg_right (by omega) hB
  have := Int.ediv_le_ediv hL h2
  rwa [Int.mul_ediv_cancel_left _ (by omega)] at this
theorem thr_up {L i j : Nat} {B : Int} (h1 : 1 ≤ L) (hij : i ≤ j) (hB : 0 ≤ B) : thr L B i ≤ thr L B j := by
  unfold thr
  exact Int.ediv_le_ediv (by omega) (Int.mul_le_mul_of_nonneg_right (by omega) hB)
/-- Where levels are cut. -/
def cuts (L : Nat) (W : Int) (s : List Int) : List Int := (List.range (L - 1)).map fun i => cutOf W (thr L (pr W s) (i + 1)) s 0
theorem cuts_len (L : Nat) (W : Int) (s : List Int) : (cuts L W s).length = L - 1 := by unfold cuts; simp
theorem cuts_at {L : Nat} {W : Int} {s : List Int} {i : Nat} (h : i < (cuts L W s).length) : (cuts L W s)[i] = cutOf W (thr L (pr W s) (i + 1)) s 0 := by
  have : (cuts L W s)[i]? = some (cutOf W (thr L (pr W s) (i + 1)) s 0) := by
    rw [cuts_len] at h
    unfold cuts
    simp [h]
  exact Option.some.inj ((List.getElem?_eq_getElem h).symm.trans this)
theorem cuts_up {L : Nat} {W : Int} {s : List Int} (h1 : 1 ≤ L) (hW : 0 ≤ W) (hs : Up s) (hb : ∀ y ∈ s, 0 ≤ y ∧ y ≤ 1073741824) : Up (cuts L W s) := by
  unfold Up
  rw [List.pairwise_iff_getElem]
  intro i j hi hj hij
  rw [cuts_at hi, cuts_at hj]
  rw [cuts_len] at hj
  have hB := (pr_bd hW hb).1
  exact cutOf_up hW (thr_up h1 (by omega) hB) hs (by have := (thr_bd h1 (i := j + 1) (by omega) hB).2; omega)
theorem cuts_mem {L : Nat} {W : Int} {s : List Int} (h1 : 1 ≤ L) (hW : 0 ≤ W) (hb : ∀ y ∈ s, 0 ≤ y ∧ y ≤ 1073741824) (hne : s ≠ []) : ∀ x ∈ cuts L W s, x ∈ s := by
  intro x hx
  obtain ⟨i, hi, rfl⟩ := List.mem_iff_getElem.1 hx
  rw [cuts_at hi]
  rw [cuts_len] at hi
  have hB := (pr_bd hW hb).1
  exact cutOf_mem hW hne (by have := (thr_bd h1 (i := i + 1) (by omega) hB).2; omega)
theorem cuts_nil (L : Nat) (W : Int) : ∀ x ∈ cuts L W [], x = 0 := by
  intro x hx
  obtain ⟨i, hi, rfl⟩ := List.mem_iff_getElem.1 hx
  rw [cuts_at hi]
  rfl
/-- How many are less. -/
def below (t : Int) : List Int → Nat
  | [] => 0
  | x :: l => (if x < t then 1 else 0) + below t l
theorem below_le (t : Int) : ∀ l : List Int, below t l ≤ l.length
  | [] => Nat.le_refl _
  | x :: l => by have := below_le t l; simp only [below, List.length_cons]; split <;> omega
theorem below_snoc (t : Int) : ∀ (l : List Int) (x : Int), below t (l ++ [x]) = below t l + (if x < t then 1 else 0)
  | [], x => by simp [below]
  | y :: l, x => by rw [List.cons_append, below, below, below_snoc]; omega
theorem below_up {a b : Int} (h : a ≤ b) : ∀ l : List Int, below a l ≤ below b l
  | [] => Nat.le_refl _
  | x :: l => by
    have := below_up h l
    simp only [below]
    split <;> split <;> omega
theorem below_all (t : Int) : ∀ {l : List Int}, (∀ x ∈ l, x < t) → below t l = l.length
  | [], _ => rfl
  | x :: l, h => by
    simp only [below, List.length_cons]
    rw [if_pos (h x (List.mem_cons_self ..)), below_all t (fun y hy => h y (List.mem_cons_of_mem _ hy))]; omega
theorem below_none (t : Int) : ∀ {l : List Int}, (∀ x ∈ l, t ≤ x) → below t l = 0
  | [], _ => rfl
  | x :: l, h => by
    simp only [below]
    rw [if_neg (by have := h x (List.mem_cons_self ..); omega), below_none t (fun y hy => h y (List.mem_cons_of_mem _ hy))]
theorem below_app (t : Int) : ∀ a b : List Int, below t (a ++ b) = below t a + below t b
  | [], b => by simp [below]
  | x :: a, b => by rw [List.cons_append, below, below, below_app]; omega
theorem below_is {t : Int} {l : List Int} {p : Nat} (hp : p ≤ l.length) (h1 : ∀ i x, i < p → l[i]? = some x → x < t) (h2 : ∀ i x, p ≤ i → l[i]? = some x → t ≤ x) : p = below t l := by
  rw [← List.take_append_drop p l, below_app, below_all, below_none, List.length_take]
  · omega
  · intro x hx
    obtain ⟨i, hi, rfl⟩ := List.mem_iff_getElem.1 hx
    rw [List.getElem_drop]
    exact h2 (p + i) _ (by omega) (List.getElem?_eq_getElem _)
  · intro x hx
    obtain ⟨i, hi, rfl⟩ := List.mem_iff_getElem.1 hx
    rw [List.getElem_take]
    rw [List.length_take] at hi
    exact h1 i _ (by omega) (List.getElem?_eq_getElem _)
/-- Two rows that rise, of the same numbers, are one. -/
theorem up_one {a b : List Int} (ha : Up a) (hb : Up b) (h : a.Perm b) : a = b := List.Perm.eq_of_pairwise (le := fun a b => a ≤ b) (fun x y _ _ h1 h2 => Int.le_antisymm h1 h2) ha hb h
/-- In rising order. -/
def srt (l : List Int) : List Int := l.mergeSort fun x y => decide (x ≤ y)
theorem srt_perm (l : List Int) : (srt l).Perm l := List.mergeSort_perm ..
theorem srt_up (l : List Int) : Up (srt l) := by
  have := List.pairwise_mergeSort (le := fun x y : Int => decide (x ≤ y)) (fun a b c => by simp; omega) (fun a b => by simp; omega) l
  exact this.imp (fun h => by simpa using h)
theorem srt_of {a b : List Int} (h : a.Perm b) : srt a = srt b := up_one (srt_up a) (srt_up b) ((srt_perm a).trans (h.trans (srt_perm b).symm))
theorem srt_len (l : List Int) : (srt l).length = l.length := (srt_perm l).length_eq
theorem srt_bd {l : List Int} {P : Int → Prop} (h : ∀ y ∈ l, P y) : ∀ y ∈ srt l, P y := fun y hy => h y ((srt_perm l).mem_iff.1 hy)
/-- Behind k of them: i levels are cut, and the others where the others say. -/
structure Cut (L : Nat) (W : Int) (s : List Int) (k i : Nat) (a : Int) (c : List Int) : Prop where
  len : c.length = L - 1
  le : i ≤ L - 1
  sum : a = pr W (s.take k)
  done : ∀ j (h : j < c.length), j < i → c[j] = cutOf W (thr L (pr W s) (j + 1)) s 0
  rest : ∀ j (h : j < c.length), i ≤ j → c[j] = 0 ∧ cutOf W (thr L (pr W s) (j + 1)) s 0 = cutOf W (thr L (pr W s) (j + 1)) (s.drop k) a
theorem Cut.start (L : Nat) (W : Int) (s : List Int) : Cut L W s 0 0 0 (List.replicate (L - 1) 0) :=
  ⟨by simp, by omega, by simp [pr], fun j h hj => by omega, fun j h hj => ⟨by simp, by simp⟩⟩
theorem Cut.all {L : Nat} {W : Int} {s : List Int} {i : Nat} {a : Int} {c : List Int} (h : Cut L W s s.length i a c) : c = cuts L W s := by
  apply List.ext_getElem
  · rw [h.len, cuts_len]
  · intro j h1 h2
    rw [cuts_at]
    by_cases hj : j < i
    · exact h.done j h1 hj
    · obtain ⟨e1, e2⟩ := h.rest j h1 (by omega)
      rw [e1, e2, List.drop_length]; rfl
/-- Within one's turn: all of its own that it may reach from i on. -/
structure Mid (L : Nat) (W : Int) (s : List Int) (k i : Nat) (x a : Int) (c : List Int) : Prop where
  len : c.length = L - 1
  le : i ≤ L - 1
  sum : a = pr W (s.take (k + 1))
  done : ∀ j (h : j < c.length), j < i → c[j] = cutOf W (thr L (pr W s) (j + 1)) s 0
  rest : ∀ j (h : j < c.length), i ≤ j → c[j] = 0 ∧ cutOf W (thr L (pr W s) (j + 1)) s 0 = if thr L (pr W s) (j + 1) ≤ a then x else cutOf W (thr L (pr W s) (j + 1)) (s.drop (k + 1)) a
theorem pr_take {W : Int} {s : List Int} {k : Nat} {x : Int} (hx : s[k]? = some x) : pr W (s.take (k + 1)) = pr W (s.take k) + min x W := by
  obtain ⟨h, rfl⟩ := List.getElem?_eq_some_iff.1 hx
  rw [List.take_succ_eq_append_getElem h, pr_snoc]
theorem Cut.mid {L : Nat} {W : Int} {s : List Int} {k i : Nat} {a x : Int} {c : List Int} (h : Cut L W s k i a c) (hx : s[k]? = some x) : Mid L W s k i x (a + min x W) c := by
  obtain ⟨hk, e⟩ := List.getElem?_eq_some_iff.1 hx
  refine ⟨h.len, h.le, by rw [pr_take hx, h.sum], h.done, fun j hj hi => ?_⟩
  obtain ⟨e1, e2⟩ := h.rest j hj hi
  refine ⟨e1, ?_⟩
  rw [e2, List.drop_eq_getElem_cons hk, e, cutOf]
theorem Mid.step {L : Nat} {W : Int} {s : List Int} {k i : Nat} {a x : Int} {c : List Int} (h : Mid L W s k i x a c) (hi : i < c.length) (ht : thr L (pr W s) (i + 1) ≤ a) : Mid L W s k (i + 1) x a (c.set i x) := by
  have hl := h.len
  refine ⟨by rw [List.length_set]; exact h.len, by omega, h.sum, fun j hj hji => ?_, fun j hj hij => ?_⟩
  · rw [List.length_set] at hj
    rw [List.getElem_set]
    by_cases e : i = j
    · rw [if_pos e, ← e, (h.rest i hi (Nat.le_refl _)).2, if_pos ht]
    · rw [if_neg e]; exact h.done j hj (by omega)
  · rw [List.length_set] at hj
    rw [List.getElem_set, if_neg (by omega)]
    exact h.rest j hj (by omega)
theorem Mid.out {L : Nat} {W : Int} {s : List Int} {k i : Nat} {a x : Int} {c : List Int} (h : Mid L W s k i x a c) (h1 : 1 ≤ L) (hB : 0 ≤ pr W s) (ho : c.length ≤ i ∨ a < thr L (pr W s) (i + 1)) : Cut L W s (k + 1) i a c := by
  refine ⟨h.len, h.le, h.sum, h.done, fun j hj hij => ?_⟩
  obtain ⟨e1, e2⟩ := h.rest j hj hij
  refine ⟨e1, ?_⟩
  rw [e2, if_neg]
  rcases ho with ho | ho
  · omega
  · have := thr_up (L := L) h1 (show i + 1 ≤ j + 1 by omega) hB
    omega
/-- As the document's own answer sorts: one more, behind all that are not above it. -/
def ins (l : List Int) (x : Int) : Nat → List Int := fun p => l.take p ++ x :: l.drop p
theorem ins_perm (l : List Int) (x : Int) (p : Nat) : (ins l x p).Perm (l ++ [x]) := by
  unfold ins
  have h1 : (l.take p ++ x :: l.drop p).Perm (x :: (l.take p ++ l.drop p)) := List.perm_middle
  rw [List.take_append_drop] at h1
  exact h1.trans (List.perm_append_comm (l₁ := [x]) (l₂ := l))
theorem ins_up {l : List Int} {x : Int} {p : Nat} (hu : Up l) (hp : p ≤ l.length) (h1 : ∀ i y, p ≤ i → l[i]? = some y → x ≤ y) (h2 : ∀ y, 0 < p → l[p - 1]? = some y → y ≤ x) : Up (ins l x p) := by
  unfold ins Up
  rw [List.pairwise_append]
  refine ⟨hu.sublist (List.take_sublist _ _), List.pairwise_cons.2 ⟨fun y hy => ?_, hu.sublist (List.drop_sublist _ _)⟩, fun y hy z hz => ?_⟩
  · obtain ⟨i, hi, rfl⟩ := List.mem_iff_getElem.1 hy
    rw [List.getElem_drop]
    exact h1 (p + i) _ (by omega) (List.getElem?_eq_getElem _)
  · obtain ⟨i, hi, rfl⟩ := List.mem_iff_getElem.1 hy
    rw [List.length_take] at hi
    rw [List.getElem_take]
    have hle : l[i]'(by omega) ≤ x := by
      have hlast := h2 (l[p - 1]'(by omega)) (by omega) (List.getElem?_eq_getElem _)
      rcases Nat.lt_or_ge i (p - 1) with h | h
      · have := List.pairwise_iff_getElem.1 hu i (p - 1) (by omega) (by omega) h
        omega
      · have e : i = p - 1 := by omega
        subst e; exact hlast
    simp only [List.mem_cons] at hz
    rcases hz with rfl | hz
    · exact hle
    · obtain ⟨j, hj, rfl⟩ := List.mem_iff_getElem.1 hz
      rw [List.getElem_drop]
      rw [List.length_drop] at hj
      have := List.pairwise_iff_getElem.1 hu i (p + j) (by omega) (by omega) (by omega)
      exact this
end Go.Proofs.Ytkggnbibjcogeaa.CoM
