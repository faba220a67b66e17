/- Ranges in a list: which bytes they have; one more put in; what lies between them. Conditions: each theorem's own. -/
import Derived.Test.YtjjamooihddkgaaGreatRows
set_option linter.unusedVariables false
set_option linter.unusedSimpArgs false
namespace Go.Proofs.YtjjamooihddkgaaGreat.IvM
abbrev Rg := Int × Int
def Has (l : List Rg) (x : Int) : Prop := ∃ p ∈ l, p.1 ≤ x ∧ x < p.2
def size : List Rg → Int
  | [] => 0
  | p :: l => (p.2 - p.1) + size l
/-- So much of the bytes from f on, ahead of t, lies in these. -/
def lap (f t : Int) : List Rg → Int
  | [] => 0
  | p :: l => (min t p.2 - max f p.1) + lap f t l
structure Good (n : Int) (l : List Rg) : Prop where
  each : ∀ p ∈ l, 0 ≤ p.1 ∧ p.1 < p.2 ∧ p.2 ≤ n
  rise : l.Pairwise fun p q => p.2 < q.1
theorem Good.nil (n : Int) : Good n [] := ⟨by simp, List.Pairwise.nil⟩
theorem size_append : ∀ a b : List Rg, size (a ++ b) = size a + size b
  | [], b => by simp [size]
  | p :: a, b => by rw [List.cons_append, size, size_append a b, size]; omega
theorem has_append {a b : List Rg} {x : Int} : Has (a ++ b) x ↔ Has a x ∨ Has b x := by
  unfold Has
  constructor
  · rintro ⟨p, hp, h⟩
    rcases List.mem_append.1 hp with h' | h'
    · exact Or.inl ⟨p, h', h⟩
    · exact Or.inr ⟨p, h', h⟩
  · rintro (⟨p, hp, h⟩ | ⟨p, hp, h⟩)
    · exact ⟨p, List.mem_append.2 (Or.inl hp), h⟩
    · exact ⟨p, List.mem_append.2 (Or.inr hp), h⟩
theorem has_one {p : Rg} {x : Int} : Has [p] x ↔ p.1 ≤ x ∧ x < p.2 := by simp [Has]
theorem split_mono {α : Type} (P : α → Bool) (R : α → α → Prop) (hR : ∀ a b, R a b → P a = false → P b = false) : ∀ l : List α, l.Pairwise R → ∃ A B, l = A ++ B ∧ (∀ a ∈ A, P a = true) ∧ (∀ b ∈ B, P b = false)
  | [], _ => ⟨[], [], rfl, by simp, by simp⟩
  | a :: l, h => by
    obtain ⟨h1, h2⟩ := List.pairwise_cons.1 h
    cases ha : P a with
    | false => exact ⟨[], a :: l, rfl, by simp, fun b hb => by
        rcases List.mem_cons.1 hb with rfl | hb
        · exact ha
        · exact hR a b (h1 b hb) ha⟩
    | true =>
      obtain ⟨A, B, e, hA, hB⟩ := split_mono P R hR l h2
      exact ⟨a :: A, B, by rw [e]; rfl, fun b hb => by
        rcases List.mem_cons.1 hb with rfl | hb
        · exact ha
        · exact hA b hb, hB⟩
/-- Those ahead of the bytes from f on, ahead of t; those that touch them; those behind. -/
structure Cut (f t : Int) (l A J B : List Rg) : Prop where
  all : l = A ++ (J ++ B)
  ahead : ∀ p ∈ A, p.2 < f
  touch : ∀ p ∈ J, f ≤ p.2 ∧ p.1 ≤ t
  behind : ∀ p ∈ B, t < p.1
theorem cut_ex {n : Int} {l : List Rg} (h : Good n l) (f t : Int) : ∃ A J B, Cut f t l A J B := by
  have mono : ∀ a b : Rg, (0 ≤ a.1 ∧ a.1 < a.2 ∧ 0 ≤ b.1 ∧ b.1 < b.2 ∧ a.2 < b.1) → decide (a.2 < f) = false → decide (b.2 < f) = false := fun a b hab ha => by
    rw [decide_eq_false_iff_not] at ha ⊢; omega
  have mono2 : ∀ a b : Rg, (0 ≤ a.1 ∧ a.1 < a.2 ∧ 0 ≤ b.1 ∧ b.1 < b.2 ∧ a.2 < b.1) → decide (a.1 ≤ t) = false → decide (b.1 ≤ t) = false := fun a b hab ha => by
    rw [decide_eq_false_iff_not] at ha ⊢; omega
  have hp : l.Pairwise fun a b : Rg => 0 ≤ a.1 ∧ a.1 < a.2 ∧ 0 ≤ b.1 ∧ b.1 < b.2 ∧ a.2 < b.1 :=
    h.rise.imp_of_mem fun {a b} ha hb hab => by
      have := h.each a ha; have := h.each b hb; omega
  obtain ⟨A, R, e, hA, hR⟩ := split_mono (fun p : Rg => decide (p.2 < f)) _ mono l hp
  have hp2 := hp
  rw [e, List.pairwise_append] at hp2
  obtain ⟨J, B, e2, hJ, hB⟩ := split_mono (fun p : Rg => decide (p.1 ≤ t)) _ mono2 R hp2.2.1
  refine ⟨A, J, B, by rw [e, e2], fun p hp => of_decide_eq_true (hA p hp), fun p hp => ⟨?_, of_decide_eq_true (hJ p hp)⟩, fun p hp => ?_⟩
  · have := of_decide_eq_false (hR p (by rw [e2]; exact List.mem_append.2 (Or.inl hp))); omega
  · have := of_decide_eq_false (hB p hp); omega
def lo (f : Int) (J : List Rg) : Int := match J.head? with | none => f | some p => min f p.1
def hi (t : Int) (J : List Rg) : Int := match J.getLast? with | none => t | some p => max t p.2
theorem ex_head (f : Int) : ∀ J : List Rg, (∀ p ∈ J, f ≤ p.2 ∧ p.1 < p.2) → J.Pairwise (fun p q => p.2 < q.1) → (J.map fun p => max (f - p.1) 0).sum = f - lo f J
  | [], _, _ => by simp [lo]
  | p :: J, h, hp => by
    have h1 := (List.pairwise_cons.1 hp).1
    have e : (J.map fun p => max (f - p.1) 0).sum = 0 := by
      have : ∀ K : List Rg, (∀ q ∈ K, f ≤ q.1) → (K.map fun p => max (f - p.1) 0).sum = 0 := by
        intro K hK
        induction K with
        | nil => rfl
        | cons q K ih =>
          have := hK q (by simp)
          rw [List.map_cons, List.sum_cons, ih (fun x hx => hK x (by simp [hx]))]
          omega
      refine this J fun q hq => ?_
      have := h1 q hq; have := h p (by simp); omega
    rw [List.map_cons, List.sum_cons, e]
    simp only [lo, List.head?_cons]
    omega
theorem ex_last (t : Int) : ∀ J : List Rg, (∀ p ∈ J, p.1 ≤ t ∧ p.1 < p.2) → J.Pairwise (fun p q => p.2 < q.1) → (J.map fun p => max (p.2 - t) 0).sum = hi t J - t
  | [], _, _ => by simp [hi]
  | [p], h, _ => by simp [hi]; omega
  | p :: q :: J, h, hp => by
    have h1 := (List.pairwise_cons.1 hp).1 q (by simp)
    have h2 := h q (by simp)
    have ih := ex_last t (q :: J) (fun x hx => h x (by simp [List.mem_cons.1 hx])) (List.pairwise_cons.1 hp).2
    rw [List.map_cons, List.sum_cons, ih]
    have : hi t (p :: q :: J) = hi t (q :: J) := by simp [hi, List.getLast?_cons_cons]
    rw [this]
    omega
theorem size_lap (f t : Int) : ∀ J : List Rg, size J = lap f t J + (J.map fun p => max (f - p.1) 0).sum + (J.map fun p => max (p.2 - t) 0).sum
  | [] => by simp [size, lap]
  | p :: J => by
    have := size_lap f t J
    rw [size, lap, List.map_cons, List.map_cons, List.sum_cons, List.sum_cons]
    omega
theorem lo_le (f : Int) (J : List Rg) : lo f J ≤ f := by unfold lo; split <;> omega
theorem le_hi (t : Int) (J : List Rg) : t ≤ hi t J := by unfold hi; split <;> omega
theorem put {n : Int} {f t : Int} {l A J B : List Rg} (h : Good n l) (c : Cut f t l A J B) (h0 : 0 ≤ f) (h1 : f < t) (h2 : t ≤ n) :
    Good n (A ++ ((lo f J, hi t J) :: B)) ∧ (∀ x, Has (A ++ ((lo f J, hi t J) :: B)) x ↔ Has l x ∨ (f ≤ x ∧ x < t)) ∧ size (A ++ ((lo f J, hi t J) :: B)) = size l + ((t - f) - lap f t J) := by
  have he := h.each
  have hr := h.rise
  rw [c.all] at he
  rw [c.all, List.pairwise_append] at hr
  obtain ⟨rA, rJB, rAJB⟩ := hr
  rw [List.pairwise_append] at rJB
  obtain ⟨rJ, rB, rJB⟩ := rJB
  have eA : ∀ p ∈ A, 0 ≤ p.1 ∧ p.1 < p.2 ∧ p.2 ≤ n := fun p hp => he p (by simp [hp])
  have eJ : ∀ p ∈ J, 0 ≤ p.1 ∧ p.1 < p.2 ∧ p.2 ≤ n := fun p hp => he p (by simp [hp])
  have eB : ∀ p ∈ B, 0 ≤ p.1 ∧ p.1 < p.2 ∧ p.2 ≤ n := fun p hp => he p (by simp [hp])
  have lo1 := lo_le f J
  have hi1 := le_hi t J
  have lo2 : 0 ≤ lo f J := by
    unfold lo; split
    · exact h0
    · rename_i p e; have := eJ p (List.mem_of_mem_head? e); omega
  have hi2 : hi t J ≤ n := by
    unfold hi; split
    · exact h2
    · rename_i p e; have := eJ p (List.mem_of_mem_getLast? e); omega
  have lo3 : ∀ p ∈ A, p.2 < lo f J := fun p hp => by
    have := c.ahead p hp
    unfold lo; split
    · exact this
    · rename_i q e
      have := rAJB p hp q (by simp [List.mem_of_mem_head? e]); omega
  have hi3 : ∀ p ∈ B, hi t J < p.1 := fun p hp => by
    have := c.behind p hp
    unfold hi; split
    · exact this
    · rename_i q e
      have := rJB q (List.mem_of_mem_getLast? e) p hp; omega
  refine ⟨⟨?_, ?_⟩, fun x => ?_, ?_⟩
  · intro p hp
    rcases List.mem_append.1 hp with hp | hp
    · exact eA p hp
    · rcases List.mem_cons.1 hp with rfl | hp
      · exact ⟨lo2, by show lo f J < hi t J; omega, hi2⟩
      · exact eB p hp
  · rw [List.pairwise_append, List.pairwise_cons]
    refine ⟨rA, ⟨hi3, rB⟩, fun p hp q hq => ?_⟩
    rcases List.mem_cons.1 hq with rfl | hq
    · exact lo3 p hp
    · exact rAJB p hp q (by simp [hq])
  · have e1 : Has ((lo f J, hi t J) :: B) x ↔ (lo f J ≤ x ∧ x < hi t J) ∨ Has B x := by
      rw [show (lo f J, hi t J) :: B = [(lo f J, hi t J)] ++ B from rfl, has_append, has_one]
    have e2 : (lo f J ≤ x ∧ x < hi t J) ↔ Has J x ∨ (f ≤ x ∧ x < t) := by
      constructor
      · rintro ⟨g1, g2⟩
        by_cases g3 : x < f
        · left
          unfold lo at g1
          split at g1
          · omega
          · rename_i p e
            have := c.touch p (List.mem_of_mem_head? e)
            exact ⟨p, List.mem_of_mem_head? e, by omega, by omega⟩
        · by_cases g4 : x < t
          · right; omega
          · left
            unfold hi at g2
            split at g2
            · omega
            · rename_i p e
              have := c.touch p (List.mem_of_mem_getLast? e)
              exact ⟨p, List.mem_of_mem_getLast? e, by omega, by omega⟩
      · rintro (⟨p, hp, g1, g2⟩ | ⟨g1, g2⟩)
        · constructor
          · cases J with
            | nil => simp at hp
            | cons q K =>
              simp only [lo, List.head?_cons]
              rcases List.mem_cons.1 hp with rfl | hp
              · omega
              · have := (List.pairwise_cons.1 rJ).1 p hp; have := eJ q (by simp); omega
          · obtain ⟨K, q, rfl⟩ : ∃ K q, J = K ++ [q] := by
              rcases List.eq_nil_or_concat J with rfl | ⟨K, q, e⟩
              · simp at hp
              · exact ⟨K, q, by rw [e, List.concat_eq_append]⟩
            simp only [hi, List.getLast?_append, List.getLast?_singleton, Option.some_or]
            rcases List.mem_append.1 hp with hp | hp
            · have := (List.pairwise_append.1 rJ).2.2 p hp q (by simp); have := eJ q (by simp); omega
            · obtain rfl : p = q := by simpa using hp
              omega
        · omega
    rw [c.all, has_append, e1, has_append, has_append, e2]
    constructor
    · rintro (a | (a | a) | a)
      · exact Or.inl (Or.inl a)
      · exact Or.inl (Or.inr (Or.inl a))
      · exact Or.inr a
      · exact Or.inl (Or.inr (Or.inr a))
    · rintro ((a | a | a) | a)
      · exact Or.inl a
      · exact Or.inr (Or.inl (Or.inl a))
      · exact Or.inr (Or.inr a)
      · exact Or.inr (Or.inl (Or.inr a))
  · have s1 := size_lap f t J
    rw [ex_head f J (fun p hp => ⟨(c.touch p hp).1, (eJ p hp).2.1⟩) rJ, ex_last t J (fun p hp => ⟨(c.touch p hp).2, (eJ p hp).2.1⟩) rJ] at s1
    rw [c.all, size_append, size, size_append, size_append]
    show size A + ((hi t J - lo f J) + size B) = _
    omega
theorem not_has_below {n : Int} {p : Rg} {l : List Rg} (h : Good n (p :: l)) {x : Int} (hx : x < p.1) : ¬ Has (p :: l) x := by
  rintro ⟨q, hq, h1, h2⟩
  rcases List.mem_cons.1 hq with rfl | hq
  · omega
  · have := (List.pairwise_cons.1 h.rise).1 q hq; have := h.each p (by simp); omega
theorem Good.tail {n : Int} {p : Rg} {l : List Rg} (h : Good n (p :: l)) : Good n l := ⟨fun q hq => h.each q (by simp [hq]), (List.pairwise_cons.1 h.rise).2⟩
theorem has_tail {n : Int} {p : Rg} {l : List Rg} (h : Good n (p :: l)) (x : Int) : Has l x ↔ Has (p :: l) x ∧ p.2 < x := by
  constructor
  · rintro ⟨q, hq, h1, h2⟩
    have := (List.pairwise_cons.1 h.rise).1 q hq
    exact ⟨⟨q, by simp [hq], h1, h2⟩, by omega⟩
  · rintro ⟨⟨q, hq, h1, h2⟩, h3⟩
    rcases List.mem_cons.1 hq with rfl | hq
    · omega
    · exact ⟨q, hq, h1, h2⟩
theorem unique {n m : Int} : ∀ {l l' : List Rg}, Good n l → Good m l' → (∀ x, Has l x ↔ Has l' x) → l = l'
  | [], [], _, _, _ => rfl
  | [], q :: s, _, g, h => by
    have := g.each q (by simp)
    have : Has [] q.1 := (h q.1).2 ⟨q, by simp, by omega, by omega⟩
    simp [Has] at this
  | p :: r, [], g, _, h => by
    have := g.each p (by simp)
    have : Has [] p.1 := (h p.1).1 ⟨p, by simp, by omega, by omega⟩
    simp [Has] at this
  | p :: r, q :: s, g, g', h => by
    have gp := g.each p (by simp)
    have gq := g'.each q (by simp)
    have e1 : p.1 = q.1 := by
      rcases Int.lt_trichotomy p.1 q.1 with h1 | h1 | h1
      · exact absurd ((h p.1).1 ⟨p, by simp, by omega, by omega⟩) (not_has_below g' h1)
      · exact h1
      · exact absurd ((h q.1).2 ⟨q, by simp, by omega, by omega⟩) (not_has_below g h1)
    have no : ∀ {k : Int} {a : Rg} {l : List Rg}, Good k (a :: l) → ¬ Has (a :: l) a.2 := fun {k a l} G hh => by
      obtain ⟨b, hb, h1, h2⟩ := hh
      rcases List.mem_cons.1 hb with rfl | hb
      · omega
      · have := (List.pairwise_cons.1 G.rise).1 b hb; omega
    have e2 : p.2 = q.2 := by
      rcases Int.lt_trichotomy p.2 q.2 with h1 | h1 | h1
      · exact absurd ((h p.2).2 ⟨q, by simp, by omega, by omega⟩) (no g)
      · exact h1
      · exact absurd ((h q.2).1 ⟨p, by simp, by omega, by omega⟩) (no g')
    have e : p = q := Prod.ext e1 e2
    subst e
    rw [unique g.tail g'.tail fun x => by rw [has_tail g, has_tail g', h x]]
/-- What lies between them, from x on, ahead of e. -/
def gaps (e : Int) : Int → List Rg → List Rg
  | x, [] => if x < e then [(x, e)] else []
  | x, p :: r => if x < e then (if x < min e p.1 then [(x, min e p.1)] else []) ++ gaps e p.2 r else []
theorem gaps_len (e : Int) : ∀ (l : List Rg) (x : Int), (gaps e x l).length ≤ l.length + 1
  | [], x => by unfold gaps; split <;> simp
  | p :: r, x => by
    have := gaps_len e r p.2
    unfold gaps
    split
    · rw [List.length_append, List.length_cons]
      split <;> simp <;> omega
    · simp
theorem size_nonneg {n : Int} : ∀ {l : List Rg}, Good n l → 0 ≤ size l
  | [], _ => by simp [size]
  | p :: l, h => by have := size_nonneg h.tail; have := h.each p (by simp); unfold size; omega
theorem size_le {n : Int} : ∀ {l : List Rg} {x : Int}, Good n l → (∀ p ∈ l, x ≤ p.1) → x ≤ n → size l ≤ n - x
  | [], x, _, _, hx => by unfold size; omega
  | p :: l, x, h, hl, hx => by
    have h1 := h.each p (by simp)
    have h2 := hl p (by simp)
    have := size_le (x := p.2) h.tail (fun q hq => by have := (List.pairwise_cons.1 h.rise).1 q hq; omega) (by omega)
    unfold size; omega
/-- How many bytes are there from 0 on. -/
def front : List Rg → Int
  | [] => 0
  | p :: _ => if 0 < p.1 then 0 else p.2
theorem front_full {n : Int} {l : List Rg} (h : Good n l) (hn : 0 ≤ n) : front l = n ↔ size l = n := by
  cases l with
  | nil => simp [front, size]
  | cons p r =>
    have h1 := h.each p (by simp)
    have h2 := size_le (x := p.2) h.tail (fun q hq => by have := (List.pairwise_cons.1 h.rise).1 q hq; omega) (by omega)
    have h3 := size_nonneg h.tail
    show (if 0 < p.1 then 0 else p.2) = n ↔ (p.2 - p.1) + size r = n
    split
    · constructor <;> intro e
      · omega
      · exfalso; omega
    · constructor
      · intro e; omega
      · intro e
        cases r with
        | nil => unfold size at e; omega
        | cons q r =>
          have h4 := h.each q (by simp)
          have h5 := (List.pairwise_cons.1 h.rise).1 q (by simp)
          have := size_le (x := q.1) h.tail (fun q' hq => by
            rcases List.mem_cons.1 hq with rfl | hq
            · omega
            · have := (List.pairwise_cons.1 h.tail.rise).1 q' hq; omega) (by omega)
          omega
end Go.Proofs.YtjjamooihddkgaaGreat.IvM

/- Pieces of messages: plain mathematics. Conditions: each theorem's own. -/
namespace Go.Proofs.YtjjamooihddkgaaGreat.SgM
open IvM
/-- There is such a message, in such pieces. -/
def May (t m : Int) : Prop := 0 ≤ t ∧ t ≤ 1073741824 ∧ 1 ≤ m ∧ m ≤ 1048576
instance (t m : Int) : Decidable (May t m) := by unfold May; infer_instance
def cnt (t m : Int) : Int := if May t m then (if 1 < (t + m - 1) / m then (t + m - 1) / m else 1) else 0
theorem cnt_no {t m : Int} (h : ¬ May t m) : cnt t m = 0 := if_neg h
theorem cnt_yes {t m : Int} (h : May t m) : cnt t m = if 1 < (t + m - 1) / m then (t + m - 1) / m else 1 := if_pos h
theorem div_bd {x m : Int} (hm : 1 ≤ m) : x / m * m ≤ x ∧ x < x / m * m + m := by
  have h1 := Int.ediv_mul_le x (show m ≠ 0 by omega)
  have h2 := Int.lt_ediv_add_one_mul_self x (show 0 < m by omega)
  rw [Int.add_mul, Int.one_mul] at h2
  exact ⟨h1, h2⟩
theorem div_in {x m : Int} (hm : 1 ≤ m) (h0 : 0 ≤ x) (h1 : x ≤ 2147483648) : 0 ≤ x / m ∧ x / m ≤ x := by
  exact ⟨Int.ediv_nonneg h0 (by omega), Int.ediv_le_self _ h0⟩
theorem cnt_pos {t m : Int} (h : May t m) : 1 ≤ cnt t m := by
  rw [cnt_yes h]; split <;> omega
theorem cnt_nonneg (t m : Int) : 0 ≤ cnt t m := by
  by_cases h : May t m
  · have := cnt_pos h; omega
  · rw [cnt_no h]; exact Int.le_refl _
theorem cnt_le {t m : Int} (h : May t m) : cnt t m ≤ 1073741824 := by
  rw [cnt_yes h]
  obtain ⟨h0, h1, h2, h3⟩ := h
  split
  · rcases Int.lt_or_le (t + m - 1) m with hx | hx
    · have := Int.ediv_eq_zero_of_lt (show 0 ≤ t + m - 1 by omega) hx; omega
    · have := div_bd (x := t + m - 1) h2
      have e : (t + m - 1) / m * m = (t + m - 1) / m + (t + m - 1) / m * (m - 1) := by rw [Int.mul_sub]; omega
      have := Int.mul_nonneg (show 0 ≤ (t + m - 1) / m - 1 by omega) (show 0 ≤ m - 1 by omega)
      rw [Int.sub_mul] at this
      omega
  · omega
/-- Which number is a piece's. -/
theorem lt_cnt {t m k : Int} (h : May t m) (hk : 0 ≤ k) : k < cnt t m ↔ k = 0 ∨ k * m < t := by
  have hc := cnt_yes h
  obtain ⟨h0, h1, h2, h3⟩ := h
  have hb := div_bd (x := t + m - 1) h2
  generalize (t + m - 1) / m = q at *
  have key : k < q ↔ k * m < t := by
    constructor
    · intro hq
      have := Int.mul_le_mul_of_nonneg_right (show k + 1 ≤ q by omega) (show 0 ≤ m by omega)
      rw [Int.add_mul] at this; omega
    · intro hq
      rcases Int.lt_or_le k q with h | h
      · exact h
      · have := Int.mul_le_mul_of_nonneg_right h (show 0 ≤ m by omega)
        omega
  rw [hc]
  split
  · rw [← key]; constructor
    · exact Or.inr
    · rintro (rfl | h) <;> omega
  · constructor
    · intro h; left; omega
    · rintro (h | h)
      · omega
      · have := key.2 h; omega
/-- A piece. -/
def pc (t m k : Int) : Rg := (k * m, min (k * m + m) t)
def at' (t m off : Int) : Int := if May t m ∧ 0 ≤ off ∧ off < max 1 t then off / m else -1
theorem at_yes {t m off : Int} (h : May t m) (h0 : 0 ≤ off) (h1 : off < max 1 t) : at' t m off = off / m := if_pos ⟨h, h0, h1⟩
theorem at_no {t m off : Int} (h : ¬ (May t m ∧ 0 ≤ off ∧ off < max 1 t)) : at' t m off = -1 := if_neg h
theorem at_in {t m k : Int} (h : May t m) (hk : 0 ≤ k) {off : Int} (h0 : k * m ≤ off) (h1 : off < min (k * m + m) t) : at' t m off = k := by
  obtain ⟨g0, g1, g2, g3⟩ := id h
  have hn := Int.mul_nonneg hk (show 0 ≤ m by omega)
  rw [at_yes h (by omega) (by omega)]
  have := div_bd (x := off) g2
  generalize off / m = q at *
  rcases Int.lt_trichotomy q k with hq | hq | hq
  · have := Int.mul_le_mul_of_nonneg_right (show q + 1 ≤ k by omega) (show 0 ≤ m by omega)
    rw [Int.add_mul] at this; omega
  · exact hq
  · have := Int.mul_le_mul_of_nonneg_right (show k + 1 ≤ q by omega) (show 0 ≤ m by omega)
    rw [Int.add_mul] at this; omega
/-- The pieces that have a byte of a range. -/
def cutN (f to m : Int) : Nat := ((to - 1) / m - f / m + 1).toNat
def cut (f u t m : Int) : List Rg := if May t m ∧ 0 ≤ f ∧ f < min u t then (List.range (cutN f (min u t) m)).map fun i => pc t m (f / m + (i : Nat)) else []
theorem mulM {k m : Int} (hk : 0 ≤ k) (hk2 : k ≤ 2147483648) (hm : 1 ≤ m) (hm2 : m ≤ 1048576) : 0 ≤ k * m ∧ k * m ≤ 2251799813685248 := by
  constructor
  · exact Int.mul_nonneg hk (by omega)
  · have h1 := Int.mul_le_mul_of_nonneg_right hk2 (show 0 ≤ m by omega)
    have h2 : 2147483648 * m ≤ 2251799813685248 := by omega
    omega
theorem div_mono {a b m : Int} (hm : 1 ≤ m) (h : a ≤ b) : a / m ≤ b / m := Int.ediv_le_ediv (by omega) h
theorem cnt_le_max {t m : Int} (h : May t m) : cnt t m ≤ max 1 t := by
  rcases Int.lt_or_le (max 1 t) (cnt t m) with h1 | h1
  · have h2 := (lt_cnt h (k := cnt t m - 1) (by omega)).1 (by omega)
    rcases h2 with h2 | h2
    · omega
    · have := Int.mul_le_mul_of_nonneg_left (show 1 ≤ m from h.2.2.1) (show 0 ≤ cnt t m - 1 by omega)
      rw [Int.mul_one] at this
      omega
  · exact h1
/-- Does a piece have a byte of the range? -/
def hit (f u t m k : Int) : Prop := max (pc t m k).1 f < min (pc t m k).2 u
instance (f u t m k : Int) : Decidable (hit f u t m k) := by unfold hit; infer_instance
def sel (f u t m : Int) : Nat → List Rg
  | 0 => []
  | k + 1 => sel f u t m k ++ if hit f u t m k then [pc t m k] else []
theorem hit_iff {f u t m k : Int} (h : May t m) (h0 : 0 ≤ f) (h1 : f < min u t) (hk : k * m < t) : hit f u t m k ↔ f / m ≤ k ∧ k ≤ (min u t - 1) / m := by
  obtain ⟨g0, g1, g2, g3⟩ := h
  have e1 := Int.le_ediv_iff_mul_le (a := k) (b := min u t - 1) (c := m) (by omega)
  have e2 := Int.ediv_lt_iff_lt_mul (a := f) (b := k + 1) (c := m) (by omega)
  rw [Int.add_mul, Int.one_mul] at e2
  rw [e1, show f / m ≤ k ↔ f / m < k + 1 by omega, e2]
  unfold hit pc
  dsimp only
  omega
theorem sel_eq {f u t m : Int} (h : May t m) (h0 : 0 ≤ f) (h1 : f < min u t) : ∀ k : Nat, (k : Int) ≤ cnt t m →
    sel f u t m k = (List.range (min k (((min u t - 1) / m).toNat + 1) - (f / m).toNat)).map fun i => pc t m (f / m + (i : Nat))
  | 0, _ => by simp [sel]
  | k + 1, hk => by
    have ih := sel_eq h h0 h1 k (by omega)
    have hkt : (k : Int) * m < t := by
      rcases (lt_cnt h (k := k) (by omega)).1 (by omega) with h2 | h2
      · rw [h2]; omega
      · exact h2
    have hh := hit_iff h h0 h1 hkt
    have ha := (div_in (x := f) h.2.2.1 h0 (by have := h.2.1; omega)).1
    have hb := (div_in (x := min u t - 1) h.2.2.1 (by omega) (by have := h.2.1; omega)).1
    rw [sel, ih]
    generalize (min u t - 1) / m = b at *
    generalize f / m = a at *
    by_cases hc : a ≤ (k : Int) ∧ (k : Int) ≤ b
    · rw [if_pos (hh.2 hc), show min (k + 1) (b.toNat + 1) - a.toNat = (min k (b.toNat + 1) - a.toNat) + 1 by omega, List.range_succ, List.map_append]
      congr 1
      simp only [List.map_cons, List.map_nil]
      congr 2
      omega
    · rw [if_neg (fun g => hc (hh.1 g)), List.append_nil, show min (k + 1) (b.toNat + 1) - a.toNat = min k (b.toNat + 1) - a.toNat by omega]
theorem sel_none {f u t m : Int} (h0 : ¬ f < min u t) : ∀ k : Nat, sel f u t m k = []
  | 0 => rfl
  | k + 1 => by
    rw [sel, sel_none h0 k, if_neg (by unfold hit pc; dsimp only; omega)]
    rfl
theorem sel_cut {f u t m : Int} (h0 : 0 ≤ f) : sel f u t m (cnt t m).toNat = cut f u t m := by
  by_cases h : May t m
  · by_cases h1 : f < min u t
    · rw [sel_eq h h0 h1 _ (by have := cnt_nonneg t m; omega)]
      unfold cut
      rw [if_pos ⟨h, h0, h1⟩]
      congr 2
      unfold cutN
      have ha := (div_in (x := f) h.2.2.1 h0 (by have := h.2.1; omega)).1
      have hb := (div_in (x := min u t - 1) h.2.2.1 (by omega) (by have := h.2.1; omega)).1
      have hc := (lt_cnt h hb).2 (Or.inr (by have := (div_bd (x := min u t - 1) h.2.2.1).1; omega))
      omega
    · rw [sel_none h1, cut, if_neg (fun g => h1 g.2.2)]
  · rw [cnt_no h, cut, if_neg (fun g => h g.1)]
    rfl
theorem cut_off {f u t m : Int} (h : f < 0 ∨ u < f) : cut f u t m = [] := if_neg (by omega)
theorem cut_len {f u t m : Int} : ((cut f u t m).length : Int) ≤ max 1 t := by
  by_cases h : May t m ∧ 0 ≤ f ∧ f < min u t
  · unfold cut
    rw [if_pos h, List.length_map, List.length_range]
    unfold cutN
    have ha := div_in (x := f) h.1.2.2.1 h.2.1 (by have := h.1.2.1; omega)
    have hb := div_in (x := min u t - 1) h.1.2.2.1 (by omega) (by have := h.1.2.1; omega)
    omega
  · unfold cut
    rw [if_neg h]
    simp; omega
/-- What is asked of a cut's pieces. -/
structure Cuts (f u t m : Int) (L : List Rg) : Prop where
  pos : 0 < L.length
  few : (L.length : Int) ≤ t
  first : (L.getD 0 (0, 0)).1 ≤ f
  last : u ≤ (L.getD (L.length - 1) (0, 0)).2
  each : ∀ i, i < L.length → 0 ≤ (L.getD i (0, 0)).1 ∧ (L.getD i (0, 0)).1 < u ∧ f < (L.getD i (0, 0)).2 ∧ (L.getD i (0, 0)).2 ≤ t ∧ (L.getD i (0, 0)).1.tmod m = 0
  next : ∀ i, 0 < i → i < L.length → (L.getD i (0, 0)).1 = (L.getD (i - 1) (0, 0)).2
theorem cuts_ok {f u t m : Int} (h : May t m) (h0 : 0 ≤ f) (h1 : f < u) (h2 : u ≤ t) : Cuts f u t m (cut f u t m) := by
  obtain ⟨g0, g1, g2, g3⟩ := id h
  have hu : min u t = u := by omega
  have ha := div_in (x := f) g2 h0 (by omega)
  have hb := div_in (x := u - 1) g2 (by omega) (by omega)
  have hmo := div_mono g2 (show f ≤ u - 1 by omega)
  have da := div_bd (x := f) g2
  have db := div_bd (x := u - 1) g2
  have e : cut f u t m = (List.range (cutN f u m)).map fun i => pc t m (f / m + (i : Nat)) := by
    unfold cut
    rw [hu, if_pos ⟨h, h0, h1⟩]
  have hn : (cutN f u m : Int) = (u - 1) / m - f / m + 1 := by unfold cutN; omega
  have hl : (cut f u t m).length = cutN f u m := by rw [e, List.length_map, List.length_range]
  have hg : ∀ i, i < cutN f u m → (cut f u t m).getD i (0, 0) = pc t m (f / m + (i : Nat)) := fun i hi => by
    rw [e, List.getD_eq_getElem?_getD, List.getElem?_map, List.getElem?_range hi]
    rfl
  generalize cutN f u m = n at *
  generalize (u - 1) / m = b at *
  generalize f / m = a at *
  have hk : ∀ i : Nat, i < n → 0 ≤ (a + i) * m ∧ (a + i) * m < u ∧ f < (a + i) * m + m := fun i hi => by
    have x1 := Int.mul_nonneg (show 0 ≤ a + (i : Int) by omega) (show 0 ≤ m by omega)
    have x2 := Int.mul_le_mul_of_nonneg_right (show a + (i : Int) ≤ b by omega) (show 0 ≤ m by omega)
    have x3 := Int.mul_le_mul_of_nonneg_right (show a ≤ a + (i : Int) by omega) (show 0 ≤ m by omega)
    omega
  refine ⟨by omega, by rw [hl]; omega, ?_, ?_, ?_, ?_⟩
  · rw [hg 0 (by omega)]
    show (a + ((0 : Nat) : Int)) * m ≤ f
    rw [show a + ((0 : Nat) : Int) = a by omega]
    exact da.1
  · rw [hl, hg (n - 1) (by omega), show a + ((n - 1 : Nat) : Int) = b by omega]
    show u ≤ min (b * m + m) t
    omega
  · intro i hi
    rw [hl] at hi
    rw [hg i hi]
    have := hk i hi
    refine ⟨this.1, this.2.1, ?_, ?_, ?_⟩
    · show f < min ((a + i) * m + m) t
      omega
    · show min ((a + i) * m + m) t ≤ t
      omega
    · exact Int.mul_tmod_left _ _
  · intro i hi0 hi
    rw [hl] at hi
    rw [hg i hi, hg (i - 1) (by omega)]
    have := hk i hi
    have e2 : (a + ((i - 1 : Nat) : Int)) * m + m = (a + (i : Int)) * m := by
      rw [show a + (i : Int) = a + ((i - 1 : Nat) : Int) + 1 by omega, Int.add_mul (a + ((i - 1 : Nat) : Int)), Int.one_mul]
    show (a + (i : Int)) * m = min ((a + ((i - 1 : Nat) : Int)) * m + m) t
    rw [e2]
    omega
end Go.Proofs.YtjjamooihddkgaaGreat.SgM

/- Messages put together: how many bytes are fresh, whether bytes clash; plain mathematics. Conditions: each theorem's own. -/
namespace Go.Proofs.YtjjamooihddkgaaGreat.RmM
open IvM
instance (l : List Rg) (x : Int) : Decidable (Has l x) := by unfold Has; infer_instance
/-- So many of the bytes from f on, ahead of t, are there. -/
def inn (f t : Int) : List Rg → Int
  | [] => 0
  | p :: l => max 0 (min t p.2 - max f p.1) + inn f t l
theorem inn_append (f t : Int) : ∀ a b : List Rg, inn f t (a ++ b) = inn f t a + inn f t b
  | [], b => by simp [inn]
  | p :: a, b => by rw [List.cons_append, inn, inn_append f t a b, inn]; omega
theorem inn_zero {f t : Int} : ∀ {l : List Rg}, (∀ p ∈ l, min t p.2 ≤ max f p.1) → inn f t l = 0
  | [], _ => rfl
  | p :: l, h => by
    have h1 := h p (by simp)
    have h2 := inn_zero (f := f) (t := t) (l := l) fun q hq => h q (by simp [hq])
    rw [inn, h2]; omega
theorem inn_step {n : Int} {f x : Int} (hf : f ≤ x) : ∀ {l : List Rg}, Good n l → inn f (x + 1) l = inn f x l + if Has l x then 1 else 0
  | [], _ => by simp [inn, Has]
  | p :: l, h => by
    have ih := inn_step hf h.tail
    have hp := h.each p (by simp)
    have ht := has_tail h x
    unfold inn
    by_cases c : p.1 ≤ x ∧ x < p.2
    · have h1 : Has (p :: l) x := ⟨p, by simp, c⟩
      have h2 : ¬ Has l x := fun g => by have := (ht.1 g).2; omega
      rw [if_pos h1]
      rw [if_neg h2] at ih
      omega
    · by_cases h1 : Has l x
      · have h2 : Has (p :: l) x := (ht.1 h1).1
        rw [if_pos h2]
        rw [if_pos h1] at ih
        omega
      · have h2 : ¬ Has (p :: l) x := by
          rintro ⟨q, hq, hh⟩
          rcases List.mem_cons.1 hq with rfl | hq
          · exact c hh
          · exact h1 ⟨q, hq, hh⟩
        rw [if_neg h2]
        rw [if_neg h1] at ih
        omega
theorem inn_bd {n : Int} {l : List Rg} (h : Good n l) (f : Int) : ∀ k : Nat, 0 ≤ inn f (f + k) l ∧ inn f (f + k) l ≤ k ∧ (inn f (f + k) l = k ↔ ∀ x, f ≤ x → x < f + k → Has l x) ∧ (inn f (f + k) l = 0 ↔ ∀ x, f ≤ x → x < f + k → ¬ Has l x)
  | 0 => by
    have e : inn f (f + ((0 : Nat) : Int)) l = 0 := inn_zero fun p _ => by omega
    rw [e]
    exact ⟨by omega, by omega, ⟨fun _ x h1 h2 => by omega, fun _ => rfl⟩, ⟨fun _ x h1 h2 => by omega, fun _ => rfl⟩⟩
  | k + 1 => by
    obtain ⟨h1, h2, h3, h4⟩ := inn_bd h f k
    have e := inn_step (f := f) (x := f + k) (by omega) h
    rw [show f + (k : Int) + 1 = f + ((k + 1 : Nat) : Int) by omega] at e
    rw [e]
    by_cases c : Has l (f + k)
    · rw [if_pos c]
      refine ⟨by omega, by omega, ⟨fun g x g1 g2 => ?_, fun g => ?_⟩, ⟨fun g => by omega, fun g => absurd c (g _ (by omega) (by omega))⟩⟩
      · by_cases hx : x = f + k
        · rw [hx]; exact c
        · exact h3.1 (by omega) x g1 (by omega)
      · have := h3.2 fun x g1 g2 => g x g1 (by omega)
        omega
    · rw [if_neg c]
      refine ⟨by omega, by omega, ⟨fun g => by omega, fun g => absurd (g _ (by omega) (by omega)) c⟩, ⟨fun g x g1 g2 => ?_, fun g => ?_⟩⟩
      · by_cases hx : x = f + k
        · rw [hx]; exact c
        · exact h4.1 (by omega) x g1 (by omega)
      · have := h4.2 fun x g1 g2 => g x g1 (by omega)
        omega
theorem lap_inn {n : Int} {f t : Int} {l A J B : List Rg} (h : Good n l) (c : Cut f t l A J B) (hft : f ≤ t) : lap f t J = inn f t l := by
  rw [c.all, inn_append, inn_append, inn_zero (l := A) fun p hp => by have := c.ahead p hp; omega, inn_zero (l := B) fun p hp => by have := c.behind p hp; omega]
  have hJ : ∀ p ∈ J, (f ≤ p.2 ∧ p.1 ≤ t) ∧ p.1 < p.2 := fun p hp => ⟨c.touch p hp, (h.each p (by rw [c.all]; simp [hp])).2.1⟩
  have : ∀ K : List Rg, (∀ p ∈ K, (f ≤ p.2 ∧ p.1 ≤ t) ∧ p.1 < p.2) → lap f t K = inn f t K := by
    intro K
    induction K with
    | nil => intro _; rfl
    | cons p K ih =>
      intro hK
      have h1 := hK p (by simp)
      rw [lap, inn, ih fun q hq => hK q (by simp [hq])]
      omega
  rw [this J hJ]
  omega
/-- How many bytes are fresh. -/
def fr (l : List Rg) (f t : Int) : Int := (t - f) - inn f t l
theorem fr_bd {n : Int} {l : List Rg} (h : Good n l) (f : Int) (k : Nat) : 0 ≤ fr l f (f + k) ∧ fr l f (f + k) ≤ k ∧ (fr l f (f + k) = 0 ↔ ∀ x, f ≤ x → x < f + k → Has l x) ∧ (fr l f (f + k) = k ↔ ∀ x, f ≤ x → x < f + k → ¬ Has l x) := by
  obtain ⟨h1, h2, h3, h4⟩ := inn_bd h f k
  unfold fr
  refine ⟨by omega, by omega, ?_, ?_⟩
  · rw [← h3]; omega
  · rw [← h4]; omega
theorem size_put {n : Int} {l L : List Rg} (h : Good n l) (hL : Good n L) {f t : Int} (h0 : 0 ≤ f) (h1 : f < t) (h2 : t ≤ n) (hx : ∀ x, Has L x ↔ Has l x ∨ (f ≤ x ∧ x < t)) : size L = size l + fr l f t := by
  obtain ⟨A, J, B, c⟩ := cut_ex h f t
  obtain ⟨g1, g2, g3⟩ := put h c h0 h1 h2
  rw [unique hL g1 fun x => (hx x).trans (g2 x).symm, g3, lap_inn h c (by omega)]
  rfl
/-- One of these bytes is there already, and another one. -/
def Clash (l : List Rg) (D K : List UInt8) (off : Nat) : Prop := ∃ (i : Nat) (y : UInt8), K[i]? = some y ∧ Has l ((off : Int) + (i : Int)) ∧ D[off + i]? ≠ some y
theorem lt_of_get {K : List UInt8} {i : Nat} {y : UInt8} (h : K[i]? = some y) : i < K.length := (List.getElem?_eq_some_iff.1 h).1
theorem clash_none {l : List Rg} {D K : List UInt8} {off : Nat} (h : ∀ x, (off : Int) ≤ x → x < (off : Int) + (K.length : Nat) → ¬ Has l x) : ¬ Clash l D K off := by
  rintro ⟨i, y, hy, hh, _⟩
  have := lt_of_get hy
  exact h _ (by omega) (by omega) hh
theorem clash_all {l : List Rg} {D K : List UInt8} {off : Nat} (h : ∀ x, (off : Int) ≤ x → x < (off : Int) + (K.length : Nat) → Has l x) : Clash l D K off ↔ ¬ (D.drop off).take K.length = K := by
  constructor
  · rintro ⟨i, y, hy, _, hne⟩ e
    have hi := lt_of_get hy
    rw [← e, List.getElem?_take, if_pos hi, List.getElem?_drop] at hy
    exact hne hy
  · intro hne
    refine Classical.byContradiction fun hc => hne ?_
    refine List.ext_getElem? fun i => ?_
    by_cases hi : i < K.length
    · rw [List.getElem?_take, if_pos hi, List.getElem?_drop]
      refine Classical.byContradiction fun hd => hc ⟨i, K[i], List.getElem?_eq_getElem hi, h _ (by omega) (by omega), ?_⟩
      rw [List.getElem?_eq_getElem hi] at hd
      exact hd
    · rw [List.getElem?_take, if_neg hi, List.getElem?_eq_none (by omega)]
theorem clash_split {l : List Rg} {D K : List UInt8} {off : Nat} (h : Nat) (hh : h ≤ K.length) : Clash l D K off ↔ Clash l D (K.take h) off ∨ Clash l D (K.drop h) (off + h) := by
  constructor
  · rintro ⟨i, y, hy, h1, h2⟩
    by_cases hi : i < h
    · exact Or.inl ⟨i, y, by rw [List.getElem?_take, if_pos hi]; exact hy, h1, h2⟩
    · refine Or.inr ⟨i - h, y, by rw [List.getElem?_drop, show h + (i - h) = i by omega]; exact hy, ?_, ?_⟩
      · rw [show ((off + h : Nat) : Int) + ((i - h : Nat) : Int) = (off : Int) + (i : Int) by omega]; exact h1
      · rw [show off + h + (i - h) = off + i by omega]; exact h2
  · rintro (⟨i, y, hy, h1, h2⟩ | ⟨i, y, hy, h1, h2⟩)
    · have hi := lt_of_get hy
      rw [List.length_take] at hi
      rw [List.getElem?_take, if_pos (by omega)] at hy
      exact ⟨i, y, hy, h1, h2⟩
    · rw [List.getElem?_drop] at hy
      refine ⟨h + i, y, hy, ?_, ?_⟩
      · rw [show (off : Int) + ((h + i : Nat) : Int) = ((off + h : Nat) : Int) + (i : Int) by omega]; exact h1
      · rw [show off + (h + i) = off + h + i by omega]; exact h2
/-- Bytes written over others. -/
def over (D K : List UInt8) (off : Nat) : List UInt8 := D.take off ++ (K ++ D.drop (off + K.length))
theorem over_len {D K : List UInt8} {off : Nat} (h : off + K.length ≤ D.length) : (over D K off).length = D.length := by
  unfold over; rw [List.length_append, List.length_append, List.length_take, List.length_drop]; omega
theorem over_in {D K : List UInt8} {off : Nat} (h : off + K.length ≤ D.length) {i : Nat} (hi : off ≤ i) (hi2 : i < off + K.length) : (over D K off)[i]? = K[i - off]? := by
  unfold over
  rw [List.getElem?_append_right (by rw [List.length_take]; omega), List.length_take, List.getElem?_append_left (by omega)]
  congr 1; omega
theorem over_out {D K : List UInt8} {off : Nat} (h : off + K.length ≤ D.length) {i : Nat} (hi : i < off ∨ off + K.length ≤ i) : (over D K off)[i]? = D[i]? := by
  unfold over
  rcases hi with hi | hi
  · rw [List.getElem?_append_left (by rw [List.length_take]; omega), List.getElem?_take, if_pos hi]
  · rw [List.getElem?_append_right (by rw [List.length_take]; omega), List.length_take, List.getElem?_append_right (by omega), List.getElem?_drop]
    congr 1; omega
end Go.Proofs.YtjjamooihddkgaaGreat.RmM

