/- Ranges in a list: which bytes they have; one more put in; what lies between them. Conditions: each theorem's own. -/
import Derived.Test.YtfkcplapmkpkbaaRows
set_option linter.unusedVariables false
namespace Go.Proofs.Ytfkcplapmkpkbaa.IvM
abbrev Rg := Int × Int
def Has (l : List Rg) (x : Int) : Prop := ∃ p ∈ l, p.1 ≤ x ∧ x < p.2
def size : List Rg → Int
  | [] => 0
  | p :: l => (p.2 - p.1) + size l
/-- So much of the bytes from f on, ahead of t, lies in these. -/
def lap (f t : Int) : List Rg → Int
  | [] => 0
  | p :: l => (min t p.2 - max f p.1) + lap f t l
structure Good (n : Int) (l : List Rg) : Prop where
  each : ∀ p ∈ l, 0 ≤ p.1 ∧ p.1 < p.2 ∧ p.2 ≤ n
  rise : l.Pairwise fun p q => p.2 < q.1
theorem Good.nil (n : Int) : Good n [] := ⟨by simp, List.Pairwise.nil⟩
theorem size_append : ∀ a b : List Rg, size (a ++ b) = size a + size b
  | [], b => by simp [size]
  | p :: a, b => by rw [List.cons_append, size, size_append a b, size]; omega
theorem has_append {a b : List Rg} {x : Int} : Has (a ++ b) x ↔ Has a x ∨ Has b x := by
  unfold Has
  constructor
  · rintro ⟨p, hp, h⟩
    rcases List.mem_append.1 hp with h' | h'
    · exact Or.inl ⟨p, h', h⟩
    · exact Or.inr ⟨p, h', h⟩
  · rintro (⟨p, hp, h⟩ | ⟨p, hp, h⟩)
    · exact ⟨p, List.mem_append.2 (Or.inl hp), h⟩
    · exact ⟨p, List.mem_append.2 (Or.inr hp), h⟩
theorem has_one {p : Rg} {x : Int} : Has [p] x ↔ p.1 ≤ x ∧ x < p.2 := by simp [Has]
theorem split_mono {α : Type} (P : α → Bool) (R : α → α → Prop) (hR : ∀ a b, R a b → P a = false → P b = false) : ∀ l : List α, l.Pairwise R → ∃ A B, l = A ++ B ∧ (∀ a ∈ A, P a = true) ∧ (∀ b ∈ B, P b = false)
  | [], _ => ⟨[], [], rfl, by simp, by simp⟩
  | a :: l, h => by
    obtain ⟨h1, h2⟩ := List.pairwise_cons.1 h
    cases ha : P a with
    | false => exact ⟨[], a :: l, rfl, by simp, fun b hb => by
        rcases List.mem_cons.1 hb with rfl | hb
        · exact ha
        · exact hR a b (h1 b hb) ha⟩
    | true =>
      obtain ⟨A, B, e, hA, hB⟩ := split_mono P R hR l h2
      exact ⟨a :: A, B, by rw [e]; rfl, fun b hb => by
        rcases List.mem_cons.1 hb with rfl | hb
        · exact ha
        · exact hA b hb, hB⟩
/-- Those ahead of the bytes from f on, ahead of t; those that touch them; those behind. -/
structure Cut (f t : Int) (l A J B : List Rg) : Prop where
  all : l = A ++ (J ++ B)
  ahead : ∀ p ∈ A, p.2 < f
  touch : ∀ p ∈ J, f ≤ p.2 ∧ p.1 ≤ t
  behind : ∀ p ∈ B, t < p.1
theorem cut_ex {n : Int} {l : List Rg} (h : Good n l) (f t : Int) : ∃ A J B, Cut f t l A J B := by
  have mono : ∀ a b : Rg, (0 ≤ a.1 ∧ a.1 < a.2 ∧ 0 ≤ b.1 ∧ b.1 < b.2 ∧ a.2 < b.1) → decide (a.2 < f) = false → decide (b.2 < f) = false := fun a b hab ha => by
    rw [decide_eq_false_iff_not] at ha ⊢; omega
  have mono2 : ∀ a b : Rg, (0 ≤ a.1 ∧ a.1 < a.2 ∧ 0 ≤ b.1 ∧ b.1 < b.2 ∧ a.2 < b.1) → decide (a.1 ≤ t) = false → decide (b.1 ≤ t) = false := fun a b hab ha => by
    rw [decide_eq_false_iff_not] at ha ⊢; omega
  have hp : l.Pairwise fun a b : Rg => 0 ≤ a.1 ∧ a.1 < a.2 ∧ 0 ≤ b.1 ∧ b.1 < b.2 ∧ a.2 < b.1 :=
    h.rise.imp_of_mem fun {a b} ha hb hab => by
      have := h.each a ha; have := h.each b hb; omega
  obtain ⟨A, R, e, hA, hR⟩ := split_mono (fun p : Rg => decide (p.2 < f)) _ mono l hp
  have hp2 := hp
  rw [e, List.pairwise_append] at hp2
  obtain ⟨J, B, e2, hJ, hB⟩ := split_mono (fun p : Rg => decide (p.1 ≤ t)) _ mono2 R hp2.2.1
  refine ⟨A, J, B, by rw [e, e2], fun p hp => of_decide_eq_true (hA p hp), fun p hp => ⟨?_, of_decide_eq_true (hJ p hp)⟩, fun p hp => ?_⟩
  · have := of_decide_eq_false (hR p (by rw [e2]; exact List.mem_append.2 (Or.inl hp))); omega
  · have := of_decide_eq_false (hB p hp); omega
def lo (f : Int) (J : List Rg) : Int := match J.head? with | none => f | some p => min f p.1
def hi (t : Int) (J : List Rg) : Int := match J.getLast? with | none => t | some p => max t p.2
theorem ex_head (f : Int) : ∀ J : List Rg, (∀ p ∈ J, f ≤ p.2 ∧ p.1 < p.2) → J.Pairwise (fun p q => p.2 < q.1) → (J.map fun p => max (f - p.1) 0).sum = f - lo f J
  | [], _, _ => by simp [lo]
  | p :: J, h, hp => by
    have h1 := (List.pairwise_cons.1 hp).1
    have e : (J.map fun p => max (f - p.1) 0).sum = 0 := by
      have : ∀ K : List Rg, (∀ q ∈ K, f ≤ q.1) → (K.map fun p => max (f - p.1) 0).sum = 0 := by
        intro K hK
        induction K with
        | nil => rfl
        | cons q K ih =>
          have := hK q (by simp)
          rw [List.map_cons, List.sum_cons, ih (fun x hx => hK x (by simp [hx]))]
          omega
      refine this J fun q hq => ?_
      have := h1 q hq; have := h p (by simp); omega
    rw [List.map_cons, List.sum_cons, e]
    simp only [lo, List.head?_cons]
    omega
theorem ex_last (t : Int) : ∀ J : List Rg, (∀ p ∈ J, p.1 ≤ t ∧ p.1 < p.2) → J.Pairwise (fun p q => p.2 < q.1) → (J.map fun p => max (p.2 - t) 0).sum = hi t J - t
  | [], _, _ => by simp [hi]
  | [p], h, _ => by simp [hi]; omega
  | p :: q :: J, h, hp => by
    have h1 := (List.pairwise_cons.1 hp).1 q (by simp)
    have h2 := h q (by simp)
    have ih := ex_last t (q :: J) (fun x hx => h x (by simp [List.mem_cons.1 hx])) (List.pairwise_cons.1 hp).2
    rw [List.map_cons, List.sum_cons, ih]
    have : hi t (p :: q :: J) = hi t (q :: J) := by simp [hi, List.getLast?_cons_cons]
    rw [this]
    omega
theorem size_lap (f t : Int) : ∀ J : List Rg, size J = lap f t J + (J.map fun p => max (f - p.1) 0).sum + (J.map fun p => max (p.2 - t) 0).sum
  | [] => by simp [size, lap]
  | p :: J => by
    have := size_lap f t J
    rw [size, lap, List.map_cons, List.map_cons, List.sum_cons, List.sum_cons]
    omega
theorem lo_le (f : Int) (J : List Rg) : lo f J ≤ f := by unfold lo; split <;> omega
theorem le_hi (t : Int) (J : List Rg) : t ≤ hi t J := by unfold hi; split <;> omega
theorem put {n : Int} {f t : Int} {l A J B : List Rg} (h : Good n l) (c : Cut f t l A J B) (h0 : 0 ≤ f) (h1 : f < t) (h2 : t ≤ n) :
    Good n (A ++ ((lo f J, hi t J) :: B)) ∧ (∀ x, Has (A ++ ((lo f J, hi t J) :: B)) x ↔ Has l x ∨ (f ≤ x ∧ x < t)) ∧ size (A ++ ((lo f J, hi t J) :: B)) = size l + ((t - f) - lap f t J) := by
  have he := h.each
  have hr := h.rise
  rw [c.all] at he
  rw [c.all, List.pairwise_append] at hr
  obtain ⟨rA, rJB, rAJB⟩ := hr
  rw [List.pairwise_append] at rJB
  obtain ⟨rJ, rB, rJB⟩ := rJB
  have eA : ∀ p ∈ A, 0 ≤ p.1 ∧ p.1 < p.2 ∧ p.2 ≤ n := fun p hp => he p (by simp [hp])
  have eJ : ∀ p ∈ J, 0 ≤ p.1 ∧ p.1 < p.2 ∧ p.2 ≤ n := fun p hp => he p (by simp [hp])
  have eB : ∀ p ∈ B, 0 ≤ p.1 ∧ p.1 < p.2 ∧ p.2 ≤ n := fun p hp => he p (by simp [hp])
  have lo1 := lo_le f J
  have hi1 := le_hi t J
  have lo2 : 0 ≤ lo f J := by
    unfold lo; split
    · exact h0
    · rename_i p e; have := eJ p (List.mem_of_mem_head? e); omega
  have hi2 : hi t J ≤ n := by
    unfold hi; split
    · exact h2
    · rename_i p e; have := eJ p (List.mem_of_mem_getLast? e); omega
  have lo3 : ∀ p ∈ A, p.2 < lo f J := fun p hp => by
    have := c.ahead p hp
    unfold lo; split
    · exact this
    · rename_i q e
      have := rAJB p hp q (by simp [List.mem_of_mem_head? e]); omega
  have hi3 : ∀ p ∈ B, hi t J < p.1 := fun p hp => by
    have := c.behind p hp
    unfold hi; split
    · exact this
    · rename_i q e
      have := rJB q (List.mem_of_mem_getLast? e) p hp; omega
  refine ⟨⟨?_, ?_⟩, fun x => ?_, ?_⟩
  · intro p hp
    rcases List.mem_append.1 hp with hp | hp
    · exact eA p hp
    · rcases List.mem_cons.1 hp with rfl | hp
      · exact ⟨lo2, by show lo f J < hi t J; omega, hi2⟩
      · exact eB p hp
  · rw [List.pairwise_append, List.pairwise_cons]
    refine ⟨rA, ⟨hi3, rB⟩, fun p hp q hq => ?_⟩
    rcases List.mem_cons.1 hq with rfl | hq
    · exact lo3 p hp
    · exact rAJB p hp q (by simp [hq])
  · have e1 : Has ((lo f J, hi t J) :: B) x ↔ (lo f J ≤ x ∧ x < hi t J) ∨ Has B x := by
      rw [show (lo f J, hi t J) :: B = [(lo f J, hi t J)] ++ B from rfl, has_append, has_one]
    have e2 : (lo f J ≤ x ∧ x < hi t J) ↔ Has J x ∨ (f ≤ x ∧ x < t) := by
      constructor
      · rintro ⟨g1, g2⟩
        by_cases g3 : x < f
        · left
          unfold lo at g1
          split at g1
          · omega
          · rename_i p e
            have := c.touch p (List.mem_of_mem_head? e)
            exact ⟨p, List.mem_of_mem_head? e, by omega, by omega⟩
        · by_cases g4 : x < t
          · right; omega
          · left
            unfold hi at g2
            split at g2
            · omega
            · rename_i p e
              have := c.touch p (List.mem_of_mem_getLast? e)
              exact ⟨p, List.mem_of_mem_getLast? e, by omega, by omega⟩
      · rintro (⟨p, hp, g1, g2⟩ | ⟨g1, g2⟩)
        · constructor
          · cases J with
            | nil => simp at hp
            | cons q K =>
              simp only [lo, List.head?_cons]
              rcases List.mem_cons.1 hp with rfl | hp
              · omega
              · have := (List.pairwise_cons.1 rJ).1 p hp; have := eJ q (by simp); omega
          · obtain ⟨K, q, rfl⟩ : ∃ K q, J = K ++ [q] := by
              rcases List.eq_nil_or_concat J with rfl | ⟨K, q, e⟩
              · simp at hp
              · exact ⟨K, q, by rw [e, List.concat_eq_append]⟩
            simp only [hi, List.getLast?_append, List.getLast?_singleton, Option.some_or]
            rcases List.mem_append.1 hp with hp | hp
            · have := (List.pairwise_append.1 rJ).2.2 p hp q (by simp); have := eJ q (by simp); omega
            · obtain rfl : p = q := by simpa using hp
              omega
        · omega
    rw [c.all, has_append, e1, has_append, has_append, e2]
    constructor
    · rintro (a | (a | a) | a)
      · exact Or.inl (Or.inl a)
      · exact Or.inl (Or.inr (Or.inl a))
      · exact Or.inr a
      · exact Or.inl (Or.inr (Or.inr a))
    · rintro ((a | a | a) | a)
      · exact Or.inl a
      · exact Or.inr (Or.inl (Or.inl a))
      · exact Or.inr (Or.inr a)
      · exact Or.inr (Or.inl (Or.inr a))
  · have s1 := size_lap f t J
    rw [ex_head f J (fun p hp => ⟨(c.touch p hp).1, (eJ p hp).2.1⟩) rJ, ex_last t J (fun p hp => ⟨(c.touch p hp).2, (eJ p hp).2.1⟩) rJ] at s1
    rw [c.all, size_append, size, size_append, size_append]
    show size A + ((hi t J - lo f J) + size B) = _
    omega
theorem not_has_below {n : Int} {p : Rg} {l : List Rg} (h : Good n (p :: l)) {x : Int} (hx : x < p.1) : ¬ Has (p :: l) x := by
  rintro ⟨q, hq, h1, h2⟩
  rcases List.mem_cons.1 hq with rfl | hq
  · omega
  · have := (List.pairwise_cons.1 h.rise).1 q hq; have := h.each p (by simp); omega
theorem Good.tail {n : Int} {p : Rg} {l : List Rg} (h : Good n (p :: l)) : Good n l := ⟨fun q hq => h.each q (by simp [hq]), (List.pairwise_cons.1 h.rise).2⟩
theorem has_tail {n : Int} {p : Rg} {l : List Rg} (h : Good n (p :: l)) (x : Int) : Has l x ↔ Has (p :: l) x ∧ p.2 < x := by
  constructor
  · rintro ⟨q, hq, h1, h2⟩
    have := (List.pairwise_cons.1 h.rise).1 q hq
    exact ⟨⟨q, by simp [hq], h1, h2⟩, by omega⟩
  · rintro ⟨⟨q, hq, h1, h2⟩, h3⟩
    rcases List.mem_cons.1 hq with rfl | hq
    · omega
    · exact ⟨q, hq, h1, h2⟩
theorem unique {n m : Int} : ∀ {l l' : List Rg}, Good n l → Good m l' → (∀ x, Has l x ↔ Has l' x) → l = l'
  | [], [], _, _, _ => rfl
  | [], q :: s, _, g, h => by
    have := g.each q (by simp)
    have : Has [] q.1 := (h q.1).2 ⟨q, by simp, by omega, by omega⟩
    simp [Has] at this
  | p :: r, [], g, _, h => by
    have := g.each p (by simp)
    have : Has [] p.1 := (h p.1).1 ⟨p, by simp, by omega, by omega⟩
    simp [Has] at this
  | p :: r, q :: s, g, g', h => by
    have gp := g.each p (by simp)
    have gq := g'.each q (by simp)
    have e1 : p.1 = q.1 := by
      rcases Int.lt_trichotomy p.1 q.1 with h1 | h1 | h1
      · exact absurd ((h p.1).1 ⟨p, by simp, by omega, by omega⟩) (not_has_below g' h1)
      · exact h1
      · exact absurd ((h q.1).2 ⟨q, by simp, by omega, by omega⟩) (not_has_below g h1)
    have no : ∀ {k : Int} {a : Rg} {l : List Rg}, Good k (a :: l) → ¬ Has (a :: l) a.2 := fun {k a l} G hh => by
      obtain ⟨b, hb, h1, h2⟩ := hh
      rcases List.mem_cons.1 hb with rfl | hb
      · omega
      · have := (List.pairwise_cons.1 G.rise).1 b hb; omega
    have e2 : p.2 = q.2 := by
      rcases Int.lt_trichotomy p.2 q.2 with h1 | h1 | h1
      · exact absurd ((h p.2).2 ⟨q, by simp, by omega, by omega⟩) (no g)
      · exact h1
      · exact absurd ((h q.2).1 ⟨p, by simp, by omega, by omega⟩) (no g')
    have e : p = q := Prod.ext e1 e2
    subst e
    rw [unique g.tail g'.tail fun x => by rw [has_tail g, has_tail g', h x]]
/-- What lies between them, from x on, ahead of e. -/
def gaps (e : Int) : Int → List Rg → List Rg
  | x, [] => if x < e then [(x, e)] else []
  | x, p :: r => if x < e then (if x < min e p.1 then [(x, min e p.1)] else []) ++ gaps e p.2 r else []
theorem gaps_len (e : Int) : ∀ (l : List Rg) (x : Int), (gaps e x l).length ≤ l.length + 1
  | [], x => by unfold gaps; split <;> simp
  | p :: r, x => by
    have := gaps_len e r p.2
    unfold gaps
    split
    · rw [List.length_append, List.length_cons]
      split <;> simp <;> omega
    · simp
theorem size_nonneg {n : Int} : ∀ {l : List Rg}, Good n l → 0 ≤ size l
  | [], _ => by simp [size]
  | p :: l, h => by have := size_nonneg h.tail; have := h.each p (by simp); unfold size; omega
theorem size_le {n : Int} : ∀ {l : List Rg} {x : Int}, Good n l → (∀ p ∈ l, x ≤ p.1) → x ≤ n → size l ≤ n - x
  | [], x, _, _, hx => by unfold size; omega
  | p :: l, x, h, hl, hx => by
    have h1 := h.each p (by simp)
    have h2 := hl p (by simp)
    have := size_le (x := p.2) h.tail (fun q hq => by have := (List.pairwise_cons.1 h.rise).1 q hq; omega) (by omega)
    unfold size; omega
/-- How many bytes are there from 0 on. -/
def front : List Rg → Int
  | [] => 0
  | p :: _ => if 0 < p.1 then 0 else p.2
theorem front_full {n : Int} {l : List Rg} (h : Good n l) (hn : 0 ≤ n) : front l = n ↔ size l = n := by
  cases l with
  | nil => simp [front, size]
  | cons p r =>
    have h1 := h.each p (by simp)
    have h2 := size_le (x := p.2) h.tail (fun q hq => by have := (List.pairwise_cons.1 h.rise).1 q hq; omega) (by omega)
    have h3 := size_nonneg h.tail
    show (if 0 < p.1 then 0 else p.2) = n ↔ (p.2 - p.1) + size r = n
    split
    · constructor <;> intro e
      · omega
      · exfalso; omega
    · constructor
      · intro e; omega
      · intro e
        cases r with
        | nil => unfold size at e; omega
        | cons q r =>
          have h4 := h.each q (by simp)
          have h5 := (List.pairwise_cons.1 h.rise).1 q (by simp)
          have := size_le (x := q.1) h.tail (fun q' hq => by
            rcases List.mem_cons.1 hq with rfl | hq
            · omega
            · have := (List.pairwise_cons.1 h.tail.rise).1 q' hq; omega) (by omega)
          omega
end Go.Proofs.Ytfkcplapmkpkbaa.IvM
