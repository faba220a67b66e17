/- Messages put together: how many bytes are fresh, whether bytes clash; plain mathematics. Conditions: each theorem's own. -/
import Derived.Test.YtfkcplapmkpkbaaIvMath
set_option linter.unusedVariables false
namespace Go.Proofs.Ytfkcplapmkpkbaa.RmM
open IvM
instance (l : List Rg) (x : Int) : Decidable (Has l x) := by unfold Has; infer_instance
/-- So many of the bytes from f on, ahead of t, are there. -/
def inn (f t : Int) : List Rg → Int
  | [] => 0
  | p :: l => max 0 (min t p.2 - max f p.1) + inn f t l
theorem inn_append (f t : Int) : ∀ a b : List Rg, inn f t (a ++ b) = inn f t a + inn f t b
  | [], b => by simp [inn]
  | p :: a, b => by rw [List.cons_append, inn, inn_append f t a b, inn]; omega
theorem inn_zero {f t : Int} : ∀ {l : List Rg}, (∀ p ∈ l, min t p.2 ≤ max f p.1) → inn f t l = 0
  | [], _ => rfl
  | p :: l, h => by
    have h1 := h p (by simp)
    have h2 := inn_zero (f := f) (t := t) (l := l) fun q hq => h q (by simp [hq])
    rw [inn, h2]; omega
theorem inn_step {n : Int} {f x : Int} (hf : f ≤ x) : ∀ {l : List Rg}, Good n l → inn f (x + 1) l = inn f x l + if Has l x then 1 else 0
  | [], _ => by simp [inn, Has]
  | p :: l, h => by
    have ih := inn_step hf h.tail
    have hp := h.each p (by simp)
    have ht := has_tail h x
    unfold inn
    by_cases c : p.1 ≤ x ∧ x < p.2
    · have h1 : Has (p :: l) x := ⟨p, by simp, c⟩
      have h2 : ¬ Has l x := fun g => by have := (ht.1 g).2; omega
      rw [if_pos h1]
      rw [if_neg h2] at ih
      omega
    · by_cases h1 : Has l x
      · have h2 : Has (p :: l) x := (ht.1 h1).1
        rw [if_pos h2]
        rw [if_pos h1] at ih
        omega
      · have h2 : ¬ Has (p :: l) x := by
          rintro ⟨q, hq, hh⟩
          rcases List.mem_cons.1 hq with rfl | hq
          · exact c hh
          · exact h1 ⟨q, hq, hh⟩
        rw [if_neg h2]
        rw [if_neg h1] at ih
        omega
theorem inn_bd {n : Int} {l : List Rg} (h : Good n l) (f : Int) : ∀ k : Nat, 0 ≤ inn f (f + k) l ∧ inn f (f + k) l ≤ k ∧ (inn f (f + k) l = k ↔ ∀ x, f ≤ x → x < f + k → Has l x) ∧ (inn f (f + k) l = 0 ↔ ∀ x, f ≤ x → x < f + k → ¬ Has l x)
  | 0 => by
    have e : inn f (f + ((0 : Nat) : Int)) l = 0 := inn_zero fun p _ => by omega
    rw [e]
    exact ⟨by omega, by omega, ⟨fun _ x h1 h2 => by omega, fun _ => rfl⟩, ⟨fun _ x h1 h2 => by omega, fun _ => rfl⟩⟩
  | k + 1 => by
    obtain ⟨h1, h2, h3, h4⟩ := inn_bd h f k
    have e := inn_step (f := f) (x := f + k) (by omega) h
    rw [show f + (k : Int) + 1 = f + ((k + 1 : Nat) : Int) by omega] at e
    rw [e]
    by_cases c : Has l (f + k)
    · rw [if_pos c]
      refine ⟨by omega, by omega, ⟨fun g x g1 g2 => ?_, fun g => ?_⟩, ⟨fun g => by omega, fun g => absurd c (g _ (by omega) (by omega))⟩⟩
      · by_cases hx : x = f + k
        · rw [hx]; exact c
        · exact h3.1 (by omega) x g1 (by omega)
      · have := h3.2 fun x g1 g2 => g x g1 (by omega)
        omega
    · rw [if_neg c]
      refine ⟨by omega, by omega, ⟨fun g => by omega, fun g => absurd (g _ (by omega) (by omega)) c⟩, ⟨fun g x g1 g2 => ?_, fun g => ?_⟩⟩
      · by_cases hx : x = f + k
        · rw [hx]; exact c
        · exact h4.1 (by omega) x g1 (by omega)
      · have := h4.2 fun x g1 g2 => g x g1 (by omega)
        omega
theorem lap_inn {n : Int} {f t : Int} {l A J B : List Rg} (h : Good n l) (c : Cut f t l A J B) (hft : f ≤ t) : lap f t J = inn f t l := by
  rw [c.all, inn_append, inn_append, inn_zero (l := A) fun p hp => by have := c.ahead p hp; omega, inn_zero (l := B) fun p hp => by have := c.behind p hp; omega]
  have hJ : ∀ p ∈ J, (f ≤ p.2 ∧ p.1 ≤ t) ∧ p.1 < p.2 := fun p hp => ⟨c.touch p hp, (h.each p (by rw [c.all]; simp [hp])).2.1⟩
  have : ∀ K : List Rg, (∀ p ∈ K, (f ≤ p.2 ∧ p.1 ≤ t) ∧ p.1 < p.2) → lap f t K = inn f t K := by
    intro K
    induction K with
    | nil => intro _; rfl
    | cons p K ih =>
      intro hK
      have h1 := hK p (by simp)
      rw [lap, inn, ih fun q hq => hK q (by simp [hq])]
      omega
  rw [this J hJ]
  omega
/-- How many bytes are fresh. -/
def fr (l : List Rg) (f t : Int) : Int := (t - f) - inn f t l
theorem fr_bd {n : Int} {l : List Rg} (h : Good n l) (f : Int) (k : Nat) : 0 ≤ fr l f (f + k) ∧ fr l f (f + k) ≤ k ∧ (fr l f (f + k) = 0 ↔ ∀ x, f ≤ x → x < f + k → Has l x) ∧ (fr l f (f + k) = k ↔ ∀ x, f ≤ x → x < f + k → ¬ Has l x) := by
  obtain ⟨h1, h2, h3, h4⟩ := inn_bd h f k
  unfold fr
  refine ⟨by omega, by omega, ?_, ?_⟩
  · rw [← h3]; omega
  · rw [← h4]; omega
theorem size_put {n : Int} {l L : List Rg} (h : Good n l) (hL : Good n L) {f t : Int} (h0 : 0 ≤ f) (h1 : f < t) (h2 : t ≤ n) (hx : ∀ x, Has L x ↔ Has l x ∨ (f ≤ x ∧ x < t)) : size L = size l + fr l f t := by
  obtain ⟨A, J, B, c⟩ := cut_ex h f t
  obtain ⟨g1, g2, g3⟩ := put h c h0 h1 h2
  rw [unique hL g1 fun x => (hx x).trans (g2 x).symm, g3, lap_inn h c (by omega)]
  rfl
/-- One of these bytes is there already, and another one. -/
def Clash (l : List Rg) (D K : List UInt8) (off : Nat) : Prop := ∃ (i : Nat) (y : UInt8), K[i]? = some y ∧ Has l ((off : Int) + (i : Int)) ∧ D[off + i]? ≠ some y
theorem lt_of_get {K : List UInt8} {i : Nat} {y : UInt8} (h : K[i]? = some y) : i < K.length := (List.getElem?_eq_some_iff.1 h).1
theorem clash_none {l : List Rg} {D K : List UInt8} {off : Nat} (h : ∀ x, (off : Int) ≤ x → x < (off : Int) + (K.length : Nat) → ¬ Has l x) : ¬ Clash l D K off := by
  rintro ⟨i, y, hy, hh, _⟩
  have := lt_of_get hy
  exact h _ (by omega) (by omega) hh
theorem clash_all {l : List Rg} {D K : List UInt8} {off : Nat} (h : ∀ x, (off : Int) ≤ x → x < (off : Int) + (K.length : Nat) → Has l x) : Clash l D K off ↔ ¬ (D.drop off).take K.length = K := by
  constructor
  · rintro ⟨i, y, hy, _, hne⟩ e
    have hi := lt_of_get hy
    rw [← e, List.getElem?_take, if_pos hi, List.getElem?_drop] at hy
    exact hne hy
  · intro hne
    refine Classical.byContradiction fun hc => hne ?_
    refine List.ext_getElem? fun i => ?_
    by_cases hi : i < K.length
    · rw [List.getElem?_take, if_pos hi, List.getElem?_drop]
      refine Classical.byContradiction fun hd => hc ⟨i, K[i], List.getElem?_eq_getElem hi, h _ (by omega) (by omega), ?_⟩
      rw [List.getElem?_eq_getElem hi] at hd
      exact hd
    · rw [List.getElem?_take, if_neg hi, List.getElem?_eq_none (by omega)]
theorem clash_split {l : List Rg} {D K : List UInt8} {off : Nat} (h : Nat) (hh : h ≤ K.length) : Clash l D K off ↔ Clash l D (K.take h) off ∨ Clash l D (K.drop h) (off + h) := by
  constructor
  · rintro ⟨i, y, hy, h1, h2⟩
    by_cases hi : i < h
    · exact Or.inl ⟨i, y, by rw [List.getElem?_take, if_pos hi]; exact hy, h1, h2⟩
    · refine Or.inr ⟨i - h, y, by rw [List.getElem?_drop, show h + (i - h) = i by omega]; exact hy, ?_, ?_⟩
      · rw [show ((off + h : Nat) : Int) + ((i - h : Nat) : Int) = (off : Int) + (i : Int) by omega]; exact h1
      · rw [show off + h + (i - h) = off + i by omega]; exact h2
  · rintro (⟨i, y, hy, h1, h2⟩ | ⟨i, y, hy, h1, h2⟩)
    · have hi := lt_of_get hy
      rw [List.length_take] at hi
      rw [List.getElem?_take, if_pos (by omega)] at hy
      exact ⟨i, y, hy, h1, h2⟩
    · rw [List.getElem?_drop] at hy
      refine ⟨h + i, y, hy, ?_, ?_⟩
      · rw [show (off : Int) + ((h + i : Nat) : Int) = ((off + h : Nat) : Int) + (i : Int) by omega]; exact h1
      · rw [show off + (h + i) = off + h + i by omega]; exact h2
/-- Bytes written over others. -/
def over (D K : List UInt8) (off : Nat) : List UInt8 := D.take off ++ (K ++ D.drop (off + K.length))
theorem over_len {D K : List UInt8} {off : Nat} (h : off + K.length ≤ D.length) : (over D K off).length = D.length := by
  unfold over; rw [List.length_append, List.length_append, List.length_take, List.length_drop]; omega
theorem over_in {D K : List UInt8} {off : Nat} (h : off + K.length ≤ D.length) {i : Nat} (hi : off ≤ i) (hi2 : i < off + K.length) : (over D K off)[i]? = K[i - off]? := by
  unfold over
  rw [List.getElem?_append_right (by rw [List.length_take]; omega), List.length_take, List.getElem?_append_left (by omega)]
  congr 1; omega
theorem over_out {D K : List UInt8} {off : Nat} (h : off + K.length ≤ D.length) {i : Nat} (hi : i < off ∨ off + K.length ≤ i) : (over D K off)[i]? = D[i]? := by
  unfold over
  rcases hi with hi | hi
  · rw [List.getElem?_append_left (by rw [List.length_take]; omega), List.getElem?_take, if_pos hi]
  · rw [List.getElem?_append_right (by rw [List.length_take]; omega), List.length_take, List.getElem?_append_right (by omega), List.getElem?_drop]
    congr 1; omega
end Go.Proofs.Ytfkcplapmkpkbaa.RmM
