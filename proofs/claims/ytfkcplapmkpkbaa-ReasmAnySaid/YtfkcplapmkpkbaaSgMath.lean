/- Pieces of messages: plain mathematics. Conditions: each theorem's own. -/
import Derived.Test.YtfkcplapmkpkbaaIvMath
set_option linter.unusedVariables false
namespace Go.Proofs.Ytfkcplapmkpkbaa.SgM
open IvM
/-- There is such a message, in such pieces. -/
def May (t m : Int) : Prop := 0 ≤ t ∧ t ≤ 1073741824 ∧ 1 ≤ m ∧ m ≤ 1048576
instance (t m : Int) : Decidable (May t m) := by unfold May; infer_instance
def cnt (t m : Int) : Int := if May t m then (if 1 < (t + m - 1) / m then (t + m - 1) / m else 1) else 0
theorem cnt_no {t m : Int} (h : ¬ May t m) : cnt t m = 0 := if_neg h
theorem cnt_yes {t m : Int} (h : May t m) : cnt t m = if 1 < (t + m - 1) / m then (t + m - 1) / m else 1 := if_pos h
theorem div_bd {x m : Int} (hm : 1 ≤ m) : x / m * m ≤ x ∧ x < x / m * m + m := by
  have h1 := Int.ediv_mul_le x (show m ≠ 0 by omega)
  have h2 := Int.lt_ediv_add_one_mul_self x (show 0 < m by omega)
  rw [Int.add_mul, Int.one_mul] at h2
  exact ⟨h1, h2⟩
theorem div_in {x m : Int} (hm : 1 ≤ m) (h0 : 0 ≤ x) (h1 : x ≤ 2147483648) : 0 ≤ x / m ∧ x / m ≤ x := by
  exact ⟨Int.ediv_nonneg h0 (by omega), Int.ediv_le_self _ h0⟩
theorem cnt_pos {t m : Int} (h : May t m) : 1 ≤ cnt t m := by
  rw [cnt_yes h]; split <;> omega
theorem cnt_nonneg (t m : Int) : 0 ≤ cnt t m := by
  by_cases h : May t m
  · have := cnt_pos h; omega
  · rw [cnt_no h]; exact Int.le_refl _
theorem cnt_le {t m : Int} (h : May t m) : cnt t m ≤ 1073741824 := by
  rw [cnt_yes h]
  obtain ⟨h0, h1, h2, h3⟩ := h
  split
  · rcases Int.lt_or_le (t + m - 1) m with hx | hx
    · have := Int.ediv_eq_zero_of_lt (show 0 ≤ t + m - 1 by omega) hx; omega
    · have := div_bd (x := t + m - 1) h2
      have e : (t + m - 1) / m * m = (t + m - 1) / m + (t + m - 1) / m * (m - 1) := by rw [Int.mul_sub]; omega
      have := Int.mul_nonneg (show 0 ≤ (t + m - 1) / m - 1 by omega) (show 0 ≤ m - 1 by omega)
      rw [Int.sub_mul] at this
      omega
  · omega
/-- Which number is a piece's. -/
theorem lt_cnt {t m k : Int} (h : May t m) (hk : 0 ≤ k) : k < cnt t m ↔ k = 0 ∨ k * m < t := by
  have hc := cnt_yes h
  obtain ⟨h0, h1, h2, h3⟩ := h
  have hb := div_bd (x := t + m - 1) h2
  generalize (t + m - 1) / m = q at *
  have key : k < q ↔ k * m < t := by
    constructor
    · intro hq
      have := Int.mul_le_mul_of_nonneg_right (show k + 1 ≤ q by omega) (show 0 ≤ m by omega)
      rw [Int.add_mul] at this; omega
    · intro hq
      rcases Int.lt_or_le k q with h | h
      · exact h
      · have := Int.mul_le_mul_of_nonneg_right h (show 0 ≤ m by omega)
        omega
  rw [hc]
  split
  · rw [← key]; constructor
    · exact Or.inr
    · rintro (rfl | h) <;> omega
  · constructor
    · intro h; left; omega
    · rintro (h | h)
      · omega
      · have := key.2 h; omega
/-- A piece. -/
def pc (t m k : Int) : Rg := (k * m, min (k * m + m) t)
def at' (t m off : Int) : Int := if May t m ∧ 0 ≤ off ∧ off < max 1 t then off / m else -1
theorem at_yes {t m off : Int} (h : May t m) (h0 : 0 ≤ off) (h1 : off < max 1 t) : at' t m off = off / m := if_pos ⟨h, h0, h1⟩
theorem at_no {t m off : Int} (h : ¬ (May t m ∧ 0 ≤ off ∧ off < max 1 t)) : at' t m off = -1 := if_neg h
theorem at_in {t m k : Int} (h : May t m) (hk : 0 ≤ k) {off : Int} (h0 : k * m ≤ off) (h1 : off < min (k * m + m) t) : at' t m off = k := by
  obtain ⟨g0, g1, g2, g3⟩ := id h
  have hn := Int.mul_nonneg hk (show 0 ≤ m by omega)
  rw [at_yes h (by omega) (by omega)]
  have := div_bd (x := off) g2
  generalize off / m = q at *
  rcases Int.lt_trichotomy q k with hq | hq | hq
  · have := Int.mul_le_mul_of_nonneg_right (show q + 1 ≤ k by omega) (show 0 ≤ m by omega)
    rw [Int.add_mul] at this; omega
  · exact hq
  · have := Int.mul_le_mul_of_nonneg_right (show k + 1 ≤ q by omega) (show 0 ≤ m by omega)
    rw [Int.add_mul] at this; omega
/-- The pieces that have a byte of a range. -/
def cutN (f to m : Int) : Nat := ((to - 1) / m - f / m + 1).toNat
def cut (f u t m : Int) : List Rg := if May t m ∧ 0 ≤ f ∧ f < min u t then (List.range (cutN f (min u t) m)).map fun i => pc t m (f / m + (i : Nat)) else []
theorem mulM {k m : Int} (hk : 0 ≤ k) (hk2 : k ≤ 2147483648) (hm : 1 ≤ m) (hm2 : m ≤ 1048576) : 0 ≤ k * m ∧ k * m ≤ 2251799813685248 := by
  constructor
  · exact Int.mul_nonneg hk (by omega)
  · have h1 := Int.mul_le_mul_of_nonneg_right hk2 (show 0 ≤ m by omega)
    have h2 : 2147483648 * m ≤ 2251799813685248 := by omega
    omega
theorem div_mono {a b m : Int} (hm : 1 ≤ m) (h : a ≤ b) : a / m ≤ b / m := Int.ediv_le_ediv (by omega) h
theorem cnt_le_max {t m : Int} (h : May t m) : cnt t m ≤ max 1 t := by
  rcases Int.lt_or_le (max 1 t) (cnt t m) with h1 | h1
  · have h2 := (lt_cnt h (k := cnt t m - 1) (by omega)).1 (by omega)
    rcases h2 with h2 | h2
    · omega
    · have := Int.mul_le_mul_of_nonneg_left (show 1 ≤ m from h.2.2.1) (show 0 ≤ cnt t m - 1 by omega)
      rw [Int.mul_one] at this
      omega
  · exact h1
/-- Does a piece have a byte of the range? -/
def hit (f u t m k : Int) : Prop := max (pc t m k).1 f < min (pc t m k).2 u
instance (f u t m k : Int) : Decidable (hit f u t m k) := by unfold hit; infer_instance
def sel (f u t m : Int) : Nat → List Rg
  | 0 => []
  | k + 1 => sel f u t m k ++ if hit f u t m k then [pc t m k] else []
theorem hit_iff {f u t m k : Int} (h : May t m) (h0 : 0 ≤ f) (h1 : f < min u t) (hk : k * m < t) : hit f u t m k ↔ f / m ≤ k ∧ k ≤ (min u t - 1) / m := by
  obtain ⟨g0, g1, g2, g3⟩ := h
  have e1 := Int.le_ediv_iff_mul_le (a := k) (b := min u t - 1) (c := m) (by omega)
  have e2 := Int.ediv_lt_iff_lt_mul (a := f) (b := k + 1) (c := m) (by omega)
  rw [Int.add_mul, Int.one_mul] at e2
  rw [e1, show f / m ≤ k ↔ f / m < k + 1 by omega, e2]
  unfold hit pc
  dsimp only
  omega
theorem sel_eq {f u t m : Int} (h : May t m) (h0 : 0 ≤ f) (h1 : f < min u t) : ∀ k : Nat, (k : Int) ≤ cnt t m →
    sel f u t m k = (List.range (min k (((min u t - 1) / m).toNat + 1) - (f / m).toNat)).map fun i => pc t m (f / m + (i : Nat))
  | 0, _ => by simp [sel]
  | k + 1, hk => by
    have ih := sel_eq h h0 h1 k (by omega)
    have hkt : (k : Int) * m < t := by
      rcases (lt_cnt h (k := k) (by omega)).1 (by omega) with h2 | h2
      · rw [h2]; omega
      · exact h2
    have hh := hit_iff h h0 h1 hkt
    have ha := (div_in (x := f) h.2.2.1 h0 (by have := h.2.1; omega)).1
    have hb := (div_in (x := min u t - 1) h.2.2.1 (by omega) (by have := h.2.1; omega)).1
    rw [sel, ih]
    generalize (min u t - 1) / m = b at *
    generalize f / m = a at *
    by_cases hc : a ≤ (k : Int) ∧ (k : Int) ≤ b
    · rw [if_pos (hh.2 hc), show min (k + 1) (b.toNat + 1) - a.toNat = (min k (b.toNat + 1) - a.toNat) + 1 by omega, List.range_succ, List.map_append]
      congr 1
      simp only [List.map_cons, List.map_nil]
      congr 2
      omega
    · rw [if_neg (fun g => hc (hh.1 g)), List.append_nil, show min (k + 1) (b.toNat + 1) - a.toNat = min k (b.toNat + 1) - a.toNat by omega]
theorem sel_none {f u t m : Int} (h0 : ¬ f < min u t) : ∀ k : Nat, sel f u t m k = []
  | 0 => rfl
  | k + 1 => by
    rw [sel, sel_none h0 k, if_neg (by unfold hit pc; dsimp only; omega)]
    rfl
theorem sel_cut {f u t m : Int} (h0 : 0 ≤ f) : sel f u t m (cnt t m).toNat = cut f u t m := by
  by_cases h : May t m
  · by_cases h1 : f < min u t
    · rw [sel_eq h h0 h1 _ (by have := cnt_nonneg t m; omega)]
      unfold cut
      rw [if_pos ⟨h, h0, h1⟩]
      congr 2
      unfold cutN
      have ha := (div_in (x := f) h.2.2.1 h0 (by have := h.2.1; omega)).1
      have hb := (div_in (x := min u t - 1) h.2.2.1 (by omega) (by have := h.2.1; omega)).1
      have hc := (lt_cnt h hb).2 (Or.inr (by have := (div_bd (x := min u t - 1) h.2.2.1).1; omega))
      omega
    · rw [sel_none h1, cut, if_neg (fun g => h1 g.2.2)]
  · rw [cnt_no h, cut, if_neg (fun g => h g.1)]
    rfl
theorem cut_off {f u t m : Int} (h : f < 0 ∨ u < f) : cut f u t m = [] := if_neg (by omega)
theorem cut_len {f u t m : Int} : ((cut f u t m).length : Int) ≤ max 1 t := by
  by_cases h : May t m ∧ 0 ≤ f ∧ f < min u t
  · unfold cut
    rw [if_pos h, List.length_map, List.length_range]
    unfold cutN
    have ha := div_in (x := f) h.1.2.2.1 h.2.1 (by have := h.1.2.1; omega)
    have hb := div_in (x := min u t - 1) h.1.2.2.1 (by omega) (by have := h.1.2.1; omega)
    omega
  · unfold cut
    rw [if_neg h]
    simp; omega
/-- What is asked of a cut's pieces. -/
structure Cuts (f u t m : Int) (L : List Rg) : Prop where
  pos : 0 < L.length
  few : (L.length : Int) ≤ t
  first : (L.getD 0 (0, 0)).1 ≤ f
  last : u ≤ (L.getD (L.length - 1) (0, 0)).2
  each : ∀ i, i < L.length → 0 ≤ (L.getD i (0, 0)).1 ∧ (L.getD i (0, 0)).1 < u ∧ f < (L.getD i (0, 0)).2 ∧ (L.getD i (0, 0)).2 ≤ t ∧ (L.getD i (0, 0)).1.tmod m = 0
  next : ∀ i, 0 < i → i < L.length → (L.getD i (0, 0)).1 = (L.getD (i - 1) (0, 0)).2
theorem cuts_ok {f u t m : Int} (h : May t m) (h0 : 0 ≤ f) (h1 : f < u) (h2 : u ≤ t) : Cuts f u t m (cut f u t m) := by
  obtain ⟨g0, g1, g2, g3⟩ := id h
  have hu : min u t = u := by omega
  have ha := div_in (x := f) g2 h0 (by omega)
  have hb := div_in (x := u - 1) g2 (by omega) (by omega)
  have hmo := div_mono g2 (show f ≤ u - 1 by omega)
  have da := div_bd (x := f) g2
  have db := div_bd (x := u - 1) g2
  have e : cut f u t m = (List.range (cutN f u m)).map fun i => pc t m (f / m + (i : Nat)) := by
    unfold cut
    rw [hu, if_pos ⟨h, h0, h1⟩]
  have hn : (cutN f u m : Int) = (u - 1) / m - f / m + 1 := by unfold cutN; omega
  have hl : (cut f u t m).length = cutN f u m := by rw [e, List.length_map, List.length_range]
  have hg : ∀ i, i < cutN f u m → (cut f u t m).getD i (0, 0) = pc t m (f / m + (i : Nat)) := fun i hi => by
    rw [e, List.getD_eq_getElem?_getD, List.getElem?_map, List.getElem?_range hi]
    rfl
  generalize cutN f u m = n at *
  generalize (u - 1) / m = b at *
  generalize f / m = a at *
  have hk : ∀ i : Nat, i < n → 0 ≤ (a + i) * m ∧ (a + i) * m < u ∧ f < (a + i) * m + m := fun i hi => by
    have x1 := Int.mul_nonneg (show 0 ≤ a + (i : Int) by omega) (show 0 ≤ m by omega)
    have x2 := Int.mul_le_mul_of_nonneg_right (show a + (i : Int) ≤ b by omega) (show 0 ≤ m by omega)
    have x3 := Int.mul_le_mul_of_nonneg_right (show a ≤ a + (i : Int) by omega) (show 0 ≤ m by omega)
    omega
  refine ⟨by omega, by rw [hl]; omega, ?_, ?_, ?_, ?_⟩
  · rw [hg 0 (by omega)]
    show (a + ((0 : Nat) : Int)) * m ≤ f
    rw [show a + ((0 : Nat) : Int) = a by omega]
    exact da.1
  · rw [hl, hg (n - 1) (by omega), show a + ((n - 1 : Nat) : Int) = b by omega]
    show u ≤ min (b * m + m) t
    omega
  · intro i hi
    rw [hl] at hi
    rw [hg i hi]
    have := hk i hi
    refine ⟨this.1, this.2.1, ?_, ?_, ?_⟩
    · show f < min ((a + i) * m + m) t
      omega
    · show min ((a + i) * m + m) t ≤ t
      omega
    · exact Int.mul_tmod_left _ _
  · intro i hi0 hi
    rw [hl] at hi
    rw [hg i hi, hg (i - 1) (by omega)]
    have := hk i hi
    have e2 : (a + ((i - 1 : Nat) : Int)) * m + m = (a + (i : Int)) * m := by
      rw [show a + (i : Int) = a + ((i - 1 : Nat) : Int) + 1 by omega, Int.add_mul (a + ((i - 1 : Nat) : Int)), Int.one_mul]
    show (a + (i : Int)) * m = min ((a + ((i - 1 : Nat) : Int)) * m + m) t
    rw [e2]
    omega
end Go.Proofs.Ytfkcplapmkpkbaa.SgM
