/- Bits of numbers: where two numbers part, by digits of four bits; a mask of sixteen bits, its lowest one, whether it has just one. Conditions: none. -/
import Derived.Lib.BitFns
import Derived.Lib.TrailingZeros
namespace Go.Proofs.YtjmlglibmlfjaaaDoor.BitsM
open Go
theorem bitLenAux_lt : ∀ (f x : Nat), x < 2 ^ f → x < 2 ^ Lib.bitLenAux f x
  | 0, x, h => by simpa [Lib.bitLenAux] using h
  | f + 1, x, h => by
    unfold Lib.bitLenAux
    split
    · omega
    · rename_i h0
      have hx : x / 2 < 2 ^ f := by rw [Nat.pow_succ] at h; omega
      have := bitLenAux_lt f (x / 2) hx
      rw [Nat.add_comm 1, Nat.pow_succ]
      omega
theorem bitLen_iff (x k : Nat) (hx : x < 2 ^ 64) (hk : k ≤ 64) : Lib.bitLen x ≤ k ↔ x < 2 ^ k := by
  constructor
  · intro h
    exact Nat.lt_of_lt_of_le (bitLenAux_lt 64 x hx) (Nat.pow_le_pow_right (by decide) h)
  · exact Lib.bitLen_le x k hk
theorem bitLen_le64 (x : Nat) (hx : x < 2 ^ 64) : Lib.bitLen x ≤ 64 := (bitLen_iff x 64 hx (Nat.le_refl _)).2 hx
/-- The least number of digits behind which two numbers are alike. -/
def meet (a b : Nat) : Nat := (Lib.bitLen (a ^^^ b) + 3) / 4
theorem meet_le (a b j : Nat) (ha : a < 2 ^ 60) (hb : b < 2 ^ 60) : meet a b ≤ j ↔ a / 16 ^ j = b / 16 ^ j := by
  have hx : a ^^^ b < 2 ^ 60 := Nat.xor_lt_two_pow ha hb
  have h1 : meet a b ≤ j ↔ Lib.bitLen (a ^^^ b) ≤ 4 * j := by unfold meet; omega
  rw [h1]
  have h16 : (16 : Nat) ^ j = 2 ^ (4 * j) := by rw [Nat.pow_mul]
  rw [h16]
  have key : a ^^^ b < 2 ^ (4 * j) ↔ a / 2 ^ (4 * j) = b / 2 ^ (4 * j) := by
    rw [← Nat.shiftRight_eq_div_pow, ← Nat.shiftRight_eq_div_pow]
    have e : (a ^^^ b) >>> (4 * j) = a >>> (4 * j) ^^^ b >>> (4 * j) := Nat.shiftRight_xor_distrib
    constructor
    · intro h
      have h0 : (a ^^^ b) >>> (4 * j) = 0 := by rw [Nat.shiftRight_eq_div_pow]; exact Nat.div_eq_of_lt h
      rw [e] at h0
      have h2 := congrArg (· ^^^ b >>> (4 * j)) h0
      simpa [Nat.xor_assoc] using h2
    · intro h
      have h0 : (a ^^^ b) >>> (4 * j) = 0 := by rw [e, h, Nat.xor_self]
      rw [Nat.shiftRight_eq_div_pow] at h0
      rcases Nat.div_eq_zero_iff.1 h0 with h | h
      · exact absurd h (Nat.ne_of_gt (Nat.two_pow_pos _))
      · exact h
  rcases Nat.le_total (4 * j) 64 with hj | hj
  · rw [bitLen_iff _ _ (by omega) hj]; exact key
  · constructor
    · intro _
      have : (2 : Nat) ^ 64 ≤ 2 ^ (4 * j) := Nat.pow_le_pow_right (by decide) hj
      exact key.1 (by omega)
    · intro _
      exact Nat.le_trans (bitLen_le64 _ (by omega)) hj
/-- Whether a mask has just one bit. -/
def ones (m : Nat) : Nat := Lib.onesCount (m / 256) + Lib.onesCount (m % 256)
theorem ones8 : ∀ n : Fin 256, (Lib.onesCount n.val = 1 → ∃ d : Fin 8, n.val = 2 ^ d.val) ∧ (Lib.onesCount n.val = 0 → n.val = 0) := by decide +kernel
theorem ones_pow : ∀ d : Fin 16, ones (2 ^ d.val) = 1 := by decide +kernel
theorem ones_iff (m : Nat) (hm : m < 65536) : ones m = 1 ↔ ∃ d, d < 16 ∧ m = 2 ^ d := by
  constructor
  · intro h
    unfold ones at h
    have h1 := ones8 ⟨m / 256, by omega⟩
    have h2 := ones8 ⟨m % 256, by omega⟩
    simp only at h1 h2
    rcases Nat.eq_zero_or_pos (Lib.onesCount (m / 256)) with h0 | h0
    · obtain ⟨d, hd⟩ := h2.1 (by omega)
      have := h1.2 h0
      exact ⟨d.val, by omega, by omega⟩
    · obtain ⟨d, hd⟩ := h1.1 (by omega)
      have := h2.2 (by omega)
      refine ⟨d.val + 8, by omega, ?_⟩
      rw [Nat.pow_add]
      omega
  · rintro ⟨d, hd, rfl⟩
    exact ones_pow ⟨d, hd⟩
theorem ones_le (m : Nat) (hm : m < 65536) : ones m ≤ 16 := by
  unfold ones
  have h1 := Lib.onesCount_le8 ⟨m / 256, by omega⟩
  have h2 := Lib.onesCount_le8 ⟨m % 256, by omega⟩
  simp only at h1 h2
  omega
/-- The lowest bit of a mask. -/
theorem ctz_low (m : Nat) (h0 : m ≠ 0) (hm : m < 65536) : Lib.ctz 16 m < 16 ∧ m.testBit (Lib.ctz 16 m) = true ∧ ∀ i, i < Lib.ctz 16 m → m.testBit i = false := by
  have e : Lib.ctz 16 m = Lib.ctzFrom 16 m := by simp [Lib.ctz, h0]
  obtain ⟨q, hq, hk⟩ := Lib.ctzFrom_spec 16 m (by omega) hm
  rw [e]
  generalize Lib.ctzFrom 16 m = k at hq hk
  subst hq
  refine ⟨hk, ?_, fun i hi => ?_⟩
  · rw [Nat.mul_comm, Nat.testBit_mul_two_pow]
    simp [Nat.testBit_zero]
  · rw [Nat.mul_comm, Nat.testBit_mul_two_pow]
    simp
    omega
/-- A digit of a time. -/
def dig (a j : Nat) : Nat := a / 16 ^ j % 16
theorem dig_lt (a j : Nat) : dig a j < 16 := Nat.mod_lt _ (by decide)
/-- Where two numbers are alike above a digit, and in it, they are alike from it on. -/
theorem div_of_dig {a b j : Nat} (h : a / 16 ^ (j + 1) = b / 16 ^ (j + 1)) (hd : dig a j = dig b j) : a / 16 ^ j = b / 16 ^ j := by
  unfold dig at hd
  have ea : a / 16 ^ (j + 1) = a / 16 ^ j / 16 := by rw [Nat.pow_succ, Nat.div_div_eq_div_mul]
  have eb : b / 16 ^ (j + 1) = b / 16 ^ j / 16 := by rw [Nat.pow_succ, Nat.div_div_eq_div_mul]
  rw [ea, eb] at h
  omega
theorem div_up {a b j k : Nat} (h : a / 16 ^ j = b / 16 ^ j) (hk : j ≤ k) : a / 16 ^ k = b / 16 ^ k := by
  obtain ⟨d, rfl⟩ : ∃ d, k = j + d := ⟨k - j, by omega⟩
  rw [Nat.pow_add, ← Nat.div_div_eq_div_mul, ← Nat.div_div_eq_div_mul, h]
theorem lt_of_dig {a b j : Nat} (h : a / 16 ^ (j + 1) = b / 16 ^ (j + 1)) (hd : dig a j < dig b j) : a < b := by
  unfold dig at hd
  have ea : a / 16 ^ (j + 1) = a / 16 ^ j / 16 := by rw [Nat.pow_succ, Nat.div_div_eq_div_mul]
  have eb : b / 16 ^ (j + 1) = b / 16 ^ j / 16 := by rw [Nat.pow_succ, Nat.div_div_eq_div_mul]
  rw [ea, eb] at h
  apply Nat.lt_of_not_le
  intro hle
  have : b / 16 ^ j ≤ a / 16 ^ j := Nat.div_le_div_right hle
  omega
theorem dig_of_div {a b j : Nat} (h : a / 16 ^ j = b / 16 ^ j) : dig a j = dig b j := by unfold dig; rw [h]
end Go.Proofs.YtjmlglibmlfjaaaDoor.BitsM
