/- The places of a ring: masks. Conditions: each theorem's own. -/
import Derived.Test.YtiffnlcpemfmoaaHeap
import Derived.Laws.Bits64
set_option linter.unusedVariables false
namespace Go.Proofs.Ytiffnlcpemfmoaa.QuN
open Go.RowKit Hp
/-- So many slots there may be. -/
def Pow (n : Nat) : Prop := ∃ p, p ≤ 30 ∧ n = 2 ^ p
theorem Pow.pos {n : Nat} (h : Pow n) : 0 < n := by obtain ⟨p, _, rfl⟩ := h; exact Nat.two_pow_pos p
theorem Pow.le {n : Nat} (h : Pow n) : n ≤ 1073741824 := by
  obtain ⟨p, hp, rfl⟩ := h
  exact Nat.le_trans (Nat.pow_le_pow_right (by decide) hp) (by decide)
theorem mask_nat (p x : Nat) (hp : p ≤ 30) : x &&& (2 ^ p - 1) = x % 2 ^ p := Nat.and_two_pow_sub_one_eq_mod x p
theorem ofInt_mask {n : Nat} (h : Pow n) : (BitVec.ofInt 64 ((n : Int) - 1)).toNat = n - 1 := by
  have h1 := h.pos
  have h2 := h.le
  rw [BitVec.toNat_ofInt]
  omega
theorem mod_mod_pow {p : Nat} (hp : p ≤ 30) (d : Int) : (d % ((2 ^ 64 : Nat) : Int)).toNat % 2 ^ p = (d % ((2 ^ p : Nat) : Int)).toNat := by
  have hd : ((2 ^ p : Nat) : Int) ∣ ((2 ^ 64 : Nat) : Int) := Int.natCast_dvd_natCast.2 (Nat.pow_dvd_pow 2 (by omega))
  have h0 : 0 ≤ d % ((2 ^ 64 : Nat) : Int) := Int.emod_nonneg _ (by decide)
  have hp0 : ((2 ^ p : Nat) : Int) ≠ 0 := by have := Nat.two_pow_pos p; omega
  have h1 : 0 ≤ d % ((2 ^ p : Nat) : Int) := Int.emod_nonneg _ hp0
  apply Int.ofNat.inj
  show (((d % ((2 ^ 64 : Nat) : Int)).toNat % 2 ^ p : Nat) : Int) = ((d % ((2 ^ p : Nat) : Int)).toNat : Int)
  rw [Int.natCast_emod, Int.toNat_of_nonneg h0, Int.toNat_of_nonneg h1, Int.emod_emod_of_dvd _ hd]
/-- Where a number falls among n. -/
theorem and_i64 {n : Nat} (h : Pow n) (d : Int) : bits .and .i64 d ((n : Int) - 1) = d % (n : Int) := by
  have hm := ofInt_mask h
  have hl := h.le
  have hz := h.pos
  obtain ⟨p, hp, rfl⟩ := h
  show IntKind.i64.wrap ((BitVec.ofInt 64 d &&& BitVec.ofInt 64 (((2 ^ p : Nat) : Int) - 1)).toNat : Nat) = _
  rw [BitVec.toNat_and, hm, mask_nat p _ hp, BitVec.toNat_ofInt, mod_mod_pow hp, IntKind.wrap_i64]
  generalize 2 ^ p = n at *
  have h0 : 0 ≤ d % (n : Int) := Int.emod_nonneg _ (by omega)
  have h1 : d % (n : Int) < n := Int.emod_lt_of_pos _ (by omega)
  omega
end Go.Proofs.Ytiffnlcpemfmoaa.QuN
