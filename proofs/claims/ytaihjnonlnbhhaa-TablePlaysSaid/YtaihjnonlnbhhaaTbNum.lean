/- The slots' numbers: what a key is mixed to; masks; keys in their order. Conditions: each theorem's own. -/
import Derived.Test.YtaihjnonlnbhhaaHeap
import Derived.Test.YtaihjnonlnbhhaaTbMath
import Derived.WalkKit
import Derived.Outline
import Derived.Deep.QuietTactic
import Derived.BigQuiet
import Derived.Laws.Bits64
set_option linter.unusedVariables false
namespace Go.Proofs.Ytaihjnonlnbhhaa.TbN
open Go.RowKit Hp
/-- What a number is mixed to. -/
def mixF (x : Int) : Int :=
  let a := IntKind.u64.wrap (x + 11400714819323198485)
  let b := IntKind.u64.wrap (bits BinOp.xor IntKind.u64 a (a / 1073741824) * 13787848793156543929)
  let c := IntKind.u64.wrap (bits BinOp.xor IntKind.u64 b (b / 134217728) * 10723151780598845931)
  bits BinOp.xor IntKind.u64 c (c / 2147483648)
theorem mix_range (x : Int) : 0 ≤ mixF x ∧ mixF x < 18446744073709551616 := by
  unfold mixF bits
  simp only [IntKind.wrap_u64]
  omega
theorem mix_any (x : Int) (w : World) (h0 : 0 ≤ x) (h1 : x < 18446744073709551616) : Calls Try.prog 75 #[.int .u64 x] w fun e w' => e = .returned (.int .u64 (mixF x)) ∧ w = w' := by
  obtain ⟨m, hm⟩ : ∃ m, m = mixF x := ⟨_, rfl⟩
  rw [← hm]
  have HM := Lib.hid hm
  clear hm
  go_enter Try.func75, Try.ntmps75
  go_wp2_with fail
  go_ret
  exact ⟨by rw [HM.out]; rfl, rfl⟩
/-- So many slots there may be. -/
def Pow (n : Nat) : Prop := ∃ p, p ≤ 30 ∧ n = 2 ^ p
theorem Pow.pos {n : Nat} (h : Pow n) : 0 < n := by obtain ⟨p, _, rfl⟩ := h; exact Nat.two_pow_pos p
theorem Pow.le {n : Nat} (h : Pow n) : n ≤ 1073741824 := by
  obtain ⟨p, hp, rfl⟩ := h
  exact Nat.le_trans (Nat.pow_le_pow_right (by decide) hp) (by decide)
theorem mask_nat (p x : Nat) (hp : p ≤ 30) : x &&& (2 ^ p - 1) = x % 2 ^ p := Nat.and_two_pow_sub_one_eq_mod x p
theorem ofInt_mask {n : Nat} (h : Pow n) : (BitVec.ofInt 64 ((n : Int) - 1)).toNat = n - 1 := by
  have h1 := h.pos
  have h2 := h.le
  rw [BitVec.toNat_ofInt]
  omega
theorem mod_mod_pow {p : Nat} (hp : p ≤ 30) (d : Int) : (d % ((2 ^ 64 : Nat) : Int)).toNat % 2 ^ p = (d % ((2 ^ p : Nat) : Int)).toNat := by
  have hd : ((2 ^ p : Nat) : Int) ∣ ((2 ^ 64 : Nat) : Int) := Int.natCast_dvd_natCast.2 (Nat.pow_dvd_pow 2 (by omega))
  have h0 : 0 ≤ d % ((2 ^ 64 : Nat) : Int) := Int.emod_nonneg _ (by decide)
  have hp0 : ((2 ^ p : Nat) : Int) ≠ 0 := by have := Nat.two_pow_pos p; omega
  have h1 : 0 ≤ d % ((2 ^ p : Nat) : Int) := Int.emod_nonneg _ hp0
  apply Int.ofNat.inj
  show (((d % ((2 ^ 64 : Nat) : Int)).toNat % 2 ^ p : Nat) : Int) = ((d % ((2 ^ p : Nat) : Int)).toNat : Int)
  rw [Int.natCast_emod, Int.toNat_of_nonneg h0, Int.toNat_of_nonneg h1, Int.emod_emod_of_dvd _ hd]
/-- Where a number falls among n. -/
theorem and_i64 {n : Nat} (h : Pow n) (d : Int) : bits .and .i64 d ((n : Int) - 1) = d % (n : Int) := by
  have hm := ofInt_mask h
  have hl := h.le
  have hz := h.pos
  obtain ⟨p, hp, rfl⟩ := h
  show IntKind.i64.wrap ((BitVec.ofInt 64 d &&& BitVec.ofInt 64 (((2 ^ p : Nat) : Int) - 1)).toNat : Nat) = _
  rw [BitVec.toNat_and, hm, mask_nat p _ hp, BitVec.toNat_ofInt, mod_mod_pow hp, IntKind.wrap_i64]
  generalize 2 ^ p = n at *
  have h0 : 0 ≤ d % (n : Int) := Int.emod_nonneg _ (by omega)
  have h1 : d % (n : Int) < n := Int.emod_lt_of_pos _ (by omega)
  omega
theorem and_u64 {n : Nat} (h : Pow n) (d : Int) : bits .and .u64 d ((n : Int) - 1) = d % (n : Int) := by
  have hm := ofInt_mask h
  have hl := h.le
  have hz := h.pos
  obtain ⟨p, hp, rfl⟩ := h
  show IntKind.u64.wrap ((BitVec.ofInt 64 d &&& BitVec.ofInt 64 (((2 ^ p : Nat) : Int) - 1)).toNat : Nat) = _
  rw [BitVec.toNat_and, hm, mask_nat p _ hp, BitVec.toNat_ofInt, mod_mod_pow hp, IntKind.wrap_u64]
  generalize 2 ^ p = n at *
  have h0 : 0 ≤ d % (n : Int) := Int.emod_nonneg _ (by omega)
  have h1 : d % (n : Int) < n := Int.emod_lt_of_pos _ (by omega)
  omega
theorem mod_nxt {n i : Nat} (h : i < n) : ((i : Int) + 1) % (n : Int) = (TbM.nxt n i : Nat) := by
  unfold TbM.nxt
  split
  · rw [Int.emod_eq_of_lt] <;> omega
  · have e : (i : Int) + 1 = n := by omega
    rw [e, Int.emod_self]; rfl
theorem mod_dist {n a b : Nat} (ha : a < n) (hb : b < n) : ((b : Int) - (a : Int)) % (n : Int) = (TbM.dist n a b : Nat) := by
  unfold TbM.dist
  split
  · rw [Int.emod_eq_of_lt] <;> omega
  · have e : (b : Int) - (a : Int) = ((b + n - a : Nat) : Int) - (n : Int) := by omega
    rw [e, Int.sub_emod_right, Int.emod_eq_of_lt] <;> omega
/-- A key: somebody, and his number. -/
abbrev Ky := Int × Int
/-- What a key is, as it may be. -/
def KyOk (k : Ky) : Prop := (-9223372036854775808 ≤ k.1 ∧ k.1 ≤ 9223372036854775807) ∧ 0 ≤ k.2 ∧ k.2 ≤ 18446744073709551615
/-- What a key is mixed to. -/
def hashF (k : Ky) : Int := mixF (IntKind.u64.wrap (mixF (IntKind.u64.wrap k.1) + k.2))
theorem hash_range (k : Ky) : 0 ≤ hashF k ∧ hashF k < 18446744073709551616 := mix_range _
/-- Where its search begins, of n slots. -/
def homeF (n : Nat) (k : Ky) : Nat := (hashF k % (n : Int)).toNat
theorem home_lt {n : Nat} (h : 0 < n) (k : Ky) : homeF n k < n := by
  unfold homeF
  have h0 : 0 ≤ hashF k % (n : Int) := Int.emod_nonneg _ (by omega)
  have h1 : hashF k % (n : Int) < n := Int.emod_lt_of_pos _ (by omega)
  omega
theorem home_int {n : Nat} (h : 0 < n) (k : Ky) : hashF k % (n : Int) = (homeF n k : Nat) := by
  unfold homeF
  have h0 : 0 ≤ hashF k % (n : Int) := Int.emod_nonneg _ (by omega)
  omega
end Go.Proofs.Ytaihjnonlnbhhaa.TbN
