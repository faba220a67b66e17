/- The functions on bits, digits and levels: one contract each. Conditions: each theorem's own. -/
import Derived.Shelf.Small.Bits
import Derived.Shelf.Strconv.Itoa0
import Derived.Test.YtjmlglibmlfjaaaDoorHeap
import Derived.Test.YtjmlglibmlfjaaaDoorBitsMath
import Derived.Lib.Tables
import Derived.Outline
import Derived.Deep.QuietTactic
import Derived.BigQuiet
namespace Go.Proofs.YtjmlglibmlfjaaaDoor.BitsC
open Go.RowKit Hp BitsM
open Go.Shelf
def lays125_ren : Go.Shelf.Ren := ⟨fun | 125 => 45 | 128 => 48 | 129 => 49 | n => n, fun | 46 => 99 | 3 => 3 | 51 => 101 | 53 => 103 | 4 => 4 | 5 => 5 | 9 => 9 | n => n, fun | n => n⟩
theorem lays125 : Go.Proofs.Lays.n125 Tryd.prog lays125_ren := {
  mixed := by kernel_rfl
  f125 := Tryd.func45.trans (congrArg some (by kernel_rfl))
  f128 := Tryd.func48.trans (congrArg some (by kernel_rfl))
  f129 := Tryd.func49.trans (congrArg some (by kernel_rfl))
  t3 := Tryd.underlying3
  a3 := Tryd.isAgg3
  z3 := Tryd.sizeOf3
  v3 := Tryd.zeroValue3
  t4 := Tryd.underlying4
  a4 := Tryd.isAgg4
  z4 := Tryd.sizeOf4
  v4 := Tryd.zeroValue4
  t5 := Tryd.underlying5
  a5 := Tryd.isAgg5
  z5 := Tryd.sizeOf5
  v5 := Tryd.zeroValue5
  t9 := Tryd.underlying9
  a9 := Tryd.isAgg9
  z9 := Tryd.sizeOf9
  v9 := Tryd.zeroValue9
  t46 := Tryd.underlying99
  a46 := Tryd.isAgg99
  z46 := Tryd.sizeOf99
  v46 := Tryd.zeroValue99
  t51 := Tryd.underlying101
  a51 := Tryd.isAgg101
  z51 := Tryd.sizeOf101
  v51 := Tryd.zeroValue101
  t53 := Tryd.underlying103
  a53 := Tryd.isAgg103
  z53 := Tryd.sizeOf103
  v53 := Tryd.zeroValue103 }
theorem len_any (x : Nat) (w : World) (h1 : x ≤ 18446744073709551615) :
    Calls Tryd.prog 45 #[.int .u64 x] w fun e w' => e = .returned (.int .i64 (Lib.bitLen x)) ∧ w = w' :=
  (Any.bits_Len lays125 x w (by omega) (by omega)).mono fun _ _ ⟨he, hw⟩ => ⟨by simpa using he, hw.symm⟩
theorem ret_int {k : IntKind} {a b : Int} (h : a = b) : Ending.returned (.int k a) = .returned (.int k b) := by rw [h]
theorem digit_any (a j : Nat) (hl : j ≤ 12) (w : World) :
   Calls Tryd.prog 35 #[.int .i64 a, .int .i64 j] w fun e w' => e = .returned (.int .i64 (dig a j)) ∧ w = w' := by
  have e1 : ((a : Int) / 2 ^ (4 * j)).tmod 16 = ((dig a j : Nat) : Int) := by
    have h16 : (16 : Nat) ^ j = 2 ^ (4 * j) := by rw [Nat.pow_mul]
    have e : (a : Int) / 2 ^ (4 * j) = ((a / 2 ^ (4 * j) : Nat) : Int) := by norm_cast
    unfold dig
    rw [e, h16, Int.tmod_eq_emod_of_nonneg (Int.natCast_nonneg _)]
    generalize a / 2 ^ (4 * j) = q
    omega
  have E1 := Lib.hid e1
  clear e1
  go_enter Tryd.func35, Tryd.ntmps35
  go_wp2
  go_ret
  exact ⟨ret_int E1.out, rfl⟩
theorem bits_xor_i64_nat (a b : Nat) (ha : a < 2 ^ 60) (hb : b < 2 ^ 60) : bits .xor .i64 (a : Int) (b : Int) = ((a ^^^ b : Nat) : Int) := by
  have hx : a ^^^ b < 2 ^ 60 := Nat.xor_lt_two_pow ha hb
  have h1 : (BitVec.ofInt 64 (a : Int)).toNat = a := by
    rw [BitVec.ofInt_natCast, BitVec.toNat_ofNat]; exact Nat.mod_eq_of_lt (by omega)
  have h2 : (BitVec.ofInt 64 (b : Int)).toNat = b := by
    rw [BitVec.ofInt_natCast, BitVec.toNat_ofNat]; exact Nat.mod_eq_of_lt (by omega)
  show IntKind.i64.wrap ((BitVec.ofInt 64 (a : Int) ^^^ BitVec.ofInt 64 (b : Int)).toNat : Int) = _
  rw [BitVec.toNat_xor, h1, h2, IntKind.wrap_i64]
  omega
theorem levelOf_any (a b : Nat) (ha : a ≤ 1125899906842624) (hb : b ≤ 1125899906842624) (w : World) :
   Calls Tryd.prog 32 #[.int .i64 a, .int .i64 b] w fun e w' => e = .returned (.int .i64 ((meet a b : Int) - 1)) ∧ w = w' := by
  have hx : a ^^^ b < 2 ^ 60 := Nat.xor_lt_two_pow (by omega) (by omega)
  have e1 : IntKind.u64.wrap (bits BinOp.xor IntKind.i64 (a : Int) (b : Int)) = ((a ^^^ b : Nat) : Int) := by
    rw [bits_xor_i64_nat a b (by omega) (by omega), IntKind.wrap_u64]; omega
  have hl := bitLen_le64 (a ^^^ b) (by omega)
  have hm' : Hid (meet a b = (Lib.bitLen (a ^^^ b) + 3) / 4) := rfl
  have E1 := Lib.hid e1
  clear e1
  go_enter Tryd.func32, Tryd.ntmps32
  go_wp2_with (go_at_call 45; rw [E1.out]; refine (len_any _ _ (by omega)).mono ?_; rintro e w1 ⟨rfl, rfl⟩)
  go_ret
  exact ⟨ret_int (by have := hm'.out; omega), rfl⟩
theorem pop_lit : (⟨((([0, 1, 1, 2, 1, 2, 2, 3, 1, 2, 2, 3, 2, 3, 3, 4, 1, 2, 2, 3, 2, 3, 3, 4, 2, 3, 3, 4, 3, 4, 4, 5, 1, 2, 2, 3, 2, 3, 3, 4, 2, 3, 3, 4, 3, 4, 4, 5, 2, 3, 3, 4, 3, 4, 4, 5, 3, 4, 4, 5, 4, 5, 5, 6].append [1, 2, 2, 3, 2, 3, 3, 4, 2, 3, 3, 4, 3, 4, 4, 5, 2, 3, 3, 4, 3, 4, 4, 5, 3, 4, 4, 5, 4, 5, 5, 6, 2, 3, 3, 4, 3, 4, 4, 5, 3, 4, 4, 5, 4, 5, 5, 6, 3, 4, 4, 5, 4, 5, 5, 6, 4, 5, 5, 6, 5, 6, 6, 7]).append ([1, 2, 2, 3, 2, 3, 3, 4, 2, 3, 3, 4, 3, 4, 4, 5, 2, 3, 3, 4, 3, 4, 4, 5, 3, 4, 4, 5, 4, 5, 5, 6, 2, 3, 3, 4, 3, 4, 4, 5, 3, 4, 4, 5, 4, 5, 5, 6, 3, 4, 4, 5, 4, 5, 5, 6, 4, 5, 5, 6, 5, 6, 6, 7].append [2, 3, 3, 4, 3, 4, 4, 5, 3, 4, 4, 5, 4, 5, 5, 6, 3, 4, 4, 5, 4, 5, 5, 6, 4, 5, 5, 6, 5, 6, 6, 7, 3, 4, 4, 5, 4, 5, 5, 6, 4, 5, 5, 6, 5, 6, 6, 7, 4, 5, 5, 6, 5, 6, 6, 7, 5, 6, 6, 7, 6, 7, 7, 8]))).toArray⟩ : ByteArray) = Lib.pop8tab := by kernel_rfl
theorem pop8_run (x : Nat) (hx : x < 256) (k : IntKind) (w : World) : (Instr.index 9 (.string Lib.pop8tab) (.int k (x : Int))).run Tryd.prog w = .ok (.int .u8 (Lib.onesCount x)) w := by
  have p1 : Lib.pop8 (x : Int) = (Lib.onesCount x : Int) := Lib.pop8_eq ⟨x, hx⟩
  rw [Lib.run_index_pop8tab _ _ _ _ Tryd.underlying9 (by omega) (by omega), p1]
theorem ones8_le (x : Nat) (hx : x < 256) : Lib.onesCount x ≤ 8 := Lib.onesCount_le8 ⟨x, hx⟩
theorem ones_core (x p q n : Nat) (hx : x < 65536) (w : World) (h1 : p ≤ 8) (h2 : q ≤ 8) (hn : n = p + q)
  (r1 : ∀ w : World, (Instr.index 9 (.string Lib.pop8tab) (.int .u16 ((x : Int) / 256))).run Tryd.prog w = .ok (.int .u8 (p : Int)) w)
  (r2 : ∀ w : World, (Instr.index 9 (.string Lib.pop8tab) (.int .u16 ((x : Int) % 256))).run Tryd.prog w = .ok (.int .u8 (q : Int)) w) :
   Calls Tryd.prog 37 #[.int .u16 x] w fun e w' => e = .returned (.int .i64 n) ∧ ∃ n, w' = w.drewN n := by
  have e2 : bits BinOp.and .u16 (x : Int) 255 = (x : Int) % 256 := by rw [show (255 : Int) = ((255 : Nat) : Int) from rfl, u16_and_nat x 255 hx (by omega), nat_mask8]; omega
  have hn' := Lib.hid hn
  clear hn
  go_enter Tryd.func37, Tryd.ntmps37
  rw [pop_lit]
  go_wp2
  go_quiet (fail)
  go_wp2
  go_ret
  exact ⟨ret_int (by have := hn'.out; omega), _, rfl⟩
theorem ones_any (x : Nat) (hx : x < 65536) (w : World) :
   Calls Tryd.prog 37 #[.int .u16 x] w fun e w' => e = .returned (.int .i64 (ones x)) ∧ ∃ n, w' = w.drewN n :=
  ones_core x _ _ (ones x) hx w (ones8_le (x / 256) (by omega)) (ones8_le (x % 256) (by omega)) rfl
    (fun w => by have := pop8_run (x / 256) (by omega) .u16 w; rwa [show ((x / 256 : Nat) : Int) = (x : Int) / 256 from by omega] at this)
    (fun w => by have := pop8_run (x % 256) (by omega) .u16 w; rwa [show ((x % 256 : Nat) : Int) = (x : Int) % 256 from by omega] at this)
def TabAt (g : Nat) (tab : List Nat) (w : World) : Prop := ∀ j, j < tab.length → w.cell? ⟨g, j, none⟩ = some (.int .u8 (tab.getD j 0))
theorem tz16_core (x k idx : Nat) (w : World) (hx0 : ((x : Int) == 0) = false)
    (key : bits BinOp.and IntKind.u16 (x : Int) (IntKind.u16.wrap (-(x : Int))) % 4294967296 * 125613361 % 4294967296 / 134217728 = (idx : Int))
    (hi : idx < 32) (hk : k < 32) (hcell : w.cell? ⟨0, idx, none⟩ = some (.int .u8 k)) :
    Calls Tryd.prog 46 #[.int .u16 x] w fun e w' => e = .returned (.int .i64 k) ∧ w = w' := by
  go_enter Tryd.func46, Tryd.ntmps46
  go_wp2_with (simp only [key])
  go_ret
  exact ⟨rfl, rfl⟩
theorem tz16_key (x a : Nat) (hx : x < 65536) (hx0 : x ≠ 0) (hlow : x &&& (65536 - x) = a) :
    bits BinOp.and IntKind.u16 (x : Int) (IntKind.u16.wrap (-(x : Int))) % 4294967296 * 125613361 % 4294967296 / 134217728 = ((a * 125613361 % 4294967296 / 134217728 : Nat) : Int) := by
  have e1 : IntKind.u16.wrap (-(x : Int)) = ((65536 - x : Nat) : Int) := by rw [IntKind.wrap_u16]; omega
  have h3 : a < 65536 := by rw [← hlow]; exact Nat.lt_of_le_of_lt Nat.and_le_left hx
  rw [e1, u16_and_nat x _ hx (by omega), hlow]
  omega
theorem tz16_any (x : Nat) (hx : x < 65536) (h0 : x ≠ 0) (w : World) (hT : TabAt (0) Lib.deBruijn32tab w) :
   Calls Tryd.prog 46 #[.int .u16 x] w fun e w' => e = .returned (.int .i64 (Lib.ctz 16 x)) ∧ w = w' := by
  obtain ⟨hlow, hk⟩ := Lib.lowest_bit 16 x h0 hx
  obtain ⟨hi, htab⟩ := Lib.deBruijn32_at _ (show Lib.ctz 16 x < 32 by omega)
  have hcell := hT _ hi
  rw [htab] at hcell
  exact tz16_core x _ _ w (by simp; omega) (tz16_key x _ hx h0 hlow) hi (by omega) hcell
end Go.Proofs.YtjmlglibmlfjaaaDoor.BitsC
