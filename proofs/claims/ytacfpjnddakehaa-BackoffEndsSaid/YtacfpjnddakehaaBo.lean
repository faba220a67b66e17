/- Backoff: the delay, the program's and the reference's. Conditions: each theorem's own. -/
import Derived.Test.YtacfpjnddakehaaBoNum
import Derived.Test.YtacfpjnddakehaaHeap
import Derived.Deep.RegionHeld3
import Derived.WalkLawsBesides
import Derived.Deep.DrawnRows
import Derived.Deep.RegionWith
import Derived.Deep.DeepCutAuto
set_option linter.unusedVariables false
namespace Go.Proofs.Ytacfpjnddakehaa.Bo
open Go.RowKit Hp NumM NumC
attribute [local go_sem ↓] Go.wp_at_zero Go.wp_at_succ
/-- A base doubled so often, a limit at most. -/
def dly (x y : Int) (n : Nat) : Int := min (x * 2 ^ n) y
def delayI (b c k : Int) : Int := dly (clampI b 1 1099511627776) (clampI c 1 1099511627776) (clampI k 0 100).toNat
theorem pow_pos' (n : Nat) : (1 : Int) ≤ 2 ^ n := by have := Int.pow_pos (n := 2) (m := n) (by decide); omega
theorem pow_le {m n : Nat} (h : m ≤ n) : (2 : Int) ^ m ≤ 2 ^ n := by exact_mod_cast Nat.pow_le_pow_right (by decide) h
theorem mul_pow_le {x : Int} (h : 0 ≤ x) {m n : Nat} (hmn : m ≤ n) : x * 2 ^ m ≤ x * 2 ^ n := Int.mul_le_mul_of_nonneg_left (pow_le hmn) h
theorem mul_ge {x : Int} (h : 0 ≤ x) (n : Nat) : x ≤ x * 2 ^ n := by have := mul_pow_le h (Nat.zero_le n); simpa using this
theorem dly_lo {x y : Int} (hx : 1 ≤ x) (hy : 1 ≤ y) (n : Nat) : 1 ≤ dly x y n := by
  have := mul_ge (x := x) (by omega) n
  unfold dly; omega
theorem dly_hi (x y : Int) (n : Nat) : dly x y n ≤ y := by unfold dly; omega
theorem dly_over {x y : Int} (hx : 1 ≤ x) {m n : Nat} (hm : m ≤ n) (h : y / 2 ^ m < x) : dly x y n = y := by
  have h1 := (Int.ediv_lt_iff_lt_mul (a := y) (b := x) (c := 2 ^ m) (by have := pow_pos' m; omega)).mp h
  have h2 := mul_pow_le (x := x) (by omega) hm
  unfold dly; omega
theorem dly_under {x y : Int} (hx : 1 ≤ x) (hy : y ≤ 1099511627776) {n : Nat} (h : ¬ y / 2 ^ min n 64 < x) : min n 64 = n ∧ dly x y n = x * 2 ^ min n 64 ∧ x * 2 ^ min n 64 ≤ y := by
  have h1 : x * 2 ^ min n 64 ≤ y := (Int.le_ediv_iff_mul_le (by have := pow_pos' (min n 64); omega)).mp (by omega)
  have h2 : min n 64 = n := by
    rcases Nat.lt_or_ge n 64 with h3 | h3
    · omega
    · rw [show min n 64 = 64 by omega] at h1
      have : (2 : Int) ^ 64 = 18446744073709551616 := by decide
      rw [this] at h1
      omega
  refine ⟨h2, ?_, h1⟩
  rw [h2] at h1 ⊢
  unfold dly; omega
theorem delayI_bd (b c k : Int) : 1 ≤ delayI b c k ∧ delayI b c k ≤ clampI c 1 1099511627776 ∧ delayI b c k ≤ 1099511627776 := by
  have h1 := clampI_bd b (low := 1) (high := 1099511627776) (by decide)
  have h2 := clampI_bd c (low := 1) (high := 1099511627776) (by decide)
  have h3 := dly_lo h1.1 h2.1 (clampI k 0 100).toNat
  have h4 := dly_hi (clampI b 1 1099511627776) (clampI c 1 1099511627776) (clampI k 0 100).toNat
  unfold delayI
  omega
set_option maxHeartbeats 2000000 in
theorem delay_any (b c k : Int) (w : World) : Calls Try.prog 17 #[.int .i64 b, .int .i64 c, .int .i64 k] w fun e w' => e = .returned (.int .i64 (delayI b c k)) ∧ w = w' := by
  obtain ⟨x0, x1⟩ := clampI_bd b (low := 1) (high := 1099511627776) (by decide)
  obtain ⟨y0, y1⟩ := clampI_bd c (low := 1) (high := 1099511627776) (by decide)
  obtain ⟨d0, d1⟩ := clampI_bd k (low := 0) (high := 100) (by decide)
  have C1 := Lib.hid fun w => clampInt_any b 1 1099511627776 w
  have C2 := Lib.hid fun w => clampInt_any c 1 1099511627776 w
  have C3 := Lib.hid fun w => clampInt_any k 0 100 w
  unfold delayI
  generalize clampI b 1 1099511627776 = x at *
  generalize clampI c 1 1099511627776 = y at *
  generalize clampI k 0 100 = d at *
  by_cases h : y / 2 ^ min d.toNat 64 < x
  · rw [dly_over x0 (by omega) h]
    go_enter Try.func17, Try.ntmps17
    go_wp2_with (go_at_call 22; first | (with_reducible refine Calls.mono (C1.out _) ?_; rintro e w' ⟨rfl, rfl⟩) | (with_reducible refine Calls.mono (C2.out _) ?_; rintro e w' ⟨rfl, rfl⟩) | (with_reducible refine Calls.mono (C3.out _) ?_; rintro e w' ⟨rfl, rfl⟩))
    go_ret
    exact ⟨rfl, rfl⟩
  · obtain ⟨e1, e2, e3⟩ := dly_under x0 y1 h
    rw [e2]
    have hx := mul_ge (x := x) (by omega) (min d.toNat 64)
    have hw : IntKind.i64.wrap (x * 2 ^ min d.toNat 64) = x * 2 ^ min d.toNat 64 := by rw [IntKind.wrap_i64]; omega
    clear e1 e2
    go_enter Try.func17, Try.ntmps17
    go_wp2_with (go_at_call 22; first | (with_reducible refine Calls.mono (C1.out _) ?_; rintro e w' ⟨rfl, rfl⟩) | (with_reducible refine Calls.mono (C2.out _) ?_; rintro e w' ⟨rfl, rfl⟩) | (with_reducible refine Calls.mono (C3.out _) ?_; rintro e w' ⟨rfl, rfl⟩))
    go_ret
    exact ⟨rfl, rfl⟩
theorem dly_now {x y : Int} {n : Nat} {z : Int} (h : z = x * 2 ^ n) : (if y < z then y else z) = dly x y n := by
  rw [h]; unfold dly; split <;> omega
theorem dly_past {x y : Int} (hx : 1 ≤ x) {m n : Nat} (hm : m ≤ n) {z : Int} (h : z = x * 2 ^ m) (hz : ¬ z < y) : (if y < z then y else z) = dly x y n := by
  have := mul_pow_le (x := x) (by omega) hm
  unfold dly; split <;> omega
set_option maxHeartbeats 2000000 in
theorem delay_ref (b c k : Int) (w : World) : Calls Try.prog 18 #[.int .i64 b, .int .i64 c, .int .i64 k] w fun e w' => e = .returned (.int .i64 (delayI b c k)) ∧ w = w' := by
  obtain ⟨x0, x1⟩ := clampI_bd b (low := 1) (high := 1099511627776) (by decide)
  obtain ⟨y0, y1⟩ := clampI_bd c (low := 1) (high := 1099511627776) (by decide)
  obtain ⟨d0, d1⟩ := clampI_bd k (low := 0) (high := 100) (by decide)
  have C1 := Lib.hid fun w => clampRef_any b 1 1099511627776 w
  have C2 := Lib.hid fun w => clampRef_any c 1 1099511627776 w
  have C3 := Lib.hid fun w => clampRef_any k 0 100 w
  unfold delayI
  generalize clampI b 1 1099511627776 = x at *
  generalize clampI c 1 1099511627776 = y at *
  generalize clampI k 0 100 = d at *
  obtain ⟨r, hr0⟩ : ∃ r, dly x y d.toNat = r := ⟨_, rfl⟩
  rw [hr0]
  have HR := Lib.hid hr0
  clear hr0
  go_enter Try.func18, Try.ntmps18
  go_wp2_with (go_at_call 19; first | (with_reducible refine Calls.mono (C1.out _) ?_; rintro e w' ⟨rfl, rfl⟩) | (with_reducible refine Calls.mono (C2.out _) ?_; rintro e w' ⟨rfl, rfl⟩) | (with_reducible refine Calls.mono (C3.out _) ?_; rintro e w' ⟨rfl, rfl⟩))
  clear C1 C2 C3
  go_loopg [0, 7] d.toNat (fun m s0 s7 wr => ∃ (i : Nat) (z : Int), Hid (m = d.toNat - i) ∧ i ≤ d.toNat ∧ s0 = .int .i64 z ∧ s7 = .int .i64 ((i : Nat) : Int) ∧ Hid (z = x * 2 ^ i) ∧ 1 ≤ z ∧ z ≤ 2199023255552 ∧ w = wr)
  case atStart => exact ⟨0, x, rfl, by omega, rfl, rfl, by simp [Hid], x0, by omega, rfl⟩
  case round =>
    obtain ⟨i, z, hm, hi, rfl, rfl, hz, z0, z1, rfl⟩ := hrel
    by_cases h1 : (i : Int) < d
    · by_cases h2 : z < y
      · have hw : IntKind.i64.wrap (2 * z) = 2 * z := by rw [IntKind.wrap_i64]; omega
        go_wp2_with fail
        go_roundg (d.toNat - (i + 1))
        case measure => have := hm.out; omega
        case rel => exact ⟨i + 1, 2 * z, rfl, by omega, rfl, by simp, Lib.hid (by rw [hz.out, Int.pow_succ]; grind), by omega, by omega, rfl⟩
      · have hr := dly_past (n := d.toNat) x0 hi hz.out h2
        rw [HR.out] at hr
        go_wp2_with fail
        go_ret
        exact ⟨rfl, rfl⟩
    · have hr := dly_now (y := y) hz.out
      rw [show i = d.toNat by omega] at hr
      rw [HR.out] at hr
      go_wp2_with fail
      go_ret
      exact ⟨rfl, rfl⟩
end Go.Proofs.Ytacfpjnddakehaa.Bo
