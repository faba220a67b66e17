/- What the functions of package num, and the reference ones, answer that package bucket leans on. Conditions: each theorem's own. -/
import Derived.Test.YtpipomlkfhpkhaaRows
import Derived.Test.YtpipomlkfhpkhaaNumMath
import Derived.Test.YtpipomlkfhpkhaaNum1m
import Derived.WalkKit
import Derived.Outline
import Derived.ProofKit
import Derived.Lib.Hide
import Derived.LoopTactic
import Derived.Laws.NewBlocks
import Derived.BigQuiet
import Derived.Deep.QuietTactic
namespace Go.Proofs.Ytpipomlkfhpkhaa.NumC
open Go.RowKit NumM
theorem ret1 {k : IntKind} {a b : Int} (h : a = b) : Ending.returned (.int k a) = .returned (.int k b) := by rw [h]
theorem ret2 {k k' : IntKind} {a b c d : Int} (h : a = b) (h' : c = d) : Ending.returned (.tuple #[.int k a, .int k' c]) = .returned (.tuple #[.int k b, .int k' d]) := by rw [h, h']
theorem clampInt_any (v low high : Int) (w : World) : Calls Try.prog 32 #[.int .i64 v, .int .i64 low, .int .i64 high] w fun e w' => e = .returned (.int .i64 (clampI v low high)) ∧ w = w' := by
  by_cases h1 : v < low
  · have hr := clampI_lo (high := high) h1
    go_enter Try.func32, Try.ntmps32
    go_wp2
    go_ret
    exact ⟨by rw [hr]; rfl, rfl⟩
  · have h1' : low ≤ v := by omega
    clear h1
    by_cases h2 : high < v
    · have hr := clampI_hi h1' h2
      go_enter Try.func32, Try.ntmps32
      go_wp2
      go_ret
      exact ⟨by rw [hr]; rfl, rfl⟩
    · have h2' : v ≤ high := by omega
      clear h2
      have hr := clampI_in h1' h2'
      go_enter Try.func32, Try.ntmps32
      go_wp2
      go_ret
      exact ⟨by rw [hr]; rfl, rfl⟩
theorem clampFix_any (v low high : Int) (w : World) : Calls Try.prog 29 #[.int .i64 v, .int .i64 low, .int .i64 high] w fun e w' => e = .returned (.int .i64 (clampI v low high)) ∧ w = w' := by
  by_cases h1 : v < low
  · have hr := clampI_lo (high := high) h1
    go_enter Try.func29, Try.ntmps29
    go_wp2
    go_ret
    exact ⟨by rw [hr]; rfl, rfl⟩
  · have h1' : low ≤ v := by omega
    clear h1
    by_cases h2 : high < v
    · have hr := clampI_hi h1' h2
      go_enter Try.func29, Try.ntmps29
      go_wp2
      go_ret
      exact ⟨by rw [hr]; rfl, rfl⟩
    · have h2' : v ≤ high := by omega
      clear h2
      have hr := clampI_in h1' h2'
      go_enter Try.func29, Try.ntmps29
      go_wp2
      go_ret
      exact ⟨by rw [hr]; rfl, rfl⟩
theorem clampRef_any (v low high : Int) (w : World) : Calls Try.prog 30 #[.int .i64 v, .int .i64 low, .int .i64 high] w fun e w' => e = .returned (.int .i64 (clampI v low high)) ∧ w = w' := by
  by_cases h1 : v < low
  · have hr := clampI_lo (high := high) h1
    go_enter Try.func30, Try.ntmps30
    go_wp2
    go_ret
    exact ⟨by rw [hr]; rfl, rfl⟩
  · have h1' : low ≤ v := by omega
    clear h1
    by_cases h2 : high < v
    · have hr := clampI_hi h1' h2
      go_enter Try.func30, Try.ntmps30
      go_wp2
      go_ret
      exact ⟨by rw [hr]; rfl, rfl⟩
    · have h2' : v ≤ high := by omega
      clear h2
      have hr := clampI_in h1' h2'
      go_enter Try.func30, Try.ntmps30
      go_wp2
      go_ret
      exact ⟨by rw [hr]; rfl, rfl⟩
theorem held_any (v : Int) (w : World) : Calls Try.prog 38 #[.int .i64 v] w fun e w' => e = .returned (.int .i64 (hold v)) ∧ w = w' := by
  go_enter Try.func38, Try.ntmps38
  go_wp2_with (go_at_call 32; refine (clampInt_any _ _ _ _).mono ?_; rintro e w' ⟨rfl, rfl⟩)
  go_ret
  exact ⟨rfl, rfl⟩
theorem hold_any (v : Int) (w : World) : Calls Try.prog 39 #[.int .i64 v] w fun e w' => e = .returned (.int .i64 (hold v)) ∧ w = w' := by
  go_enter Try.func39, Try.ntmps39
  go_wp2_with (go_at_call 30; refine (clampRef_any _ _ _ _).mono ?_; rintro e w' ⟨rfl, rfl⟩)
  go_ret
  exact ⟨rfl, rfl⟩
theorem addNum_any (a b : Int) (w : World) : Calls Try.prog 27 #[.int .i64 a, .int .i64 b] w fun e w' => e = .returned (.int .i64 (addI a b)) ∧ w = w' := by
  have h1 := hold_lo a
  have h2 := hold_hi a
  have h3 := hold_lo b
  have h4 := hold_hi b
  go_enter Try.func27, Try.ntmps27
  go_wp2_with (go_at_call 38; refine (held_any _ _).mono ?_; rintro e w' ⟨rfl, rfl⟩)
  go_ret
  exact ⟨rfl, rfl⟩
theorem subNum_any (a b : Int) (w : World) : Calls Try.prog 25 #[.int .i64 a, .int .i64 b] w fun e w' => e = .returned (.int .i64 (subI a b)) ∧ w = w' := by
  have h1 := hold_lo a
  have h2 := hold_hi a
  have h3 := hold_lo b
  have h4 := hold_hi b
  go_enter Try.func25, Try.ntmps25
  go_wp2_with (go_at_call 38; refine (held_any _ _).mono ?_; rintro e w' ⟨rfl, rfl⟩)
  go_ret
  exact ⟨rfl, rfl⟩
theorem addRef_any (a b : Int) (w : World) : Calls Try.prog 28 #[.int .i64 a, .int .i64 b] w fun e w' => e = .returned (.int .i64 (addI a b)) ∧ w = w' := by
  have h1 := hold_lo a
  have h2 := hold_hi a
  have h3 := hold_lo b
  have h4 := hold_hi b
  go_enter Try.func28, Try.ntmps28
  go_wp2_with (go_at_call 39; refine (hold_any _ _).mono ?_; rintro e w' ⟨rfl, rfl⟩)
  go_ret
  exact ⟨rfl, rfl⟩
theorem product_any (a b : Int) (a0 : 0 ≤ a) (a1 : a ≤ 1125899906842624) (b0 : 0 ≤ b) (b1 : b ≤ 1125899906842624) (w : World) : Calls Try.prog 40 #[.int .i64 a, .int .i64 b] w fun e w' => e = .returned (.tuple #[.int .i64 (prodU a b), .int .i64 (prodL a b)]) ∧ w = w' := by
  have hs := prod_split a b
  have ⟨c1, d1⟩ := mul_bd (p := a / 33554432) (q := b % 33554432) (P := 33554432) (Q := 33554431) (by omega) (by omega) (by omega) (by omega)
  have ⟨c2, d2⟩ := mul_bd (p := a % 33554432) (q := b / 33554432) (P := 33554431) (Q := 33554432) (by omega) (by omega) (by omega) (by omega)
  have ⟨c3, d3⟩ := mul_bd (p := a % 33554432) (q := b % 33554432) (P := 33554431) (Q := 33554431) (by omega) (by omega) (by omega) (by omega)
  have ⟨c4, d4⟩ := mul_bd (p := a / 33554432) (q := b / 33554432) (P := 33554432) (Q := 33554432) (by omega) (by omega) (by omega) (by omega)
  have HS := Lib.hid hs
  clear hs
  go_enter Try.func40, Try.ntmps40
  go_wp2
  go_ret2
  have hs := HS.out
  exact ⟨ret2 (by unfold prodU; omega) (by unfold prodL; omega), rfl⟩
theorem mulNum_any (a b : Int) (w : World) : Calls Try.prog 34 #[.int .i64 a, .int .i64 b] w fun e w' => e = .returned (.int .i64 (mulI a b)) ∧ w = w' := by
  have h1 := hold_lo a
  have h2 := hold_hi a
  have h3 := hold_lo b
  have h4 := hold_hi b
  go_enter Try.func34, Try.ntmps34
  go_wp2_with (first | (go_at_call 38; refine (held_any _ _).mono ?_; rintro e w' ⟨rfl, rfl⟩) | (go_at_call 40; refine (product_any _ _ (by assumption) (by assumption) (by assumption) (by assumption) _).mono ?_; rintro e w' ⟨rfl, rfl⟩))
  all_goals
    go_ret
    refine ⟨ret1 ?_, rfl⟩
  · have hu : 0 < prodU (hold a) (hold b) := by assumption
    unfold prodU at hu
    unfold mulI
    rw [hold_top (by omega)]
  · have hu : prodU (hold a) (hold b) ≤ 0 := by assumption
    have hn := Int.mul_nonneg h1 h3
    unfold prodU at hu
    unfold mulI prodL
    rw [hold_in hn (by omega)]
    omega
theorem mulRef_any (a b : Int) (w : World) : Calls Try.prog 37 #[.int .i64 a, .int .i64 b] w fun e w' => e = .returned (.int .i64 (mulI a b)) ∧ w = w' := by
  have h1 := hold_lo a
  have h2 := hold_hi a
  have h3 := hold_lo b
  have h4 := hold_hi b
  by_cases ha : hold a = 0
  · have e1 : (hold a == 0) = true := by simp [ha]
    have hr : mulI a b = 0 := by unfold mulI; rw [ha, Int.zero_mul]; rfl
    clear ha
    go_enter Try.func37, Try.ntmps37
    go_wp2_with (go_at_call 39; refine (hold_any _ _).mono ?_; rintro e w' ⟨rfl, rfl⟩)
    go_ret
    exact ⟨by rw [hr]; rfl, rfl⟩
  · have e1 : (hold a == 0) = false := by simp [ha]
    by_cases hb : hold b = 0
    · have e2 : (hold b == 0) = true := by simp [hb]
      have hr : mulI a b = 0 := by unfold mulI; rw [hb, Int.mul_zero]; rfl
      clear ha hb
      go_enter Try.func37, Try.ntmps37
      go_wp2_with (go_at_call 39; refine (hold_any _ _).mono ?_; rintro e w' ⟨rfl, rfl⟩)
      go_ret
      exact ⟨by rw [hr]; rfl, rfl⟩
    · have e2 : (hold b == 0) = false := by simp [hb]
      have hb1 : 1 ≤ hold b := by omega
      by_cases hc : 1125899906842624 / hold b < hold a
      · have hr : mulI a b = 1125899906842624 := by
          unfold mulI
          exact hold_top (by have := (Int.ediv_lt_iff_lt_mul (by omega)).mp hc; omega)
        clear ha hb
        go_enter Try.func37, Try.ntmps37
        go_wp2_with (go_at_call 39; refine (hold_any _ _).mono ?_; rintro e w' ⟨rfl, rfl⟩)
        go_ret
        exact ⟨by rw [hr]; rfl, rfl⟩
      · have hc' : hold a ≤ 1125899906842624 / hold b := by omega
        have hle := (Int.le_ediv_iff_mul_le (by omega)).mp hc'
        have hn := Int.mul_nonneg h1 h3
        have hr : mulI a b = hold a * hold b := by unfold mulI; exact hold_in hn hle
        clear ha hb hc
        go_enter Try.func37, Try.ntmps37
        go_wp2_with (go_at_call 39; refine (hold_any _ _).mono ?_; rintro e w' ⟨rfl, rfl⟩)
        go_ret
        exact ⟨by rw [hr]; rfl, rfl⟩
theorem plus_any (a b : Int) (w : World) : Calls Try.prog 36 #[.int .i64 a, .int .i64 b] w fun e w' => e = .returned (.int .i64 (addI a b)) ∧ w = w' := by
  go_enter Try.func36, Try.ntmps36
  go_wp2_with (go_at_call 27; refine (addNum_any _ _ _).mono ?_; rintro e w' ⟨rfl, rfl⟩)
  go_ret
  exact ⟨rfl, rfl⟩
theorem int_any (a : Int) (w : World) : Calls Try.prog 31 #[.int .i64 a] w fun e w' => e = .returned (.int .i64 (hold a / 65536)) ∧ w = w' := by
  have h1 := hold_lo a
  have h2 := hold_hi a
  go_enter Try.func31, Try.ntmps31
  go_wp2_with (go_at_call 38; refine (held_any _ _).mono ?_; rintro e w' ⟨rfl, rfl⟩)
  go_ret
  exact ⟨rfl, rfl⟩
theorem divNum_no (a b : Int) (h : b < 1) (w : World) : Calls Try.prog 26 #[.int .i64 a, .int .i64 b] w fun e w' => e = .returned (.tuple #[.int .i64 0, .int .i64 1]) ∧ w = w' := by
  go_enter Try.func26, Try.ntmps26
  go_wp2
  go_ret2
  exact ⟨rfl, rfl⟩
theorem divNum_yes (a b : Int) (h : 1 ≤ b) (w : World) : Calls Try.prog 26 #[.int .i64 a, .int .i64 b] w fun e w' => e = .returned (.tuple #[.int .i64 (hold a / b), .int .i64 0]) ∧ w = w' := by
  have h1 := hold_lo a
  have h2 := hold_hi a
  go_enter Try.func26, Try.ntmps26
  go_wp2_with (go_at_call 38; refine (held_any _ _).mono ?_; rintro e w' ⟨rfl, rfl⟩)
  go_ret2
  exact ⟨rfl, rfl⟩
theorem of_any (n : Int) (w : World) : Calls Try.prog 22 #[.int .i64 n] w fun e w' => e = .returned (.int .i64 (clampI n 0 17179869184 * 65536)) ∧ w = w' := by
  have hb := clampI_bd n (low := 0) (high := 17179869184) (by decide)
  go_enter Try.func22, Try.ntmps22
  go_wp2_with (go_at_call 32; refine (clampInt_any _ _ _ _).mono ?_; rintro e w' ⟨rfl, rfl⟩)
  go_ret
  exact ⟨rfl, rfl⟩
end Go.Proofs.Ytpipomlkfhpkhaa.NumC
