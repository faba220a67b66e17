/- What the functions of package num, and the reference ones, answer: one contract each. -/
import Derived.Test.YtpfnhbpbblddkaaRows
import Derived.Test.YtpfnhbpbblddkaaNumMath
import Derived.WalkKit
import Derived.Outline
import Derived.ProofKit
import Derived.Lib.Hide
import Derived.LoopTactic
import Derived.Laws.NewBlocks
import Derived.BigQuiet
import Derived.Deep.QuietTactic
namespace Go.Proofs.Ytpfnhbpbblddkaa.NumC
open Go.RowKit NumM
theorem ret1 {k : IntKind} {a b : Int} (h : a = b) : Ending.returned (.int k a) = .returned (.int k b) := by rw [h]
theorem ret2 {k k' : IntKind} {a b c d : Int} (h : a = b) (h' : c = d) : Ending.returned (.tuple #[.int k a, .int k' c]) = .returned (.tuple #[.int k b, .int k' d]) := by rw [h, h']
theorem two63 : (2 : Int) ^ 63 = 9223372036854775808 := by decide
theorem mask25 (a : Int) (h0 : 0 ≤ a) (h1 : a ≤ 1125899906842624) : bits BinOp.and IntKind.i64 a 33554431 = a % 33554432 := by
  have h := bits_mask .i64 63 (by decide) (fun n h0 h1 => by rw [two63] at h1; rw [IntKind.wrap_i64]; omega) 25 (by decide) a h0 (by rw [two63]; omega)
  have e : ((2 : Int) ^ 25 - 1) = 33554431 := by decide
  have e2 : ((2 : Int) ^ 25) = 33554432 := by decide
  rw [e, e2] at h
  exact h
theorem clampInt_any (v low high : Int) (w : World) : Calls Try.prog 15 #[.int .i64 v, .int .i64 low, .int .i64 high] w fun e w' => e = .returned (.int .i64 (clampI v low high)) ∧ w = w' := by
  by_cases h1 : v < low
  · have hr := clampI_lo (high := high) h1
    go_enter Try.func15, Try.ntmps15
    go_wp2
    go_ret
    exact ⟨by rw [hr]; rfl, rfl⟩
  · have h1' : low ≤ v := by omega
    clear h1
    by_cases h2 : high < v
    · have hr := clampI_hi h1' h2
      go_enter Try.func15, Try.ntmps15
      go_wp2
      go_ret
      exact ⟨by rw [hr]; rfl, rfl⟩
    · have h2' : v ≤ high := by omega
      clear h2
      have hr := clampI_in h1' h2'
      go_enter Try.func15, Try.ntmps15
      go_wp2
      go_ret
      exact ⟨by rw [hr]; rfl, rfl⟩
theorem clampRef_any (v low high : Int) (w : World) : Calls Try.prog 16 #[.int .i64 v, .int .i64 low, .int .i64 high] w fun e w' => e = .returned (.int .i64 (clampI v low high)) ∧ w = w' := by
  by_cases h1 : v < low
  · have hr := clampI_lo (high := high) h1
    go_enter Try.func16, Try.ntmps16
    go_wp2
    go_ret
    exact ⟨by rw [hr]; rfl, rfl⟩
  · have h1' : low ≤ v := by omega
    clear h1
    by_cases h2 : high < v
    · have hr := clampI_hi h1' h2
      go_enter Try.func16, Try.ntmps16
      go_wp2
      go_ret
      exact ⟨by rw [hr]; rfl, rfl⟩
    · have h2' : v ≤ high := by omega
      clear h2
      have hr := clampI_in h1' h2'
      go_enter Try.func16, Try.ntmps16
      go_wp2
      go_ret
      exact ⟨by rw [hr]; rfl, rfl⟩
theorem clampU64_any (v low high : Int) (w : World) : Calls Try.prog 37 #[.int .u64 v, .int .u64 low, .int .u64 high] w fun e w' => e = .returned (.int .u64 (clampI v low high)) ∧ w = w' := by
  by_cases h1 : v < low
  · have hr := clampI_lo (high := high) h1
    go_enter Try.func37, Try.ntmps37
    go_wp2
    go_ret
    exact ⟨by rw [hr]; rfl, rfl⟩
  · have h1' : low ≤ v := by omega
    clear h1
    by_cases h2 : high < v
    · have hr := clampI_hi h1' h2
      go_enter Try.func37, Try.ntmps37
      go_wp2
      go_ret
      exact ⟨by rw [hr]; rfl, rfl⟩
    · have h2' : v ≤ high := by omega
      clear h2
      have hr := clampI_in h1' h2'
      go_enter Try.func37, Try.ntmps37
      go_wp2
      go_ret
      exact ⟨by rw [hr]; rfl, rfl⟩
theorem clampI32_any (v low high : Int) (w : World) : Calls Try.prog 36 #[.int .i32 v, .int .i32 low, .int .i32 high] w fun e w' => e = .returned (.int .i32 (clampI v low high)) ∧ w = w' := by
  by_cases h1 : v < low
  · have hr := clampI_lo (high := high) h1
    go_enter Try.func36, Try.ntmps36
    go_wp2
    go_ret
    exact ⟨by rw [hr]; rfl, rfl⟩
  · have h1' : low ≤ v := by omega
    clear h1
    by_cases h2 : high < v
    · have hr := clampI_hi h1' h2
      go_enter Try.func36, Try.ntmps36
      go_wp2
      go_ret
      exact ⟨by rw [hr]; rfl, rfl⟩
    · have h2' : v ≤ high := by omega
      clear h2
      have hr := clampI_in h1' h2'
      go_enter Try.func36, Try.ntmps36
      go_wp2
      go_ret
      exact ⟨by rw [hr]; rfl, rfl⟩
theorem held_any (v : Int) (w : World) : Calls Try.prog 38 #[.int .i64 v] w fun e w' => e = .returned (.int .i64 (hold v)) ∧ w = w' := by
  go_enter Try.func38, Try.ntmps38
  go_wp2_with (go_at_call 15; refine (clampInt_any _ _ _ _).mono ?_; rintro e w' ⟨rfl, rfl⟩)
  go_ret
  exact ⟨rfl, rfl⟩
theorem hold_any (v : Int) (w : World) : Calls Try.prog 39 #[.int .i64 v] w fun e w' => e = .returned (.int .i64 (hold v)) ∧ w = w' := by
  go_enter Try.func39, Try.ntmps39
  go_wp2_with (go_at_call 16; refine (clampRef_any _ _ _ _).mono ?_; rintro e w' ⟨rfl, rfl⟩)
  go_ret
  exact ⟨rfl, rfl⟩
theorem addNum_any (a b : Int) (w : World) : Calls Try.prog 9 #[.int .i64 a, .int .i64 b] w fun e w' => e = .returned (.int .i64 (addI a b)) ∧ w = w' := by
  have h1 := hold_lo a
  have h2 := hold_hi a
  have h3 := hold_lo b
  have h4 := hold_hi b
  go_enter Try.func9, Try.ntmps9
  go_wp2_with (go_at_call 38; refine (held_any _ _).mono ?_; rintro e w' ⟨rfl, rfl⟩)
  go_ret
  exact ⟨rfl, rfl⟩
theorem subNum_any (a b : Int) (w : World) : Calls Try.prog 11 #[.int .i64 a, .int .i64 b] w fun e w' => e = .returned (.int .i64 (subI a b)) ∧ w = w' := by
  have h1 := hold_lo a
  have h2 := hold_hi a
  have h3 := hold_lo b
  have h4 := hold_hi b
  go_enter Try.func11, Try.ntmps11
  go_wp2_with (go_at_call 38; refine (held_any _ _).mono ?_; rintro e w' ⟨rfl, rfl⟩)
  go_ret
  exact ⟨rfl, rfl⟩
theorem addRef_any (a b : Int) (w : World) : Calls Try.prog 10 #[.int .i64 a, .int .i64 b] w fun e w' => e = .returned (.int .i64 (addI a b)) ∧ w = w' := by
  have h1 := hold_lo a
  have h2 := hold_hi a
  have h3 := hold_lo b
  have h4 := hold_hi b
  go_enter Try.func10, Try.ntmps10
  go_wp2_with (go_at_call 39; refine (hold_any _ _).mono ?_; rintro e w' ⟨rfl, rfl⟩)
  go_ret
  exact ⟨rfl, rfl⟩
theorem subRef_any (a b : Int) (w : World) : Calls Try.prog 12 #[.int .i64 a, .int .i64 b] w fun e w' => e = .returned (.int .i64 (subI a b)) ∧ w = w' := by
  have h1 := hold_lo a
  have h2 := hold_hi a
  have h3 := hold_lo b
  have h4 := hold_hi b
  go_enter Try.func12, Try.ntmps12
  go_wp2_with (go_at_call 39; refine (hold_any _ _).mono ?_; rintro e w' ⟨rfl, rfl⟩)
  go_ret
  exact ⟨rfl, rfl⟩
theorem product_any (a b : Int) (a0 : 0 ≤ a) (a1 : a ≤ 1125899906842624) (b0 : 0 ≤ b) (b1 : b ≤ 1125899906842624) (w : World) : Calls Try.prog 40 #[.int .i64 a, .int .i64 b] w fun e w' => e = .returned (.tuple #[.int .i64 (prodU a b), .int .i64 (prodL a b)]) ∧ w = w' := by
  have hs := prod_split a b
  have ⟨c1, d1⟩ := mul_bd (p := a / 33554432) (q := b % 33554432) (P := 33554432) (Q := 33554431) (by omega) (by omega) (by omega) (by omega)
  have ⟨c2, d2⟩ := mul_bd (p := a % 33554432) (q := b / 33554432) (P := 33554431) (Q := 33554432) (by omega) (by omega) (by omega) (by omega)
  have ⟨c3, d3⟩ := mul_bd (p := a % 33554432) (q := b % 33554432) (P := 33554431) (Q := 33554431) (by omega) (by omega) (by omega) (by omega)
  have ⟨c4, d4⟩ := mul_bd (p := a / 33554432) (q := b / 33554432) (P := 33554432) (Q := 33554432) (by omega) (by omega) (by omega) (by omega)
  have HS := Lib.hid hs
  clear hs
  go_enter Try.func40, Try.ntmps40
  go_wp2
  go_ret2
  have hs := HS.out
  exact ⟨ret2 (by unfold prodU; omega) (by unfold prodL; omega), rfl⟩
theorem mulNum_any (a b : Int) (w : World) : Calls Try.prog 13 #[.int .i64 a, .int .i64 b] w fun e w' => e = .returned (.int .i64 (mulI a b)) ∧ w = w' := by
  have h1 := hold_lo a
  have h2 := hold_hi a
  have h3 := hold_lo b
  have h4 := hold_hi b
  go_enter Try.func13, Try.ntmps13
  go_wp2_with (first | (go_at_call 38; refine (held_any _ _).mono ?_; rintro e w' ⟨rfl, rfl⟩) | (go_at_call 40; refine (product_any _ _ (by assumption) (by assumption) (by assumption) (by assumption) _).mono ?_; rintro e w' ⟨rfl, rfl⟩))
  all_goals
    go_ret
    refine ⟨ret1 ?_, rfl⟩
  · have hu : 0 < prodU (hold a) (hold b) := by assumption
    unfold prodU at hu
    unfold mulI
    rw [hold_top (by omega)]
  · have hu : prodU (hold a) (hold b) ≤ 0 := by assumption
    have hn := Int.mul_nonneg h1 h3
    unfold prodU at hu
    unfold mulI prodL
    rw [hold_in hn (by omega)]
    omega
theorem fixed_any (a b : Int) (w : World) : Calls Try.prog 41 #[.int .i64 a, .int .i64 b] w fun e w' => e = .returned (.int .i64 (fixI a b)) ∧ w = w' := by
  have h1 := hold_lo a
  have h2 := hold_hi a
  have h3 := hold_lo b
  have h4 := hold_hi b
  have hn := Int.mul_nonneg h1 h3
  have hu0 : 0 ≤ prodU (hold a) (hold b) := by unfold prodU; omega
  have hl0 : 0 ≤ prodL (hold a) (hold b) := by unfold prodL; omega
  have hl1 : prodL (hold a) (hold b) < 1125899906842624 := by unfold prodL; omega
  by_cases hc : 65536 ≤ prodU (hold a) (hold b)
  all_goals
    go_enter Try.func41, Try.ntmps41
    go_wp2_with (first | (go_at_call 38; refine (held_any _ _).mono ?_; rintro e w' ⟨rfl, rfl⟩) | (go_at_call 40; refine (product_any _ _ (by assumption) (by assumption) (by assumption) (by assumption) _).mono ?_; rintro e w' ⟨rfl, rfl⟩))
    go_ret
    refine ⟨ret1 ?_, rfl⟩
    unfold prodU prodL at *
    unfold fixI
  · rw [hold_top (v := hold a * hold b / 65536) (by omega)]
  · rw [hold_in (v := hold a * hold b / 65536) (by omega) (by omega)]
    omega
theorem over_any (a b : Int) (a0 : 0 ≤ a) (a1 : a ≤ 1125899906842624) (b0 : 0 ≤ b) (b1 : b ≤ 1125899906842624) (w : World) : Calls Try.prog 42 #[.int .i64 a, .int .i64 b] w fun e w' => e = .returned (.int .i64 (hold (a * b / 65536))) ∧ w = w' := by
  have hs := prod_split a b
  have ⟨c1, d1⟩ := mul_bd (p := a / 33554432) (q := b % 33554432) (P := 33554432) (Q := 33554431) (by omega) (by omega) (by omega) (by omega)
  have ⟨c2, d2⟩ := mul_bd (p := a % 33554432) (q := b / 33554432) (P := 33554431) (Q := 33554432) (by omega) (by omega) (by omega) (by omega)
  have ⟨c3, d3⟩ := mul_bd (p := a % 33554432) (q := b % 33554432) (P := 33554431) (Q := 33554431) (by omega) (by omega) (by omega) (by omega)
  have ⟨c4, d4⟩ := mul_bd (p := a / 33554432) (q := b / 33554432) (P := 33554432) (Q := 33554432) (by omega) (by omega) (by omega) (by omega)
  have HS := Lib.hid hs
  clear hs
  have ma := mask25 a a0 a1
  have mb := mask25 b b0 b1
  by_cases hc : 65536 ≤ a / 33554432 * (b / 33554432)
  · have hs := HS.out
    have ht := hold_top (v := a * b / 65536) (by omega)
    clear hs
    go_enter Try.func42, Try.ntmps42
    go_wp2_with (fail)
    go_ret
    exact ⟨ret1 ht.symm, rfl⟩
  · by_cases hm : a / 33554432 * (b % 33554432) + a % 33554432 * (b / 33554432) ≤ 35184372088832
    all_goals
      go_enter Try.func42, Try.ntmps42
      go_wp2_with (go_at_call 39; refine (hold_any _ _).mono ?_; rintro e w' ⟨rfl, rfl⟩)
      go_ret
      refine ⟨ret1 ?_, rfl⟩
      have hs := HS.out
    · congr 1
      omega
    · rw [hold_top (by omega), hold_top (by omega)]
theorem mulRef_any (a b : Int) (w : World) : Calls Try.prog 14 #[.int .i64 a, .int .i64 b] w fun e w' => e = .returned (.int .i64 (mulI a b)) ∧ w = w' := by
  have h1 := hold_lo a
  have h2 := hold_hi a
  have h3 := hold_lo b
  have h4 := hold_hi b
  by_cases ha : hold a = 0
  · have e1 : (hold a == 0) = true := by simp [ha]
    have hr : mulI a b = 0 := by unfold mulI; rw [ha, Int.zero_mul]; rfl
    clear ha
    go_enter Try.func14, Try.ntmps14
    go_wp2_with (go_at_call 39; refine (hold_any _ _).mono ?_; rintro e w' ⟨rfl, rfl⟩)
    go_ret
    exact ⟨by rw [hr]; rfl, rfl⟩
  · have e1 : (hold a == 0) = false := by simp [ha]
    by_cases hb : hold b = 0
    · have e2 : (hold b == 0) = true := by simp [hb]
      have hr : mulI a b = 0 := by unfold mulI; rw [hb, Int.mul_zero]; rfl
      clear ha hb
      go_enter Try.func14, Try.ntmps14
      go_wp2_with (go_at_call 39; refine (hold_any _ _).mono ?_; rintro e w' ⟨rfl, rfl⟩)
      go_ret
      exact ⟨by rw [hr]; rfl, rfl⟩
    · have e2 : (hold b == 0) = false := by simp [hb]
      have hb1 : 1 ≤ hold b := by omega
      by_cases hc : 1125899906842624 / hold b < hold a
      · have hr : mulI a b = 1125899906842624 := by
          unfold mulI
          exact hold_top (by have := (Int.ediv_lt_iff_lt_mul (by omega)).mp hc; omega)
        clear ha hb
        go_enter Try.func14, Try.ntmps14
        go_wp2_with (go_at_call 39; refine (hold_any _ _).mono ?_; rintro e w' ⟨rfl, rfl⟩)
        go_ret
        exact ⟨by rw [hr]; rfl, rfl⟩
      · have hc' : hold a ≤ 1125899906842624 / hold b := by omega
        have hle := (Int.le_ediv_iff_mul_le (by omega)).mp hc'
        have hn := Int.mul_nonneg h1 h3
        have hr : mulI a b = hold a * hold b := by unfold mulI; exact hold_in hn hle
        clear ha hb hc
        go_enter Try.func14, Try.ntmps14
        go_wp2_with (go_at_call 39; refine (hold_any _ _).mono ?_; rintro e w' ⟨rfl, rfl⟩)
        go_ret
        exact ⟨by rw [hr]; rfl, rfl⟩
theorem times_any (a b : Int) (w : World) : Calls Try.prog 24 #[.int .i64 a, .int .i64 b] w fun e w' => e = .returned (.int .i64 (fixI a b)) ∧ w = w' := by
  go_enter Try.func24, Try.ntmps24
  go_wp2_with (go_at_call 41; refine (fixed_any _ _ _).mono ?_; rintro e w' ⟨rfl, rfl⟩)
  go_ret
  exact ⟨rfl, rfl⟩
theorem by_any (a b : Int) (w : World) : Calls Try.prog 28 #[.int .i64 a, .int .i64 b] w fun e w' => e = .returned (.int .i64 (fixI a b)) ∧ w = w' := by
  go_enter Try.func28, Try.ntmps28
  go_wp2_with (go_at_call 41; refine (fixed_any _ _ _).mono ?_; rintro e w' ⟨rfl, rfl⟩)
  go_ret
  exact ⟨rfl, rfl⟩
theorem plus_any (a b : Int) (w : World) : Calls Try.prog 26 #[.int .i64 a, .int .i64 b] w fun e w' => e = .returned (.int .i64 (addI a b)) ∧ w = w' := by
  go_enter Try.func26, Try.ntmps26
  go_wp2_with (go_at_call 9; refine (addNum_any _ _ _).mono ?_; rintro e w' ⟨rfl, rfl⟩)
  go_ret
  exact ⟨rfl, rfl⟩
theorem plusRef_any (a b : Int) (w : World) : Calls Try.prog 27 #[.int .i64 a, .int .i64 b] w fun e w' => e = .returned (.int .i64 (addI a b)) ∧ w = w' := by
  go_enter Try.func27, Try.ntmps27
  go_wp2_with (go_at_call 10; refine (addRef_any _ _ _).mono ?_; rintro e w' ⟨rfl, rfl⟩)
  go_ret
  exact ⟨rfl, rfl⟩
theorem timesRef_any (a b : Int) (w : World) : Calls Try.prog 25 #[.int .i64 a, .int .i64 b] w fun e w' => e = .returned (.int .i64 (fixI a b)) ∧ w = w' := by
  have h1 := hold_lo a
  have h2 := hold_hi a
  have h3 := hold_lo b
  have h4 := hold_hi b
  go_enter Try.func25, Try.ntmps25
  go_wp2_with (first | (go_at_call 39; refine (hold_any _ _).mono ?_; rintro e w' ⟨rfl, rfl⟩) | (go_at_call 42; refine (over_any _ _ (by assumption) (by assumption) (by assumption) (by assumption) _).mono ?_; rintro e w' ⟨rfl, rfl⟩))
  go_ret
  exact ⟨rfl, rfl⟩
theorem byRef_any (a b : Int) (w : World) : Calls Try.prog 29 #[.int .i64 a, .int .i64 b] w fun e w' => e = .returned (.int .i64 (fixI a b)) ∧ w = w' := by
  have h1 := hold_lo a
  have h2 := hold_hi a
  have h3 := hold_lo b
  have h4 := hold_hi b
  go_enter Try.func29, Try.ntmps29
  go_wp2_with (first | (go_at_call 39; refine (hold_any _ _).mono ?_; rintro e w' ⟨rfl, rfl⟩) | (go_at_call 42; refine (over_any _ _ (by assumption) (by assumption) (by assumption) (by assumption) _).mono ?_; rintro e w' ⟨rfl, rfl⟩))
  go_ret
  exact ⟨rfl, rfl⟩
theorem int_any (a : Int) (w : World) : Calls Try.prog 30 #[.int .i64 a] w fun e w' => e = .returned (.int .i64 (hold a / 65536)) ∧ w = w' := by
  have h1 := hold_lo a
  have h2 := hold_hi a
  go_enter Try.func30, Try.ntmps30
  go_wp2_with (go_at_call 38; refine (held_any _ _).mono ?_; rintro e w' ⟨rfl, rfl⟩)
  go_ret
  exact ⟨rfl, rfl⟩
theorem intRef_any (a : Int) (w : World) : Calls Try.prog 31 #[.int .i64 a] w fun e w' => e = .returned (.int .i64 (hold a / 65536)) ∧ w = w' := by
  have h1 := hold_lo a
  have h2 := hold_hi a
  go_enter Try.func31, Try.ntmps31
  go_wp2_with (go_at_call 39; refine (hold_any _ _).mono ?_; rintro e w' ⟨rfl, rfl⟩)
  go_ret
  exact ⟨rfl, rfl⟩
theorem of_any (a : Int) (w : World) : Calls Try.prog 22 #[.int .i64 a] w fun e w' => e = .returned (.int .i64 (clampI a 0 17179869184 * 65536)) ∧ w = w' := by
  have ⟨h1, h2⟩ := clampI_bd a (low := 0) (high := 17179869184) (by decide)
  go_enter Try.func22, Try.ntmps22
  go_wp2_with (go_at_call 15; refine (clampInt_any _ _ _ _).mono ?_; rintro e w' ⟨rfl, rfl⟩)
  go_ret
  exact ⟨rfl, rfl⟩
theorem ofRef_any (a : Int) (w : World) : Calls Try.prog 23 #[.int .i64 a] w fun e w' => e = .returned (.int .i64 (clampI a 0 17179869184 * 65536)) ∧ w = w' := by
  have ⟨h1, h2⟩ := clampI_bd a (low := 0) (high := 17179869184) (by decide)
  go_enter Try.func23, Try.ntmps23
  go_wp2_with (go_at_call 16; refine (clampRef_any _ _ _ _).mono ?_; rintro e w' ⟨rfl, rfl⟩)
  go_ret
  exact ⟨rfl, rfl⟩
theorem divNum_no (a b : Int) (h : b < 1) (w : World) : Calls Try.prog 7 #[.int .i64 a, .int .i64 b] w fun e w' => e = .returned (.tuple #[.int .i64 0, .int .i64 1]) ∧ w = w' := by
  go_enter Try.func7, Try.ntmps7
  go_wp2
  go_ret2
  exact ⟨rfl, rfl⟩
theorem divNum_yes (a b : Int) (h : 1 ≤ b) (w : World) : Calls Try.prog 7 #[.int .i64 a, .int .i64 b] w fun e w' => e = .returned (.tuple #[.int .i64 (hold a / b), .int .i64 0]) ∧ w = w' := by
  have h1 := hold_lo a
  have h2 := hold_hi a
  go_enter Try.func7, Try.ntmps7
  go_wp2_with (go_at_call 38; refine (held_any _ _).mono ?_; rintro e w' ⟨rfl, rfl⟩)
  go_ret2
  exact ⟨rfl, rfl⟩
theorem divRef_no (a b : Int) (h : b < 1) (w : World) : Calls Try.prog 8 #[.int .i64 a, .int .i64 b] w fun e w' => e = .returned (.tuple #[.int .i64 0, .int .i64 1]) ∧ w = w' := by
  go_enter Try.func8, Try.ntmps8
  go_wp2
  go_ret2
  exact ⟨rfl, rfl⟩
theorem divRef_yes (a b : Int) (h : 1 ≤ b) (w : World) : Calls Try.prog 8 #[.int .i64 a, .int .i64 b] w fun e w' => e = .returned (.tuple #[.int .i64 (hold a / b), .int .i64 0]) ∧ w = w' := by
  have h1 := hold_lo a
  have h2 := hold_hi a
  go_enter Try.func8, Try.ntmps8
  go_wp2_with (go_at_call 39; refine (hold_any _ _).mono ?_; rintro e w' ⟨rfl, rfl⟩)
  go_ret2
  exact ⟨rfl, rfl⟩
theorem partNum_yes (a b : Int) (h1 : 0 ≤ a) (h2 : 0 < b) (h3 : a ≤ 17179869184) (w : World) : Calls Try.prog 20 #[.int .i64 a, .int .i64 b] w fun e w' => e = .returned (.tuple #[.int .i64 (a * 65536 / b), .int .i64 0]) ∧ w = w' := by
  go_enter Try.func20, Try.ntmps20
  go_wp2
  go_ret2
  exact ⟨rfl, rfl⟩
theorem partNum_no (a b : Int) (h : a < 0 ∨ b ≤ 0 ∨ 17179869184 < a) (w : World) : Calls Try.prog 20 #[.int .i64 a, .int .i64 b] w fun e w' => e = .returned (.tuple #[.int .i64 0, .int .i64 1]) ∧ w = w' := by
  have ht : (decide (a < 0) || decide (b ≤ 0) || decide (17179869184 < a)) = true := by simp; omega
  clear h
  go_enter Try.func20, Try.ntmps20
  go_wp2
  all_goals
    go_ret2
    exact ⟨rfl, rfl⟩
theorem partRef_yes (a b : Int) (h1 : 0 ≤ a) (h2 : 0 < b) (h3 : a ≤ 17179869184) (w : World) : Calls Try.prog 21 #[.int .i64 a, .int .i64 b] w fun e w' => e = .returned (.tuple #[.int .i64 (a * 65536 / b), .int .i64 0]) ∧ w = w' := by
  go_enter Try.func21, Try.ntmps21
  go_wp2
  go_ret2
  exact ⟨rfl, rfl⟩
theorem partRef_no (a b : Int) (h : a < 0 ∨ b ≤ 0 ∨ 17179869184 < a) (w : World) : Calls Try.prog 21 #[.int .i64 a, .int .i64 b] w fun e w' => e = .returned (.tuple #[.int .i64 0, .int .i64 1]) ∧ w = w' := by
  have ht : (decide (a < 0) || decide (b ≤ 0) || decide (17179869184 < a)) = true := by simp; omega
  clear h
  go_enter Try.func21, Try.ntmps21
  go_wp2
  all_goals
    go_ret2
    exact ⟨rfl, rfl⟩
def minL (a : Int) (zs : List Int) : Int := zs.foldl (fun m v => if v < m then v else m) a
theorem minL_snoc (a : Int) (zs : List Int) (k : Nat) (h : k < zs.length) : minL a (zs.take (k + 1)) = if zs[k] < minL a (zs.take k) then zs[k] else minL a (zs.take k) := by
  unfold minL
  rw [List.take_add_one, List.foldl_append]
  simp [List.getElem?_eq_getElem h]
def maxL (a : Int) (zs : List Int) : Int := zs.foldl (fun m v => if m < v then v else m) a
theorem maxL_snoc (a : Int) (zs : List Int) (k : Nat) (h : k < zs.length) : maxL a (zs.take (k + 1)) = if maxL a (zs.take k) < zs[k] then zs[k] else maxL a (zs.take k) := by
  unfold maxL
  rw [List.take_add_one, List.foldl_append]
  simp [List.getElem?_eq_getElem h]
theorem minInt_any (a : Int) (b n : Nat) (zs : List Int) (w : World) (hn : n = zs.length) (hbig : zs.length ≤ 1000000) (hc : ∀ j, j < zs.length → w.cell? ⟨b, j, none⟩ = some (.int .i64 (zs.getD j 0))) :
    Calls Try.prog 17 #[.int .i64 a, .slice (some ⟨b, 0, none⟩) n n] w fun e w' => e = .returned (.int .i64 (minL a zs)) ∧ w = w' := by
  subst hn
  go_enter Try.func17, Try.ntmps17
  go_wp2
  go_loop [5, 11] (fun m i => ∃ k : Nat, k ≤ zs.length ∧ i = .int .i64 k ∧ m = .int .i64 (minL a (zs.take k))) (fun _ i => zs.length - (intOf i).toNat)
  case atStart => exact ⟨0, Nat.zero_le _, rfl, rfl⟩
  case round =>
    obtain ⟨k, hk, rfl, rfl⟩ := hrel
    by_cases hlt : k < zs.length
    · have hs := Lib.hid (minL_snoc a zs k hlt)
      have hcell : w.cell? ⟨b, k, none⟩ = some (.int .i64 zs[k]) := by have := hc k hlt; simpa [List.getD, List.getElem?_eq_getElem hlt] using this
      clear hc
      go_wp2
      all_goals
        go_round
        case rel => exact ⟨k + 1, by omega, by go_num, by rw [hs.out]; first | rw [if_pos (by assumption)] | rw [if_neg (by omega)]⟩
        case measure => simp [intOf]; omega
    · have hk' : k = zs.length := by omega
      clear hc
      have ht : zs.take k = zs := by rw [hk', List.take_length]
      go_wp2
      go_ret
      exact ⟨by first | rfl | (rw [ht]; rfl), rfl⟩
theorem minU64_any (a : Int) (b n : Nat) (zs : List Int) (w : World) (hn : n = zs.length) (hbig : zs.length ≤ 1000000) (hc : ∀ j, j < zs.length → w.cell? ⟨b, j, none⟩ = some (.int .u64 (zs.getD j 0))) :
    Calls Try.prog 32 #[.int .u64 a, .slice (some ⟨b, 0, none⟩) n n] w fun e w' => e = .returned (.int .u64 (minL a zs)) ∧ w = w' := by
  subst hn
  go_enter Try.func32, Try.ntmps32
  go_wp2
  go_loop [5, 11] (fun m i => ∃ k : Nat, k ≤ zs.length ∧ i = .int .i64 k ∧ m = .int .u64 (minL a (zs.take k))) (fun _ i => zs.length - (intOf i).toNat)
  case atStart => exact ⟨0, Nat.zero_le _, rfl, rfl⟩
  case round =>
    obtain ⟨k, hk, rfl, rfl⟩ := hrel
    by_cases hlt : k < zs.length
    · have hs := Lib.hid (minL_snoc a zs k hlt)
      have hcell : w.cell? ⟨b, k, none⟩ = some (.int .u64 zs[k]) := by have := hc k hlt; simpa [List.getD, List.getElem?_eq_getElem hlt] using this
      clear hc
      go_wp2
      all_goals
        go_round
        case rel => exact ⟨k + 1, by omega, by go_num, by rw [hs.out]; first | rw [if_pos (by assumption)] | rw [if_neg (by omega)]⟩
        case measure => simp [intOf]; omega
    · have hk' : k = zs.length := by omega
      clear hc
      have ht : zs.take k = zs := by rw [hk', List.take_length]
      go_wp2
      go_ret
      exact ⟨by first | rfl | (rw [ht]; rfl), rfl⟩
theorem minI32_any (a : Int) (b n : Nat) (zs : List Int) (w : World) (hn : n = zs.length) (hbig : zs.length ≤ 1000000) (hc : ∀ j, j < zs.length → w.cell? ⟨b, j, none⟩ = some (.int .i32 (zs.getD j 0))) :
    Calls Try.prog 34 #[.int .i32 a, .slice (some ⟨b, 0, none⟩) n n] w fun e w' => e = .returned (.int .i32 (minL a zs)) ∧ w = w' := by
  subst hn
  go_enter Try.func34, Try.ntmps34
  go_wp2
  go_loop [5, 11] (fun m i => ∃ k : Nat, k ≤ zs.length ∧ i = .int .i64 k ∧ m = .int .i32 (minL a (zs.take k))) (fun _ i => zs.length - (intOf i).toNat)
  case atStart => exact ⟨0, Nat.zero_le _, rfl, rfl⟩
  case round =>
    obtain ⟨k, hk, rfl, rfl⟩ := hrel
    by_cases hlt : k < zs.length
    · have hs := Lib.hid (minL_snoc a zs k hlt)
      have hcell : w.cell? ⟨b, k, none⟩ = some (.int .i32 zs[k]) := by have := hc k hlt; simpa [List.getD, List.getElem?_eq_getElem hlt] using this
      clear hc
      go_wp2
      all_goals
        go_round
        case rel => exact ⟨k + 1, by omega, by go_num, by rw [hs.out]; first | rw [if_pos (by assumption)] | rw [if_neg (by omega)]⟩
        case measure => simp [intOf]; omega
    · have hk' : k = zs.length := by omega
      clear hc
      have ht : zs.take k = zs := by rw [hk', List.take_length]
      go_wp2
      go_ret
      exact ⟨by first | rfl | (rw [ht]; rfl), rfl⟩
theorem maxInt_any (a : Int) (b n : Nat) (zs : List Int) (w : World) (hn : n = zs.length) (hbig : zs.length ≤ 1000000) (hc : ∀ j, j < zs.length → w.cell? ⟨b, j, none⟩ = some (.int .i64 (zs.getD j 0))) :
    Calls Try.prog 18 #[.int .i64 a, .slice (some ⟨b, 0, none⟩) n n] w fun e w' => e = .returned (.int .i64 (maxL a zs)) ∧ w = w' := by
  subst hn
  go_enter Try.func18, Try.ntmps18
  go_wp2
  go_loop [5, 11] (fun m i => ∃ k : Nat, k ≤ zs.length ∧ i = .int .i64 k ∧ m = .int .i64 (maxL a (zs.take k))) (fun _ i => zs.length - (intOf i).toNat)
  case atStart => exact ⟨0, Nat.zero_le _, rfl, rfl⟩
  case round =>
    obtain ⟨k, hk, rfl, rfl⟩ := hrel
    by_cases hlt : k < zs.length
    · have hs := Lib.hid (maxL_snoc a zs k hlt)
      have hcell : w.cell? ⟨b, k, none⟩ = some (.int .i64 zs[k]) := by have := hc k hlt; simpa [List.getD, List.getElem?_eq_getElem hlt] using this
      clear hc
      go_wp2
      all_goals
        go_round
        case rel => exact ⟨k + 1, by omega, by go_num, by rw [hs.out]; first | rw [if_pos (by assumption)] | rw [if_neg (by omega)]⟩
        case measure => simp [intOf]; omega
    · have hk' : k = zs.length := by omega
      clear hc
      have ht : zs.take k = zs := by rw [hk', List.take_length]
      go_wp2
      go_ret
      exact ⟨by first | rfl | (rw [ht]; rfl), rfl⟩
theorem maxU64_any (a : Int) (b n : Nat) (zs : List Int) (w : World) (hn : n = zs.length) (hbig : zs.length ≤ 1000000) (hc : ∀ j, j < zs.length → w.cell? ⟨b, j, none⟩ = some (.int .u64 (zs.getD j 0))) :
    Calls Try.prog 33 #[.int .u64 a, .slice (some ⟨b, 0, none⟩) n n] w fun e w' => e = .returned (.int .u64 (maxL a zs)) ∧ w = w' := by
  subst hn
  go_enter Try.func33, Try.ntmps33
  go_wp2
  go_loop [5, 11] (fun m i => ∃ k : Nat, k ≤ zs.length ∧ i = .int .i64 k ∧ m = .int .u64 (maxL a (zs.take k))) (fun _ i => zs.length - (intOf i).toNat)
  case atStart => exact ⟨0, Nat.zero_le _, rfl, rfl⟩
  case round =>
    obtain ⟨k, hk, rfl, rfl⟩ := hrel
    by_cases hlt : k < zs.length
    · have hs := Lib.hid (maxL_snoc a zs k hlt)
      have hcell : w.cell? ⟨b, k, none⟩ = some (.int .u64 zs[k]) := by have := hc k hlt; simpa [List.getD, List.getElem?_eq_getElem hlt] using this
      clear hc
      go_wp2
      all_goals
        go_round
        case rel => exact ⟨k + 1, by omega, by go_num, by rw [hs.out]; first | rw [if_pos (by assumption)] | rw [if_neg (by omega)]⟩
        case measure => simp [intOf]; omega
    · have hk' : k = zs.length := by omega
      clear hc
      have ht : zs.take k = zs := by rw [hk', List.take_length]
      go_wp2
      go_ret
      exact ⟨by first | rfl | (rw [ht]; rfl), rfl⟩
theorem maxI32_any (a : Int) (b n : Nat) (zs : List Int) (w : World) (hn : n = zs.length) (hbig : zs.length ≤ 1000000) (hc : ∀ j, j < zs.length → w.cell? ⟨b, j, none⟩ = some (.int .i32 (zs.getD j 0))) :
    Calls Try.prog 35 #[.int .i32 a, .slice (some ⟨b, 0, none⟩) n n] w fun e w' => e = .returned (.int .i32 (maxL a zs)) ∧ w = w' := by
  subst hn
  go_enter Try.func35, Try.ntmps35
  go_wp2
  go_loop [5, 11] (fun m i => ∃ k : Nat, k ≤ zs.length ∧ i = .int .i64 k ∧ m = .int .i32 (maxL a (zs.take k))) (fun _ i => zs.length - (intOf i).toNat)
  case atStart => exact ⟨0, Nat.zero_le _, rfl, rfl⟩
  case round =>
    obtain ⟨k, hk, rfl, rfl⟩ := hrel
    by_cases hlt : k < zs.length
    · have hs := Lib.hid (maxL_snoc a zs k hlt)
      have hcell : w.cell? ⟨b, k, none⟩ = some (.int .i32 zs[k]) := by have := hc k hlt; simpa [List.getD, List.getElem?_eq_getElem hlt] using this
      clear hc
      go_wp2
      all_goals
        go_round
        case rel => exact ⟨k + 1, by omega, by go_num, by rw [hs.out]; first | rw [if_pos (by assumption)] | rw [if_neg (by omega)]⟩
        case measure => simp [intOf]; omega
    · have hk' : k = zs.length := by omega
      clear hc
      have ht : zs.take k = zs := by rw [hk', List.take_length]
      go_wp2
      go_ret
      exact ⟨by first | rfl | (rw [ht]; rfl), rfl⟩
theorem cells1 {w : World} {b : Nat} {k : IntKind} {x : Int} (h : w.cell? ⟨b, 0, none⟩ = some (.int k x)) : ∀ j, j < [x].length → w.cell? ⟨b, j, none⟩ = some (.int k ([x].getD j 0)) := by
  intro j hj
  match j, hj with
  | 0, _ => exact h
theorem cells2 {w : World} {b : Nat} {k : IntKind} {x y : Int} (h : w.cell? ⟨b, 0, none⟩ = some (.int k x)) (h' : w.cell? ⟨b, 1, none⟩ = some (.int k y)) : ∀ j, j < [x, y].length → w.cell? ⟨b, j, none⟩ = some (.int k ([x, y].getD j 0)) := by
  intro j hj
  match j, hj with
  | 0, _ => exact h
  | 1, _ => exact h'
theorem minInt1 (a x : Int) (b : Nat) (w : World) (h : w.cell? ⟨b, 0, none⟩ = some (.int .i64 x)) : Calls Try.prog 17 #[.int .i64 a, .slice (some ⟨b, 0, none⟩) 1 1] w fun e w' => e = .returned (.int .i64 (minL a [x])) ∧ w = w' :=
  minInt_any a b 1 [x] w rfl (by simp) (cells1 h)
theorem minInt2 (a x y : Int) (b : Nat) (w : World) (h : w.cell? ⟨b, 0, none⟩ = some (.int .i64 x)) (h' : w.cell? ⟨b, 1, none⟩ = some (.int .i64 y)) : Calls Try.prog 17 #[.int .i64 a, .slice (some ⟨b, 0, none⟩) 2 2] w fun e w' => e = .returned (.int .i64 (minL a [x, y])) ∧ w = w' :=
  minInt_any a b 2 [x, y] w rfl (by simp) (cells2 h h')
theorem minU641 (a x : Int) (b : Nat) (w : World) (h : w.cell? ⟨b, 0, none⟩ = some (.int .u64 x)) : Calls Try.prog 32 #[.int .u64 a, .slice (some ⟨b, 0, none⟩) 1 1] w fun e w' => e = .returned (.int .u64 (minL a [x])) ∧ w = w' :=
  minU64_any a b 1 [x] w rfl (by simp) (cells1 h)
theorem minU642 (a x y : Int) (b : Nat) (w : World) (h : w.cell? ⟨b, 0, none⟩ = some (.int .u64 x)) (h' : w.cell? ⟨b, 1, none⟩ = some (.int .u64 y)) : Calls Try.prog 32 #[.int .u64 a, .slice (some ⟨b, 0, none⟩) 2 2] w fun e w' => e = .returned (.int .u64 (minL a [x, y])) ∧ w = w' :=
  minU64_any a b 2 [x, y] w rfl (by simp) (cells2 h h')
theorem minI321 (a x : Int) (b : Nat) (w : World) (h : w.cell? ⟨b, 0, none⟩ = some (.int .i32 x)) : Calls Try.prog 34 #[.int .i32 a, .slice (some ⟨b, 0, none⟩) 1 1] w fun e w' => e = .returned (.int .i32 (minL a [x])) ∧ w = w' :=
  minI32_any a b 1 [x] w rfl (by simp) (cells1 h)
theorem minI322 (a x y : Int) (b : Nat) (w : World) (h : w.cell? ⟨b, 0, none⟩ = some (.int .i32 x)) (h' : w.cell? ⟨b, 1, none⟩ = some (.int .i32 y)) : Calls Try.prog 34 #[.int .i32 a, .slice (some ⟨b, 0, none⟩) 2 2] w fun e w' => e = .returned (.int .i32 (minL a [x, y])) ∧ w = w' :=
  minI32_any a b 2 [x, y] w rfl (by simp) (cells2 h h')
theorem maxInt1 (a x : Int) (b : Nat) (w : World) (h : w.cell? ⟨b, 0, none⟩ = some (.int .i64 x)) : Calls Try.prog 18 #[.int .i64 a, .slice (some ⟨b, 0, none⟩) 1 1] w fun e w' => e = .returned (.int .i64 (maxL a [x])) ∧ w = w' :=
  maxInt_any a b 1 [x] w rfl (by simp) (cells1 h)
theorem maxInt2 (a x y : Int) (b : Nat) (w : World) (h : w.cell? ⟨b, 0, none⟩ = some (.int .i64 x)) (h' : w.cell? ⟨b, 1, none⟩ = some (.int .i64 y)) : Calls Try.prog 18 #[.int .i64 a, .slice (some ⟨b, 0, none⟩) 2 2] w fun e w' => e = .returned (.int .i64 (maxL a [x, y])) ∧ w = w' :=
  maxInt_any a b 2 [x, y] w rfl (by simp) (cells2 h h')
theorem maxU641 (a x : Int) (b : Nat) (w : World) (h : w.cell? ⟨b, 0, none⟩ = some (.int .u64 x)) : Calls Try.prog 33 #[.int .u64 a, .slice (some ⟨b, 0, none⟩) 1 1] w fun e w' => e = .returned (.int .u64 (maxL a [x])) ∧ w = w' :=
  maxU64_any a b 1 [x] w rfl (by simp) (cells1 h)
theorem maxU642 (a x y : Int) (b : Nat) (w : World) (h : w.cell? ⟨b, 0, none⟩ = some (.int .u64 x)) (h' : w.cell? ⟨b, 1, none⟩ = some (.int .u64 y)) : Calls Try.prog 33 #[.int .u64 a, .slice (some ⟨b, 0, none⟩) 2 2] w fun e w' => e = .returned (.int .u64 (maxL a [x, y])) ∧ w = w' :=
  maxU64_any a b 2 [x, y] w rfl (by simp) (cells2 h h')
theorem maxI321 (a x : Int) (b : Nat) (w : World) (h : w.cell? ⟨b, 0, none⟩ = some (.int .i32 x)) : Calls Try.prog 35 #[.int .i32 a, .slice (some ⟨b, 0, none⟩) 1 1] w fun e w' => e = .returned (.int .i32 (maxL a [x])) ∧ w = w' :=
  maxI32_any a b 1 [x] w rfl (by simp) (cells1 h)
theorem maxI322 (a x y : Int) (b : Nat) (w : World) (h : w.cell? ⟨b, 0, none⟩ = some (.int .i32 x)) (h' : w.cell? ⟨b, 1, none⟩ = some (.int .i32 y)) : Calls Try.prog 35 #[.int .i32 a, .slice (some ⟨b, 0, none⟩) 2 2] w fun e w' => e = .returned (.int .i32 (maxL a [x, y])) ∧ w = w' :=
  maxI32_any a b 2 [x, y] w rfl (by simp) (cells2 h h')
theorem minInt1n (a x : Int) (n : Nat) (w : World) (hn : n = w.heap.size) : Calls Try.prog 17 #[.int .i64 a, .slice (some ⟨n, 0, none⟩) 1 1] (w.alloc (.cells #[.int .i64 x] 3)) fun e w' => e = .returned (.int .i64 (minL a [x])) ∧ (w.alloc (.cells #[.int .i64 x] 3)) = w' :=
  minInt1 a x n (w.alloc (.cells #[.int .i64 x] 3)) (by rw [World.cell?_alloc_at _ _ _ _ hn]; rfl)
theorem minInt2n (a x y : Int) (n : Nat) (w : World) (hn : n = w.heap.size) : Calls Try.prog 17 #[.int .i64 a, .slice (some ⟨n, 0, none⟩) 2 2] (w.alloc (.cells #[.int .i64 x, .int .i64 y] 3)) fun e w' => e = .returned (.int .i64 (minL a [x, y])) ∧ (w.alloc (.cells #[.int .i64 x, .int .i64 y] 3)) = w' :=
  minInt2 a x y n (w.alloc (.cells #[.int .i64 x, .int .i64 y] 3)) (by rw [World.cell?_alloc_at _ _ _ _ hn]; rfl) (by rw [World.cell?_alloc_at _ _ _ _ hn]; rfl)
theorem minU641n (a x : Int) (n : Nat) (w : World) (hn : n = w.heap.size) : Calls Try.prog 32 #[.int .u64 a, .slice (some ⟨n, 0, none⟩) 1 1] (w.alloc (.cells #[.int .u64 x] 39)) fun e w' => e = .returned (.int .u64 (minL a [x])) ∧ (w.alloc (.cells #[.int .u64 x] 39)) = w' :=
  minU641 a x n (w.alloc (.cells #[.int .u64 x] 39)) (by rw [World.cell?_alloc_at _ _ _ _ hn]; rfl)
theorem minU642n (a x y : Int) (n : Nat) (w : World) (hn : n = w.heap.size) : Calls Try.prog 32 #[.int .u64 a, .slice (some ⟨n, 0, none⟩) 2 2] (w.alloc (.cells #[.int .u64 x, .int .u64 y] 39)) fun e w' => e = .returned (.int .u64 (minL a [x, y])) ∧ (w.alloc (.cells #[.int .u64 x, .int .u64 y] 39)) = w' :=
  minU642 a x y n (w.alloc (.cells #[.int .u64 x, .int .u64 y] 39)) (by rw [World.cell?_alloc_at _ _ _ _ hn]; rfl) (by rw [World.cell?_alloc_at _ _ _ _ hn]; rfl)
theorem minI321n (a x : Int) (n : Nat) (w : World) (hn : n = w.heap.size) : Calls Try.prog 34 #[.int .i32 a, .slice (some ⟨n, 0, none⟩) 1 1] (w.alloc (.cells #[.int .i32 x] 21)) fun e w' => e = .returned (.int .i32 (minL a [x])) ∧ (w.alloc (.cells #[.int .i32 x] 21)) = w' :=
  minI321 a x n (w.alloc (.cells #[.int .i32 x] 21)) (by rw [World.cell?_alloc_at _ _ _ _ hn]; rfl)
theorem minI322n (a x y : Int) (n : Nat) (w : World) (hn : n = w.heap.size) : Calls Try.prog 34 #[.int .i32 a, .slice (some ⟨n, 0, none⟩) 2 2] (w.alloc (.cells #[.int .i32 x, .int .i32 y] 21)) fun e w' => e = .returned (.int .i32 (minL a [x, y])) ∧ (w.alloc (.cells #[.int .i32 x, .int .i32 y] 21)) = w' :=
  minI322 a x y n (w.alloc (.cells #[.int .i32 x, .int .i32 y] 21)) (by rw [World.cell?_alloc_at _ _ _ _ hn]; rfl) (by rw [World.cell?_alloc_at _ _ _ _ hn]; rfl)
theorem maxInt1n (a x : Int) (n : Nat) (w : World) (hn : n = w.heap.size) : Calls Try.prog 18 #[.int .i64 a, .slice (some ⟨n, 0, none⟩) 1 1] (w.alloc (.cells #[.int .i64 x] 3)) fun e w' => e = .returned (.int .i64 (maxL a [x])) ∧ (w.alloc (.cells #[.int .i64 x] 3)) = w' :=
  maxInt1 a x n (w.alloc (.cells #[.int .i64 x] 3)) (by rw [World.cell?_alloc_at _ _ _ _ hn]; rfl)
theorem maxInt2n (a x y : Int) (n : Nat) (w : World) (hn : n = w.heap.size) : Calls Try.prog 18 #[.int .i64 a, .slice (some ⟨n, 0, none⟩) 2 2] (w.alloc (.cells #[.int .i64 x, .int .i64 y] 3)) fun e w' => e = .returned (.int .i64 (maxL a [x, y])) ∧ (w.alloc (.cells #[.int .i64 x, .int .i64 y] 3)) = w' :=
  maxInt2 a x y n (w.alloc (.cells #[.int .i64 x, .int .i64 y] 3)) (by rw [World.cell?_alloc_at _ _ _ _ hn]; rfl) (by rw [World.cell?_alloc_at _ _ _ _ hn]; rfl)
theorem maxU641n (a x : Int) (n : Nat) (w : World) (hn : n = w.heap.size) : Calls Try.prog 33 #[.int .u64 a, .slice (some ⟨n, 0, none⟩) 1 1] (w.alloc (.cells #[.int .u64 x] 39)) fun e w' => e = .returned (.int .u64 (maxL a [x])) ∧ (w.alloc (.cells #[.int .u64 x] 39)) = w' :=
  maxU641 a x n (w.alloc (.cells #[.int .u64 x] 39)) (by rw [World.cell?_alloc_at _ _ _ _ hn]; rfl)
theorem maxU642n (a x y : Int) (n : Nat) (w : World) (hn : n = w.heap.size) : Calls Try.prog 33 #[.int .u64 a, .slice (some ⟨n, 0, none⟩) 2 2] (w.alloc (.cells #[.int .u64 x, .int .u64 y] 39)) fun e w' => e = .returned (.int .u64 (maxL a [x, y])) ∧ (w.alloc (.cells #[.int .u64 x, .int .u64 y] 39)) = w' :=
  maxU642 a x y n (w.alloc (.cells #[.int .u64 x, .int .u64 y] 39)) (by rw [World.cell?_alloc_at _ _ _ _ hn]; rfl) (by rw [World.cell?_alloc_at _ _ _ _ hn]; rfl)
theorem maxI321n (a x : Int) (n : Nat) (w : World) (hn : n = w.heap.size) : Calls Try.prog 35 #[.int .i32 a, .slice (some ⟨n, 0, none⟩) 1 1] (w.alloc (.cells #[.int .i32 x] 21)) fun e w' => e = .returned (.int .i32 (maxL a [x])) ∧ (w.alloc (.cells #[.int .i32 x] 21)) = w' :=
  maxI321 a x n (w.alloc (.cells #[.int .i32 x] 21)) (by rw [World.cell?_alloc_at _ _ _ _ hn]; rfl)
theorem maxI322n (a x y : Int) (n : Nat) (w : World) (hn : n = w.heap.size) : Calls Try.prog 35 #[.int .i32 a, .slice (some ⟨n, 0, none⟩) 2 2] (w.alloc (.cells #[.int .i32 x, .int .i32 y] 21)) fun e w' => e = .returned (.int .i32 (maxL a [x, y])) ∧ (w.alloc (.cells #[.int .i32 x, .int .i32 y] 21)) = w' :=
  maxI322 a x y n (w.alloc (.cells #[.int .i32 x, .int .i32 y] 21)) (by rw [World.cell?_alloc_at _ _ _ _ hn]; rfl) (by rw [World.cell?_alloc_at _ _ _ _ hn]; rfl)
theorem grown_trans {a b c : World} (h : Grown a b) (h' : Grown b c) : Grown a c := ⟨World.keptBut_trans h.1 h'.1, fun x => (h'.2.1 x).trans (h.2.1 x), Nat.le_trans h.2.2 h'.2.2⟩
theorem aw1 (w : World) : Calls Try.prog 20 #[.int .i64 1, .int .i64 2] w fun e w' => e = .returned (.tuple #[.int .i64 32768, .int .i64 0]) ∧ w = w' := partNum_yes 1 2 (by decide) (by decide) (by decide) w
theorem aw2 (w : World) : Calls Try.prog 20 #[.int .i64 1, .int .i64 0] w fun e w' => e = .returned (.tuple #[.int .i64 0, .int .i64 1]) ∧ w = w' := partNum_no 1 0 (by decide) w
theorem aw3 (w : World) : Calls Try.prog 24 #[.int .i64 32768, .int .i64 7] w fun e w' => e = .returned (.int .i64 3) ∧ w = w' := times_any 32768 7 w
theorem awake_any (w : World) : Calls Try.prog 19 #[] w fun e w' => e = .returned (.bool true) ∧ Grown w w' := by
  go_enter Try.func19, Try.ntmps19
  go_wp2_with (first | (go_at_call 20; ((with_reducible refine (aw1 _).mono ?_); rintro e w1 ⟨rfl, rfl⟩)) | (go_at_call 20; ((with_reducible refine (aw2 _).mono ?_); rintro e w1 ⟨rfl, rfl⟩)) | (go_at_call 24; ((with_reducible refine (aw3 _).mono ?_); rintro e w1 ⟨rfl, rfl⟩)) | (go_at_call 17; ((with_reducible refine Calls.mono (minInt2 3 1 2 _ _ (by simp) (by simp)) ?_); rintro e w1 ⟨rfl, rfl⟩)) | (go_at_call 33; ((with_reducible refine Calls.mono (maxU641 3 9 _ _ (by simp)) ?_); rintro e w1 ⟨rfl, rfl⟩)))
  go_ret
  exact ⟨rfl, ((Grown.refl _).alloc _ _).alloc _ _⟩
theorem minInt1g (a x : Int) (b w : World) (h : Grown b w) : Calls Try.prog 17 #[.int .i64 a, .slice (some ⟨w.heap.size, 0, none⟩) 1 1] (w.alloc (.cells #[.int .i64 x] 3)) fun e w' => e = .returned (.int .i64 (minL a [x])) ∧ Grown b w' :=
  (minInt1n a x w.heap.size w rfl).mono fun _ _ ⟨he, hw⟩ => ⟨he, hw ▸ h.alloc _ _⟩
theorem minInt2g (a x y : Int) (b w : World) (h : Grown b w) : Calls Try.prog 17 #[.int .i64 a, .slice (some ⟨w.heap.size, 0, none⟩) 2 2] (w.alloc (.cells #[.int .i64 x, .int .i64 y] 3)) fun e w' => e = .returned (.int .i64 (minL a [x, y])) ∧ Grown b w' :=
  (minInt2n a x y w.heap.size w rfl).mono fun _ _ ⟨he, hw⟩ => ⟨he, hw ▸ h.alloc _ _⟩
theorem minU641g (a x : Int) (b w : World) (h : Grown b w) : Calls Try.prog 32 #[.int .u64 a, .slice (some ⟨w.heap.size, 0, none⟩) 1 1] (w.alloc (.cells #[.int .u64 x] 39)) fun e w' => e = .returned (.int .u64 (minL a [x])) ∧ Grown b w' :=
  (minU641n a x w.heap.size w rfl).mono fun _ _ ⟨he, hw⟩ => ⟨he, hw ▸ h.alloc _ _⟩
theorem minU642g (a x y : Int) (b w : World) (h : Grown b w) : Calls Try.prog 32 #[.int .u64 a, .slice (some ⟨w.heap.size, 0, none⟩) 2 2] (w.alloc (.cells #[.int .u64 x, .int .u64 y] 39)) fun e w' => e = .returned (.int .u64 (minL a [x, y])) ∧ Grown b w' :=
  (minU642n a x y w.heap.size w rfl).mono fun _ _ ⟨he, hw⟩ => ⟨he, hw ▸ h.alloc _ _⟩
theorem minI321g (a x : Int) (b w : World) (h : Grown b w) : Calls Try.prog 34 #[.int .i32 a, .slice (some ⟨w.heap.size, 0, none⟩) 1 1] (w.alloc (.cells #[.int .i32 x] 21)) fun e w' => e = .returned (.int .i32 (minL a [x])) ∧ Grown b w' :=
  (minI321n a x w.heap.size w rfl).mono fun _ _ ⟨he, hw⟩ => ⟨he, hw ▸ h.alloc _ _⟩
theorem minI322g (a x y : Int) (b w : World) (h : Grown b w) : Calls Try.prog 34 #[.int .i32 a, .slice (some ⟨w.heap.size, 0, none⟩) 2 2] (w.alloc (.cells #[.int .i32 x, .int .i32 y] 21)) fun e w' => e = .returned (.int .i32 (minL a [x, y])) ∧ Grown b w' :=
  (minI322n a x y w.heap.size w rfl).mono fun _ _ ⟨he, hw⟩ => ⟨he, hw ▸ h.alloc _ _⟩
theorem maxInt1g (a x : Int) (b w : World) (h : Grown b w) : Calls Try.prog 18 #[.int .i64 a, .slice (some ⟨w.heap.size, 0, none⟩) 1 1] (w.alloc (.cells #[.int .i64 x] 3)) fun e w' => e = .returned (.int .i64 (maxL a [x])) ∧ Grown b w' :=
  (maxInt1n a x w.heap.size w rfl).mono fun _ _ ⟨he, hw⟩ => ⟨he, hw ▸ h.alloc _ _⟩
theorem maxInt2g (a x y : Int) (b w : World) (h : Grown b w) : Calls Try.prog 18 #[.int .i64 a, .slice (some ⟨w.heap.size, 0, none⟩) 2 2] (w.alloc (.cells #[.int .i64 x, .int .i64 y] 3)) fun e w' => e = .returned (.int .i64 (maxL a [x, y])) ∧ Grown b w' :=
  (maxInt2n a x y w.heap.size w rfl).mono fun _ _ ⟨he, hw⟩ => ⟨he, hw ▸ h.alloc _ _⟩
theorem maxU641g (a x : Int) (b w : World) (h : Grown b w) : Calls Try.prog 33 #[.int .u64 a, .slice (some ⟨w.heap.size, 0, none⟩) 1 1] (w.alloc (.cells #[.int .u64 x] 39)) fun e w' => e = .returned (.int .u64 (maxL a [x])) ∧ Grown b w' :=
  (maxU641n a x w.heap.size w rfl).mono fun _ _ ⟨he, hw⟩ => ⟨he, hw ▸ h.alloc _ _⟩
theorem maxU642g (a x y : Int) (b w : World) (h : Grown b w) : Calls Try.prog 33 #[.int .u64 a, .slice (some ⟨w.heap.size, 0, none⟩) 2 2] (w.alloc (.cells #[.int .u64 x, .int .u64 y] 39)) fun e w' => e = .returned (.int .u64 (maxL a [x, y])) ∧ Grown b w' :=
  (maxU642n a x y w.heap.size w rfl).mono fun _ _ ⟨he, hw⟩ => ⟨he, hw ▸ h.alloc _ _⟩
theorem maxI321g (a x : Int) (b w : World) (h : Grown b w) : Calls Try.prog 35 #[.int .i32 a, .slice (some ⟨w.heap.size, 0, none⟩) 1 1] (w.alloc (.cells #[.int .i32 x] 21)) fun e w' => e = .returned (.int .i32 (maxL a [x])) ∧ Grown b w' :=
  (maxI321n a x w.heap.size w rfl).mono fun _ _ ⟨he, hw⟩ => ⟨he, hw ▸ h.alloc _ _⟩
theorem maxI322g (a x y : Int) (b w : World) (h : Grown b w) : Calls Try.prog 35 #[.int .i32 a, .slice (some ⟨w.heap.size, 0, none⟩) 2 2] (w.alloc (.cells #[.int .i32 x, .int .i32 y] 21)) fun e w' => e = .returned (.int .i32 (maxL a [x, y])) ∧ Grown b w' :=
  (maxI322n a x y w.heap.size w rfl).mono fun _ _ ⟨he, hw⟩ => ⟨he, hw ▸ h.alloc _ _⟩
theorem awake_g (b w : World) (h : Grown b w) : Calls Try.prog 19 #[] w fun e w' => e = .returned (.bool true) ∧ Grown b w' :=
  (awake_any w).mono fun _ _ ⟨he, hg⟩ => ⟨he, grown_trans h hg⟩
end Go.Proofs.Ytpfnhbpbblddkaa.NumC
