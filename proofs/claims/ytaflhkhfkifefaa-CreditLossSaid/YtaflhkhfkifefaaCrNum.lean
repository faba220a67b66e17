/- What the functions of package num, and the reference ones, answer that package credit leans on. Conditions: each theorem's own. -/
import Derived.Test.YtaflhkhfkifefaaRows
import Derived.Test.YtaflhkhfkifefaaNumMath
import Derived.WalkKit
import Derived.Outline
import Derived.ProofKit
import Derived.Lib.Hide
import Derived.LoopTactic
import Derived.Laws.NewBlocks
import Derived.BigQuiet
import Derived.Deep.QuietTactic
namespace Go.Proofs.Ytaflhkhfkifefaa.NumC
open Go.RowKit NumM
theorem ret1 {k : IntKind} {a b : Int} (h : a = b) : Ending.returned (.int k a) = .returned (.int k b) := by rw [h]
theorem ret2 {k k' : IntKind} {a b c d : Int} (h : a = b) (h' : c = d) : Ending.returned (.tuple #[.int k a, .int k' c]) = .returned (.tuple #[.int k b, .int k' d]) := by rw [h, h']
theorem two63 : (2 : Int) ^ 63 = 9223372036854775808 := by decide
theorem mask25 (a : Int) (h0 : 0 ≤ a) (h1 : a ≤ 1125899906842624) : bits BinOp.and IntKind.i64 a 33554431 = a % 33554432 := by
  have h := bits_mask .i64 63 (by decide) (fun n h0 h1 => by rw [two63] at h1; rw [IntKind.wrap_i64]; omega) 25 (by decide) a h0 (by rw [two63]; omega)
  have e : ((2 : Int) ^ 25 - 1) = 33554431 := by decide
  have e2 : ((2 : Int) ^ 25) = 33554432 := by decide
  rw [e, e2] at h
  exact h
theorem clampInt_any (v low high : Int) (w : World) : Calls Try.prog 21 #[.int .i64 v, .int .i64 low, .int .i64 high] w fun e w' => e = .returned (.int .i64 (clampI v low high)) ∧ w = w' := by
  by_cases h1 : v < low
  · have hr := clampI_lo (high := high) h1
    go_enter Try.func21, Try.ntmps21
    go_wp2
    go_ret
    exact ⟨by rw [hr]; rfl, rfl⟩
  · have h1' : low ≤ v := by omega
    clear h1
    by_cases h2 : high < v
    · have hr := clampI_hi h1' h2
      go_enter Try.func21, Try.ntmps21
      go_wp2
      go_ret
      exact ⟨by rw [hr]; rfl, rfl⟩
    · have h2' : v ≤ high := by omega
      clear h2
      have hr := clampI_in h1' h2'
      go_enter Try.func21, Try.ntmps21
      go_wp2
      go_ret
      exact ⟨by rw [hr]; rfl, rfl⟩
theorem clampFix_any (v low high : Int) (w : World) : Calls Try.prog 25 #[.int .i64 v, .int .i64 low, .int .i64 high] w fun e w' => e = .returned (.int .i64 (clampI v low high)) ∧ w = w' := by
  by_cases h1 : v < low
  · have hr := clampI_lo (high := high) h1
    go_enter Try.func25, Try.ntmps25
    go_wp2
    go_ret
    exact ⟨by rw [hr]; rfl, rfl⟩
  · have h1' : low ≤ v := by omega
    clear h1
    by_cases h2 : high < v
    · have hr := clampI_hi h1' h2
      go_enter Try.func25, Try.ntmps25
      go_wp2
      go_ret
      exact ⟨by rw [hr]; rfl, rfl⟩
    · have h2' : v ≤ high := by omega
      clear h2
      have hr := clampI_in h1' h2'
      go_enter Try.func25, Try.ntmps25
      go_wp2
      go_ret
      exact ⟨by rw [hr]; rfl, rfl⟩
theorem clampRef_any (v low high : Int) (w : World) : Calls Try.prog 26 #[.int .i64 v, .int .i64 low, .int .i64 high] w fun e w' => e = .returned (.int .i64 (clampI v low high)) ∧ w = w' := by
  by_cases h1 : v < low
  · have hr := clampI_lo (high := high) h1
    go_enter Try.func26, Try.ntmps26
    go_wp2
    go_ret
    exact ⟨by rw [hr]; rfl, rfl⟩
  · have h1' : low ≤ v := by omega
    clear h1
    by_cases h2 : high < v
    · have hr := clampI_hi h1' h2
      go_enter Try.func26, Try.ntmps26
      go_wp2
      go_ret
      exact ⟨by rw [hr]; rfl, rfl⟩
    · have h2' : v ≤ high := by omega
      clear h2
      have hr := clampI_in h1' h2'
      go_enter Try.func26, Try.ntmps26
      go_wp2
      go_ret
      exact ⟨by rw [hr]; rfl, rfl⟩
theorem held_any (v : Int) (w : World) : Calls Try.prog 30 #[.int .i64 v] w fun e w' => e = .returned (.int .i64 (hold v)) ∧ w = w' := by
  go_enter Try.func30, Try.ntmps30
  go_wp2_with (go_at_call 21; refine (clampInt_any _ _ _ _).mono ?_; rintro e w' ⟨rfl, rfl⟩)
  go_ret
  exact ⟨rfl, rfl⟩
theorem hold_any (v : Int) (w : World) : Calls Try.prog 35 #[.int .i64 v] w fun e w' => e = .returned (.int .i64 (hold v)) ∧ w = w' := by
  go_enter Try.func35, Try.ntmps35
  go_wp2_with (go_at_call 26; refine (clampRef_any _ _ _ _).mono ?_; rintro e w' ⟨rfl, rfl⟩)
  go_ret
  exact ⟨rfl, rfl⟩
theorem addNum_any (a b : Int) (w : World) : Calls Try.prog 36 #[.int .i64 a, .int .i64 b] w fun e w' => e = .returned (.int .i64 (addI a b)) ∧ w = w' := by
  have h1 := hold_lo a
  have h2 := hold_hi a
  have h3 := hold_lo b
  have h4 := hold_hi b
  go_enter Try.func36, Try.ntmps36
  go_wp2_with (go_at_call 30; refine (held_any _ _).mono ?_; rintro e w' ⟨rfl, rfl⟩)
  go_ret
  exact ⟨rfl, rfl⟩
theorem addRef_any (a b : Int) (w : World) : Calls Try.prog 33 #[.int .i64 a, .int .i64 b] w fun e w' => e = .returned (.int .i64 (addI a b)) ∧ w = w' := by
  have h1 := hold_lo a
  have h2 := hold_hi a
  have h3 := hold_lo b
  have h4 := hold_hi b
  go_enter Try.func33, Try.ntmps33
  go_wp2_with (go_at_call 35; refine (hold_any _ _).mono ?_; rintro e w' ⟨rfl, rfl⟩)
  go_ret
  exact ⟨rfl, rfl⟩
theorem product_any (a b : Int) (a0 : 0 ≤ a) (a1 : a ≤ 1125899906842624) (b0 : 0 ≤ b) (b1 : b ≤ 1125899906842624) (w : World) : Calls Try.prog 38 #[.int .i64 a, .int .i64 b] w fun e w' => e = .returned (.tuple #[.int .i64 (prodU a b), .int .i64 (prodL a b)]) ∧ w = w' := by
  have hs := prod_split a b
  have ⟨c1, d1⟩ := mul_bd (p := a / 33554432) (q := b % 33554432) (P := 33554432) (Q := 33554431) (by omega) (by omega) (by omega) (by omega)
  have ⟨c2, d2⟩ := mul_bd (p := a % 33554432) (q := b / 33554432) (P := 33554431) (Q := 33554432) (by omega) (by omega) (by omega) (by omega)
  have ⟨c3, d3⟩ := mul_bd (p := a % 33554432) (q := b % 33554432) (P := 33554431) (Q := 33554431) (by omega) (by omega) (by omega) (by omega)
  have ⟨c4, d4⟩ := mul_bd (p := a / 33554432) (q := b / 33554432) (P := 33554432) (Q := 33554432) (by omega) (by omega) (by omega) (by omega)
  have HS := Lib.hid hs
  clear hs
  go_enter Try.func38, Try.ntmps38
  go_wp2
  go_ret2
  have hs := HS.out
  exact ⟨ret2 (by unfold prodU; omega) (by unfold prodL; omega), rfl⟩
theorem fixed_any (a b : Int) (w : World) : Calls Try.prog 37 #[.int .i64 a, .int .i64 b] w fun e w' => e = .returned (.int .i64 (fixI a b)) ∧ w = w' := by
  have h1 := hold_lo a
  have h2 := hold_hi a
  have h3 := hold_lo b
  have h4 := hold_hi b
  have hn := Int.mul_nonneg h1 h3
  have hu0 : 0 ≤ prodU (hold a) (hold b) := by unfold prodU; omega
  have hl0 : 0 ≤ prodL (hold a) (hold b) := by unfold prodL; omega
  have hl1 : prodL (hold a) (hold b) < 1125899906842624 := by unfold prodL; omega
  by_cases hc : 65536 ≤ prodU (hold a) (hold b)
  all_goals
    go_enter Try.func37, Try.ntmps37
    go_wp2_with (first | (go_at_call 30; refine (held_any _ _).mono ?_; rintro e w' ⟨rfl, rfl⟩) | (go_at_call 38; refine (product_any _ _ (by assumption) (by assumption) (by assumption) (by assumption) _).mono ?_; rintro e w' ⟨rfl, rfl⟩))
    go_ret
    refine ⟨ret1 ?_, rfl⟩
    unfold prodU prodL at *
    unfold fixI
  · rw [hold_top (v := hold a * hold b / 65536) (by omega)]
  · rw [hold_in (v := hold a * hold b / 65536) (by omega) (by omega)]
    omega
theorem over_any (a b : Int) (a0 : 0 ≤ a) (a1 : a ≤ 1125899906842624) (b0 : 0 ≤ b) (b1 : b ≤ 1125899906842624) (w : World) : Calls Try.prog 34 #[.int .i64 a, .int .i64 b] w fun e w' => e = .returned (.int .i64 (hold (a * b / 65536))) ∧ w = w' := by
  have hs := prod_split a b
  have ⟨c1, d1⟩ := mul_bd (p := a / 33554432) (q := b % 33554432) (P := 33554432) (Q := 33554431) (by omega) (by omega) (by omega) (by omega)
  have ⟨c2, d2⟩ := mul_bd (p := a % 33554432) (q := b / 33554432) (P := 33554431) (Q := 33554432) (by omega) (by omega) (by omega) (by omega)
  have ⟨c3, d3⟩ := mul_bd (p := a % 33554432) (q := b % 33554432) (P := 33554431) (Q := 33554431) (by omega) (by omega) (by omega) (by omega)
  have ⟨c4, d4⟩ := mul_bd (p := a / 33554432) (q := b / 33554432) (P := 33554432) (Q := 33554432) (by omega) (by omega) (by omega) (by omega)
  have HS := Lib.hid hs
  clear hs
  have ma := mask25 a a0 a1
  have mb := mask25 b b0 b1
  by_cases hc : 65536 ≤ a / 33554432 * (b / 33554432)
  · have hs := HS.out
    have ht := hold_top (v := a * b / 65536) (by omega)
    clear hs
    go_enter Try.func34, Try.ntmps34
    go_wp2_with (fail)
    go_ret
    exact ⟨ret1 ht.symm, rfl⟩
  · by_cases hm : a / 33554432 * (b % 33554432) + a % 33554432 * (b / 33554432) ≤ 35184372088832
    all_goals
      go_enter Try.func34, Try.ntmps34
      go_wp2_with (go_at_call 35; refine (hold_any _ _).mono ?_; rintro e w' ⟨rfl, rfl⟩)
      go_ret
      refine ⟨ret1 ?_, rfl⟩
      have hs := HS.out
    · congr 1
      omega
    · rw [hold_top (by omega), hold_top (by omega)]
theorem by_any (a b : Int) (w : World) : Calls Try.prog 32 #[.int .i64 a, .int .i64 b] w fun e w' => e = .returned (.int .i64 (fixI a b)) ∧ w = w' := by
  go_enter Try.func32, Try.ntmps32
  go_wp2_with (go_at_call 37; refine (fixed_any _ _ _).mono ?_; rintro e w' ⟨rfl, rfl⟩)
  go_ret
  exact ⟨rfl, rfl⟩
theorem byRef_any (a b : Int) (w : World) : Calls Try.prog 29 #[.int .i64 a, .int .i64 b] w fun e w' => e = .returned (.int .i64 (fixI a b)) ∧ w = w' := by
  have h1 := hold_lo a
  have h2 := hold_hi a
  have h3 := hold_lo b
  have h4 := hold_hi b
  go_enter Try.func29, Try.ntmps29
  go_wp2_with (first | (go_at_call 35; refine (hold_any _ _).mono ?_; rintro e w' ⟨rfl, rfl⟩) | (go_at_call 34; refine (over_any _ _ (by assumption) (by assumption) (by assumption) (by assumption) _).mono ?_; rintro e w' ⟨rfl, rfl⟩))
  go_ret
  exact ⟨rfl, rfl⟩
theorem plus_any (a b : Int) (w : World) : Calls Try.prog 31 #[.int .i64 a, .int .i64 b] w fun e w' => e = .returned (.int .i64 (addI a b)) ∧ w = w' := by
  go_enter Try.func31, Try.ntmps31
  go_wp2_with (go_at_call 36; refine (addNum_any _ _ _).mono ?_; rintro e w' ⟨rfl, rfl⟩)
  go_ret
  exact ⟨rfl, rfl⟩
theorem plusRef_any (a b : Int) (w : World) : Calls Try.prog 28 #[.int .i64 a, .int .i64 b] w fun e w' => e = .returned (.int .i64 (addI a b)) ∧ w = w' := by
  go_enter Try.func28, Try.ntmps28
  go_wp2_with (go_at_call 33; refine (addRef_any _ _ _).mono ?_; rintro e w' ⟨rfl, rfl⟩)
  go_ret
  exact ⟨rfl, rfl⟩
theorem int_any (a : Int) (w : World) : Calls Try.prog 19 #[.int .i64 a] w fun e w' => e = .returned (.int .i64 (hold a / 65536)) ∧ w = w' := by
  have h1 := hold_lo a
  have h2 := hold_hi a
  go_enter Try.func19, Try.ntmps19
  go_wp2_with (go_at_call 30; refine (held_any _ _).mono ?_; rintro e w' ⟨rfl, rfl⟩)
  go_ret
  exact ⟨rfl, rfl⟩
theorem of_any (a : Int) (w : World) : Calls Try.prog 18 #[.int .i64 a] w fun e w' => e = .returned (.int .i64 (clampI a 0 17179869184 * 65536)) ∧ w = w' := by
  have ⟨h1, h2⟩ := clampI_bd a (low := 0) (high := 17179869184) (by decide)
  go_enter Try.func18, Try.ntmps18
  go_wp2_with (go_at_call 21; refine (clampInt_any _ _ _ _).mono ?_; rintro e w' ⟨rfl, rfl⟩)
  go_ret
  exact ⟨rfl, rfl⟩
theorem ofRef_any (a : Int) (w : World) : Calls Try.prog 17 #[.int .i64 a] w fun e w' => e = .returned (.int .i64 (clampI a 0 17179869184 * 65536)) ∧ w = w' := by
  have ⟨h1, h2⟩ := clampI_bd a (low := 0) (high := 17179869184) (by decide)
  go_enter Try.func17, Try.ntmps17
  go_wp2_with (go_at_call 26; refine (clampRef_any _ _ _ _).mono ?_; rintro e w' ⟨rfl, rfl⟩)
  go_ret
  exact ⟨rfl, rfl⟩
theorem partNum_yes (a b : Int) (h1 : 0 ≤ a) (h2 : 0 < b) (h3 : a ≤ 17179869184) (w : World) : Calls Try.prog 22 #[.int .i64 a, .int .i64 b] w fun e w' => e = .returned (.tuple #[.int .i64 (a * 65536 / b), .int .i64 0]) ∧ w = w' := by
  go_enter Try.func22, Try.ntmps22
  go_wp2
  go_ret2
  exact ⟨rfl, rfl⟩
theorem partNum_no (a b : Int) (h : a < 0 ∨ b ≤ 0 ∨ 17179869184 < a) (w : World) : Calls Try.prog 22 #[.int .i64 a, .int .i64 b] w fun e w' => e = .returned (.tuple #[.int .i64 0, .int .i64 1]) ∧ w = w' := by
  have ht : (decide (a < 0) || decide (b ≤ 0) || decide (17179869184 < a)) = true := by simp; omega
  clear h
  go_enter Try.func22, Try.ntmps22
  go_wp2
  all_goals
    go_ret2
    exact ⟨rfl, rfl⟩
theorem partRef_yes (a b : Int) (h1 : 0 ≤ a) (h2 : 0 < b) (h3 : a ≤ 17179869184) (w : World) : Calls Try.prog 27 #[.int .i64 a, .int .i64 b] w fun e w' => e = .returned (.tuple #[.int .i64 (a * 65536 / b), .int .i64 0]) ∧ w = w' := by
  go_enter Try.func27, Try.ntmps27
  go_wp2
  go_ret2
  exact ⟨rfl, rfl⟩
theorem partRef_no (a b : Int) (h : a < 0 ∨ b ≤ 0 ∨ 17179869184 < a) (w : World) : Calls Try.prog 27 #[.int .i64 a, .int .i64 b] w fun e w' => e = .returned (.tuple #[.int .i64 0, .int .i64 1]) ∧ w = w' := by
  have ht : (decide (a < 0) || decide (b ≤ 0) || decide (17179869184 < a)) = true := by simp; omega
  clear h
  go_enter Try.func27, Try.ntmps27
  go_wp2
  all_goals
    go_ret2
    exact ⟨rfl, rfl⟩
end Go.Proofs.Ytaflhkhfkifefaa.NumC
