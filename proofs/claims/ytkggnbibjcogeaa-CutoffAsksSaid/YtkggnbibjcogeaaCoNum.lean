/- What the functions of package num, and the reference ones, answer that package cutoff leans on. Conditions: each theorem's own. -/
import Derived.Test.YtkggnbibjcogeaaRows
import Derived.Test.YtkggnbibjcogeaaNumMath
import Derived.WalkKit
import Derived.Outline
import Derived.ProofKit
import Derived.Lib.Hide
import Derived.LoopTactic
import Derived.Laws.NewBlocks
import Derived.BigQuiet
import Derived.Deep.QuietTactic
namespace Go.Proofs.Ytkggnbibjcogeaa.NumC
open Go.RowKit NumM
theorem ret1 {k : IntKind} {a b : Int} (h : a = b) : Ending.returned (.int k a) = .returned (.int k b) := by rw [h]
theorem ret2 {k k' : IntKind} {a b c d : Int} (h : a = b) (h' : c = d) : Ending.returned (.tuple #[.int k a, .int k' c]) = .returned (.tuple #[.int k b, .int k' d]) := by rw [h, h']
theorem clampInt_any (v low high : Int) (w : World) : Calls Try.prog 33 #[.int .i64 v, .int .i64 low, .int .i64 high] w fun e w' => e = .returned (.int .i64 (clampI v low high)) ∧ w = w' := by
  by_cases h1 : v < low
  · have hr := clampI_lo (high := high) h1
    go_enter Try.func33, Try.ntmps33
    go_wp2
    go_ret
    exact ⟨by rw [hr]; rfl, rfl⟩
  · have h1' : low ≤ v := by omega
    clear h1
    by_cases h2 : high < v
    · have hr := clampI_hi h1' h2
      go_enter Try.func33, Try.ntmps33
      go_wp2
      go_ret
      exact ⟨by rw [hr]; rfl, rfl⟩
    · have h2' : v ≤ high := by omega
      clear h2
      have hr := clampI_in h1' h2'
      go_enter Try.func33, Try.ntmps33
      go_wp2
      go_ret
      exact ⟨by rw [hr]; rfl, rfl⟩
theorem clampRef_any (v low high : Int) (w : World) : Calls Try.prog 17 #[.int .i64 v, .int .i64 low, .int .i64 high] w fun e w' => e = .returned (.int .i64 (clampI v low high)) ∧ w = w' := by
  by_cases h1 : v < low
  · have hr := clampI_lo (high := high) h1
    go_enter Try.func17, Try.ntmps17
    go_wp2
    go_ret
    exact ⟨by rw [hr]; rfl, rfl⟩
  · have h1' : low ≤ v := by omega
    clear h1
    by_cases h2 : high < v
    · have hr := clampI_hi h1' h2
      go_enter Try.func17, Try.ntmps17
      go_wp2
      go_ret
      exact ⟨by rw [hr]; rfl, rfl⟩
    · have h2' : v ≤ high := by omega
      clear h2
      have hr := clampI_in h1' h2'
      go_enter Try.func17, Try.ntmps17
      go_wp2
      go_ret
      exact ⟨by rw [hr]; rfl, rfl⟩
theorem held_any (v : Int) (w : World) : Calls Try.prog 61 #[.int .i64 v] w fun e w' => e = .returned (.int .i64 (hold v)) ∧ w = w' := by
  go_enter Try.func61, Try.ntmps61
  go_wp2_with (go_at_call 33; refine (clampInt_any _ _ _ _).mono ?_; rintro e w' ⟨rfl, rfl⟩)
  go_ret
  exact ⟨rfl, rfl⟩
theorem addNum_any (a b : Int) (w : World) : Calls Try.prog 34 #[.int .i64 a, .int .i64 b] w fun e w' => e = .returned (.int .i64 (addI a b)) ∧ w = w' := by
  have h1 := hold_lo a
  have h2 := hold_hi a
  have h3 := hold_lo b
  have h4 := hold_hi b
  go_enter Try.func34, Try.ntmps34
  go_wp2_with (go_at_call 61; refine (held_any _ _).mono ?_; rintro e w' ⟨rfl, rfl⟩)
  go_ret
  exact ⟨rfl, rfl⟩
theorem product_any (a b : Int) (a0 : 0 ≤ a) (a1 : a ≤ 1125899906842624) (b0 : 0 ≤ b) (b1 : b ≤ 1125899906842624) (w : World) : Calls Try.prog 65 #[.int .i64 a, .int .i64 b] w fun e w' => e = .returned (.tuple #[.int .i64 (prodU a b), .int .i64 (prodL a b)]) ∧ w = w' := by
  have hs := prod_split a b
  have ⟨c1, d1⟩ := mul_bd (p := a / 33554432) (q := b % 33554432) (P := 33554432) (Q := 33554431) (by omega) (by omega) (by omega) (by omega)
  have ⟨c2, d2⟩ := mul_bd (p := a % 33554432) (q := b / 33554432) (P := 33554431) (Q := 33554432) (by omega) (by omega) (by omega) (by omega)
  have ⟨c3, d3⟩ := mul_bd (p := a % 33554432) (q := b % 33554432) (P := 33554431) (Q := 33554431) (by omega) (by omega) (by omega) (by omega)
  have ⟨c4, d4⟩ := mul_bd (p := a / 33554432) (q := b / 33554432) (P := 33554432) (Q := 33554432) (by omega) (by omega) (by omega) (by omega)
  have HS := Lib.hid hs
  clear hs
  go_enter Try.func65, Try.ntmps65
  go_wp2
  go_ret2
  have hs := HS.out
  exact ⟨ret2 (by unfold prodU; omega) (by unfold prodL; omega), rfl⟩
theorem mulNum_any (a b : Int) (w : World) : Calls Try.prog 38 #[.int .i64 a, .int .i64 b] w fun e w' => e = .returned (.int .i64 (mulI a b)) ∧ w = w' := by
  have h1 := hold_lo a
  have h2 := hold_hi a
  have h3 := hold_lo b
  have h4 := hold_hi b
  go_enter Try.func38, Try.ntmps38
  go_wp2_with (first | (go_at_call 61; refine (held_any _ _).mono ?_; rintro e w' ⟨rfl, rfl⟩) | (go_at_call 65; refine (product_any _ _ (by assumption) (by assumption) (by assumption) (by assumption) _).mono ?_; rintro e w' ⟨rfl, rfl⟩))
  all_goals
    go_ret
    refine ⟨ret1 ?_, rfl⟩
  · have hu : 0 < prodU (hold a) (hold b) := by assumption
    unfold prodU at hu
    unfold mulI
    rw [hold_top (by omega)]
  · have hu : prodU (hold a) (hold b) ≤ 0 := by assumption
    have hn := Int.mul_nonneg h1 h3
    unfold prodU at hu
    unfold mulI prodL
    rw [hold_in hn (by omega)]
    omega
end Go.Proofs.Ytkggnbibjcogeaa.NumC
