/- What the functions of package num, and the reference ones, answer that package backoff leans on. Conditions: each theorem's own. -/
import Derived.Test.YtacfpjnddakehaaRows
import Derived.Test.YtacfpjnddakehaaNumMath
import Derived.WalkKit
import Derived.Outline
import Derived.ProofKit
import Derived.Lib.Hide
import Derived.LoopTactic
import Derived.Laws.NewBlocks
import Derived.BigQuiet
import Derived.Deep.QuietTactic
namespace Go.Proofs.Ytacfpjnddakehaa.NumC
open Go.RowKit NumM
theorem ret1 {k : IntKind} {a b : Int} (h : a = b) : Ending.returned (.int k a) = .returned (.int k b) := by rw [h]
theorem ret2 {k k' : IntKind} {a b c d : Int} (h : a = b) (h' : c = d) : Ending.returned (.tuple #[.int k a, .int k' c]) = .returned (.tuple #[.int k b, .int k' d]) := by rw [h, h']
theorem clampInt_any (v low high : Int) (w : World) : Calls Try.prog 22 #[.int .i64 v, .int .i64 low, .int .i64 high] w fun e w' => e = .returned (.int .i64 (clampI v low high)) ∧ w = w' := by
  by_cases h1 : v < low
  · have hr := clampI_lo (high := high) h1
    go_enter Try.func22, Try.ntmps22
    go_wp2
    go_ret
    exact ⟨by rw [hr]; rfl, rfl⟩
  · have h1' : low ≤ v := by omega
    clear h1
    by_cases h2 : high < v
    · have hr := clampI_hi h1' h2
      go_enter Try.func22, Try.ntmps22
      go_wp2
      go_ret
      exact ⟨by rw [hr]; rfl, rfl⟩
    · have h2' : v ≤ high := by omega
      clear h2
      have hr := clampI_in h1' h2'
      go_enter Try.func22, Try.ntmps22
      go_wp2
      go_ret
      exact ⟨by rw [hr]; rfl, rfl⟩
theorem clampRef_any (v low high : Int) (w : World) : Calls Try.prog 19 #[.int .i64 v, .int .i64 low, .int .i64 high] w fun e w' => e = .returned (.int .i64 (clampI v low high)) ∧ w = w' := by
  by_cases h1 : v < low
  · have hr := clampI_lo (high := high) h1
    go_enter Try.func19, Try.ntmps19
    go_wp2
    go_ret
    exact ⟨by rw [hr]; rfl, rfl⟩
  · have h1' : low ≤ v := by omega
    clear h1
    by_cases h2 : high < v
    · have hr := clampI_hi h1' h2
      go_enter Try.func19, Try.ntmps19
      go_wp2
      go_ret
      exact ⟨by rw [hr]; rfl, rfl⟩
    · have h2' : v ≤ high := by omega
      clear h2
      have hr := clampI_in h1' h2'
      go_enter Try.func19, Try.ntmps19
      go_wp2
      go_ret
      exact ⟨by rw [hr]; rfl, rfl⟩
theorem held_any (v : Int) (w : World) : Calls Try.prog 25 #[.int .i64 v] w fun e w' => e = .returned (.int .i64 (hold v)) ∧ w = w' := by
  go_enter Try.func25, Try.ntmps25
  go_wp2_with (go_at_call 22; refine (clampInt_any _ _ _ _).mono ?_; rintro e w' ⟨rfl, rfl⟩)
  go_ret
  exact ⟨rfl, rfl⟩
theorem hold_any (v : Int) (w : World) : Calls Try.prog 24 #[.int .i64 v] w fun e w' => e = .returned (.int .i64 (hold v)) ∧ w = w' := by
  go_enter Try.func24, Try.ntmps24
  go_wp2_with (go_at_call 19; refine (clampRef_any _ _ _ _).mono ?_; rintro e w' ⟨rfl, rfl⟩)
  go_ret
  exact ⟨rfl, rfl⟩
theorem addNum_any (a b : Int) (w : World) : Calls Try.prog 23 #[.int .i64 a, .int .i64 b] w fun e w' => e = .returned (.int .i64 (addI a b)) ∧ w = w' := by
  have h1 := hold_lo a
  have h2 := hold_hi a
  have h3 := hold_lo b
  have h4 := hold_hi b
  go_enter Try.func23, Try.ntmps23
  go_wp2_with (go_at_call 25; refine (held_any _ _).mono ?_; rintro e w' ⟨rfl, rfl⟩)
  go_ret
  exact ⟨rfl, rfl⟩
theorem addRef_any (a b : Int) (w : World) : Calls Try.prog 21 #[.int .i64 a, .int .i64 b] w fun e w' => e = .returned (.int .i64 (addI a b)) ∧ w = w' := by
  have h1 := hold_lo a
  have h2 := hold_hi a
  have h3 := hold_lo b
  have h4 := hold_hi b
  go_enter Try.func21, Try.ntmps21
  go_wp2_with (go_at_call 24; refine (hold_any _ _).mono ?_; rintro e w' ⟨rfl, rfl⟩)
  go_ret
  exact ⟨rfl, rfl⟩
end Go.Proofs.Ytacfpjnddakehaa.NumC
