/- What the functions of package num, and the reference ones, answer that package srpt leans on. Conditions: each theorem's own. -/
import Derived.Test.YtbohigfhbjconaaRows
import Derived.Test.YtbohigfhbjconaaNumMath
import Derived.WalkKit
import Derived.Outline
import Derived.ProofKit
import Derived.Lib.Hide
import Derived.LoopTactic
import Derived.Laws.NewBlocks
import Derived.BigQuiet
import Derived.Deep.QuietTactic
namespace Go.Proofs.Ytbohigfhbjconaa.NumC
open Go.RowKit NumM
theorem ret1 {k : IntKind} {a b : Int} (h : a = b) : Ending.returned (.int k a) = .returned (.int k b) := by rw [h]
theorem ret2 {k k' : IntKind} {a b c d : Int} (h : a = b) (h' : c = d) : Ending.returned (.tuple #[.int k a, .int k' c]) = .returned (.tuple #[.int k b, .int k' d]) := by rw [h, h']
theorem clampInt_any (v low high : Int) (w : World) : Calls Try.prog 44 #[.int .i64 v, .int .i64 low, .int .i64 high] w fun e w' => e = .returned (.int .i64 (clampI v low high)) ∧ w = w' := by
  by_cases h1 : v < low
  · have hr := clampI_lo (high := high) h1
    go_enter Try.func44, Try.ntmps44
    go_wp2
    go_ret
    exact ⟨by rw [hr]; rfl, rfl⟩
  · have h1' : low ≤ v := by omega
    clear h1
    by_cases h2 : high < v
    · have hr := clampI_hi h1' h2
      go_enter Try.func44, Try.ntmps44
      go_wp2
      go_ret
      exact ⟨by rw [hr]; rfl, rfl⟩
    · have h2' : v ≤ high := by omega
      clear h2
      have hr := clampI_in h1' h2'
      go_enter Try.func44, Try.ntmps44
      go_wp2
      go_ret
      exact ⟨by rw [hr]; rfl, rfl⟩
theorem clampRef_any (v low high : Int) (w : World) : Calls Try.prog 50 #[.int .i64 v, .int .i64 low, .int .i64 high] w fun e w' => e = .returned (.int .i64 (clampI v low high)) ∧ w = w' := by
  by_cases h1 : v < low
  · have hr := clampI_lo (high := high) h1
    go_enter Try.func50, Try.ntmps50
    go_wp2
    go_ret
    exact ⟨by rw [hr]; rfl, rfl⟩
  · have h1' : low ≤ v := by omega
    clear h1
    by_cases h2 : high < v
    · have hr := clampI_hi h1' h2
      go_enter Try.func50, Try.ntmps50
      go_wp2
      go_ret
      exact ⟨by rw [hr]; rfl, rfl⟩
    · have h2' : v ≤ high := by omega
      clear h2
      have hr := clampI_in h1' h2'
      go_enter Try.func50, Try.ntmps50
      go_wp2
      go_ret
      exact ⟨by rw [hr]; rfl, rfl⟩
theorem held_any (v : Int) (w : World) : Calls Try.prog 34 #[.int .i64 v] w fun e w' => e = .returned (.int .i64 (hold v)) ∧ w = w' := by
  go_enter Try.func34, Try.ntmps34
  go_wp2_with (go_at_call 44; refine (clampInt_any _ _ _ _).mono ?_; rintro e w' ⟨rfl, rfl⟩)
  go_ret
  exact ⟨rfl, rfl⟩
theorem hold_any (v : Int) (w : World) : Calls Try.prog 43 #[.int .i64 v] w fun e w' => e = .returned (.int .i64 (hold v)) ∧ w = w' := by
  go_enter Try.func43, Try.ntmps43
  go_wp2_with (go_at_call 50; refine (clampRef_any _ _ _ _).mono ?_; rintro e w' ⟨rfl, rfl⟩)
  go_ret
  exact ⟨rfl, rfl⟩
theorem addNum_any (a b : Int) (w : World) : Calls Try.prog 31 #[.int .i64 a, .int .i64 b] w fun e w' => e = .returned (.int .i64 (addI a b)) ∧ w = w' := by
  have h1 := hold_lo a
  have h2 := hold_hi a
  have h3 := hold_lo b
  have h4 := hold_hi b
  go_enter Try.func31, Try.ntmps31
  go_wp2_with (go_at_call 34; refine (held_any _ _).mono ?_; rintro e w' ⟨rfl, rfl⟩)
  go_ret
  exact ⟨rfl, rfl⟩
theorem addRef_any (a b : Int) (w : World) : Calls Try.prog 33 #[.int .i64 a, .int .i64 b] w fun e w' => e = .returned (.int .i64 (addI a b)) ∧ w = w' := by
  have h1 := hold_lo a
  have h2 := hold_hi a
  have h3 := hold_lo b
  have h4 := hold_hi b
  go_enter Try.func33, Try.ntmps33
  go_wp2_with (go_at_call 43; refine (hold_any _ _).mono ?_; rintro e w' ⟨rfl, rfl⟩)
  go_ret
  exact ⟨rfl, rfl⟩
theorem subNum_any (a b : Int) (w : World) : Calls Try.prog 21 #[.int .i64 a, .int .i64 b] w fun e w' => e = .returned (.int .i64 (subI a b)) ∧ w = w' := by
  have h1 := hold_lo a
  have h2 := hold_hi a
  have h3 := hold_lo b
  have h4 := hold_hi b
  go_enter Try.func21, Try.ntmps21
  go_wp2_with (go_at_call 34; refine (held_any _ _).mono ?_; rintro e w' ⟨rfl, rfl⟩)
  go_ret
  exact ⟨rfl, rfl⟩
end Go.Proofs.Ytbohigfhbjconaa.NumC
