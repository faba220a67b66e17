/- What the functions of package num, and the reference ones, answer that package port leans on. Conditions: each theorem's own. -/
import Derived.Test.YtiffnlcpemfmoaaRows
import Derived.Test.YtiffnlcpemfmoaaNumMath
import Derived.WalkKit
import Derived.Outline
import Derived.ProofKit
import Derived.Lib.Hide
import Derived.LoopTactic
import Derived.Laws.NewBlocks
import Derived.BigQuiet
import Derived.Deep.QuietTactic
namespace Go.Proofs.Ytiffnlcpemfmoaa.NumC
open Go.RowKit NumM
theorem ret1 {k : IntKind} {a b : Int} (h : a = b) : Ending.returned (.int k a) = .returned (.int k b) := by rw [h]
theorem ret2 {k k' : IntKind} {a b c d : Int} (h : a = b) (h' : c = d) : Ending.returned (.tuple #[.int k a, .int k' c]) = .returned (.tuple #[.int k b, .int k' d]) := by rw [h, h']
theorem clampInt_any (v low high : Int) (w : World) : Calls Try.prog 12 #[.int .i64 v, .int .i64 low, .int .i64 high] w fun e w' => e = .returned (.int .i64 (clampI v low high)) ∧ w = w' := by
  by_cases h1 : v < low
  · have hr := clampI_lo (high := high) h1
    go_enter Try.func12, Try.ntmps12
    go_wp2
    go_ret
    exact ⟨by rw [hr]; rfl, rfl⟩
  · have h1' : low ≤ v := by omega
    clear h1
    by_cases h2 : high < v
    · have hr := clampI_hi h1' h2
      go_enter Try.func12, Try.ntmps12
      go_wp2
      go_ret
      exact ⟨by rw [hr]; rfl, rfl⟩
    · have h2' : v ≤ high := by omega
      clear h2
      have hr := clampI_in h1' h2'
      go_enter Try.func12, Try.ntmps12
      go_wp2
      go_ret
      exact ⟨by rw [hr]; rfl, rfl⟩
end Go.Proofs.Ytiffnlcpemfmoaa.NumC
