/- num.Min and num.Max of two (what XIvNum holds without sort.Search). Conditions: each theorem's own. -/
import Derived.Test.YtbohigfhbjconaaHeap
import Derived.LoopTactic
import Derived.Outline
import Derived.WalkKit
import Derived.Deep.LoopGhost
import Derived.Deep.Draws
import Derived.Deep.QuietTactic
set_option linter.unusedVariables false
namespace Go.Proofs.Ytbohigfhbjconaa.IvN
open Go.RowKit Hp
theorem min1 (a x m : Int) (b : Nat) (w : World) (hm : m = if x < a then x else a) (hc : w.cell? ⟨b, 0, none⟩ = some (.int .i64 x)) :
    Calls Try.prog 20 #[.int .i64 a, .slice (some ⟨b, 0, none⟩) 1 1] w fun e w' => e = .returned (.int .i64 m) ∧ w = w' := by
  have HM := Lib.hid hm
  clear hm
  go_enter Try.func20, Try.ntmps20
  go_wp2
  go_loop [5, 11] (fun v i => ∃ k : Nat, k ≤ 1 ∧ i = .int .i64 k ∧ v = .int .i64 (if k = 0 then a else m)) (fun _ i => 1 - (intOf i).toNat)
  case atStart => exact ⟨0, by omega, rfl, by simp⟩
  case round =>
    obtain ⟨k, hk, rfl, rfl⟩ := hrel
    rcases Nat.lt_or_ge k 1 with h | h
    · obtain rfl : k = 0 := by omega
      go_wp2
      all_goals
        go_round
        case rel => exact ⟨1, by omega, by go_num, by show _ = Value.int .i64 m; rw [HM.out]; first | rw [if_pos (by assumption)] | rw [if_neg (by omega)]⟩
        case measure => simp [intOf]
    · obtain rfl : k = 1 := by omega
      go_wp2
      go_ret
      exact ⟨rfl, rfl⟩
theorem max1 (a x m : Int) (b : Nat) (w : World) (hm : m = if a < x then x else a) (hc : w.cell? ⟨b, 0, none⟩ = some (.int .i64 x)) :
    Calls Try.prog 45 #[.int .i64 a, .slice (some ⟨b, 0, none⟩) 1 1] w fun e w' => e = .returned (.int .i64 m) ∧ w = w' := by
  have HM := Lib.hid hm
  clear hm
  go_enter Try.func45, Try.ntmps45
  go_wp2
  go_loop [5, 11] (fun v i => ∃ k : Nat, k ≤ 1 ∧ i = .int .i64 k ∧ v = .int .i64 (if k = 0 then a else m)) (fun _ i => 1 - (intOf i).toNat)
  case atStart => exact ⟨0, by omega, rfl, by simp⟩
  case round =>
    obtain ⟨k, hk, rfl, rfl⟩ := hrel
    rcases Nat.lt_or_ge k 1 with h | h
    · obtain rfl : k = 0 := by omega
      go_wp2
      all_goals
        go_round
        case rel => exact ⟨1, by omega, by go_num, by show _ = Value.int .i64 m; rw [HM.out]; first | rw [if_pos (by assumption)] | rw [if_neg (by omega)]⟩
        case measure => simp [intOf]
    · obtain rfl : k = 1 := by omega
      go_wp2
      go_ret
      exact ⟨rfl, rfl⟩
theorem min_if (a x : Int) : min a x = if x < a then x else a := by rw [Int.min_def]; split <;> split <;> omega
theorem max_if (a x : Int) : max a x = if a < x then x else a := by rw [Int.max_def]; split <;> split <;> omega
end Go.Proofs.Ytbohigfhbjconaa.IvN
