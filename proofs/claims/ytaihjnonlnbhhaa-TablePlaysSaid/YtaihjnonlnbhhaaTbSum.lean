/- mizzenalike.Sum of a small number and two more. Conditions: the theorem's own. -/
import Derived.Test.YtaihjnonlnbhhaaTbRow
import Derived.ProofKit
import Derived.Deep.RegionLaw
import Derived.Deep.CutBlock
import Derived.Deep.RegionWith
import Derived.Deep.RegionHeld3
import Derived.Deep.DeepCutAuto
import Derived.WalkLawsBesides
import Derived.StillTailTactics
import Derived.Deep.DrawnRows
import Derived.Deep.LoopGhost
import Derived.Laws.StructEq
set_option linter.unusedVariables false
namespace Go.Proofs.Ytaihjnonlnbhhaa.TbL
open Go.RowKit Hp
attribute [local go_sem ↓] Go.wp_at_zero Go.wp_at_succ
set_option maxHeartbeats 4000000 in
theorem sum_two (n x : Int) (g : Nat) (w : World) (hB : Blk w g [.int .i64 x, .int .i64 1] 3) (h0 : 0 ≤ n) (hn : n ≤ 1000) (hx : 0 ≤ x) (hx2 : x ≤ 9223372036854775807) :
    Calls Try.prog 25 #[.int .i64 n, .slice (some ⟨g, 0, none⟩) 2 2] w fun e w' => (∃ r : Int, e = .returned (.int .i64 r) ∧ 0 ≤ r ∧ (n + x + 1 ≤ 1000 → r = n + x + 1) ∧ (1000 < n + x + 1 → 1000 < r)) ∧ w = w' := by
  have c0 := hB.cell (o := 0) rfl
  have c1 := hB.cell (o := 1) rfl
  clear hB
  go_enter Try.func25, Try.ntmps25
  go_wp2_with fail
  go_loopg [0, 5] 2 (fun mm s0 s5 wr => w = wr ∧ ((Hid (mm = 2) ∧ s0 = .int .i64 n ∧ s5 = .int .i64 0) ∨ (Hid (mm = 1) ∧ s0 = .int .i64 (n + x) ∧ s5 = .int .i64 1 ∧ n + x ≤ 1099511627776) ∨ (Hid (mm = 0) ∧ s0 = .int .i64 (n + x + 1) ∧ s5 = .int .i64 2 ∧ n + x + 1 ≤ 1099511627776)))
  case atStart => exact ⟨rfl, Or.inl ⟨Lib.hid rfl, rfl, rfl⟩⟩
  case round =>
    obtain ⟨rfl, ⟨hm, rfl, rfl⟩ | ⟨hm, rfl, rfl, hs⟩ | ⟨hm, rfl, rfl, hs⟩⟩ := hrel
    · have k1 : decide ((1099511627776 : Int) < n) = false := by rw [decide_eq_false_iff_not]; omega
      have k2 : IntKind.i64.wrap (1099511627776 - n) = 1099511627776 - n := by rw [IntKind.wrap_i64]; omega
      by_cases hb : 1099511627776 - n < x
      · go_wp2_with fail
        go_ret
        exact ⟨⟨_, rfl, by omega, fun h => by omega, fun h => by omega⟩, rfl⟩
      · have hb2 : decide (1099511627776 - n < x) = false := by rw [decide_eq_false_iff_not]; omega
        have k3 : IntKind.i64.wrap (n + x) = n + x := by rw [IntKind.wrap_i64]; omega
        go_wp2_with fail
        go_roundg 1
        case measure => have := hm.out; omega
        case rel => exact ⟨rfl, Or.inr (Or.inl ⟨Lib.hid rfl, by first | rfl | trivial, rfl, by omega⟩)⟩
    · have k1 : decide ((1099511627776 : Int) < n + x) = false := by rw [decide_eq_false_iff_not]; omega
      have k2 : IntKind.i64.wrap (1099511627776 - (n + x)) = 1099511627776 - (n + x) := by rw [IntKind.wrap_i64]; omega
      by_cases hb : 1099511627776 - (n + x) < 1
      · go_wp2_with fail
        go_ret
        exact ⟨⟨_, rfl, by omega, fun h => by omega, fun h => by omega⟩, rfl⟩
      · have hb2 : decide (1099511627776 - (n + x) < 1) = false := by rw [decide_eq_false_iff_not]; omega
        have k3 : IntKind.i64.wrap (n + x + 1) = n + x + 1 := by rw [IntKind.wrap_i64]; omega
        go_wp2_with fail
        go_roundg 0
        case measure => have := hm.out; omega
        case rel => exact ⟨rfl, Or.inr (Or.inr ⟨Lib.hid rfl, by first | rfl | trivial, rfl, by omega⟩)⟩
    · go_wp2_with fail
      go_ret
      exact ⟨⟨_, rfl, by omega, fun h => rfl, fun h => by omega⟩, rfl⟩
end Go.Proofs.Ytaihjnonlnbhhaa.TbL
