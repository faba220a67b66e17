/- What the document fixes of queues. Conditions: each theorem's own. -/
import Derived.Test.YtlgcbggffhlhmaaQuRem
import Derived.Test.YtlgcbggffhlhmaaEnd
set_option linter.unusedVariables false
namespace Go.Proofs.Ytlgcbggffhlhmaa.Qu
open Go.RowKit Hp QuM QuN Rw Go.Proofs.Ytlgcbggffhlhmaa.End
attribute [local go_sem ↓] Go.wp_at_zero Go.wp_at_succ
set_option maxRecDepth 100000 in
set_option maxHeartbeats 4000000 in
theorem awake_any (w : World) : Calls Try.prog 29 #[] w fun e w' => e = .returned (.bool true) ∧ Old w w' := by
  have N := Lib.hid fun w => new_yes (room := 100) (by decide) (by decide) w
  have N2 := Lib.hid fun w => new_no (room := -1) (Or.inl (by decide)) w
  go_enter Try.func29, Try.ntmps29
  go_wp2_with fail
  with_reducible refine Calls.mono (N.out _) ?_
  rintro e w1 ⟨b, F, rfl, hS, _⟩
  have HS := Lib.hid hS
  clear hS N
  go_wp2_with fail
  with_reducible refine Calls.mono (N2.out _) ?_
  rintro e w2 ⟨rfl, rfl⟩
  go_wp2_with fail
  have P1 := Lib.hid (push_ok HS.out (p := 0) (K := 0) rfl (by decide) (x := (1, 1)) (by decide) (by decide))
  with_reducible refine Calls.mono P1.out ?_
  rintro e w2 ⟨rfl, F2, hS2, _⟩
  have HS2 := Lib.hid hS2
  clear hS2 P1 HS N2
  go_wp2_with fail
  have P2 := Lib.hid (push_ok HS2.out (p := 7) (K := 7) rfl (by decide) (x := (99, 2)) (by decide) (by decide))
  with_reducible refine Calls.mono P2.out ?_
  rintro e w3 ⟨rfl, F3, hS3, _⟩
  have HS3 := Lib.hid hS3
  clear hS3 P2 HS2
  go_wp2_with fail
  have P3 := Lib.hid (push_full HS3.out (p := 3) (by decide) (x := (1, 3)) (by decide))
  with_reducible refine Calls.mono P3.out ?_
  rintro e w4 ⟨rfl, hk4⟩
  have HS4 := Lib.hid (HS3.out.old hk4)
  clear hk4 P3 HS3
  go_wp2_with fail
  have P4 := Lib.hid (pop_some HS4.out (p := 7) (x := (99, 2)) (L' := []) rfl rfl (by decide))
  with_reducible refine Calls.mono P4.out ?_
  rintro e w5 ⟨rfl, F5, hS5, _⟩
  have HO : Hid (Old w (w5.alloc (.cells #[.int .i64 99, .int .i64 2] 67))) := Lib.hid (hS5.1.alloc _)
  have hB := Blk.new w5 [.int .i64 99, .int .i64 2] bT.E
  dsimp only [List.toArray] at hB
  have c0 := hB.cell (o := 0) rfl
  have c1 := hB.cell (o := 1) rfl
  clear hS5 P4 HS4 hB
  go_wp2_with fail
  go_ret
  exact ⟨rfl, HO.out⟩
end Go.Proofs.Ytlgcbggffhlhmaa.Qu
