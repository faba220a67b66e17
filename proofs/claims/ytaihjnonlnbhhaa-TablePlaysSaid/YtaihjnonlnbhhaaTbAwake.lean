/- What the document fixes of tables. Conditions: each theorem's own. -/
import Derived.Test.YtaihjnonlnbhhaaTbPut
import Derived.Test.YtaihjnonlnbhhaaTbTabS
import Derived.Test.YtaihjnonlnbhhaaEnd
set_option linter.unusedVariables false
namespace Go.Proofs.Ytaihjnonlnbhhaa.TbL
open Go.RowKit Hp TbM TbN TbR Tb Go.Proofs.Ytaihjnonlnbhhaa.End
attribute [local go_sem ↓] Go.wp_at_zero Go.wp_at_succ
set_option maxRecDepth 100000 in
set_option maxHeartbeats 4000000 in
theorem awake_any (w : World) : Calls Try.prog 26 #[] w fun e w' => e = .returned (.bool true) ∧ Old w w' := by
  have N := Lib.hid fun w => new_yes (most := 1) (by omega) (by omega) w
  have N2 := Lib.hid fun w => TbS.new_no (most := 0) (by omega) w
  go_enter Try.func26, Try.ntmps26
  go_wp2_with fail
  with_reducible refine Calls.mono (N.out _) ?_
  rintro e w1 ⟨b, rfl, hT1, k1⟩
  have HT1 := Lib.hid hT1
  have K1 := Lib.hid k1
  clear hT1 k1
  go_wp2_with fail
  with_reducible refine Calls.mono (N2.out _) ?_
  rintro e w' ⟨rfl, rfl⟩
  have P1 := Lib.hid (put_new HT1.out K1.out.size (k := (1, 2)) (by simp) (by simp) (by simp) 7)
  go_wp2_with fail
  with_reducible refine Calls.mono P1.out ?_
  rintro e w2 ⟨rfl, hT2, k2⟩
  have HT2 := Lib.hid hT2
  have K2 := Lib.hid k2
  have P2 := Lib.hid (put_full hT2 (k := (1, 3)) (by simp) (by simp) 8)
  clear hT2 k2 P1
  go_wp2_with fail
  with_reducible refine Calls.mono P2.out ?_
  rintro e w3 ⟨rfl, k3⟩
  have HT3 := Lib.hid (HT2.out.old k3)
  have K3 := Lib.hid k3
  have G3 := Lib.hid (get_hit (HT2.out.old k3) (k := (1, 2)) (u := 7) (by simp))
  clear k3 P2
  go_wp2_with fail
  with_reducible refine Calls.mono G3.out ?_
  rintro e w4 ⟨rfl, k4⟩
  have K4 := Lib.hid k4
  have M4 := Lib.hid (most_any (HT3.out.old k4))
  clear k4 G3
  go_wp2_with fail
  with_reducible refine Calls.mono M4.out ?_
  rintro e w' ⟨rfl, rfl⟩
  go_wp2_with fail
  go_ret
  have k12 : Kept (fun _ => False) w w2 := K1.out.trans' K2.out (fun i hi e => by have := (HT1.out); obtain ⟨_, _, h⟩ := this; have := h.own i e; omega)
  exact ⟨rfl, (k12.trans K3.out).trans K4.out⟩
end Go.Proofs.Ytaihjnonlnbhhaa.TbL
