/- A net made; the laws' own words of it; what nothing tells. Conditions: each theorem's own. -/
import Derived.Test.YtoieogembfdmfaaDoorTpNm
import Derived.Test.YtoieogembfdmfaaDoorEnd
set_option linter.unusedVariables false
set_option linter.unusedSimpArgs false
namespace Go.Proofs.YtoieogembfdmfaaDoor.Tp
open Go.RowKit Hp TpM Go.Proofs.YtoieogembfdmfaaDoor.End
attribute [local go_sem ↓] Go.wp_at_zero Go.wp_at_succ
variable {w : World} {b : Nat} {H S : Int}
theorem new_yes (n : Net H S) (w : World) : Calls Tryd.prog 6 #[.int .i64 H, .int .i64 S] w fun e w' => ∃ b, e = .returned (.tuple #[ptr b, .int .i64 0]) ∧ NV w' b H S ∧ Kept (fun _ => False) w w' := by
  obtain ⟨h0, h1, h2, h3⟩ := n
  have d1 : decide (8 < H) = false := by rw [decide_eq_false_iff_not]; omega
  have d2 : decide (S < 1) = false := by rw [decide_eq_false_iff_not]; omega
  have d3 : decide (4 < S) = false := by rw [decide_eq_false_iff_not]; omega
  go_enter Tryd.func6, Tryd.ntmps6
  go_wp2_with fail
  exact bodyPost_ret (v := .tuple #[ptr w.heap.size, .int .i64 0]) (by simp [results, Tryd.results6, go_sem]) rfl ⟨_, rfl, Blk.new w _ _, (Kept.refl _ w).alloc _⟩
theorem net_no {H S : Int} (h : ¬ Net H S) : H < 2 ∨ (¬ H < 2 ∧ 8 < H) ∨ (¬ H < 2 ∧ ¬ 8 < H ∧ S < 1) ∨ (¬ H < 2 ∧ ¬ 8 < H ∧ ¬ S < 1 ∧ 4 < S) := by
  by_cases h0 : H < 2
  · exact Or.inl h0
  by_cases h1 : 8 < H
  · exact Or.inr (Or.inl ⟨h0, h1⟩)
  by_cases h2 : S < 1
  · exact Or.inr (Or.inr (Or.inl ⟨h0, h1, h2⟩))
  by_cases h3 : 4 < S
  · exact Or.inr (Or.inr (Or.inr ⟨h0, h1, h2, h3⟩))
  exact absurd ⟨by omega, by omega, by omega, by omega⟩ h
theorem new_no (h : ¬ Net H S) (w : World) : Calls Tryd.prog 6 #[.int .i64 H, .int .i64 S] w fun e w' => e = .returned (.tuple #[.pointer none, .int .i64 1]) ∧ w = w' := by
  have h := net_no h
  rcases h with h0 | ⟨h0, h1⟩ | ⟨h0, h1, h2⟩ | ⟨h0, h1, h2, h3⟩
  all_goals
    go_enter Tryd.func6, Tryd.ntmps6
    go_wp2_with fail
    exact bodyPost_ret (v := .tuple #[.pointer none, .int .i64 1]) (by simp [results, Tryd.results6, go_sem]) rfl ⟨rfl, rfl⟩
theorem n41 : Net 4 1 := ⟨by decide, by decide, by decide, by decide⟩
set_option maxRecDepth 100000 in
set_option maxHeartbeats 4000000 in
theorem awake_any (w : World) : Calls Tryd.prog 8 #[] w fun e w' => e = .returned (.bool true) ∧ Old w w' := by
  have N := Lib.hid fun w => new_yes n41 w
  have N2 := Lib.hid fun w => new_no (H := 1) (S := 1) (fun h => absurd h.h0 (by decide)) w
  go_enter Tryd.func8, Tryd.ntmps8
  go_wp2_with fail
  with_reducible refine Calls.mono (N.out _) ?_
  rintro e w2 ⟨b, rfl, hB, hK⟩
  have HB := Lib.hid hB
  have HK := Lib.hid hK
  clear hB hK N
  go_wp2_with fail
  with_reducible refine Calls.mono (N2.out _) ?_
  rintro e w' ⟨rfl, rfl⟩
  have C := Lib.hid (ports_any HB.out n41)
  rw [show pts 4 1 = 12 by decide] at C
  go_wp2_with fail
  with_reducible refine Calls.mono C.out ?_
  rintro e w' ⟨rfl, m, rfl⟩
  have C := Lib.hid (leaves_any (HB.out.drewN m) n41)
  rw [show lv 4 = 2 by decide] at C
  go_wp2_with fail
  with_reducible refine Calls.mono C.out ?_
  rintro e w' ⟨rfl, rfl⟩
  have C := Lib.hid (up_any (HB.out.drewN m) 3)
  rw [show upn 4 3 = 3 by decide] at C
  go_wp2_with fail
  with_reducible refine Calls.mono C.out ?_
  rintro e w' ⟨rfl, rfl⟩
  have C := Lib.hid (name_any (HB.out.drewN m) n41 0)
  have e0 : nmv (kd 4 1 0) = .string ⟨#[104, 48]⟩ := by rfl
  rw [e0] at C
  go_wp2_with fail
  with_reducible refine Calls.mono C.out ?_
  rintro e w4 ⟨rfl, hk⟩
  have C := Lib.hid (hops_any (hk.blk (HB.out.drewN m) (fun f => f)) n41 0 3)
  rw [show hp 4 0 3 = 4 by decide] at C
  have HK2 := Lib.hid ((HK.out.drewN m).trans hk)
  clear hk
  go_wp2_with fail
  with_reducible refine Calls.mono C.out ?_
  rintro e w' ⟨rfl, rfl⟩
  go_wp2_with fail
  go_ret
  exact ⟨rfl, HK2.out⟩
theorem next_nil (x d q : Int) (w : World) : Calls Tryd.prog 10 #[.pointer none, .int .i64 x, .int .i64 d, .int .i64 q] w fun e w' => e = .returned (nv (-1, false)) ∧ Kept (fun _ => False) w w' := next_off (Lib.hid (has_nil d w))
theorem leaf_nil (x : Int) (w : World) : Calls Tryd.prog 16 #[.pointer none, .int .i64 x] w fun e w' => e = .returned (.int .i64 (-1)) ∧ w = w' := leaf_off (Lib.hid (has_nil x w))
theorem up_nil (x : Int) (w : World) : Calls Tryd.prog 18 #[.pointer none, .int .i64 x] w fun e w' => e = .returned (.int .i64 (-1)) ∧ w = w' := up_off (Lib.hid (has_nil x w))
theorem hops_nil (x y : Int) (w : World) : Calls Tryd.prog 19 #[.pointer none, .int .i64 x, .int .i64 y] w fun e w' => e = .returned (.int .i64 0) ∧ w = w' := hops_off1 (Lib.hid (has_nil x w))
/-- All that was there is as it was, and the net lies there. -/
structure TS (w0 : World) (b : Nat) (H S : Int) (w : World) : Prop where
  old : Old w0 w
  net : NV w b H S
theorem TS.next {w0 w w' : World} (h : TS w0 b H S w) (k : Kept (fun _ => False) w w') : TS w0 b H S w' := ⟨h.old.trans k, k.blk h.net (fun f => f)⟩
theorem TS.drewN {w0 w : World} (h : TS w0 b H S w) (m : Nat) : TS w0 b H S (w.drewN m) := ⟨h.old.drewN m, h.net.drewN m⟩
end Go.Proofs.YtoieogembfdmfaaDoor.Tp
