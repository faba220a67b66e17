/- A net in memory; its readers: has, leafOf, Leaf, Leaves, Ports, Up, Hops, spineOf, the numbers of ports. Conditions: each theorem's own. -/
import Derived.Test.YtoieogembfdmfaaDoorHeap
import Derived.Test.YtoieogembfdmfaaDoorTpMath
import Derived.WalkKit
import Derived.Outline
import Derived.ProofKit
import Derived.Deep.RegionLaw
import Derived.Deep.CutBlock
import Derived.Deep.RegionWith
import Derived.Deep.DeepCutAuto
import Derived.Deep.DrawnRows
import Derived.Deep.LoopGhost
import Derived.WalkLawsBesides
import Derived.BigQuiet
import Derived.Deep.QuietTactic
set_option linter.unusedVariables false
namespace Go.Proofs.YtoieogembfdmfaaDoor.Tp
open Go.RowKit Hp TpM
attribute [local go_sem ↓] Go.wp_at_zero Go.wp_at_succ
/-- A net of the program's. -/
abbrev NV (w : World) (b : Nat) (H S : Int) : Prop := Blk w b [.int .i64 H, .int .i64 S] 43
abbrev ptr (b : Nat) : Value := .pointer (some ⟨b, 0, none⟩)
variable {w : World} {b : Nat} {H S : Int}
theorem ret_int {k : IntKind} {a b : Int} (h : a = b) : Ending.returned (.int k a) = .returned (.int k b) := by rw [h]
theorem has_yes (hB : NV w b H S) {x : Int} (h0 : 0 ≤ x) (h1 : x < H) : Calls Tryd.prog 22 #[ptr b, .int .i64 x] w fun e w' => e = .returned (.bool true) ∧ w = w' := by
  have c0 := hB.cell (o := 0) rfl
  go_enter Tryd.func22, Tryd.ntmps22
  go_wp2_with fail
  go_ret
  exact ⟨rfl, rfl⟩
theorem has_no (hB : NV w b H S) {x : Int} (h : x < 0 ∨ H ≤ x) : Calls Tryd.prog 22 #[ptr b, .int .i64 x] w fun e w' => e = .returned (.bool false) ∧ w = w' := by
  have c0 := hB.cell (o := 0) rfl
  rcases (show ¬ 0 ≤ x ∨ (0 ≤ x ∧ ¬ x < H) by omega) with h1 | ⟨h1, h2⟩
  all_goals
    go_enter Tryd.func22, Tryd.ntmps22
    go_wp2_with fail
    go_ret
    exact ⟨rfl, rfl⟩
theorem has_nil (x : Int) (w : World) : Calls Tryd.prog 22 #[.pointer none, .int .i64 x] w fun e w' => e = .returned (.bool false) ∧ w = w' := by
  go_enter Tryd.func22, Tryd.ntmps22
  go_wp2_with fail
  go_ret
  exact ⟨rfl, rfl⟩
theorem leafOf_any {x : Int} (h0 : 0 ≤ x) (h1 : x < 1000) (w : World) : Calls Tryd.prog 24 #[.int .i64 x] w fun e w' => e = .returned (.int .i64 (x / 2)) ∧ w = w' := by
  go_enter Tryd.func24, Tryd.ntmps24
  go_wp2_with fail
  go_ret
  exact ⟨rfl, rfl⟩
theorem up1_any (x : Int) (w : World) : Calls Tryd.prog 32 #[.int .i64 x] w fun e w' => e = .returned (.int .i64 x) ∧ w = w' := by
  go_enter Tryd.func32, Tryd.ntmps32
  go_wp2_with fail
  go_ret
  exact ⟨rfl, rfl⟩
theorem leaves_any (hB : NV w b H S) (n : Net H S) : Calls Tryd.prog 15 #[ptr b] w fun e w' => e = .returned (.int .i64 (lv H)) ∧ w = w' := by
  have c0 := hB.cell (o := 0) rfl
  have h0 := n.h0
  have h1 := n.h1
  go_enter Tryd.func15, Tryd.ntmps15
  go_wp2_with fail
  go_ret
  exact ⟨ret_int (by unfold lv; omega), rfl⟩
theorem leaves_nil (w : World) : Calls Tryd.prog 15 #[.pointer none] w fun e w' => e = .returned (.int .i64 0) ∧ w = w' := by
  go_enter Tryd.func15, Tryd.ntmps15
  go_wp2_with fail
  go_ret
  exact ⟨rfl, rfl⟩
theorem ports_nil (w : World) : Calls Tryd.prog 14 #[.pointer none] w fun e w' => e = .returned (.int .i64 0) ∧ w = w' := by
  go_enter Tryd.func14, Tryd.ntmps14
  go_wp2_with fail
  go_ret
  exact ⟨rfl, rfl⟩
theorem l2h_any (hB : NV w b H S) (n : Net H S) {x : Int} (h0 : 0 ≤ x) (h1 : x ≤ 8) : Calls Tryd.prog 27 #[ptr b, .int .i64 x] w fun e w' => e = .returned (.int .i64 (H + x)) ∧ w = w' := by
  have c0 := hB.cell (o := 0) rfl
  have h2 := n.h0
  have h3 := n.h1
  go_enter Tryd.func27, Tryd.ntmps27
  go_wp2_with fail
  go_ret
  exact ⟨rfl, rfl⟩
/-- A product of small numbers is none too great. -/
theorem mul_small {l n : Int} (h0 : 0 ≤ l) (h1 : l ≤ 4) (h2 : 0 ≤ n) (h3 : n ≤ 4) : 0 ≤ l * n ∧ l * n ≤ 16 := by
  have e : l = 0 ∨ l = 1 ∨ l = 2 ∨ l = 3 ∨ l = 4 := by omega
  rcases e with rfl | rfl | rfl | rfl | rfl <;> omega
theorem l2s_any (hB : NV w b H S) (n : Net H S) {l x : Int} (h0 : 0 ≤ l) (h1 : l ≤ 4) (h2 : 0 ≤ x) (h3 : x ≤ 4) : Calls Tryd.prog 25 #[ptr b, .int .i64 l, .int .i64 x] w fun e w' => e = .returned (.int .i64 (2 * H + (l * S + x))) ∧ ∃ m, w' = w.drewN m := by
  have c0 := hB.cell (o := 0) rfl
  have c1 := hB.cell (o := 1) rfl
  have C := Lib.hid fun k => l2h_any (hB.drewN k) n (x := H) (by have := n.h0; omega) n.h1
  have ⟨m0, m1⟩ := mul_small h0 h1 (n := S) (by have := n.s0; omega) n.s1
  have g0 := n.h0
  have g1 := n.h1
  obtain ⟨p, hp⟩ : ∃ p, p = l * S := ⟨_, rfl⟩
  rw [← hp] at m0 m1 ⊢
  have hw : IntKind.i64.wrap (l * S) = p := by rw [← hp, IntKind.wrap_i64]; omega
  clear hp
  go_enter Tryd.func25, Tryd.ntmps25
  go_upto_region 1 with fail
  go_quiet ((go_at_call 27; exact Calls.quiet_of_same ((C.out _).mono fun _ _ ⟨e1, e2⟩ => ⟨e1, e2.symm⟩)))
  go_wp2_with fail
  go_ret
  exact ⟨ret_int (by omega), _, rfl⟩
theorem s2l_any (hB : NV w b H S) (n : Net H S) {x l : Int} (h0 : 0 ≤ x) (h1 : x ≤ 4) (h2 : 0 ≤ l) (h3 : l ≤ 4) : Calls Tryd.prog 28 #[ptr b, .int .i64 x, .int .i64 l] w fun e w' => e = .returned (.int .i64 (2 * H + mm H S + (x * lv H + l))) ∧ ∃ m, w' = w.drewN m := by
  have hl := lv_in n
  have L := Lib.hid fun k => leaves_any (hB.drewN k) n
  have C := Lib.hid (l2s_any hB n (l := lv H) (x := 0) (by omega) hl.2.1 (by omega) (by omega))
  have ⟨m0, m1⟩ := mul_small h0 h1 (n := lv H) (by omega) hl.2.1
  have ⟨m2, m3⟩ := mm_in n
  have L0 := Lib.hid (leaves_any hB n)
  have g0 := n.h0
  have g1 := n.h1
  have e : lv H * S = mm H S := rfl
  rw [e] at C
  clear e
  generalize mm H S = M at *
  generalize lv H = q at *
  obtain ⟨p, hp⟩ : ∃ p, p = x * q := ⟨_, rfl⟩
  rw [← hp] at m0 m1 ⊢
  have hw : IntKind.i64.wrap (x * q) = p := by rw [← hp, IntKind.wrap_i64]; omega
  clear hp
  go_enter Tryd.func28, Tryd.ntmps28
  go_wp2_with fail
  with_reducible refine Calls.mono L0.out ?_
  rintro e w' ⟨rfl, rfl⟩
  go_wp2_with fail
  with_reducible refine Calls.mono C.out ?_
  rintro e w' ⟨rfl, k, rfl⟩
  go_wp2_with fail
  with_reducible refine Calls.mono (L.out k) ?_
  rintro e w' ⟨rfl, rfl⟩
  go_wp2_with fail
  go_ret
  exact ⟨ret_int (by omega), _, rfl⟩
theorem ports_any (hB : NV w b H S) (n : Net H S) : Calls Tryd.prog 14 #[ptr b] w fun e w' => e = .returned (.int .i64 (pts H S)) ∧ ∃ m, w' = w.drewN m := by
  have c1 := hB.cell (o := 1) rfl
  have C := Lib.hid (s2l_any hB n (x := S) (l := 0) (by have := n.s0; omega) n.s1 (by omega) (by omega))
  have e : 2 * H + mm H S + (S * lv H + 0) = pts H S := by have : S * lv H = mm H S := Int.mul_comm _ _; unfold pts; omega
  rw [e] at C
  clear e
  go_enter Tryd.func14, Tryd.ntmps14
  go_wp2_with fail
  with_reducible refine Calls.mono C.out ?_
  rintro e w' ⟨rfl, k, rfl⟩
  go_wp2_with fail
  go_ret
  exact ⟨rfl, _, rfl⟩
theorem spine_any (hB : NV w b H S) (n : Net H S) {q : Int} : Calls Tryd.prog 26 #[ptr b, .int .i64 q] w fun e w' => e = .returned (.int .i64 (sp S q)) ∧ w = w' := by
  have c1 := hB.cell (o := 1) rfl
  have hs := sp_in n q
  have g0 := n.s0
  have g1 := n.s1
  have hne : ¬ S = 0 := by omega
  have hne2 : (S == 0) = false := by rw [beq_eq_false_iff_ne]; exact hne
  have h1 : q.tmod S < S := Int.tmod_lt_of_pos q (by omega)
  unfold sp at hs ⊢
  obtain ⟨r, hr⟩ : ∃ r, q.tmod S = r := ⟨_, rfl⟩
  rw [hr] at hs h1 ⊢
  by_cases h : r < 0
  · rw [if_pos h] at hs ⊢
    go_enter Tryd.func26, Tryd.ntmps26
    go_wp2_with fail
    go_ret
    exact ⟨rfl, rfl⟩
  · rw [if_neg h] at hs ⊢
    go_enter Tryd.func26, Tryd.ntmps26
    go_wp2_with fail
    go_ret
    exact ⟨rfl, rfl⟩
theorem leaf_yes (hB : NV w b H S) (n : Net H S) {x : Int} (h0 : 0 ≤ x) (h1 : x < H) : Calls Tryd.prog 16 #[ptr b, .int .i64 x] w fun e w' => e = .returned (.int .i64 (x / 2)) ∧ w = w' := by
  have C := Lib.hid (has_yes hB h0 h1)
  have D := Lib.hid fun w => leafOf_any h0 (by have := n.h1; omega) w
  go_enter Tryd.func16, Tryd.ntmps16
  go_wp2_with fail
  with_reducible refine Calls.mono C.out ?_
  rintro e w' ⟨rfl, rfl⟩
  go_wp2_with fail
  with_reducible refine Calls.mono (D.out _) ?_
  rintro e w' ⟨rfl, rfl⟩
  go_wp2_with fail
  go_ret
  exact ⟨rfl, rfl⟩
theorem leaf_off {p : Value} {x : Int} (C : Hid (Calls Tryd.prog 22 #[p, .int .i64 x] w fun e w' => e = .returned (.bool false) ∧ w = w')) : Calls Tryd.prog 16 #[p, .int .i64 x] w fun e w' => e = .returned (.int .i64 (-1)) ∧ w = w' := by
  go_enter Tryd.func16, Tryd.ntmps16
  go_wp2_with fail
  with_reducible refine Calls.mono C.out ?_
  rintro e w' ⟨rfl, rfl⟩
  go_wp2_with fail
  go_ret
  exact ⟨rfl, rfl⟩
/-- A host's leaf; -1. -/
def lf (H x : Int) : Int := if x < 0 ∨ H ≤ x then -1 else x / 2
theorem leaf_any (hB : NV w b H S) (n : Net H S) (x : Int) : Calls Tryd.prog 16 #[ptr b, .int .i64 x] w fun e w' => e = .returned (.int .i64 (lf H x)) ∧ w = w' := by
  unfold lf
  split
  · rename_i h
    exact leaf_off (Lib.hid (has_no hB h))
  · rename_i h
    exact leaf_yes hB n (by omega) (by omega)
theorem up_yes (hB : NV w b H S) {x : Int} (h0 : 0 ≤ x) (h1 : x < H) : Calls Tryd.prog 18 #[ptr b, .int .i64 x] w fun e w' => e = .returned (.int .i64 x) ∧ w = w' := by
  have C := Lib.hid (has_yes hB h0 h1)
  have D := Lib.hid fun w => up1_any x w
  go_enter Tryd.func18, Tryd.ntmps18
  go_wp2_with fail
  with_reducible refine Calls.mono C.out ?_
  rintro e w' ⟨rfl, rfl⟩
  go_wp2_with fail
  with_reducible refine Calls.mono (D.out _) ?_
  rintro e w' ⟨rfl, rfl⟩
  go_wp2_with fail
  go_ret
  exact ⟨rfl, rfl⟩
theorem up_off {p : Value} {x : Int} (C : Hid (Calls Tryd.prog 22 #[p, .int .i64 x] w fun e w' => e = .returned (.bool false) ∧ w = w')) : Calls Tryd.prog 18 #[p, .int .i64 x] w fun e w' => e = .returned (.int .i64 (-1)) ∧ w = w' := by
  go_enter Tryd.func18, Tryd.ntmps18
  go_wp2_with fail
  with_reducible refine Calls.mono C.out ?_
  rintro e w' ⟨rfl, rfl⟩
  go_wp2_with fail
  go_ret
  exact ⟨rfl, rfl⟩
/-- A host's way up; -1. -/
def upn (H x : Int) : Int := if x < 0 ∨ H ≤ x then -1 else x
theorem up_any (hB : NV w b H S) (x : Int) : Calls Tryd.prog 18 #[ptr b, .int .i64 x] w fun e w' => e = .returned (.int .i64 (upn H x)) ∧ w = w' := by
  unfold upn
  split
  · rename_i h
    exact up_off (Lib.hid (has_no hB h))
  · rename_i h
    exact up_yes hB (by omega) (by omega)
theorem hops_off1 {p : Value} {x y : Int} (C : Hid (Calls Tryd.prog 22 #[p, .int .i64 x] w fun e w' => e = .returned (.bool false) ∧ w = w')) : Calls Tryd.prog 19 #[p, .int .i64 x, .int .i64 y] w fun e w' => e = .returned (.int .i64 0) ∧ w = w' := by
  go_enter Tryd.func19, Tryd.ntmps19
  go_wp2_with fail
  with_reducible refine Calls.mono C.out ?_
  rintro e w' ⟨rfl, rfl⟩
  go_wp2_with fail
  go_ret
  exact ⟨rfl, rfl⟩
theorem hops_any (hB : NV w b H S) (n : Net H S) (x y : Int) : Calls Tryd.prog 19 #[ptr b, .int .i64 x, .int .i64 y] w fun e w' => e = .returned (.int .i64 (hp H x y)) ∧ w = w' := by
  unfold hp
  by_cases hx : x < 0 ∨ H ≤ x
  · rw [if_pos (Or.inl hx)]
    exact hops_off1 (Lib.hid (has_no hB hx))
  · have C := Lib.hid (has_yes hB (x := x) (by omega) (by omega))
    by_cases hy : y < 0 ∨ H ≤ y
    · rw [if_pos (Or.inr hy)]
      have D := Lib.hid (has_no hB hy)
      clear hx hy
      go_enter Tryd.func19, Tryd.ntmps19
      go_wp2_with fail
      with_reducible refine Calls.mono C.out ?_
      rintro e w' ⟨rfl, rfl⟩
      go_wp2_with fail
      with_reducible refine Calls.mono D.out ?_
      rintro e w' ⟨rfl, rfl⟩
      go_wp2_with fail
      go_ret
      exact ⟨rfl, rfl⟩
    · rw [if_neg (by omega)]
      have D := Lib.hid (has_yes hB (x := y) (by omega) (by omega))
      have E := Lib.hid fun w => leafOf_any (x := x) (by omega) (by have := n.h1; omega) w
      have F := Lib.hid fun w => leafOf_any (x := y) (by omega) (by have := n.h1; omega) w
      generalize x / 2 = u at *
      generalize y / 2 = v at *
      clear hx hy
      by_cases h : u = v
      · rw [if_pos h]
        subst h
        go_enter Tryd.func19, Tryd.ntmps19
        go_wp2_with fail
        with_reducible refine Calls.mono C.out ?_
        rintro e w' ⟨rfl, rfl⟩
        go_wp2_with fail
        with_reducible refine Calls.mono D.out ?_
        rintro e w' ⟨rfl, rfl⟩
        go_wp2_with fail
        with_reducible refine Calls.mono (E.out _) ?_
        rintro e w' ⟨rfl, rfl⟩
        go_wp2_with fail
        with_reducible refine Calls.mono (F.out _) ?_
        rintro e w' ⟨rfl, rfl⟩
        go_wp2_with fail
        go_ret
        exact ⟨rfl, rfl⟩
      · rw [if_neg h]
        have hf : (u == v) = false := by rw [beq_eq_false_iff_ne]; exact h
        go_enter Tryd.func19, Tryd.ntmps19
        go_wp2_with fail
        with_reducible refine Calls.mono C.out ?_
        rintro e w' ⟨rfl, rfl⟩
        go_wp2_with fail
        with_reducible refine Calls.mono D.out ?_
        rintro e w' ⟨rfl, rfl⟩
        go_wp2_with fail
        with_reducible refine Calls.mono (E.out _) ?_
        rintro e w' ⟨rfl, rfl⟩
        go_wp2_with fail
        with_reducible refine Calls.mono (F.out _) ?_
        rintro e w' ⟨rfl, rfl⟩
        go_wp2_with fail
        go_ret
        exact ⟨rfl, rfl⟩
end Go.Proofs.YtoieogembfdmfaaDoor.Tp
