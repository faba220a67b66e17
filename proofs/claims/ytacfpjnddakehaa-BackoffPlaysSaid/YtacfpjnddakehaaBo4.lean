/- Backoff: the reference's timer: its start, whether it fired. Conditions: each theorem's own. -/
import Derived.Test.YtacfpjnddakehaaBo3
set_option linter.unusedVariables false
namespace Go.Proofs.Ytacfpjnddakehaa.Bo
open Go.RowKit Hp NumM NumC
attribute [local go_sem ↓] Go.wp_at_zero Go.wp_at_succ
/-- A timer of the reference: base, limit, most, runs, when, tries. -/
def RT (w : World) (c : Nat) (x y m : Int) (r : Bool) (A n : Int) : Prop := Blk w c [.int .i64 x, .int .i64 y, .int .i64 m, .bool r, .int .i64 A, .int .i64 n] 30
/-- One that fires at a; that does not run, if a is 0. -/
def RS (w : World) (c : Nat) (x y m n a : Int) : Prop := ∃ A, (0 < a → A = a) ∧ RT w c x y m (decide (0 < a)) A n
theorem RT.state {w : World} {c : Nat} {x y m n a : Int} (h : RT w c x y m true a n) (h0 : 0 < a) : RS w c x y m n a := ⟨a, fun _ => rfl, by rw [decide_eq_true h0]; exact h⟩
theorem RT.ended {w : World} {c : Nat} {x y m n A : Int} (h : RT w c x y m false A n) : RS w c x y m n 0 := ⟨A, fun e => absurd e (by decide), by rw [decide_eq_false (by decide)]; exact h⟩
theorem next_pos (x y n now : Int) : 0 < nextI x y n now := by have := (nextI_bd x y n now).1; omega
set_option maxHeartbeats 4000000 in
theorem start_ref {x y m n A : Int} {r : Bool} {c : Nat} {w : World} (hB : RT w c x y m r A n) (now : Int) :
    Calls Try.prog 10 #[.pointer (some ⟨c, 0, none⟩), .int .i64 now] w fun e w' => e = .returned (.tuple #[]) ∧ RS w' c x y m 0 (nextI x y 0 now) ∧ Kept (fun k => k = c) w w' := by
  have hpos := Lib.hid (next_pos x y 0 now)
  unfold RT at hB
  have c3 := hB.cell (o := 3) rfl
  have c5 := hB.cell (o := 5) rfl
  have f3 := hB.frozen 3
  have f5 := hB.frozen 5
  have hlt := hB.lt
  have D := Lib.hid fun w => delay_ref x y 0 w
  have P := Lib.hid fun w => addRef_any now (delayI x y 0) w
  unfold nextI at *
  generalize delayI x y 0 = d at *
  generalize addI now d = a' at *
  go_enter Try.func10, Try.ntmps10
  go_upto_region 2 with fail
  have hB1 : RT ((w.setCell ⟨c, 3, none⟩ (.bool true)).setCell ⟨c, 5, none⟩ (.int .i64 0)) c x y m true A 0 := (hB.set 3 (.bool true)).set 5 (.int .i64 0)
  have hk1 : Kept (fun k => k = c) w ((w.setCell ⟨c, 3, none⟩ (.bool true)).setCell ⟨c, 5, none⟩ (.int .i64 0)) := (Kept.one w c 3 _).set (fun _ => rfl) 5 _
  clear hB c3 c5 f3 f5 hlt
  generalize (w.setCell ⟨c, 3, none⟩ (.bool true)).setCell ⟨c, 5, none⟩ (.int .i64 0) = w1 at *
  unfold RT at hB1
  have c0 := hB1.cell (o := 0) rfl
  have c1 := hB1.cell (o := 1) rfl
  have c4 := hB1.cell (o := 4) rfl
  have f4 := hB1.frozen 4
  have hlt := hB1.lt
  have HB := Lib.hid hB1
  clear hB1
  go_region_with (first | (go_at_call 18; with_reducible refine Calls.mono (D.out _) ?_; rintro e w' ⟨rfl, rfl⟩) | (go_at_call 21; with_reducible refine Calls.mono (P.out _) ?_; rintro e w' ⟨rfl, rfl⟩))
  all_goals
    go_wp2_with fail
    go_end0
    exact ⟨rfl, RT.state (HB.out.set 4 (.int .i64 a')).drew hpos.out, (hk1.set (fun _ => rfl) 4 _).drew⟩
def FiredR (x y m n a now : Int) (c : Nat) (w : World) (e : Ending) (w' : World) : Prop :=
  e = .returned (.tuple #[.bool (fire x y m n a now).1, .int .i64 (fire x y m n a now).2.1]) ∧ RS w' c x y m (fire x y m n a now).2.2.1 (fire x y m n a now).2.2.2 ∧ Kept (fun k => k = c) w w'
set_option maxHeartbeats 8000000 in
theorem fired_ref {x y m n a : Int} {c : Nat} {w : World} (hB : RS w c x y m n a) (h0 : 0 ≤ n) (h1 : n ≤ 1000000000) (now : Int) :
    Calls Try.prog 12 #[.pointer (some ⟨c, 0, none⟩), .int .i64 now] w (FiredR x y m n a now c w) := by
  unfold FiredR
  have HS := Lib.hid hB
  obtain ⟨A, hA, hB⟩ := hB
  by_cases hr : 0 < a
  · rw [decide_eq_true hr] at hB
    obtain rfl := hA hr
    clear hA
    unfold RT at hB
    have c3 := hB.cell (o := 3) rfl
    have c4 := hB.cell (o := 4) rfl
    by_cases hn : now < A
    · have e : fire x y m n A now = (false, 0, n, A) := by unfold fire; rw [if_pos (Or.inr hn)]
      rw [e]
      clear e
      go_enter Try.func12, Try.ntmps12
      go_wp2_with fail
      go_ret2
      exact ⟨rfl, HS.out, Kept.refl _ w⟩
    · clear HS
      have hw : IntKind.i64.wrap (n + 1) = n + 1 := by rw [IntKind.wrap_i64]; omega
      have e0 : ¬ (A ≤ 0 ∨ now < A) := by omega
      have c5 := hB.cell (o := 5) rfl
      have f5 := hB.frozen 5
      have hlt := hB.lt
      by_cases hl : 0 < m ∧ m < n + 1
      · have e : fire x y m n A now = (false, 8, n + 1, 0) := by unfold fire; rw [if_neg e0, if_pos hl]
        obtain ⟨hm, hl⟩ := hl
        rw [e]
        clear e e0
        go_enter Try.func12, Try.ntmps12
        go_upto_region 4 with fail
        have hP2 : RT (w.setCell ⟨c, 5, none⟩ (.int .i64 (n + 1))) c x y m true A (n + 1) := hB.set 5 (.int .i64 (n + 1))
        have hk2 : Kept (fun k => k = c) w (w.setCell ⟨c, 5, none⟩ (.int .i64 (n + 1))) := Kept.one w c 5 _
        clear hB c3 c4 c5 f5 hlt
        generalize w.setCell ⟨c, 5, none⟩ (.int .i64 (n + 1)) = w2 at *
        unfold RT at hP2
        have c2 := hP2.cell (o := 2) rfl
        have c5 := hP2.cell (o := 5) rfl
        go_quiet (fail)
        have hP3 := hP2.drewN nq
        have hk3 := hk2.drewN nq
        clear c2 c5 hP2 hk2
        generalize w2.drewN nq = w3 at *
        have c3 := hP3.cell (o := 3) rfl
        have f3 := hP3.frozen 3
        have hlt := hP3.lt
        go_wp2_with fail
        go_ret2
        exact ⟨rfl, RT.ended (hP3.set 3 (.bool false)), hk3.set (fun _ => rfl) 3 _⟩
      · have e : fire x y m n A now = (true, 0, n + 1, nextI x y (n + 1) now) := by unfold fire; rw [if_neg e0, if_neg hl]
        rw [e]
        have hpos := Lib.hid (next_pos x y (n + 1) now)
        have D := Lib.hid fun w => delay_ref x y (n + 1) w
        have P := Lib.hid fun w => addRef_any now (delayI x y (n + 1)) w
        clear e e0
        unfold nextI at *
        generalize delayI x y (n + 1) = d at *
        generalize addI now d = a' at *
        go_enter Try.func12, Try.ntmps12
        go_upto_region 4 with fail
        have hP2 : RT (w.setCell ⟨c, 5, none⟩ (.int .i64 (n + 1))) c x y m true A (n + 1) := hB.set 5 (.int .i64 (n + 1))
        have hk2 : Kept (fun k => k = c) w (w.setCell ⟨c, 5, none⟩ (.int .i64 (n + 1))) := Kept.one w c 5 _
        clear hB c3 c4 c5 f5 hlt
        generalize w.setCell ⟨c, 5, none⟩ (.int .i64 (n + 1)) = w2 at *
        unfold RT at hP2
        have c2 := hP2.cell (o := 2) rfl
        have c5 := hP2.cell (o := 5) rfl
        by_cases hm : 0 < m
        · have hl2 : ¬ m < n + 1 := fun e => hl ⟨hm, e⟩
          clear hl
          go_quiet (fail)
          have hP3 : RT (w2.drewN nq) c x y m true A (n + 1) := hP2.drewN nq
          have hk3 := hk2.drewN nq
          clear c2 c5 hP2 hk2
          generalize w2.drewN nq = w3 at *
          unfold RT at hP3
          have c0 := hP3.cell (o := 0) rfl
          have c1 := hP3.cell (o := 1) rfl
          have c5 := hP3.cell (o := 5) rfl
          have c4 := hP3.cell (o := 4) rfl
          have f4 := hP3.frozen 4
          have hlt := hP3.lt
          have HB := Lib.hid hP3
          clear hP3
          go_upto_region 7 with fail
          go_region_with (first | (go_at_call 18; with_reducible refine Calls.mono (D.out _) ?_; rintro e w' ⟨rfl, rfl⟩) | (go_at_call 21; with_reducible refine Calls.mono (P.out _) ?_; rintro e w' ⟨rfl, rfl⟩))
          all_goals
            go_wp2_with fail
            go_ret2
            exact ⟨rfl, RT.state (HB.out.set 4 (.int .i64 a')).drew hpos.out, (hk3.set (fun _ => rfl) 4 _).drew⟩
        · have hd : decide (0 < m) = false := decide_eq_false hm
          clear hl
          go_quiet (fail)
          have hP3 : RT (w2.drewN nq) c x y m true A (n + 1) := hP2.drewN nq
          have hk3 := hk2.drewN nq
          clear c2 c5 hP2 hk2
          generalize w2.drewN nq = w3 at *
          unfold RT at hP3
          have c0 := hP3.cell (o := 0) rfl
          have c1 := hP3.cell (o := 1) rfl
          have c5 := hP3.cell (o := 5) rfl
          have c4 := hP3.cell (o := 4) rfl
          have f4 := hP3.frozen 4
          have hlt := hP3.lt
          have HB := Lib.hid hP3
          clear hP3
          go_upto_region 7 with fail
          go_region_with (first | (go_at_call 18; with_reducible refine Calls.mono (D.out _) ?_; rintro e w' ⟨rfl, rfl⟩) | (go_at_call 21; with_reducible refine Calls.mono (P.out _) ?_; rintro e w' ⟨rfl, rfl⟩))
          all_goals
            go_wp2_with fail
            go_ret2
            exact ⟨rfl, RT.state (HB.out.set 4 (.int .i64 a')).drew hpos.out, (hk3.set (fun _ => rfl) 4 _).drew⟩
  · rw [decide_eq_false hr] at hB
    clear hA
    unfold RT at hB
    have c3 := hB.cell (o := 3) rfl
    clear hB
    have e : fire x y m n a now = (false, 0, n, a) := by unfold fire; rw [if_pos (Or.inl (by omega))]
    rw [e]
    clear e
    go_enter Try.func12, Try.ntmps12
    go_wp2_with fail
    go_ret2
    exact ⟨rfl, HS.out, Kept.refl _ w⟩
end Go.Proofs.Ytacfpjnddakehaa.Bo
