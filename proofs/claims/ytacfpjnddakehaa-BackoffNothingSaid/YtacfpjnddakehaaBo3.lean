/- Backoff: a new timer of the program's; whether it fired; that it was heard of. Conditions: each theorem's own. -/
import Derived.Test.YtacfpjnddakehaaBo2
set_option linter.unusedVariables false
namespace Go.Proofs.Ytacfpjnddakehaa.Bo
open Go.RowKit Hp NumM NumC
attribute [local go_sem ↓] Go.wp_at_zero Go.wp_at_succ
theorem wider {w w' : World} (h : Kept (fun _ => False) w w') (b : Nat) : Kept (fun k => k = b) w w' := h.mono (fun _ _ f => f.elim)
def Fits (x y m : Int) : Prop := 1 ≤ x ∧ x ≤ 1099511627776 ∧ x ≤ y ∧ y ≤ 1099511627776 ∧ 0 ≤ m ∧ m ≤ 1000000
instance (x y m : Int) : Decidable (Fits x y m) := by unfold Fits; infer_instance
theorem unfit {x y m : Int} (h : ¬ Fits x y m) : x < 1 ∨ (¬ x < 1 ∧ 1099511627776 < x) ∨ (¬ x < 1 ∧ ¬ 1099511627776 < x ∧ y < 1) ∨ (¬ x < 1 ∧ ¬ 1099511627776 < x ∧ ¬ y < 1 ∧ 1099511627776 < y) ∨
    (¬ x < 1 ∧ ¬ 1099511627776 < x ∧ ¬ y < 1 ∧ ¬ 1099511627776 < y ∧ y < x) ∨ (¬ x < 1 ∧ ¬ 1099511627776 < x ∧ ¬ y < 1 ∧ ¬ 1099511627776 < y ∧ ¬ y < x ∧ m < 0) ∨
    (¬ x < 1 ∧ ¬ 1099511627776 < x ∧ ¬ y < 1 ∧ ¬ 1099511627776 < y ∧ ¬ y < x ∧ ¬ m < 0 ∧ 1000000 < m) := by unfold Fits at h; omega
set_option maxHeartbeats 2000000 in
theorem new_no {x y m : Int} (h : ¬ Fits x y m) (w : World) : Calls Try.prog 8 #[.int .i64 x, .int .i64 y, .int .i64 m] w fun e w' =>
    e = .returned (.tuple #[.pointer none, .int .i64 1]) ∧ w = w' := by
  rcases unfit h with h1 | ⟨h1, h2⟩ | ⟨h1, h2, h3⟩ | ⟨h1, h2, h3, h4⟩ | ⟨h1, h2, h3, h4, h5⟩ | ⟨h1, h2, h3, h4, h5, h6⟩ | ⟨h1, h2, h3, h4, h5, h6, h7⟩
  all_goals
    clear h
    go_enter Try.func8, Try.ntmps8
    go_wp2_with fail
    go_ret2
    exact ⟨rfl, rfl⟩
theorem new_yes {x y m : Int} (h : Fits x y m) (w : World) : Calls Try.prog 8 #[.int .i64 x, .int .i64 y, .int .i64 m] w fun e w' =>
    ∃ b, e = .returned (.tuple #[.pointer (some ⟨b, 0, none⟩), .int .i64 0]) ∧ PT w' b x y m 0 0 ∧ Kept (fun _ => False) w w' ∧ w.heap.size ≤ b := by
  obtain ⟨h1, h2, h3, h4, h5, h6⟩ := h
  have h7 : 1 ≤ y := by omega
  go_enter Try.func8, Try.ntmps8
  go_wp2_with fail
  go_ret2
  exact ⟨w.heap.size, rfl, Blk.new w [.int .i64 x, .int .i64 y, .int .i64 m, .int .i64 0, .int .i64 0] _, (Kept.refl _ w).alloc _, Nat.le_refl _⟩
/-- What Fired answers, and the tries and the time that it leaves. -/
def fire (x y m n a now : Int) : Bool × Int × Int × Int :=
  if a ≤ 0 ∨ now < a then (false, 0, n, a) else if 0 < m ∧ m < n + 1 then (false, 8, n + 1, 0) else (true, 0, n + 1, nextI x y (n + 1) now)
theorem fired_nil (now : Int) (w : World) : Calls Try.prog 11 #[.pointer none, .int .i64 now] w fun e w' => e = .returned (.tuple #[.bool false, .int .i64 0]) ∧ w = w' := by
  go_enter Try.func11, Try.ntmps11
  go_wp2_with (go_at_call 15; refine (at_nil _).mono ?_; rintro e w' ⟨rfl, rfl⟩)
  go_ret2
  exact ⟨rfl, rfl⟩
def FiredP (x y m n a now : Int) (b : Nat) (w : World) (e : Ending) (w' : World) : Prop :=
  e = .returned (.tuple #[.bool (fire x y m n a now).1, .int .i64 (fire x y m n a now).2.1]) ∧ PT w' b x y m (fire x y m n a now).2.2.1 (fire x y m n a now).2.2.2 ∧ Kept (fun k => k = b) w w'
set_option maxHeartbeats 2000000 in
theorem fired_any {x y m n a : Int} {b : Nat} {w : World} (hB : PT w b x y m n a) (h0 : 0 ≤ n) (h1 : n ≤ 1000000000) (now : Int) :
    Calls Try.prog 11 #[.pointer (some ⟨b, 0, none⟩), .int .i64 now] w (FiredP x y m n a now b w) := by
  unfold FiredP
  have A := at_any hB
  clear hB
  by_cases hr : 0 < a
  · rw [decide_eq_true hr] at A
    have A := Lib.hid A
    by_cases hn : now < a
    · have e : fire x y m n a now = (false, 0, n, a) := by unfold fire; rw [if_pos (Or.inr hn)]
      rw [e]
      clear e
      go_enter Try.func11, Try.ntmps11
      go_wp2_with fail
      refine A.out.mono ?_
      rintro e w1 ⟨rfl, hP, hk⟩
      go_wp2_with fail
      go_ret2
      exact ⟨rfl, hP, wider hk b⟩
    · have hw : IntKind.i64.wrap (n + 1) = n + 1 := by rw [IntKind.wrap_i64]; omega
      have e0 : ¬ (a ≤ 0 ∨ now < a) := by omega
      by_cases hm : 0 < m
      · by_cases hl : m < n + 1
        · have e : fire x y m n a now = (false, 8, n + 1, 0) := by unfold fire; rw [if_neg e0, if_pos ⟨hm, hl⟩]
          rw [e]
          clear e e0
          go_enter Try.func11, Try.ntmps11
          go_wp2_with fail
          refine A.out.mono ?_
          rintro e w1 ⟨rfl, hP, hk⟩
          unfold PT at hP
          have c3 := hP.cell (o := 3) rfl
          have f3 := hP.frozen 3
          have hlt := hP.lt
          go_upto_region 5 with fail
          have hP2 : PT (w1.setCell ⟨b, 3, none⟩ (.int .i64 (n + 1))) b x y m (n + 1) a := hP.set 3 (.int .i64 (n + 1))
          have hk2 : Kept (fun k => k = b) w (w1.setCell ⟨b, 3, none⟩ (.int .i64 (n + 1))) := (wider hk b).set (fun _ => rfl) 3 _
          clear hP c3 f3 hlt hk
          generalize w1.setCell ⟨b, 3, none⟩ (.int .i64 (n + 1)) = w2 at *
          unfold PT at hP2
          have c2 := hP2.cell (o := 2) rfl
          have c3 := hP2.cell (o := 3) rfl
          go_quiet (fail)
          have hP3 := hP2.drewN nq
          have hk3 := hk2.drewN nq
          clear c2 c3 hP2 hk2
          generalize w2.drewN nq = w3 at *
          have c4 := hP3.cell (o := 4) rfl
          have f4 := hP3.frozen 4
          have hlt := hP3.lt
          go_wp2_with fail
          go_ret2
          exact ⟨rfl, hP3.set 4 (.int .i64 0), hk3.set (fun _ => rfl) 4 _⟩
        · have e : fire x y m n a now = (true, 0, n + 1, nextI x y (n + 1) now) := by unfold fire; rw [if_neg e0, if_neg (fun h => hl h.2)]
          rw [e]
          clear e e0
          go_enter Try.func11, Try.ntmps11
          go_wp2_with fail
          refine A.out.mono ?_
          rintro e w1 ⟨rfl, hP, hk⟩
          unfold PT at hP
          have c3 := hP.cell (o := 3) rfl
          have f3 := hP.frozen 3
          have hlt := hP.lt
          go_upto_region 5 with fail
          have hP2 : PT (w1.setCell ⟨b, 3, none⟩ (.int .i64 (n + 1))) b x y m (n + 1) a := hP.set 3 (.int .i64 (n + 1))
          have hk2 : Kept (fun k => k = b) w (w1.setCell ⟨b, 3, none⟩ (.int .i64 (n + 1))) := (wider hk b).set (fun _ => rfl) 3 _
          clear hP c3 f3 hlt hk
          generalize w1.setCell ⟨b, 3, none⟩ (.int .i64 (n + 1)) = w2 at *
          unfold PT at hP2
          have c2 := hP2.cell (o := 2) rfl
          have c3 := hP2.cell (o := 3) rfl
          go_quiet (fail)
          have hP3 : PT (w2.drewN nq) b x y m (n + 1) a := hP2.drewN nq
          have hk3 := hk2.drewN nq
          clear c2 c3 hP2 hk2
          generalize w2.drewN nq = w3 at *
          have W := Lib.hid (wait_any hP3 now)
          clear hP3
          go_wp2_with fail
          refine W.out.mono ?_
          rintro e w4 ⟨rfl, hP4, hk4⟩
          go_wp2_with fail
          go_ret2
          exact ⟨rfl, hP4, hk3.trans hk4⟩
      · have e : fire x y m n a now = (true, 0, n + 1, nextI x y (n + 1) now) := by unfold fire; rw [if_neg e0, if_neg (fun h => hm h.1)]
        have hd : decide (0 < m) = false := decide_eq_false hm
        rw [e]
        clear e e0
        go_enter Try.func11, Try.ntmps11
        go_wp2_with fail
        refine A.out.mono ?_
        rintro e w1 ⟨rfl, hP, hk⟩
        unfold PT at hP
        have c3 := hP.cell (o := 3) rfl
        have f3 := hP.frozen 3
        have hlt := hP.lt
        go_upto_region 5 with fail
        have hP2 : PT (w1.setCell ⟨b, 3, none⟩ (.int .i64 (n + 1))) b x y m (n + 1) a := hP.set 3 (.int .i64 (n + 1))
        have hk2 : Kept (fun k => k = b) w (w1.setCell ⟨b, 3, none⟩ (.int .i64 (n + 1))) := (wider hk b).set (fun _ => rfl) 3 _
        clear hP c3 f3 hlt hk
        generalize w1.setCell ⟨b, 3, none⟩ (.int .i64 (n + 1)) = w2 at *
        unfold PT at hP2
        have c2 := hP2.cell (o := 2) rfl
        have c3 := hP2.cell (o := 3) rfl
        go_quiet (fail)
        have hP3 : PT (w2.drewN nq) b x y m (n + 1) a := hP2.drewN nq
        have hk3 := hk2.drewN nq
        clear c2 c3 hP2 hk2
        generalize w2.drewN nq = w3 at *
        have W := Lib.hid (wait_any hP3 now)
        clear hP3
        go_wp2_with fail
        refine W.out.mono ?_
        rintro e w4 ⟨rfl, hP4, hk4⟩
        go_wp2_with fail
        go_ret2
        exact ⟨rfl, hP4, hk3.trans hk4⟩
  · rw [decide_eq_false hr] at A
    have A := Lib.hid A
    have e : fire x y m n a now = (false, 0, n, a) := by unfold fire; rw [if_pos (Or.inl (by omega))]
    rw [e]
    clear e
    go_enter Try.func11, Try.ntmps11
    go_wp2_with fail
    refine A.out.mono ?_
    rintro e w1 ⟨rfl, hP, hk⟩
    go_wp2_with fail
    go_ret2
    exact ⟨rfl, hP, wider hk b⟩
theorem heard_nil (now : Int) (w : World) : Calls Try.prog 13 #[.pointer none, .int .i64 now] w fun e w' => e = .returned (.tuple #[]) ∧ w = w' := by
  go_enter Try.func13, Try.ntmps13
  go_wp2_with (go_at_call 15; refine (at_nil _).mono ?_; rintro e w' ⟨rfl, rfl⟩)
  go_end0
  exact ⟨rfl, rfl⟩
theorem heard_yes {x y m n a : Int} {b : Nat} {w : World} (hB : PT w b x y m n a) (hr : 0 < a) (now : Int) :
    Calls Try.prog 13 #[.pointer (some ⟨b, 0, none⟩), .int .i64 now] w fun e w' => e = .returned (.tuple #[]) ∧ PT w' b x y m 0 (nextI x y 0 now) ∧ Kept (fun k => k = b) w w' := by
  have A := at_any hB
  clear hB
  rw [decide_eq_true hr] at A
  have A := Lib.hid A
  go_enter Try.func13, Try.ntmps13
  go_wp2_with fail
  refine A.out.mono ?_
  rintro e w1 ⟨rfl, hP, hk⟩
  have W := Lib.hid (start_any hP now)
  clear hP
  go_wp2_with fail
  refine W.out.mono ?_
  rintro e w4 ⟨rfl, hP4, hk4⟩
  go_wp2_with fail
  go_end0
  exact ⟨rfl, hP4, (wider hk b).trans hk4⟩
theorem heard_no {x y m n a : Int} {b : Nat} {w : World} (hB : PT w b x y m n a) (hr : ¬ 0 < a) (now : Int) :
    Calls Try.prog 13 #[.pointer (some ⟨b, 0, none⟩), .int .i64 now] w fun e w' => e = .returned (.tuple #[]) ∧ PT w' b x y m n a ∧ Kept (fun k => k = b) w w' := by
  have A := at_any hB
  clear hB
  rw [decide_eq_false hr] at A
  have A := Lib.hid A
  go_enter Try.func13, Try.ntmps13
  go_wp2_with fail
  refine A.out.mono ?_
  rintro e w1 ⟨rfl, hP, hk⟩
  go_wp2_with fail
  go_end0
  exact ⟨rfl, hP, wider hk b⟩
end Go.Proofs.Ytacfpjnddakehaa.Bo
