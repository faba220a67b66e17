/- Buckets: what is there, what is taken of the reference's, when more is there, another rate. Conditions: each theorem's own. -/
import Derived.Test.YtpipomlkfhpkhaaBk3
set_option linter.unusedVariables false
namespace Go.Proofs.Ytpipomlkfhpkhaa.Bk
open Go.RowKit Hp NumM NumC Num1
attribute [local go_sem ↓] Go.wp_at_zero Go.wp_at_succ
theorem has_any {r d L now : Int} {b : Nat} {w : World} (h : Ok r d L now) (hB : PB w b r (d * 65536) L now) (t : Int) :
    Calls Try.prog 15 #[.pointer (some ⟨b, 0, none⟩), .int .i64 t] w fun e w' =>
      e = .returned (.int .i64 (levN r d L now t / 65536)) ∧ PB w' b r (d * 65536) (levN r d L now t) (timeN now t) ∧ Kept (fun k => k = b) w w' := by
  have ho := h.step t
  have GO := Lib.hid (goOn_ok h hB t)
  generalize levN r d L now t = M at *
  generalize timeN now t = m at *
  have IN := int_any M
  rw [hold_in ho.l0 (by have := ho.l1; have := ho.d1; omega)] at IN
  have IN := Lib.hid IN
  clear hB h ho
  go_enter Try.func15, Try.ntmps15
  go_wp2_with fail
  refine GO.out.mono ?_
  rintro e w1 ⟨rfl, hB1, hk1⟩
  have hB2 := hB1
  unfold PB at hB2
  have c2 := hB2.cell (o := 2) rfl
  clear hB2
  go_wp2_with (go_at_call 31; refine (IN.out _).mono ?_; rintro e w' ⟨rfl, rfl⟩)
  go_ret
  exact ⟨rfl, hB1, hk1⟩
theorem has_ref {r d L now : Int} {b : Nat} {w : World} (h : Ok r d L now) (hB : RB w b r d L now) (t : Int) :
    Calls Try.prog 16 #[.pointer (some ⟨b, 0, none⟩), .int .i64 t] w fun e w' =>
      e = .returned (.int .i64 (levN r d L now t / 65536)) ∧ RB w' b r d (levN r d L now t) (timeN now t) ∧ Kept (fun k => k = b) w w' := by
  have ho := h.step t
  have GO := Lib.hid (on_ok h hB t)
  generalize levN r d L now t = M at *
  generalize timeN now t = m at *
  have m0 := ho.l0
  have m1 := ho.l1
  have d1 := ho.d1
  clear hB h ho
  go_enter Try.func16, Try.ntmps16
  go_wp2_with fail
  refine GO.out.mono ?_
  rintro e w1 ⟨rfl, hB1, hk1⟩
  have hB2 := hB1
  unfold RB at hB2
  have c3 := hB2.cell (o := 3) rfl
  clear hB2
  go_wp2_with fail
  go_ret
  exact ⟨rfl, hB1, hk1⟩
theorem take_ref {r d L now : Int} {b : Nat} {w : World} (h : Ok r d L now) (hB : RB w b r d L now) (t n : Int) :
    Calls Try.prog 10 #[.pointer (some ⟨b, 0, none⟩), .int .i64 t, .int .i64 n] w fun e w' =>
      e = .returned (.bool (decide (Took (levN r d L now t) n))) ∧ RB w' b r d (takeL (levN r d L now t) n) (timeN now t) ∧ Kept (fun k => k = b) w w' := by
  have ho := h.step t
  have AG := again h t
  have GO := Lib.hid (on_ok h hB t)
  have HA := Lib.hid (has_ref h hB t)
  have G2 : Hid (∀ w', RB w' b r d (levN r d L now t) (timeN now t) → Calls Try.prog 24 #[.pointer (some ⟨b, 0, none⟩), .int .i64 t] w' fun e w'' => e = .returned (.tuple #[]) ∧ RB w'' b r d (levN r d L now t) (timeN now t) ∧ Kept (fun k => k = b) w' w'') := fun w' hw' => by
    have := on_ok ho hw' t
    rw [AG.1, AG.2] at this
    exact this
  clear AG hB h
  generalize levN r d L now t = M at *
  generalize timeN now t = m at *
  have m0 := ho.l0
  have m1 := ho.l1
  have d1 := ho.d1
  clear ho
  by_cases hneg : n < 0
  · have e1 : ¬ Took M n := by unfold Took; omega
    have e2 : takeL M n = M := by unfold takeL; rw [if_neg e1]
    have e3 : decide (Took M n) = false := decide_eq_false e1
    rw [e2, e3]
    clear e1 e2 e3
    go_enter Try.func10, Try.ntmps10
    go_wp2_with fail
    refine GO.out.mono ?_
    rintro e w1 ⟨rfl, hB1, hk1⟩
    go_wp2_with fail
    go_ret
    exact ⟨rfl, hB1, hk1⟩
  · by_cases hle : n * 65536 ≤ M
    · have e1 : Took M n := ⟨by omega, hle⟩
      have e2 : takeL M n = M - n * 65536 := by unfold takeL; rw [if_pos e1]
      have e3 : decide (Took M n) = true := decide_eq_true e1
      rw [e2, e3]
      have hq : n ≤ M / 65536 := by omega
      clear e1 e2 e3
      go_enter Try.func10, Try.ntmps10
      go_wp2_with fail
      refine HA.out.mono ?_
      rintro e w1 ⟨rfl, hB1, hk1⟩
      unfold RB at hB1
      have c3 := hB1.cell (o := 3) rfl
      have f3 := hB1.frozen 3
      have hblt := hB1.lt
      go_wp2_with fail
      go_ret
      exact ⟨rfl, hB1.set 3 (.int .i64 (M - n * 65536)), hk1.set (fun _ => rfl) 3 _⟩
    · have e1 : ¬ Took M n := fun e => hle e.2
      have e2 : takeL M n = M := by unfold takeL; rw [if_neg e1]
      have e3 : decide (Took M n) = false := decide_eq_false e1
      rw [e2, e3]
      have hq : M / 65536 < n := by omega
      clear e1 e2 e3
      go_enter Try.func10, Try.ntmps10
      go_wp2_with fail
      refine HA.out.mono ?_
      rintro e w1 ⟨rfl, hB1, hk1⟩
      go_wp2_with fail
      refine (G2.out _ hB1).mono ?_
      rintro e w2 ⟨rfl, hB2, hk2⟩
      go_wp2_with fail
      go_ret
      exact ⟨rfl, hB2, hk1.trans hk2⟩
def rateN (n : Int) : Int := clampI n 0 17179869184
theorem Ok.rate {r d L now : Int} (h : Ok r d L now) (n : Int) : Ok (rateN n) d L now := by
  have := clampI_bd n (low := 0) (high := 17179869184) (by decide)
  exact ⟨this.1, this.2, h.d0, h.d1, h.l0, h.l1, h.n0, h.n1⟩
theorem setRate_any {r d L now : Int} {b : Nat} {w : World} (h : Ok r d L now) (hB : PB w b r (d * 65536) L now) (t n : Int) :
    Calls Try.prog 13 #[.pointer (some ⟨b, 0, none⟩), .int .i64 t, .int .i64 n] w fun e w' =>
      e = .returned (.tuple #[]) ∧ PB w' b (rateN n) (d * 65536) (levN r d L now t) (timeN now t) ∧ Kept (fun k => k = b) w w' := by
  have GO := Lib.hid (goOn_ok h hB t)
  generalize levN r d L now t = M at *
  generalize timeN now t = m at *
  have CL := clampFix_any n 0 17179869184
  change ∀ w, Calls _ _ _ w fun e w' => e = .returned (.int .i64 (rateN n)) ∧ w = w' at CL
  have CL := Lib.hid CL
  generalize rateN n = q at *
  clear hB h
  go_enter Try.func13, Try.ntmps13
  go_wp2_with fail
  refine GO.out.mono ?_
  rintro e w1 ⟨rfl, hB1, hk1⟩
  unfold PB at hB1
  have c0 := hB1.cell (o := 0) rfl
  have f0 := hB1.frozen 0
  have hblt := hB1.lt
  go_wp2_with (go_at_call 29; refine (CL.out _).mono ?_; rintro e w' ⟨rfl, rfl⟩)
  go_end0
  exact ⟨rfl, hB1.set 0 (.int .i64 q), hk1.set (fun _ => rfl) 0 _⟩
theorem setRate_ref {r d L now : Int} {b : Nat} {w : World} (h : Ok r d L now) (hB : RB w b r d L now) (t n : Int) :
    Calls Try.prog 14 #[.pointer (some ⟨b, 0, none⟩), .int .i64 t, .int .i64 n] w fun e w' =>
      e = .returned (.tuple #[]) ∧ RB w' b (rateN n) d (levN r d L now t) (timeN now t) ∧ Kept (fun k => k = b) w w' := by
  have GO := Lib.hid (on_ok h hB t)
  generalize levN r d L now t = M at *
  generalize timeN now t = m at *
  have CL := clampRef_any n 0 17179869184
  change ∀ w, Calls _ _ _ w fun e w' => e = .returned (.int .i64 (rateN n)) ∧ w = w' at CL
  have CL := Lib.hid CL
  generalize rateN n = q at *
  clear hB h
  go_enter Try.func14, Try.ntmps14
  go_wp2_with fail
  refine GO.out.mono ?_
  rintro e w1 ⟨rfl, hB1, hk1⟩
  unfold RB at hB1
  have c0 := hB1.cell (o := 0) rfl
  have f0 := hB1.frozen 0
  have hblt := hB1.lt
  go_wp2_with (go_at_call 30; refine (CL.out _).mono ?_; rintro e w' ⟨rfl, rfl⟩)
  go_end0
  exact ⟨rfl, hB1.set 0 (.int .i64 q), hk1.set (fun _ => rfl) 0 _⟩
theorem has_nil (t : Int) (w : World) : Calls Try.prog 15 #[.pointer none, .int .i64 t] w fun e w' => e = .returned (.int .i64 0) ∧ w = w' := by
  go_enter Try.func15, Try.ntmps15
  go_wp2_with fail
  go_ret
  exact ⟨rfl, rfl⟩
theorem when_nil (t n : Int) (w : World) : Calls Try.prog 11 #[.pointer none, .int .i64 t, .int .i64 n] w fun e w' => e = .returned (.int .i64 1125899906842624) ∧ w = w' := by
  go_enter Try.func11, Try.ntmps11
  go_wp2_with fail
  go_ret
  exact ⟨rfl, rfl⟩
end Go.Proofs.Ytpipomlkfhpkhaa.Bk
