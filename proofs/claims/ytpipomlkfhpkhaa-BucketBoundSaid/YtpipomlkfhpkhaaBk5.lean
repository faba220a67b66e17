/- Buckets: when so much is there; new ones. Conditions: each theorem's own. -/
import Derived.Test.YtpipomlkfhpkhaaBk4
set_option linter.unusedVariables false
namespace Go.Proofs.Ytpipomlkfhpkhaa.Bk
open Go.RowKit Hp NumM NumC Num1
attribute [local go_sem ↓] Go.wp_at_zero Go.wp_at_succ
def whenN (r d L now n : Int) : Int := if n < 0 ∨ d < n then 1125899906842624 else if n * 65536 ≤ L then now else if r = 0 then 1125899906842624 else addI now ((n * 65536 - L + r - 1) / r)
theorem whenN_no {r d L now n : Int} (h : n < 0 ∨ d < n) : whenN r d L now n = 1125899906842624 := if_pos h
theorem whenN_now {r d L now n : Int} (h : ¬ (n < 0 ∨ d < n)) (h2 : n * 65536 ≤ L) : whenN r d L now n = now := by unfold whenN; rw [if_neg h, if_pos h2]
theorem whenN_never {r d L now n : Int} (h : ¬ (n < 0 ∨ d < n)) (h2 : ¬ n * 65536 ≤ L) (h3 : r = 0) : whenN r d L now n = 1125899906842624 := by unfold whenN; rw [if_neg h, if_neg h2, if_pos h3]
theorem whenN_then {r d L now n : Int} (h : ¬ (n < 0 ∨ d < n)) (h2 : ¬ n * 65536 ≤ L) (h3 : ¬ r = 0) : whenN r d L now n = addI now ((n * 65536 - L + r - 1) / r) := by unfold whenN; rw [if_neg h, if_neg h2, if_neg h3]
def WhenP (r d L now t n : Int) (b : Nat) (w : World) (e : Ending) (w' : World) : Prop :=
  e = .returned (.int .i64 (whenN r d (levN r d L now t) (timeN now t) n)) ∧ PB w' b r (d * 65536) (levN r d L now t) (timeN now t) ∧ Kept (fun k => k = b) w w'
set_option maxHeartbeats 2000000 in
theorem when_any {r d L now : Int} {b : Nat} {w : World} (h : Ok r d L now) (hB : PB w b r (d * 65536) L now) (t n : Int) :
    Calls Try.prog 11 #[.pointer (some ⟨b, 0, none⟩), .int .i64 t, .int .i64 n] w (WhenP r d L now t n b w) := by
  unfold WhenP
  have ho := h.step t
  have GO := Lib.hid (goOn_ok h hB t)
  generalize levN r d L now t = M at *
  generalize timeN now t = m at *
  have r0 := ho.r0
  have r1 := ho.r1
  have m0 := ho.l0
  have m1 := ho.l1
  have d0 := ho.d0
  have d1 := ho.d1
  have n0 := ho.n0
  have n1 := ho.n1
  clear hB h ho
  by_cases hneg : n < 0
  · rw [whenN_no (Or.inl hneg)]
    go_enter Try.func11, Try.ntmps11
    go_wp2_with fail
    refine GO.out.mono ?_
    rintro e w1 ⟨rfl, hB1, hk1⟩
    go_wp2_with fail
    go_quiet (fail)
    go_wp2_with fail
    go_ret
    exact ⟨rfl, hB1, hk1.drewN nq⟩
  · have hn0 : 0 ≤ n := by omega
    obtain ⟨c, hc⟩ : ∃ c, c = clampI n 0 17179869184 * 65536 := ⟨_, rfl⟩
    have OF := of_any n
    rw [← hc] at OF
    have OF := Lib.hid OF
    have hcc : (n ≤ d → c = n * 65536) ∧ (d < n → d * 65536 < c) := by
      rcases Int.le_total n 17179869184 with h1 | h1
      · rw [hc, ofN hn0 h1]; omega
      · rcases Int.lt_or_eq_of_le h1 with h1 | h1
        · rw [hc, ofN_big h1]; omega
        · rw [hc, ofN hn0 (by omega)]; omega
    clear hc
    by_cases hbig : d < n
    · rw [whenN_no (Or.inr hbig)]
      have hcD := hcc.2 hbig
      clear hcc
      go_enter Try.func11, Try.ntmps11
      go_wp2_with fail
      refine GO.out.mono ?_
      rintro e w1 ⟨rfl, hB1, hk1⟩
      have hBc := hB1
      unfold PB at hBc
      have c1 := hBc.cell (o := 1) rfl
      clear hBc
      go_wp2_with fail
      go_quiet ((go_at_call 22; exact Calls.quiet_of_same ((OF.out _).mono fun _ _ ⟨e1, e2⟩ => ⟨e1, e2.symm⟩)))
      have hB2 : PB (w1.drewN nq) b r (d * 65536) M m := hB1
      have hk2 := hk1.drewN nq
      clear c1 hB1 hk1
      generalize w1.drewN nq = w2 at *
      have hBc := hB2
      unfold PB at hBc
      have c1 := hBc.cell (o := 1) rfl
      clear hBc
      go_wp2_with fail
      go_ret
      exact ⟨rfl, hB2, hk2⟩
    · have hno : ¬ (n < 0 ∨ d < n) := by omega
      have hcn := hcc.1 (by omega)
      have hcD : c ≤ d * 65536 := by omega
      have hc0 : 0 ≤ c := by omega
      clear hcc
      by_cases hle : c ≤ M
      · rw [whenN_now hno (by omega)]
        have SU := subNum_any c M
        have e0 : subI c M = 0 := by
          unfold subI
          rw [hold_in hc0 (by omega), hold_in m0 (by omega)]
          exact hold_zero (by omega)
        rw [e0] at SU
        have SU := Lib.hid SU
        clear e0 hno hcn hbig hneg
        go_enter Try.func11, Try.ntmps11
        go_wp2_with fail
        refine GO.out.mono ?_
        rintro e w1 ⟨rfl, hB1, hk1⟩
        have hBc := hB1
        unfold PB at hBc
        have c1 := hBc.cell (o := 1) rfl
        have c2 := hBc.cell (o := 2) rfl
        have c3 := hBc.cell (o := 3) rfl
        clear hBc
        go_wp2_with fail
        go_quiet ((go_at_call 22; exact Calls.quiet_of_same ((OF.out _).mono fun _ _ ⟨e1, e2⟩ => ⟨e1, e2.symm⟩)))
        have hB2 : PB (w1.drewN nq) b r (d * 65536) M m := hB1
        have hk2 := hk1.drewN nq
        clear c1 c2 c3 hB1 hk1
        generalize w1.drewN nq = w2 at *
        have hBc := hB2
        unfold PB at hBc
        have c1 := hBc.cell (o := 1) rfl
        have c2 := hBc.cell (o := 2) rfl
        have c3 := hBc.cell (o := 3) rfl
        clear hBc
        go_wp2_with fail
        go_quiet (first | (go_at_call 22; exact Calls.quiet_of_same ((OF.out _).mono fun _ _ ⟨e1, e2⟩ => ⟨e1, e2.symm⟩)) | (go_at_call 25; exact Calls.quiet_of_same ((SU.out _).mono fun _ _ ⟨e1, e2⟩ => ⟨e1, e2.symm⟩)))
        have hB3 : PB (w2.drewN nq) b r (d * 65536) M m := hB2
        have hk3 := hk2.drewN nq
        clear c1 c2 c3 hB2 hk2
        generalize w2.drewN nq = w3 at *
        have hBc := hB3
        unfold PB at hBc
        have c1 := hBc.cell (o := 1) rfl
        have c2 := hBc.cell (o := 2) rfl
        have c3 := hBc.cell (o := 3) rfl
        clear hBc
        go_wp2_with fail
        go_ret
        exact ⟨rfl, hB3, hk3⟩
      · obtain ⟨x, hx⟩ : ∃ x, x = c - M := ⟨_, rfl⟩
        have x0 : 0 < x := by omega
        have x1 : x ≤ d * 65536 := by omega
        have SU := subNum_any c M
        have e0 : subI c M = x := by
          unfold subI
          rw [hold_in hc0 (by omega), hold_in m0 (by omega), hold_in (by omega) (by omega)]
          exact hx.symm
        rw [e0] at SU
        have SU := Lib.hid SU
        have hnle : ¬ n * 65536 ≤ M := by omega
        have AD := addNum_any x (r - 1)
        have hw : IntKind.i64.wrap (r - 1) = r - 1 := by rw [IntKind.wrap_i64]; omega
        have x2 : (x == 0) = false := by rw [beq_eq_false_iff_ne]; omega
        by_cases hr : r = 0
        · rw [whenN_never hno hnle hr]
          have DV := divNum_no (addI x (r - 1)) r (by omega)
          generalize addI x (r - 1) = y at *
          have AD := Lib.hid AD
          have DV := Lib.hid DV
          clear e0 hno hcn hbig hneg hx hle hnle hr
          go_enter Try.func11, Try.ntmps11
          go_wp2_with fail
          refine GO.out.mono ?_
          rintro e w1 ⟨rfl, hB1, hk1⟩
          have hBc := hB1
          unfold PB at hBc
          have c0 := hBc.cell (o := 0) rfl
          have c1 := hBc.cell (o := 1) rfl
          have c2 := hBc.cell (o := 2) rfl
          have c3 := hBc.cell (o := 3) rfl
          clear hBc
          go_wp2_with fail
          go_quiet ((go_at_call 22; exact Calls.quiet_of_same ((OF.out _).mono fun _ _ ⟨e1, e2⟩ => ⟨e1, e2.symm⟩)))
          have hB2 : PB (w1.drewN nq) b r (d * 65536) M m := hB1
          have hk2 := hk1.drewN nq
          clear c0 c1 c2 c3 hB1 hk1
          generalize w1.drewN nq = w2 at *
          have hBc := hB2
          unfold PB at hBc
          have c0 := hBc.cell (o := 0) rfl
          have c1 := hBc.cell (o := 1) rfl
          have c2 := hBc.cell (o := 2) rfl
          have c3 := hBc.cell (o := 3) rfl
          clear hBc
          go_wp2_with fail
          go_quiet (first | (go_at_call 22; exact Calls.quiet_of_same ((OF.out _).mono fun _ _ ⟨e1, e2⟩ => ⟨e1, e2.symm⟩)) | (go_at_call 25; exact Calls.quiet_of_same ((SU.out _).mono fun _ _ ⟨e1, e2⟩ => ⟨e1, e2.symm⟩)))
          have hB3 : PB (w2.drewN nq) b r (d * 65536) M m := hB2
          have hk3 := hk2.drewN nq
          clear c0 c1 c2 c3 hB2 hk2
          generalize w2.drewN nq = w3 at *
          have hBc := hB3
          unfold PB at hBc
          have c0 := hBc.cell (o := 0) rfl
          have c1 := hBc.cell (o := 1) rfl
          have c2 := hBc.cell (o := 2) rfl
          have c3 := hBc.cell (o := 3) rfl
          clear hBc
          go_wp2_with fail
          go_quiet (first | (go_at_call 27; exact Calls.quiet_of_same ((AD.out _).mono fun _ _ ⟨e1, e2⟩ => ⟨e1, e2.symm⟩)) | (go_at_call 26; exact Calls.quiet_of_same ((DV.out _).mono fun _ _ ⟨e1, e2⟩ => ⟨e1, e2.symm⟩)))
          have hB4 : PB (w3.drewN nq) b r (d * 65536) M m := hB3
          have hk4 := hk3.drewN nq
          clear c0 c1 c2 c3 hB3 hk3
          generalize w3.drewN nq = w4 at *
          have hBc := hB4
          unfold PB at hBc
          have c0 := hBc.cell (o := 0) rfl
          have c1 := hBc.cell (o := 1) rfl
          have c2 := hBc.cell (o := 2) rfl
          have c3 := hBc.cell (o := 3) rfl
          clear hBc
          go_wp2_with fail
          go_ret
          exact ⟨rfl, hB4, hk4⟩
        · rw [whenN_then hno hnle hr]
          have DV := divNum_yes (addI x (r - 1)) r (by omega)
          have e5 : addI x (r - 1) = x + (r - 1) := by
            unfold addI
            rw [hold_in (v := x) (by omega) (by omega), hold_in (v := r - 1) (by omega) (by omega), hold_in (v := x + (r - 1)) (by omega) (by omega)]
          rw [e5, hold_in (by omega) (by omega)] at DV
          rw [e5] at AD
          have e6 : n * 65536 - M + r - 1 = x + (r - 1) := by omega
          rw [e6]
          generalize x + (r - 1) = y at *
          generalize y / r = z at *
          have AZ := addNum_any m z
          generalize addI m z = u at *
          have AD := Lib.hid AD
          have DV := Lib.hid DV
          have AZ := Lib.hid AZ
          clear e0 e5 e6 hno hcn hbig hneg hx hle hnle hr
          go_enter Try.func11, Try.ntmps11
          go_wp2_with fail
          refine GO.out.mono ?_
          rintro e w1 ⟨rfl, hB1, hk1⟩
          have hBc := hB1
          unfold PB at hBc
          have c0 := hBc.cell (o := 0) rfl
          have c1 := hBc.cell (o := 1) rfl
          have c2 := hBc.cell (o := 2) rfl
          have c3 := hBc.cell (o := 3) rfl
          clear hBc
          go_wp2_with fail
          go_quiet ((go_at_call 22; exact Calls.quiet_of_same ((OF.out _).mono fun _ _ ⟨e1, e2⟩ => ⟨e1, e2.symm⟩)))
          have hB2 : PB (w1.drewN nq) b r (d * 65536) M m := hB1
          have hk2 := hk1.drewN nq
          clear c0 c1 c2 c3 hB1 hk1
          generalize w1.drewN nq = w2 at *
          have hBc := hB2
          unfold PB at hBc
          have c0 := hBc.cell (o := 0) rfl
          have c1 := hBc.cell (o := 1) rfl
          have c2 := hBc.cell (o := 2) rfl
          have c3 := hBc.cell (o := 3) rfl
          clear hBc
          go_wp2_with fail
          go_quiet (first | (go_at_call 22; exact Calls.quiet_of_same ((OF.out _).mono fun _ _ ⟨e1, e2⟩ => ⟨e1, e2.symm⟩)) | (go_at_call 25; exact Calls.quiet_of_same ((SU.out _).mono fun _ _ ⟨e1, e2⟩ => ⟨e1, e2.symm⟩)))
          have hB3 : PB (w2.drewN nq) b r (d * 65536) M m := hB2
          have hk3 := hk2.drewN nq
          clear c0 c1 c2 c3 hB2 hk2
          generalize w2.drewN nq = w3 at *
          have hBc := hB3
          unfold PB at hBc
          have c0 := hBc.cell (o := 0) rfl
          have c1 := hBc.cell (o := 1) rfl
          have c2 := hBc.cell (o := 2) rfl
          have c3 := hBc.cell (o := 3) rfl
          clear hBc
          go_wp2_with fail
          go_quiet (first | (go_at_call 27; exact Calls.quiet_of_same ((AD.out _).mono fun _ _ ⟨e1, e2⟩ => ⟨e1, e2.symm⟩)) | (go_at_call 26; exact Calls.quiet_of_same ((DV.out _).mono fun _ _ ⟨e1, e2⟩ => ⟨e1, e2.symm⟩)))
          have hB4 : PB (w3.drewN nq) b r (d * 65536) M m := hB3
          have hk4 := hk3.drewN nq
          clear c0 c1 c2 c3 hB3 hk3
          generalize w3.drewN nq = w4 at *
          have hBc := hB4
          unfold PB at hBc
          have c0 := hBc.cell (o := 0) rfl
          have c1 := hBc.cell (o := 1) rfl
          have c2 := hBc.cell (o := 2) rfl
          have c3 := hBc.cell (o := 3) rfl
          clear hBc
          go_wp2_with (go_at_call 27; refine (AZ.out _).mono ?_; rintro e w' ⟨rfl, rfl⟩)
          go_ret
          exact ⟨rfl, hB4, hk4⟩
end Go.Proofs.Ytpipomlkfhpkhaa.Bk
