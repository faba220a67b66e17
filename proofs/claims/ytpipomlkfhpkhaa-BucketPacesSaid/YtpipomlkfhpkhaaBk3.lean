/- Buckets: the state behind time's going on, and what is taken. Conditions: each theorem's own. -/
import Derived.Test.YtpipomlkfhpkhaaBk2
set_option linter.unusedVariables false
namespace Go.Proofs.Ytpipomlkfhpkhaa.Bk
open Go.RowKit Hp NumM NumC Num1
attribute [local go_sem ↓] Go.wp_at_zero Go.wp_at_succ
/-- What holds of a bucket's numbers. -/
structure Ok (r d L now : Int) : Prop where
  r0 : 0 ≤ r
  r1 : r ≤ 17179869184
  d0 : 1 ≤ d
  d1 : d ≤ 1073741824
  l0 : 0 ≤ L
  l1 : L ≤ d * 65536
  n0 : 0 ≤ now
  n1 : now ≤ 1125899906842624
def timeN (now t : Int) : Int := max now (min t 1125899906842624)
def levN (r d L now t : Int) : Int := min (d * 65536) (addI L (mulI r (timeN now t - now)))
theorem addI_ge {a b : Int} (h : 0 ≤ a) (h1 : a ≤ 1125899906842624) : a ≤ addI a b := by
  have e := hold_in h h1
  have hb := hold_lo b
  have : addI a b = hold (a + hold b) := by unfold addI; rw [e]
  rw [this]
  rcases Int.le_total (a + hold b) 1125899906842624 with h2 | h2
  · rw [hold_in (by omega) h2]; omega
  · rw [hold_top h2]; omega
theorem Ok.time {r d L now : Int} (h : Ok r d L now) (t : Int) : now ≤ timeN now t ∧ timeN now t ≤ 1125899906842624 := by
  have := h.n1
  unfold timeN
  omega
theorem Ok.step {r d L now : Int} (h : Ok r d L now) (t : Int) : Ok r d (levN r d L now t) (timeN now t) := by
  have h1 := h.time t
  have h2 := h.n0
  have h3 := h.d0
  have h4 := addI_ge (b := mulI r (timeN now t - now)) h.l0 (by have := h.l1; have := h.d1; omega)
  have h5 := h.l0
  refine ⟨h.r0, h.r1, h.d0, h.d1, ?_, ?_, by omega, h1.2⟩
  · unfold levN; omega
  · unfold levN; omega
theorem again {r d L now : Int} (h : Ok r d L now) (t : Int) : timeN (timeN now t) t = timeN now t ∧ levN r d (levN r d L now t) (timeN now t) t = levN r d L now t := by
  have e : timeN (timeN now t) t = timeN now t := by unfold timeN; omega
  refine ⟨e, ?_⟩
  have ho := h.step t
  have e2 : timeN (timeN now t) t - timeN now t = 0 := by omega
  have h1 := ho.l0
  have h2 := ho.l1
  have h3 := ho.d1
  have e3 : mulI r 0 = 0 := by unfold mulI; rw [show hold 0 = 0 from by decide, Int.mul_zero]; decide
  have e4 : addI (levN r d L now t) 0 = levN r d L now t := by
    unfold addI
    rw [show hold 0 = 0 from by decide, Int.add_zero, hold_in h1 (by omega), hold_in h1 (by omega)]
  show min (d * 65536) (addI (levN r d L now t) (mulI r (timeN (timeN now t) t - timeN now t))) = _
  rw [e2, e3, e4]
  omega
theorem goOn_ok {r d L now : Int} {b : Nat} {w : World} (h : Ok r d L now) (hB : PB w b r (d * 65536) L now) (t : Int) :
    Calls Try.prog 23 #[.pointer (some ⟨b, 0, none⟩), .int .i64 t] w fun e w' => e = .returned (.tuple #[]) ∧ PB w' b r (d * 65536) (levN r d L now t) (timeN now t) ∧ Kept (fun k => k = b) w w' := by
  have h1 := h.time t
  have h2 := h.n0
  have h3 := h.n1
  refine goOn_any r (d * 65536) L now t (timeN now t) (levN r d L now t) b w hB ?_ h.n0 h1.1 h1.2 ?_
  · unfold clampI timeN
    split
    · omega
    · split <;> omega
  · unfold levN
    split <;> omega
theorem on_ok {r d L now : Int} {b : Nat} {w : World} (h : Ok r d L now) (hB : RB w b r d L now) (t : Int) :
    Calls Try.prog 24 #[.pointer (some ⟨b, 0, none⟩), .int .i64 t] w fun e w' => e = .returned (.tuple #[]) ∧ RB w' b r d (levN r d L now t) (timeN now t) ∧ Kept (fun k => k = b) w w' := by
  have h1 := h.time t
  refine on_any r d L now t _ (timeN now t) (levN r d L now t) b w hB rfl ?_ h.n0 h1.1 h1.2 h.d0 h.d1 ?_
  · unfold timeN
    split <;> split <;> omega
  · unfold levN
    split <;> omega
def Took (L n : Int) : Prop := 0 ≤ n ∧ n * 65536 ≤ L
instance (L n : Int) : Decidable (Took L n) := by unfold Took; infer_instance
def takeL (L n : Int) : Int := if Took L n then L - n * 65536 else L
theorem Ok.take {r d L now : Int} (h : Ok r d L now) (n : Int) : Ok r d (takeL L n) now := by
  have h1 := h.l0
  have h2 := h.l1
  by_cases e : Took L n
  · have e2 : takeL L n = L - n * 65536 := by unfold takeL; rw [if_pos e]
    obtain ⟨e3, e4⟩ := e
    exact ⟨h.r0, h.r1, h.d0, h.d1, by omega, by omega, h.n0, h.n1⟩
  · have e2 : takeL L n = L := by unfold takeL; rw [if_neg e]
    rw [e2]; exact h
theorem ofN {n : Int} (h : 0 ≤ n) (h1 : n ≤ 17179869184) : clampI n 0 17179869184 * 65536 = n * 65536 := by rw [clampI_in h h1]
theorem ofN_big {n : Int} (h : 17179869184 < n) : clampI n 0 17179869184 * 65536 = 1125899906842624 := by rw [clampI_hi (by omega) h]; rfl
theorem retB {a b : Bool} (h : a = b) : Ending.returned (.bool a) = .returned (.bool b) := by rw [h]
set_option maxHeartbeats 2000000 in
theorem take_any {r d L now : Int} {b : Nat} {w : World} (h : Ok r d L now) (hB : PB w b r (d * 65536) L now) (t n : Int) :
    Calls Try.prog 9 #[.pointer (some ⟨b, 0, none⟩), .int .i64 t, .int .i64 n] w fun e w' =>
      e = .returned (.bool (decide (Took (levN r d L now t) n))) ∧ PB w' b r (d * 65536) (takeL (levN r d L now t) n) (timeN now t) ∧ Kept (fun k => k = b) w w' := by
  have ho := h.step t
  have GO := Lib.hid (goOn_ok h hB t)
  generalize levN r d L now t = M at *
  generalize timeN now t = m at *
  have m0 := ho.l0
  have m1 := ho.l1
  have d1 := ho.d1
  clear hB h
  by_cases hneg : n < 0
  · have e1 : ¬ Took M n := by unfold Took; omega
    have e2 : takeL M n = M := by unfold takeL; rw [if_neg e1]
    have e3 : decide (Took M n) = false := decide_eq_false e1
    rw [e2, e3]
    clear e1 e2 e3 ho
    go_enter Try.func9, Try.ntmps9
    go_wp2_with fail
    refine GO.out.mono ?_
    rintro e w1 ⟨rfl, hB1, hk1⟩
    go_wp2_with fail
    go_quiet (fail)
    go_wp2_with fail
    go_ret
    exact ⟨rfl, hB1, hk1.drewN nq⟩
  · have hn0 : 0 ≤ n := by omega
    obtain ⟨c, hc⟩ : ∃ c, c = clampI n 0 17179869184 * 65536 := ⟨_, rfl⟩
    have OF := of_any n
    rw [← hc] at OF
    have OF := Lib.hid OF
    have hcc : (n * 65536 ≤ M ↔ c ≤ M) ∧ (n * 65536 ≤ M → c = n * 65536) ∧ 0 ≤ c := by
      rcases Int.le_total n 17179869184 with h1 | h1
      · rw [hc, ofN hn0 h1]; omega
      · rcases Int.lt_or_eq_of_le h1 with h1 | h1
        · rw [hc, ofN_big h1]; omega
        · rw [hc, ofN hn0 (by omega)]; omega
    by_cases hle : n * 65536 ≤ M
    · have e1 : Took M n := ⟨hn0, hle⟩
      have e2 : takeL M n = M - n * 65536 := by unfold takeL; rw [if_pos e1]
      have e3 : decide (Took M n) = true := decide_eq_true e1
      rw [e2, e3]
      have hcM : c ≤ M := hcc.1.1 hle
      have hcn := hcc.2.1 hle
      have hc0 := hcc.2.2
      rw [← hcn]
      have hw : IntKind.i64.wrap (M - c) = M - c := by rw [IntKind.wrap_i64]; omega
      clear e1 e2 e3 ho hcc hc hcn hle
      go_enter Try.func9, Try.ntmps9
      go_wp2_with fail
      refine GO.out.mono ?_
      rintro e w1 ⟨rfl, hB1, hk1⟩
      unfold PB at hB1
      have c2 := hB1.cell (o := 2) rfl
      have f2 := hB1.frozen 2
      have hblt := hB1.lt
      go_wp2_with fail
      go_quiet ((go_at_call 22; exact Calls.quiet_of_same ((OF.out _).mono fun _ _ ⟨e1, e2⟩ => ⟨e1, e2.symm⟩)))
      go_wp2_with fail
      go_region_with (first | (go_at_call 22; refine (OF.out _).mono ?_; rintro e w' ⟨rfl, rfl⟩))
      all_goals
        go_wp2_with fail
        go_ret
        exact ⟨rfl, hB1.set 2 (.int .i64 (M - c)), (hk1.drewN _).set (fun _ => rfl) 2 _⟩
    · have e1 : ¬ Took M n := fun e => hle e.2
      have e2 : takeL M n = M := by unfold takeL; rw [if_neg e1]
      have e3 : decide (Took M n) = false := decide_eq_false e1
      rw [e2, e3]
      have hcM : ¬ c ≤ M := fun e => hle (hcc.1.2 e)
      clear e1 e2 e3 ho hcc hc hle
      go_enter Try.func9, Try.ntmps9
      go_wp2_with fail
      refine GO.out.mono ?_
      rintro e w1 ⟨rfl, hB1, hk1⟩
      unfold PB at hB1
      have c2 := hB1.cell (o := 2) rfl
      go_wp2_with fail
      go_quiet ((go_at_call 22; exact Calls.quiet_of_same ((OF.out _).mono fun _ _ ⟨e1, e2⟩ => ⟨e1, e2.symm⟩)))
      go_wp2_with fail
      go_ret
      exact ⟨rfl, hB1, hk1.drewN nq⟩
theorem take_nil (t n : Int) (w : World) : Calls Try.prog 9 #[.pointer none, .int .i64 t, .int .i64 n] w fun e w' => e = .returned (.bool false) ∧ w = w' := by
  go_enter Try.func9, Try.ntmps9
  go_wp2_with fail
  go_ret
  exact ⟨rfl, rfl⟩
end Go.Proofs.Ytpipomlkfhpkhaa.Bk
