/- Buckets: when so much is there of the reference's; new ones of both. Conditions: each theorem's own. -/
import Derived.Test.YtpipomlkfhpkhaaBk5
set_option linter.unusedVariables false
namespace Go.Proofs.Ytpipomlkfhpkhaa.Bk
open Go.RowKit Hp NumM NumC Num1
attribute [local go_sem ↓] Go.wp_at_zero Go.wp_at_succ
def WhenR (r d L now t n : Int) (b : Nat) (w : World) (e : Ending) (w' : World) : Prop :=
  e = .returned (.int .i64 (whenN r d (levN r d L now t) (timeN now t) n)) ∧ RB w' b r d (levN r d L now t) (timeN now t) ∧ Kept (fun k => k = b) w w'
set_option maxHeartbeats 2000000 in
theorem when_ref {r d L now : Int} {b : Nat} {w : World} (h : Ok r d L now) (hB : RB w b r d L now) (t n : Int) :
    Calls Try.prog 12 #[.pointer (some ⟨b, 0, none⟩), .int .i64 t, .int .i64 n] w (WhenR r d L now t n b w) := by
  unfold WhenR
  have ho := h.step t
  have GO := Lib.hid (on_ok h hB t)
  generalize levN r d L now t = M at *
  generalize timeN now t = m at *
  have r0 := ho.r0
  have r1 := ho.r1
  have m0 := ho.l0
  have m1 := ho.l1
  have d0 := ho.d0
  have d1 := ho.d1
  have n0 := ho.n0
  have n1 := ho.n1
  clear hB h ho
  by_cases hneg : n < 0
  · rw [whenN_no (Or.inl hneg)]
    go_enter Try.func12, Try.ntmps12
    go_wp2_with fail
    refine GO.out.mono ?_
    rintro e w1 ⟨rfl, hB1, hk1⟩
    go_wp2_with fail
    go_ret
    exact ⟨rfl, hB1, hk1⟩
  · by_cases hbig : d < n
    · rw [whenN_no (Or.inr hbig)]
      go_enter Try.func12, Try.ntmps12
      go_wp2_with fail
      refine GO.out.mono ?_
      rintro e w1 ⟨rfl, hB1, hk1⟩
      have hBc := hB1
      unfold RB at hBc
      have c1 := hBc.cell (o := 1) rfl
      clear hBc
      go_wp2_with fail
      go_ret
      exact ⟨rfl, hB1, hk1⟩
    · have hno : ¬ (n < 0 ∨ d < n) := by omega
      by_cases hle : n * 65536 ≤ M
      · rw [whenN_now hno hle]
        clear hno
        go_enter Try.func12, Try.ntmps12
        go_wp2_with fail
        refine GO.out.mono ?_
        rintro e w1 ⟨rfl, hB1, hk1⟩
        have hBc := hB1
        unfold RB at hBc
        have c1 := hBc.cell (o := 1) rfl
        have c2 := hBc.cell (o := 2) rfl
        have c3 := hBc.cell (o := 3) rfl
        clear hBc
        go_wp2_with fail
        go_ret
        exact ⟨rfl, hB1, hk1⟩
      · by_cases hr : r = 0
        · rw [whenN_never hno hle hr]
          clear hno
          have r2 : (r == 0) = true := by rw [beq_iff_eq]; exact hr
          clear hr
          go_enter Try.func12, Try.ntmps12
          go_wp2_with fail
          refine GO.out.mono ?_
          rintro e w1 ⟨rfl, hB1, hk1⟩
          have hBc := hB1
          unfold RB at hBc
          have c0 := hBc.cell (o := 0) rfl
          have c1 := hBc.cell (o := 1) rfl
          have c2 := hBc.cell (o := 2) rfl
          have c3 := hBc.cell (o := 3) rfl
          clear hBc
          go_wp2_with fail
          go_ret
          exact ⟨rfl, hB1, hk1⟩
        · rw [whenN_then hno hle hr]
          clear hno
          have r2 : (r == 0) = false := by rw [beq_eq_false_iff_ne]; exact hr
          have r3 : 1 ≤ r := by omega
          clear hr
          have hx0 : 0 < n * 65536 - M := by omega
          have hx1 : n * 65536 - M ≤ 70368744177664 := by omega
          have w1 : IntKind.i64.wrap (n * 65536 - M + r) = n * 65536 - M + r := by rw [IntKind.wrap_i64]; omega
          have w2 : IntKind.i64.wrap (n * 65536 - M + r - 1) = n * 65536 - M + r - 1 := by rw [IntKind.wrap_i64]; omega
          have AZ := addRef_any m ((n * 65536 - M + r - 1) / r)
          have AZ := Lib.hid AZ
          go_enter Try.func12, Try.ntmps12
          go_wp2_with fail
          refine GO.out.mono ?_
          rintro e w1 ⟨rfl, hB1, hk1⟩
          have hBc := hB1
          unfold RB at hBc
          have c0 := hBc.cell (o := 0) rfl
          have c1 := hBc.cell (o := 1) rfl
          have c2 := hBc.cell (o := 2) rfl
          have c3 := hBc.cell (o := 3) rfl
          clear hBc
          go_wp2_with fail
          go_quiet ((go_at_call 28; exact Calls.quiet_of_same ((AZ.out _).mono fun _ _ ⟨e1, e2⟩ => ⟨e1, e2.symm⟩)))
          go_wp2_with fail
          go_ret
          exact ⟨rfl, hB1, hk1.drewN _⟩
def Fits (r d : Int) : Prop := 0 ≤ r ∧ r ≤ 17179869184 ∧ 1 ≤ d ∧ d ≤ 1073741824
theorem Fits.ok {r d : Int} (h : Fits r d) : Ok r d (d * 65536) 0 := ⟨h.1, h.2.1, h.2.2.1, h.2.2.2, by have := h.2.2.1; omega, by omega, by omega, by omega⟩
theorem new_yes {r d : Int} (h : Fits r d) (w : World) : Calls Try.prog 7 #[.int .i64 r, .int .i64 d] w fun e w' =>
    ∃ b, e = .returned (.tuple #[.pointer (some ⟨b, 0, none⟩), .int .i64 0]) ∧ PB w' b r (d * 65536) (d * 65536) 0 ∧ Kept (fun _ => False) w w' ∧ w.heap.size ≤ b := by
  obtain ⟨h1, h2, h3, h4⟩ := h
  have OF := of_any d
  rw [ofN (by omega) (by omega)] at OF
  have OF := Lib.hid OF
  go_enter Try.func7, Try.ntmps7
  go_wp2_with (go_at_call 22; refine (OF.out _).mono ?_; rintro e w' ⟨rfl, rfl⟩)
  go_ret2
  exact ⟨_, rfl, Blk.new w [.int .i64 r, .int .i64 (d * 65536), .int .i64 (d * 65536), .int .i64 0] 53, (Kept.refl _ w).alloc _, Nat.le_refl _⟩
theorem new_ref {r d : Int} (h : Fits r d) (w : World) : Calls Try.prog 8 #[.int .i64 r, .int .i64 d] w fun e w' =>
    ∃ b, e = .returned (.tuple #[.pointer (some ⟨b, 0, none⟩), .int .i64 0]) ∧ RB w' b r d (d * 65536) 0 ∧ Kept (fun _ => False) w w' ∧ w.heap.size ≤ b := by
  obtain ⟨h1, h2, h3, h4⟩ := h
  go_enter Try.func8, Try.ntmps8
  go_wp2_with fail
  go_ret2
  exact ⟨_, rfl, Blk.new w [.int .i64 r, .int .i64 d, .int .i64 0, .int .i64 (d * 65536)] 55, (Kept.refl _ w).alloc _, Nat.le_refl _⟩
theorem parts {r d : Int} (h : ¬ Fits r d) : r < 0 ∨ (¬ r < 0 ∧ 17179869184 < r) ∨ (¬ r < 0 ∧ ¬ 17179869184 < r ∧ d < 1) ∨ (¬ r < 0 ∧ ¬ 17179869184 < r ∧ ¬ d < 1 ∧ 1073741824 < d) := by
  unfold Fits at h
  omega
theorem new_no {r d : Int} (h : ¬ Fits r d) (w : World) : Calls Try.prog 7 #[.int .i64 r, .int .i64 d] w fun e w' => e = .returned (.tuple #[.pointer none, .int .i64 1]) ∧ w = w' := by
  rcases parts h with h | ⟨h1, h⟩ | ⟨h1, h2, h⟩ | ⟨h1, h2, h3, h⟩
  all_goals
    go_enter Try.func7, Try.ntmps7
    go_wp2_with fail
    go_ret2
    exact ⟨rfl, rfl⟩
theorem new_ref_no {r d : Int} (h : ¬ Fits r d) (w : World) : Calls Try.prog 8 #[.int .i64 r, .int .i64 d] w fun e w' => e = .returned (.tuple #[.pointer none, .int .i64 1]) ∧ w = w' := by
  rcases parts h with h | ⟨h1, h⟩ | ⟨h1, h2, h⟩ | ⟨h1, h2, h3, h⟩
  all_goals
    go_enter Try.func8, Try.ntmps8
    go_wp2_with fail
    go_ret2
    exact ⟨rfl, rfl⟩
end Go.Proofs.Ytpipomlkfhpkhaa.Bk
