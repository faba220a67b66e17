/- BackoffDelays (mizzenlaw4): for every three ints the law returns true and its arguments read as before. Conditions: none. -/
import Derived.Test.YtacfpjnddakehaaRows
import Derived.Test.YtacfpjnddakehaaEnd
import Derived.Test.YtacfpjnddakehaaInts
import Derived.WalkKit
import Derived.ProofKit
import Derived.OpenShut
import Derived.Test.YtacfpjnddakehaaBoAwake
set_option linter.unusedVariables false
namespace Go.Proofs.Ytacfpjnddakehaa.backoffDelays
open Go.ChangeShapes Go.WideShapes Go.ChangeAt Go.RowKit Go.Proofs.Ytacfpjnddakehaa.Hp Go.Proofs.Ytacfpjnddakehaa.End
open Opn NumM NumC Bo BoAwake
theorem own : ownKnob Try.prog.godebug = none := by kernel_rfl
theorem dly_step {x y : Int} (hx : 1 ≤ x) (hy : 1 ≤ y) (n : Nat) : dly x y n ≤ dly x y (n + 1) ∧ dly x y (n + 1) ≤ 2 * dly x y n ∧ (dly x y (n + 1) = 2 * dly x y n ∨ dly x y (n + 1) = y) := by
  have h := mul_ge (x := x) (by omega) n
  have e : x * 2 ^ (n + 1) = 2 * (x * 2 ^ n) := by rw [Int.pow_succ]; grind
  unfold dly
  rw [e]
  omega
theorem delay_step (b c k : Int) (h : 0 ≤ k) (h1 : k ≤ 99) : delayI b c k ≤ delayI b c (k + 1) ∧ delayI b c (k + 1) ≤ 2 * delayI b c k ∧ (delayI b c (k + 1) = 2 * delayI b c k ∨ delayI b c (k + 1) = clampI c 1 1099511627776) := by
  have e1 : clampI k 0 100 = k := clampI_in h (by omega)
  have e2 : clampI (k + 1) 0 100 = k + 1 := clampI_in (by omega) (by omega)
  have e3 : (k + 1).toNat = k.toNat + 1 := by omega
  have hx := (clampI_bd b (low := 1) (high := 1099511627776) (by decide)).1
  have hy := (clampI_bd c (low := 1) (high := 1099511627776) (by decide)).1
  unfold delayI
  rw [e1, e2, e3]
  exact dly_step hx hy k.toNat
set_option maxHeartbeats 2000000 in
theorem walk (b c k : Int) (w : World) (w0 : (Lit.int .i64 b).wf = true) (w1 : (Lit.int .i64 c).wf = true) (w2 : (Lit.int .i64 k).wf = true) :
    Calls Try.prog 4 #[.int .i64 b, .int .i64 c, .int .i64 k] w fun e w' => e = .returned (.bool true) ∧ Old w w' := by
  have HC := Lib.hid (awake_any w)
  have D := Lib.hid fun w => delay_any b c k w
  have R := Lib.hid fun w => delay_ref b c k w
  have C := Lib.hid fun w => clampRef_any c 1 1099511627776 w
  have D1 := Lib.hid fun w => delay_any b c (k + 1) w
  obtain ⟨d0, d1, d2⟩ := delayI_bd b c k
  have hs := delay_step b c k
  obtain ⟨y0, y1⟩ := clampI_bd c (low := 1) (high := 1099511627776) (by decide)
  have hw : IntKind.i64.wrap (2 * delayI b c k) = 2 * delayI b c k := by rw [IntKind.wrap_i64]; omega
  generalize clampI c 1 1099511627776 = y at *
  generalize delayI b c k = d at *
  generalize delayI b c (k + 1) = d' at *
  by_cases h0 : k < 0
  · clear hs D1
    go_enter Try.func4, Try.ntmps4
    go_wp2_with (first
      | (go_at_call 7; refine HC.out.mono ?_; rintro e w' ⟨rfl, ho⟩)
      | (go_at_call 17; with_reducible refine Calls.mono (D.out _) ?_; rintro e w' ⟨rfl, rfl⟩)
      | (go_at_call 18; with_reducible refine Calls.mono (R.out _) ?_; rintro e w' ⟨rfl, rfl⟩)
      | (go_at_call 19; with_reducible refine Calls.mono (C.out _) ?_; rintro e w' ⟨rfl, rfl⟩))
    all_goals
      go_ret
      exact ⟨rfl, ho⟩
  · by_cases h1 : 99 < k
    · clear hs D1
      go_enter Try.func4, Try.ntmps4
      go_wp2_with (first
        | (go_at_call 7; refine HC.out.mono ?_; rintro e w' ⟨rfl, ho⟩)
        | (go_at_call 17; with_reducible refine Calls.mono (D.out _) ?_; rintro e w' ⟨rfl, rfl⟩)
        | (go_at_call 18; with_reducible refine Calls.mono (R.out _) ?_; rintro e w' ⟨rfl, rfl⟩)
        | (go_at_call 19; with_reducible refine Calls.mono (C.out _) ?_; rintro e w' ⟨rfl, rfl⟩))
      all_goals
        go_ret
        exact ⟨rfl, ho⟩
    · obtain ⟨s1, s2, s3⟩ := hs (by omega) (by omega)
      have hw1 : IntKind.i64.wrap (k + 1) = k + 1 := by rw [IntKind.wrap_i64]; omega
      clear hs
      by_cases h3 : d' = 2 * d
      · have e1 : (d' == 2 * d) = true := by rw [beq_iff_eq]; exact h3
        clear h3 s3
        go_enter Try.func4, Try.ntmps4
        go_wp2_with (first
          | (go_at_call 7; refine HC.out.mono ?_; rintro e w' ⟨rfl, ho⟩)
          | (go_at_call 17; first | (with_reducible refine Calls.mono (D.out _) ?_; rintro e w' ⟨rfl, rfl⟩) | (with_reducible refine Calls.mono (D1.out _) ?_; rintro e w' ⟨rfl, rfl⟩))
          | (go_at_call 18; with_reducible refine Calls.mono (R.out _) ?_; rintro e w' ⟨rfl, rfl⟩)
          | (go_at_call 19; with_reducible refine Calls.mono (C.out _) ?_; rintro e w' ⟨rfl, rfl⟩))
        all_goals
          go_ret
          exact ⟨rfl, ho⟩
      · have e1 : (d' == 2 * d) = false := by rw [beq_eq_false_iff_ne]; exact h3
        have e2 : (d' == y) = true := by rw [beq_iff_eq]; exact s3.resolve_left h3
        clear h3 s3
        go_enter Try.func4, Try.ntmps4
        go_wp2_with (first
          | (go_at_call 7; refine HC.out.mono ?_; rintro e w' ⟨rfl, ho⟩)
          | (go_at_call 17; first | (with_reducible refine Calls.mono (D.out _) ?_; rintro e w' ⟨rfl, rfl⟩) | (with_reducible refine Calls.mono (D1.out _) ?_; rintro e w' ⟨rfl, rfl⟩))
          | (go_at_call 18; with_reducible refine Calls.mono (R.out _) ?_; rintro e w' ⟨rfl, rfl⟩)
          | (go_at_call 19; with_reducible refine Calls.mono (C.out _) ?_; rintro e w' ⟨rfl, rfl⟩))
        all_goals
          go_ret
          exact ⟨rfl, ho⟩
set_option maxRecDepth 100000 in
set_option maxHeartbeats 1000000 in
theorem lifted (os : Os) (started : os.Started) (H : Type) (enc : TypeId × Value → H) :
    ReturnsInHanded {} Try.checked os 4 .any (Rows.backoffDelaysSpec.pre6 enc Try.prog Try.f4 Rows.backoffDelaysRow.domain false) (Rows.backoffDelaysSpec.post enc Try.prog Try.f4 false true false false) := by
  refine returnsInHanded_of_change (C := Try.checked) own started (by kernel_rfl) Try.func4
    (ChangeSpec.witness6 (enc := enc) (C := Try.checked) false ⟨#[], #[.int .i64 0, .int .i64 0, .int .i64 0], []⟩ 8 (by kernel_rfl) (by kernel_rfl) (by kernel_rfl) (by kernel_rfl)) ?_
  intro W base args ds gs before hval0 hW hcnd _
  have hval : ∀ (j : Nat) t v, Try.f4.params[j]? = some t → args[j]? = some v → Value.okWide Try.prog W .any base t v := hval0
  have hW' := hW
  obtain ⟨p, q, hA0, hV, rfl, hfz, hnd⟩ := hW
  have hA : DataW.TrodAll enc Try.prog W 0 (fun _ => true) true Try.f4.params.toList args.toList ds p := hA0
  rw [Try.params4] at hA hval
  obtain ⟨v0, vs0, d0, ds0, p0, q0, hargs, rfl, rfl, h0, r0⟩ := trodAll_cons hA
  obtain ⟨v1, vs1, d1, ds1, p1, q1, rfl, rfl, rfl, h1, r1⟩ := trodAll_cons r0
  obtain ⟨v2, vs2, d2, ds2, p2, q2, rfl, rfl, rfl, h2, r2⟩ := trodAll_cons r1
  obtain ⟨rfl, rfl, rfl⟩ := trodAll_nil r2
  obtain rfl : args = #[v0, v1, v2] := by cases args; simp_all
  obtain ⟨rfl, rfl⟩ := trodVars_none hV
  obtain ⟨a0, rfl, rfl, rfl, w0⟩ := open_int Try.underlying3 (hval 0 3 v0 rfl rfl) h0
  obtain ⟨a1, rfl, rfl, rfl, w1⟩ := open_int Try.underlying3 (hval 1 3 v1 rfl rfl) h1
  obtain ⟨a2, rfl, rfl, rfl, w2⟩ := open_int Try.underlying3 (hval 2 3 v2 rfl rfl) h2
  clear hA0 hval0
  simp only [List.append_nil] at hW'
  refine (walk a0 a1 a2 W w0 w1 w2).mono fun e W' ⟨he, hg⟩ => ?_
  subst he
  exact ⟨_, rfl, post_of_old (pa := []) (pv := []) hW' (fun _ _ _ => (trodAll_cons_mk (shut_bool Try.underlying4 _) trodAll_mk0)) (fun sp _ => (trodAll_cons_mk (shut_int Try.underlying3 w0) (trodAll_cons_mk (shut_int Try.underlying3 w1) (trodAll_cons_mk (shut_int Try.underlying3 w2) trodAll_mk0)))) (fun _ _ => rfl)
    hg (ok_one (by kernel_rfl) rfl (okWide_bool_mk Try.underlying4 _))⟩
theorem over : Rows.backoffDelaysRow.holds Try.pinned (OpenSpec.ofChange Rows.backoffDelaysSpec) :=
  OpenClaim.holds_of_wide 4 Try.f4 rfl rfl rfl rfl rfl rfl rfl ⟨rfl, rfl, rfl, rfl, rfl⟩ rfl rfl rfl rfl rfl (by kernel_rfl) Try.func4 (by kernel_rfl)
    (of_decide_eq_true (by kernel_rfl)) (by unfold Func.isWrapper; first | (rw [if_pos (by decide +kernel)]; kernel_rfl) | (rw [if_neg (by decide +kernel)]; exact ⟨rfl, rfl⟩))
    (fun os started H enc _ => lifted os started H enc)
theorem proved : Rows.BackoffDelaysSaid :=
  over
#print axioms proved
end Go.Proofs.Ytacfpjnddakehaa.backoffDelays
