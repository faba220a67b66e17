/- NumLaws (mizzenlaw1): for every three ints the law returns true and its arguments read as before. Conditions: none. -/
import Derived.Test.YtpfnhbpbblddkaaRows
import Derived.WalkKit
import Derived.ProofKit
import Derived.OpenShut
import Derived.Test.YtpfnhbpbblddkaaNumCalls
import Derived.WalkLawsBesides
namespace Go.Proofs.Ytpfnhbpbblddkaa.numLaws
open Go.Proofs.Ytpfnhbpbblddkaa.NumM Go.Proofs.Ytpfnhbpbblddkaa.NumC
open Go.ChangeShapes Go.WideShapes Go.ChangeAt Go.RowKit
set_option linter.unusedVariables false      -- a walk need not use every 'w<i>' (that an integer argument fits its kind)

theorem own : ownKnob Try.prog.godebug = none := by kernel_rfl

/-! ### STEP 1: THE WALK: the Go text returns true. 'Grown w w'': the world has at most new blocks (Derived/RowKit3.lean). Part the cases AHEAD of 'go_enter' where a test parts the walk; take each callee by a contract of your own. -/
set_option maxHeartbeats 4000000 in
theorem way0 (a0 a1 a2 p q r t n s u v g o x z : Int) (w : World) (p0 : 0 ≤ p) (p1 : p ≤ 1048576) (q0 : 1 ≤ q) (q1 : q ≤ 1048576) (n0 : 0 ≤ n) (n1 : n ≤ p) (m0 : 0 ≤ p * q) (m1 : p * q ≤ 1099511627776) (zo : z ≤ o) (hn : (n == p) = true)
    (k1 : ∀ w, Calls Try.prog 16 #[.int .i64 a0, .int .i64 0, .int .i64 1048576] w fun e w' => e = .returned (.int .i64 (p)) ∧ w = w')
    (k2 : ∀ w, Calls Try.prog 16 #[.int .i64 a1, .int .i64 1, .int .i64 1048576] w fun e w' => e = .returned (.int .i64 (q)) ∧ w = w')
    (k3 : ∀ w, Calls Try.prog 16 #[.int .i64 a2, .int .i64 0, .int .i64 1048576] w fun e w' => e = .returned (.int .i64 (r)) ∧ w = w')
    (k4 : ∀ w, Calls Try.prog 13 #[.int .i64 p, .int .i64 q] w fun e w' => e = .returned (.int .i64 (p * q)) ∧ w = w')
    (k5 : ∀ w, Calls Try.prog 7 #[.int .i64 (p * q), .int .i64 q] w fun e w' => e = .returned (.tuple #[.int .i64 (p), .int .i64 (0)]) ∧ w = w')
    (k6 : ∀ w, Calls Try.prog 20 #[.int .i64 p, .int .i64 q] w fun e w' => e = .returned (.tuple #[.int .i64 (t), .int .i64 (0)]) ∧ w = w')
    (k7 : ∀ w, Calls Try.prog 24 #[.int .i64 t, .int .i64 q] w fun e w' => e = .returned (.int .i64 (n)) ∧ w = w')
    (k8 : ∀ w, Calls Try.prog 9 #[.int .i64 p, .int .i64 q] w fun e w' => e = .returned (.int .i64 (s)) ∧ w = w')
    (k9 : ∀ w, Calls Try.prog 9 #[.int .i64 s, .int .i64 r] w fun e w' => e = .returned (.int .i64 (u)) ∧ w = w')
    (k10 : ∀ w, Calls Try.prog 9 #[.int .i64 q, .int .i64 r] w fun e w' => e = .returned (.int .i64 (v)) ∧ w = w')
    (k11 : ∀ w, Calls Try.prog 9 #[.int .i64 p, .int .i64 v] w fun e w' => e = .returned (.int .i64 (u)) ∧ w = w')
    (k12 : ∀ w, Calls Try.prog 9 #[.int .i64 p, .int .i64 r] w fun e w' => e = .returned (.int .i64 (g)) ∧ w = w')
    (k13 : ∀ w, Calls Try.prog 11 #[.int .i64 g, .int .i64 r] w fun e w' => e = .returned (.int .i64 (p)) ∧ w = w')
    (k14 : ∀ w, Calls Try.prog 22 #[.int .i64 p] w fun e w' => e = .returned (.int .i64 (o)) ∧ w = w')
    (k15 : ∀ w, Calls Try.prog 30 #[.int .i64 o] w fun e w' => e = .returned (.int .i64 (p)) ∧ w = w')
    (k16 : ∀ w, Calls Try.prog 22 #[.int .i64 q] w fun e w' => e = .returned (.int .i64 (x)) ∧ w = w')
    (k17 : ∀ w, Calls Try.prog 28 #[.int .i64 x, .int .i64 t] w fun e w' => e = .returned (.int .i64 (z)) ∧ w = w') :
    Calls Try.prog 6 #[.int .i64 a0, .int .i64 a1, .int .i64 a2] w fun e w' => e = .returned (.bool true) ∧ Grown w w' := by
  have hg := Grown.refl w
  go_enter Try.func6, Try.ntmps6
  go_wp2_with (first | (go_at_call 16; ((with_reducible refine Calls.mono (k1 _) ?_); rintro e w1 ⟨rfl, rfl⟩)) | (go_at_call 16; ((with_reducible refine Calls.mono (k2 _) ?_); rintro e w1 ⟨rfl, rfl⟩)) | (go_at_call 16; ((with_reducible refine Calls.mono (k3 _) ?_); rintro e w1 ⟨rfl, rfl⟩)) | (go_at_call 13; ((with_reducible refine Calls.mono (k4 _) ?_); rintro e w1 ⟨rfl, rfl⟩)) | (go_at_call 7; ((with_reducible refine Calls.mono (k5 _) ?_); rintro e w1 ⟨rfl, rfl⟩)) | (go_at_call 20; ((with_reducible refine Calls.mono (k6 _) ?_); rintro e w1 ⟨rfl, rfl⟩)) | (go_at_call 24; ((with_reducible refine Calls.mono (k7 _) ?_); rintro e w1 ⟨rfl, rfl⟩)) | (go_at_call 9; ((with_reducible refine Calls.mono (k8 _) ?_); rintro e w1 ⟨rfl, rfl⟩)) | (go_at_call 9; ((with_reducible refine Calls.mono (k9 _) ?_); rintro e w1 ⟨rfl, rfl⟩)) | (go_at_call 9; ((with_reducible refine Calls.mono (k10 _) ?_); rintro e w1 ⟨rfl, rfl⟩)) | (go_at_call 9; ((with_reducible refine Calls.mono (k11 _) ?_); rintro e w1 ⟨rfl, rfl⟩)) | (go_at_call 9; ((with_reducible refine Calls.mono (k12 _) ?_); rintro e w1 ⟨rfl, rfl⟩)) | (go_at_call 11; ((with_reducible refine Calls.mono (k13 _) ?_); rintro e w1 ⟨rfl, rfl⟩)) | (go_at_call 22; ((with_reducible refine Calls.mono (k14 _) ?_); rintro e w1 ⟨rfl, rfl⟩)) | (go_at_call 30; ((with_reducible refine Calls.mono (k15 _) ?_); rintro e w1 ⟨rfl, rfl⟩)) | (go_at_call 22; ((with_reducible refine Calls.mono (k16 _) ?_); rintro e w1 ⟨rfl, rfl⟩)) | (go_at_call 28; ((with_reducible refine Calls.mono (k17 _) ?_); rintro e w1 ⟨rfl, rfl⟩)) | (go_at_call 19; ((with_reducible refine Calls.mono (awake_g w _ (by assumption)) ?_); rintro e w1 ⟨rfl, hg⟩)))
  all_goals
    go_ret
    exact ⟨rfl, by assumption⟩
set_option maxHeartbeats 4000000 in
theorem way1 (a0 a1 a2 p q r t n s u v g o x z : Int) (w : World) (p0 : 0 ≤ p) (p1 : p ≤ 1048576) (q0 : 1 ≤ q) (q1 : q ≤ 1048576) (n0 : 0 ≤ n) (n1 : n ≤ p) (m0 : 0 ≤ p * q) (m1 : p * q ≤ 1099511627776) (zo : z ≤ o) (hn : (n == p) = false) (hn2 : p - n ≤ q / 65536 + 1)
    (k1 : ∀ w, Calls Try.prog 16 #[.int .i64 a0, .int .i64 0, .int .i64 1048576] w fun e w' => e = .returned (.int .i64 (p)) ∧ w = w')
    (k2 : ∀ w, Calls Try.prog 16 #[.int .i64 a1, .int .i64 1, .int .i64 1048576] w fun e w' => e = .returned (.int .i64 (q)) ∧ w = w')
    (k3 : ∀ w, Calls Try.prog 16 #[.int .i64 a2, .int .i64 0, .int .i64 1048576] w fun e w' => e = .returned (.int .i64 (r)) ∧ w = w')
    (k4 : ∀ w, Calls Try.prog 13 #[.int .i64 p, .int .i64 q] w fun e w' => e = .returned (.int .i64 (p * q)) ∧ w = w')
    (k5 : ∀ w, Calls Try.prog 7 #[.int .i64 (p * q), .int .i64 q] w fun e w' => e = .returned (.tuple #[.int .i64 (p), .int .i64 (0)]) ∧ w = w')
    (k6 : ∀ w, Calls Try.prog 20 #[.int .i64 p, .int .i64 q] w fun e w' => e = .returned (.tuple #[.int .i64 (t), .int .i64 (0)]) ∧ w = w')
    (k7 : ∀ w, Calls Try.prog 24 #[.int .i64 t, .int .i64 q] w fun e w' => e = .returned (.int .i64 (n)) ∧ w = w')
    (k8 : ∀ w, Calls Try.prog 9 #[.int .i64 p, .int .i64 q] w fun e w' => e = .returned (.int .i64 (s)) ∧ w = w')
    (k9 : ∀ w, Calls Try.prog 9 #[.int .i64 s, .int .i64 r] w fun e w' => e = .returned (.int .i64 (u)) ∧ w = w')
    (k10 : ∀ w, Calls Try.prog 9 #[.int .i64 q, .int .i64 r] w fun e w' => e = .returned (.int .i64 (v)) ∧ w = w')
    (k11 : ∀ w, Calls Try.prog 9 #[.int .i64 p, .int .i64 v] w fun e w' => e = .returned (.int .i64 (u)) ∧ w = w')
    (k12 : ∀ w, Calls Try.prog 9 #[.int .i64 p, .int .i64 r] w fun e w' => e = .returned (.int .i64 (g)) ∧ w = w')
    (k13 : ∀ w, Calls Try.prog 11 #[.int .i64 g, .int .i64 r] w fun e w' => e = .returned (.int .i64 (p)) ∧ w = w')
    (k14 : ∀ w, Calls Try.prog 22 #[.int .i64 p] w fun e w' => e = .returned (.int .i64 (o)) ∧ w = w')
    (k15 : ∀ w, Calls Try.prog 30 #[.int .i64 o] w fun e w' => e = .returned (.int .i64 (p)) ∧ w = w')
    (k16 : ∀ w, Calls Try.prog 22 #[.int .i64 q] w fun e w' => e = .returned (.int .i64 (x)) ∧ w = w')
    (k17 : ∀ w, Calls Try.prog 28 #[.int .i64 x, .int .i64 t] w fun e w' => e = .returned (.int .i64 (z)) ∧ w = w') :
    Calls Try.prog 6 #[.int .i64 a0, .int .i64 a1, .int .i64 a2] w fun e w' => e = .returned (.bool true) ∧ Grown w w' := by
  have hg := Grown.refl w
  go_enter Try.func6, Try.ntmps6
  go_wp2_with (first | (go_at_call 16; ((with_reducible refine Calls.mono (k1 _) ?_); rintro e w1 ⟨rfl, rfl⟩)) | (go_at_call 16; ((with_reducible refine Calls.mono (k2 _) ?_); rintro e w1 ⟨rfl, rfl⟩)) | (go_at_call 16; ((with_reducible refine Calls.mono (k3 _) ?_); rintro e w1 ⟨rfl, rfl⟩)) | (go_at_call 13; ((with_reducible refine Calls.mono (k4 _) ?_); rintro e w1 ⟨rfl, rfl⟩)) | (go_at_call 7; ((with_reducible refine Calls.mono (k5 _) ?_); rintro e w1 ⟨rfl, rfl⟩)) | (go_at_call 20; ((with_reducible refine Calls.mono (k6 _) ?_); rintro e w1 ⟨rfl, rfl⟩)) | (go_at_call 24; ((with_reducible refine Calls.mono (k7 _) ?_); rintro e w1 ⟨rfl, rfl⟩)) | (go_at_call 9; ((with_reducible refine Calls.mono (k8 _) ?_); rintro e w1 ⟨rfl, rfl⟩)) | (go_at_call 9; ((with_reducible refine Calls.mono (k9 _) ?_); rintro e w1 ⟨rfl, rfl⟩)) | (go_at_call 9; ((with_reducible refine Calls.mono (k10 _) ?_); rintro e w1 ⟨rfl, rfl⟩)) | (go_at_call 9; ((with_reducible refine Calls.mono (k11 _) ?_); rintro e w1 ⟨rfl, rfl⟩)) | (go_at_call 9; ((with_reducible refine Calls.mono (k12 _) ?_); rintro e w1 ⟨rfl, rfl⟩)) | (go_at_call 11; ((with_reducible refine Calls.mono (k13 _) ?_); rintro e w1 ⟨rfl, rfl⟩)) | (go_at_call 22; ((with_reducible refine Calls.mono (k14 _) ?_); rintro e w1 ⟨rfl, rfl⟩)) | (go_at_call 30; ((with_reducible refine Calls.mono (k15 _) ?_); rintro e w1 ⟨rfl, rfl⟩)) | (go_at_call 22; ((with_reducible refine Calls.mono (k16 _) ?_); rintro e w1 ⟨rfl, rfl⟩)) | (go_at_call 28; ((with_reducible refine Calls.mono (k17 _) ?_); rintro e w1 ⟨rfl, rfl⟩)) | (go_at_call 19; ((with_reducible refine Calls.mono (awake_g w _ (by assumption)) ?_); rintro e w1 ⟨rfl, hg⟩)))
  all_goals
    go_ret
    exact ⟨rfl, by assumption⟩
theorem cast1 {f : Nat} {args : Array Value} {v v' : Value} (h : v = v') (k : ∀ w, Calls Try.prog f args w fun e w' => e = .returned v ∧ w = w') : ∀ w, Calls Try.prog f args w fun e w' => e = .returned v' ∧ w = w' := h ▸ k
theorem ci {a b : Int} (h : a = b) : Value.int .i64 a = .int .i64 b := by rw [h]
theorem cu {a b c : Int} (h : a = b) : Value.tuple #[.int .i64 a, .int .i64 c] = .tuple #[.int .i64 b, .int .i64 c] := by rw [h]
theorem walk (a0 : Int) (a1 : Int) (a2 : Int) (w0 : (Lit.int .i64 a0).wf = true) (w1 : (Lit.int .i64 a1).wf = true) (w2 : (Lit.int .i64 a2).wf = true) (w : World) :
    Calls Try.prog 6 #[.int .i64 a0, .int .i64 a1, .int .i64 a2] w fun e w' => e = .returned (.bool true) ∧ Grown w w' := by
  have ⟨p0, p1⟩ := clampI_bd a0 (low := 0) (high := 1048576) (by decide)
  have ⟨q0, q1⟩ := clampI_bd a1 (low := 1) (high := 1048576) (by decide)
  have ⟨r0, r1⟩ := clampI_bd a2 (low := 0) (high := 1048576) (by decide)
  have k1 := fun w => clampRef_any a0 0 1048576 w
  have k2 := fun w => clampRef_any a1 1 1048576 w
  have k3 := fun w => clampRef_any a2 0 1048576 w
  generalize clampI a0 0 1048576 = p at *
  generalize clampI a1 1 1048576 = q at *
  generalize clampI a2 0 1048576 = r at *
  have ⟨m0, m1⟩ := mul_bd p0 p1 (by omega : 0 ≤ q) q1
  have hp : hold p = p := hold_in p0 (by omega)
  have hq : hold q = q := hold_in (by omega) (by omega)
  have hr : hold r = r := hold_in r0 (by omega)
  have hm : hold (p * q) = p * q := hold_in m0 (by omega)
  have hd : p * q / q = p := Int.mul_ediv_cancel p (by omega)
  have ht0 : 0 ≤ p * 65536 / q := Int.ediv_nonneg (by omega) (by omega)
  have ht1 : p * 65536 / q * q ≤ p * 65536 := Int.ediv_mul_le _ (by omega)
  have ht2 : p * 65536 < (p * 65536 / q + 1) * q := Int.lt_ediv_add_one_mul_self _ (by omega)
  have ht3 : p * 65536 / q ≤ p * 65536 := by
    have := Int.ediv_le_self (a := p * 65536) q (by omega)
    exact this
  have k6 := fun w => partNum_yes p q p0 (by omega) (by omega) w
  generalize p * 65536 / q = t at *
  rw [Int.add_mul, Int.one_mul] at ht2
  have tq0 : 0 ≤ t * q := Int.mul_nonneg ht0 (by omega)
  have qt : q * 65536 * t = 65536 * (t * q) := by grind
  have htt : hold t = t := hold_in ht0 (by omega)
  have hx : hold (q * 65536) = q * 65536 := hold_in (by omega) (by omega)
  have ho : hold (p * 65536) = p * 65536 := hold_in (by omega) (by omega)
  have hs : hold (p + q) = p + q := hold_in (by omega) (by omega)
  have hu : hold (p + q + r) = p + q + r := hold_in (by omega) (by omega)
  have hu' : hold (p + (q + r)) = p + q + r := by rw [← Int.add_assoc]; exact hu
  have hv : hold (q + r) = q + r := hold_in (by omega) (by omega)
  have hg : hold (p + r) = p + r := hold_in (by omega) (by omega)
  have hn : fixI t q = t * q / 65536 := by unfold fixI; rw [htt, hq]; exact hold_in (by omega) (by omega)
  have hz : fixI (q * 65536) t = t * q := by unfold fixI; rw [hx, htt, qt]; rw [show 65536 * (t * q) / 65536 = t * q by omega]; exact hold_in (by omega) (by omega)
  have k4 := cast1 (ci (by unfold mulI; rw [hp, hq, hm])) (fun w => mulNum_any p q w)
  have k5 := cast1 (cu (by rw [hm, hd])) (fun w => divNum_yes (p * q) q q0 w)
  have k7 := cast1 (ci hn) (fun w => times_any t q w)
  have k8 := cast1 (ci (by unfold addI; rw [hp, hq, hs])) (fun w => addNum_any p q w)
  have k9 := cast1 (ci (by unfold addI; rw [hs, hr, hu])) (fun w => addNum_any (p + q) r w)
  have k10 := cast1 (ci (by unfold addI; rw [hq, hr, hv])) (fun w => addNum_any q r w)
  have k11 := cast1 (ci (by unfold addI; rw [hp, hv, hu'])) (fun w => addNum_any p (q + r) w)
  have k12 := cast1 (ci (by unfold addI; rw [hp, hr, hg])) (fun w => addNum_any p r w)
  have k13 := cast1 (ci (by unfold subI; rw [hg, hr, show p + r - r = p by omega, hp])) (fun w => subNum_any (p + r) r w)
  have k14 := cast1 (ci (by rw [clampI_in p0 (by omega)])) (fun w => of_any p w)
  have k15 := cast1 (ci (show hold (p * 65536) / 65536 = p by rw [ho]; omega)) (fun w => int_any (p * 65536) w)
  have k16 := cast1 (ci (by rw [clampI_in (by omega) (by omega)])) (fun w => of_any q w)
  have k17 := cast1 (ci hz) (fun w => by_any (q * 65536) t w)
  by_cases hc : t * q / 65536 = p
  · exact way0 a0 a1 a2 p q r t _ _ _ _ _ _ _ _ w p0 p1 q0 q1 (by omega) (by omega) m0 (by omega) (by omega) (by simpa using hc) k1 k2 k3 k4 k5 k6 k7 k8 k9 k10 k11 k12 k13 k14 k15 k16 k17
  · exact way1 a0 a1 a2 p q r t _ _ _ _ _ _ _ _ w p0 p1 q0 q1 (by omega) (by omega) m0 (by omega) (by omega) (by simpa using hc) (by omega) k1 k2 k3 k4 k5 k6 k7 k8 k9 k10 k11 k12 k13 k14 k15 k16 k17

/-! ### THE ROW's STEP: WRITTEN OUT: LEAVE IT -/
set_option maxRecDepth 100000 in
theorem lifted (os : Os) (started : os.Started) (H : Type) (enc : TypeId × Value → H) :
    ReturnsInHanded {} Try.checked os 6 .any (Rows.numLawsSpec.pre6 enc Try.prog Try.f6 Rows.numLawsRow.domain false) (Rows.numLawsSpec.post enc Try.prog Try.f6 false true false false) := by
  refine returnsInHanded_of_change (C := Try.checked) own started (by kernel_rfl) Try.func6
    (ChangeSpec.witness6 (enc := enc) (C := Try.checked) false ⟨#[], #[.int .i64 0, .int .i64 0, .int .i64 0], []⟩ 8 (by kernel_rfl) (by kernel_rfl) (by kernel_rfl) (by kernel_rfl)) ?_
  intro W base args ds gs before hval0 hW hcnd _
  have hval : ∀ (j : Nat) t v, Try.f6.params[j]? = some t → args[j]? = some v → Value.okWide Try.prog W .any base t v := hval0
  have hW' := hW
  obtain ⟨p, q, hA0, hV, rfl, hfz, hnd⟩ := hW
  have hA : DataW.TrodAll enc Try.prog W 0 (fun _ => true) true Try.f6.params.toList args.toList ds p := hA0
  rw [Try.params6] at hA hval
  obtain ⟨v0, vs0, d0, ds0, p0, q0, hargs, rfl, rfl, h0, r0⟩ := trodAll_cons hA
  obtain ⟨v1, vs1, d1, ds1, p1, q1, rfl, rfl, rfl, h1, r1⟩ := trodAll_cons r0
  obtain ⟨v2, vs2, d2, ds2, p2, q2, rfl, rfl, rfl, h2, r2⟩ := trodAll_cons r1
  obtain ⟨rfl, rfl, rfl⟩ := trodAll_nil r2
  obtain rfl : args = #[v0, v1, v2] := by cases args; simp_all
  obtain ⟨rfl, rfl⟩ := trodVars_none hV
  obtain ⟨a0, rfl, rfl, rfl, w0⟩ := open_int Try.underlying3 (hval 0 3 v0 rfl rfl) h0
  obtain ⟨a1, rfl, rfl, rfl, w1⟩ := open_int Try.underlying3 (hval 1 3 v1 rfl rfl) h1
  obtain ⟨a2, rfl, rfl, rfl, w2⟩ := open_int Try.underlying3 (hval 2 3 v2 rfl rfl) h2
  clear hA0 hval0
  simp only [List.append_nil] at hW'
  refine (walk a0 a1 a2 w0 w1 w2 W).mono fun e W' ⟨he, hg⟩ => ?_
  subst he
  exact ⟨_, rfl, post_of_same (pa := []) (pv := []) hW' (fun _ _ _ => (trodAll_cons_mk (shut_bool Try.underlying4 _) trodAll_mk0)) (fun sp _ => (trodAll_cons_mk (shut_int Try.underlying3 w0) (trodAll_cons_mk (shut_int Try.underlying3 w1) (trodAll_cons_mk (shut_int Try.underlying3 w2) trodAll_mk0)))) (fun _ _ => rfl) rfl
    (hg.frame _) hg.2.1 (ok_one (by kernel_rfl) rfl (okWide_bool_mk Try.underlying4 _))⟩

theorem over : Rows.numLawsRow.holds Try.pinned (OpenSpec.ofChange Rows.numLawsSpec) :=
  OpenClaim.holds_of_wide 6 Try.f6 rfl rfl rfl rfl rfl rfl rfl ⟨rfl, rfl, rfl, rfl, rfl⟩ rfl rfl rfl rfl rfl (by kernel_rfl) Try.func6 (by kernel_rfl)
    (of_decide_eq_true (by kernel_rfl)) (by unfold Func.isWrapper; first | (rw [if_pos (by decide +kernel)]; kernel_rfl) | (rw [if_neg (by decide +kernel)]; exact ⟨rfl, rfl⟩))
    (fun os started H enc _ => lifted os started H enc)

/-- ████ THE STATEMENT ████ -/
theorem proved : Rows.NumLawsSaid :=
  over
#print axioms proved
end Go.Proofs.Ytpfnhbpbblddkaa.numLaws
