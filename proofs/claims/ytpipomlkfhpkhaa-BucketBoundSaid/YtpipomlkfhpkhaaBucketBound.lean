/- BucketBound (mizzenlaw3): for every two ints and slice of ints the law returns true and its arguments read as before. Conditions: none. -/
import Derived.Test.YtpipomlkfhpkhaaRows
import Derived.Test.YtpipomlkfhpkhaaEnd
import Derived.Test.YtpipomlkfhpkhaaInts
import Derived.WalkKit
import Derived.ProofKit
import Derived.OpenShut
import Derived.Test.YtpipomlkfhpkhaaBkAwake
import Derived.Deep.LoopGhost
import Derived.WalkLawsBesides
set_option linter.unusedVariables false
namespace Go.Proofs.Ytpipomlkfhpkhaa.bucketBound
open Go.ChangeShapes Go.WideShapes Go.ChangeAt Go.RowKit Go.Proofs.Ytpipomlkfhpkhaa.Hp Go.Proofs.Ytpipomlkfhpkhaa.End
open Opn NumM NumC Num1 Bk BkAwake
theorem own : ownKnob Try.prog.godebug = none := by kernel_rfl
theorem hold_le {x : Int} (h : 0 ≤ x) : hold x ≤ x := by
  rcases Int.le_total x 1125899906842624 with h1 | h1
  · rw [hold_in h h1]; omega
  · rw [hold_top h1]; omega
theorem lev_le {r d L now : Int} (h : Ok r d L now) (t : Int) (ht : now ≤ timeN now t) : levN r d L now t ≤ L + r * (timeN now t - now) := by
  have h0 := h.r0
  have h1 := Int.mul_nonneg h0 (show 0 ≤ timeN now t - now by omega)
  have h2 := h.step t
  have h3 := h.n0
  have h4 := h2.n1
  have e1 : mulI r (timeN now t - now) ≤ r * (timeN now t - now) := by
    unfold mulI
    rw [hold_in (v := r) h0 (by have := h.r1; omega), hold_in (v := timeN now t - now) (by omega) (by omega)]
    exact hold_le h1
  have e0 : 0 ≤ mulI r (timeN now t - now) := hold_lo _
  have l0 := h.l0
  have e2 : addI L (mulI r (timeN now t - now)) ≤ L + mulI r (timeN now t - now) := by
    unfold addI
    have a1 := hold_le l0
    have a2 := hold_le e0
    have b1 := hold_lo L
    have b2 := hold_lo (mulI r (timeN now t - now))
    have := hold_le (show 0 ≤ hold L + hold (mulI r (timeN now t - now)) by omega)
    omega
  unfold levN
  omega
def Wide (r d : Int) (n : Nat) : Prop := 0 ≤ r ∧ r ≤ 16777216 ∧ 1 ≤ d ∧ d ≤ 1048576 ∧ n ≤ 60
theorem narrow {r d : Int} {n : Nat} (h : ¬ Wide r d n) : r < 0 ∨ (¬ r < 0 ∧ 16777216 < r) ∨ (¬ r < 0 ∧ ¬ 16777216 < r ∧ d < 1) ∨ (¬ r < 0 ∧ ¬ 16777216 < r ∧ ¬ d < 1 ∧ 1048576 < d) ∨ (¬ r < 0 ∧ ¬ 16777216 < r ∧ ¬ d < 1 ∧ ¬ 1048576 < d ∧ 60 < n) := by
  unfold Wide at h
  omega
set_option maxHeartbeats 1000000 in
theorem early (r d : Int) (zs : List Int) (s : Option Addr) (cap : Nat) (w : World) (h : ¬ Wide r d zs.length) :
    Calls Try.prog 4 #[.int .i64 r, .int .i64 d, .slice s zs.length cap] w fun e w' => e = .returned (.bool true) ∧ Old w w' := by
  have HC := Lib.hid (awake_any w)
  rcases narrow h with h | ⟨h1, h⟩ | ⟨h1, h2, h⟩ | ⟨h1, h2, h3, h⟩ | ⟨h1, h2, h3, h4, h⟩
  all_goals
    go_enter Try.func4, Try.ntmps4
    go_wp2_with (go_at_call 6; refine HC.out.mono ?_; rintro e w' ⟨rfl, ho⟩)
    go_ret
    exact ⟨rfl, ho⟩
set_option maxHeartbeats 8000000 in
theorem late (r d : Int) (zs : List Int) (s : Option Addr) (cap : Nat) (w : World) (h : Wide r d zs.length) (hZ : Ints w s cap zs) :
    Calls Try.prog 4 #[.int .i64 r, .int .i64 d, .slice s zs.length cap] w fun e w' => e = .returned (.bool true) ∧ Old w w' := by
  have HZ := Lib.hid hZ
  clear hZ
  obtain ⟨r0, r1, d0, d1, hn⟩ := h
  have hfit : Fits r d := ⟨r0, by omega, d0, by omega⟩
  have NW := Lib.hid (new_yes hfit w)
  go_enter Try.func4, Try.ntmps4
  go_wp2_with fail
  refine NW.out.mono ?_
  rintro e w1 ⟨b, rfl, hB1, hk1, hb1⟩
  have ok1 := hfit.ok
  go_wp2_with fail
  go_loopg [9, 10] zs.length (fun k s9 s10 wr => ∃ (i : Nat) (G L now : Int), Hid (k = zs.length - i) ∧ i ≤ zs.length ∧ s9 = .int .i64 G ∧ s10 = .int .i64 ((i : Nat) : Int) ∧ Hid (0 ≤ G ∧ now ≤ (i : Int)) ∧
    PB wr b r (d * 65536) L now ∧ Ok r d L now ∧ now ≤ (i : Int) ∧ G * 65536 + L ≤ d * 65536 + r * now ∧ Old w wr)
  case atStart => exact ⟨0, 0, d * 65536, 0, rfl, by omega, rfl, rfl, ⟨by omega, by omega⟩, hB1, ok1, by omega, by omega, hk1⟩
  case round =>
    obtain ⟨i, G, L, now, hk, hi, rfl, rfl, HG, hB, hok, hnow, hinv, hO⟩ := hrel
    clear hB1 hk1 ok1
    by_cases hlt : i < zs.length
    · obtain ⟨c, off, rfl, hc0, hc⟩ := HZ.out.at hO hlt
      have hwf := HZ.out.wf hlt
      obtain ⟨z, hzz⟩ : ∃ z, z = zs[i] := ⟨_, rfl⟩
      rw [← hzz] at hc hwf
      clear hzz
      obtain ⟨n, hn0⟩ : ∃ n, z.tmod 1000 = n := ⟨_, rfl⟩
      have hn1 : -1000 < n := by rw [← hn0]; exact Int.lt_tmod_of_pos z (by decide)
      have hn2 : n < 1000 := by rw [← hn0]; exact Int.tmod_lt_of_pos z (by decide)
      have hr0 : 0 ≤ r * now := Int.mul_nonneg r0 hok.n0
      obtain ⟨P, hP⟩ : ∃ P, P = r * (i : Int) := ⟨_, rfl⟩
      have hrP : r * now ≤ P := by rw [hP]; exact Int.mul_le_mul_of_nonneg_left hnow r0
      have hP0 : 0 ≤ P := by rw [hP]; exact Int.mul_nonneg r0 (by omega)
      have hP1 : P ≤ 16777216 * 60 := by rw [hP]; exact Int.mul_le_mul r1 (by omega) (by omega) (by omega)
      have G0 := HG.out.1
      have hwP : IntKind.i64.wrap (r * (i : Int)) = P := by rw [← hP, IntKind.wrap_i64]; omega
      have hPP : r * (i : Int) = P := hP.symm
      have hgl := hok.l0
      have hbw : w.heap.size ≤ b := hb1
      have hG60 : G ≤ 1048576 + 15361 := by omega
      have HE := Lib.hid hP
      clear hP
      by_cases hneg : n < 0
      · have OK2 := hok
        have hB2 := hB
        have OLD2 := hO
        have hinv2 := hinv
        have h1 := has_any OK2 hB2 (i : Int)
        have e1 : timeN now (i : Int) = (i : Int) := by unfold timeN; omega
        have ho := OK2.step (i : Int)
        have hle := lev_le OK2 (i : Int) (by omega)
        have ag := again OK2 (i : Int)
        rw [e1] at h1 ho hle ag
        have h2 := fun w' (hw' : PB w' b r (d * 65536) (levN r d L now (i : Int)) (i : Int)) => has_any ho hw' (i : Int)
        rw [ag.1, ag.2] at h2
        have hinv3 : G * 65536 + levN r d L now (i : Int) ≤ d * 65536 + r * (i : Int) := by
          have : r * (now + ((i : Int) - now)) = r * now + r * ((i : Int) - now) := Int.mul_add _ _ _
          rw [show now + ((i : Int) - now) = (i : Int) from by omega] at this
          omega
        generalize levN r d L now (i : Int) = M at *
        have m0 := ho.l0
        have m1 := ho.l1
        have q1 : ¬ M / 65536 < 0 := by omega
        have q2 : ¬ d < M / 65536 := by omega
        have hgd : ¬ d + P / 65536 < G := by omega
        have H1 := Lib.hid h1
        have H2 := Lib.hid h2
        have HI := Lib.hid hinv3
        have HG2 : Hid (0 ≤ G ∧ (i : Int) ≤ ((i + 1 : Nat) : Int)) := ⟨by omega, by omega⟩
        clear h1 h2 hinv3 hle ag e1
        go_wp2_with fail
        refine H1.out.mono ?_
        rintro e w5 ⟨rfl, hB5, hk5⟩
        go_wp2_with fail
        refine (H2.out _ hB5).mono ?_
        rintro e w6 ⟨rfl, hB6, hk6⟩
        go_wp2_with fail
        go_roundg (zs.length - (i + 1))
        case measure => have := hk.out; omega
        case rel =>
          exact ⟨i + 1, G, M, (i : Int), rfl, by omega, rfl, by simp, HG2, hB6, ho, by omega, HI.out, OLD2.trans' (hk5.trans hk6) (fun j hj e => by omega)⟩
      · have e1 : timeN now (i : Int) = (i : Int) := by unfold timeN; omega
        have hle := lev_le hok (i : Int) (by omega)
        have okT := hok.step (i : Int)
        have TK := take_any hok hB (i : Int) n
        rw [e1] at TK hle okT
        have hinv2 : G * 65536 + levN r d L now (i : Int) ≤ d * 65536 + r * (i : Int) := by
          have : r * (now + ((i : Int) - now)) = r * now + r * ((i : Int) - now) := Int.mul_add _ _ _
          rw [show now + ((i : Int) - now) = (i : Int) from by omega] at this
          omega
        generalize levN r d L now (i : Int) = N at *
        by_cases htk : Took N n
        · have e2 : decide (Took N n) = true := decide_eq_true htk
          have e3 : takeL N n = N - n * 65536 := by unfold takeL; rw [if_pos htk]
          have OK2 := okT.take n
          rw [e2, e3] at TK
          rw [e3] at OK2
          have TK := Lib.hid TK
          have hN0 := OK2.l0
          obtain ⟨G2, hG2⟩ : ∃ G2, G + n = G2 := ⟨_, rfl⟩
          have hG2P : G2 * 65536 + (N - n * 65536) ≤ d * 65536 + r * (i : Int) := by omega
          have hG20 : 0 ≤ G2 := by omega
          clear e1 e2 e3 hle okT hB htk
          go_wp2_with fail
          refine TK.out.mono ?_
          rintro e w2 ⟨rfl, hB2, hk2⟩
          have OLD2 := hO.trans' hk2 (fun j hj e => by omega)
          clear TK hk2
          have h1 := has_any OK2 hB2 (i : Int)
          have e1 : timeN (i : Int) (i : Int) = (i : Int) := by unfold timeN; omega
          have ho := OK2.step (i : Int)
          have hle := lev_le OK2 (i : Int) (by omega)
          have ag := again OK2 (i : Int)
          rw [e1] at h1 ho hle ag
          have h2 := fun w' (hw' : PB w' b r (d * 65536) (levN r d (N - n * 65536) (i : Int) (i : Int)) (i : Int)) => has_any ho hw' (i : Int)
          rw [ag.1, ag.2] at h2
          have hinv3 : G2 * 65536 + levN r d (N - n * 65536) (i : Int) (i : Int) ≤ d * 65536 + r * (i : Int) := by
            have : r * ((i : Int) + ((i : Int) - (i : Int))) = r * (i : Int) + r * ((i : Int) - (i : Int)) := Int.mul_add _ _ _
            rw [show (i : Int) + ((i : Int) - (i : Int)) = (i : Int) from by omega] at this
            omega
          generalize levN r d (N - n * 65536) (i : Int) (i : Int) = M at *
          have m0 := ho.l0
          have m1 := ho.l1
          have q1 : ¬ M / 65536 < 0 := by omega
          have q2 : ¬ d < M / 65536 := by omega
          have hgd : ¬ d + P / 65536 < G2 := by omega
          have H1 := Lib.hid h1
          have H2 := Lib.hid h2
          have HI := Lib.hid hinv3
          have HG2 : Hid (0 ≤ G2 ∧ (i : Int) ≤ ((i + 1 : Nat) : Int)) := ⟨by omega, by omega⟩
          clear h1 h2 hinv3 hle ag e1
          go_wp2_with fail
          refine H1.out.mono ?_
          rintro e w5 ⟨rfl, hB5, hk5⟩
          go_wp2_with fail
          refine (H2.out _ hB5).mono ?_
          rintro e w6 ⟨rfl, hB6, hk6⟩
          go_wp2_with fail
          go_roundg (zs.length - (i + 1))
          case measure => have := hk.out; omega
          case rel =>
            exact ⟨i + 1, G2, M, (i : Int), rfl, by omega, rfl, by simp, HG2, hB6, ho, by omega, HI.out, OLD2.trans' (hk5.trans hk6) (fun j hj e => by omega)⟩
        · have e2 : decide (Took N n) = false := decide_eq_false htk
          have e3 : takeL N n = N := by unfold takeL; rw [if_neg htk]
          have OK2 := okT
          rw [e2, e3] at TK
          have TK := Lib.hid TK
          clear e1 e2 e3 hle okT hB htk
          go_wp2_with fail
          refine TK.out.mono ?_
          rintro e w2 ⟨rfl, hB2, hk2⟩
          have OLD2 := hO.trans' hk2 (fun j hj e => by omega)
          clear TK hk2
          have h1 := has_any OK2 hB2 (i : Int)
          have e1 : timeN (i : Int) (i : Int) = (i : Int) := by unfold timeN; omega
          have ho := OK2.step (i : Int)
          have hle := lev_le OK2 (i : Int) (by omega)
          have ag := again OK2 (i : Int)
          rw [e1] at h1 ho hle ag
          have h2 := fun w' (hw' : PB w' b r (d * 65536) (levN r d N (i : Int) (i : Int)) (i : Int)) => has_any ho hw' (i : Int)
          rw [ag.1, ag.2] at h2
          have hinv3 : G * 65536 + levN r d N (i : Int) (i : Int) ≤ d * 65536 + r * (i : Int) := by
            have : r * ((i : Int) + ((i : Int) - (i : Int))) = r * (i : Int) + r * ((i : Int) - (i : Int)) := Int.mul_add _ _ _
            rw [show (i : Int) + ((i : Int) - (i : Int)) = (i : Int) from by omega] at this
            omega
          generalize levN r d N (i : Int) (i : Int) = M at *
          have m0 := ho.l0
          have m1 := ho.l1
          have q1 : ¬ M / 65536 < 0 := by omega
          have q2 : ¬ d < M / 65536 := by omega
          have hgd : ¬ d + P / 65536 < G := by omega
          have H1 := Lib.hid h1
          have H2 := Lib.hid h2
          have HI := Lib.hid hinv3
          have HG2 : Hid (0 ≤ G ∧ (i : Int) ≤ ((i + 1 : Nat) : Int)) := ⟨by omega, by omega⟩
          clear h1 h2 hinv3 hle ag e1
          go_wp2_with fail
          refine H1.out.mono ?_
          rintro e w5 ⟨rfl, hB5, hk5⟩
          go_wp2_with fail
          refine (H2.out _ hB5).mono ?_
          rintro e w6 ⟨rfl, hB6, hk6⟩
          go_wp2_with fail
          go_roundg (zs.length - (i + 1))
          case measure => have := hk.out; omega
          case rel =>
            exact ⟨i + 1, G, M, (i : Int), rfl, by omega, rfl, by simp, HG2, hB6, ho, by omega, HI.out, OLD2.trans' (hk5.trans hk6) (fun j hj e => by omega)⟩
    · have HC := Lib.hid (awake_any wr)
      go_wp2_with (go_at_call 6; refine HC.out.mono ?_; rintro e w' ⟨rfl, ho⟩)
      go_ret
      exact ⟨rfl, hO.trans ho⟩
theorem walk (r d : Int) (zs : List Int) (s : Option Addr) (cap : Nat) (w : World) (w0 : (Lit.int .i64 r).wf = true) (w1 : (Lit.int .i64 d).wf = true) (hZ : Ints w s cap zs) :
    Calls Try.prog 4 #[.int .i64 r, .int .i64 d, .slice s zs.length cap] w fun e w' => e = .returned (.bool true) ∧ Old w w' := by
  by_cases h : Wide r d zs.length
  · exact late r d zs s cap w h hZ
  · exact early r d zs s cap w h
set_option maxRecDepth 100000 in
set_option maxHeartbeats 1000000 in
theorem lifted (os : Os) (started : os.Started) (H : Type) (enc : TypeId × Value → H) :
    ReturnsInHanded {} Try.checked os 4 .any (Rows.bucketBoundSpec.pre6 enc Try.prog Try.f4 Rows.bucketBoundRow.domain false) (Rows.bucketBoundSpec.post enc Try.prog Try.f4 false true false false) := by
  refine returnsInHanded_of_change (C := Try.checked) own started (by kernel_rfl) Try.func4
    (ChangeSpec.witness6 (enc := enc) (C := Try.checked) false ⟨#[], #[.int .i64 0, .int .i64 0, .slice none 0 0], []⟩ 8 (by kernel_rfl) (by kernel_rfl) (by kernel_rfl) (by kernel_rfl)) ?_
  intro W base args ds gs before hval0 hW hcnd _
  have hval : ∀ (j : Nat) t v, Try.f4.params[j]? = some t → args[j]? = some v → Value.okWide Try.prog W .any base t v := hval0
  have hW' := hW
  obtain ⟨p, q, hA0, hV, rfl, hfz, hnd⟩ := hW
  have hA : DataW.TrodAll enc Try.prog W 0 (fun _ => true) true Try.f4.params.toList args.toList ds p := hA0
  rw [Try.params4] at hA hval
  obtain ⟨v0, vs0, d0, ds0, p0, q0, hargs, rfl, rfl, h0, r0⟩ := trodAll_cons hA
  obtain ⟨v1, vs1, d1, ds1, p1, q1, rfl, rfl, rfl, h1, r1⟩ := trodAll_cons r0
  obtain ⟨v2, vs2, d2, ds2, p2, q2, rfl, rfl, rfl, h2, r2⟩ := trodAll_cons r1
  obtain ⟨rfl, rfl, rfl⟩ := trodAll_nil r2
  obtain rfl : args = #[v0, v1, v2] := by cases args; simp_all
  obtain ⟨rfl, rfl⟩ := trodVars_none hV
  obtain ⟨a0, rfl, rfl, rfl, w0⟩ := open_int Try.underlying3 (hval 0 3 v0 rfl rfl) h0
  obtain ⟨a1, rfl, rfl, rfl, w1⟩ := open_int Try.underlying3 (hval 1 3 v1 rfl rfl) h1
  obtain ⟨s2, cap2, a2, rfl, w2⟩ := Opn.ints_of Try.underlying40 Try.underlying3 (by kernel_rfl) (hval 2 40 v2 rfl rfl) h2
  clear hA0 hval0
  refine (walk a0 a1 a2 s2 cap2 W w0 w1 w2).mono fun e W' ⟨he, hg⟩ => ?_
  subst he
  exact ⟨_, rfl, post_of_old hW' (fun _ _ _ => (trodAll_cons_mk (shut_bool Try.underlying4 _) trodAll_mk0)) (fun sp hsp => (trodAll_cons_mk (shut_int Try.underlying3 w0) (trodAll_cons_mk (shut_int Try.underlying3 w1) (trodAll_cons_mk (Opn.back (by kernel_rfl) (of_decide_eq_true (by kernel_rfl)) h2 hg (fun x hx => hW'.lt x (by simp [hx])) (fun x hx => hsp x (by simp [hx]))) trodAll_mk0)))) (fun _ _ => rfl)
    hg (ok_one (by kernel_rfl) rfl (okWide_bool_mk Try.underlying4 _))⟩
theorem over : Rows.bucketBoundRow.holds Try.pinned (OpenSpec.ofChange Rows.bucketBoundSpec) :=
  OpenClaim.holds_of_wide 4 Try.f4 rfl rfl rfl rfl rfl rfl rfl ⟨rfl, rfl, rfl, rfl, rfl⟩ rfl rfl rfl rfl rfl (by kernel_rfl) Try.func4 (by kernel_rfl)
    (of_decide_eq_true (by kernel_rfl)) (by unfold Func.isWrapper; first | (rw [if_pos (by decide +kernel)]; kernel_rfl) | (rw [if_neg (by decide +kernel)]; exact ⟨rfl, rfl⟩))
    (fun os started H enc _ => lifted os started H enc)
theorem proved : Rows.BucketBoundSaid :=
  over
#print axioms proved
end Go.Proofs.Ytpipomlkfhpkhaa.bucketBound
