/- CreditLimits (mizzenlaw19): for every two ints and slice of steps (structs of two ints) the law returns true and its arguments read as before. Conditions: none. -/
import Derived.Test.YtaflhkhfkifefaaRows
import Derived.Test.YtaflhkhfkifefaaEnd
import Derived.Test.YtaflhkhfkifefaaInts
import Derived.WalkKit
import Derived.ProofKit
import Derived.OpenShut
import Derived.Test.YtaflhkhfkifefaaCrAwake
import Derived.Test.YtaflhkhfkifefaaCrLim
import Derived.Deep.RegionHeld3
import Derived.Deep.LoopGhost
set_option linter.unusedVariables false
namespace Go.Proofs.Ytaflhkhfkifefaa.creditLimits
open Go.ChangeShapes Go.WideShapes Go.ChangeAt Go.RowKit Go.Proofs.Ytaflhkhfkifefaa.Hp Go.Proofs.Ytaflhkhfkifefaa.End
open Opn CrM Cr NumM NumC
theorem own : ownKnob Try.prog.godebug = none := by kernel_rfl
attribute [local go_sem ↓] Go.wp_at_zero Go.wp_at_succ
set_option maxRecDepth 100000 in
set_option maxHeartbeats 16000000 in
theorem bad (m t : Int) (a2 : List (List Int)) (s2 : Option Addr) (cap2 : Nat) (w : World) (hb : ¬ (1 ≤ m ∧ m ≤ 1048576 ∧ 0 ≤ t ∧ t ≤ 65536 ∧ a2.length ≤ 60)) :
    Calls Try.prog 4 #[.int .i64 m, .int .i64 t, .slice s2 a2.length cap2] w fun e w' => e = .returned (.bool true) ∧ Old w w' := by
  have HC := Lib.hid fun w => awake_any w
  obtain ⟨p, hp⟩ : ∃ p, a2.length = p := ⟨_, rfl⟩
  rw [hp] at hb ⊢
  clear hp
  have hc : m < 1 ∨ (decide (m < 1) = false ∧ 1048576 < m) ∨ (decide (m < 1) = false ∧ decide (1048576 < m) = false ∧ t < 0) ∨ (decide (m < 1) = false ∧ decide (1048576 < m) = false ∧ decide (t < 0) = false ∧ 65536 < t) ∨ (decide (m < 1) = false ∧ decide (1048576 < m) = false ∧ decide (t < 0) = false ∧ decide (65536 < t) = false ∧ (60 : Int) < (p : Int)) := by
    simp only [decide_eq_false_iff_not]; omega
  clear hb
  rcases hc with h1 | ⟨h1, h2⟩ | ⟨h1, h2, h3⟩ | ⟨h1, h2, h3, h4⟩ | ⟨h1, h2, h3, h4, h5⟩
  all_goals
    go_enter Try.func4, Try.ntmps4
    go_wp2_with fail
    with_reducible refine Calls.mono (HC.out _) ?_
    rintro e w' ⟨rfl, ho⟩
    go_wp2_with fail
    go_ret
    exact ⟨rfl, ho⟩
set_option maxRecDepth 100000 in
set_option maxHeartbeats 16000000 in
theorem late (m T : Int) (a2 : List (List Int)) (s2 : Option Addr) (cap2 : Nat) (w : World) (hZ : Structs w s2 cap2 2 a2) (h : a2.length ≤ 60) (g1 : 1 ≤ m) (g2 : m ≤ 1048576) (g3 : 0 ≤ T) (g4 : T ≤ 65536) :
    Calls Try.prog 4 #[.int .i64 m, .int .i64 T, .slice s2 a2.length cap2] w fun e w' => e = .returned (.bool true) ∧ Old w w' := by
  have HC := Lib.hid fun w => awake_any w
  have HZ := Lib.hid hZ
  clear hZ
  have N1 := Lib.hid (new_yes g1 g2 g3 g4 w)
  have hM0 : 65536 ≤ m * 65536 := by omega
  have hM1 : m * 65536 ≤ 68719476736 := by omega
  have hF := Lib.hid (Ok.first (M := m * 65536) (T := T) hM0 hM1 g3 g4)
  have hw : IntKind.i64.wrap (m * 65536) = m * 65536 := by rw [IntKind.wrap_i64]; omega
  have c1 : decide (m < 1) = false := by rw [decide_eq_false_iff_not]; omega
  have c2 : decide (1048576 < m) = false := by rw [decide_eq_false_iff_not]; omega
  have c3 : decide (T < 0) = false := by rw [decide_eq_false_iff_not]; omega
  have c4 : decide (65536 < T) = false := by rw [decide_eq_false_iff_not]; omega
  obtain ⟨n, hn⟩ : ∃ n, a2.length = n := ⟨_, rfl⟩
  have HNn := Lib.hid hn
  rw [hn] at h ⊢
  have c5 : decide ((60 : Int) < (n : Int)) = false := by rw [decide_eq_false_iff_not]; omega
  clear hn g1 g2 g3 g4
  go_enter Try.func4, Try.ntmps4
  go_wp2_with fail
  with_reducible refine Calls.mono N1.out ?_
  rintro e w1 ⟨b, rfl, hP1, hk1, hb1⟩
  have HP1 := Lib.hid hP1
  have HK1 : Hid (Old w w1) := Lib.hid hk1
  have HB := Lib.hid hb1
  clear hP1 hk1 N1 hb1 c1 c2 c3 c4 c5
  go_upto_region 7 with (fail)
  obtain ⟨M, hM⟩ : ∃ M, m * 65536 = M := ⟨_, rfl⟩
  rw [hM] at HP1 hF hM0 hM1
  try rw [hM]
  clear hM hw
  have HM := Lib.hid hM0
  have hq : M.tdiv 64 = M / 64 := Int.tdiv_eq_ediv_of_nonneg (by omega)
  have hq2 : M.tdiv 2 = M / 2 := Int.tdiv_eq_ediv_of_nonneg (by omega)
  have hqw : IntKind.i64.wrap (M / 64) = M / 64 := by rw [IntKind.wrap_i64]; omega
  have hqw2 : IntKind.i64.wrap (M / 2) = M / 2 := by rw [IntKind.wrap_i64]; omega
  go_wp2_with fail
  go_loopg [10] n (fun kx s10 wr => ∃ (i : Nat) (x : St), Hid (n - i ≤ kx) ∧ i ≤ n ∧ s10 = .int .i64 (i : Nat) ∧ Hid (PR wr b M T x) ∧ Hid (Ok M T x) ∧ Hid (x.k ≤ i) ∧ Hid (Old w wr))
  case atStart => exact ⟨0, _, Lib.hid (by omega), by omega, rfl, HP1, hF, Lib.hid (Nat.le_refl _), HK1⟩
  case round =>
    clear HP1 hF HK1
    obtain ⟨i, x, hm, hi, rfl, HP, HO, hxk, Z0⟩ := hrel
    rcases Nat.lt_or_ge i n with hlt | hge
    · have hin : i < a2.length := by rw [HNn.out]; exact hlt
      obtain ⟨g, off, rfl, hg, _⟩ := HZ.out.cell Z0.out hin (show 0 < 2 by decide)
      have KS : ∀ w' : World, Old w w' → w'.cell? ⟨g, off + i * 2, none⟩ = some (.int .i64 ((a2.getD i []).getD 0 0)) ∧ w'.cell? ⟨g, off + i * 2 + 1, none⟩ = some (.int .i64 ((a2.getD i []).getD 1 0)) := fun w' k => by
        obtain ⟨g', o', e, _, h0⟩ := HZ.out.cell k hin (show 0 < 2 by decide)
        cases e
        obtain ⟨_, _, eg, _, h1⟩ := HZ.out.cell k hin (show 1 < 2 by decide)
        cases eg
        exact And.intro h0 h1
      obtain ⟨s, hs⟩ : ∃ s, (a2.getD i []).getD 0 0 = s := ⟨_, rfl⟩
      obtain ⟨l, hl⟩ : ∃ l, (a2.getD i []).getD 1 0 = l := ⟨_, rfl⟩
      rw [hs, hl] at KS
      clear hs hl
      have KS := Lib.hid KS
      have HK : Hid (x.k ≤ 1000000) := Lib.hid (by have := hxk.out; omega)
      obtain ⟨⟨R', A', k'⟩, hy⟩ : ∃ y, x.upd M T s l = y := ⟨_, rfl⟩
      have HO2 : Hid (Ok M T ⟨R', A', k'⟩) := Lib.hid (by rw [← hy]; exact HO.out.upd s l)
      have HK2 : Hid (k' ≤ i + 1) := Lib.hid (by have h1 := upd_k (M := M) (T := T) (s := s) (l := l) (x := x); rw [hy] at h1; have h2 := hxk.out; dsimp only at h1; omega)
      have U1 := fun (w' : World) (h : PR w' b M T x) => upd_any h HO.out HK.out s l
      rw [hy] at U1
      have U1 := Lib.hid U1
      clear hy hxk
      have r1 : decide (M < R') = false := by rw [decide_eq_false_iff_not]; have := HO2.out.r1; dsimp only at this; omega
      have r0 : decide (R' < M / 64) = false := by rw [decide_eq_false_iff_not]; have := HO2.out.r0; dsimp only at this; omega
      have a0 : decide (A' < 1024) = false := by rw [decide_eq_false_iff_not]; have := HO2.out.a0; dsimp only at this; omega
      have a1 : decide (32768 < A') = false := by rw [decide_eq_false_iff_not]; have := HO2.out.a1; dsimp only at this; omega
      have HPd : Hid (PR wr.drew b M T x) := Lib.hid (Blk.drew HP.out)
      have Z0 : Hid (Old w wr.drew) := Lib.hid (Kept.drew Z0.out)
      go_upto_region 10 with (fail)
      go_region_held3 (fun w' => w'.cell? ⟨g, off + i * 2, none⟩ = some (.int .i64 s) ∧ w'.cell? ⟨g, off + i * 2 + 1, none⟩ = some (.int .i64 l)) (exact KS.out _ Z0.out)
        ((go_at_call 9; (with_reducible refine Calls.mono (U1.out _ HPd.out) ?_); rintro e y1 ⟨rfl, p1, k1⟩; have P1 := Lib.hid p1; have Z0 : Hid (Old w y1) := Lib.hid (Kept.trans' Z0.out k1 (fun i hi e => by have := HB.out; omega)); clear p1 k1))
      clear HP
      go_wp2_with (first | (go_at_call 11; with_reducible refine Calls.mono (rate_any P1.out HM.out) ?_; rintro e w' ⟨rfl, rfl⟩) | (go_at_call 12; with_reducible refine Calls.mono (aggr_any P1.out HM.out) ?_; rintro e w' ⟨rfl, rfl⟩))
      go_roundg (n - (i + 1))
      case measure => have := hm.out; omega
      case rel => exact ⟨i + 1, ⟨R', A', k'⟩, Lib.hid (Nat.le_refl _), by omega, by go_num, P1, HO2, HK2, Z0⟩
    · obtain rfl : i = n := by omega
      have hge' : ¬ i < i := by omega
      clear hge
      go_upto_region 14 with (go_at_call 11; with_reducible refine Calls.mono (rate_any HP.out HM.out) ?_; rintro e w' ⟨rfl, rfl⟩)
      obtain ⟨u0, hu0⟩ : ∃ u0 : World, u0 = wr := ⟨_, rfl⟩
      subst hu0
      have HNi := Lib.hid h
      clear hm hge' h
      go_wp2_with fail
      go_loopg [11, 12] 100 (fun kx s11 s12 wr => ∃ (j : Nat) (x : St), Hid (100 - j ≤ kx) ∧ j ≤ 100 ∧ s11 = .int .i64 x.R ∧ s12 = .int .i64 (j : Nat) ∧ Hid (PR wr b M T x) ∧ Hid (Ok M T x) ∧ Hid (j ≤ x.k) ∧ Hid (x.k ≤ 60 + j) ∧ Hid (Near M j x.R) ∧ Hid (Old w wr))
      case atStart => exact ⟨0, x, Lib.hid (by omega), by omega, rfl, rfl, HP, HO, Lib.hid (Nat.zero_le _), Lib.hid (by have := hxk.out; have := HNi.out; omega), Lib.hid (Near.zero _ _), Z0⟩
      case round =>
        clear HP HO hxk Z0 HNi
        obtain ⟨j, x, hm, hj, rfl, rfl, HP, HO, hk0, hk1, hN, Z0⟩ := hrel
        rcases Nat.lt_or_ge j 100 with hlt | hge
        · have hu := upd_one HO.out
          have hs := Near.step HO.out hN.out hk0.out
          have hr := up_R HO.out
          obtain ⟨⟨R', A', k'⟩, hy⟩ : ∃ y, x.up M = y := ⟨_, rfl⟩
          rw [hy] at hu hs hr
          have HO2 : Hid (Ok M T ⟨R', A', k'⟩) := Lib.hid (by rw [← hu]; exact HO.out.upd 1 0)
          have HK : Hid (x.k ≤ 1000000) := Lib.hid (by have := hk1.out; omega)
          have U1 := upd_any HP.out HO.out HK.out 1 0
          rw [hu] at U1
          have U1 := Lib.hid U1
          have HN2 := Lib.hid hs
          have hr1 := hr.1
          have hr3 := hr.2.2
          dsimp only at hr1 hr3
          have HK2 : Hid (j + 1 ≤ k') := Lib.hid (by have := hk0.out; omega)
          have HK3 : Hid (k' ≤ 60 + (j + 1)) := Lib.hid (by have := hk1.out; omega)
          have xr0 := HO.out.r0
          have xr1 := HO.out.r1
          obtain ⟨R, hR⟩ : ∃ R, x.R = R := ⟨_, rfl⟩
          rw [hR] at hr1 xr0 xr1 ⊢
          clear hR hy hu hs hr hr3 hk0 hk1 hN HP
          have hw2 : IntKind.i64.wrap (R - 2) = R - 2 := by rw [IntKind.wrap_i64]; omega
          have t1 : decide (R' < R - 2) = false := by rw [decide_eq_false_iff_not]; omega
          have t2 : ¬ k' < j + 1 := by have := HK2.out; omega
          have t3 : decide ((k' : Int) < (j : Int) + 1) = false := by rw [decide_eq_false_iff_not]; omega
          go_wp2_with fail
          with_reducible refine Calls.mono U1.out ?_
          rintro e y1 ⟨rfl, p1, k1⟩
          have P1 := Lib.hid p1
          have Z0 : Hid (Old w y1) := Lib.hid (Kept.trans' Z0.out k1 (fun i hi e => by have := HB.out; omega))
          clear p1 k1 U1
          go_wp2_with (first | (go_at_call 11; with_reducible refine Calls.mono (rate_any P1.out HM.out) ?_; rintro e w' ⟨rfl, rfl⟩) | (go_at_call 13; with_reducible refine Calls.mono (rises_any P1.out HM.out) ?_; rintro e w' ⟨rfl, rfl⟩))
          go_roundg (100 - (j + 1))
          case measure => have := hm.out; omega
          case rel => exact ⟨j + 1, ⟨R', A', k'⟩, Lib.hid (Nat.le_refl _), by omega, rfl, by go_num, P1, HO2, HK2, HK3, HN2, Z0⟩
        · obtain rfl : j = 100 := by omega
          have hN4 := hN.out.n4 (by decide)
          obtain ⟨R, hR⟩ : ∃ R, x.R = R := ⟨_, rfl⟩
          rw [hR] at hN4 ⊢
          have t1 : decide (M / 2 ≤ R) = true := by rw [decide_eq_true_iff]; omega
          clear hN hR hge hN4
          go_wp2_with (go_at_call 6; with_reducible refine Calls.mono (HC.out _) ?_; rintro e w' ⟨rfl, ho⟩)
          go_ret
          exact ⟨rfl, Z0.out.trans ho⟩
theorem walk (m t : Int) (a2 : List (List Int)) (s2 : Option Addr) (cap2 : Nat) (w : World) (w0 : (Lit.int .i64 m).wf = true) (w1 : (Lit.int .i64 t).wf = true) (hZ : Structs w s2 cap2 2 a2) :
    Calls Try.prog 4 #[.int .i64 m, .int .i64 t, .slice s2 a2.length cap2] w fun e w' => e = .returned (.bool true) ∧ Old w w' := by
  by_cases hb : 1 ≤ m ∧ m ≤ 1048576 ∧ 0 ≤ t ∧ t ≤ 65536 ∧ a2.length ≤ 60
  · exact late m t a2 s2 cap2 w hZ hb.2.2.2.2 hb.1 hb.2.1 hb.2.2.1 hb.2.2.2.1
  · exact bad m t a2 s2 cap2 w hb
set_option maxRecDepth 100000 in
set_option maxHeartbeats 1000000 in
theorem lifted (os : Os) (started : os.Started) (H : Type) (enc : TypeId × Value → H) :
    ReturnsInHanded {} Try.checked os 4 .any (Rows.creditLimitsSpec.pre6 enc Try.prog Try.f4 Rows.creditLimitsRow.domain false) (Rows.creditLimitsSpec.post enc Try.prog Try.f4 false true false false) := by
  refine returnsInHanded_of_change (C := Try.checked) own started (by kernel_rfl) Try.func4
    (ChangeSpec.witness6 (enc := enc) (C := Try.checked) false ⟨#[], #[.int .i64 0, .int .i64 0, .slice none 0 0], []⟩ 8 (by kernel_rfl) (by kernel_rfl) (by kernel_rfl) (by kernel_rfl)) ?_
  intro W base args ds gs before hval0 hW hcnd _
  have hval : ∀ (j : Nat) t v, Try.f4.params[j]? = some t → args[j]? = some v → Value.okWide Try.prog W .any base t v := hval0
  have hW' := hW
  obtain ⟨p, q, hA0, hV, rfl, hfz, hnd⟩ := hW
  have hA : DataW.TrodAll enc Try.prog W 0 (fun _ => true) true Try.f4.params.toList args.toList ds p := hA0
  rw [Try.params4] at hA hval
  obtain ⟨v0, vs0, d0, ds0, p0, q0, hargs, rfl, rfl, h0, r0⟩ := trodAll_cons hA
  obtain ⟨v1, vs1, d1, ds1, p1, q1, rfl, rfl, rfl, h1, r1⟩ := trodAll_cons r0
  obtain ⟨v2, vs2, d2, ds2, p2, q2, rfl, rfl, rfl, h2, r2⟩ := trodAll_cons r1
  obtain ⟨rfl, rfl, rfl⟩ := trodAll_nil r2
  obtain rfl : args = #[v0, v1, v2] := by cases args; simp_all
  obtain ⟨rfl, rfl⟩ := trodVars_none hV
  obtain ⟨a0, rfl, rfl, rfl, w0⟩ := open_int Try.underlying3 (hval 0 3 v0 rfl rfl) h0
  obtain ⟨a1, rfl, rfl, rfl, w1⟩ := open_int Try.underlying3 (hval 1 3 v1 rfl rfl) h1
  obtain ⟨s2, cap2, a2, rfl, w2⟩ := Opn.structs_of Try.underlying22 Try.underlying34 (by kernel_rfl) (by kernel_rfl) (by decide) (by intro j f hf; rcases j with _ | _ | j <;> simp at hf <;> (try subst hf) <;> exact Try.underlying3) (hval 2 22 v2 rfl rfl) h2
  clear hA0 hval0
  refine (walk a0 a1 a2 s2 cap2 W w0 w1 w2).mono fun e W' ⟨he, hg⟩ => ?_
  subst he
  exact ⟨_, rfl, post_of_old hW' (fun _ _ _ => (trodAll_cons_mk (shut_bool Try.underlying4 _) trodAll_mk0)) (fun sp hsp => (trodAll_cons_mk (shut_int Try.underlying3 w0) (trodAll_cons_mk (shut_int Try.underlying3 w1) (trodAll_cons_mk (Opn.back (by kernel_rfl) (of_decide_eq_true (by kernel_rfl)) h2 hg (fun x hx => hW'.lt x (by simp [hx])) (fun x hx => hsp x (by simp [hx]))) trodAll_mk0)))) (fun _ _ => rfl)
    hg (ok_one (by kernel_rfl) rfl (okWide_bool_mk Try.underlying4 _))⟩
theorem over : Rows.creditLimitsRow.holds Try.pinned (OpenSpec.ofChange Rows.creditLimitsSpec) :=
  OpenClaim.holds_of_wide 4 Try.f4 rfl rfl rfl rfl rfl rfl rfl ⟨rfl, rfl, rfl, rfl, rfl⟩ rfl rfl rfl rfl rfl (by kernel_rfl) Try.func4 (by kernel_rfl)
    (of_decide_eq_true (by kernel_rfl)) (by unfold Func.isWrapper; first | (rw [if_pos (by decide +kernel)]; kernel_rfl) | (rw [if_neg (by decide +kernel)]; exact ⟨rfl, rfl⟩))
    (fun os started H enc _ => lifted os started H enc)
theorem proved : Rows.CreditLimitsSaid :=
  over
#print axioms proved
end Go.Proofs.Ytaflhkhfkifefaa.creditLimits
