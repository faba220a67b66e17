/- BackoffEnds (mizzenlaw4): for every four ints the law returns true and its arguments read as before. Conditions: none. -/
import Derived.Test.YtacfpjnddakehaaRows
import Derived.Test.YtacfpjnddakehaaEnd
import Derived.Test.YtacfpjnddakehaaInts
import Derived.WalkKit
import Derived.ProofKit
import Derived.OpenShut
import Derived.Test.YtacfpjnddakehaaBoAwake
import Derived.Deep.LoopGhost
set_option linter.unusedVariables false
namespace Go.Proofs.Ytacfpjnddakehaa.backoffEnds
open Go.ChangeShapes Go.WideShapes Go.ChangeAt Go.RowKit Go.Proofs.Ytacfpjnddakehaa.Hp Go.Proofs.Ytacfpjnddakehaa.End
open Opn NumM NumC Bo BoAwake
theorem own : ownKnob Try.prog.godebug = none := by kernel_rfl
theorem fwait {x y m q a : Int} {b : Nat} {w : World} (hB : PT w b x y m q a) (h0 : 0 ≤ q) (h1 : q ≤ 1000000000) (ha : 0 < a) :
    Calls Try.prog 11 #[.pointer (some ⟨b, 0, none⟩), .int .i64 (a - 1)] w fun e w' => e = .returned (.tuple #[.bool false, .int .i64 0]) ∧ PT w' b x y m q a ∧ Kept (fun k => k = b) w w' := by
  have h := fired_any hB h0 h1 (a - 1)
  unfold FiredP at h
  rw [show fire x y m q a (a - 1) = (false, 0, q, a) by unfold fire; rw [if_pos (Or.inr (by omega))]] at h
  exact h
theorem fend {x y m q a i : Int} {b : Nat} {w : World} (hB : PT w b x y m q a) (h0 : 0 ≤ q) (h1 : q ≤ 1000000000) (ha : 0 < a) (hi : i = q + 1) (hm : 0 < m) (hl : m < i) :
    Calls Try.prog 11 #[.pointer (some ⟨b, 0, none⟩), .int .i64 a] w fun e w' => e = .returned (.tuple #[.bool false, .int .i64 8]) ∧ PT w' b x y m i 0 ∧ Kept (fun k => k = b) w w' := by
  have h := fired_any hB h0 h1 a
  subst hi
  unfold FiredP at h
  rw [show fire x y m q a a = (false, 8, q + 1, 0) by unfold fire; rw [if_neg (by omega), if_pos ⟨hm, hl⟩]] at h
  exact h
theorem fgo {x y m q a i : Int} {b : Nat} {w : World} (hB : PT w b x y m q a) (h0 : 0 ≤ q) (h1 : q ≤ 1000000000) (ha : 0 < a) (hi : i = q + 1) (hm : ¬ (0 < m ∧ m < i)) :
    Calls Try.prog 11 #[.pointer (some ⟨b, 0, none⟩), .int .i64 a] w fun e w' => e = .returned (.tuple #[.bool true, .int .i64 0]) ∧ PT w' b x y m i (nextI x y i a) ∧ Kept (fun k => k = b) w w' := by
  have h := fired_any hB h0 h1 a
  subst hi
  unfold FiredP at h
  rw [show fire x y m q a a = (true, 0, q + 1, nextI x y (q + 1) a) by unfold fire; rw [if_neg (by omega), if_neg hm]] at h
  exact h
theorem next_in {x y n a : Int} (h0 : 0 ≤ a) (h1 : a ≤ 100000000) (hy : y ≤ 100000) (hy1 : 1 ≤ y) : a < nextI x y n a ∧ nextI x y n a ≤ a + 100000 := by
  have h2 := delayI_bd x y n
  rw [clampI_in hy1 (by omega)] at h2
  unfold nextI addI
  rw [hold_in h0 (by omega), hold_in (v := delayI x y n) (by omega) (by omega), hold_in (by omega) (by omega)]
  omega
theorem unfit2 {x y m n : Int} (h : ¬ (1 ≤ x ∧ x ≤ 1000 ∧ x ≤ y ∧ y ≤ 100000 ∧ 0 ≤ m ∧ m ≤ 30 ∧ 0 ≤ n ∧ n ≤ 60)) : x < 1 ∨ (¬ x < 1 ∧ 1000 < x) ∨ (¬ x < 1 ∧ ¬ 1000 < x ∧ y < x) ∨ (¬ x < 1 ∧ ¬ 1000 < x ∧ ¬ y < x ∧ 100000 < y) ∨
    (¬ x < 1 ∧ ¬ 1000 < x ∧ ¬ y < x ∧ ¬ 100000 < y ∧ m < 0) ∨ (¬ x < 1 ∧ ¬ 1000 < x ∧ ¬ y < x ∧ ¬ 100000 < y ∧ ¬ m < 0 ∧ 30 < m) ∨
    (¬ x < 1 ∧ ¬ 1000 < x ∧ ¬ y < x ∧ ¬ 100000 < y ∧ ¬ m < 0 ∧ ¬ 30 < m ∧ n < 0) ∨ (¬ x < 1 ∧ ¬ 1000 < x ∧ ¬ y < x ∧ ¬ 100000 < y ∧ ¬ m < 0 ∧ ¬ 30 < m ∧ ¬ n < 0 ∧ 60 < n) := by omega
set_option maxHeartbeats 2000000 in
theorem early (x y m n : Int) (w : World) (h : ¬ (1 ≤ x ∧ x ≤ 1000 ∧ x ≤ y ∧ y ≤ 100000 ∧ 0 ≤ m ∧ m ≤ 30 ∧ 0 ≤ n ∧ n ≤ 60)) :
    Calls Try.prog 5 #[.int .i64 x, .int .i64 y, .int .i64 m, .int .i64 n] w fun e w' => e = .returned (.bool true) ∧ Old w w' := by
  have HC := Lib.hid (awake_any w)
  rcases unfit2 h with h1 | ⟨h1, h2⟩ | ⟨h1, h2, h3⟩ | ⟨h1, h2, h3, h4⟩ | ⟨h1, h2, h3, h4, h5⟩ | ⟨h1, h2, h3, h4, h5, h6⟩ | ⟨h1, h2, h3, h4, h5, h6, h7⟩ | ⟨h1, h2, h3, h4, h5, h6, h7, h8⟩
  all_goals
    clear h
    go_enter Try.func5, Try.ntmps5
    go_wp2_with (go_at_call 7; refine HC.out.mono ?_; rintro e w' ⟨rfl, ho⟩)
    go_ret
    exact ⟨rfl, ho⟩
set_option maxRecDepth 100000 in
set_option maxHeartbeats 4000000 in
theorem late (x y m n : Int) (w : World) (x0 : 1 ≤ x) (x1 : x ≤ 1000) (y0 : x ≤ y) (y1 : y ≤ 100000) (m0 : 0 ≤ m) (m1 : m ≤ 30) (n0 : 0 ≤ n) (n1 : n ≤ 60) :
    Calls Try.prog 5 #[.int .i64 x, .int .i64 y, .int .i64 m, .int .i64 n] w fun e w' => e = .returned (.bool true) ∧ Old w w' := by
  have NW := Lib.hid (new_yes (x := x) (y := y) (m := m) ⟨x0, by omega, y0, by omega, m0, by omega⟩ w)
  go_enter Try.func5, Try.ntmps5
  go_wp2_with fail
  refine NW.out.mono ?_
  rintro e w1 ⟨b, rfl, hP1, hk1, hb1⟩
  clear NW
  have ST := Lib.hid (start_any hP1 0)
  clear hP1
  go_wp2_with fail
  refine ST.out.mono ?_
  rintro e w2 ⟨rfl, hP2, hk2⟩
  clear ST
  have nb : ∀ i, i < w.heap.size → i = b → False := fun i hi e => by omega
  have hO2 : Old w w2 := hk1.trans' hk2 nb
  clear hk1 hk2
  go_wp2_with fail
  go_loopg [11, 12] n.toNat (fun k s11 s12 wr => ∃ (i : Nat) (last q a : Int), Hid (k = n.toNat + 1 - i) ∧ 1 ≤ i ∧ i ≤ n.toNat + 1 ∧ s11 = .int .i64 last ∧ s12 = .int .i64 ((i : Nat) : Int) ∧
    PT wr b x y m q a ∧ Hid ((i : Int) = q + 1) ∧ 0 ≤ last ∧ last < a ∧ Hid (a ≤ 100000 * (i : Int)) ∧ Hid (m = 0 ∨ q ≤ m) ∧ Old w wr)
  case atStart =>
    have hn := next_in (x := x) (y := y) (n := 0) (a := 0) (by omega) (by omega) y1 (by omega)
    exact ⟨1, 0, 0, _, by show _ = _; omega, by omega, by omega, rfl, rfl, hP2, Lib.hid (by omega), by omega, hn.1, Lib.hid (by omega), Lib.hid (by omega), hO2⟩
  case round =>
    obtain ⟨i, last, q, a, hk, hi0, hi, rfl, rfl, hP, hq, l0, l1, ha, hm, hO⟩ := hrel
    clear hP2 hO2
    by_cases hlt : (i : Int) ≤ n
    · have hq' := hq.out
      have ha' := ha.out
      have hm' := hm.out
      have hw1 : IntKind.i64.wrap (a - 1) = a - 1 := by rw [IntKind.wrap_i64]; omega
      have hw2 : IntKind.i64.wrap ((i : Int) + 1) = (i : Int) + 1 := by rw [IntKind.wrap_i64]; omega
      have q0 : 0 ≤ q := by omega
      have q1 : q ≤ 1000000000 := by omega
      have a0 : 0 < a := by omega
      have AT := at_any hP
      rw [decide_eq_true a0] at AT
      have AT := Lib.hid AT
      clear hP
      by_cases hend : 0 < m ∧ m < (i : Int)
      · obtain ⟨he1, he2⟩ := hend
        have F2 := Lib.hid fun (w' : World) (h : PT w' b x y m q a) => fend h q0 q1 a0 hq' he1 he2
        clear hq' ha' hm'
        go_wp2_with fail
        refine AT.out.mono ?_
        rintro e w3 ⟨rfl, hP3, hk3⟩
        clear AT
        have F1 := Lib.hid (fwait hP3 q0 q1 a0)
        clear hP3
        go_wp2_with fail
        refine F1.out.mono ?_
        rintro e w4 ⟨rfl, hP4, hk4⟩
        clear F1
        go_wp2_with fail
        refine (F2.out w4 hP4).mono ?_
        rintro e w5 ⟨rfl, hP5, hk5⟩
        clear F2 hP4
        have A2 := at_any hP5
        rw [decide_eq_false (by decide)] at A2
        have A2 := Lib.hid A2
        clear hP5
        go_wp2_with fail
        refine A2.out.mono ?_
        rintro e w6 ⟨rfl, hP6, hk6⟩
        clear A2 hP6
        have HC := Lib.hid (awake_any w6)
        go_wp2_with (go_at_call 7; refine HC.out.mono ?_; rintro e w' ⟨rfl, ho⟩)
        go_ret
        exact ⟨rfl, ((((hO.trans hk3).trans' hk4 nb).trans' hk5 nb).trans hk6).trans ho⟩
      · have F2 := Lib.hid fun (w' : World) (h : PT w' b x y m q a) => fgo h q0 q1 a0 hq' hend
        have hn := Lib.hid (next_in (x := x) (y := y) (n := (i : Int)) (a := a) (by omega) (by omega) y1 (by omega))
        have HE := Lib.hid hend
        clear hq' ha' hm' hend
        generalize nextI x y (i : Int) a = a' at *
        go_wp2_with fail
        refine AT.out.mono ?_
        rintro e w3 ⟨rfl, hP3, hk3⟩
        clear AT
        have F1 := Lib.hid (fwait hP3 q0 q1 a0)
        clear hP3
        go_wp2_with fail
        refine F1.out.mono ?_
        rintro e w4 ⟨rfl, hP4, hk4⟩
        clear F1
        by_cases hmp : 0 < m
        · have he2 : ¬ m < (i : Int) := fun e => HE.out ⟨hmp, e⟩
          go_wp2_with fail
          refine (F2.out w4 hP4).mono ?_
          rintro e w5 ⟨rfl, hP5, hk5⟩
          clear F2 hP4
          have T := Lib.hid (tries_any hP5)
          go_wp2_with (go_at_call 16; refine T.out.mono ?_; rintro e w' ⟨rfl, rfl⟩)
          go_roundg (n.toNat + 1 - (i + 1))
          case measure => have := hk.out; omega
          case rel =>
            have hn := hn.out
            have ha := ha.out
            exact ⟨i + 1, a, i, a', rfl, by omega, by omega, rfl, by simp, hP5, Lib.hid (by simp), by omega, hn.1, Lib.hid (by simp; omega), Lib.hid (by omega), ((hO.trans hk3).trans' hk4 nb).trans' hk5 nb⟩
        · go_wp2_with fail
          refine (F2.out w4 hP4).mono ?_
          rintro e w5 ⟨rfl, hP5, hk5⟩
          clear F2 hP4
          have T := Lib.hid (tries_any hP5)
          go_wp2_with (go_at_call 16; refine T.out.mono ?_; rintro e w' ⟨rfl, rfl⟩)
          go_roundg (n.toNat + 1 - (i + 1))
          case measure => have := hk.out; omega
          case rel =>
            have hn := hn.out
            have ha := ha.out
            exact ⟨i + 1, a, i, a', rfl, by omega, by omega, rfl, by simp, hP5, Lib.hid (by simp), by omega, hn.1, Lib.hid (by simp; omega), Lib.hid (by omega), ((hO.trans hk3).trans' hk4 nb).trans' hk5 nb⟩
    · have HC := Lib.hid (awake_any wr)
      clear hP
      go_wp2_with (go_at_call 7; refine HC.out.mono ?_; rintro e w' ⟨rfl, ho⟩)
      go_ret
      exact ⟨rfl, hO.trans ho⟩
theorem walk (x y m n : Int) (w : World) (w0 : (Lit.int .i64 x).wf = true) (w1 : (Lit.int .i64 y).wf = true) (w2 : (Lit.int .i64 m).wf = true) (w3 : (Lit.int .i64 n).wf = true) :
    Calls Try.prog 5 #[.int .i64 x, .int .i64 y, .int .i64 m, .int .i64 n] w fun e w' => e = .returned (.bool true) ∧ Old w w' := by
  by_cases h : 1 ≤ x ∧ x ≤ 1000 ∧ x ≤ y ∧ y ≤ 100000 ∧ 0 ≤ m ∧ m ≤ 30 ∧ 0 ≤ n ∧ n ≤ 60
  · obtain ⟨h1, h2, h3, h4, h5, h6, h7, h8⟩ := h
    exact late x y m n w h1 h2 h3 h4 h5 h6 h7 h8
  · exact early x y m n w h
set_option maxRecDepth 100000 in
set_option maxHeartbeats 1000000 in
theorem lifted (os : Os) (started : os.Started) (H : Type) (enc : TypeId × Value → H) :
    ReturnsInHanded {} Try.checked os 5 .any (Rows.backoffEndsSpec.pre6 enc Try.prog Try.f5 Rows.backoffEndsRow.domain false) (Rows.backoffEndsSpec.post enc Try.prog Try.f5 false true false false) := by
  refine returnsInHanded_of_change (C := Try.checked) own started (by kernel_rfl) Try.func5
    (ChangeSpec.witness6 (enc := enc) (C := Try.checked) false ⟨#[], #[.int .i64 0, .int .i64 0, .int .i64 0, .int .i64 0], []⟩ 8 (by kernel_rfl) (by kernel_rfl) (by kernel_rfl) (by kernel_rfl)) ?_
  intro W base args ds gs before hval0 hW hcnd _
  have hval : ∀ (j : Nat) t v, Try.f5.params[j]? = some t → args[j]? = some v → Value.okWide Try.prog W .any base t v := hval0
  have hW' := hW
  obtain ⟨p, q, hA0, hV, rfl, hfz, hnd⟩ := hW
  have hA : DataW.TrodAll enc Try.prog W 0 (fun _ => true) true Try.f5.params.toList args.toList ds p := hA0
  rw [Try.params5] at hA hval
  obtain ⟨v0, vs0, d0, ds0, p0, q0, hargs, rfl, rfl, h0, r0⟩ := trodAll_cons hA
  obtain ⟨v1, vs1, d1, ds1, p1, q1, rfl, rfl, rfl, h1, r1⟩ := trodAll_cons r0
  obtain ⟨v2, vs2, d2, ds2, p2, q2, rfl, rfl, rfl, h2, r2⟩ := trodAll_cons r1
  obtain ⟨v3, vs3, d3, ds3, p3, q3, rfl, rfl, rfl, h3, r3⟩ := trodAll_cons r2
  obtain ⟨rfl, rfl, rfl⟩ := trodAll_nil r3
  obtain rfl : args = #[v0, v1, v2, v3] := by cases args; simp_all
  obtain ⟨rfl, rfl⟩ := trodVars_none hV
  obtain ⟨a0, rfl, rfl, rfl, w0⟩ := open_int Try.underlying3 (hval 0 3 v0 rfl rfl) h0
  obtain ⟨a1, rfl, rfl, rfl, w1⟩ := open_int Try.underlying3 (hval 1 3 v1 rfl rfl) h1
  obtain ⟨a2, rfl, rfl, rfl, w2⟩ := open_int Try.underlying3 (hval 2 3 v2 rfl rfl) h2
  obtain ⟨a3, rfl, rfl, rfl, w3⟩ := open_int Try.underlying3 (hval 3 3 v3 rfl rfl) h3
  clear hA0 hval0
  simp only [List.append_nil] at hW'
  refine (walk a0 a1 a2 a3 W w0 w1 w2 w3).mono fun e W' ⟨he, hg⟩ => ?_
  subst he
  exact ⟨_, rfl, post_of_old (pa := []) (pv := []) hW' (fun _ _ _ => (trodAll_cons_mk (shut_bool Try.underlying4 _) trodAll_mk0)) (fun sp _ => (trodAll_cons_mk (shut_int Try.underlying3 w0) (trodAll_cons_mk (shut_int Try.underlying3 w1) (trodAll_cons_mk (shut_int Try.underlying3 w2) (trodAll_cons_mk (shut_int Try.underlying3 w3) trodAll_mk0))))) (fun _ _ => rfl)
    hg (ok_one (by kernel_rfl) rfl (okWide_bool_mk Try.underlying4 _))⟩
theorem over : Rows.backoffEndsRow.holds Try.pinned (OpenSpec.ofChange Rows.backoffEndsSpec) :=
  OpenClaim.holds_of_wide 5 Try.f5 rfl rfl rfl rfl rfl rfl rfl ⟨rfl, rfl, rfl, rfl, rfl⟩ rfl rfl rfl rfl rfl (by kernel_rfl) Try.func5 (by kernel_rfl)
    (of_decide_eq_true (by kernel_rfl)) (by unfold Func.isWrapper; first | (rw [if_pos (by decide +kernel)]; kernel_rfl) | (rw [if_neg (by decide +kernel)]; exact ⟨rfl, rfl⟩))
    (fun os started H enc _ => lifted os started H enc)
theorem proved : Rows.BackoffEndsSaid :=
  over
#print axioms proved
end Go.Proofs.Ytacfpjnddakehaa.backoffEnds
