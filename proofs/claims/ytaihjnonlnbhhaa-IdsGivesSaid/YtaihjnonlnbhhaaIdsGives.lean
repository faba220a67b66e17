/- IdsGives (mizzenlaw9): for every last number and every count the law returns true (numbers are given one by one, from 1 to the last one, none twice, and no more) and its arguments read as before. Conditions: none. -/
import Derived.Test.YtaihjnonlnbhhaaRows
import Derived.Test.YtaihjnonlnbhhaaEnd
import Derived.Test.YtaihjnonlnbhhaaInts
import Derived.WalkKit
import Derived.ProofKit
import Derived.OpenShut
import Derived.Test.YtaihjnonlnbhhaaIdSt
set_option linter.unusedVariables false
namespace Go.Proofs.Ytaihjnonlnbhhaa.idsGives
open Go.ChangeShapes Go.WideShapes Go.ChangeAt Go.RowKit Go.Proofs.Ytaihjnonlnbhhaa.Hp Go.Proofs.Ytaihjnonlnbhhaa.End
open Opn IdM Idw
theorem own : ownKnob Try.prog.godebug = none := by kernel_rfl
attribute [local go_sem ↓] Go.wp_at_zero Go.wp_at_succ
/-- How many it has given. -/
def gvn (last : Int) (i : Nat) : Int := if (i : Int) < last then (i : Int) else last
set_option maxRecDepth 100000 in
set_option maxHeartbeats 8000000 in
theorem late (last : Int) (n : Nat) (w : World) (g1 : 1 ≤ last) (g2 : last ≤ top) (g4 : n ≤ 200) :
    Calls Try.prog 5 #[.int .u64 last, .int .i64 (n : Nat)] w fun e w' => e = .returned (.bool true) ∧ Old w w' := by
  have HC := Lib.hid fun w => awake_any w
  have NG := Lib.hid fun w => give_yes g1 g2 w
  have h2 : decide ((200 : Int) < (n : Int)) = false := by rw [decide_eq_false_iff_not]; omega
  have h3 : last ≤ 1152921504606846976 := g2
  have G2 := Lib.hid g2
  clear g2
  go_enter Try.func5, Try.ntmps5
  go_wp2_with fail
  with_reducible refine Calls.mono (NG.out _) ?_
  rintro e w1 ⟨g, rfl, hG, hk, hgs⟩
  have HG := Lib.hid hG
  have HK := Lib.hid hk
  have HS := Lib.hid hgs
  clear hG hk hgs NG
  go_wp2_with fail
  clear h2
  go_loopg [8] n (fun kx s8 wr => ∃ (i : Nat), Hid (n - i ≤ kx) ∧ i ≤ n ∧ s8 = .int .i64 (i : Nat) ∧ Hid (Gv wr g last (gvn last i)) ∧ Hid (Kept (fun _ => False) w wr))
  case atStart => exact ⟨0, Lib.hid (by omega), by omega, rfl, Lib.hid (by unfold gvn; rw [if_pos (by omega)]; exact HG.out), HK⟩
  case round =>
    obtain ⟨i, hm, hi, rfl, hG, hk⟩ := hrel
    rcases Nat.lt_or_ge i n with hlt | hge
    · have hw1 : IntKind.u64.wrap ((i : Nat) : Int) = (i : Int) := by rw [IntKind.wrap_u64]; omega
      have hw2 : IntKind.u64.wrap ((i : Int) + 1) = (i : Int) + 1 := by rw [IntKind.wrap_u64]; omega
      rcases Int.lt_or_le (i : Int) last with h | h
      · have hgi : gvn last i = (i : Int) := by unfold gvn; rw [if_pos h]
        have hgi2 : gvn last (i + 1) = (i : Int) + 1 := by unfold gvn; split <;> omega
        rw [hgi] at hG
        have HN := Lib.hid (next_yes hG.out (by omega) h G2.out)
        have HGI := Lib.hid hgi2
        clear hG hgi hgi2
        go_wp2_with fail
        with_reducible refine Calls.mono HN.out ?_
        rintro e w2 ⟨rfl, hg2, hk2⟩
        have HL := Lib.hid (last_any hg2)
        have HG2 := Lib.hid hg2
        have HK2 : Hid (Kept (fun _ => False) w w2) := Lib.hid (hk.out.trans' hk2 (fun j hj e => by have := HS.out; have := HK.out.size; omega))
        clear hg2 hk2 HN
        go_wp2_with fail
        with_reducible refine Calls.mono HL.out ?_
        rintro e w3 ⟨rfl, rfl⟩
        go_wp2_with fail
        go_roundg (n - (i + 1))
        case measure => have := hm.out; omega
        case rel => exact ⟨i + 1, Lib.hid (Nat.le_refl _), by omega, by go_num, Lib.hid (by rw [HGI.out]; exact HG2.out), HK2⟩
      · have hgi : gvn last i = last := by unfold gvn; rw [if_neg (by omega)]
        have hgi2 : gvn last (i + 1) = last := by unfold gvn; rw [if_neg (by omega)]
        rw [hgi] at hG
        have h' : decide ((i : Int) < last) = false := by rw [decide_eq_false_iff_not]; omega
        have HN := Lib.hid (next_no hG.out (Int.le_refl _))
        have HGI := Lib.hid hgi2
        clear hgi hgi2 h
        go_wp2_with fail
        with_reducible refine Calls.mono HN.out ?_
        rintro e w2 ⟨rfl, hk2⟩
        have hg2 : Gv w2 g last last := hk2.blk hG.out (fun f => f)
        have HL := Lib.hid (last_any hg2)
        have HG2 := Lib.hid hg2
        have HK2 : Hid (Kept (fun _ => False) w w2) := Lib.hid (hk.out.trans hk2)
        clear hg2 hk2 HN
        go_wp2_with fail
        with_reducible refine Calls.mono HL.out ?_
        rintro e w3 ⟨rfl, rfl⟩
        go_wp2_with fail
        go_roundg (n - (i + 1))
        case measure => have := hm.out; omega
        case rel => exact ⟨i + 1, Lib.hid (Nat.le_refl _), by omega, by go_num, Lib.hid (by rw [HGI.out]; exact HG2.out), HK2⟩
    · have hge' : ¬ ((i : Int) < (n : Int)) := by omega
      go_wp2_with fail
      with_reducible refine Calls.mono (HC.out _) ?_
      rintro e w2 ⟨rfl, ho⟩
      go_wp2_with fail
      go_ret
      exact ⟨rfl, hk.out.trans ho⟩
set_option maxRecDepth 100000 in
set_option maxHeartbeats 4000000 in
theorem early (last n : Int) (w : World) (h : ¬ (0 ≤ n ∧ n ≤ 200)) :
    Calls Try.prog 5 #[.int .u64 last, .int .i64 n] w fun e w' => e = .returned (.bool true) ∧ Old w w' := by
  have HC := Lib.hid fun w => awake_any w
  have hc : n < 0 ∨ (decide (n < 0) = false ∧ 200 < n) := by rw [decide_eq_false_iff_not]; omega
  clear h
  rcases hc with h1 | ⟨h1, h2⟩
  all_goals
    go_enter Try.func5, Try.ntmps5
    go_wp2_with fail
    with_reducible refine Calls.mono (HC.out _) ?_
    rintro e w' ⟨rfl, ho⟩
    go_wp2_with fail
    go_ret
    exact ⟨rfl, ho⟩
set_option maxRecDepth 100000 in
set_option maxHeartbeats 4000000 in
theorem wrong (last : Int) (n : Nat) (w : World) (h : ¬ (1 ≤ last ∧ last ≤ top)) (g4 : n ≤ 200) :
    Calls Try.prog 5 #[.int .u64 last, .int .i64 (n : Nat)] w fun e w' => e = .returned (.bool true) ∧ Old w w' := by
  have HC := Lib.hid fun w => awake_any w
  have NG := Lib.hid fun w => give_no h w
  have h2 : decide ((200 : Int) < (n : Int)) = false := by rw [decide_eq_false_iff_not]; omega
  have hc : (decide (1 ≤ last) = false) ∨ (1 ≤ last ∧ decide (last ≤ 1152921504606846976) = false) := by
    have : (top : Int) = 1152921504606846976 := rfl
    rw [decide_eq_false_iff_not, decide_eq_false_iff_not]; omega
  clear h
  rcases hc with h3 | ⟨h3, h4⟩
  all_goals
    go_enter Try.func5, Try.ntmps5
    go_wp2_with fail
    with_reducible refine Calls.mono (NG.out _) ?_
    rintro e w1 ⟨rfl, rfl⟩
    go_wp2_with fail
    with_reducible refine Calls.mono (HC.out _) ?_
    rintro e w' ⟨rfl, ho⟩
    go_wp2_with fail
    go_ret
    exact ⟨rfl, ho⟩
theorem walk (last n : Int) (w : World) (w0 : (Lit.int .u64 last).wf = true) (w1 : (Lit.int .i64 n).wf = true) :
    Calls Try.prog 5 #[.int .u64 last, .int .i64 n] w fun e w' => e = .returned (.bool true) ∧ Old w w' := by
  by_cases h : 0 ≤ n ∧ n ≤ 200
  · obtain ⟨k, rfl⟩ : ∃ k : Nat, n = k := ⟨n.toNat, by omega⟩
    by_cases h2 : 1 ≤ last ∧ last ≤ top
    · exact late last k w h2.1 h2.2 (by omega)
    · exact wrong last k w h2 (by omega)
  · exact early last n w h
set_option maxRecDepth 100000 in
set_option maxHeartbeats 1000000 in
theorem lifted (os : Os) (started : os.Started) (H : Type) (enc : TypeId × Value → H) :
    ReturnsInHanded {} Try.checked os 5 .any (Rows.idsGivesSpec.pre6 enc Try.prog Try.f5 Rows.idsGivesRow.domain false) (Rows.idsGivesSpec.post enc Try.prog Try.f5 false true false false) := by
  refine returnsInHanded_of_change (C := Try.checked) own started (by kernel_rfl) Try.func5
    (ChangeSpec.witness6 (enc := enc) (C := Try.checked) false ⟨#[], #[.int .u64 0, .int .i64 0], []⟩ 8 (by kernel_rfl) (by kernel_rfl) (by kernel_rfl) (by kernel_rfl)) ?_
  intro W base args ds gs before hval0 hW hcnd _
  have hval : ∀ (j : Nat) t v, Try.f5.params[j]? = some t → args[j]? = some v → Value.okWide Try.prog W .any base t v := hval0
  have hW' := hW
  obtain ⟨p, q, hA0, hV, rfl, hfz, hnd⟩ := hW
  have hA : DataW.TrodAll enc Try.prog W 0 (fun _ => true) true Try.f5.params.toList args.toList ds p := hA0
  rw [Try.params5] at hA hval
  obtain ⟨v0, vs0, d0, ds0, p0, q0, hargs, rfl, rfl, h0, r0⟩ := trodAll_cons hA
  obtain ⟨v1, vs1, d1, ds1, p1, q1, rfl, rfl, rfl, h1, r1⟩ := trodAll_cons r0
  obtain ⟨rfl, rfl, rfl⟩ := trodAll_nil r1
  obtain rfl : args = #[v0, v1] := by cases args; simp_all
  obtain ⟨rfl, rfl⟩ := trodVars_none hV
  obtain ⟨a0, rfl, rfl, rfl, w0⟩ := open_int Try.underlying30 (hval 0 30 v0 rfl rfl) h0
  obtain ⟨a1, rfl, rfl, rfl, w1⟩ := open_int Try.underlying3 (hval 1 3 v1 rfl rfl) h1
  clear hA0 hval0
  simp only [List.append_nil] at hW'
  refine (walk a0 a1 W w0 w1).mono fun e W' ⟨he, hg⟩ => ?_
  subst he
  exact ⟨_, rfl, post_of_old (pa := []) (pv := []) hW' (fun _ _ _ => (trodAll_cons_mk (shut_bool Try.underlying4 _) trodAll_mk0)) (fun sp _ => (trodAll_cons_mk (shut_int Try.underlying30 w0) (trodAll_cons_mk (shut_int Try.underlying3 w1) trodAll_mk0))) (fun _ _ => rfl)
    hg (ok_one (by kernel_rfl) rfl (okWide_bool_mk Try.underlying4 _))⟩
theorem over : Rows.idsGivesRow.holds Try.pinned (OpenSpec.ofChange Rows.idsGivesSpec) :=
  OpenClaim.holds_of_wide 5 Try.f5 rfl rfl rfl rfl rfl rfl rfl ⟨rfl, rfl, rfl, rfl, rfl⟩ rfl rfl rfl rfl rfl (by kernel_rfl) Try.func5 (by kernel_rfl)
    (of_decide_eq_true (by kernel_rfl)) (by unfold Func.isWrapper; first | (rw [if_pos (by decide +kernel)]; kernel_rfl) | (rw [if_neg (by decide +kernel)]; exact ⟨rfl, rfl⟩))
    (fun os started H enc _ => lifted os started H enc)
theorem proved : Rows.IdsGivesSaid :=
  over
#print axioms proved
end Go.Proofs.Ytaihjnonlnbhhaa.idsGives
