/- IdsLowest (mizzenlaw9): for every list of open numbers, every next one and every number the law returns true (all may be retired below the least that is open, or the next one; nothing knows no numbers) and its arguments read as before. Conditions: none. -/
import Derived.Test.YtaihjnonlnbhhaaRows
import Derived.Test.YtaihjnonlnbhhaaEnd
import Derived.Test.YtaihjnonlnbhhaaInts
import Derived.WalkKit
import Derived.ProofKit
import Derived.OpenShut
import Derived.Test.YtaihjnonlnbhhaaIdSt
import Derived.Test.YtaihjnonlnbhhaaU64
set_option linter.unusedVariables false
namespace Go.Proofs.Ytaihjnonlnbhhaa.idsLowest
open Go.ChangeShapes Go.WideShapes Go.ChangeAt Go.RowKit Go.Proofs.Ytaihjnonlnbhhaa.Hp Go.Proofs.Ytaihjnonlnbhhaa.End
open Opn IdM Idw
theorem own : ownKnob Try.prog.godebug = none := by kernel_rfl
attribute [local go_sem ↓] Go.wp_at_zero Go.wp_at_succ
set_option maxRecDepth 100000 in
set_option maxHeartbeats 4000000 in
theorem early (a0 : List Int) (s0 : Option Addr) (cap0 : Nat) (m n : Int) (w : World) (h : ¬ a0.length ≤ 60) :
    Calls Try.prog 6 #[.slice s0 a0.length cap0, .int .u64 m, .int .u64 n] w fun e w' => e = .returned (.bool true) ∧ Old w w' := by
  have HC := Lib.hid fun w => awake_any w
  have h1 : (60 : Int) < (a0.length : Int) := by omega
  go_enter Try.func6, Try.ntmps6
  go_wp2_with fail
  with_reducible refine Calls.mono (HC.out _) ?_
  rintro e w' ⟨rfl, ho⟩
  go_wp2_with fail
  go_ret
  exact ⟨rfl, ho⟩
set_option maxRecDepth 100000 in
set_option maxHeartbeats 8000000 in
theorem late (a0 : List Int) (s0 : Option Addr) (cap0 : Nat) (m n : Int) (w : World) (w0 : Uints w s0 cap0 a0) (h : a0.length ≤ 60) (hn0 : 0 ≤ n) :
    Calls Try.prog 6 #[.slice s0 a0.length cap0, .int .u64 m, .int .u64 n] w fun e w' => e = .returned (.bool true) ∧ Old w w' := by
  have HC := Lib.hid fun w => awake_any w
  have N := Lib.hid fun w => new_st (most := 5) (by omega) (by omega) w
  have W0 := Lib.hid w0
  have h1 : decide ((60 : Int) < (a0.length : Int)) = false := by rw [decide_eq_false_iff_not]; omega
  have X := Lib.hid fun w => next_nil w
  have XI := Lib.hid fun w => is_nil n w
  have XR := Lib.hid fun w => retire_nil n w
  have XM := Lib.hid fun w => mark_nil w
  have XL := Lib.hid fun w => len_nil w
  have XG := Lib.hid fun w => last_nil w
  clear w0
  obtain ⟨zl, hzl⟩ : ∃ zl, a0.length = zl := ⟨_, rfl⟩
  have HZ := Lib.hid hzl
  rw [hzl] at h h1 ⊢
  clear hzl
  go_enter Try.func6, Try.ntmps6
  go_wp2_with fail
  with_reducible refine Calls.mono (N.out _) ?_
  rintro e w1 ⟨b, F, rfl, hS, _⟩
  have HS := Lib.hid hS
  clear hS N
  go_wp2_with fail
  clear h1
  go_loopg [9, 10] zl (fun kx s9 s10 wr => ∃ (i : Nat), Hid (zl - i ≤ kx) ∧ i ≤ zl ∧ s10 = .int .i64 (i : Nat) ∧ s9 = .int .u64 (least m (a0.take i)) ∧ w1 = wr)
  case atStart => exact ⟨0, Lib.hid (by omega), by omega, rfl, by rw [List.take_zero]; rfl, rfl⟩
  case round =>
    obtain ⟨i, hm, hi, rfl, rfl, rfl⟩ := hrel
    rcases Nat.lt_or_ge i zl with hlt | hge
    · obtain ⟨x, hx⟩ : ∃ x, a0[i]? = some x := ⟨_, List.getElem?_eq_getElem (by rw [HZ.out]; exact hlt)⟩
      obtain ⟨g, off, rfl, hg, hc⟩ := W0.out.at HS.out.1 (j := i) (by rw [HZ.out]; exact hlt)
      rw [(List.getElem?_eq_some_iff.1 hx).2] at hc
      have hs := least_succ m hx
      obtain ⟨y, hy⟩ : ∃ y, least m (a0.take i) = y := ⟨_, rfl⟩
      obtain ⟨z, hz⟩ : ∃ z, least m (a0.take (i + 1)) = z := ⟨_, rfl⟩
      rw [hy, hz] at hs
      rw [hy]
      have HZ2 := Lib.hid hz
      have hs' := hs.symm
      clear hx hy hz hs
      go_wp2_with fail
      go_roundg (zl - (i + 1))
      case measure => have := hm.out; omega
      case rel => exact ⟨i + 1, Lib.hid (Nat.le_refl _), by omega, by go_num, by rw [HZ2.out], rfl⟩
    · obtain rfl : i = zl := by omega
      have hlz : a0.take i = a0 := by rw [← HZ.out, List.take_length]
      rw [hlz]
      clear hlz
      have hge' : ¬ ((i : Int) < (i : Int)) := by omega
      have LO : Hid (∀ w', Kept (fun _ => False) w1 w' → Calls Try.prog 23 #[.pointer (some ⟨b, 0, none⟩), .slice s0 i cap0, .int .u64 m] w' fun e w'' => e = .returned (.int .u64 (least m a0)) ∧ w' = w'') := Lib.hid fun w' k => by
        have hS := HS.out.old k
        obtain ⟨h0, v, wa, h1, _⟩ := id hS
        have := lowest_any h1 W0.out h0 (by rw [HZ.out]; omega) m
        rw [HZ.out] at this
        exact this
      generalize least m a0 = r at *
      have hc : ∃ bad : Int, Hid (bad = if n < 1 ∨ top < n then 1 else 4) ∧ ((bad = 1 ∧ n = 0) ∨ (bad = 1 ∧ (n == 0) = false ∧ 1152921504606846976 < n) ∨ (bad = 4 ∧ (n == 0) = false ∧ decide ((1152921504606846976 : Int) < n) = false)) := by
        have : (top : Int) = 1152921504606846976 := rfl
        rw [beq_eq_false_iff_ne, decide_eq_false_iff_not]
        by_cases h : n < 1 ∨ top < n
        · exact ⟨1, Lib.hid (by rw [if_pos h]), by omega⟩
        · exact ⟨4, Lib.hid (by rw [if_neg h]), by omega⟩
      obtain ⟨bad, hbad, hc⟩ := hc
      have XD := Lib.hid fun w => done_nil n bad hbad.out w
      clear hbad hn0
      rcases hc with ⟨rfl, rfl⟩ | ⟨rfl, h2, h3⟩ | ⟨rfl, h2, h3⟩
      all_goals
        go_wp2_with fail
        with_reducible refine Calls.mono (X.out _) ?_
        rintro e w2 ⟨rfl, k2⟩
        have HK := Lib.hid k2
        clear k2
        go_wp2_with fail
        with_reducible refine Calls.mono (LO.out _ HK.out) ?_
        rintro e w3 ⟨rfl, rfl⟩
        go_wp2_with fail
        with_reducible refine Calls.mono (XD.out _) ?_
        rintro e w3 ⟨rfl, rfl⟩
        go_wp2_with fail
        with_reducible refine Calls.mono (XI.out _) ?_
        rintro e w3 ⟨rfl, rfl⟩
        go_wp2_with fail
        with_reducible refine Calls.mono (XR.out _) ?_
        rintro e w3 ⟨rfl, rfl⟩
        go_wp2_with fail
        with_reducible refine Calls.mono (XM.out _) ?_
        rintro e w3 ⟨rfl, rfl⟩
        go_wp2_with fail
        with_reducible refine Calls.mono (XL.out _) ?_
        rintro e w3 ⟨rfl, rfl⟩
        go_wp2_with fail
        with_reducible refine Calls.mono (XG.out _) ?_
        rintro e w3 ⟨rfl, rfl⟩
        go_wp2_with fail
        with_reducible refine Calls.mono (HC.out _) ?_
        rintro e w4 ⟨rfl, ho⟩
        go_wp2_with fail
        go_ret
        exact ⟨rfl, (HS.out.1.trans HK.out).trans ho⟩
theorem walk (a0 : List Int) (s0 : Option Addr) (cap0 : Nat) (m n : Int) (w : World) (w0 : Uints w s0 cap0 a0) (w1 : (Lit.int .u64 m).wf = true) (w2 : (Lit.int .u64 n).wf = true) :
    Calls Try.prog 6 #[.slice s0 a0.length cap0, .int .u64 m, .int .u64 n] w fun e w' => e = .returned (.bool true) ∧ Old w w' := by
  by_cases h : a0.length ≤ 60
  · exact late a0 s0 cap0 m n w w0 h (bounds_u64 w2).1
  · exact early a0 s0 cap0 m n w h
set_option maxRecDepth 100000 in
set_option maxHeartbeats 1000000 in
theorem lifted (os : Os) (started : os.Started) (H : Type) (enc : TypeId × Value → H) :
    ReturnsInHanded {} Try.checked os 6 .any (Rows.idsLowestSpec.pre6 enc Try.prog Try.f6 Rows.idsLowestRow.domain false) (Rows.idsLowestSpec.post enc Try.prog Try.f6 false true false false) := by
  refine returnsInHanded_of_change (C := Try.checked) own started (by kernel_rfl) Try.func6
    (ChangeSpec.witness6 (enc := enc) (C := Try.checked) false ⟨#[], #[.slice none 0 0, .int .u64 0, .int .u64 0], []⟩ 8 (by kernel_rfl) (by kernel_rfl) (by kernel_rfl) (by kernel_rfl)) ?_
  intro W base args ds gs before hval0 hW hcnd _
  have hval : ∀ (j : Nat) t v, Try.f6.params[j]? = some t → args[j]? = some v → Value.okWide Try.prog W .any base t v := hval0
  have hW' := hW
  obtain ⟨p, q, hA0, hV, rfl, hfz, hnd⟩ := hW
  have hA : DataW.TrodAll enc Try.prog W 0 (fun _ => true) true Try.f6.params.toList args.toList ds p := hA0
  rw [Try.params6] at hA hval
  obtain ⟨v0, vs0, d0, ds0, p0, q0, hargs, rfl, rfl, h0, r0⟩ := trodAll_cons hA
  obtain ⟨v1, vs1, d1, ds1, p1, q1, rfl, rfl, rfl, h1, r1⟩ := trodAll_cons r0
  obtain ⟨v2, vs2, d2, ds2, p2, q2, rfl, rfl, rfl, h2, r2⟩ := trodAll_cons r1
  obtain ⟨rfl, rfl, rfl⟩ := trodAll_nil r2
  obtain rfl : args = #[v0, v1, v2] := by cases args; simp_all
  obtain ⟨rfl, rfl⟩ := trodVars_none hV
  obtain ⟨s0, cap0, a0, rfl, w0⟩ := Opn.uints_of Try.underlying23 Try.underlying30 (by kernel_rfl) (hval 0 23 v0 rfl rfl) h0
  obtain ⟨a1, rfl, rfl, rfl, w1⟩ := open_int Try.underlying30 (hval 1 30 v1 rfl rfl) h1
  obtain ⟨a2, rfl, rfl, rfl, w2⟩ := open_int Try.underlying30 (hval 2 30 v2 rfl rfl) h2
  clear hA0 hval0
  refine (walk a0 s0 cap0 a1 a2 W w0 w1 w2).mono fun e W' ⟨he, hg⟩ => ?_
  subst he
  exact ⟨_, rfl, post_of_old hW' (fun _ _ _ => (trodAll_cons_mk (shut_bool Try.underlying4 _) trodAll_mk0)) (fun sp hsp => (trodAll_cons_mk (Opn.back (by kernel_rfl) (of_decide_eq_true (by kernel_rfl)) h0 hg (fun x hx => hW'.lt x (by simp [hx])) (fun x hx => hsp x (by simp [hx]))) (trodAll_cons_mk (shut_int Try.underlying30 w1) (trodAll_cons_mk (shut_int Try.underlying30 w2) trodAll_mk0)))) (fun _ _ => rfl)
    hg (ok_one (by kernel_rfl) rfl (okWide_bool_mk Try.underlying4 _))⟩
theorem over : Rows.idsLowestRow.holds Try.pinned (OpenSpec.ofChange Rows.idsLowestSpec) :=
  OpenClaim.holds_of_wide 6 Try.f6 rfl rfl rfl rfl rfl rfl rfl ⟨rfl, rfl, rfl, rfl, rfl⟩ rfl rfl rfl rfl rfl (by kernel_rfl) Try.func6 (by kernel_rfl)
    (of_decide_eq_true (by kernel_rfl)) (by unfold Func.isWrapper; first | (rw [if_pos (by decide +kernel)]; kernel_rfl) | (rw [if_neg (by decide +kernel)]; exact ⟨rfl, rfl⟩))
    (fun os started H enc _ => lifted os started H enc)
theorem proved : Rows.IdsLowestSaid :=
  over
#print axioms proved
end Go.Proofs.Ytaihjnonlnbhhaa.idsLowest
