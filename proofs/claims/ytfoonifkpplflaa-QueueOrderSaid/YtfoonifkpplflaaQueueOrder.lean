/- QueueOrder (mizzenlaw12): for every list of lines the law returns true (what stands there comes by its line, the highest first, and in each line as it came; no room is used behind it) and its argument reads as before. Conditions: none. -/
import Derived.Test.YtfoonifkpplflaaRows
import Derived.Test.YtfoonifkpplflaaEnd
import Derived.Test.YtfoonifkpplflaaInts
import Derived.WalkKit
import Derived.ProofKit
import Derived.OpenShut
import Derived.Test.YtfoonifkpplflaaQuSize
import Derived.Test.YtfoonifkpplflaaQuOrd
import Derived.Test.YtfoonifkpplflaaRnd
set_option linter.unusedVariables false
namespace Go.Proofs.Ytfoonifkpplflaa.queueOrder
open Go.ChangeShapes Go.WideShapes Go.ChangeAt Go.RowKit Go.Proofs.Ytfoonifkpplflaa.Hp Go.Proofs.Ytfoonifkpplflaa.End
open Opn QuM Qu Rw
theorem own : ownKnob Try.prog.godebug = none := by kernel_rfl
attribute [local go_sem ↓] Go.wp_at_zero Go.wp_at_succ
/-- The line of the i-th. -/
def lin (a : List Int) (i : Nat) : Nat := ((a.getD i 0) % 8).toNat
theorem lin_lt (a : List Int) (i : Nat) : lin a i < 8 := by unfold lin; omega
theorem lin_eq {a : List Int} {i : Nat} {y : Int} (h : a[i]? = some y) : y % 8 = ((lin a i : Nat) : Int) := by
  unfold lin
  rw [List.getD_eq_getElem?_getD, h]
  show y % 8 = (((y % 8).toNat : Nat) : Int)
  omega
set_option maxRecDepth 100000 in
set_option maxHeartbeats 4000000 in
theorem early (a1 : List Int) (s1 : Option Addr) (cap1 : Nat) (w : World) (h : ¬ a1.length ≤ 100) :
    Calls Try.prog 4 #[.slice s1 a1.length cap1] w fun e w' => e = .returned (.bool true) ∧ Old w w' := by
  have HC := Lib.hid fun w => awake_any w
  have h1 : (100 : Int) < (a1.length : Int) := by omega
  clear h
  go_enter Try.func4, Try.ntmps4
  go_wp2_with fail
  with_reducible refine Calls.mono (HC.out _) ?_
  rintro e w' ⟨rfl, ho⟩
  go_wp2_with fail
  go_ret
  exact ⟨rfl, ho⟩
set_option maxRecDepth 100000 in
set_option maxHeartbeats 8000000 in
theorem late (a1 : List Int) (s1 : Option Addr) (cap1 : Nat) (w : World) (w1 : Ints w s1 cap1 a1) (g3 : a1.length ≤ 100) :
    Calls Try.prog 4 #[.slice s1 a1.length cap1] w fun e w' => e = .returned (.bool true) ∧ Old w w' := by
  have HC := Lib.hid fun w => awake_any w
  have N := Lib.hid fun w => new_yes (room := 1048576) (by decide) (by decide) w
  have W1 := Lib.hid w1
  have h3 : decide ((100 : Int) < (a1.length : Int)) = false := by rw [decide_eq_false_iff_not]; omega
  clear w1
  obtain ⟨zl, hzl⟩ : ∃ zl, a1.length = zl := ⟨_, rfl⟩
  have HZ := Lib.hid hzl
  rw [hzl] at g3 h3 ⊢
  clear hzl
  go_enter Try.func4, Try.ntmps4
  go_wp2_with fail
  with_reducible refine Calls.mono (N.out _) ?_
  rintro e w2 ⟨b, F, rfl, hS, _⟩
  have HS := Lib.hid hS
  clear hS N
  go_wp2_with fail
  clear h3
  go_loopg [5] zl (fun kx s5 wr => ∃ (i : Nat) (ls : Nat → List Bx) (F : Nat → Prop), Hid (zl - i ≤ kx) ∧ i ≤ zl ∧ s5 = .int .i64 (i : Nat) ∧ Hid (cnt ls 8 = i) ∧ Hid (Ord (lin a1) i ls) ∧ Hid (St w b 1048576 ls F wr))
  case atStart => exact ⟨0, fun _ => [], F, Lib.hid (by omega), by omega, rfl, Lib.hid rfl, Lib.hid (Ord.new _), HS⟩
  case round =>
    clear HS
    obtain ⟨i, ls, F, hm, hi, rfl, hcn, hO, hS⟩ := hrel
    rcases Nat.lt_or_ge i zl with hlt | hge
    · obtain ⟨y, hy⟩ : ∃ y, a1[i]? = some y := ⟨_, List.getElem?_eq_getElem (by rw [HZ.out]; exact hlt)⟩
      obtain ⟨g, off, rfl, hg, hc⟩ := W1.out.at hS.out.1 (j := i) (by rw [HZ.out]; exact hlt)
      have hwf := W1.out.wf (j := i) (by rw [HZ.out]; exact hlt)
      rw [(List.getElem?_eq_some_iff.1 hy).2] at hc hwf
      have hl := lin_eq hy
      have hp := lin_lt a1 i
      have RD := Lib.hid fun w => Rnd.round_pos (k := y) (n := 8) (by decide) (by decide) hwf.1 hwf.2 w
      rw [hl] at RD
      have PU := Lib.hid (push_ok hS.out (p := lin a1 i) (K := ((lin a1 i : Nat) : Int)) rfl hp (x := (10, ((i : Nat) : Int))) (by rw [hO.out.tc, hcn.out, show szI 10 = 10 by decide]; omega) (by have := len_le_cnt (ls := ls) hp; have := hcn.out; omega))
      have HO2 := Lib.hid (hO.out.push hp)
      have HC2 := Lib.hid (push_tc hp hO.out.tc (i : Nat)).2
      clear hl hy hwf hO hS
      generalize upd ls (lin a1 i) (ls (lin a1 i) ++ [(10, ((i : Nat) : Int))]) = ls' at *
      generalize lin a1 i = p at *
      go_wp2_with fail
      with_reducible refine Calls.mono (RD.out _) ?_
      rintro e w3 ⟨rfl, rfl⟩
      go_wp2_with fail
      with_reducible refine Calls.mono PU.out ?_
      rintro e w4 ⟨rfl, F', hS4, _⟩
      have HS4 := Lib.hid hS4
      clear hS4 PU
      go_wp2_with fail
      go_roundg (zl - (i + 1))
      case measure => have := hm.out; omega
      case rel => exact ⟨i + 1, ls', F', Lib.hid (Nat.le_refl _), by omega, by go_num, Lib.hid (by rw [HC2.out, hcn.out]), HO2, HS4⟩
    · have hge' : ¬ ((i : Int) < (zl : Int)) := by omega
      obtain rfl : i = zl := by omega
      go_wp2_with fail
      clear hge hge' hm hi
      obtain ⟨wo, hwo⟩ : ∃ wo : World, wo = wr := ⟨_, rfl⟩
      rw [← hwo] at hS ⊢
      clear hwo
      go_loopg [6, 7, 8] i (fun kx s6 s7 s8 wr => ∃ (j : Nat) (ls : Nat → List Bx) (F : Nat → Prop) (last : Nat) (at' : Int), Hid (i - j ≤ kx) ∧ j ≤ i ∧ s8 = .int .i64 (j : Nat) ∧ s6 = .int .i64 (last : Nat) ∧ s7 = .int .i64 at' ∧ Hid (cnt ls 8 + j = i) ∧ Hid (Ord (lin a1) i ls) ∧ Hid (Aft ls last at') ∧ Hid (St w b 1048576 ls F wr))
      case atStart => exact ⟨0, ls, F, 8, -1, Lib.hid (by omega), by omega, rfl, rfl, rfl, Lib.hid (by have := hcn.out; omega), hO, Lib.hid (aft_new ls), hS⟩
      case round =>
        clear hcn hO hS
        obtain ⟨j, ls, F, last, at', hm, hj, rfl, rfl, rfl, hcn, hO, hA, hS⟩ := hrel
        rcases Nat.lt_or_ge j i with hlt | hge
        · obtain ⟨p, x, R, ht, hp, hx⟩ := top_of_cnt (ls := ls) (by have := hcn.out; omega)
          obtain ⟨hO2, hc2, v, rfl, hv, hrv, hlt2⟩ := hO.out.pop hp hx
          obtain ⟨hpl, hat, hA2⟩ := hA.out.pop ht hx hlt2
          have PO := Lib.hid (pop_some hS.out ht hx (by have := len_le_cnt (ls := ls) hp; have := hcn.out; omega))
          obtain ⟨y, hy⟩ : ∃ y, a1[v]? = some y := ⟨_, List.getElem?_eq_getElem (by rw [HZ.out]; exact hv)⟩
          have hl := lin_eq hy
          rw [hrv] at hl
          have hwf := W1.out.wf (j := v) (by rw [HZ.out]; exact hv)
          rw [(List.getElem?_eq_some_iff.1 hy).2] at hwf
          have RD := Lib.hid fun w => Rnd.round_pos (k := y) (n := 8) (by decide) (by decide) hwf.1 hwf.2 w
          rw [hl] at RD
          have HX : Hid (∀ w', Old w w' → ∃ g off, s1 = some ⟨g, off, none⟩ ∧ w'.cell? ⟨g, off + v, none⟩ = some (.int .i64 y)) := Lib.hid fun w' ho => by
            obtain ⟨g, off, e, hg, hc⟩ := W1.out.at ho (j := v) (by rw [HZ.out]; exact hv)
            rw [(List.getElem?_eq_some_iff.1 hy).2] at hc
            exact ⟨g, off, e, hc⟩
          have HO2 := Lib.hid hO2
          have HA2 := Lib.hid hA2
          have HC2 := Lib.hid hc2
          have HAT := Lib.hid hat
          clear hO2 hA2 hc2 hat hx ht hrv hlt2 hl hwf hy hO hA hS
          generalize upd ls p R = ls' at *
          go_wp2_with fail
          with_reducible refine Calls.mono PO.out ?_
          rintro e w4 ⟨rfl, F', hS4, _⟩
          have hbx := Blk.new w4 [.int .i64 10, .int .i64 (v : Nat)] bT.E
          have hka := (Kept.refl (fun _ => False) w4).alloc (.cells #[.int .i64 10, .int .i64 (v : Nat)] bT.E)
          have HS5 := Lib.hid (hS4.old hka)
          dsimp only [List.toArray] at hbx
          clear hka hS4 PO
          go_upto_region 16 with fail
          generalize w4.alloc (.cells #[.int .i64 10, .int .i64 (v : Nat)] 29) = w5 at *
          generalize w4.heap.size = xb at *
          have x0 := hbx.cell (o := 0) rfl
          have x1 := hbx.cell (o := 1) rfl
          obtain ⟨g, off, rfl, hc⟩ := HX.out w5 HS5.out.1
          have hpl' : ¬ ((last : Int) < (p : Int)) := by omega
          have hvi : (v : Int) < (i : Int) := by omega
          have hvn : ¬ ((i : Int) ≤ (v : Int)) := by omega
          clear hbx HX
          have HT : Hid (St w b 1048576 ls' F' w5) := HS5
          by_cases hpe : p = last
          · subst hpe
            have hav : ¬ ((v : Int) ≤ at') := by have : at' < (v : Int) := HAT.out rfl; omega
            clear HAT
            go_upto_region 18 with (go_at_call 19; (with_reducible refine Calls.mono (RD.out _) ?_); rintro e w6 ⟨rfl, rfl⟩)
            go_quiet (fail)
            have HT2 := Lib.hid (HT.out.old ((Kept.refl (fun _ => False) w5).drewN nq))
            clear hc x0 x1
            go_wp2_with fail
            go_roundg (i - (j + 1))
            case measure => have := hm.out; omega
            case rel => exact ⟨j + 1, ls', F', p, _, Lib.hid (Nat.le_refl _), by omega, by go_num, rfl, rfl, Lib.hid (by have := hcn.out; have := HC2.out; omega), HO2, HA2, HT2⟩
          · have hpe1 : ((p : Int) == (last : Int)) = false := by rw [beq_eq_false_iff_ne]; omega
            have hpe2 : ¬ ((p : Int) = (last : Int)) := by omega
            clear HAT
            go_upto_region 18 with (go_at_call 19; (with_reducible refine Calls.mono (RD.out _) ?_); rintro e w6 ⟨rfl, rfl⟩)
            go_quiet (fail)
            have HT2 := Lib.hid (HT.out.old ((Kept.refl (fun _ => False) w5).drewN nq))
            clear hc x0 x1
            go_wp2_with fail
            go_roundg (i - (j + 1))
            case measure => have := hm.out; omega
            case rel => exact ⟨j + 1, ls', F', p, _, Lib.hid (Nat.le_refl _), by omega, by go_num, rfl, rfl, Lib.hid (by have := hcn.out; have := HC2.out; omega), HO2, HA2, HT2⟩
        · have hge' : ¬ ((j : Int) < (i : Int)) := by omega
          have hc0 : cnt ls 8 = 0 := by have := hcn.out; omega
          have LX := Lib.hid (len_any hS.out (by omega))
          have UX := Lib.hid (used_any hS.out)
          rw [hc0] at LX
          rw [hO.out.tc, hc0] at UX
          have HS0 := Lib.hid hS.out.1
          clear hS hO hA hc0 hcn
          go_wp2_with fail
          with_reducible refine Calls.mono LX.out ?_
          rintro e w3 ⟨rfl, rfl⟩
          go_wp2_with fail
          with_reducible refine Calls.mono UX.out ?_
          rintro e w3 ⟨rfl, rfl⟩
          go_wp2_with fail
          with_reducible refine Calls.mono (HC.out _) ?_
          rintro e w4 ⟨rfl, ho⟩
          go_wp2_with fail
          go_ret
          exact ⟨rfl, HS0.out.trans ho⟩
theorem walk (a1 : List Int) (s1 : Option Addr) (cap1 : Nat) (w : World) (w1 : Ints w s1 cap1 a1) :
    Calls Try.prog 4 #[.slice s1 a1.length cap1] w fun e w' => e = .returned (.bool true) ∧ Old w w' := by
  by_cases h : a1.length ≤ 100
  · exact late a1 s1 cap1 w w1 h
  · exact early a1 s1 cap1 w h
set_option maxRecDepth 100000 in
set_option maxHeartbeats 1000000 in
theorem lifted (os : Os) (started : os.Started) (H : Type) (enc : TypeId × Value → H) :
    ReturnsInHanded {} Try.checked os 4 .any (Rows.queueOrderSpec.pre6 enc Try.prog Try.f4 Rows.queueOrderRow.domain false) (Rows.queueOrderSpec.post enc Try.prog Try.f4 false true false false) := by
  refine returnsInHanded_of_change (C := Try.checked) own started (by kernel_rfl) Try.func4
    (ChangeSpec.witness6 (enc := enc) (C := Try.checked) false ⟨#[], #[.slice none 0 0], []⟩ 8 (by kernel_rfl) (by kernel_rfl) (by kernel_rfl) (by kernel_rfl)) ?_
  intro W base args ds gs before hval0 hW hcnd _
  have hval : ∀ (j : Nat) t v, Try.f4.params[j]? = some t → args[j]? = some v → Value.okWide Try.prog W .any base t v := hval0
  have hW' := hW
  obtain ⟨p, q, hA0, hV, rfl, hfz, hnd⟩ := hW
  have hA : DataW.TrodAll enc Try.prog W 0 (fun _ => true) true Try.f4.params.toList args.toList ds p := hA0
  rw [Try.params4] at hA hval
  obtain ⟨v0, vs0, d0, ds0, p0, q0, hargs, rfl, rfl, h0, r0⟩ := trodAll_cons hA
  obtain ⟨rfl, rfl, rfl⟩ := trodAll_nil r0
  obtain rfl : args = #[v0] := by cases args; simp_all
  obtain ⟨rfl, rfl⟩ := trodVars_none hV
  obtain ⟨s0, cap0, a0, rfl, w0⟩ := Opn.ints_of Try.underlying46 Try.underlying3 (by kernel_rfl) (hval 0 46 v0 rfl rfl) h0
  clear hA0 hval0
  refine (walk a0 s0 cap0 W w0).mono fun e W' ⟨he, hg⟩ => ?_
  subst he
  exact ⟨_, rfl, post_of_old hW' (fun _ _ _ => (trodAll_cons_mk (shut_bool Try.underlying4 _) trodAll_mk0)) (fun sp hsp => (trodAll_cons_mk (Opn.back (by kernel_rfl) (of_decide_eq_true (by kernel_rfl)) h0 hg (fun x hx => hW'.lt x (by simp [hx])) (fun x hx => hsp x (by simp [hx]))) trodAll_mk0)) (fun _ _ => rfl)
    hg (ok_one (by kernel_rfl) rfl (okWide_bool_mk Try.underlying4 _))⟩
theorem over : Rows.queueOrderRow.holds Try.pinned (OpenSpec.ofChange Rows.queueOrderSpec) :=
  OpenClaim.holds_of_wide 4 Try.f4 rfl rfl rfl rfl rfl rfl rfl ⟨rfl, rfl, rfl, rfl, rfl⟩ rfl rfl rfl rfl rfl (by kernel_rfl) Try.func4 (by kernel_rfl)
    (of_decide_eq_true (by kernel_rfl)) (by unfold Func.isWrapper; first | (rw [if_pos (by decide +kernel)]; kernel_rfl) | (rw [if_neg (by decide +kernel)]; exact ⟨rfl, rfl⟩))
    (fun os started H enc _ => lifted os started H enc)
theorem proved : Rows.QueueOrderSaid :=
  over
#print axioms proved
end Go.Proofs.Ytfoonifkpplflaa.queueOrder
