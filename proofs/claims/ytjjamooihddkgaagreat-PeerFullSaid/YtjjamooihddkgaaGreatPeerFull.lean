/- Proved: PeerFull holds for whatever numbers: so many messages come at once and not one more, each goes on, and one that ended makes room. Conditions: none. -/
import Derived.Test.YtjjamooihddkgaaGreatRows
import Derived.Test.YtjjamooihddkgaaGreatPmG6
import Derived.Test.YtjjamooihddkgaaGreatPmG9
import Derived.WalkKit
import Derived.ProofKit
import Derived.OpenShut
import Derived.Test.YtjjamooihddkgaaGreatPmG19
set_option linter.unusedVariables false
namespace Go.Proofs.YtjjamooihddkgaaGreat.peerFull
open Go.ChangeShapes Go.WideShapes Go.ChangeAt Go.RowKit Go.Proofs.YtjjamooihddkgaaGreat.Hp Go.Proofs.YtjjamooihddkgaaGreat.End
open Opn Byt Pk Ph
theorem own : ownKnob Tryz.prog.godebug = none := by kernel_rfl
attribute [local go_sem ↓] Go.wp_at_zero Go.wp_at_succ
set_option maxRecDepth 100000 in
set_option maxHeartbeats 16000000 in
theorem early (a0 a1 : Int) (w : World) (h : a0 < 1 ∨ (decide (a0 < 1) = false ∧ 30 < a0) ∨ (decide (a0 < 1) = false ∧ decide (30 < a0) = false ∧ a1 < 1) ∨ (decide (a0 < 1) = false ∧ decide (30 < a0) = false ∧ decide (a1 < 1) = false ∧ 10 < a1)) :
    Calls Tryz.prog 6 #[.int .i64 a0, .int .i64 a1] w fun e w' => e = .returned (.bool true) ∧ Old w w' := by
  have HC := Lib.hid fun w => awake_any w
  rcases h with h0 | ⟨h0, h1⟩ | ⟨h0, h1, h2⟩ | ⟨h0, h1, h2, h3⟩
  all_goals
    go_enter Tryz.func6, Tryz.ntmps6
    go_wp2_with (go_at_call 9; (with_reducible refine Calls.mono (HC.out _) ?_); rintro e w' ⟨rfl, ho⟩)
    go_ret
    exact ⟨rfl, ho⟩
set_option maxRecDepth 100000 in
set_option maxHeartbeats 64000000 in
theorem late (m x : Nat) (w : World) (hm1 : 1 ≤ m) (hm : m ≤ 30) (hx1 : 1 ≤ x) (hx : x ≤ 10) :
    Calls Tryz.prog 6 #[.int .i64 (m : Int), .int .i64 (x : Int)] w fun e w' => e = .returned (.bool true) ∧ Old w w' := by
  have HC := Lib.hid fun w => awake_any w
  have N1 := Lib.hid fun w => Lo.new (h0 := hm1) hm w
  have g1 : decide ((m : Int) < 1) = false := decide_eq_false (by omega)
  have g2 : decide ((30 : Int) < (m : Int)) = false := decide_eq_false (by omega)
  have g3 : decide ((x : Int) < 1) = false := decide_eq_false (by omega)
  have g4 : decide ((10 : Int) < (x : Int)) = false := decide_eq_false (by omega)
  have ga : IntKind.i64.wrap ((m : Int) + (x : Int)) = (m : Int) + (x : Int) := by rw [IntKind.wrap_i64]; omega
  go_enter Tryz.func6, Tryz.ntmps6
  go_wp2_with fail
  with_reducible refine Calls.mono (N1.out _) ?_
  rintro e w1 ⟨p, rfl, h1⟩
  have H1 := Lib.hid h1
  clear N1 h1
  go_wp2_with fail
  go_loopg [7] (m + x + 1) (fun kx s7 wr => ∃ i : Nat, s7 = .int .i64 (i : Nat) ∧ 1 ≤ i ∧ i ≤ m + x + 1 ∧ Hid (m + x + 1 - i ≤ kx) ∧ Hid (Lo w wr p m (min i (m + 1))))
  case atStart => exact ⟨1, rfl, by omega, by omega, Lib.hid (by omega), by rw [show min 1 (m + 1) = 1 by omega]; exact H1⟩
  case round =>
    clear H1
    obtain ⟨i, rfl, hi1, hi2, hkx, HL⟩ := hrel
    by_cases hlt : i ≤ m + x
    · have hltz : (i : Int) ≤ (m : Int) + (x : Int) := by omega
      have hw : IntKind.u64.wrap (i : Int) = (i : Int) := by rw [IntKind.wrap_u64]; omega
      have hw8 : IntKind.u8.wrap (i : Int) = (i : Int) := by rw [IntKind.wrap_u8]; omega
      by_cases him : i ≤ m
      · have LP := Lib.hid (Lo.put (by have := HL.out; rwa [show min i (m + 1) = i by omega] at this) hm him)
        have himz : (i : Int) ≤ (m : Int) := by omega
        clear HL
        go_wp2_with fail
        with_reducible refine Calls.mono LP.out ?_
        rintro e w2 ⟨rfl, h2⟩
        have H2 : Hid (Lo w w2 p m (min (i + 1) (m + 1))) := Lib.hid (by rw [show min (i + 1) (m + 1) = i + 1 by omega]; exact h2)
        clear LP h2
        go_wp2_with fail
        go_roundg (m + x + 1 - (i + 1))
        case measure => have := hkx.out; omega
        case rel => exact ⟨i + 1, by go_num, by omega, by omega, Lib.hid (Nat.le_refl _), H2⟩
      · have LP := Lib.hid (Lo.no (by have := HL.out; rwa [show min i (m + 1) = m + 1 by omega] at this) hm (i := i) (by omega) (by omega))
        have himz : ¬ (i : Int) ≤ (m : Int) := by omega
        clear HL
        go_wp2_with fail
        with_reducible refine Calls.mono LP.out ?_
        rintro e w2 ⟨rfl, h2⟩
        have H2 : Hid (Lo w w2 p m (min (i + 1) (m + 1))) := Lib.hid (by rw [show min (i + 1) (m + 1) = m + 1 by omega]; exact h2)
        clear LP h2
        go_wp2_with fail
        go_roundg (m + x + 1 - (i + 1))
        case measure => have := hkx.out; omega
        case rel => exact ⟨i + 1, by go_num, by omega, by omega, Lib.hid (Nat.le_refl _), H2⟩
    · have hltz : ¬ (i : Int) ≤ (m : Int) + (x : Int) := by omega
      have HL2 : Hid (Lo w wr p m (m + 1)) := Lib.hid (by have := HL.out; rwa [show min i (m + 1) = m + 1 by omega] at this)
      have LE := Lib.hid HL2.out.len
      have HH := Lib.hid HL2.out.hi
      clear HL HL2
      go_wp2_with fail
      with_reducible refine Calls.mono LE.out ?_
      rintro e w2 ⟨rfl, rfl⟩
      clear LE
      go_wp2_with fail
      go_loopg [11] (m + 1) (fun kx s11 wq => ∃ j : Nat, s11 = .int .i64 (j : Nat) ∧ 1 ≤ j ∧ j ≤ m + 1 ∧ Hid (m + 1 - j ≤ kx) ∧ Hid (Hi w wq p m j))
      case atStart => exact ⟨1, rfl, by omega, by omega, Lib.hid (by omega), HH⟩
      case round =>
        clear HH
        obtain ⟨j, rfl, hj1, hj2, hkx2, HI⟩ := hrel
        by_cases hlt2 : j ≤ m
        · have hltz2 : (j : Int) ≤ (m : Int) := by omega
          have hv : IntKind.u64.wrap (j : Int) = (j : Int) := by rw [IntKind.wrap_u64]; omega
          have hv8 : IntKind.u8.wrap (j : Int) = (j : Int) := by rw [IntKind.wrap_u8]; omega
          have HJ := Lib.hid (show j < 256 by omega)
          have GO := Lib.hid (HI.out.go hm hj1 hlt2)
          clear HI
          go_wp2_with fail
          with_reducible refine Calls.mono GO.out ?_
          rintro e w2 ⟨rfl, h2⟩
          have PO := Lib.hid h2
          clear GO h2
          go_wp2_with fail
          with_reducible refine Calls.mono PO.out ?_
          rintro e w3 ⟨a, c, rfl, hs, h3⟩
          have km := (Kept.refl (fun _ => False) w3).alloc (.cells #[.int .i64 1, .int .u64 (j : Int), .slice a 2 c] 70)
          have hs8 := hs.kept km
          have H3 := Lib.hid (h3.old km)
          have hM := Blk.new w3 [.int .i64 1, .int .u64 (j : Int), .slice a 2 c] 70
          dsimp only [List.toArray] at hM
          clear PO hs h3 km
          go_upto_region 21 with fail
          generalize w3.alloc (.cells #[.int .i64 1, .int .u64 (j : Int), .slice a 2 c] 70) = w4 at *
          generalize w3.heap.size = q at *
          have c1 := hM.cell (o := 1) rfl
          have c2 := hM.cell (o := 2) rfl
          have s1 := Byt.run_str hs8
          have s2 := Byt.run_str (two_src w4 HJ.out)
          have H4 := Lib.hid (H3.out.old ((Kept.refl (fun _ => False) w4).alloc (.cells #[.int .u8 (j : Int), .int .u8 7] 5)))
          clear H3 hM hs8
          go_wp2_with fail
          go_roundg (m + 1 - (j + 1))
          case measure => have := hkx2.out; omega
          case rel => exact ⟨j + 1, by go_num, by omega, by omega, Lib.hid (Nat.le_refl _), H4⟩
        · have hltz2 : ¬ (j : Int) ≤ (m : Int) := by omega
          have hv : IntKind.u64.wrap (m : Int) = (m : Int) := by rw [IntKind.wrap_u64]; omega
          have hv1 : IntKind.u64.wrap ((m : Int) + 1) = (m : Int) + 1 := by rw [IntKind.wrap_u64]; omega
          have FI : Hid _ := Lib.hid (Hi.fin (by have := HI.out; rwa [show j = m + 1 by omega] at this) hm1 hm)
          clear HI
          go_wp2_with fail
          with_reducible refine Calls.mono FI.out ?_
          rintro e w2 ⟨rfl, h2, h3, h4⟩
          have LE := Lib.hid h2
          have WE := Lib.hid h3
          have HK := Lib.hid h4
          clear FI h2 h3 h4
          go_wp2_with fail
          with_reducible refine Calls.mono LE.out ?_
          rintro e w3 ⟨rfl, rfl⟩
          go_wp2_with fail
          with_reducible refine Calls.mono WE.out ?_
          rintro e w3 ⟨rfl, rfl⟩
          go_wp2_with fail
          with_reducible refine Calls.mono (HC.out _) ?_
          rintro e w3 ⟨rfl, ho⟩
          have HO : Hid (Old w w3) := Lib.hid (HK.out.trans ho)
          clear ho
          go_wp2_with fail
          go_ret
          exact ⟨rfl, HO.out⟩
theorem walk (a0 a1 : Int) (w : World) (w0 : (Lit.int .i64 a0).wf = true) (w1 : (Lit.int .i64 a1).wf = true) :
    Calls Tryz.prog 6 #[.int .i64 a0, .int .i64 a1] w fun e w' => e = .returned (.bool true) ∧ Old w w' := by
  by_cases h : (1 ≤ a0 ∧ a0 ≤ 30) ∧ 1 ≤ a1 ∧ a1 ≤ 10
  · obtain ⟨m, rfl⟩ : ∃ m : Nat, a0 = m := ⟨a0.toNat, by omega⟩
    obtain ⟨x, rfl⟩ : ∃ x : Nat, a1 = x := ⟨a1.toNat, by omega⟩
    exact late m x w (by omega) (by omega) (by omega) (by omega)
  · refine early a0 a1 w ?_
    simp only [decide_eq_false_iff_not]
    omega
set_option maxRecDepth 100000 in
set_option maxHeartbeats 1000000 in
theorem lifted (os : Os) (started : os.Started) (H : Type) (enc : TypeId × Value → H) :
    ReturnsInHanded {} Tryz.checked os 6 .any (Rows.peerFullSpec.pre6 enc Tryz.prog Tryz.f6 Rows.peerFullRow.domain false) (Rows.peerFullSpec.post enc Tryz.prog Tryz.f6 false true false false) := by
  refine returnsInHanded_of_change (C := Tryz.checked) own started (by kernel_rfl) Tryz.func6
    (ChangeSpec.witness6 (enc := enc) (C := Tryz.checked) false ⟨#[], #[.int .i64 0, .int .i64 0], []⟩ 8 (by kernel_rfl) (by kernel_rfl) (by kernel_rfl) (by kernel_rfl)) ?_
  intro W base args ds gs before hval0 hW hcnd _
  have hval : ∀ (j : Nat) t v, Tryz.f6.params[j]? = some t → args[j]? = some v → Value.okWide Tryz.prog W .any base t v := hval0
  have hW' := hW
  obtain ⟨p, q, hA0, hV, rfl, hfz, hnd⟩ := hW
  have hA : DataW.TrodAll enc Tryz.prog W 0 (fun _ => true) true Tryz.f6.params.toList args.toList ds p := hA0
  rw [Tryz.params6] at hA hval
  obtain ⟨v0, vs0, d0, ds0, p0, q0, hargs, rfl, rfl, h0, r0⟩ := trodAll_cons hA
  obtain ⟨v1, vs1, d1, ds1, p1, q1, rfl, rfl, rfl, h1, r1⟩ := trodAll_cons r0
  obtain ⟨rfl, rfl, rfl⟩ := trodAll_nil r1
  obtain rfl : args = #[v0, v1] := by cases args; simp_all
  obtain ⟨rfl, rfl⟩ := trodVars_none hV
  obtain ⟨a0, rfl, rfl, rfl, w0⟩ := open_int Tryz.underlying3 (hval 0 3 v0 rfl rfl) h0
  obtain ⟨a1, rfl, rfl, rfl, w1⟩ := open_int Tryz.underlying3 (hval 1 3 v1 rfl rfl) h1
  clear hA0 hval0
  simp only [List.append_nil] at hW'
  refine (walk a0 a1 W w0 w1).mono fun e W' ⟨he, hg⟩ => ?_
  subst he
  exact ⟨_, rfl, post_of_old (pa := []) (pv := []) hW' (fun _ _ _ => (trodAll_cons_mk (shut_bool Tryz.underlying4 _) trodAll_mk0)) (fun sp _ => (trodAll_cons_mk (shut_int Tryz.underlying3 w0) (trodAll_cons_mk (shut_int Tryz.underlying3 w1) trodAll_mk0))) (fun _ _ => rfl)
    hg (ok_one (by kernel_rfl) rfl (okWide_bool_mk Tryz.underlying4 _))⟩
theorem over : Rows.peerFullRow.holds Tryz.pinned (OpenSpec.ofChange Rows.peerFullSpec) :=
  OpenClaim.holds_of_wide 6 Tryz.f6 rfl rfl rfl rfl rfl rfl rfl ⟨rfl, rfl, rfl, rfl, rfl⟩ rfl rfl rfl rfl rfl (by kernel_rfl) Tryz.func6 (by kernel_rfl)
    (of_decide_eq_true (by kernel_rfl)) (by unfold Func.isWrapper; first | (rw [if_pos (by decide +kernel)]; kernel_rfl) | (rw [if_neg (by decide +kernel)]; exact ⟨rfl, rfl⟩))
    (fun os started H enc _ => lifted os started H enc)
theorem proved : Rows.PeerFullSaid :=
  over
#print axioms proved
end Go.Proofs.YtjjamooihddkgaaGreat.peerFull
