/- TopoAsks (mizzenlaw14): for every six ints the law returns true and its arguments read as before. Conditions: none beyond the model's. -/
import Derived.Test.YtoieogembfdmfaaDoorRows
import Derived.Test.YtoieogembfdmfaaDoorCards
import Derived.Test.YtoieogembfdmfaaDoorTie
import Derived.Test.YtoieogembfdmfaaDoorEnd
import Derived.Test.YtoieogembfdmfaaDoorInts
import Derived.WalkKit
import Derived.ProofKit
import Derived.OpenShut
import Derived.LaidMore
import Derived.Stop.Joined
import Derived.SevenTiedAt
import Derived.Test.YtoieogembfdmfaaDoorTpDs
import Derived.Deep.RegionHeld3
set_option linter.unusedVariables false
namespace Go.Proofs.YtoieogembfdmfaaDoor.topoAsks
open Go.ChangeShapes Go.WideShapes Go.ChangeAt Go.RowKit Go.Proofs.YtoieogembfdmfaaDoor.Hp Go.Proofs.YtoieogembfdmfaaDoor.End
open Go.RowKit Go.Proofs.YtoieogembfdmfaaDoor.Hp Go.Proofs.YtoieogembfdmfaaDoor.TpM Go.Proofs.YtoieogembfdmfaaDoor.Tp Go.Proofs.YtoieogembfdmfaaDoor.End
theorem own : ownKnob Tryd.prog.godebug = none := by kernel_rfl
theorem door_met (os : Os) (args : Array Value) : laidMetH Tryd.prog [("math/bits.deBruijn32tab", Rows.laid_math_bits_deBruijn32tab), ("math/bits.deBruijn64tab", Rows.laid_math_bits_deBruijn64tab), ("internal/strconv.uint64pow10", Rows.laid_internal_strconv_uint64pow10)] ((World.doorLaid Tryd.prog 400 os).forCall (fun _ _ => 0) ⟨#[], args, []⟩).memory :=
  laidMetH_of_parts3 (fuel := 8) (laidMet_of_run' 8 (by kernel_rfl) (by kernel_rfl)) (by kernel_rfl) (by kernel_rfl)
set_option maxRecDepth 100000 in
set_option maxHeartbeats 8000000 in
theorem early (H S p d q s : Int) (w : World) (h : ¬ Net H S) :
    Calls Tryd.prog 3 #[.int .i64 H, .int .i64 S, .int .i64 p, .int .i64 d, .int .i64 q, .int .i64 s] w fun e w' => e = .returned (.bool true) ∧ Old w w' := by
  have HC := Lib.hid fun w => awake_any w
  have N1 := Lib.hid fun w => new_no h w
  have N2 := Lib.hid fun w => netR_no h w
  go_enter Tryd.func3, Tryd.ntmps3
  go_wp2_with fail
  with_reducible refine Calls.mono (N1.out _) ?_
  rintro e w' ⟨rfl, rfl⟩
  go_wp2_with fail
  with_reducible refine Calls.mono (N2.out _) ?_
  rintro e w' ⟨rfl, rfl⟩
  go_wp2_with fail
  with_reducible refine Calls.mono (HC.out _) ?_
  rintro e w7 ⟨rfl, ho⟩
  have HO := Lib.hid ho
  clear ho
  go_wp2_with fail
  go_ret
  exact ⟨rfl, HO.out⟩
set_option maxRecDepth 100000 in
set_option maxHeartbeats 8000000 in
theorem late (H S p d q s : Int) (w : World) (n : Net H S) :
    Calls Tryd.prog 3 #[.int .i64 H, .int .i64 S, .int .i64 p, .int .i64 d, .int .i64 q, .int .i64 s] w fun e w' => e = .returned (.bool true) ∧ Old w w' := by
  have N1 := Lib.hid fun w => new_yes n w
  have N2 := Lib.hid fun w => netR_yes n w
  have AW := Lib.hid fun (b m : Nat) => ans_kept (w0 := w) (b := b) (m := m) (H := H) (S := S) fun w' _ => awake_any w'
  have PT := Lib.hid fun (b m : Nat) => ans_drew (w0 := w) (b := b) (m := m) (H := H) (S := S) fun w' h => ports_any h.net n
  have PR := Lib.hid fun (b m : Nat) => ans_drew (w0 := w) (b := b) (m := m) (H := H) (S := S) fun w' h => portsR_any h.ref n
  have NX := Lib.hid fun (b m : Nat) x => ans_kept (w0 := w) (b := b) (m := m) (H := H) (S := S) fun w' h => next_any h.net n x d q
  have NXR := Lib.hid fun (b m : Nat) x => ans_kept (w0 := w) (b := b) (m := m) (H := H) (S := S) fun w' h => nextR_any h.ref n x d q
  have NM := Lib.hid fun (b m : Nat) x => ans_kept (w0 := w) (b := b) (m := m) (H := H) (S := S) fun w' h => name_any h.net n x
  have NMR := Lib.hid fun (b m : Nat) x => ans_kept (w0 := w) (b := b) (m := m) (H := H) (S := S) fun w' h => nameR_any h.ref n x
  have LV := Lib.hid fun (b m : Nat) => ans_same (w0 := w) (b := b) (m := m) (H := H) (S := S) fun w' h => leaves_any h.net n
  have LF := Lib.hid fun (b m : Nat) => ans_same (w0 := w) (b := b) (m := m) (H := H) (S := S) fun w' h => leaf_any h.net n s
  have LFR := Lib.hid fun (b m : Nat) => ans_same (w0 := w) (b := b) (m := m) (H := H) (S := S) fun w' h => leafR_any h.ref n s
  have UP := Lib.hid fun (b m : Nat) => ans_same (w0 := w) (b := b) (m := m) (H := H) (S := S) fun w' h => up_any h.net s
  have HO := Lib.hid fun (b m : Nat) => ans_same (w0 := w) (b := b) (m := m) (H := H) (S := S) fun w' h => hops_any h.net n s d
  have HOR := Lib.hid fun (b m : Nat) => ans_same (w0 := w) (b := b) (m := m) (H := H) (S := S) fun w' h => hopsR_any h.ref n s d
  have LC := Lib.hid fun (b m : Nat) (w' : World) (h : DS w b m H S w') => h.leaves
  obtain ⟨bt, UC⟩ : ∃ bt : Bool, (s < 0 ∧ bt = false ∧ upn H s = -1) ∨ (0 ≤ s ∧ H ≤ s ∧ bt = false ∧ upn H s = -1) ∨ (0 ≤ s ∧ s < H ∧ bt = true ∧ upn H s = s) := by
    unfold upn
    by_cases h1 : s < 0
    · exact ⟨false, Or.inl ⟨h1, rfl, if_pos (Or.inl h1)⟩⟩
    by_cases h2 : H ≤ s
    · exact ⟨false, Or.inr (Or.inl ⟨by omega, h2, rfl, if_pos (Or.inr h2)⟩)⟩
    · exact ⟨true, Or.inr (Or.inr ⟨by omega, by omega, rfl, if_neg (by omega)⟩)⟩
  obtain ⟨P, hP⟩ : ∃ P : Nat, pts H S = (P : Int) := ⟨(pts H S).toNat, by have := mm_in n; have := n.h0; unfold pts; omega⟩
  have hPs : P ≤ 100 := by have := mm_in n; have := n.h1; unfold pts at hP; omega
  rw [hP] at PT PR
  unfold nmv at NM NMR
  generalize lv H = L at *
  generalize lf H s = l1 at *
  generalize upn H s = u1 at *
  generalize hp H s d = h1 at *
  have UC := Lib.hid UC
  clear hP
  go_enter Tryd.func3, Tryd.ntmps3
  go_wp2_with fail
  with_reducible refine Calls.mono (N1.out _) ?_
  rintro e w2 ⟨b, rfl, hB, hK⟩
  have HB := Lib.hid hB
  have HK := Lib.hid hK
  clear hB hK N1
  go_wp2_with fail
  with_reducible refine Calls.mono (N2.out _) ?_
  rintro e w3 ⟨m, rfl, hB, hK⟩
  have HD : Hid (DS w b m H S w3) := Lib.hid ⟨HK.out.trans hK, hK.blk HB.out (fun f => f), hB⟩
  clear hB hK N2 HB HK
  go_wp2_with fail
  go_loopg [17] (P + 2) (fun kx s17 wr => ∃ r : Nat, Hid (P + 2 - r ≤ kx) ∧ r ≤ P + 2 ∧ s17 = .int .i64 ((r : Int) - 1) ∧ Hid (DS w b m H S wr))
  case atStart => exact ⟨0, Lib.hid (by omega), by omega, rfl, HD⟩
  case round =>
    clear HD
    obtain ⟨r, hm, hr, rfl, HD⟩ := hrel
    rcases Nat.lt_or_ge r (P + 2) with hlt | hge
    · have hlt' : (r : Int) - 1 ≤ (P : Int) := by omega
      have A1 := NX.out b m ((r : Int) - 1)
      have A2 := NXR.out b m ((r : Int) - 1)
      obtain ⟨⟨y, o⟩, hyo⟩ : ∃ t, nx H S ((r : Int) - 1) d q = t := ⟨_, rfl⟩
      rw [hyo] at A1 A2
      have A3 := NM.out b m ((r : Int) - 1)
      have A4 := NMR.out b m ((r : Int) - 1)
      generalize (⟨(nm (kd H S ((r : Int) - 1))).toArray⟩ : ByteArray) = nb at *
      have A1 := Lib.hid A1
      have A2 := Lib.hid A2
      have A3 := Lib.hid A3
      have A4 := Lib.hid A4
      clear hyo
      go_wp2_with fail
      with_reducible refine Calls.mono (PR.out _ _ _ HD.out) ?_
      rintro e w4 ⟨rfl, hD⟩
      have HD := Lib.hid hD
      clear hD
      go_wp2_with fail
      with_reducible refine Calls.mono (A1.out _ HD.out) ?_
      rintro e w5 ⟨rfl, hD⟩
      have HD := Lib.hid hD
      clear hD
      go_wp2_with fail
      with_reducible refine Calls.mono (A2.out _ HD.out) ?_
      rintro e w6 ⟨rfl, hD⟩
      have HD := Lib.hid hD
      clear hD
      go_wp2_with fail
      with_reducible refine Calls.mono (A3.out _ HD.out) ?_
      rintro e w7 ⟨rfl, hD⟩
      have HD := Lib.hid hD
      clear hD
      go_wp2_with fail
      with_reducible refine Calls.mono (A4.out _ HD.out) ?_
      rintro e w8 ⟨rfl, hD⟩
      have HD := Lib.hid hD
      clear hD
      go_wp2_with fail
      go_roundg (P + 2 - (r + 1))
      case measure => have := hm.out; omega
      case rel => exact ⟨r + 1, Lib.hid (Nat.le_refl _), by omega, by go_num, HD⟩
    · have hge' : ¬ ((r : Int) - 1 ≤ (P : Int)) := by omega
      go_wp2_with fail
      with_reducible refine Calls.mono (PR.out _ _ _ HD.out) ?_
      rintro e w4 ⟨rfl, hD⟩
      have HD := Lib.hid hD
      have uc := UC.out
      have A1 := NX.out b m p
      have A2 := NXR.out b m p
      obtain ⟨⟨y, o⟩, hyo⟩ : ∃ t, nx H S p d q = t := ⟨_, rfl⟩
      rw [hyo] at A1 A2
      have A3 := NM.out b m p
      have A4 := NMR.out b m p
      generalize (⟨(nm (kd H S p)).toArray⟩ : ByteArray) = nb at *
      have A1 := Lib.hid A1
      have A2 := Lib.hid A2
      have A3 := Lib.hid A3
      have A4 := Lib.hid A4
      have A5 := Lib.hid (PT.out b m)
      have A6 := Lib.hid (PR.out b m)
      have A7 := Lib.hid (LV.out b m)
      have A8 := Lib.hid (LF.out b m)
      have A9 := Lib.hid (LFR.out b m)
      have B1 := Lib.hid (UP.out b m)
      have B2 := Lib.hid (HO.out b m)
      have B3 := Lib.hid (HOR.out b m)
      have B4 := Lib.hid (AW.out b m)
      clear hyo hD hm hr hge NX NXR NM NMR PT PR LV LF LFR UP HO HOR AW UC
      go_upto_region 15 with fail
      clear hge'
      go_cut [97] (fun s97 wx => s97 = .bool bt ∧ wx = w4)
      case first =>
        rcases uc with ⟨g1, rfl, _⟩ | ⟨g1, g2, rfl, _⟩ | ⟨g1, g2, rfl, _⟩
        all_goals
          go_wp2_with fail
          go_meet
          exact ⟨by first | rfl | (rw [decide_eq_false (by omega)]) | (rw [decide_eq_true (by omega)]), rfl⟩
      case rest =>
      obtain ⟨rfl, rfl⟩ := hcut
      go_upto_if 97 with (fail)
      go_cut [22] (fun s22 wx => s22 = .int .i64 u1 ∧ wx = wc)
      case first =>
        rcases uc with ⟨g1, rfl, rfl⟩ | ⟨g1, g2, rfl, rfl⟩ | ⟨g1, g2, rfl, rfl⟩
        all_goals
          go_wp2_with fail
          go_meet
          exact ⟨rfl, rfl⟩
      case rest =>
        obtain ⟨rfl, rfl⟩ := hcut
        clear uc
        go_wp2_with fail
        with_reducible refine Calls.mono (A1.out _ HD.out) ?_
        rintro e w5 ⟨rfl, hD⟩
        have HD := Lib.hid hD
        clear hD
        go_wp2_with fail
        with_reducible refine Calls.mono (A2.out _ HD.out) ?_
        rintro e w6 ⟨rfl, hD⟩
        have HD6 := hD
        have cl := LC.out _ _ _ hD
        clear hD HD
        go_wp2_with fail
        go_region_held3 (fun w' => w'.cell? ⟨m, 1, none⟩ = some (.int .i64 L)) (first | assumption | exact LC.out _ _ _ (by assumption) | exact LC.out _ _ _ (DS.drew (by assumption)))
          (first | (go_at_call 12; refine Calls.mono (A3.out _ (by first | assumption | exact DS.drew (by assumption))) ?_; rintro e w' ⟨rfl, hD⟩) | (go_at_call 13; refine Calls.mono (A4.out _ (by first | assumption | exact DS.drew (by assumption))) ?_; rintro e w' ⟨rfl, hD⟩) | (go_at_call 14; refine Calls.mono (A5.out _ (by first | assumption | exact DS.drew (by assumption))) ?_; rintro e w' ⟨rfl, hD⟩) | (go_at_call 9; refine Calls.mono (A6.out _ (by first | assumption | exact DS.drew (by assumption))) ?_; rintro e w' ⟨rfl, hD⟩) | (go_at_call 15; refine Calls.mono (A7.out _ (by first | assumption | exact DS.drew (by assumption))) ?_; rintro e w' ⟨rfl, hD⟩) | (go_at_call 16; refine Calls.mono (A8.out _ (by first | assumption | exact DS.drew (by assumption))) ?_; rintro e w' ⟨rfl, hD⟩) | (go_at_call 17; refine Calls.mono (A9.out _ (by first | assumption | exact DS.drew (by assumption))) ?_; rintro e w' ⟨rfl, hD⟩) | (go_at_call 18; refine Calls.mono (B1.out _ (by first | assumption | exact DS.drew (by assumption))) ?_; rintro e w' ⟨rfl, hD⟩) | (go_at_call 19; refine Calls.mono (B2.out _ (by first | assumption | exact DS.drew (by assumption))) ?_; rintro e w' ⟨rfl, hD⟩) | (go_at_call 20; refine Calls.mono (B3.out _ (by first | assumption | exact DS.drew (by assumption))) ?_; rintro e w' ⟨rfl, hD⟩) | (go_at_call 8; refine Calls.mono (B4.out _ (by first | assumption | exact DS.drew (by assumption))) ?_; rintro e w' ⟨rfl, hD⟩))
        go_wp2_with fail
        go_ret
        exact ⟨rfl, DS.old (by assumption)⟩
theorem walk (a0 a1 a2 a3 a4 a5 : Int) (w : World) (w0 : (Lit.int .i64 a0).wf = true) (w1 : (Lit.int .i64 a1).wf = true) (w2 : (Lit.int .i64 a2).wf = true) (w3 : (Lit.int .i64 a3).wf = true) (w4 : (Lit.int .i64 a4).wf = true) (w5 : (Lit.int .i64 a5).wf = true) :
    Calls Tryd.prog 3 #[.int .i64 a0, .int .i64 a1, .int .i64 a2, .int .i64 a3, .int .i64 a4, .int .i64 a5] w fun e w' => e = .returned (.bool true) ∧ Old w w' := by
  by_cases h : Net a0 a1
  · exact late a0 a1 a2 a3 a4 a5 w h
  · exact early a0 a1 a2 a3 a4 a5 w h
set_option maxRecDepth 100000 in
set_option maxHeartbeats 1000000 in
theorem lifted (os : Os) (started : os.Started) (H : Type) (enc : TypeId × Value → H) :
    ReturnsInHanded {} Tryd.checked os 3 .any (fun w args => (Rows.topoAsksSpec.pre enc Tryd.prog Tryd.f3 [] false w args ∧ laidMetH Tryd.prog [("math/bits.deBruijn32tab", Rows.laid_math_bits_deBruijn32tab), ("math/bits.deBruijn64tab", Rows.laid_math_bits_deBruijn64tab), ("internal/strconv.uint64pow10", Rows.laid_internal_strconv_uint64pow10)] w) ∧ sizedMet enc Tryd.prog Tryd.f3 (OpenSpec.ofChange Rows.topoAsksSpec) false w args)
      (Rows.topoAsksSpec.post enc Tryd.prog Tryd.f3 false true false false) := by
  refine returnsInHanded_of_change_and (C := Tryd.checked) (X := fun w _ => laidMetH Tryd.prog [("math/bits.deBruijn32tab", Rows.laid_math_bits_deBruijn32tab), ("math/bits.deBruijn64tab", Rows.laid_math_bits_deBruijn64tab), ("internal/strconv.uint64pow10", Rows.laid_internal_strconv_uint64pow10)] w) (fun _ _ _ hh h => h.of_heap hh) own started (by kernel_rfl) Tryd.func3
    (ChangeSpec.witness_shaped (enc := enc) (C := Tryd.checked) (os := os) (X := fun w _ => laidMetH Tryd.prog [("math/bits.deBruijn32tab", Rows.laid_math_bits_deBruijn32tab), ("math/bits.deBruijn64tab", Rows.laid_math_bits_deBruijn64tab), ("internal/strconv.uint64pow10", Rows.laid_internal_strconv_uint64pow10)] w) false (World.doorLaid Tryd.prog 400 os) #[.int .i64 0, .int .i64 0, .int .i64 0, .int .i64 0, .int .i64 0, .int .i64 0] 8 rfl (World.shaped_of_RefB (by kernel_rfl) (by kernel_rfl)) (by kernel_rfl) (by kernel_rfl) (by kernel_rfl) (door_met os _)) ?_
  intro W base args ds gs before hval0 hW _ _ hL _
  have hval : ∀ (j : Nat) t v, Tryd.f3.params[j]? = some t → args[j]? = some v → Value.okWide Tryd.prog W .any base t v := hval0
  have hW' := hW
  obtain ⟨p, q, hA0, hV, rfl, hfz, hnd⟩ := hW
  have hA : DataW.TrodAll enc Tryd.prog W 0 (fun _ => true) true Tryd.f3.params.toList args.toList ds p := hA0
  rw [Tryd.params3] at hA hval
  obtain ⟨v0, vs0, d0, ds0, p0, q0, hargs, rfl, rfl, h0, r0⟩ := trodAll_cons hA
  obtain ⟨v1, vs1, d1, ds1, p1, q1, rfl, rfl, rfl, h1, r1⟩ := trodAll_cons r0
  obtain ⟨v2, vs2, d2, ds2, p2, q2, rfl, rfl, rfl, h2, r2⟩ := trodAll_cons r1
  obtain ⟨v3, vs3, d3, ds3, p3, q3, rfl, rfl, rfl, h3, r3⟩ := trodAll_cons r2
  obtain ⟨v4, vs4, d4, ds4, p4, q4, rfl, rfl, rfl, h4, r4⟩ := trodAll_cons r3
  obtain ⟨v5, vs5, d5, ds5, p5, q5, rfl, rfl, rfl, h5, r5⟩ := trodAll_cons r4
  obtain ⟨rfl, rfl, rfl⟩ := trodAll_nil r5
  obtain rfl : args = #[v0, v1, v2, v3, v4, v5] := by cases args; simp_all
  obtain ⟨rfl, rfl⟩ := trodVars_none hV
  obtain ⟨a0, rfl, rfl, rfl, w0⟩ := open_int Tryd.underlying3 (hval 0 3 v0 rfl rfl) h0
  obtain ⟨a1, rfl, rfl, rfl, w1⟩ := open_int Tryd.underlying3 (hval 1 3 v1 rfl rfl) h1
  obtain ⟨a2, rfl, rfl, rfl, w2⟩ := open_int Tryd.underlying3 (hval 2 3 v2 rfl rfl) h2
  obtain ⟨a3, rfl, rfl, rfl, w3⟩ := open_int Tryd.underlying3 (hval 3 3 v3 rfl rfl) h3
  obtain ⟨a4, rfl, rfl, rfl, w4⟩ := open_int Tryd.underlying3 (hval 4 3 v4 rfl rfl) h4
  obtain ⟨a5, rfl, rfl, rfl, w5⟩ := open_int Tryd.underlying3 (hval 5 3 v5 rfl rfl) h5
  clear hA0 hval0
  simp only [List.append_nil] at hW'
  refine (walk a0 a1 a2 a3 a4 a5 W w0 w1 w2 w3 w4 w5).mono fun e W' ⟨he, hg⟩ => ?_
  subst he
  exact ⟨_, rfl, post_of_old (pa := []) (pv := []) hW' (fun _ _ _ => (trodAll_cons_mk (shut_bool Tryd.underlying4 _) trodAll_mk0)) (fun sp _ => (trodAll_cons_mk (shut_int Tryd.underlying3 w0) (trodAll_cons_mk (shut_int Tryd.underlying3 w1) (trodAll_cons_mk (shut_int Tryd.underlying3 w2) (trodAll_cons_mk (shut_int Tryd.underlying3 w3) (trodAll_cons_mk (shut_int Tryd.underlying3 w4) (trodAll_cons_mk (shut_int Tryd.underlying3 w5) trodAll_mk0))))))) (fun _ _ => rfl)
    hg (ok_one (by kernel_rfl) rfl (okWide_bool_mk Tryd.underlying4 _))⟩
theorem over : Rows.topoAsksRow.holds Tryd.pinned (OpenSpec.ofChange Rows.topoAsksSpec) :=
  OpenClaim.holds_of_wide 3 Tryd.f3 rfl rfl rfl rfl rfl rfl rfl ⟨rfl, rfl, rfl, rfl, rfl⟩ rfl rfl rfl rfl rfl (by kernel_rfl) Tryd.func3 (by kernel_rfl)
    (of_decide_eq_true (by kernel_rfl)) (by unfold Func.isWrapper; first | (rw [if_pos (by decide +kernel)]; kernel_rfl) | (rw [if_neg (by decide +kernel)]; exact ⟨rfl, rfl⟩))
    (fun os started H enc _ => lifted os started H enc)
theorem proved : Rows.TopoAsksCardSaid :=
  Claim7.holds_tied_plain_at .later [] [.data, .data, .data] true (true, "7eb1777d289c64592c5581a2270a069ca86e4ee1d4162cebb9db670126b60041") false
    over (fun _ h => by cases h) (by kernel_rfl) (fun _ h => by cases h) topoAsks_row_tie rfl ⟨rfl, rfl⟩ (by kernel_rfl) rfl
    (fun f fn hf hfn => by
      obtain rfl : f = 3 := Option.some.inj ((show Tryd.prog.funcNamed "mizzen/mizzenlaw14.TopoAsks" = some 3 by kernel_rfl).symm.trans hf) |>.symm
      obtain rfl : fn = Tryd.f3 := (Option.some.inj (Tryd.func3.symm.trans hfn)).symm
      exact ⟨by kernel_rfl, fun j t ht => by
        rw [Tryd.params3] at ht
        have hm : t ∈ [3, 3, 3, 3, 3, 3] := by simpa using Array.mem_of_getElem? ht
        have hall : ([3, 3, 3, 3, 3, 3].all fun u => !Tryd.prog.wantsStandIn u) = true := by kernel_rfl
        exact (show Tryd.prog.wantsStandIn t = false by simpa using List.all_eq_true.1 hall t hm)⟩)
    (by kernel_rfl)
#print axioms proved
end Go.Proofs.YtoieogembfdmfaaDoor.topoAsks
