/- TopoNames (mizzenlaw14): for every three ints the law returns true and its arguments read as before. Conditions: none beyond the model's. -/
import Derived.Test.YtoieogembfdmfaaDoorRows
import Derived.Test.YtoieogembfdmfaaDoorCards
import Derived.Test.YtoieogembfdmfaaDoorTie
import Derived.Test.YtoieogembfdmfaaDoorEnd
import Derived.Test.YtoieogembfdmfaaDoorInts
import Derived.WalkKit
import Derived.ProofKit
import Derived.OpenShut
import Derived.LaidMore
import Derived.Stop.Joined
import Derived.SevenTiedAt
import Derived.Test.YtoieogembfdmfaaDoorTpAw
set_option linter.unusedVariables false
namespace Go.Proofs.YtoieogembfdmfaaDoor.topoNames
open Go.ChangeShapes Go.WideShapes Go.ChangeAt Go.RowKit Go.Proofs.YtoieogembfdmfaaDoor.Hp Go.Proofs.YtoieogembfdmfaaDoor.End
open Go.RowKit Go.Proofs.YtoieogembfdmfaaDoor.Hp Go.Proofs.YtoieogembfdmfaaDoor.TpM Go.Proofs.YtoieogembfdmfaaDoor.Tp Go.Proofs.YtoieogembfdmfaaDoor.End
theorem own : ownKnob Tryd.prog.godebug = none := by kernel_rfl
theorem door_met (os : Os) (args : Array Value) : laidMetH Tryd.prog [("math/bits.deBruijn32tab", Rows.laid_math_bits_deBruijn32tab), ("math/bits.deBruijn64tab", Rows.laid_math_bits_deBruijn64tab), ("internal/strconv.uint64pow10", Rows.laid_internal_strconv_uint64pow10)] ((World.doorLaid Tryd.prog 400 os).forCall (fun _ _ => 0) ⟨#[], args, []⟩).memory :=
  laidMetH_of_parts3 (fuel := 8) (laidMet_of_run' 8 (by kernel_rfl) (by kernel_rfl)) (by kernel_rfl) (by kernel_rfl)
set_option maxRecDepth 100000 in
set_option maxHeartbeats 8000000 in
theorem early (H S k : Int) (w : World) (h : ¬ Net H S) :
    Calls Tryd.prog 5 #[.int .i64 H, .int .i64 S, .int .i64 k] w fun e w' => e = .returned (.bool true) ∧ Old w w' := by
  have HC := Lib.hid fun w => awake_any w
  have h := net_no h
  rcases h with h0 | ⟨h0, h1⟩ | ⟨h0, h1, h2⟩ | ⟨h0, h1, h2, h3⟩
  all_goals
    go_enter Tryd.func5, Tryd.ntmps5
    go_wp2_with fail
    with_reducible refine Calls.mono (HC.out _) ?_
    rintro e w7 ⟨rfl, ho⟩
    have HO := Lib.hid ho
    clear ho
    go_wp2_with fail
    go_ret
    exact ⟨rfl, HO.out⟩
set_option maxRecDepth 100000 in
set_option maxHeartbeats 8000000 in
theorem late (H S k : Int) (w : World) (n : Net H S) :
    Calls Tryd.prog 5 #[.int .i64 H, .int .i64 S, .int .i64 k] w fun e w' => e = .returned (.bool true) ∧ Old w w' := by
  have HC := Lib.hid fun w => awake_any w
  have NW := Lib.hid fun w => new_yes n w
  have h0 := n.h0
  have h2 := n.s0
  have d0 : decide (H < 2) = false := by rw [decide_eq_false_iff_not]; omega
  have d1 : decide (8 < H) = false := by rw [decide_eq_false_iff_not]; have := n.h1; omega
  have d2 : decide (S < 1) = false := by rw [decide_eq_false_iff_not]; have := n.s0; omega
  have d3 : decide (4 < S) = false := by rw [decide_eq_false_iff_not]; have := n.s1; omega
  have HN := Lib.hid n
  obtain ⟨P, hP⟩ : ∃ P : Nat, pts H S = (P : Int) := ⟨(pts H S).toNat, by have := mm_in n; unfold pts; omega⟩
  have hPs : P ≤ 100 := by have := mm_in n; have := n.h1; unfold pts at hP; omega
  have PT := Lib.hid fun w b (h : NV w b H S) => ports_any h n
  rw [hP] at PT
  have NM := Lib.hid fun w b x (h : NV w b H S) => name_any h n x
  have NE : Hid (∀ i : Nat, i < P → (⟨(nm (kd H S i)).toArray⟩ : ByteArray).toList.isEmpty = false) := Lib.hid fun i hi => by
    rw [ByteArray.toList_eq, List.isEmpty_eq_false_iff]
    exact nm_ne (kd_pos n (p := (i : Int)) (by omega) (by omega)) (kd_in n i).2.1
  have NQ : Hid (∀ i j : Nat, i < P → j < i → ((⟨(nm (kd H S i)).toArray⟩ : ByteArray).toList == (⟨(nm (kd H S j)).toArray⟩ : ByteArray).toList) = false) := Lib.hid fun i j hi hj => by
    rw [ByteArray.toList_eq, ByteArray.toList_eq, beq_eq_false_iff_ne]
    intro e2
    have := nm_inj n (p := (i : Int)) (q := (j : Int)) (by omega) (by omega) (by omega) (by omega) e2
    omega
  have EN : nmv (0, 0, 0) = .string ⟨#[]⟩ := by rfl
  have NN := Lib.hid fun w => name_nil k w
  rw [EN] at NN
  have NX := Lib.hid fun w => next_nil k 0 0 w
  have NL := Lib.hid fun w => leaf_nil k w
  have NU := Lib.hid fun w => up_nil k w
  have NP := Lib.hid fun w => ports_nil w
  have NLs := Lib.hid fun w => leaves_nil w
  have NH := Lib.hid fun w => hops_nil 0 1 w
  clear EN hP n
  unfold nmv at NM
  go_enter Tryd.func5, Tryd.ntmps5
  go_wp2_with fail
  with_reducible refine Calls.mono (NW.out _) ?_
  rintro e w2 ⟨b, rfl, hB, hK⟩
  have HT : Hid (TS w b H S w2) := Lib.hid ⟨hK, hB⟩
  clear hB hK NW
  go_wp2_with fail
  clear h0 h2 d0 d1 d2 d3
  go_loopg [9] P (fun kx s9 wr => ∃ i : Nat, Hid (P - i ≤ kx) ∧ i ≤ P ∧ s9 = .int .i64 (i : Nat) ∧ Hid (TS w b H S wr))
  case atStart => exact ⟨0, Lib.hid (by omega), by omega, rfl, HT⟩
  case round =>
    clear HT
    obtain ⟨i, hm, hi, rfl, HT⟩ := hrel
    have PTi := Lib.hid (PT.out _ _ HT.out.net)
    rcases Nat.lt_or_ge i P with hlt | hge
    · have hlt' : (i : Int) < (P : Int) := by omega
      have NEi := NE.out i hlt
      go_wp2_with fail
      with_reducible refine Calls.mono PTi.out ?_
      rintro e w3 ⟨rfl, m, rfl⟩
      have HT3 := Lib.hid (HT.out.drewN m)
      have NMi := Lib.hid (NM.out _ _ (i : Int) HT3.out.net)
      clear HT PTi
      obtain ⟨y, hy⟩ : ∃ y, (⟨(nm (kd H S (i : Int))).toArray⟩ : ByteArray) = y := ⟨_, rfl⟩
      rw [hy] at NEi NMi
      have HY := Lib.hid hy
      clear hy
      go_wp2_with fail
      with_reducible refine Calls.mono NMi.out ?_
      rintro e w4 ⟨rfl, hk⟩
      have HT4 := Lib.hid (HT3.out.next hk)
      clear hk HT3 NMi
      go_wp2_with fail
      go_loopg [10] i (fun kx s10 wr => ∃ j : Nat, Hid (i - j ≤ kx) ∧ j ≤ i ∧ s10 = .int .i64 (j : Nat) ∧ Hid (TS w b H S wr))
      case atStart => exact ⟨0, Lib.hid (by omega), by omega, rfl, HT4⟩
      case round =>
        clear HT4
        obtain ⟨j, hmj, hj, rfl, HT⟩ := hrel
        rcases Nat.lt_or_ge j i with hjl | hjg
        · have hjl' : (j : Int) < (i : Int) := by omega
          have NQj := NQ.out i j hlt hjl
          rw [HY.out] at NQj
          have NMi := Lib.hid (NM.out _ _ (i : Int) HT.out.net)
          rw [HY.out] at NMi
          obtain ⟨z, hz⟩ : ∃ z, (⟨(nm (kd H S (j : Int))).toArray⟩ : ByteArray) = z := ⟨_, rfl⟩
          rw [hz] at NQj
          have HZ := Lib.hid hz
          clear hz
          go_wp2_with fail
          with_reducible refine Calls.mono NMi.out ?_
          rintro e w5 ⟨rfl, hk⟩
          have HT5 := Lib.hid (HT.out.next hk)
          have NMj := Lib.hid (NM.out _ _ (j : Int) HT5.out.net)
          rw [HZ.out] at NMj
          clear hk HT NMi
          go_wp2_with fail
          with_reducible refine Calls.mono NMj.out ?_
          rintro e w6 ⟨rfl, hk⟩
          have HT6 := Lib.hid (HT5.out.next hk)
          clear hk HT5 NMj
          go_wp2_with fail
          go_roundg (i - (j + 1))
          case measure => have := hmj.out; omega
          case rel => exact ⟨j + 1, Lib.hid (Nat.le_refl _), by omega, by go_num, HT6⟩
        · have hjg' : ¬ ((j : Int) < (i : Int)) := by omega
          go_wp2_with fail
          go_roundg (P - (i + 1))
          case measure => have := hm.out; omega
          case rel => exact ⟨i + 1, Lib.hid (Nat.le_refl _), by omega, by go_num, HT⟩
    · have hge' : ¬ ((i : Int) < (P : Int)) := by omega
      go_wp2_with fail
      with_reducible refine Calls.mono PTi.out ?_
      rintro e w3 ⟨rfl, m, rfl⟩
      have HO := Lib.hid (HT.out.drewN m).old
      clear HT PTi
      generalize w2.drewN m = w3 at *
      go_wp2_with fail
      with_reducible refine Calls.mono (NX.out _) ?_
      rintro e w4 ⟨rfl, hk⟩
      have HO4 := Lib.hid (HO.out.trans hk)
      clear hk HO
      go_wp2_with fail
      with_reducible refine Calls.mono (NN.out _) ?_
      rintro e w5 ⟨rfl, hk⟩
      have HO5 := Lib.hid (HO4.out.trans hk)
      clear hk HO4
      go_wp2_with fail
      with_reducible refine Calls.mono (NL.out _) ?_
      rintro e w' ⟨rfl, rfl⟩
      go_wp2_with fail
      with_reducible refine Calls.mono (NU.out _) ?_
      rintro e w' ⟨rfl, rfl⟩
      go_wp2_with fail
      with_reducible refine Calls.mono (NP.out _) ?_
      rintro e w' ⟨rfl, rfl⟩
      go_wp2_with fail
      with_reducible refine Calls.mono (NLs.out _) ?_
      rintro e w' ⟨rfl, rfl⟩
      go_wp2_with fail
      with_reducible refine Calls.mono (NH.out _) ?_
      rintro e w' ⟨rfl, rfl⟩
      go_wp2_with fail
      with_reducible refine Calls.mono (HC.out _) ?_
      rintro e w7 ⟨rfl, ho⟩
      have HO7 : Hid (Old w w7) := Lib.hid (HO5.out.trans ho)
      clear ho
      go_wp2_with fail
      go_ret
      exact ⟨rfl, HO7.out⟩
theorem walk (a0 a1 a2 : Int) (w : World) (w0 : (Lit.int .i64 a0).wf = true) (w1 : (Lit.int .i64 a1).wf = true) (w2 : (Lit.int .i64 a2).wf = true) :
    Calls Tryd.prog 5 #[.int .i64 a0, .int .i64 a1, .int .i64 a2] w fun e w' => e = .returned (.bool true) ∧ Old w w' := by
  by_cases h : Net a0 a1
  · exact late a0 a1 a2 w h
  · exact early a0 a1 a2 w h
set_option maxRecDepth 100000 in
set_option maxHeartbeats 1000000 in
theorem lifted (os : Os) (started : os.Started) (H : Type) (enc : TypeId × Value → H) :
    ReturnsInHanded {} Tryd.checked os 5 .any (fun w args => (Rows.topoNamesSpec.pre enc Tryd.prog Tryd.f5 [] false w args ∧ laidMetH Tryd.prog [("math/bits.deBruijn32tab", Rows.laid_math_bits_deBruijn32tab), ("math/bits.deBruijn64tab", Rows.laid_math_bits_deBruijn64tab), ("internal/strconv.uint64pow10", Rows.laid_internal_strconv_uint64pow10)] w) ∧ sizedMet enc Tryd.prog Tryd.f5 (OpenSpec.ofChange Rows.topoNamesSpec) false w args)
      (Rows.topoNamesSpec.post enc Tryd.prog Tryd.f5 false true false false) := by
  refine returnsInHanded_of_change_and (C := Tryd.checked) (X := fun w _ => laidMetH Tryd.prog [("math/bits.deBruijn32tab", Rows.laid_math_bits_deBruijn32tab), ("math/bits.deBruijn64tab", Rows.laid_math_bits_deBruijn64tab), ("internal/strconv.uint64pow10", Rows.laid_internal_strconv_uint64pow10)] w) (fun _ _ _ hh h => h.of_heap hh) own started (by kernel_rfl) Tryd.func5
    (ChangeSpec.witness_shaped (enc := enc) (C := Tryd.checked) (os := os) (X := fun w _ => laidMetH Tryd.prog [("math/bits.deBruijn32tab", Rows.laid_math_bits_deBruijn32tab), ("math/bits.deBruijn64tab", Rows.laid_math_bits_deBruijn64tab), ("internal/strconv.uint64pow10", Rows.laid_internal_strconv_uint64pow10)] w) false (World.doorLaid Tryd.prog 400 os) #[.int .i64 0, .int .i64 0, .int .i64 0] 8 rfl (World.shaped_of_RefB (by kernel_rfl) (by kernel_rfl)) (by kernel_rfl) (by kernel_rfl) (by kernel_rfl) (door_met os _)) ?_
  intro W base args ds gs before hval0 hW _ _ hL _
  have hval : ∀ (j : Nat) t v, Tryd.f5.params[j]? = some t → args[j]? = some v → Value.okWide Tryd.prog W .any base t v := hval0
  have hW' := hW
  obtain ⟨p, q, hA0, hV, rfl, hfz, hnd⟩ := hW
  have hA : DataW.TrodAll enc Tryd.prog W 0 (fun _ => true) true Tryd.f5.params.toList args.toList ds p := hA0
  rw [Tryd.params5] at hA hval
  obtain ⟨v0, vs0, d0, ds0, p0, q0, hargs, rfl, rfl, h0, r0⟩ := trodAll_cons hA
  obtain ⟨v1, vs1, d1, ds1, p1, q1, rfl, rfl, rfl, h1, r1⟩ := trodAll_cons r0
  obtain ⟨v2, vs2, d2, ds2, p2, q2, rfl, rfl, rfl, h2, r2⟩ := trodAll_cons r1
  obtain ⟨rfl, rfl, rfl⟩ := trodAll_nil r2
  obtain rfl : args = #[v0, v1, v2] := by cases args; simp_all
  obtain ⟨rfl, rfl⟩ := trodVars_none hV
  obtain ⟨a0, rfl, rfl, rfl, w0⟩ := open_int Tryd.underlying3 (hval 0 3 v0 rfl rfl) h0
  obtain ⟨a1, rfl, rfl, rfl, w1⟩ := open_int Tryd.underlying3 (hval 1 3 v1 rfl rfl) h1
  obtain ⟨a2, rfl, rfl, rfl, w2⟩ := open_int Tryd.underlying3 (hval 2 3 v2 rfl rfl) h2
  clear hA0 hval0
  simp only [List.append_nil] at hW'
  refine (walk a0 a1 a2 W w0 w1 w2).mono fun e W' ⟨he, hg⟩ => ?_
  subst he
  exact ⟨_, rfl, post_of_old (pa := []) (pv := []) hW' (fun _ _ _ => (trodAll_cons_mk (shut_bool Tryd.underlying4 _) trodAll_mk0)) (fun sp _ => (trodAll_cons_mk (shut_int Tryd.underlying3 w0) (trodAll_cons_mk (shut_int Tryd.underlying3 w1) (trodAll_cons_mk (shut_int Tryd.underlying3 w2) trodAll_mk0)))) (fun _ _ => rfl)
    hg (ok_one (by kernel_rfl) rfl (okWide_bool_mk Tryd.underlying4 _))⟩
theorem over : Rows.topoNamesRow.holds Tryd.pinned (OpenSpec.ofChange Rows.topoNamesSpec) :=
  OpenClaim.holds_of_wide 5 Tryd.f5 rfl rfl rfl rfl rfl rfl rfl ⟨rfl, rfl, rfl, rfl, rfl⟩ rfl rfl rfl rfl rfl (by kernel_rfl) Tryd.func5 (by kernel_rfl)
    (of_decide_eq_true (by kernel_rfl)) (by unfold Func.isWrapper; first | (rw [if_pos (by decide +kernel)]; kernel_rfl) | (rw [if_neg (by decide +kernel)]; exact ⟨rfl, rfl⟩))
    (fun os started H enc _ => lifted os started H enc)
theorem proved : Rows.TopoNamesCardSaid :=
  Claim7.holds_tied_plain_at .later [] [.data, .data, .data] true (true, "7eb1777d289c64592c5581a2270a069ca86e4ee1d4162cebb9db670126b60041") false
    over (fun _ h => by cases h) (by kernel_rfl) (fun _ h => by cases h) topoNames_row_tie rfl ⟨rfl, rfl⟩ (by kernel_rfl) rfl
    (fun f fn hf hfn => by
      obtain rfl : f = 5 := Option.some.inj ((show Tryd.prog.funcNamed "mizzen/mizzenlaw14.TopoNames" = some 5 by kernel_rfl).symm.trans hf) |>.symm
      obtain rfl : fn = Tryd.f5 := (Option.some.inj (Tryd.func5.symm.trans hfn)).symm
      exact ⟨by kernel_rfl, fun j t ht => by
        rw [Tryd.params5] at ht
        have hm : t ∈ [3, 3, 3] := by simpa using Array.mem_of_getElem? ht
        have hall : ([3, 3, 3].all fun u => !Tryd.prog.wantsStandIn u) = true := by kernel_rfl
        exact (show Tryd.prog.wantsStandIn t = false by simpa using List.all_eq_true.1 hall t hm)⟩)
    (by kernel_rfl)
#print axioms proved
end Go.Proofs.YtoieogembfdmfaaDoor.topoNames
