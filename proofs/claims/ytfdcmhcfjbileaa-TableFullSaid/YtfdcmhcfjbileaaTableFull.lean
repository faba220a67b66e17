/- TableFull (mizzenlaw8): for every most and every step of the ids the law returns true (so many things may be there and not one more; behind a deletion there is room again) and its arguments read as before. Conditions: none. -/
import Derived.Test.YtfdcmhcfjbileaaRows
import Derived.Test.YtfdcmhcfjbileaaEnd
import Derived.Test.YtfdcmhcfjbileaaInts
import Derived.WalkKit
import Derived.ProofKit
import Derived.OpenShut
import Derived.Test.YtfdcmhcfjbileaaTbAwake
import Derived.Test.YtfdcmhcfjbileaaTbStU
import Derived.Test.YtfdcmhcfjbileaaTbFullM
set_option linter.unusedVariables false
namespace Go.Proofs.Ytfdcmhcfjbileaa.tableFull
open Go.ChangeShapes Go.WideShapes Go.ChangeAt Go.RowKit Go.Proofs.Ytfdcmhcfjbileaa.Hp Go.Proofs.Ytfdcmhcfjbileaa.End
open Opn TbM TbN TbR TbL
theorem own : ownKnob Try.prog.godebug = none := by kernel_rfl
attribute [local go_sem ↓] Go.wp_at_zero Go.wp_at_succ
set_option maxRecDepth 100000 in
set_option maxHeartbeats 2000000 in
theorem early (a s : Int) (w : World) (h : ¬ (1 ≤ a ∧ a ≤ 60 ∧ 1 ≤ s ∧ s ≤ 4294967296)) :
    Calls Try.prog 5 #[.int .i64 a, .int .u64 s] w fun e w' => e = .returned (.bool true) ∧ Old w w' := by
  have HC := Lib.hid fun w => awake_any w
  have hc : a < 1 ∨ (decide (a < 1) = false ∧ 60 < a) ∨ (decide (a < 1) = false ∧ decide (60 < a) = false ∧ s < 1) ∨ (decide (a < 1) = false ∧ decide (60 < a) = false ∧ decide (s < 1) = false ∧ 4294967296 < s) := by
    rw [decide_eq_false_iff_not, decide_eq_false_iff_not, decide_eq_false_iff_not]; omega
  clear h
  rcases hc with h1 | ⟨h1, h2⟩ | ⟨h1, h2, h3⟩ | ⟨h1, h2, h3, h4⟩
  all_goals
    go_enter Try.func5, Try.ntmps5
    go_wp2_with (go_at_call 7; refine (HC.out _).mono ?_; rintro e w' ⟨rfl, ho⟩)
    go_ret
    exact ⟨rfl, ho⟩
set_option maxRecDepth 100000 in
set_option maxHeartbeats 16000000 in
theorem late (M : Nat) (s : Int) (w : World) (g1 : 1 ≤ M) (g2 : M ≤ 60) (g3 : 1 ≤ s) (g4 : s ≤ 4294967296) :
    Calls Try.prog 5 #[.int .i64 (M : Int), .int .u64 s] w fun e w' => e = .returned (.bool true) ∧ Old w w' := by
  have HC := Lib.hid fun w => awake_any w
  have N := Lib.hid fun w => TbU.new_st (most := M) (by omega) (by omega) w
  have h1 : decide ((M : Int) < 1) = false := by rw [decide_eq_false_iff_not]; omega
  have h2 : decide ((60 : Int) < (M : Int)) = false := by rw [decide_eq_false_iff_not]; omega
  have h3 : decide (s < 1) = false := by rw [decide_eq_false_iff_not]; omega
  have h4 : decide ((4294967296 : Int) < s) = false := by rw [decide_eq_false_iff_not]; omega
  go_enter Try.func5, Try.ntmps5
  go_wp2_with fail
  with_reducible refine Calls.mono (N.out _) ?_
  rintro e w1 ⟨b, F0, rfl, hS⟩
  have HS := Lib.hid hS
  clear hS N
  go_wp2_with fail
  clear h1 h2 h3 h4
  go_loopg [7] (M + 3) (fun mm s7 wr => ∃ (i : Nat) (F : Nat → Prop), Hid (mm = M + 3 - i) ∧ i ≤ M + 3 ∧ s7 = .int .i64 ((i : Nat) : Int) ∧ Hid (TbU.St w b M (ms s (min i M)) F wr))
  case atStart => exact ⟨0, F0, Lib.hid rfl, by omega, rfl, Lib.hid (by rw [Nat.zero_min]; exact HS.out)⟩
  case round =>
    obtain ⟨i, F, hm, hi, rfl, hS⟩ := hrel
    rcases Nat.lt_or_ge i (M + 3) with hlt | hge
    · have hb := small (i := i) g3 g4 (by omega)
      have hw1 : IntKind.u64.wrap ((i : Nat) : Int) = (i : Int) := by rw [IntKind.wrap_u64]; omega
      have hw2 : IntKind.u64.wrap ((i : Int) * s) = (i : Int) * s := by rw [IntKind.wrap_u64]; omega
      have hlt' : (i : Int) < (M : Int) + 3 := by omega
      have hS2 := hS.out.old ((Kept.refl (fun _ => False) wr).alloc (.cells #[.int .i64 ((i : Int) % 8), .int .u64 ((i : Int) * s)] 34))
      rcases Nat.lt_or_ge i M with h | h
      · have hmin : min i M = i := Nat.min_eq_left (by omega)
        rw [hmin] at hS2
        have P := Lib.hid (TbU.put_st hS2 (k := ((i : Int) % 8, (i : Int) * s)) (ms_no (s := s) g3 (Nat.le_refl i)) (by rw [ms_len]; exact h) (by rw [ms_len]; omega) ((i : Int) * s))
        have hmin2 := Lib.hid (show min (i + 1) M = i + 1 from Nat.min_eq_left (by omega))
        have hIM : (i : Int) < (M : Int) := by omega
        clear hS2 hmin
        go_wp2_with fail
        with_reducible refine Calls.mono P.out ?_
        rintro e w2 ⟨rfl, F', hS3, _⟩
        have HS3 := Lib.hid hS3
        clear hS3 P
        go_wp2_with fail
        go_roundg (M + 3 - (i + 1))
        case measure => have := hm.out; omega
        case rel => exact ⟨i + 1, F', Lib.hid rfl, by omega, by go_num, Lib.hid (by rw [hmin2.out]; exact HS3.out)⟩
      · have hmin : min i M = M := Nat.min_eq_right (by omega)
        rw [hmin] at hS2
        have P := Lib.hid (TbU.full_st hS2 (k := ((i : Int) % 8, (i : Int) * s)) (ms_no (s := s) g3 h) (by rw [ms_len]; exact Nat.le_refl M) ((i : Int) * s))
        have hmin2 := Lib.hid (show min (i + 1) M = M from Nat.min_eq_right (by omega))
        have hIM : decide ((i : Int) < (M : Int)) = false := by rw [decide_eq_false_iff_not]; omega
        have HS2 := Lib.hid hS2
        clear hS2 hmin
        go_wp2_with fail
        with_reducible refine Calls.mono P.out ?_
        rintro e w2 ⟨rfl, hk⟩
        have HS3 := Lib.hid (HS2.out.old hk)
        clear hk P
        go_wp2_with fail
        go_roundg (M + 3 - (i + 1))
        case measure => have := hm.out; omega
        case rel => exact ⟨i + 1, F, Lib.hid rfl, by omega, by go_num, Lib.hid (by rw [hmin2.out]; exact HS3.out)⟩
    · have hS4 : Hid (TbU.St w b M (ms s M) F wr) := by
        have := hS.out
        rw [Nat.min_eq_right (by omega)] at this
        exact Lib.hid this
      have hge' : ¬ ((i : Int) < (M : Int) + 3) := by omega
      go_wp2_with fail
      clear hS hge hge' hm hi
      obtain ⟨wo, rfl⟩ : ∃ wo : World, wo = wr := ⟨_, rfl⟩
      go_loopg [10] (M + 3) (fun mm s10 wr => ∃ (j : Nat), Hid (mm = M + 3 - j) ∧ j ≤ M + 3 ∧ s10 = .int .i64 ((j : Nat) : Int) ∧ Hid (TbU.St w b M (ms s M) F wr))
      case atStart => exact ⟨0, Lib.hid rfl, by omega, rfl, hS4⟩
      case round =>
        clear hS4
        obtain ⟨j, hm, hj, rfl, hS⟩ := hrel
        rcases Nat.lt_or_ge j (M + 3) with hlt | hge
        · have hb := small (i := j) g3 g4 (by omega)
          have hw1 : IntKind.u64.wrap ((j : Nat) : Int) = (j : Int) := by rw [IntKind.wrap_u64]; omega
          have hw2 : IntKind.u64.wrap ((j : Int) * s) = (j : Int) * s := by rw [IntKind.wrap_u64]; omega
          have hlt' : (j : Int) < (M : Int) + 3 := by omega
          have hka : Kept (fun _ => False) wr (wr.alloc (.cells #[.int .i64 ((j : Int) % 8), .int .u64 ((j : Int) * s)] 34)) := (Kept.refl (fun _ => False) wr).alloc _
          have hBx := Blk.new wr [.int .i64 ((j : Int) % 8), .int .u64 ((j : Int) * s)] 34
          have hS2 := hS.out.old hka
          rcases Nat.lt_or_ge j M with h | h
          · have P := Lib.hid (TbU.get_st hS2 (k := ((j : Int) % 8, (j : Int) * s)) (u := (j : Int) * s) (ms_mem (s := s) h))
            have HS2 := Lib.hid hS2
            have HBx := Lib.hid hBx
            have hIM : (j : Int) < (M : Int) := by omega
            clear hS2 hka hBx
            go_wp2_with fail
            with_reducible refine Calls.mono P.out ?_
            rintro e w2 ⟨rfl, hk⟩
            have HS3 := Lib.hid (HS2.out.old hk)
            have hBx3 := hk.blk HBx.out (fun f => f)
            have c1 := hBx3.cell (o := 1) rfl
            clear hk P hBx3
            go_wp2_with fail
            go_roundg (M + 3 - (j + 1))
            case measure => have := hm.out; omega
            case rel => exact ⟨j + 1, Lib.hid rfl, by omega, by go_num, HS3⟩
          · have P := Lib.hid (TbU.got_st hS2 (k := ((j : Int) % 8, (j : Int) * s)) (ms_no (s := s) g3 h))
            have HS2 := Lib.hid hS2
            have hIM : decide ((j : Int) < (M : Int)) = false := by rw [decide_eq_false_iff_not]; omega
            clear hS2 hka hBx
            go_wp2_with fail
            with_reducible refine Calls.mono P.out ?_
            rintro e w2 ⟨rfl, hk⟩
            have HS3 := Lib.hid (HS2.out.old hk)
            clear hk P
            go_wp2_with fail
            go_roundg (M + 3 - (j + 1))
            case measure => have := hm.out; omega
            case rel => exact ⟨j + 1, Lib.hid rfl, by omega, by go_num, HS3⟩
        · have hge' : ¬ ((j : Int) < (M : Int) + 3) := by omega
          obtain ⟨R, hR⟩ := ms_first (s := s) g1
          have hS2 := hS.out.old ((Kept.refl (fun _ => False) wr).alloc (.cells #[.int .i64 0, .int .u64 0] 34))
          have hO := hS.out.off_new [.int .i64 0, .int .u64 0] 34
          have P := Lib.hid (TbU.del_st hS2 hR)
          have HO := Lib.hid hO
          have HR := Lib.hid hR
          have hRl : R.length + 1 = M := by have := hR.length_eq; rw [ms_len, List.length_cons] at this; omega
          have HRL := Lib.hid hRl
          clear hR hS2 hO hRl
          obtain ⟨x, hx⟩ : ∃ x, wr.heap.size = x := ⟨_, rfl⟩
          have HX := Lib.hid hx
          go_wp2_with fail
          clear hx
          with_reducible refine Calls.mono P.out ?_
          rintro e w2 ⟨rfl, F2, hS3, hN3⟩
          have hO3 := HO.out.next hN3
          rw [HX.out] at hO3
          have HS3 := Lib.hid hS3
          have HO3 := Lib.hid hO3
          have far : ∀ u, (((7 : Int), (1152921504606846976 : Int)), u) ∉ R := fun u hu => ms_far g3 g4 g2 u (HR.out.mem_iff.2 (List.mem_cons_of_mem _ hu))
          have P2 := Lib.hid (TbU.put_st hS3 (k := (7, 1152921504606846976)) far (by have := HRL.out; omega) (by have := HRL.out; omega) 1)
          clear hS3 hN3 hO3 P far
          go_wp2_with fail
          with_reducible refine Calls.mono P2.out ?_
          rintro e w3 ⟨rfl, F3, hS4, hN4⟩
          have hO4 := HO3.out.next hN4
          have c0 := hO4.1.cell (o := 0) rfl
          have c1 := hO4.1.cell (o := 1) rfl
          have no0 : ∀ u, (((0 : Int), (0 : Int)), u) ∉ (((7 : Int), (1152921504606846976 : Int)), (1 : Int)) :: R := by
            intro u hu
            rcases List.mem_cons.1 hu with e | hu
            · cases e
            · have := (HR.out.map Prod.fst).nodup_iff.1 (hS.out.keys)
              rw [List.map_cons, List.nodup_cons] at this
              exact this.1 (List.mem_map.2 ⟨_, hu, rfl⟩)
          have P3 := Lib.hid (TbU.full_st hS4 no0 (by have := HRL.out; rw [List.length_cons]; omega) 1)
          have HS4 := Lib.hid hS4
          clear hS4 hN4 hO4 P2 no0
          go_wp2_with fail
          with_reducible refine Calls.mono P3.out ?_
          rintro e w4 ⟨rfl, hk4⟩
          have HS5 := Lib.hid (HS4.out.old hk4)
          clear hk4 c0 c1 P3
          have P4 := TbU.len_st HS5.out
          rw [show ((((((7 : Int), (1152921504606846976 : Int)), (1 : Int)) :: R).length : Nat) : Int) = (M : Int) by have := HRL.out; rw [List.length_cons]; omega] at P4
          have HP4 := Lib.hid P4
          clear P4
          go_wp2_with fail
          with_reducible refine Calls.mono HP4.out ?_
          rintro e w' ⟨rfl, rfl⟩
          go_wp2_with fail
          with_reducible refine Calls.mono (HC.out _) ?_
          rintro e w5 ⟨rfl, ho⟩
          go_wp2_with fail
          go_ret
          exact ⟨rfl, HS5.out.1.trans ho⟩
theorem walk (a s : Int) (w : World) (w0 : (Lit.int .i64 a).wf = true) (w1 : (Lit.int .u64 s).wf = true) :
    Calls Try.prog 5 #[.int .i64 a, .int .u64 s] w fun e w' => e = .returned (.bool true) ∧ Old w w' := by
  by_cases h : 1 ≤ a ∧ a ≤ 60 ∧ 1 ≤ s ∧ s ≤ 4294967296
  · obtain ⟨n, rfl⟩ : ∃ n : Nat, a = n := ⟨a.toNat, by omega⟩
    exact late n s w (by omega) (by omega) h.2.2.1 h.2.2.2
  · exact early a s w h
set_option maxRecDepth 100000 in
set_option maxHeartbeats 1000000 in
theorem lifted (os : Os) (started : os.Started) (H : Type) (enc : TypeId × Value → H) :
    ReturnsInHanded {} Try.checked os 5 .any (Rows.tableFullSpec.pre6 enc Try.prog Try.f5 Rows.tableFullRow.domain false) (Rows.tableFullSpec.post enc Try.prog Try.f5 false true false false) := by
  refine returnsInHanded_of_change (C := Try.checked) own started (by kernel_rfl) Try.func5
    (ChangeSpec.witness6 (enc := enc) (C := Try.checked) false ⟨#[], #[.int .i64 0, .int .u64 0], []⟩ 8 (by kernel_rfl) (by kernel_rfl) (by kernel_rfl) (by kernel_rfl)) ?_
  intro W base args ds gs before hval0 hW hcnd _
  have hval : ∀ (j : Nat) t v, Try.f5.params[j]? = some t → args[j]? = some v → Value.okWide Try.prog W .any base t v := hval0
  have hW' := hW
  obtain ⟨p, q, hA0, hV, rfl, hfz, hnd⟩ := hW
  have hA : DataW.TrodAll enc Try.prog W 0 (fun _ => true) true Try.f5.params.toList args.toList ds p := hA0
  rw [Try.params5] at hA hval
  obtain ⟨v0, vs0, d0, ds0, p0, q0, hargs, rfl, rfl, h0, r0⟩ := trodAll_cons hA
  obtain ⟨v1, vs1, d1, ds1, p1, q1, rfl, rfl, rfl, h1, r1⟩ := trodAll_cons r0
  obtain ⟨rfl, rfl, rfl⟩ := trodAll_nil r1
  obtain rfl : args = #[v0, v1] := by cases args; simp_all
  obtain ⟨rfl, rfl⟩ := trodVars_none hV
  obtain ⟨a0, rfl, rfl, rfl, w0⟩ := open_int Try.underlying3 (hval 0 3 v0 rfl rfl) h0
  obtain ⟨a1, rfl, rfl, rfl, w1⟩ := open_int Try.underlying24 (hval 1 24 v1 rfl rfl) h1
  clear hA0 hval0
  simp only [List.append_nil] at hW'
  refine (walk a0 a1 W w0 w1).mono fun e W' ⟨he, hg⟩ => ?_
  subst he
  exact ⟨_, rfl, post_of_old (pa := []) (pv := []) hW' (fun _ _ _ => (trodAll_cons_mk (shut_bool Try.underlying4 _) trodAll_mk0)) (fun sp _ => (trodAll_cons_mk (shut_int Try.underlying3 w0) (trodAll_cons_mk (shut_int Try.underlying24 w1) trodAll_mk0))) (fun _ _ => rfl)
    hg (ok_one (by kernel_rfl) rfl (okWide_bool_mk Try.underlying4 _))⟩
theorem over : Rows.tableFullRow.holds Try.pinned (OpenSpec.ofChange Rows.tableFullSpec) :=
  OpenClaim.holds_of_wide 5 Try.f5 rfl rfl rfl rfl rfl rfl rfl ⟨rfl, rfl, rfl, rfl, rfl⟩ rfl rfl rfl rfl rfl (by kernel_rfl) Try.func5 (by kernel_rfl)
    (of_decide_eq_true (by kernel_rfl)) (by unfold Func.isWrapper; first | (rw [if_pos (by decide +kernel)]; kernel_rfl) | (rw [if_neg (by decide +kernel)]; exact ⟨rfl, rfl⟩))
    (fun os started H enc _ => lifted os started H enc)
theorem proved : Rows.TableFullSaid :=
  over
#print axioms proved
end Go.Proofs.Ytfdcmhcfjbileaa.tableFull
