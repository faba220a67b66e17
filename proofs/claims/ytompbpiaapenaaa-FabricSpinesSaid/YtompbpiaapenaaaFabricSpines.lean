/- FabricSpines (mizzenlaw15): for every two ints and a bool the law returns true and its arguments read as before. Conditions: none beyond the model's. -/
import Derived.Test.YtompbpiaapenaaaRows
import Derived.Test.YtompbpiaapenaaaFbG1
import Derived.WalkKit
import Derived.ProofKit
import Derived.OpenShut
import Derived.Test.YtompbpiaapenaaaFbG27
import Derived.Lib.SlBytesConst
set_option linter.unusedVariables false
namespace Go.Proofs.Ytompbpiaapenaaa.fabricSpines
open Go.ChangeShapes Go.WideShapes Go.ChangeAt Go.RowKit Go.Proofs.Ytompbpiaapenaaa.Hp Go.Proofs.Ytompbpiaapenaaa.End
open Go.RowKit Go.Proofs.Ytompbpiaapenaaa.Hp Go.Proofs.Ytompbpiaapenaaa.TpM Go.Proofs.Ytompbpiaapenaaa.Tp Go.Proofs.Ytompbpiaapenaaa.End Go.Proofs.Ytompbpiaapenaaa.QuM Go.Proofs.Ytompbpiaapenaaa.Po Go.Proofs.Ytompbpiaapenaaa.Fo Go.Proofs.Ytompbpiaapenaaa.FbM Go.Proofs.Ytompbpiaapenaaa.Fb
theorem own : ownKnob Try.prog.godebug = none := by kernel_rfl
set_option maxRecDepth 100000 in
set_option maxHeartbeats 8000000 in
theorem early (S k : Int) (l : Bool) (w : World) (h : S < 1 ∨ (¬ S < 1 ∧ 4 < S)) :
    Calls Try.prog 6 #[.int .i64 S, .int .i64 k, .bool l] w fun e w' => e = .returned (.bool true) ∧ Old w w' := by
  have HC := Lib.hid fun w => Fb.awake_any w
  rcases h with h0 | ⟨h0, h1⟩
  all_goals
    go_enter Try.func6, Try.ntmps6
    go_wp2_with fail
    with_reducible refine Calls.mono (HC.out _) ?_
    rintro e w7 ⟨rfl, ho⟩
    have HO := Lib.hid ho
    clear ho
    go_wp2_with fail
    go_ret
    exact ⟨rfl, HO.out⟩
/-- One frame that waits at port p, or not. -/
abbrev FK (S : Int) : Cf := KS S (8 + 4 * S.toNat)
set_option maxRecDepth 100000 in
set_option maxHeartbeats 16000000 in
theorem late (S k : Int) (l : Bool) (w : World) (h0 : 1 ≤ S) (h1 : S ≤ 4) (hk0 : -9223372036854775808 ≤ k) (hk1 : k ≤ 9223372036854775807) :
    Calls Try.prog 6 #[.int .i64 S, .int .i64 k, .bool l] w fun e w' => e = .returned (.bool true) ∧ Old w w' := by
  have HC := Lib.hid fun w => Fb.awake_any w
  have NW : Hid (Calls Try.prog 22 #[.int .i64 4, .int .i64 S, .int .i64 1000, .int .i64 2, .bool false] w fun e w' => ∃ fb, e = .returned (.tuple #[ptr fb, .int .i64 0]) ∧ FV w (FK S) M0 0 fb w') := Lib.hid (fv_new (K := FK S) (ks_ok h0 h1) (by show (0 : Int) ≤ 1000; decide) (by show (1000 : Int) ≤ _; decide) (by show (0 : Int) ≤ 2; decide) (by show (2 : Int) ≤ _; decide) w)
  have RD := Lib.hid fun w => Rnd.round_pos (k := k) (n := S) (by omega) (by omega) hk0 hk1 w
  have hsp : sp S k = k % S := (Rnd.tmod_emod k S (by omega)).symm
  have hs0 : 0 ≤ k % S := Int.emod_nonneg k (by omega)
  have hs1 : k % S < S := Int.emod_lt_of_pos k (by omega)
  have NX1 := ks_nx1 h0 h1 k
  rw [hsp] at NX1
  obtain ⟨s, hs⟩ := Int.eq_ofNat_of_zero_le hs0
  rw [hs] at RD NX1 hs1
  clear hs hs0 hsp
  have NX2 := ks_nx2 h0 h1 hs1 k
  have NX3 := ks_nx3 h0 h1 hs1 k
  have NX4 := ks_nx4 h0 h1 k
  have HNX := Lib.hid (And.intro NX1 (And.intro NX2 (And.intro NX3 NX4)))
  clear NX1 NX2 NX3 NX4
  obtain ⟨n, hn⟩ : ∃ n, 8 + 4 * S.toNat = n := ⟨_, rfl⟩
  have hnS : (n : Int) = 8 + 4 * S := by omega
  unfold FK at NW
  rw [hn] at NW
  clear hn
  have d1 : decide (S < 1) = false := by rw [decide_eq_false_iff_not]; omega
  have d2 : decide (4 < S) = false := by rw [decide_eq_false_iff_not]; omega
  have hup : 8 + s < n := by omega
  have hn24 : n ≤ 24 := by omega
  have HNS := Lib.hid hnS
  have HS := Lib.hid (And.intro h0 (And.intro h1 hs1))
  clear hnS hk0 hk1 h0 h1 hs1
  go_enter Try.func6, Try.ntmps6
  go_wp2_with fail
  with_reducible refine Calls.mono NW.out ?_
  rintro e w1 ⟨fb, rfl, hF1⟩
  have F1 := Lib.hid hF1
  clear NW hF1 d1 d2
  go_wp2_with fail
  with_reducible refine Calls.mono (RD.out _) ?_
  rintro e w2 ⟨rfl, rfl⟩
  clear RD
  go_upto_region 7 with fail
  have hkD := (Kept.refl (fun _ => False) w1).alloc (.cells #[.int .u8 104, .int .u8 105] 5 (2, 3))
  have hD0 : (w1.alloc (.cells #[.int .u8 104, .int .u8 105] 5 (2, 3))).cell? ⟨w1.heap.size, 0, none⟩ = some (.int .u8 104) := mark_cell rfl
  have hD1 : (w1.alloc (.cells #[.int .u8 104, .int .u8 105] 5 (2, 3))).cell? ⟨w1.heap.size, 1, none⟩ = some (.int .u8 105) := mark_cell rfl
  have hDl : w1.heap.size < (w1.alloc (.cells #[.int .u8 104, .int .u8 105] 5 (2, 3))).heap.size := by simp
  have SN : Hid (Calls Try.prog 24 #[ptr fb, .int .i64 0, .agg #[.int .i64 1, .int .i64 0, .int .i64 3, .int .i64 0, .int .u64 0, .int .i64 0, .int .i64 2, .int .i64 2, .int .i64 0, .slice (some ⟨w1.heap.size, 0, none⟩) 2 2], .int .i64 k] (w1.alloc (.cells #[.int .u8 104, .int .u8 105] 5 (2, 3))) fun e w' => e = .returned (.tuple #[.int .i64 1, .int .i64 0]) ∧ ∃ s c, FV w (KS S n) (S1 0 ⟨fd, s, c, k⟩) 1 fb w') := by
    have hr : Rd (w1.alloc (.cells #[.int .u8 104, .int .u8 105] 5 (2, 3))) ⟨fd, some ⟨w1.heap.size, 0, none⟩, 2, k⟩ := by
      refine ⟨⟨some ⟨w1.heap.size, 0, none⟩, 2, rfl, Nat.le_refl _, Or.inr ⟨w1.heap.size, 0, rfl, hDl, fun j hj => ?_⟩, fun h => by cases h⟩, by show (2 : Nat) ≤ _; decide⟩
      have hj2 : j < 2 := hj
      have hj3 : j = 0 ∨ j = 1 := by omega
      rcases hj3 with rfl | rfl
      · exact hD0
      · exact hD1
    have := fv_send_yes (F1.out.old hkD) (by decide) (J := 0) (q := k) (x := ⟨fd, some ⟨w1.heap.size, 0, none⟩, 2, k⟩) hr ⟨⟨by decide, by show (0 : Int) < 4; decide⟩, okd, ⟨by show (0 : Int) ≤ 3; decide, by show (3 : Int) < 4; decide⟩, by show ¬ (3 : Int) = 0; decide⟩
    refine Lib.hid (this.mono ?_)
    rintro e w' ⟨rfl, s, c, h⟩
    rw [show (0 : Int).toNat = 0 from rfl, dD_one S n 0] at *
    refine ⟨rfl, s, c, ?_⟩
    rw [put_M0] at h
    exact h
  clear hD0 hD1 hDl hkD F1
  have kc := fun (w : World) (C : Array Value) (n c : Nat) => Lib.run_convert_bytes_const (P := Try.prog) w 33 5 C n c Try.underlying33 Try.underlying5
  go_wp2_with fail
  with_reducible refine Calls.mono SN.out ?_
  rintro e w3 ⟨rfl, sa, ca, h3⟩
  clear kc
  generalize w1.heap.size = db at *
  have SV : Hid (Calls Try.prog 26 #[ptr fb, .int .i64 0, .int .i64 0] w3 fun e w' => e = .returned (.tuple #[.bool true, .int .i64 0]) ∧ ∃ s' c', FV w (KS S n) (S1 (8 + s) ⟨fd, s', c', k⟩) 1 fb w') := by
    refine Lib.hid ((fv_serve_some h3 (by decide) (p := 0) (by show 0 < n; omega) (t := 0) (tk_S1 0 _)).mono ?_)
    rintro e w' ⟨rfl, M', hM, h4⟩
    refine ⟨rfl, ?_⟩
    have hx := HNX.out.1
    rcases hM with ⟨e1, _⟩ | ⟨e1, _, _, s', c', rfl⟩
    · have e1 : (nx 4 S (0 : Nat) 3 k).2 = true := e1
      rw [hx] at e1; cases e1
    · have e2 : (nx (KS S n).H (KS S n).S ((0 : Nat) : Int) (⟨fd, sa, ca, k⟩ : Bx).f.dst (⟨fd, sa, ca, k⟩ : Bx).q).1.toNat = 8 + s := by
        show (nx 4 S (0 : Nat) 3 k).1.toNat = _
        rw [hx]; show (8 + (s : Int)).toNat = _; omega
      rw [e2, srv1_S1, put_M0] at h4
      exact ⟨s', c', h4⟩
  clear SN h3
  go_wp2_with fail
  with_reducible refine Calls.mono SV.out ?_
  rintro e w4 ⟨rfl, sb, cb, h4⟩
  have F4 := Lib.hid h4
  have hw8 : IntKind.i64.wrap (8 + (s : Int)) = 8 + (s : Int) := by rw [IntKind.wrap_i64]; have := HS.out; omega
  have WT : Hid (∀ w', Kept (fun _ => False) w4 w' → Calls Try.prog 33 #[ptr fb, .int .i64 (8 + (s : Int))] w' fun e w'' => e = .returned (.int .i64 1) ∧ ∃ m, w'' = w'.drewN m) := by
    refine Lib.hid fun w' kk => ?_
    have := fv_wait (F4.out.old kk) (by decide) hup
    rw [acc_S1, show ((8 + s : Nat) : Int) = 8 + (s : Int) by omega] at this
    exact this
  clear SV h4
  go_wp2_with fail
  with_reducible refine Calls.mono (WT.out _ (Kept.refl _ _)) ?_
  rintro e w5 ⟨rfl, m5, rfl⟩
  have F5 := Lib.hid (F4.out.old ((Kept.refl (fun _ => False) w4).drewN m5))
  generalize w4.drewN m5 = w5 at *
  have B3 : Hid (Calls Try.prog 35 #[ptr fb, .int .i64 3] w5 fun e w'' => e = .returned (.int .i64 2) ∧ w5 = w'') := Lib.hid (fv_bytes F5.out (j := 3) (by show 3 < 4; decide))
  have B0 : Hid (Calls Try.prog 35 #[ptr fb, .int .i64 0] w5 fun e w'' => e = .returned (.int .i64 0) ∧ w5 = w'') := Lib.hid (fv_bytes F5.out (j := 0) (by show 0 < 4; decide))
  clear WT F4
  go_wp2_with fail
  with_reducible refine Calls.mono B3.out ?_
  rintro e w6 ⟨rfl, rfl⟩
  go_wp2_with fail
  with_reducible refine Calls.mono B0.out ?_
  rintro e w6 ⟨rfl, rfl⟩
  clear B3 B0
  have hs0 : ¬ ((8 : Int) + (s : Int) < 0) := by omega
  go_wp2_with fail
  go_loopg [15] n (fun mm s15 wr => ∃ (i : Nat), Hid (n - i ≤ mm) ∧ i ≤ n ∧ s15 = .int .i64 (i : Nat) ∧ Hid (FV w (KS S n) (S1 (8 + s) ⟨fd, sb, cb, k⟩) 1 fb wr))
  case atStart => exact ⟨0, Lib.hid (by omega), Nat.zero_le _, rfl, F5⟩
  case round =>
    obtain ⟨i, hmm, hi, rfl, hF⟩ := hrel
    have PT := Lib.hid (fv_ports hF.out)
    go_wp2_with fail
    with_reducible refine Calls.mono PT.out ?_
    rintro e w6 ⟨rfl, rfl⟩
    clear PT
    rcases Nat.lt_or_ge i n with hlt | hge
    · have hlt' : (i : Int) < (n : Int) := by omega
      have F7 := hF
      have HLT := Lib.hid hlt
      clear hF
      by_cases he : i = 8 + s
      · have he1 : ((i : Int) == 8 + (s : Int)) = true := by rw [beq_iff_eq]; omega
        have he2 : ((i : Int) != 8 + (s : Int)) = false := by rw [bne, he1]; rfl
        clear he
        go_wp2_with fail
        go_roundg (n - (i + 1))
        case measure => have := hmm.out; have := HLT.out; omega
        case rel => exact ⟨i + 1, Lib.hid (Nat.le_refl _), HLT.out, by go_num, F7⟩
      · have he1 : ((i : Int) == 8 + (s : Int)) = false := by rw [beq_eq_false_iff_ne]; omega
        have he2 : ((i : Int) != 8 + (s : Int)) = true := by rw [bne, he1]; rfl
        have WT : Hid (Calls Try.prog 33 #[ptr fb, .int .i64 (i : Nat)] wr fun e w'' => e = .returned (.int .i64 0) ∧ ∃ m, w'' = wr.drewN m) := by
          have := fv_wait F7.out (by decide) hlt
          rw [acc_S1' _ he] at this
          exact Lib.hid this
        clear he
        go_wp2_with fail
        with_reducible refine Calls.mono WT.out ?_
        rintro e w7 ⟨rfl, m7, rfl⟩
        have F8 := Lib.hid (F7.out.old ((Kept.refl (fun _ => False) wr).drewN m7))
        generalize wr.drewN m7 = w7 at *
        clear WT F7
        go_wp2_with fail
        go_roundg (n - (i + 1))
        case measure => have := hmm.out; have := HLT.out; omega
        case rel => exact ⟨i + 1, Lib.hid (Nat.le_refl _), HLT.out, by go_num, F8⟩
    · have hge' : ¬ ((i : Int) < (n : Int)) := by omega
      obtain rfl : i = n := by omega
      have F9 := hF
      clear hF F5 hmm hge hi
      cases l with
      | true =>
        have DR : Hid (Calls Try.prog 31 #[ptr fb, .int .i64 (8 + (s : Int)), .int .i64 0] wr fun e w' => e = .returned (.int .i64 0) ∧ FV w (KS S i) S3 1 fb w') := by
          have := fv_drop_yes F9.out (by decide) (p := 8 + s) (k := 0) hup (x := ⟨fd, sb, cb, k⟩) (by rw [acc_S1]; rfl)
          rw [show ((8 + s : Nat) : Int) = 8 + (s : Int) by omega] at this
          refine Lib.hid (this.mono ?_)
          rintro e w' ⟨rfl, i', at_, g1, g2, g3, g4⟩
          rw [dr_S1 g1 g2] at g4
          exact ⟨rfl, g4⟩
        clear F9
        go_wp2_with fail
        with_reducible refine Calls.mono DR.out ?_
        rintro e w6 ⟨rfl, h6⟩
        have LS := Lib.hid (fv_lost h6)
        have H6 := Lib.hid h6
        clear DR h6
        go_wp2_with fail
        with_reducible refine Calls.mono LS.out ?_
        rintro e w7 ⟨rfl, rfl⟩
        clear LS
        go_wp2_with fail
        with_reducible refine Calls.mono (fv_empty H6.out (by decide)) ?_
        rintro e w7 ⟨r, rfl, hr, hk7⟩
        obtain rfl : r = true := hr.2 (none_S3 _)
        have H7 := Lib.hid (H6.out.old hk7)
        clear hr hk7 H6
        have DR2 : Hid (Calls Try.prog 31 #[ptr fb, .int .i64 (8 + (s : Int)), .int .i64 0] w7 fun e w' => e = .returned (.int .i64 5) ∧ FV w (KS S i) S3 1 fb w') :=
          Lib.hid (fv_drop_no H7.out (by decide) (J := 8 + (s : Int)) (k := 0) (Or.inr ⟨8 + s, by omega, hup, Or.inr (by show ((0 : Nat) : Int) ≤ 0; decide)⟩) (by decide))
        go_wp2_with fail
        with_reducible refine Calls.mono DR2.out ?_
        rintro e w8 ⟨rfl, h8⟩
        have B3 : Hid (Calls Try.prog 35 #[ptr fb, .int .i64 3] w8 fun e w'' => e = .returned (.int .i64 0) ∧ w8 = w'') := Lib.hid (fv_bytes h8 (j := 3) (by show 3 < 4; decide))
        have HK8 : Hid (Old w w8) := Lib.hid h8.since
        clear DR2 H7 h8
        go_wp2_with fail
        with_reducible refine Calls.mono B3.out ?_
        rintro e w9 ⟨rfl, rfl⟩
        clear B3
        go_wp2_with fail
        with_reducible refine Calls.mono (HC.out _) ?_
        rintro e w9 ⟨rfl, ho⟩
        have HO : Hid (Old w w9) := Lib.hid (HK8.out.trans ho)
        clear ho
        go_wp2_with fail
        go_ret
        exact ⟨rfl, HO.out⟩
      | false =>
        have hS := HS.out
        have hnS := HNS.out
        have SV : Hid (Calls Try.prog 26 #[ptr fb, .int .i64 (8 + (s : Int)), .int .i64 0] wr fun e w' => e = .returned (.tuple #[.bool true, .int .i64 0]) ∧ ∃ s' c', FV w (KS S i) (S1 (8 + 2 * S + 2 * (s : Int) + 1).toNat ⟨fd, s', c', k⟩) 1 fb w') := by
          have := fv_serve_some F9.out (by decide) (p := 8 + s) hup (t := 0) (tk_S1 _ _)
          rw [show ((8 + s : Nat) : Int) = 8 + (s : Int) by omega] at this
          refine Lib.hid (this.mono ?_)
          rintro e w' ⟨rfl, M', hM, h4⟩
          refine ⟨rfl, ?_⟩
          have hx := HNX.out.2.1
          rcases hM with ⟨e1, _⟩ | ⟨e1, _, _, s', c', rfl⟩
          · have e1 : (nx 4 S ((8 + s : Nat) : Int) 3 k).2 = true := e1
            rw [hx] at e1; cases e1
          · have e2 : (nx (KS S i).H (KS S i).S ((8 + s : Nat) : Int) (⟨fd, sb, cb, k⟩ : Bx).f.dst (⟨fd, sb, cb, k⟩ : Bx).q).1.toNat = (8 + 2 * S + 2 * (s : Int) + 1).toNat := by
              show (nx 4 S ((8 + s : Nat) : Int) 3 k).1.toNat = _
              rw [hx]
            rw [e2, srv1_S1, put_M0] at h4
            exact ⟨s', c', h4⟩
        obtain ⟨q1, hq1⟩ : ∃ q1 : Nat, 8 + 2 * S + 2 * (s : Int) + 1 = q1 := ⟨(8 + 2 * S + 2 * (s : Int) + 1).toNat, by omega⟩
        have hq1n : q1 < i := by omega
        have hwA : IntKind.i64.wrap (2 * S) = 2 * S := by rw [IntKind.wrap_i64]; omega
        have hwB : IntKind.i64.wrap (8 + 2 * S) = 8 + 2 * S := by rw [IntKind.wrap_i64]; omega
        have hwC : IntKind.i64.wrap (2 * (s : Int)) = 2 * (s : Int) := by rw [IntKind.wrap_i64]; omega
        have hwD : IntKind.i64.wrap (8 + 2 * S + 2 * (s : Int)) = 8 + 2 * S + 2 * (s : Int) := by rw [IntKind.wrap_i64]; omega
        have hwE : IntKind.i64.wrap (8 + 2 * S + 2 * (s : Int) + 1) = 8 + 2 * S + 2 * (s : Int) + 1 := by rw [IntKind.wrap_i64]; omega
        have HQ1 := Lib.hid hq1
        clear F9 hS hnS hq1
        go_wp2_with fail
        with_reducible refine Calls.mono SV.out ?_
        rintro e w6 ⟨rfl, sc, cc, h6⟩
        rw [HQ1.out, Int.toNat_natCast] at h6
        have SV2 : Hid (Calls Try.prog 26 #[ptr fb, .int .i64 (8 + 2 * S + 2 * (s : Int) + 1), .int .i64 0] w6 fun e w' => e = .returned (.tuple #[.bool true, .int .i64 0]) ∧ ∃ s' c', FV w (KS S i) (S1 7 ⟨fd, s', c', k⟩) 1 fb w') := by
          have := fv_serve_some h6 (by decide) (p := q1) hq1n (t := 0) (tk_S1 _ _)
          rw [← HQ1.out] at this
          refine Lib.hid (this.mono ?_)
          rintro e w' ⟨rfl, M', hM, h4⟩
          refine ⟨rfl, ?_⟩
          have hx := HNX.out.2.2.1
          rw [HQ1.out] at hx
          rcases hM with ⟨e1, _⟩ | ⟨e1, _, _, s', c', rfl⟩
          · have e1 : (nx 4 S (q1 : Nat) 3 k).2 = true := e1
            rw [hx] at e1; cases e1
          · have e2 : (nx (KS S i).H (KS S i).S (q1 : Nat) (⟨fd, sc, cc, k⟩ : Bx).f.dst (⟨fd, sc, cc, k⟩ : Bx).q).1.toNat = 7 := by
              show (nx 4 S (q1 : Nat) 3 k).1.toNat = _
              rw [hx]; rfl
            rw [e2, srv1_S1, put_M0] at h4
            exact ⟨s', c', h4⟩
        clear SV h6
        go_wp2_with fail
        with_reducible refine Calls.mono SV2.out ?_
        rintro e w7 ⟨rfl, sd, cd, h7⟩
        have SV3 : Hid (Calls Try.prog 26 #[ptr fb, .int .i64 7, .int .i64 0] w7 fun e w' => e = .returned (.tuple #[.bool true, .int .i64 0]) ∧ FV w (KS S i) (S2 ⟨fd, sd, cd, k⟩) 1 fb w') := by
          refine Lib.hid ((fv_serve_some h7 (by decide) (p := 7) (by show 7 < i; omega) (t := 0) (tk_S1 _ _)).mono ?_)
          rintro e w' ⟨rfl, M', hM, h4⟩
          refine ⟨rfl, ?_⟩
          have hx := HNX.out.2.2.2
          rcases hM with ⟨e1, _, rfl⟩ | ⟨e1, _⟩
          · have e2 : (⟨fd, sd, cd, k⟩ : Bx).f.dst.toNat = 3 := rfl
            rw [e2, srv2_S1] at h4
            exact h4
          · have e1 : (nx 4 S (7 : Nat) 3 k).2 = false := e1
            rw [hx] at e1; cases e1
        clear SV2 h7 hwA hwB hwC hwD hwE
        go_wp2_with fail
        with_reducible refine Calls.mono SV3.out ?_
        rintro e w8 ⟨rfl, h8⟩
        have TK : Hid (Calls Try.prog 27 #[ptr fb, .int .i64 3] w8 fun e w' => e = .returned (.tuple #[.agg #[.int .i64 1, .int .i64 0, .int .i64 3, .int .i64 0, .int .u64 0, .int .i64 0, .int .i64 2, .int .i64 2, .int .i64 0, .slice sd 2 cd], .bool true]) ∧ Byt.Src w' (.slice sd 2 cd) [104, 105] ∧ FV w (KS S i) M0 0 fb w') := by
          refine Lib.hid ((fv_take_some h8 (by decide) (j := 3) (by show 3 < 4; decide) (x := ⟨fd, sd, cd, k⟩) (L := []) rfl).mono ?_)
          rintro e w' ⟨rfl, hd, h5⟩
          refine ⟨rfl, hd.1.src, ?_⟩
          have e : ({ S2 ⟨fd, sd, cd, k⟩ with I := upd (S2 ⟨fd, sd, cd, k⟩).I 3 [] } : Mo) = M0 := by
            have e1 : upd (upd (fun _ => []) 3 [(⟨fd, sd, cd, k⟩ : Bx)]) 3 [] = fun _ => [] := by rw [upd_upd]; exact upd_same (fun _ => ([] : List Bx)) 3
            show (⟨_, upd (upd (fun _ => []) 3 [(⟨fd, sd, cd, k⟩ : Bx)]) 3 [], _, _⟩ : Mo) = _
            rw [e1]
          rw [e] at h5
          exact h5
        clear SV3 h8
        go_wp2_with fail
        with_reducible refine Calls.mono TK.out ?_
        rintro e w9 ⟨rfl, hsrc, h9⟩
        clear TK
        go_upto_region 23 with fail
        have hO := Blk.new w9 [.int .i64 1, .int .i64 0, .int .i64 3, .int .i64 0, .int .u64 0, .int .i64 0, .int .i64 2, .int .i64 2, .int .i64 0, .slice sd 2 cd] 35
        have hk := (Kept.refl (fun _ => False) w9).alloc (.cells [.int .i64 1, .int .i64 0, .int .i64 3, .int .i64 0, .int .u64 0, .int .i64 0, .int .i64 2, .int .i64 2, .int .i64 0, .slice sd 2 cd].toArray 35)
        dsimp only [List.toArray] at hO hk
        have H10 := Lib.hid (h9.old hk)
        have t1 := Byt.run_str (hsrc.kept hk)
        generalize w9.alloc (.cells #[.int .i64 1, .int .i64 0, .int .i64 3, .int .i64 0, .int .u64 0, .int .i64 0, .int .i64 2, .int .i64 2, .int .i64 0, .slice sd 2 cd] 35) = w10 at *
        generalize w9.heap.size = ob at *
        have c9 := hO.cell (o := 9) rfl
        clear hO hk h9 hsrc
        go_wp2_with fail
        with_reducible refine Calls.mono (fv_empty H10.out (by decide)) ?_
        rintro e w11 ⟨r, rfl, hr, hk11⟩
        obtain rfl : r = true := hr.2 (none_M0 _)
        have H11 := Lib.hid (H10.out.old hk11)
        have LS : Hid (Calls Try.prog 29 #[ptr fb] w11 fun e w'' => e = .returned (.int .i64 0) ∧ w11 = w'') := Lib.hid (fv_lost H11.out)
        have HK11 : Hid (Old w w11) := Lib.hid H11.out.since
        clear hr hk11 H10 H11 c9 t1
        go_wp2_with fail
        with_reducible refine Calls.mono LS.out ?_
        rintro e w12 ⟨rfl, rfl⟩
        clear LS
        go_wp2_with fail
        with_reducible refine Calls.mono (HC.out _) ?_
        rintro e w12 ⟨rfl, ho⟩
        have HO : Hid (Old w w12) := Lib.hid (HK11.out.trans ho)
        clear ho
        go_wp2_with fail
        go_ret
        exact ⟨rfl, HO.out⟩
theorem walk (S k : Int) (l : Bool) (w : World) (w0 : (Lit.int .i64 S).wf = true) (w1 : (Lit.int .i64 k).wf = true) :
    Calls Try.prog 6 #[.int .i64 S, .int .i64 k, .bool l] w fun e w' => e = .returned (.bool true) ∧ Old w w' := by
  have hk := bounds_i64 w1
  by_cases h : S < 1 ∨ (¬ S < 1 ∧ 4 < S)
  · exact early S k l w h
  · exact late S k l w (by omega) (by omega) (by omega) (by omega)
set_option maxRecDepth 100000 in
set_option maxHeartbeats 1000000 in
theorem lifted (os : Os) (started : os.Started) (H : Type) (enc : TypeId × Value → H) :
    ReturnsInHanded {} Try.checked os 6 .any (Rows.fabricSpinesSpec.pre6 enc Try.prog Try.f6 Rows.fabricSpinesRow.domain false) (Rows.fabricSpinesSpec.post enc Try.prog Try.f6 false true false false) := by
  refine returnsInHanded_of_change (C := Try.checked) own started (by kernel_rfl) Try.func6
    (ChangeSpec.witness6 (enc := enc) (C := Try.checked) false ⟨#[], #[.int .i64 0, .int .i64 0, .bool false], []⟩ 8 (by kernel_rfl) (by kernel_rfl) (by kernel_rfl) (by kernel_rfl)) ?_
  intro W base args ds gs before hval0 hW hcnd _
  have hval : ∀ (j : Nat) t v, Try.f6.params[j]? = some t → args[j]? = some v → Value.okWide Try.prog W .any base t v := hval0
  have hW' := hW
  obtain ⟨p, q, hA0, hV, rfl, hfz, hnd⟩ := hW
  have hA : DataW.TrodAll enc Try.prog W 0 (fun _ => true) true Try.f6.params.toList args.toList ds p := hA0
  rw [Try.params6] at hA hval
  obtain ⟨v0, vs0, d0, ds0, p0, q0, hargs, rfl, rfl, h0, r0⟩ := trodAll_cons hA
  obtain ⟨v1, vs1, d1, ds1, p1, q1, rfl, rfl, rfl, h1, r1⟩ := trodAll_cons r0
  obtain ⟨v2, vs2, d2, ds2, p2, q2, rfl, rfl, rfl, h2, r2⟩ := trodAll_cons r1
  obtain ⟨rfl, rfl, rfl⟩ := trodAll_nil r2
  obtain rfl : args = #[v0, v1, v2] := by cases args; simp_all
  obtain ⟨rfl, rfl⟩ := trodVars_none hV
  obtain ⟨a0, rfl, rfl, rfl, w0⟩ := open_int Try.underlying3 (hval 0 3 v0 rfl rfl) h0
  obtain ⟨a1, rfl, rfl, rfl, w1⟩ := open_int Try.underlying3 (hval 1 3 v1 rfl rfl) h1
  obtain ⟨a2, rfl, rfl, rfl⟩ := open_bool Try.underlying4 (hval 2 4 v2 rfl rfl) h2
  clear hA0 hval0
  simp only [List.append_nil] at hW'
  refine (walk a0 a1 a2 W w0 w1).mono fun e W' ⟨he, hg⟩ => ?_
  subst he
  exact ⟨_, rfl, post_of_old (pa := []) (pv := []) hW' (fun _ _ _ => (trodAll_cons_mk (shut_bool Try.underlying4 _) trodAll_mk0)) (fun sp _ => (trodAll_cons_mk (shut_int Try.underlying3 w0) (trodAll_cons_mk (shut_int Try.underlying3 w1) (trodAll_cons_mk (shut_bool Try.underlying4 _) trodAll_mk0)))) (fun _ _ => rfl)
    hg (ok_one (by kernel_rfl) rfl (okWide_bool_mk Try.underlying4 _))⟩
theorem over : Rows.fabricSpinesRow.holds Try.pinned (OpenSpec.ofChange Rows.fabricSpinesSpec) :=
  OpenClaim.holds_of_wide 6 Try.f6 rfl rfl rfl rfl rfl rfl rfl ⟨rfl, rfl, rfl, rfl, rfl⟩ rfl rfl rfl rfl rfl (by kernel_rfl) Try.func6 (by kernel_rfl)
    (of_decide_eq_true (by kernel_rfl)) (by unfold Func.isWrapper; first | (rw [if_pos (by decide +kernel)]; kernel_rfl) | (rw [if_neg (by decide +kernel)]; exact ⟨rfl, rfl⟩))
    (fun os started H enc _ => lifted os started H enc)
theorem proved : Rows.FabricSpinesSaid :=
  over
#print axioms proved
end Go.Proofs.Ytompbpiaapenaaa.fabricSpines
