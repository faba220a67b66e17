/- PortTrims (mizzenlaw13): for every three ints and bool the law returns true (data that finds no room is trimmed to its head, if there is room for that, and goes ahead of all; else it is dropped) and its arguments read as before. Conditions: none beyond the model's. -/
import Derived.Test.YtlgcbggffhlhmaaRows
import Derived.Test.YtlgcbggffhlhmaaEnd
import Derived.Test.YtlgcbggffhlhmaaInts
import Derived.WalkKit
import Derived.ProofKit
import Derived.OpenShut
import Derived.Test.YtlgcbggffhlhmaaPoTs
set_option linter.unusedVariables false
namespace Go.Proofs.Ytlgcbggffhlhmaa.portTrims
open Go.ChangeShapes Go.WideShapes Go.ChangeAt Go.RowKit Go.Proofs.Ytlgcbggffhlhmaa.Hp Go.Proofs.Ytlgcbggffhlhmaa.End
open Go.Proofs.Ytlgcbggffhlhmaa.Po Go.Proofs.Ytlgcbggffhlhmaa.Qu QuM Rw
theorem own : ownKnob Try.prog.godebug = none := by kernel_rfl
attribute [local go_sem ↓] Go.wp_at_zero Go.wp_at_succ
set_option maxRecDepth 100000 in
set_option maxHeartbeats 4000000 in
theorem early (M n T : Int) (tr : Bool) (w : World) (h : ¬ (0 ≤ M ∧ M ≤ 5000 ∧ 1 ≤ n ∧ n ≤ 500 ∧ 0 ≤ T ∧ T ≤ 40)) :
    Calls Try.prog 5 #[.int .i64 M, .int .i64 n, .int .i64 T, .bool tr] w fun e w' => e = .returned (.bool true) ∧ Old w w' := by
  have HC := Lib.hid fun w => awake_any w
  have hc : M < 0 ∨ (decide (M < 0) = false ∧ 5000 < M) ∨ (decide (M < 0) = false ∧ decide (5000 < M) = false ∧ n < 1) ∨ (decide (M < 0) = false ∧ decide (5000 < M) = false ∧ decide (n < 1) = false ∧ 500 < n) ∨ (decide (M < 0) = false ∧ decide (5000 < M) = false ∧ decide (n < 1) = false ∧ decide (500 < n) = false ∧ T < 0) ∨ (decide (M < 0) = false ∧ decide (5000 < M) = false ∧ decide (n < 1) = false ∧ decide (500 < n) = false ∧ decide (T < 0) = false ∧ 40 < T) := by
    simp only [decide_eq_false_iff_not]; omega
  clear h
  rcases hc with h1 | ⟨h1, h2⟩ | ⟨h1, h2, h3⟩ | ⟨h1, h2, h3, h4⟩ | ⟨h1, h2, h3, h4, h5⟩ | ⟨h1, h2, h3, h4, h5, h6⟩
  all_goals
    go_enter Try.func5, Try.ntmps5
    go_wp2_with fail
    with_reducible refine Calls.mono (HC.out _) ?_
    rintro e w' ⟨rfl, ho⟩
    go_wp2_with fail
    go_ret
    exact ⟨rfl, ho⟩
set_option maxRecDepth 100000 in
set_option maxHeartbeats 8000000 in
theorem late (M n T : Nat) (tr : Bool) (w : World) (g1 : M ≤ 5000) (g2 : 1 ≤ n) (g3 : n ≤ 500) (g4 : T ≤ 40) :
    Calls Try.prog 5 #[.int .i64 (M : Nat), .int .i64 (n : Nat), .int .i64 (T : Nat), .bool tr] w fun e w' => e = .returned (.bool true) ∧ Old w w' := by
  have HC := Lib.hid fun w => awake_any w
  have N := Lib.hid fun w => pnew_yes (room := (M : Nat)) (most := 1) (by omega) (by omega) (by decide) (by decide) tr w
  have h2 : decide ((5000 : Int) < (M : Int)) = false := by rw [decide_eq_false_iff_not]; omega
  have h3 : decide ((n : Int) < 1) = false := by rw [decide_eq_false_iff_not]; omega
  have h4 : decide ((500 : Int) < (n : Int)) = false := by rw [decide_eq_false_iff_not]; omega
  have h6 : decide ((40 : Int) < (T : Int)) = false := by rw [decide_eq_false_iff_not]; omega
  go_enter Try.func5, Try.ntmps5
  go_wp2_with fail
  with_reducible refine Calls.mono (N.out _) ?_
  rintro e w2 ⟨b, F, rfl, hS, _⟩
  have HS := Lib.hid hS
  clear hS N
  go_wp2_with fail
  clear h2 h3 h4 h6
  go_loopg [11, 12] T (fun kx s11 s12 wr => ∃ (i : Nat) (u : Int) (ls : Nat → List Bx) (F : Nat → Prop), Hid (T - i ≤ kx) ∧ i ≤ T ∧ s12 = .int .i64 (i : Nat) ∧ s11 = .int .i64 u ∧ Hid (Ts ls n ∧ cnt ls 8 ≤ i ∧ tot ls 8 = u) ∧ Hid (PS w b (M : Nat) 1 tr ls [] 0 0 F wr))
  case atStart => exact ⟨0, 0, fun _ => [], F, Lib.hid (by omega), by omega, rfl, rfl, Lib.hid ⟨fun k x hk hx => (by cases hx), Nat.le_refl _, rfl⟩, HS⟩
  case round =>
    clear HS
    obtain ⟨i, u, ls, F, hm, hi, rfl, rfl, hI, hS⟩ := hrel
    have hu0 : 0 ≤ u := by rw [← hI.out.2.2]; exact tot_nonneg ls 8
    have hu1 : u ≤ (M : Int) := by
      rw [← hI.out.2.2]
      obtain ⟨qf, qc, pb, Ff, Fc, hp, _⟩ := hS.out
      exact hp.fr.2.1.2.2
    rcases Nat.lt_or_ge i T with hlt | hge
    · have hlt' : (i : Int) < (T : Int) := by omega
      have BL := Lib.hid (block_any (n := n) (i := i) (by omega) (by omega) wr)
      have hln : (ls 7).length ≤ i ∧ (ls 0).length ≤ i := by have := ts_len (ls := ls); have := hI.out.2.1; omega
      go_wp2_with fail
      with_reducible refine Calls.mono BL.out ?_
      rintro e w3 ⟨s, c, l, rfl, hl, hrow, hk3⟩
      have HS3 := Lib.hid (hS.out.old hk3)
      have HR3 := Lib.hid hrow
      have HL := Lib.hid hl
      clear hrow hk3 hl BL hS
      go_upto_region 11 with fail
      have hB := Blk.new w3 [.int .i64 1, .int .i64 0, .int .i64 1, .int .i64 0, .int .u64 (i : Nat), .int .i64 0, .int .i64 (n : Nat), .int .i64 (n : Nat), .int .i64 0, .slice s n c] 35
      have hk := (Kept.refl (fun _ => False) w3).alloc (.cells [.int .i64 1, .int .i64 0, .int .i64 1, .int .i64 0, .int .u64 (i : Nat), .int .i64 0, .int .i64 (n : Nat), .int .i64 (n : Nat), .int .i64 0, .slice s n c].toArray 35)
      dsimp only [List.toArray] at hB hk
      have HS4 := Lib.hid (HS3.out.old hk)
      have RD : Hid (∀ w', Kept (fun _ => False) w3 w' → Rd w' ⟨dF i n l, s, c, 0⟩) := Lib.hid fun w' k => ⟨by have := (HR3.out.kept k (fun _ _ f => f)).src; rw [← HL.out] at this; exact this, by show l.length ≤ _; rw [HL.out]; omega⟩
      have R4 := Lib.hid (RD.out _ hk)
      have hbv : bv ⟨dF i n l, s, c, 0⟩ = .agg #[.int .i64 1, .int .i64 0, .int .i64 1, .int .i64 0, .int .u64 (i : Nat), .int .i64 0, .int .i64 (n : Nat), .int .i64 (n : Nat), .int .i64 0, .slice s n c, .int .i64 0] := by
        show Value.agg #[.int .i64 1, .int .i64 0, .int .i64 1, .int .i64 0, .int .u64 (i : Nat), .int .i64 0, .int .i64 (n : Nat), .int .i64 (n : Nat), .int .i64 0, .slice s l.length c, .int .i64 0] = _
        rw [HL.out]
      have HBV := Lib.hid hbv
      have hk4 : Hid (Kept (fun _ => False) w3 (w3.alloc (.cells #[.int .i64 1, .int .i64 0, .int .i64 1, .int .i64 0, .int .u64 (i : Nat), .int .i64 0, .int .i64 (n : Nat), .int .i64 (n : Nat), .int .i64 0, .slice s n c] 35))) := Lib.hid hk
      generalize w3.alloc (.cells #[.int .i64 1, .int .i64 0, .int .i64 1, .int .i64 0, .int .u64 (i : Nat), .int .i64 0, .int .i64 (n : Nat), .int .i64 (n : Nat), .int .i64 0, .slice s n c] 35) = w4 at *
      generalize w3.heap.size = fb at *
      have c0 := hB.cell (o := 0) rfl
      have c1 := hB.cell (o := 1) rfl
      have c2 := hB.cell (o := 2) rfl
      have c3 := hB.cell (o := 3) rfl
      have c4 := hB.cell (o := 4) rfl
      have c5 := hB.cell (o := 5) rfl
      have c6 := hB.cell (o := 6) rfl
      have c7 := hB.cell (o := 7) rfl
      have c8 := hB.cell (o := 8) rfl
      have c9 := hB.cell (o := 9) rfl
      clear hB hk hbv
      have hszn := nb_d i n l s c 0 (by omega)
      have hsan := sane_d i n l s c 0 (by omega)
      have hro : (M : Int) < tot ls 8 + szI (nb ⟨dF i n l, s, c, 0⟩) ∨ tot ls 8 + szI (nb ⟨dF i n l, s, c, 0⟩) ≤ (M : Int) := by omega
      rw [hszn, hI.out.2.2] at hro
      have HNO : Hid ((M : Int) < u + (26 + (n : Int)) → (M : Int) < tot ls 8 + szI (nb ⟨dF i n l, s, c, 0⟩)) := Lib.hid (by rw [hszn, hI.out.2.2]; exact id)
      have HYE : Hid (u + (26 + (n : Int)) ≤ (M : Int) → tot ls 8 + szI (nb ⟨dF i n l, s, c, 0⟩) ≤ (M : Int)) := Lib.hid (by rw [hszn, hI.out.2.2]; exact id)
      have HSA := Lib.hid hsan
      have HSZ := Lib.hid hszn
      have HLN := Lib.hid hln
      clear hszn hsan hln
      by_cases hq : u + 26 + (n : Int) ≤ (M : Int)
      · have P : Calls Try.prog 14 #[.pointer (some ⟨b, 0, none⟩), bv ⟨dF i n l, s, c, 0⟩] w4 fun e w' => e = .returned (.int .i64 1) ∧ ∃ ls' F', (Ts ls' n ∧ cnt ls' 8 ≤ i + 1 ∧ tot ls' 8 = u + (26 + (n : Int))) ∧ PS w b (M : Nat) 1 tr ls' [] 0 0 F' w' := by
          refine (put_fy HS4.out R4.out HSA.out (show (1 : Int) ≠ 11 by decide) (p := 0) (show NumM.clampI 0 0 7 = ((0 : Nat) : Int) by decide) (HYE.out (by omega)) (by have := HLN.out; omega)).mono ?_
          rintro e w' ⟨rfl, s', c', F', h1, _⟩
          refine ⟨rfl, _, F', ⟨ts_push hI.out.1 (Or.inl ⟨rfl, rfl⟩), by rw [cnt_push (by decide)]; have := hI.out.2.1; omega, ?_⟩, h1⟩
          rw [tot_push (by decide), hI.out.2.2]
          exact congrArg (u + ·) (nb_d i n l s' c' 0 (by omega))
        rw [HBV.out] at P
        have P := Lib.hid P
        clear HNO HYE HSA HSZ HLN R4 RD HS4 HS3 HR3 HL HBV hI
        go_wp2_with fail
        with_reducible refine Calls.mono P.out ?_
        rintro e w5 ⟨rfl, ls', F', hI', hS'⟩
        have US := pused_any hS'
        rw [hI'.2.2] at US
        have US := Lib.hid US
        have HI := Lib.hid hI'
        have HS := Lib.hid hS'
        clear hI' hS' P c0 c1 c2 c3 c4 c5 c6 c7 c8 c9
        go_wp2_with fail
        with_reducible refine Calls.mono US.out ?_
        rintro e w6 ⟨rfl, rfl⟩
        clear US
        go_wp2_with fail
        go_roundg (T - (i + 1))
        case measure => have := hm.out; omega
        case rel => exact ⟨i + 1, u + (26 + (n : Int)), ls', F', Lib.hid (Nat.le_refl _), by omega, by go_num, rfl, HI, HS⟩
      · have hro2 : (M : Int) < u + (26 + (n : Int)) := by omega
        clear hro
        by_cases ht : tr = true ∧ u + 26 ≤ (M : Int)
        · obtain ⟨rfl, ht⟩ := ht
          have P : Calls Try.prog 14 #[.pointer (some ⟨b, 0, none⟩), bv ⟨dF i n l, s, c, 0⟩] w4 fun e w' => e = .returned (.int .i64 2) ∧ ∃ ls' F', (Ts ls' n ∧ cnt ls' 8 ≤ i + 1 ∧ tot ls' 8 = u + 26) ∧ PS w b (M : Nat) 1 true ls' [] 0 0 F' w' := by
            refine (put_ty HS4.out R4.out HSA.out rfl (HNO.out hro2) (by rw [hI.out.2.2]; exact ht) (by have := HLN.out; omega)).mono ?_
            rintro e w' ⟨rfl, s', c', F', h1, _⟩
            refine ⟨rfl, _, F', ⟨ts_push hI.out.1 (Or.inr ⟨rfl, rfl, rfl, rfl, rfl⟩), by rw [cnt_push (by decide)]; have := hI.out.2.1; omega, ?_⟩, h1⟩
            rw [tot_push (by decide), hI.out.2.2]
            exact congrArg (u + ·) (nb_ne (x := ⟨(trX ⟨dF i n l, s, c, 0⟩).f, s', c', 0⟩) (show (7 : Int) ≠ 1 by decide))
          rw [HBV.out] at P
          have P := Lib.hid P
          clear HNO HYE HSA HSZ HLN R4 RD HS4 HS3 HR3 HL HBV hI
          go_wp2_with fail
          with_reducible refine Calls.mono P.out ?_
          rintro e w5 ⟨rfl, ls', F', hI', hS'⟩
          have US := pused_any hS'
          rw [hI'.2.2] at US
          have US := Lib.hid US
          have HI := Lib.hid hI'
          have HS := Lib.hid hS'
          clear hI' hS' P c0 c1 c2 c3 c4 c5 c6 c7 c8 c9
          go_wp2_with fail
          with_reducible refine Calls.mono US.out ?_
          rintro e w6 ⟨rfl, rfl⟩
          clear US
          go_wp2_with fail
          go_roundg (T - (i + 1))
          case measure => have := hm.out; omega
          case rel => exact ⟨i + 1, u + 26, ls', F', Lib.hid (Nat.le_refl _), by omega, by go_num, rfl, HI, HS⟩
        · have P : Calls Try.prog 14 #[.pointer (some ⟨b, 0, none⟩), bv ⟨dF i n l, s, c, 0⟩] w4 fun e w' => e = .returned (.int .i64 3) ∧ ∃ ls' F', (Ts ls' n ∧ cnt ls' 8 ≤ i + 1 ∧ tot ls' 8 = u) ∧ PS w b (M : Nat) 1 tr ls' [] 0 0 F' w' := by
            have h3 : ∀ e w', (e = Ending.returned (.int .i64 3) ∧ Kept (fun _ => False) w4 w') → e = .returned (.int .i64 3) ∧ ∃ ls' F', (Ts ls' n ∧ cnt ls' 8 ≤ i + 1 ∧ tot ls' 8 = u) ∧ PS w b (M : Nat) 1 tr ls' [] 0 0 F' w' := by
              rintro e w' ⟨rfl, k⟩
              exact ⟨rfl, ls, F, ⟨hI.out.1, by have := hI.out.2.1; omega, hI.out.2.2⟩, HS4.out.old k⟩
            cases tr with
            | false => exact (put_fn HS4.out R4.out HSA.out (show (1 : Int) ≠ 11 by decide) (HNO.out hro2) (Or.inl rfl)).mono h3
            | true => exact (put_tn HS4.out R4.out HSA.out rfl (HNO.out hro2) (by rw [hI.out.2.2]; have : ¬ u + 26 ≤ (M : Int) := fun h => ht ⟨rfl, h⟩; omega)).mono h3
          have ht2 : tr = false ∨ (tr = true ∧ ¬ u + 26 ≤ (M : Int)) := by
            cases tr with
            | false => exact Or.inl rfl
            | true => exact Or.inr ⟨rfl, fun h => ht ⟨rfl, h⟩⟩
          clear ht
          rcases ht2 with rfl | ⟨rfl, ht⟩
          all_goals
            rw [HBV.out] at P
            have P := Lib.hid P
            clear HNO HYE HSA HSZ HLN R4 RD HS4 HS3 HR3 HL HBV hI
            go_wp2_with fail
            with_reducible refine Calls.mono P.out ?_
            rintro e w5 ⟨rfl, ls', F', hI', hS'⟩
            have US := pused_any hS'
            rw [hI'.2.2] at US
            have US := Lib.hid US
            have HI := Lib.hid hI'
            have HS := Lib.hid hS'
            clear hI' hS' P c0 c1 c2 c3 c4 c5 c6 c7 c8 c9
            go_wp2_with fail
            with_reducible refine Calls.mono US.out ?_
            rintro e w6 ⟨rfl, rfl⟩
            clear US
            go_wp2_with fail
            go_roundg (T - (i + 1))
            case measure => have := hm.out; omega
            case rel => exact ⟨i + 1, u, ls', F', Lib.hid (Nat.le_refl _), by omega, by go_num, rfl, HI, HS⟩
    · have hge' : ¬ ((i : Int) < (T : Int)) := by omega
      obtain rfl : i = T := by omega
      have hln := ts_len (ls := ls)
      have hcn := hI.out.2.1
      have WA := waiting_any hS.out (by rw [ts_acc hI.out.1, List.length_append]; omega)
      rw [ts_acc hI.out.1] at WA
      have WA := Lib.hid WA
      have HSo := Lib.hid hS.out.since
      clear hS
      go_wp2_with fail
      with_reducible refine Calls.mono WA.out ?_
      rintro e w5 ⟨v', W, rfl, hrow, hky, _, hk5⟩
      have HO5 := Lib.hid (HSo.out.trans hk5)
      have hwl : W.length = (ls 7).length + (ls 0).length := by have := congrArg List.length hky; rwa [List.length_map, List.length_map, List.length_append] at this
      have TA := Lib.hid fun (j : Nat) (y : Bx) (hy : W[j]? = some y) => ts_at hI.out.1 hky hy
      obtain ⟨h, hh⟩ : ∃ h, (ls 7).length = h := ⟨_, rfl⟩
      rw [hh] at TA hwl hln
      have hwm : W.length ≤ 1000 := by omega
      have HROW := Lib.hid hrow
      obtain ⟨av, cv, e, hc1, hc2⟩ := hrow.slice
      subst e
      obtain ⟨m, hm'⟩ : ∃ m, W.length = m := ⟨_, rfl⟩
      have HM := Lib.hid hm'
      rw [hm'] at HROW hc1 hwm ⊢
      have hhm : h ≤ m := by omega
      clear hrow hky hk5 WA HSo hh hwl hln hcn hm' hge hge' hm hI
      go_wp2_with fail
      go_loopg [17, 18] m (fun kx s17 s18 wr => ∃ (j : Nat), Hid (m - j ≤ kx) ∧ j ≤ m ∧ s18 = .int .i64 (j : Nat) ∧ s17 = .bool (decide (h < j)) ∧ wr = w5)
      case atStart => exact ⟨0, Lib.hid (by omega), Nat.zero_le _, rfl, rfl, rfl⟩
      case round =>
        obtain ⟨j, hmm, hj, rfl, rfl, rfl⟩ := hrel
        rcases Nat.lt_or_ge j m with hlt | hge
        · have hlt' : (j : Int) < (m : Int) := by omega
          have hjw : j < W.length := by rw [HM.out]; exact hlt
          obtain ⟨y, hy⟩ : ∃ y, W[j]? = some y := ⟨_, List.getElem?_eq_getElem hjw⟩
          obtain ⟨g, cur, rfl, hL⟩ : ∃ g cur, av = some ⟨g, 0, none⟩ ∧ Lies bT wr g cv cur W := by
            rcases HROW.out.form with ⟨_, h0⟩ | ⟨g, cap, cur, e, h1, h2⟩
            · rw [h0] at hjw; simp at hjw
            · cases e; exact ⟨g, cur, rfl, h2⟩
          obtain ⟨d0, d1, d2, d3, d4, d5, d6, d7, d8, d9, d10⟩ := bx_cells hL hy
          have hT := TA.out j y hy
          obtain ⟨⟨x1, x2, x3, x4, x5, x6, x7, x8, x9, xd⟩, xa, xc, xq⟩ := y
          simp only at d0 d3 d6 d9 hT
          clear d1 d2 d4 d5 d7 d8 d10 hy hL hjw
          rcases hT with ⟨h1, q1, q2, q3, q4⟩ | ⟨h1, q1⟩
          · try simp only at q1 q2 q3 q4
            subst q1
            subst q2
            subst q3
            subst q4
            have f1 : decide (h < j) = false := by rw [decide_eq_false_iff_not]; omega
            have f2 : decide (h < j + 1) = false := by rw [decide_eq_false_iff_not]; omega
            have F2 := Lib.hid f2
            rw [f1]
            clear f1 f2
            go_wp2_with fail
            go_roundg (m - (j + 1))
            case measure => have := hmm.out; omega
            case rel => exact ⟨j + 1, Lib.hid (Nat.le_refl _), by omega, by go_num, by rw [F2.out], rfl⟩
          · try simp only at q1
            subst q1
            have f2 : decide (h < j + 1) = true := by rw [decide_eq_true_iff]; omega
            have F2 := Lib.hid f2
            clear f2
            generalize decide (h < j) = fl at *
            cases fl
            all_goals
              go_wp2_with fail
              go_roundg (m - (j + 1))
              case measure => have := hmm.out; omega
              case rel => exact ⟨j + 1, Lib.hid (Nat.le_refl _), by omega, by go_num, by rw [F2.out], rfl⟩
        · have hge' : ¬ ((j : Int) < (m : Int)) := by omega
          obtain rfl : j = m := by omega
          clear hhm hge
          generalize decide (h < j) = fl at *
          go_wp2_with fail
          with_reducible refine Calls.mono (HC.out _) ?_
          rintro e w7 ⟨rfl, ho⟩
          have HO : Hid (Old w w7) := Lib.hid (HO5.out.trans ho)
          clear ho HO5
          go_wp2_with fail
          go_ret
          exact ⟨rfl, HO.out⟩
theorem walk (a0 a1 a2 : Int) (a3 : Bool) (w : World) (w0 : (Lit.int .i64 a0).wf = true) (w1 : (Lit.int .i64 a1).wf = true) (w2 : (Lit.int .i64 a2).wf = true) :
    Calls Try.prog 5 #[.int .i64 a0, .int .i64 a1, .int .i64 a2, .bool a3] w fun e w' => e = .returned (.bool true) ∧ Old w w' := by
  by_cases h : 0 ≤ a0 ∧ a0 ≤ 5000 ∧ 1 ≤ a1 ∧ a1 ≤ 500 ∧ 0 ≤ a2 ∧ a2 ≤ 40
  · obtain ⟨M, rfl⟩ := Int.eq_ofNat_of_zero_le h.1
    obtain ⟨n, rfl⟩ := Int.eq_ofNat_of_zero_le (show 0 ≤ a1 by omega)
    obtain ⟨T, rfl⟩ := Int.eq_ofNat_of_zero_le h.2.2.2.2.1
    exact late M n T a3 w (by omega) (by omega) (by omega) (by omega)
  · exact early a0 a1 a2 a3 w h
set_option maxRecDepth 100000 in
set_option maxHeartbeats 1000000 in
theorem lifted (os : Os) (started : os.Started) (H : Type) (enc : TypeId × Value → H) :
    ReturnsInHanded {} Try.checked os 5 .any (Rows.portTrimsSpec.pre6 enc Try.prog Try.f5 Rows.portTrimsRow.domain false) (Rows.portTrimsSpec.post enc Try.prog Try.f5 false true false false) := by
  refine returnsInHanded_of_change (C := Try.checked) own started (by kernel_rfl) Try.func5
    (ChangeSpec.witness6 (enc := enc) (C := Try.checked) false ⟨#[], #[.int .i64 0, .int .i64 0, .int .i64 0, .bool false], []⟩ 8 (by kernel_rfl) (by kernel_rfl) (by kernel_rfl) (by kernel_rfl)) ?_
  intro W base args ds gs before hval0 hW hcnd _
  have hval : ∀ (j : Nat) t v, Try.f5.params[j]? = some t → args[j]? = some v → Value.okWide Try.prog W .any base t v := hval0
  have hW' := hW
  obtain ⟨p, q, hA0, hV, rfl, hfz, hnd⟩ := hW
  have hA : DataW.TrodAll enc Try.prog W 0 (fun _ => true) true Try.f5.params.toList args.toList ds p := hA0
  rw [Try.params5] at hA hval
  obtain ⟨v0, vs0, d0, ds0, p0, q0, hargs, rfl, rfl, h0, r0⟩ := trodAll_cons hA
  obtain ⟨v1, vs1, d1, ds1, p1, q1, rfl, rfl, rfl, h1, r1⟩ := trodAll_cons r0
  obtain ⟨v2, vs2, d2, ds2, p2, q2, rfl, rfl, rfl, h2, r2⟩ := trodAll_cons r1
  obtain ⟨v3, vs3, d3, ds3, p3, q3, rfl, rfl, rfl, h3, r3⟩ := trodAll_cons r2
  obtain ⟨rfl, rfl, rfl⟩ := trodAll_nil r3
  obtain rfl : args = #[v0, v1, v2, v3] := by cases args; simp_all
  obtain ⟨rfl, rfl⟩ := trodVars_none hV
  obtain ⟨a0, rfl, rfl, rfl, w0⟩ := open_int Try.underlying3 (hval 0 3 v0 rfl rfl) h0
  obtain ⟨a1, rfl, rfl, rfl, w1⟩ := open_int Try.underlying3 (hval 1 3 v1 rfl rfl) h1
  obtain ⟨a2, rfl, rfl, rfl, w2⟩ := open_int Try.underlying3 (hval 2 3 v2 rfl rfl) h2
  obtain ⟨a3, rfl, rfl, rfl⟩ := open_bool Try.underlying4 (hval 3 4 v3 rfl rfl) h3
  clear hA0 hval0
  simp only [List.append_nil] at hW'
  refine (walk a0 a1 a2 a3 W w0 w1 w2).mono fun e W' ⟨he, hg⟩ => ?_
  subst he
  exact ⟨_, rfl, post_of_old (pa := []) (pv := []) hW' (fun _ _ _ => (trodAll_cons_mk (shut_bool Try.underlying4 _) trodAll_mk0)) (fun sp _ => (trodAll_cons_mk (shut_int Try.underlying3 w0) (trodAll_cons_mk (shut_int Try.underlying3 w1) (trodAll_cons_mk (shut_int Try.underlying3 w2) (trodAll_cons_mk (shut_bool Try.underlying4 _) trodAll_mk0))))) (fun _ _ => rfl)
    hg (ok_one (by kernel_rfl) rfl (okWide_bool_mk Try.underlying4 _))⟩
theorem over : Rows.portTrimsRow.holds Try.pinned (OpenSpec.ofChange Rows.portTrimsSpec) :=
  OpenClaim.holds_of_wide 5 Try.f5 rfl rfl rfl rfl rfl rfl rfl ⟨rfl, rfl, rfl, rfl, rfl⟩ rfl rfl rfl rfl rfl (by kernel_rfl) Try.func5 (by kernel_rfl)
    (of_decide_eq_true (by kernel_rfl)) (by unfold Func.isWrapper; first | (rw [if_pos (by decide +kernel)]; kernel_rfl) | (rw [if_neg (by decide +kernel)]; exact ⟨rfl, rfl⟩))
    (fun os started H enc _ => lifted os started H enc)
theorem proved : Rows.PortTrimsSaid :=
  over
#print axioms proved
end Go.Proofs.Ytlgcbggffhlhmaa.portTrims
