/- QueueRemoves (mizzenlaw12): for every list of lines, every line and every place the law returns true (what is taken out of a line is gone, the others stand as they stood, the room that it had is free) and its arguments read as before. Conditions: none. -/
import Derived.Test.YtlgcbggffhlhmaaRows
import Derived.Test.YtlgcbggffhlhmaaEnd
import Derived.Test.YtlgcbggffhlhmaaInts
import Derived.WalkKit
import Derived.ProofKit
import Derived.OpenShut
import Derived.Test.YtlgcbggffhlhmaaQuBox
import Derived.Test.YtlgcbggffhlhmaaQuOrd
import Derived.Test.YtlgcbggffhlhmaaRnd
set_option linter.unusedVariables false
namespace Go.Proofs.Ytlgcbggffhlhmaa.queueRemoves
open Go.ChangeShapes Go.WideShapes Go.ChangeAt Go.RowKit Go.Proofs.Ytlgcbggffhlhmaa.Hp Go.Proofs.Ytlgcbggffhlhmaa.End
open Opn QuM Qu
theorem own : ownKnob Try.prog.godebug = none := by kernel_rfl
attribute [local go_sem ↓] Go.wp_at_zero Go.wp_at_succ
set_option maxRecDepth 100000 in
set_option maxHeartbeats 4000000 in
theorem early (a1 : List Int) (s1 : Option Addr) (cap1 : Nat) (l k : Int) (w : World) (h : ¬ (1 ≤ a1.length ∧ a1.length ≤ 60)) :
    Calls Try.prog 9 #[.slice s1 a1.length cap1, .int .i64 l, .int .i64 k] w fun e w' => e = .returned (.bool true) ∧ Old w w' := by
  have HC := Lib.hid fun w => awake_any w
  generalize a1.length = zl at *
  have h1 : zl = 0 ∨ (((zl : Int) == 0) = false ∧ ¬ (zl : Int) = 0 ∧ (60 : Int) < (zl : Int)) := by
    rw [beq_eq_false_iff_ne]; omega
  clear h
  rcases h1 with rfl | ⟨h1, h2, h3⟩
  all_goals
    go_enter Try.func9, Try.ntmps9
    go_wp2_with fail
    with_reducible refine Calls.mono (HC.out _) ?_
    rintro e w' ⟨rfl, ho⟩
    go_wp2_with fail
    go_ret
    exact ⟨rfl, ho⟩
/-- Behind the first loop: what is taken out of a line. -/
def lin8 (l : Int) : Nat := (l % 8).toNat
theorem lin8_lt (l : Int) : lin8 l < 8 := by unfold lin8; omega
theorem lin8_eq (l : Int) : l % 8 = ((lin8 l : Nat) : Int) := by unfold lin8; omega
set_option maxRecDepth 100000 in
set_option maxHeartbeats 8000000 in
theorem late (a1 : List Int) (s1 : Option Addr) (cap1 : Nat) (l k : Int) (w : World) (w1 : Ints w s1 cap1 a1) (hl0 : -9223372036854775808 ≤ l ∧ l ≤ 9223372036854775807) (hk0 : -9223372036854775808 ≤ k ∧ k ≤ 9223372036854775807) (g2 : 1 ≤ a1.length) (g3 : a1.length ≤ 60) :
    Calls Try.prog 9 #[.slice s1 a1.length cap1, .int .i64 l, .int .i64 k] w fun e w' => e = .returned (.bool true) ∧ Old w w' := by
  have HC := Lib.hid fun w => awake_any w
  obtain ⟨zl, hzl⟩ : ∃ zl, a1.length = zl := ⟨_, rfl⟩
  have HZ := Lib.hid hzl
  rw [hzl] at g2 g3 ⊢
  clear hzl
  have N := Lib.hid fun w => new_yes (room := 10 * (zl : Int)) (by omega) (by omega) w
  have W1 := Lib.hid w1
  have h3 : decide ((60 : Int) < (zl : Int)) = false := by rw [decide_eq_false_iff_not]; omega
  have h4 : ((zl : Int) == 0) = false := by rw [beq_eq_false_iff_ne]; omega
  have h5 : ¬ (zl : Int) = 0 := by omega
  have hw1 : IntKind.i64.wrap (10 * (zl : Int)) = 10 * (zl : Int) := by rw [IntKind.wrap_i64]; omega
  clear w1
  go_enter Try.func9, Try.ntmps9
  go_wp2_with fail
  with_reducible refine Calls.mono (N.out _) ?_
  rintro e w2 ⟨b, F, rfl, hS, _⟩
  have HS := Lib.hid hS
  clear hS N
  go_wp2_with fail
  clear h3 h4 h5
  go_loopg [9] zl (fun kx s9 wr => ∃ (i : Nat) (ls : Nat → List Bx) (F : Nat → Prop), Hid (zl - i ≤ kx) ∧ i ≤ zl ∧ s9 = .int .i64 (i : Nat) ∧ Hid (cnt ls 8 = i) ∧ Hid (tot ls 8 = 10 * (cnt ls 8 : Int)) ∧ Hid (∀ q, q < 8 → ∀ x ∈ ls q, x.1 = 10) ∧ Hid (St w b (10 * (zl : Int)) ls F wr))
  case atStart => exact ⟨0, fun _ => [], F, Lib.hid (by omega), by omega, rfl, Lib.hid rfl, Lib.hid rfl, Lib.hid (fun q _ x hx => by cases hx), HS⟩
  case round =>
    clear HS
    obtain ⟨i, ls, F, hm, hi, rfl, hcn, hO, hten, hS⟩ := hrel
    rcases Nat.lt_or_ge i zl with hlt | hge
    · obtain ⟨y, hy⟩ : ∃ y, a1[i]? = some y := ⟨_, List.getElem?_eq_getElem (by rw [HZ.out]; exact hlt)⟩
      obtain ⟨g, off, rfl, hg, hc⟩ := W1.out.at hS.out.1 (j := i) (by rw [HZ.out]; exact hlt)
      have hwf := W1.out.wf (j := i) (by rw [HZ.out]; exact hlt)
      rw [(List.getElem?_eq_some_iff.1 hy).2] at hc hwf
      have hl := lin8_eq y
      have hp := lin8_lt y
      have RD := Lib.hid fun w => Rnd.round_pos (k := y) (n := 8) (by decide) (by decide) hwf.1 hwf.2 w
      rw [hl] at RD
      have PU := Lib.hid (push_ok hS.out (p := lin8 y) (K := ((lin8 y : Nat) : Int)) rfl hp (x := (10, ((i : Nat) : Int))) (by rw [hO.out, hcn.out, show szI 10 = 10 by decide]; omega) (by have := len_le_cnt (ls := ls) hp; have := hcn.out; omega))
      have HO2 := Lib.hid (push_tc hp hO.out (i : Nat))
      have HTEN : Hid (∀ q, q < 8 → ∀ x ∈ upd ls (lin8 y) (ls (lin8 y) ++ [(10, ((i : Nat) : Int))]) q, x.1 = 10) := Lib.hid fun q hq x hx => by
        by_cases e : q = lin8 y
        · subst e
          rw [upd_self] at hx
          rcases List.mem_append.1 hx with h | h
          · exact hten.out _ hq x h
          · rw [List.mem_singleton] at h; subst h; rfl
        · rw [upd_ne ls _ e] at hx; exact hten.out q hq x hx
      clear hl hy hwf hO hS hten
      generalize upd ls (lin8 y) (ls (lin8 y) ++ [(10, ((i : Nat) : Int))]) = ls' at *
      generalize lin8 y = p at *
      go_wp2_with fail
      with_reducible refine Calls.mono (RD.out _) ?_
      rintro e w3 ⟨rfl, rfl⟩
      go_wp2_with fail
      with_reducible refine Calls.mono PU.out ?_
      rintro e w4 ⟨rfl, F', hS4, _⟩
      have HS4 := Lib.hid hS4
      clear hS4 PU
      go_wp2_with fail
      go_roundg (zl - (i + 1))
      case measure => have := hm.out; omega
      case rel => exact ⟨i + 1, ls', F', Lib.hid (Nat.le_refl _), by omega, by go_num, Lib.hid (by rw [HO2.out.2, hcn.out]), Lib.hid HO2.out.1, HTEN, HS4⟩
    · have hge' : ¬ ((i : Int) < (zl : Int)) := by omega
      obtain rfl : i = zl := by omega
      have hp := lin8_lt l
      have RD := Lib.hid fun w => Rnd.round_pos (k := l) (n := 8) (by decide) (by decide) hl0.1 hl0.2 w
      rw [lin8_eq l] at RD
      generalize lin8 l = p at *
      have hlen := len_le_cnt (ls := ls) hp
      rw [hcn.out] at hlen
      have LX := Lib.hid (line_yes hS.out (p := p) (K := ((p : Nat) : Int)) rfl hp (by omega))
      have htot : tot ls 8 = 10 * (i : Int) := by rw [hO.out, hcn.out]
      go_wp2_with fail
      with_reducible refine Calls.mono (RD.out _) ?_
      rintro e w3 ⟨rfl, rfl⟩
      go_wp2_with fail
      with_reducible refine Calls.mono LX.out ?_
      rintro e w3 ⟨v, rfl, hr3, hk3⟩
      have HS3 := Lib.hid (hS.out.old hk3)
      have HR3 := Lib.hid (hS.out.row hr3)
      obtain ⟨va, vc, rfl, hvc1, hvc2⟩ := hr3.slice
      unfold maxLen at hvc2
      have PF := Lib.hid (push_full HS3.out (p := 0) (by decide) (x := (1, 0)) (by rw [htot, show szI 1 = 1 by decide]; omega))
      clear hr3 hk3 LX hS RD hge hge' hm hi
      obtain ⟨n, hn⟩ : ∃ n, (ls p).length = n := ⟨_, rfl⟩
      rw [hn] at hlen hvc1 HR3
      simp only [hn]
      have HN := Lib.hid hn
      clear hn
      go_wp2_with fail
      with_reducible refine Calls.mono PF.out ?_
      rintro e w4 ⟨rfl, hk4⟩
      have HS4 := Lib.hid (HS3.out.old hk4)
      have HR4 := Lib.hid (HR3.out.old hk4)
      clear hk4 PF HS3 HR3
      rcases Nat.eq_zero_or_pos n with hn0 | hnp
      · have RM := Lib.hid (remove_no HS4.out (p := ((p : Nat) : Int)) (k := k) (by rw [Int.toNat_natCast, HN.out, hn0]; omega))
        subst hn0
        go_wp2_with fail
        with_reducible refine Calls.mono RM.out ?_
        rintro e w5 ⟨rfl, hk5⟩
        have hka := (Kept.refl (fun _ => False) w5).alloc (.cells #[.int .i64 0, .int .i64 0] 67)
        have HS5 := Lib.hid (HS4.out.old (hk5.trans hka))
        have LN := len_any HS5.out (by rw [hcn.out]; omega)
        rw [hcn.out] at LN
        have LN := Lib.hid LN
        clear hka hk5 RM
        go_wp2_with fail
        generalize w5.alloc (.cells #[.int .i64 0, .int .i64 0] 67) = w6 at *
        with_reducible refine Calls.mono LN.out ?_
        rintro e w7 ⟨rfl, rfl⟩
        go_wp2_with fail
        with_reducible refine Calls.mono (HC.out _) ?_
        rintro e w8 ⟨rfl, ho⟩
        go_wp2_with fail
        go_ret
        exact ⟨rfl, HS5.out.1.trans ho⟩
      · have hn0 : ((n : Int) == 0) = false := by rw [beq_eq_false_iff_ne]; omega
        have hn1 : ¬ (n : Int) = 0 := by omega
        have RK := Lib.hid fun w => Rnd.round_pos (k := k) (n := (n : Int)) (by omega) (by omega) hk0.1 hk0.2 w
        obtain ⟨kk, hkk, hkn⟩ : ∃ kk : Nat, k % (n : Int) = (kk : Int) ∧ kk < n := by
          have e1 := Int.emod_nonneg k hn1
          have e2 := Int.emod_lt_of_pos k (show (0 : Int) < (n : Int) by omega)
          exact ⟨(k % (n : Int)).toNat, by omega, by omega⟩
        rw [hkk] at RK
        clear hkk
        obtain ⟨⟨x1, x2⟩, hx⟩ : ∃ x, (ls p)[kk]? = some x := ⟨(ls p)[kk]'(by rw [HN.out]; exact hkn), List.getElem?_eq_getElem _⟩
        have hx10 : x1 = 10 := hten.out p hp _ (List.mem_of_getElem? hx)
        subst hx10
        have RM := Lib.hid (remove_yes HS4.out (P := ((p : Nat) : Int)) (K := ((kk : Nat) : Int)) rfl rfl hp hx (by rw [HN.out]; omega))
        have htot2 : tot (upd ls p ((ls p).eraseIdx kk)) 8 = 10 * (i : Int) - 10 := by
          rw [tot_upd hp, sumB_erase hx, htot, show szI ((10 : Int), x2).1 = 10 from (by decide : szI 10 = 10)]; omega
        have hlen2 : ((ls p).eraseIdx kk).length = n - 1 := by rw [List.length_eraseIdx_of_lt (by rw [HN.out]; exact hkn), HN.out]
        have HX := Lib.hid hx
        have HT2 := Lib.hid htot2
        have HL2 := Lib.hid hlen2
        have HCN2 : Hid (cnt (upd ls p ((ls p).eraseIdx kk)) 8 ≤ i) := Lib.hid (by
          have h1 := cnt_upd (ls := ls) (L := (ls p).eraseIdx kk) hp
          have h2 := hcn.out
          have h3 := HN.out
          omega)
        have HUS : Hid ((upd ls p ((ls p).eraseIdx kk)) p = (ls p).eraseIdx kk) := Lib.hid (upd_self _ _ _)
        clear hx htot2 hlen2
        generalize upd ls p ((ls p).eraseIdx kk) = ls' at *
        go_wp2_with fail
        with_reducible refine Calls.mono (RK.out _) ?_
        rintro e w5 ⟨rfl, rfl⟩
        go_wp2_with fail
        with_reducible refine Calls.mono RM.out ?_
        rintro e w5 ⟨rfl, F5, hS5, hN5⟩
        have HR5 := HR4.out.next hN5
        have hbx := Blk.new w5 [.int .i64 10, .int .i64 x2] bT.E
        have hka := (Kept.refl (fun _ => False) w5).alloc (.cells #[.int .i64 10, .int .i64 x2] bT.E)
        have HS6 := Lib.hid (hS5.old hka)
        have HR6 := Lib.hid (HR5.old hka)
        have hxF : ¬ F5 w5.heap.size := fun e => by have := (hS5.own _ e).2; omega
        dsimp only [List.toArray] at hbx
        have HBX := Lib.hid hbx
        clear hka hS5 hbx HR5 hN5 RM RK HS4 HR4
        go_upto_region 20 with fail
        generalize w5.alloc (.cells #[.int .i64 10, .int .i64 x2] 67) = w6 at *
        generalize w5.heap.size = xb at *
        have LY := Lib.hid (line_yes HS6.out (p := p) (K := ((p : Nat) : Int)) rfl hp (by rw [HUS.out, HL2.out]; omega))
        go_wp2_with fail
        with_reducible refine Calls.mono LY.out ?_
        rintro e w7 ⟨v2, rfl, hr7, hk7⟩
        have HS7 := Lib.hid (HS6.out.old hk7)
        have HR7 := Lib.hid (HR6.out.old hk7)
        have hrr := HS6.out.row hr7
        rw [HUS.out] at hrr hr7
        obtain ⟨va2, vc2, rfl, hvd1, hvd2⟩ := hr7.slice
        unfold maxLen at hvd2
        rw [HL2.out] at hvd1
        simp only [HL2.out]
        rw [HL2.out] at hrr
        have HN7 := Lib.hid hrr
        have hb7 := hk7.blk HBX.out (fun f => f)
        have HB7 := Lib.hid hb7
        have x0 := hb7.cell (o := 0) rfl
        have x1 := hb7.cell (o := 1) rfl
        obtain ⟨gw, cw, ew, _, y0, y1⟩ := HR7.out.cells HX.out
        rw [HN.out] at ew
        cases ew
        have UX := Lib.hid fun (m : Nat) => used_any (HS7.out.old ((Kept.refl (fun _ => False) w7).drewN m))
        rw [HT2.out] at UX
        have nk := neq_box 10 x2
        have hn2 : ((n - 1 : Nat) : Int) = (n : Int) - 1 := by omega
        have hw2 : IntKind.i64.wrap ((n : Int) - 1) = (n : Int) - 1 := by rw [IntKind.wrap_i64]; omega
        have hw3 : IntKind.i64.wrap (10 * (i : Int) - 10) = 10 * (i : Int) - 10 := by rw [IntKind.wrap_i64]; omega
        have hkn' : (kk : Int) < (n : Int) := by omega
        clear hr7 hk7 LY hrr HS6 HR6 HBX hb7
        go_upto_region 21 with fail
        go_quiet ((go_at_call 38; exact Calls.quiet_of_same ((UX.out _).mono fun _ _ ⟨e1, e2⟩ => ⟨e1, e2.symm⟩)))
        go_wp2_with fail
        have HK8 : Hid (Kept (fun _ => False) w7 (w7.drewN nq)) := Lib.hid ((Kept.refl _ w7).drewN nq)
        clear x0 x1 y0 y1 nk UX HB7
        generalize w7.drewN nq = w8 at *
        have hm0 : (0 : Int) < (n : Int) := by omega
        go_loopg [16] (n - 1) (fun kx s16 wr => ∃ (j : Nat), Hid (n - 1 - j ≤ kx) ∧ j ≤ n - 1 ∧ s16 = .int .i64 (j : Nat) ∧ Hid (Kept (fun _ => False) w7 wr))
        case atStart => exact ⟨0, Lib.hid (by omega), Nat.zero_le _, rfl, HK8⟩
        case round =>
          clear HK8
          obtain ⟨j, hmj, hj, rfl, hK⟩ := hrel
          rcases Nat.lt_or_ge j (n - 1) with hlt | hge
          · obtain ⟨⟨z1, z2⟩, hz⟩ : ∃ z, ((ls p).eraseIdx kk)[j]? = some z := ⟨((ls p).eraseIdx kk)[j]'(by rw [HL2.out]; exact hlt), List.getElem?_eq_getElem _⟩
            have hz2 := hz
            rw [List.getElem?_eraseIdx] at hz2
            obtain ⟨gv, cv, ev, _, c0, c1⟩ := (HN7.out.old hK.out).cells hz
            rw [HL2.out] at ev
            cases ev
            have nk := neq_box z1 z2
            have hlt' : (j : Int) < (n : Int) - 1 := by omega
            have hjw : IntKind.i64.wrap ((j : Int) + 1) = (j : Int) + 1 := by rw [IntKind.wrap_i64]; omega
            by_cases hjk : j < kk
            · rw [if_pos hjk] at hz2
              obtain ⟨g3', c3', e3', _, d0, d1⟩ := (HR7.out.old hK.out).cells hz2
              rw [HN.out] at e3'
              cases e3'
              have hjk' : ¬ ((kk : Int) ≤ (j : Int)) := by omega
              clear hz hz2
              go_upto_region 29 with fail
              go_quiet (fail)
              have HK9 := Lib.hid (hK.out.drewN nq)
              clear c0 c1 d0 d1 nk
              go_wp2_with fail
              go_roundg (n - 1 - (j + 1))
              case measure => have := hmj.out; omega
              case rel => exact ⟨j + 1, Lib.hid (Nat.le_refl _), by omega, by go_num, HK9⟩
            · rw [if_neg hjk] at hz2
              obtain ⟨g3', c3', e3', _, d0, d1⟩ := (HR7.out.old hK.out).cells hz2
              rw [HN.out] at e3'
              cases e3'
              have hjk' : (kk : Int) ≤ (j : Int) := by omega
              clear hz hz2
              go_upto_region 29 with fail
              go_quiet (fail)
              have HK9 := Lib.hid (hK.out.drewN nq)
              clear c0 c1 d0 d1 nk
              go_wp2_with fail
              go_roundg (n - 1 - (j + 1))
              case measure => have := hmj.out; omega
              case rel => exact ⟨j + 1, Lib.hid (Nat.le_refl _), by omega, by go_num, HK9⟩
          · have hge' : ¬ ((j : Int) < (n : Int) - 1) := by omega
            have HS8 := Lib.hid (HS7.out.old hK.out)
            have P1 := Lib.hid (push_ok HS8.out (p := 3) (K := 3) rfl (by decide) (x := (10, 0)) (by rw [HT2.out, show szI ((10 : Int), (0 : Int)).1 = 10 by decide]; omega) (by
              have h1 := len_le_cnt (ls := ls') (k := 3) (n := 8) (by decide)
              have h2 := HCN2.out
              omega))
            go_wp2_with fail
            with_reducible refine Calls.mono P1.out ?_
            rintro e w9 ⟨rfl, F9, hS9, _⟩
            have P2 := Lib.hid (push_full hS9 (p := 3) (by decide) (x := (1, 0)) (by
              rw [tot_upd (by decide), sumB_append, HT2.out]
              show 10 * (i : Int) < 10 * (i : Int) - 10 - sumB (ls' 3) + (sumB (ls' 3) + (szI 10 + 0)) + szI 1
              rw [show szI 10 = 10 by decide, show szI 1 = 1 by decide]
              omega))
            have HS9 := Lib.hid hS9
            clear hS9 P1
            go_wp2_with fail
            with_reducible refine Calls.mono P2.out ?_
            rintro e w10 ⟨rfl, hk10⟩
            have HO := Lib.hid (HS9.out.1.trans hk10)
            clear hk10 P2 HS9
            go_wp2_with fail
            with_reducible refine Calls.mono (HC.out _) ?_
            rintro e w11 ⟨rfl, ho⟩
            go_wp2_with fail
            go_ret
            exact ⟨rfl, HO.out.trans ho⟩
theorem walk (a1 : List Int) (s1 : Option Addr) (cap1 : Nat) (l k : Int) (w : World) (w1 : Ints w s1 cap1 a1) (wl : (Lit.int .i64 l).wf = true) (wk : (Lit.int .i64 k).wf = true) :
    Calls Try.prog 9 #[.slice s1 a1.length cap1, .int .i64 l, .int .i64 k] w fun e w' => e = .returned (.bool true) ∧ Old w w' := by
  by_cases h : 1 ≤ a1.length ∧ a1.length ≤ 60
  · exact late a1 s1 cap1 l k w w1 (bounds_i64 wl) (bounds_i64 wk) h.1 h.2
  · exact early a1 s1 cap1 l k w h
set_option maxRecDepth 100000 in
set_option maxHeartbeats 1000000 in
theorem lifted (os : Os) (started : os.Started) (H : Type) (enc : TypeId × Value → H) :
    ReturnsInHanded {} Try.checked os 9 .any (Rows.queueRemovesSpec.pre6 enc Try.prog Try.f9 Rows.queueRemovesRow.domain false) (Rows.queueRemovesSpec.post enc Try.prog Try.f9 false true false false) := by
  refine returnsInHanded_of_change (C := Try.checked) own started (by kernel_rfl) Try.func9
    (ChangeSpec.witness6 (enc := enc) (C := Try.checked) false ⟨#[], #[.slice none 0 0, .int .i64 0, .int .i64 0], []⟩ 8 (by kernel_rfl) (by kernel_rfl) (by kernel_rfl) (by kernel_rfl)) ?_
  intro W base args ds gs before hval0 hW hcnd _
  have hval : ∀ (j : Nat) t v, Try.f9.params[j]? = some t → args[j]? = some v → Value.okWide Try.prog W .any base t v := hval0
  have hW' := hW
  obtain ⟨p, q, hA0, hV, rfl, hfz, hnd⟩ := hW
  have hA : DataW.TrodAll enc Try.prog W 0 (fun _ => true) true Try.f9.params.toList args.toList ds p := hA0
  rw [Try.params9] at hA hval
  obtain ⟨v0, vs0, d0, ds0, p0, q0, hargs, rfl, rfl, h0, r0⟩ := trodAll_cons hA
  obtain ⟨v1, vs1, d1, ds1, p1, q1, rfl, rfl, rfl, h1, r1⟩ := trodAll_cons r0
  obtain ⟨v2, vs2, d2, ds2, p2, q2, rfl, rfl, rfl, h2, r2⟩ := trodAll_cons r1
  obtain ⟨rfl, rfl, rfl⟩ := trodAll_nil r2
  obtain rfl : args = #[v0, v1, v2] := by cases args; simp_all
  obtain ⟨rfl, rfl⟩ := trodVars_none hV
  obtain ⟨s0, cap0, a0, rfl, w0⟩ := Opn.ints_of Try.underlying53 Try.underlying3 (by kernel_rfl) (hval 0 53 v0 rfl rfl) h0
  obtain ⟨a1, rfl, rfl, rfl, w1⟩ := open_int Try.underlying3 (hval 1 3 v1 rfl rfl) h1
  obtain ⟨a2, rfl, rfl, rfl, w2⟩ := open_int Try.underlying3 (hval 2 3 v2 rfl rfl) h2
  clear hA0 hval0
  refine (walk a0 s0 cap0 a1 a2 W w0 w1 w2).mono fun e W' ⟨he, hg⟩ => ?_
  subst he
  exact ⟨_, rfl, post_of_old hW' (fun _ _ _ => (trodAll_cons_mk (shut_bool Try.underlying4 _) trodAll_mk0)) (fun sp hsp => (trodAll_cons_mk (Opn.back (by kernel_rfl) (of_decide_eq_true (by kernel_rfl)) h0 hg (fun x hx => hW'.lt x (by simp [hx])) (fun x hx => hsp x (by simp [hx]))) (trodAll_cons_mk (shut_int Try.underlying3 w1) (trodAll_cons_mk (shut_int Try.underlying3 w2) trodAll_mk0)))) (fun _ _ => rfl)
    hg (ok_one (by kernel_rfl) rfl (okWide_bool_mk Try.underlying4 _))⟩
theorem over : Rows.queueRemovesRow.holds Try.pinned (OpenSpec.ofChange Rows.queueRemovesSpec) :=
  OpenClaim.holds_of_wide 9 Try.f9 rfl rfl rfl rfl rfl rfl rfl ⟨rfl, rfl, rfl, rfl, rfl⟩ rfl rfl rfl rfl rfl (by kernel_rfl) Try.func9 (by kernel_rfl)
    (of_decide_eq_true (by kernel_rfl)) (by unfold Func.isWrapper; first | (rw [if_pos (by decide +kernel)]; kernel_rfl) | (rw [if_neg (by decide +kernel)]; exact ⟨rfl, rfl⟩))
    (fun os started H enc _ => lifted os started H enc)
theorem proved : Rows.QueueRemovesSaid :=
  over
#print axioms proved
end Go.Proofs.Ytlgcbggffhlhmaa.queueRemoves
