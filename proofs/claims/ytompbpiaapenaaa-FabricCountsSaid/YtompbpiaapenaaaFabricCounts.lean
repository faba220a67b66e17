/- FabricCounts (mizzenlaw15): for every int and every slice of steps the law returns true and its arguments read as before. Conditions: none beyond the model's. -/
import Derived.Test.YtompbpiaapenaaaRows
import Derived.Test.YtompbpiaapenaaaFbG1
import Derived.WalkKit
import Derived.ProofKit
import Derived.OpenShut
import Derived.Test.YtompbpiaapenaaaFbG27
import Derived.Test.YtompbpiaapenaaaFbG28
set_option linter.unusedVariables false
namespace Go.Proofs.Ytompbpiaapenaaa.fabricCounts
open Go.ChangeShapes Go.WideShapes Go.ChangeAt Go.RowKit Go.Proofs.Ytompbpiaapenaaa.Hp Go.Proofs.Ytompbpiaapenaaa.End
open Go.Proofs.Ytompbpiaapenaaa.Po Go.Proofs.Ytompbpiaapenaaa.Fo Go.Proofs.Ytompbpiaapenaaa.FbM Go.Proofs.Ytompbpiaapenaaa.Fb Go.Proofs.Ytompbpiaapenaaa.Tp Go.Proofs.Ytompbpiaapenaaa.Opn QuM Rw WrM
theorem own : ownKnob Try.prog.godebug = none := by kernel_rfl
attribute [local go_sem ↓] Go.wp_at_zero Go.wp_at_succ
set_option maxRecDepth 100000 in
set_option maxHeartbeats 16000000 in
theorem walk (room : Int) (l : List (Int × Int × Bx)) (s : Option Addr) (cap : Nat) (w : World) (w0 : (Lit.int .i64 room).wf = true) (w3 : StIn w s cap l) :
    Calls Try.prog 5 #[.int .i64 room, .slice s l.length cap] w fun e w' => e = .returned (.bool true) ∧ Old w w' := by
  have HC := Lib.hid fun w => Fb.awake_any w
  have SML := Lib.hid (Fb.small_any w3)
  have W3 := Lib.hid w3
  obtain ⟨N, hN⟩ : ∃ N, l.length = N := ⟨_, rfl⟩
  have hNc : N ≤ cap := by have := w3.1; omega
  have HN := Lib.hid hN
  rw [hN] at SML
  rw [hN]
  clear w0 w3 hN
  go_enter Try.func5, Try.ntmps5
  go_wp2_with fail
  with_reducible refine Calls.mono SML.out ?_
  rintro e wa ⟨ok, rfl, hka, hbb⟩
  have KK : Hid (Old w wa) := Lib.hid hka
  have HBB := Lib.hid hbb
  clear hka hbb SML
  have EARLY : (ok = false ∨ room < 0 ∨ 1073741824 < room) ∨ (ok = true ∧ 0 ≤ room ∧ room ≤ 1073741824) := by
    cases ok
    · exact Or.inl (Or.inl rfl)
    · by_cases h : room < 0 ∨ 1073741824 < room
      · exact Or.inl (Or.inr h)
      · exact Or.inr ⟨rfl, by omega, by omega⟩
  rcases EARLY with h | ⟨rfl, h0, h1⟩
  · have h2 : ok = false ∨ (ok = true ∧ room < 0) ∨ (ok = true ∧ decide (room < 0) = false ∧ 1073741824 < room) := by
      cases ok
      · exact Or.inl rfl
      · rcases Int.lt_or_le room 0 with h3 | h3
        · exact Or.inr (Or.inl ⟨rfl, h3⟩)
        · refine Or.inr (Or.inr ⟨rfl, by rw [decide_eq_false_iff_not]; omega, ?_⟩)
          rcases h with h | h | h
          · cases h
          · omega
          · exact h
    clear h HBB
    rcases h2 with rfl | ⟨rfl, h3⟩ | ⟨rfl, h3, h4⟩
    all_goals
      go_wp2_with fail
      with_reducible refine Calls.mono (HC.out _) ?_
      rintro e w7 ⟨rfl, ho⟩
      have HO : Hid (Old w w7) := Lib.hid (KK.out.trans ho)
      clear ho
      go_wp2_with fail
      go_ret
      exact ⟨rfl, HO.out⟩
  · have hl134 := (HBB.out rfl).1
    have HZ := Lib.hid (HBB.out rfl).2
    rw [HN.out] at hl134
    clear HBB
    have NW : Hid (Calls Try.prog 22 #[.int .i64 4, .int .i64 2, .int .i64 room, .int .i64 2, .bool true] wa fun e w' => ∃ fb, e = .returned (.tuple #[ptr fb, .int .i64 0]) ∧ FV wa (K4 room) M0 0 fb w') := Lib.hid (fv_new (K := K4 room) (k4_ok room) h0 h1 (by show (0 : Int) ≤ 2; decide) (by show (2 : Int) ≤ _; decide) wa)
    have d0 : decide (room < 0) = false := by rw [decide_eq_false_iff_not]; omega
    have d1 : decide (1073741824 < room) = false := by rw [decide_eq_false_iff_not]; omega
    clear h0 h1
    go_wp2_with fail
    with_reducible refine Calls.mono NW.out ?_
    rintro e wb ⟨fb, rfl, hF⟩
    have F0 : Hid (FE wa (K4 room) 0 fb wb) := Lib.hid ⟨_, hF⟩
    clear hF NW d0 d1
    go_wp2_with fail
    go_loopg [7, 8] N (fun mm s7 s8 wr => ∃ (i : Nat) (c : Int), Hid (N - i ≤ mm) ∧ i ≤ N ∧ s8 = .int .i64 (i : Nat) ∧ s7 = .int .i64 c ∧ (0 ≤ c ∧ c ≤ i) ∧ Hid (FE wa (K4 room) c fb wr))
    case atStart => exact ⟨0, 0, Lib.hid (by omega), Nat.zero_le _, rfl, rfl, ⟨Int.le_refl _, Int.le_refl _⟩, F0⟩
    case round =>
      obtain ⟨i, c, hmm, hi, rfl, rfl, hcc, hF⟩ := hrel
      clear F0
      rcases Nat.lt_or_ge i N with hlt | hge
      · have hlt' : (i : Int) < (N : Int) := by omega
        obtain ⟨⟨kd, ka, ⟨⟨x1, x2, x3, x4, x5, x6, x7, x8, x9, xd⟩, xa, xc, xq⟩⟩, hz⟩ : ∃ z, l[i]? = some z := ⟨_, List.getElem?_eq_getElem (by rw [HN.out]; exact hlt)⟩
        obtain ⟨gb, off, rfl, hgb, hcell⟩ := Fb.st_cells W3.out hz
        have hmem := List.mem_of_getElem? hz
        have hsok := W3.out.2.2.1 _ hmem
        have hzok := HZ.out _ hmem
        have HXQ : Hid (xq ≤ 9223372036854775807) := Lib.hid (bounds_i64 hsok.2).2
        have HRD : Hid (Rd wa ⟨⟨x1, x2, x3, x4, x5, x6, x7, x8, x9, xd⟩, xa, xc, xq⟩) := Lib.hid ⟨hsok.1.1.kept KK.out, Nat.le_trans hzok (by decide)⟩
        obtain ⟨q0, q1, q2, q3, q4, q5, q6, q7, q8, q9, q10, q11, q12⟩ := hcell _ (KK.out.trans hF.out.since)
        clear hz hgb hcell hmem hsok hzok
        go_upto_region 11 with fail
        have hO := Blk.new wr [.int .i64 kd, .int .i64 ka, .int .i64 xq, .int .i64 x1, .int .i64 x2, .int .i64 x3, .int .i64 x4, .int .u64 (x5 : Int), .int .i64 x6, .int .i64 x7, .int .i64 x8, .int .i64 x9, .slice xa xd.length xc] 70
        have hkk := (Kept.refl (fun _ => False) wr).alloc (.cells [.int .i64 kd, .int .i64 ka, .int .i64 xq, .int .i64 x1, .int .i64 x2, .int .i64 x3, .int .i64 x4, .int .u64 (x5 : Int), .int .i64 x6, .int .i64 x7, .int .i64 x8, .int .i64 x9, .slice xa xd.length xc].toArray 70)
        dsimp only [List.toArray] at hO hkk
        have F4 := Lib.hid (hF.out.old hkk)
        generalize wr.alloc (.cells #[.int .i64 kd, .int .i64 ka, .int .i64 xq, .int .i64 x1, .int .i64 x2, .int .i64 x3, .int .i64 x4, .int .u64 (x5 : Int), .int .i64 x6, .int .i64 x7, .int .i64 x8, .int .i64 x9, .slice xa xd.length xc] 70) = w4 at *
        generalize wr.heap.size = sb at *
        clear q0 q1 q2 q3 q4 q5 q6 q7 q8 q9 q10 q11 q12 hkk hF
        have HO := Lib.hid hO
        clear hO
        have hO4 := HO.out
        have q0 := hO4.cell (o := 0) rfl
        have q1 := hO4.cell (o := 1) rfl
        have q2 := hO4.cell (o := 2) rfl
        have q3 := hO4.cell (o := 3) rfl
        have q4 := hO4.cell (o := 4) rfl
        have q5 := hO4.cell (o := 5) rfl
        have q6 := hO4.cell (o := 6) rfl
        have q7 := hO4.cell (o := 7) rfl
        have q8 := hO4.cell (o := 8) rfl
        have q9 := hO4.cell (o := 9) rfl
        have q10 := hO4.cell (o := 10) rfl
        have q11 := hO4.cell (o := 11) rfl
        have q12 := hO4.cell (o := 12) rfl
        clear hO4
        have hcw : IntKind.i64.wrap (c + 1) = c + 1 := by rw [IntKind.wrap_i64]; omega
        have hcw2 : IntKind.i64.wrap (c - 1) = c - 1 := by rw [IntKind.wrap_i64]; omega
        have hc2 : c ≤ 20000 := by omega
        go_upto_block 2 with (fail)
        go_cut [7] (fun s7 wx => ∃ c' : Int, s7 = .int .i64 c' ∧ (0 ≤ c' ∧ c' ≤ (i : Int) + 1) ∧ Hid (FE wa (K4 room) c' fb wx))
        case first =>
          have HC0 := Lib.hid hcc
          by_cases kd1 : kd = 1
          · subst kd1
            have SN := Lib.hid (fe_send F4.out hc2 (J := ka) (q := xq) (x := ⟨⟨x1, x2, x3, x4, x5, x6, x7, x8, x9, xd⟩, xa, xc, xq⟩) ⟨(HRD.out.1.kept F4.out.since), HRD.out.2⟩)
            go_wp2_with fail
            with_reducible refine Calls.mono SN.out ?_
            rintro e w5 ⟨d, g, rfl, hU⟩
            clear q0 q1 q2 q3 q4 q5 q6 q7 q8 q9 q10 q11 q12 SN
            rcases up_c (by decide) hU with ⟨e1, h5⟩ | ⟨e1, h5⟩
            · have F5 := Lib.hid h5
              clear hU h5
              go_wp2_with fail
              go_meet
              exact ⟨c + 1, rfl, by have := HC0.out; omega, F5⟩
            · have F5 := Lib.hid h5
              clear hU h5
              go_wp2_with fail
              go_meet
              exact ⟨c, rfl, by have := HC0.out; omega, F5⟩
          · by_cases kd2 : kd = 2
            · subst kd2
              have SV := Lib.hid (fe_serve F4.out hc2 ka xq)
              clear kd1
              go_wp2_with fail
              with_reducible refine Calls.mono SV.out ?_
              rintro e w5 ⟨d, g, rfl, h5⟩
              have F5 := Lib.hid h5
              clear q0 q1 q2 q3 q4 q5 q6 q7 q8 q9 q10 q11 q12 SV h5
              go_wp2_with fail
              go_meet
              exact ⟨c, rfl, by have := HC0.out; omega, F5⟩
            · by_cases kd3 : kd = 3
              · subst kd3
                have TK := Lib.hid (fe_take F4.out hc2 ka)
                clear kd1 kd2
                go_wp2_with fail
                with_reducible refine Calls.mono TK.out ?_
                rintro e w5 ⟨⟨⟨y1, y2, y3, y4, y5, y6, y7, y8, y9, yd⟩, ya, yc, yq⟩, ok, rfl, h5⟩
                clear q0 q1 q2 q3 q4 q5 q6 q7 q8 q9 q10 q11 q12 TK
                rcases h5 with ⟨rfl, h5⟩ | ⟨rfl, h5⟩
                all_goals
                  have F5 := Lib.hid (h5.old ((Kept.refl (fun _ => False) w5).alloc (.cells #[.int .i64 y1, .int .i64 y2, .int .i64 y3, .int .i64 y4, .int .u64 (y5 : Int), .int .i64 y6, .int .i64 y7, .int .i64 y8, .int .i64 y9, .slice ya yd.length yc] 35)))
                  have hn5 := F5.out.choose_spec.nonneg
                  clear h5
                  go_wp2_with fail
                  go_meet
                · exact ⟨c - 1, rfl, by have := HC0.out; omega, F5⟩
                · exact ⟨c, rfl, by have := HC0.out; omega, F5⟩
              · by_cases kd4 : kd = 4
                · subst kd4
                  have DR := Lib.hid (fe_drop F4.out hc2 ka HXQ.out)
                  clear kd1 kd2 kd3
                  go_wp2_with fail
                  with_reducible refine Calls.mono DR.out ?_
                  rintro e w5 ⟨g, rfl, h5⟩
                  have F5 := Lib.hid h5
                  clear q0 q1 q2 q3 q4 q5 q6 q7 q8 q9 q10 q11 q12 DR h5
                  go_wp2_with fail
                  go_meet
                  exact ⟨c, rfl, by have := HC0.out; omega, F5⟩
                · by_cases kd5 : kd = 5
                  · subst kd5
                    have DB := Lib.hid (fe_double F4.out hc2 ka HXQ.out)
                    clear kd1 kd2 kd3 kd4
                    go_wp2_with fail
                    with_reducible refine Calls.mono DB.out ?_
                    rintro e w5 ⟨g, rfl, hU⟩
                    clear q0 q1 q2 q3 q4 q5 q6 q7 q8 q9 q10 q11 q12 DB
                    rcases up_c (by decide) hU with ⟨e1, h5⟩ | ⟨e1, h5⟩
                    · have F5 := Lib.hid h5
                      clear hU h5
                      go_wp2_with fail
                      go_meet
                      exact ⟨c + 1, rfl, by have := HC0.out; omega, F5⟩
                    · have F5 := Lib.hid h5
                      clear hU h5
                      go_wp2_with fail
                      go_meet
                      exact ⟨c, rfl, by have := HC0.out; omega, F5⟩
                  · have e1 : (kd == 1) = false := by simpa using kd1
                    have e2 : (kd == 2) = false := by simpa using kd2
                    have e3 : (kd == 3) = false := by simpa using kd3
                    have e4 : (kd == 4) = false := by simpa using kd4
                    have e5 : (kd == 5) = false := by simpa using kd5
                    clear kd1 kd2 kd3 kd4 kd5
                    go_wp2_with fail
                    go_meet
                    exact ⟨c, rfl, by have := HC0.out; omega, F4⟩
        case rest =>
          obtain ⟨c', rfl, hc', F5⟩ := hcut
          clear F4 q0 q1 q2 q3 q4 q5 q6 q7 q8 q9 q10 q11 q12 hcw hcw2 hcc HO HRD HXQ
          obtain ⟨M, h5⟩ := F5.out
          have LS := Lib.hid (fv_lost h5)
          have HM := Lib.hid h5.1.cnt
          have F6 := Lib.hid h5
          clear h5 F5
          go_wp2_with fail
          with_reducible refine Calls.mono LS.out ?_
          rintro e w6 ⟨rfl, rfl⟩
          clear LS
          have BK : Hid (0 ≤ M.L ∧ 0 ≤ Wt (fun _ => (1 : Int)) M.P 16 ∧ 0 ≤ li M.I 4 ∧ M.L + Wt (fun _ => (1 : Int)) M.P 16 + li M.I 4 = c') := by
            have h := F6.out
            exact Lib.hid ⟨h.1.lost, h.1.ones, li_nonneg _ _, h.1.cnt⟩
          have HC2 := Lib.hid hc'
          clear HM
          go_wp2_with fail
          go_loopg [14, 15] 16 (fun mm s14 s15 wr => ∃ p : Nat, Hid (16 - p ≤ mm) ∧ p ≤ 16 ∧ s15 = .int .i64 (p : Nat) ∧ s14 = .int .i64 (M.L + Wt (fun _ => (1 : Int)) M.P p) ∧ Hid (FV wa (K4 room) M c' fb wr))
          case atStart => exact ⟨0, Lib.hid (by omega), by omega, rfl, by show Value.int .i64 M.L = .int .i64 (M.L + 0); rw [Int.add_zero], F6⟩
          case round =>
            obtain ⟨p, hmm2, hp, rfl, rfl, hF2⟩ := hrel
            clear F6
            have PT : Hid (Calls Try.prog 25 #[ptr fb] wr fun e w' => e = .returned (.int .i64 16) ∧ wr = w') := Lib.hid (fv_ports hF2.out)
            rcases Nat.lt_or_ge p 16 with hplt | hpge
            · have hplt' : (p : Int) < 16 := by omega
              have WT := Lib.hid (fv_wait hF2.out (by have := HC2.out; omega) (p := p) (by show p < 16; exact hplt))
              have hs1 := Wt_succ M.P p
              have hs2 := Wt_mono M.P (show p + 1 ≤ 16 by omega)
              have hs3 := Wt_mono M.P (Nat.zero_le p)
              have hs4 : Wt (fun _ => (1 : Int)) M.P 0 = 0 := rfl
              obtain ⟨q, hq⟩ : ∃ q : Nat, (accL (M.P p).ls (M.P p).cr 9).length = q := ⟨_, rfl⟩
              obtain ⟨t, ht⟩ : ∃ t : Int, M.L + Wt (fun _ => (1 : Int)) M.P p = t := ⟨_, rfl⟩
              rw [hq] at hs1 WT
              have htq : M.L + Wt (fun _ => (1 : Int)) M.P (p + 1) = t + q := by omega
              have hwt : IntKind.i64.wrap (t + q) = t + q := by
                have h1 := BK.out
                have h2 := HC2.out
                rw [IntKind.wrap_i64]; omega
              have HTQ := Lib.hid htq
              rw [ht]
              clear hs1 hs2 hs3 hs4 hq ht htq
              go_wp2_with fail
              with_reducible refine Calls.mono PT.out ?_
              rintro e w7 ⟨rfl, rfl⟩
              clear PT
              go_wp2_with fail
              with_reducible refine Calls.mono WT.out ?_
              rintro e w7 ⟨rfl, m7, rfl⟩
              have F8 := Lib.hid (hF2.out.old ((Kept.refl (fun _ => False) wr).drewN m7))
              generalize wr.drewN m7 = w7 at *
              clear WT hF2
              go_wp2_with fail
              go_roundg (16 - (p + 1))
              case measure => have := hmm2.out; omega
              case rel => exact ⟨p + 1, Lib.hid (Nat.le_refl _), hplt, by go_num, by rw [HTQ.out]; try exact hwt, F8⟩
            · have hpge' : ¬ ((p : Int) < 16) := by omega
              obtain rfl : p = 16 := by omega
              clear hmm2 hp hpge
              have F9 := hF2
              clear hF2
              go_wp2_with fail
              with_reducible refine Calls.mono PT.out ?_
              rintro e w7 ⟨rfl, rfl⟩
              clear PT
              go_wp2_with fail
              go_loopg [14, 16] 4 (fun mm s14 s16 wr => ∃ h : Nat, Hid (4 - h ≤ mm) ∧ h ≤ 4 ∧ s16 = .int .i64 (h : Nat) ∧ s14 = .int .i64 (M.L + Wt (fun _ => (1 : Int)) M.P 16 + li M.I h) ∧ Hid (FV wa (K4 room) M c' fb wr))
              case atStart => exact ⟨0, Lib.hid (by omega), by omega, rfl, by show Value.int .i64 _ = .int .i64 (_ + 0); rw [Int.add_zero], F9⟩
              case round =>
                obtain ⟨h, hmm3, hh, rfl, rfl, hF3⟩ := hrel
                clear F9
                rcases Nat.lt_or_ge h 4 with hlt3 | hge3
                · have hlt3' : (h : Int) < 4 := by omega
                  have AR := Lib.hid (fv_arr hF3.out (by have := HC2.out; omega) (j := h) (by show h < 4; exact hlt3))
                  have hs1 : li M.I (h + 1) = li M.I h + (M.I h).length := rfl
                  have hs2 := li_mono M.I (show h + 1 ≤ 4 by omega)
                  have hs3 := li_nonneg M.I h
                  obtain ⟨t, ht⟩ : ∃ t : Int, M.L + Wt (fun _ => (1 : Int)) M.P 16 + li M.I h = t := ⟨_, rfl⟩
                  have htq : M.L + Wt (fun _ => (1 : Int)) M.P 16 + li M.I (h + 1) = t + (M.I h).length := by omega
                  have hwt : IntKind.i64.wrap (t + (M.I h).length) = t + (M.I h).length := by
                    have h1 := BK.out
                    have h2 := HC2.out
                    rw [IntKind.wrap_i64]; omega
                  have HTQ := Lib.hid htq
                  rw [ht]
                  clear hs1 hs2 hs3 ht htq
                  go_wp2_with fail
                  with_reducible refine Calls.mono AR.out ?_
                  rintro e w7 ⟨v', W, rfl, hR, hm, _, hk7⟩
                  obtain ⟨ra, rc, rfl, hrc1, hrc2⟩ : ∃ a c, v' = .slice a W.length c ∧ W.length ≤ c ∧ c ≤ maxLen := hR.slice
                  have hWl : W.length = (M.I h).length := by have := congrArg List.length hm; simpa using this
                  rw [hWl]
                  have F8 := Lib.hid (hF3.out.old hk7)
                  clear AR hF3 hR hm hk7
                  go_wp2_with fail
                  go_roundg (4 - (h + 1))
                  case measure => have := hmm3.out; omega
                  case rel => exact ⟨h + 1, Lib.hid (Nat.le_refl _), hlt3, by go_num, by rw [HTQ.out]; try exact hwt, F8⟩
                · have hge3' : ¬ ((h : Int) < 4) := by omega
                  obtain rfl : h = 4 := by omega
                  clear hmm3 hh hge3
                  have F10 := hF3
                  have hsum : M.L + Wt (fun _ => (1 : Int)) M.P 16 + li M.I 4 = c' := BK.out.2.2.2
                  clear hF3
                  rw [hsum]
                  have hce : (c' == c') = true := by simp
                  go_wp2_with fail
                  go_roundg (N - (i + 1))
                  case measure => have := hmm.out; omega
                  case rel => exact ⟨i + 1, c', Lib.hid (Nat.le_refl _), hlt, by go_num, rfl, by have := HC2.out; exact ⟨this.1, by have := this.2; omega⟩, Lib.hid ⟨M, F10.out⟩⟩
      · have hge' : ¬ ((i : Int) < (N : Int)) := by omega
        have HK := Lib.hid (KK.out.trans hF.out.since)
        have FP := Lib.hid fun w => fports_nil w
        have FLN := Lib.hid fun w => flost_nil w
        have FEN := Lib.hid fun w => fempty_nil w
        have FDN := Lib.hid fun w => fdrop_nil 0 0 w
        have FSN := Lib.hid fun w => serve_nil 0 0 w
        have FSD : Hid (∀ w, Calls Try.prog 24 #[.pointer none, .int .i64 0, fv zF, .int .i64 0] w fun e w' => e = .returned (.tuple #[.int .i64 0, .int .i64 1]) ∧ Kept (fun _ => False) w w') := Lib.hid fun w => send_nil w
        clear hF hmm hi hge
        go_wp2_with fail
        with_reducible refine Calls.mono (FSD.out _) ?_
        rintro e w5 ⟨rfl, hk5⟩
        have HK5 := Lib.hid (HK.out.trans hk5)
        clear hk5 FSD
        go_wp2_with fail
        with_reducible refine Calls.mono (FSN.out _) ?_
        rintro e w6 ⟨rfl, rfl⟩
        go_wp2_with fail
        with_reducible refine Calls.mono (FEN.out _) ?_
        rintro e w6 ⟨rfl, rfl⟩
        go_wp2_with fail
        with_reducible refine Calls.mono (FP.out _) ?_
        rintro e w6 ⟨rfl, rfl⟩
        go_wp2_with fail
        with_reducible refine Calls.mono (FDN.out _) ?_
        rintro e w6 ⟨rfl, hk6⟩
        have HK6 := Lib.hid (HK5.out.trans hk6)
        clear hk6
        go_wp2_with fail
        with_reducible refine Calls.mono (FLN.out _) ?_
        rintro e w7 ⟨rfl, rfl⟩
        go_wp2_with fail
        with_reducible refine Calls.mono (HC.out _) ?_
        rintro e w7 ⟨rfl, ho⟩
        have HO : Hid (Old w w7) := Lib.hid (HK6.out.trans ho)
        clear ho
        go_wp2_with fail
        go_ret
        exact ⟨rfl, HO.out⟩
set_option maxRecDepth 100000 in
set_option maxHeartbeats 1000000 in
theorem lifted (os : Os) (started : os.Started) (H : Type) (enc : TypeId × Value → H) :
    ReturnsInHanded {} Try.checked os 5 .any (Rows.fabricCountsSpec.pre6 enc Try.prog Try.f5 Rows.fabricCountsRow.domain false) (Rows.fabricCountsSpec.post enc Try.prog Try.f5 false true false false) := by
  refine returnsInHanded_of_change (C := Try.checked) own started (by kernel_rfl) Try.func5
    (ChangeSpec.witness6 (enc := enc) (C := Try.checked) false ⟨#[], #[.int .i64 0, .slice none 0 0], []⟩ 8 (by kernel_rfl) (by kernel_rfl) (by kernel_rfl) (by kernel_rfl)) ?_
  intro W base args ds gs before hval0 hW hcnd _
  have hval : ∀ (j : Nat) t v, Try.f5.params[j]? = some t → args[j]? = some v → Value.okWide Try.prog W .any base t v := hval0
  have hW' := hW
  obtain ⟨p, q, hA0, hV, rfl, hfz, hnd⟩ := hW
  have hA : DataW.TrodAll enc Try.prog W 0 (fun _ => true) true Try.f5.params.toList args.toList ds p := hA0
  rw [Try.params5] at hA hval
  obtain ⟨v0, vs0, d0, ds0, p0, q0, hargs, rfl, rfl, h0, r0⟩ := trodAll_cons hA
  obtain ⟨v1, vs1, d1, ds1, p1, q1, rfl, rfl, rfl, h1, r1⟩ := trodAll_cons r0
  obtain ⟨rfl, rfl, rfl⟩ := trodAll_nil r1
  obtain rfl : args = #[v0, v1] := by cases args; simp_all
  obtain ⟨rfl, rfl⟩ := trodVars_none hV
  obtain ⟨a0, rfl, rfl, rfl, w0⟩ := open_int Try.underlying3 (hval 0 3 v0 rfl rfl) h0
  obtain ⟨s1, cap1, a1, rfl, w1⟩ := Opn.steps_of (hval 1 67 v1 rfl rfl) h1
  clear hA0 hval0
  refine (walk a0 a1 s1 cap1 W w0 w1).mono fun e W' ⟨he, hg⟩ => ?_
  subst he
  exact ⟨_, rfl, post_of_old hW' (fun _ _ _ => (trodAll_cons_mk (shut_bool Try.underlying4 _) trodAll_mk0)) (fun sp hsp => (trodAll_cons_mk (shut_int Try.underlying3 w0) (trodAll_cons_mk (Opn.back (by kernel_rfl) (of_decide_eq_true (by kernel_rfl)) h1 hg (fun x hx => hW'.lt x (by simp [hx])) (fun x hx => hsp x (by simp [hx]))) trodAll_mk0))) (fun _ _ => rfl)
    hg (ok_one (by kernel_rfl) rfl (okWide_bool_mk Try.underlying4 _))⟩
theorem over : Rows.fabricCountsRow.holds Try.pinned (OpenSpec.ofChange Rows.fabricCountsSpec) :=
  OpenClaim.holds_of_wide 5 Try.f5 rfl rfl rfl rfl rfl rfl rfl ⟨rfl, rfl, rfl, rfl, rfl⟩ rfl rfl rfl rfl rfl (by kernel_rfl) Try.func5 (by kernel_rfl)
    (of_decide_eq_true (by kernel_rfl)) (by unfold Func.isWrapper; first | (rw [if_pos (by decide +kernel)]; kernel_rfl) | (rw [if_neg (by decide +kernel)]; exact ⟨rfl, rfl⟩))
    (fun os started H enc _ => lifted os started H enc)
theorem proved : Rows.FabricCountsSaid :=
  over
#print axioms proved
end Go.Proofs.Ytompbpiaapenaaa.fabricCounts
