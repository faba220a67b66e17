/- PortHighest (mizzenlaw13): for every list of prios and every number of credits the law returns true (what is taken is the first of the highest line that has something; credits go at most one in four ticks) and its arguments read as before. Conditions: none beyond the model's. -/
import Derived.Test.YtlgcbggffhlhmaaRows
import Derived.Test.YtlgcbggffhlhmaaEnd
import Derived.Test.YtlgcbggffhlhmaaInts
import Derived.WalkKit
import Derived.ProofKit
import Derived.OpenShut
import Derived.Test.YtlgcbggffhlhmaaPoHi
import Derived.Test.YtlgcbggffhlhmaaRnd
set_option linter.unusedVariables false
namespace Go.Proofs.Ytlgcbggffhlhmaa.portHighest
open Go.ChangeShapes Go.WideShapes Go.ChangeAt Go.RowKit Go.Proofs.Ytlgcbggffhlhmaa.Hp Go.Proofs.Ytlgcbggffhlhmaa.End
open Go.Proofs.Ytlgcbggffhlhmaa.Po Go.Proofs.Ytlgcbggffhlhmaa.Qu QuM Opn
theorem own : ownKnob Try.prog.godebug = none := by kernel_rfl
attribute [local go_sem ↓] Go.wp_at_zero Go.wp_at_succ
set_option maxRecDepth 100000 in
set_option maxHeartbeats 4000000 in
theorem early (a0 : List Int) (s0 : Option Addr) (cap0 : Nat) (C : Int) (w : World) (h : ¬ (a0.length ≤ 60 ∧ 0 ≤ C ∧ C ≤ 20)) :
    Calls Try.prog 4 #[.slice s0 a0.length cap0, .int .i64 C] w fun e w' => e = .returned (.bool true) ∧ Old w w' := by
  have HC := Lib.hid fun w => awake_any w
  have hc : (60 : Int) < (a0.length : Int) ∨ (decide ((60 : Int) < (a0.length : Int)) = false ∧ C < 0) ∨ (decide ((60 : Int) < (a0.length : Int)) = false ∧ decide (C < 0) = false ∧ 20 < C) := by
    simp only [decide_eq_false_iff_not]; omega
  clear h
  rcases hc with h1 | ⟨h1, h2⟩ | ⟨h1, h2, h3⟩
  all_goals
    go_enter Try.func4, Try.ntmps4
    go_wp2_with fail
    with_reducible refine Calls.mono (HC.out _) ?_
    rintro e w' ⟨rfl, ho⟩
    go_wp2_with fail
    go_ret
    exact ⟨rfl, ho⟩
set_option maxRecDepth 100000 in
set_option maxHeartbeats 8000000 in
theorem late (a0 : List Int) (s0 : Option Addr) (cap0 : Nat) (C : Nat) (w : World) (w0 : Ints w s0 cap0 a0) (g1 : a0.length ≤ 60) (g2 : C ≤ 20) :
    Calls Try.prog 4 #[.slice s0 a0.length cap0, .int .i64 (C : Nat)] w fun e w' => e = .returned (.bool true) ∧ Old w w' := by
  have HC := Lib.hid fun w => awake_any w
  have N := Lib.hid fun w => pnew_yes (room := 1048576) (most := 20) (by decide) (by decide) (by decide) (by decide) false w
  have W0 := Lib.hid w0
  have h1 : decide ((60 : Int) < (a0.length : Int)) = false := by rw [decide_eq_false_iff_not]; omega
  have h3 : decide ((20 : Int) < (C : Int)) = false := by rw [decide_eq_false_iff_not]; omega
  clear w0
  obtain ⟨n, hzl⟩ : ∃ n, a0.length = n := ⟨_, rfl⟩
  have HZ := Lib.hid hzl
  rw [hzl] at g1 h1 ⊢
  clear hzl
  go_enter Try.func4, Try.ntmps4
  go_wp2_with fail
  with_reducible refine Calls.mono (N.out _) ?_
  rintro e w2 ⟨b, F, rfl, hS, _⟩
  have HS := Lib.hid hS
  clear hS N
  go_wp2_with fail
  clear h1 h3
  go_loopg [7] n (fun kx s7 wr => ∃ (i : Nat) (ls : Nat → List Bx) (F : Nat → Prop), Hid (n - i ≤ kx) ∧ i ≤ n ∧ s7 = .int .i64 (i : Nat) ∧ Hid (Hs ls i ∧ cnt ls 8 = i) ∧ Hid (PS w b 1048576 20 false ls [] 0 0 F wr))
  case atStart => exact ⟨0, fun _ => [], F, Lib.hid (by omega), by omega, rfl, Lib.hid ⟨⟨fun k x hk hx => (by cases hx), fun k hk => List.Pairwise.nil⟩, rfl⟩, HS⟩
  case round =>
    clear HS
    obtain ⟨i, ls, F, hm, hi, rfl, hI, hS⟩ := hrel
    rcases Nat.lt_or_ge i n with hlt | hge
    · have hlt' : (i : Int) < (n : Int) := by omega
      obtain ⟨y, hy⟩ : ∃ y, a0[i]? = some y := ⟨_, List.getElem?_eq_getElem (by rw [HZ.out]; exact hlt)⟩
      obtain ⟨g, off, rfl, hg, hc⟩ := W0.out.at hS.out.since (j := i) (by rw [HZ.out]; exact hlt)
      rw [(List.getElem?_eq_some_iff.1 hy).2] at hc
      have hyb := W0.out.wf (j := i) (by rw [HZ.out]; exact hlt)
      rw [(List.getElem?_eq_some_iff.1 hy).2] at hyb
      clear hy
      have RN := Lib.hid fun w => Rnd.round_pos (k := y) (n := 8) (by decide) (by decide) hyb.1 hyb.2 w
      obtain ⟨p, hp⟩ : ∃ p : Nat, y % 8 = (p : Int) := ⟨(y % 8).toNat, by omega⟩
      have hp8 : p < 8 := by omega
      rw [hp] at RN
      clear hp hyb
      have hcl := len_le_cnt (ls := ls) hp8
      have P := Lib.hid (put_fy hS.out (x := ⟨qF (p : Nat) (i : Nat), none, 0, 0⟩) (rd_none _ rfl rfl rfl) (sane_ne (show (5 : Int) ≠ 1 by decide)) (show (5 : Int) ≠ 11 by decide) (p := p) (NumM.clampI_in (show (0 : Int) ≤ (p : Int) by omega) (show (p : Int) ≤ 7 by omega)) (by
        rw [nb_ne (show (5 : Int) ≠ 1 by decide), hI.out.1.tot, hI.out.2]; omega) (by rw [hI.out.2] at hcl; omega))
      clear hcl hS
      go_wp2_with fail
      with_reducible refine Calls.mono (RN.out _) ?_
      rintro e w3 ⟨rfl, rfl⟩
      go_wp2_with fail
      with_reducible refine Calls.mono P.out ?_
      rintro e w4 ⟨rfl, s, c, F4, hS4, _⟩
      have HS4 := Lib.hid hS4
      have HI4 : Hid (Hs (upd ls p (ls p ++ [⟨qF (p : Nat) (i : Nat), s, c, 0⟩])) (i + 1) ∧ cnt (upd ls p (ls p ++ [⟨qF (p : Nat) (i : Nat), s, c, 0⟩])) 8 = i + 1) := Lib.hid ⟨hI.out.1.push hp8 rfl, by rw [cnt_push hp8, hI.out.2]⟩
      clear hS4 P RN hI hc hg
      go_wp2_with fail
      go_roundg (n - (i + 1))
      case measure => have := hm.out; omega
      case rel => exact ⟨i + 1, _, F4, Lib.hid (Nat.le_refl _), by omega, by go_num, HI4, HS4⟩
    · have hge' : ¬ ((i : Int) < (n : Int)) := by omega
      obtain rfl : i = n := by omega
      clear hm hge W0
      go_wp2_with fail
      clear hge'
      go_loopg [8] C (fun kx s8 wr => ∃ (j : Nat) (cr : List Bx) (F : Nat → Prop), Hid (C - j ≤ kx) ∧ j ≤ C ∧ s8 = .int .i64 (j : Nat) ∧ Hid (cr.map (·.f) = krF 0 j) ∧ Hid (PS w b 1048576 20 false ls cr 0 0 F wr))
      case atStart => exact ⟨0, [], F, Lib.hid (by omega), by omega, rfl, Lib.hid rfl, hS⟩
      case round =>
        clear hS
        obtain ⟨j, cr, F, hm, hj, rfl, hcr, hS⟩ := hrel
        have hlen : cr.length = j := by have := congrArg List.length hcr.out; rwa [List.length_map, krF_len] at this
        rcases Nat.lt_or_ge j C with hlt | hge
        · have hlt' : (j : Int) < (C : Int) := by omega
          have P := Lib.hid (put_cy hS.out (x := ⟨kF (j : Nat), none, 0, 0⟩) (rd_none _ rfl rfl rfl) (sane_ne (show (11 : Int) ≠ 1 by decide)) rfl (by rw [hlen]; omega) (by rw [hlen]; omega))
          go_wp2_with fail
          with_reducible refine Calls.mono P.out ?_
          rintro e w3 ⟨rfl, s, c, F3, hS3, _⟩
          have HS3 := Lib.hid hS3
          have HCR : Hid ((cr ++ [(⟨kF (j : Nat), s, c, 0⟩ : Bx)]).map (·.f) = krF 0 (j + 1)) := Lib.hid (by rw [List.map_append, hcr.out, krF_snoc, Nat.zero_add]; rfl)
          clear hS3 P hS hcr hlen
          go_wp2_with fail
          go_roundg (C - (j + 1))
          case measure => have := hm.out; omega
          case rel => exact ⟨j + 1, _, F3, Lib.hid (Nat.le_refl _), by omega, by go_num, HCR, HS3⟩
        · have hge' : ¬ ((j : Int) < (C : Int)) := by omega
          obtain rfl : j = C := by omega
          clear hm hge hlen
          go_wp2_with fail
          clear hge'
          go_loopg [9, 10, 11, 12] (i + 4 * j + 4) (fun kx s9 s10 s11 s12 wr => ∃ (t g : Nat) (last at_ : Int) (nw : Int) (ls : Nat → List Bx) (cr : List Bx) (F : Nat → Prop), Hid (i + 4 * j + 4 - t ≤ kx) ∧ t ≤ i + 4 * j + 4 ∧ s12 = .int .i64 (t : Nat) ∧ s11 = .int .i64 (g : Nat) ∧ s9 = .int .i64 last ∧ s10 = .int .i64 at_ ∧
            Hid (g = min j ((t + 3) / 4)) ∧ Hid (cr.map (·.f) = krF g (j - g)) ∧ Hid (0 ≤ nw ∧ nw ≤ t) ∧ Hid (Hs ls i ∧ Od ls last at_ ∧ cnt ls 8 = i - (t - g)) ∧ Hid (PS w b 1048576 20 false ls cr nw (4 * (g : Int)) F wr))
          case atStart => exact ⟨0, 0, 8, -1, 0, ls, cr, F, Lib.hid (by omega), by omega, rfl, rfl, rfl, rfl, Lib.hid (by omega), hcr, Lib.hid ⟨by decide, by decide⟩, Lib.hid ⟨hI.out.1, fun k x hk hx => Or.inl (by omega), by rw [hI.out.2]; rfl⟩, hS⟩
          case round =>
            clear hI hS hcr
            obtain ⟨t, g, last, at_, nw, ls, cr, F, hm, ht, rfl, rfl, rfl, rfl, hg, hcr, hnw, hI, hS⟩ := hrel
            have hlen : cr.length = j - g := by have := congrArg List.length hcr.out; rwa [List.length_map, krF_len] at this
            have hgb : g ≤ 20 := by have := hg.out; omega
            rcases Nat.lt_or_ge t (i + 4 * j + 4) with hlt | hge
            · have hlt' : (t : Int) < (i : Int) + 4 * (j : Int) + 4 := by omega
              have htb : t ≤ 1000 := by omega
              have hcl : NumM.clampI ((t : Nat) : Int) nw 1125899906842624 = ((t : Nat) : Int) := NumM.clampI_in hnw.out.2 (by omega)
              by_cases hgo : g < j ∧ 4 * g ≤ t
              · obtain ⟨x, R, hxR⟩ : ∃ x R, cr = x :: R := by
                  cases cr with
                  | nil => simp at hlen; omega
                  | cons x R => exact ⟨x, R, rfl⟩
                subst hxR
                have hcr2 := hcr.out
                obtain ⟨q, hq⟩ : ∃ q, j - g = q + 1 := ⟨j - g - 1, by omega⟩
                rw [hq, krF_cons, List.map_cons] at hcr2
                obtain ⟨hx, hR⟩ := List.cons.inj hcr2
                have hHR : Hid (R.map (·.f) = krF (g + 1) (j - (g + 1))) := Lib.hid (by rw [hR, show j - (g + 1) = q by omega])
                obtain ⟨xf, xa, xc, xq⟩ := x
                simp only at hx
                subst hx
                have P := Lib.hid (take_credit hS.out hcl (by rw [hlen]; omega) (by omega))
                have H4 : Hid (t = 4 * g) := Lib.hid (by have := hg.out; omega)
                have h4 : (((t : Nat) : Int) != 4 * (g : Int)) = false := by rw [bne_eq_false_iff_eq]; have := H4.out; omega
                clear hcl hcr2 hR hS hcr hlen
                go_wp2_with fail
                with_reducible refine Calls.mono P.out ?_
                rintro e w4 ⟨rfl, _, F4, hS4, _⟩
                have HS4 := Lib.hid hS4
                clear hS4 P
                go_upto_region 21 with fail
                have hB := Blk.new w4 [.int .i64 11, .int .i64 0, .int .i64 1, .int .i64 0, .int .u64 0, .int .i64 0, .int .i64 0, .int .i64 0, .int .i64 (g : Nat), .slice xa 0 xc, .int .i64 xq] 40
                have hk := (Kept.refl (fun _ => False) w4).alloc (.cells [.int .i64 11, .int .i64 0, .int .i64 1, .int .i64 0, .int .u64 0, .int .i64 0, .int .i64 0, .int .i64 0, .int .i64 (g : Nat), .slice xa 0 xc, .int .i64 xq].toArray 40)
                dsimp only [List.toArray] at hB hk
                have HS5 := Lib.hid (HS4.out.old hk)
                generalize w4.alloc (.cells #[.int .i64 11, .int .i64 0, .int .i64 1, .int .i64 0, .int .u64 0, .int .i64 0, .int .i64 0, .int .i64 0, .int .i64 (g : Nat), .slice xa 0 xc, .int .i64 xq] 40) = w5 at *
                generalize w4.heap.size = xb0 at *
                have c0 := hB.cell (o := 0) rfl
                have c3 := hB.cell (o := 3) rfl
                have c8 := hB.cell (o := 8) rfl
                clear hB hk HS4
                go_wp2_with fail
                go_roundg (i + 4 * j + 4 - (t + 1))
                case measure => have := hm.out; omega
                case rel =>
                  refine ⟨t + 1, g + 1, last, at_, t, ls, R, F4, Lib.hid (Nat.le_refl _), by omega, by go_num, by go_num, rfl, rfl, Lib.hid (by have := hg.out; have := H4.out; omega), hHR, Lib.hid ⟨by omega, by omega⟩, Lib.hid ⟨hI.out.1, hI.out.2.1, by rw [hI.out.2.2]; have := H4.out; omega⟩, ?_⟩
                  rw [show 4 * (((g + 1 : Nat)) : Int) = (t : Int) + 4 by have := H4.out; omega]
                  exact HS5
              · have hno : cr = [] ∨ (0 < cr.length ∧ cr.length ≤ 1000000 ∧ ((t : Nat) : Int) < 4 * (g : Int)) := by
                  rcases Nat.eq_zero_or_pos cr.length with h | h
                  · exact Or.inl (List.length_eq_zero_iff.1 h)
                  · exact Or.inr ⟨h, by omega, by omega⟩
                have hgn : Hid (g = min j ((t + 1 + 3) / 4)) := Lib.hid (by have := hg.out; omega)
                by_cases hz : cnt ls 8 = 0
                · have P := Lib.hid (take_empty hS.out hcl hno (by
                    cases e : top ls 8 with
                    | none => rfl
                    | some p => exact absurd (cnt_zero hz (top_some e).1) (top_some e).2.1))
                  clear hcl hS hno
                  go_wp2_with fail
                  with_reducible refine Calls.mono P.out ?_
                  rintro e w4 ⟨rfl, F4, hS4, _⟩
                  have HS4 := Lib.hid hS4
                  clear hS4 P
                  go_upto_region 21 with fail
                  have hk := (Kept.refl (fun _ => False) w4).alloc (.cells #[.int .i64 0, .int .i64 0, .int .i64 0, .int .i64 0, .int .u64 0, .int .i64 0, .int .i64 0, .int .i64 0, .int .i64 0, .slice none 0 0, .int .i64 0] 40)
                  have HS5 := Lib.hid (HS4.out.old hk)
                  try dsimp only [List.length_nil, Int.natCast_zero]
                  generalize w4.alloc (.cells #[.int .i64 0, .int .i64 0, .int .i64 0, .int .i64 0, .int .u64 0, .int .i64 0, .int .i64 0, .int .i64 0, .int .i64 0, .slice none 0 0, .int .i64 0] 40) = w5 at *
                  clear hk HS4
                  go_wp2_with fail
                  go_roundg (i + 4 * j + 4 - (t + 1))
                  case measure => have := hm.out; omega
                  case rel => exact ⟨t + 1, g, last, at_, t, ls, cr, F4, Lib.hid (Nat.le_refl _), by omega, by go_num, rfl, rfl, rfl, hgn, hcr, Lib.hid ⟨by omega, by omega⟩, Lib.hid ⟨hI.out.1, hI.out.2.1, by have := hI.out.2.2; omega⟩, HS5⟩
                · obtain ⟨p, x, R, htp, hxR⟩ := top_cnt hz
                  obtain ⟨hp8, x1, x4, hord, hs2, ho2, hc2⟩ := pop_ok hI.out.1 hI.out.2.1 htp hxR
                  have hll := len_le_cnt (ls := ls) hp8
                  have P := Lib.hid (take_frame hS.out hcl hno htp hxR (by have := hI.out.2.2; omega))
                  have HI2 : Hid (Hs (upd ls p R) i ∧ Od (upd ls p R) (p : Nat) x.f.num ∧ cnt (upd ls p R) 8 = i - (t + 1 - g)) := Lib.hid ⟨hs2, ho2, by have := hI.out.2.2; have := hg.out; omega⟩
                  clear hcl hS hno hs2 ho2 hc2 hll htp hxR hI
                  generalize upd ls p R = ls2 at *
                  obtain ⟨⟨y1, x2, x3, y4, x5, x6, x7, x8, x9, xd⟩, xa, xc, xq⟩ := x
                  simp only at x1 x4 hord HI2
                  subst x1
                  subst x4
                  have q1 : decide (last < ((p : Nat) : Int)) = false := by rw [decide_eq_false_iff_not]; omega
                  have q2 : (((p : Nat) : Int) == last) = false ∨ ((((p : Nat) : Int) == last) = true ∧ decide (x9 ≤ at_) = false) := by
                    rcases hord with h | ⟨h, h2⟩
                    · left; rw [beq_eq_false_iff_ne]; omega
                    · right; exact ⟨by rw [beq_iff_eq]; exact h, by rw [decide_eq_false_iff_not]; omega⟩
                  clear hord
                  go_wp2_with fail
                  with_reducible refine Calls.mono P.out ?_
                  rintro e w4 ⟨rfl, _, F4, hS4, _⟩
                  have HS4 := Lib.hid hS4
                  clear hS4 P hz
                  go_upto_region 21 with fail
                  have hB := Blk.new w4 [.int .i64 5, .int .i64 x2, .int .i64 x3, .int .i64 (p : Nat), .int .u64 (x5 : Int), .int .i64 x6, .int .i64 x7, .int .i64 x8, .int .i64 x9, .slice xa xd.length xc, .int .i64 xq] 40
                  have hk := (Kept.refl (fun _ => False) w4).alloc (.cells [.int .i64 5, .int .i64 x2, .int .i64 x3, .int .i64 (p : Nat), .int .u64 (x5 : Int), .int .i64 x6, .int .i64 x7, .int .i64 x8, .int .i64 x9, .slice xa xd.length xc, .int .i64 xq].toArray 40)
                  dsimp only [List.toArray] at hB hk
                  have HS5 := Lib.hid (HS4.out.old hk)
                  generalize w4.alloc (.cells #[.int .i64 5, .int .i64 x2, .int .i64 x3, .int .i64 (p : Nat), .int .u64 (x5 : Int), .int .i64 x6, .int .i64 x7, .int .i64 x8, .int .i64 x9, .slice xa xd.length xc, .int .i64 xq] 40) = w5 at *
                  generalize w4.heap.size = xb0 at *
                  have c0 := hB.cell (o := 0) rfl
                  have c3 := hB.cell (o := 3) rfl
                  have c8 := hB.cell (o := 8) rfl
                  clear hB hk HS4
                  rcases q2 with q2 | ⟨q2, q3⟩
                  all_goals
                    go_upto_region 28 with fail
                    go_quiet (fail)
                    go_wp2_with fail
                    go_roundg (i + 4 * j + 4 - (t + 1))
                    case measure => have := hm.out; omega
                    case rel => exact ⟨t + 1, g, (p : Nat), x9, t, ls2, cr, F4, Lib.hid (Nat.le_refl _), by omega, by go_num, rfl, rfl, rfl, hgn, hcr, Lib.hid ⟨by omega, by omega⟩, HI2, Lib.hid (HS5.out.old ((Kept.refl _ _).drewN _))⟩
            · have hge' : ¬ ((t : Int) < (i : Int) + 4 * (j : Int) + 4) := by omega
              have hgj : g = j := by have := hg.out; omega
              subst hgj
              obtain rfl : cr = [] := List.length_eq_zero_iff.1 (by omega)
              have hz : cnt ls 8 = 0 := by have := hI.out.2.2; omega
              have WA := waiting_any hS.out (by rw [acc_zero hz]; exact Nat.zero_le _)
              rw [acc_zero hz] at WA
              have WA := Lib.hid WA
              have HSo := Lib.hid hS.out.since
              clear hm hge hlen hI hS hcr hnw hz hg
              go_wp2_with fail
              with_reducible refine Calls.mono WA.out ?_
              rintro e w5 ⟨v', W, rfl, hrow, hky, _, hk5⟩
              obtain rfl : W = [] := by cases W with
                | nil => rfl
                | cons _ _ => simp at hky
              obtain ⟨av, cv, e, _⟩ := hrow.slice
              subst e
              have HO5 := Lib.hid (HSo.out.trans hk5)
              clear hrow hky hk5 WA HSo
              go_wp2_with fail
              with_reducible refine Calls.mono (HC.out _) ?_
              rintro e w7 ⟨rfl, ho⟩
              have HO : Hid (Old w w7) := Lib.hid (HO5.out.trans ho)
              clear ho HO5
              go_wp2_with fail
              go_ret
              exact ⟨rfl, HO.out⟩
theorem walk (a0 : List Int) (s0 : Option Addr) (cap0 : Nat) (a1 : Int) (w : World) (w0 : Ints w s0 cap0 a0) (w1 : (Lit.int .i64 a1).wf = true) :
    Calls Try.prog 4 #[.slice s0 a0.length cap0, .int .i64 a1] w fun e w' => e = .returned (.bool true) ∧ Old w w' := by
  by_cases h : a0.length ≤ 60 ∧ 0 ≤ a1 ∧ a1 ≤ 20
  · obtain ⟨C, rfl⟩ := Int.eq_ofNat_of_zero_le h.2.1
    exact late a0 s0 cap0 C w w0 h.1 (by omega)
  · exact early a0 s0 cap0 a1 w h
set_option maxRecDepth 100000 in
set_option maxHeartbeats 1000000 in
theorem lifted (os : Os) (started : os.Started) (H : Type) (enc : TypeId × Value → H) :
    ReturnsInHanded {} Try.checked os 4 .any (Rows.portHighestSpec.pre6 enc Try.prog Try.f4 Rows.portHighestRow.domain false) (Rows.portHighestSpec.post enc Try.prog Try.f4 false true false false) := by
  refine returnsInHanded_of_change (C := Try.checked) own started (by kernel_rfl) Try.func4
    (ChangeSpec.witness6 (enc := enc) (C := Try.checked) false ⟨#[], #[.slice none 0 0, .int .i64 0], []⟩ 8 (by kernel_rfl) (by kernel_rfl) (by kernel_rfl) (by kernel_rfl)) ?_
  intro W base args ds gs before hval0 hW hcnd _
  have hval : ∀ (j : Nat) t v, Try.f4.params[j]? = some t → args[j]? = some v → Value.okWide Try.prog W .any base t v := hval0
  have hW' := hW
  obtain ⟨p, q, hA0, hV, rfl, hfz, hnd⟩ := hW
  have hA : DataW.TrodAll enc Try.prog W 0 (fun _ => true) true Try.f4.params.toList args.toList ds p := hA0
  rw [Try.params4] at hA hval
  obtain ⟨v0, vs0, d0, ds0, p0, q0, hargs, rfl, rfl, h0, r0⟩ := trodAll_cons hA
  obtain ⟨v1, vs1, d1, ds1, p1, q1, rfl, rfl, rfl, h1, r1⟩ := trodAll_cons r0
  obtain ⟨rfl, rfl, rfl⟩ := trodAll_nil r1
  obtain rfl : args = #[v0, v1] := by cases args; simp_all
  obtain ⟨rfl, rfl⟩ := trodVars_none hV
  obtain ⟨s0, cap0, a0, rfl, w0⟩ := Opn.ints_of Try.underlying53 Try.underlying3 (by kernel_rfl) (hval 0 53 v0 rfl rfl) h0
  obtain ⟨a1, rfl, rfl, rfl, w1⟩ := open_int Try.underlying3 (hval 1 3 v1 rfl rfl) h1
  clear hA0 hval0
  refine (walk a0 s0 cap0 a1 W w0 w1).mono fun e W' ⟨he, hg⟩ => ?_
  subst he
  exact ⟨_, rfl, post_of_old hW' (fun _ _ _ => (trodAll_cons_mk (shut_bool Try.underlying4 _) trodAll_mk0)) (fun sp hsp => (trodAll_cons_mk (Opn.back (by kernel_rfl) (of_decide_eq_true (by kernel_rfl)) h0 hg (fun x hx => hW'.lt x (by simp [hx])) (fun x hx => hsp x (by simp [hx]))) (trodAll_cons_mk (shut_int Try.underlying3 w1) trodAll_mk0))) (fun _ _ => rfl)
    hg (ok_one (by kernel_rfl) rfl (okWide_bool_mk Try.underlying4 _))⟩
theorem over : Rows.portHighestRow.holds Try.pinned (OpenSpec.ofChange Rows.portHighestSpec) :=
  OpenClaim.holds_of_wide 4 Try.f4 rfl rfl rfl rfl rfl rfl rfl ⟨rfl, rfl, rfl, rfl, rfl⟩ rfl rfl rfl rfl rfl (by kernel_rfl) Try.func4 (by kernel_rfl)
    (of_decide_eq_true (by kernel_rfl)) (by unfold Func.isWrapper; first | (rw [if_pos (by decide +kernel)]; kernel_rfl) | (rw [if_neg (by decide +kernel)]; exact ⟨rfl, rfl⟩))
    (fun os started H enc _ => lifted os started H enc)
theorem proved : Rows.PortHighestSaid :=
  over
#print axioms proved
end Go.Proofs.Ytlgcbggffhlhmaa.portHighest
