/- PortCredits (mizzenlaw13): for every three ints the law returns true (so many credits wait and not one more; they go ahead of all, one in four ticks, and take no room of the lines) and its arguments read as before. Conditions: none beyond the model's. -/
import Derived.Test.YtlgcbggffhlhmaaRows
import Derived.Test.YtlgcbggffhlhmaaEnd
import Derived.Test.YtlgcbggffhlhmaaInts
import Derived.WalkKit
import Derived.ProofKit
import Derived.OpenShut
import Derived.Test.YtlgcbggffhlhmaaPoNil
set_option linter.unusedVariables false
namespace Go.Proofs.Ytlgcbggffhlhmaa.portCredits
open Go.ChangeShapes Go.WideShapes Go.ChangeAt Go.RowKit Go.Proofs.Ytlgcbggffhlhmaa.Hp Go.Proofs.Ytlgcbggffhlhmaa.End
open Go.Proofs.Ytlgcbggffhlhmaa.Po Go.Proofs.Ytlgcbggffhlhmaa.Qu QuM
theorem own : ownKnob Try.prog.godebug = none := by kernel_rfl
attribute [local go_sem ↓] Go.wp_at_zero Go.wp_at_succ
set_option maxRecDepth 100000 in
set_option maxHeartbeats 4000000 in
theorem early (M n T : Int) (w : World) (h : ¬ (0 ≤ M ∧ M ≤ 30 ∧ 0 ≤ n ∧ n ≤ 60 ∧ 0 ≤ T ∧ T ≤ 200)) :
    Calls Try.prog 7 #[.int .i64 M, .int .i64 n, .int .i64 T] w fun e w' => e = .returned (.bool true) ∧ Old w w' := by
  have HC := Lib.hid fun w => awake_any w
  have hc : M < 0 ∨ (decide (M < 0) = false ∧ 30 < M) ∨ (decide (M < 0) = false ∧ decide (30 < M) = false ∧ n < 0) ∨ (decide (M < 0) = false ∧ decide (30 < M) = false ∧ decide (n < 0) = false ∧ 60 < n) ∨ (decide (M < 0) = false ∧ decide (30 < M) = false ∧ decide (n < 0) = false ∧ decide (60 < n) = false ∧ T < 0) ∨ (decide (M < 0) = false ∧ decide (30 < M) = false ∧ decide (n < 0) = false ∧ decide (60 < n) = false ∧ decide (T < 0) = false ∧ 200 < T) := by
    simp only [decide_eq_false_iff_not]; omega
  clear h
  rcases hc with h1 | ⟨h1, h2⟩ | ⟨h1, h2, h3⟩ | ⟨h1, h2, h3, h4⟩ | ⟨h1, h2, h3, h4, h5⟩ | ⟨h1, h2, h3, h4, h5, h6⟩
  all_goals
    go_enter Try.func7, Try.ntmps7
    go_wp2_with fail
    with_reducible refine Calls.mono (HC.out _) ?_
    rintro e w' ⟨rfl, ho⟩
    go_wp2_with fail
    go_ret
    exact ⟨rfl, ho⟩
/-- A credit of that number. -/
abbrev cF (i : Int) : WrM.Frm := ⟨11, 0, 1, 0, 0, 0, 0, 0, i, []⟩
def crF (k m : Nat) : List WrM.Frm := (List.range' k m).map fun (j : Nat) => cF (j : Int)
theorem crF_cons (k m : Nat) : crF k (m + 1) = cF (k : Int) :: crF (k + 1) m := by unfold crF; rw [List.range'_succ, List.map_cons]
theorem crF_snoc (k m : Nat) : crF k (m + 1) = crF k m ++ [cF ((k + m : Nat) : Int)] := by unfold crF; rw [List.range'_concat, List.map_append, Nat.one_mul]; rfl
theorem crF_len (k m : Nat) : (crF k m).length = m := by unfold crF; rw [List.length_map, List.length_range']
abbrev l7 (L : List Bx) : Nat → List Bx := upd (fun _ => []) 7 L
theorem l7_nil : (fun _ => [] : Nat → List Bx) = l7 [] := by funext j; by_cases e : j = 7 <;> simp [l7, upd, e]
theorem top_l7 (x : Bx) (R : List Bx) : top (l7 (x :: R)) 8 = some 7 := by simp [top, l7, upd]
theorem top_l7n : top (l7 []) 8 = none := by simp [top, l7, upd]
/-- The ack. -/
abbrev aF : WrM.Frm := ⟨5, 0, 1, 7, 0, 0, 0, 0, 0, []⟩
theorem sane_of {x : Bx} (h : x.f.kind ≠ 1) : Sane x := by
  unfold Sane Wr.dl
  rw [if_neg h]
  decide
set_option maxRecDepth 100000 in
set_option maxHeartbeats 8000000 in
theorem late (M n T : Nat) (w : World) (g1 : M ≤ 30) (g2 : n ≤ 60) (g3 : T ≤ 200) :
    Calls Try.prog 7 #[.int .i64 (M : Nat), .int .i64 (n : Nat), .int .i64 (T : Nat)] w fun e w' => e = .returned (.bool true) ∧ Old w w' := by
  have HC := Lib.hid fun w => awake_any w
  have N := Lib.hid fun w => pnew_yes (room := 52) (most := (M : Nat)) (by decide) (by decide) (by omega) (by omega) true w
  have h2 : decide ((30 : Int) < (M : Int)) = false := by rw [decide_eq_false_iff_not]; omega
  have h4 : decide ((60 : Int) < (n : Int)) = false := by rw [decide_eq_false_iff_not]; omega
  have h6 : decide ((200 : Int) < (T : Int)) = false := by rw [decide_eq_false_iff_not]; omega
  go_enter Try.func7, Try.ntmps7
  go_wp2_with fail
  with_reducible refine Calls.mono (N.out _) ?_
  rintro e w2 ⟨b, F, rfl, hS, _⟩
  have HS := Lib.hid hS
  clear hS N
  go_wp2_with fail
  clear h2 h4 h6
  go_loopg [9] n (fun kx s9 wr => ∃ (i : Nat) (cr : List Bx) (F : Nat → Prop), Hid (n - i ≤ kx) ∧ i ≤ n ∧ s9 = .int .i64 (i : Nat) ∧ Hid (cr.map (·.f) = crF 0 (min i M)) ∧ Hid (PS w b 52 (M : Nat) true (fun _ => []) cr 0 0 F wr))
  case atStart => exact ⟨0, [], F, Lib.hid (by omega), by omega, rfl, Lib.hid (by rw [Nat.zero_min]; rfl), HS⟩
  case round =>
    clear HS
    obtain ⟨i, cr, F, hm, hi, rfl, hcr, hS⟩ := hrel
    have hlen : cr.length = min i M := by have := congrArg List.length hcr.out; rwa [List.length_map, crF_len] at this
    rcases Nat.lt_or_ge i n with hlt | hge
    · have hlt' : (i : Int) < (n : Int) := by omega
      by_cases hM : i < M
      · have g5 : ¬ ((M : Int) ≤ (i : Int)) := by omega
        have P := Lib.hid (put_cy hS.out (x := ⟨cF i, none, 0, 0⟩) (rd_none _ rfl rfl rfl) (sane_of (show (11 : Int) ≠ 1 by decide)) rfl (by rw [hlen]; omega) (by rw [hlen]; omega))
        go_wp2_with fail
        with_reducible refine Calls.mono P.out ?_
        rintro e w3 ⟨rfl, s, c, F3, hS3, _⟩
        have HS3 := Lib.hid hS3
        have HCR : Hid ((cr ++ [(⟨cF (i : Nat), s, c, 0⟩ : Bx)]).map (·.f) = crF 0 (min (i + 1) M)) := Lib.hid (by
          rw [List.map_append, hcr.out, show min i M = i by omega, show min (i + 1) M = i + 1 by omega, crF_snoc, Nat.zero_add]; rfl)
        clear hS3 P hS hcr hlen
        go_wp2_with fail
        go_roundg (n - (i + 1))
        case measure => have := hm.out; omega
        case rel => exact ⟨i + 1, _, F3, Lib.hid (Nat.le_refl _), by omega, by go_num, HCR, HS3⟩
      · have g5 : (M : Int) ≤ (i : Int) := by omega
        have P := Lib.hid (put_cn hS.out (x := ⟨cF i, none, 0, 0⟩) (rd_none _ rfl rfl rfl) (sane_of (show (11 : Int) ≠ 1 by decide)) rfl (by rw [hlen]; omega))
        go_wp2_with fail
        with_reducible refine Calls.mono P.out ?_
        rintro e w3 ⟨rfl, hk3⟩
        have HS3 := Lib.hid (hS.out.old hk3)
        have HCR : Hid (cr.map (·.f) = crF 0 (min (i + 1) M)) := Lib.hid (by rw [hcr.out, show min i M = min (i + 1) M by omega])
        clear hk3 P hS hcr hlen
        go_wp2_with fail
        go_roundg (n - (i + 1))
        case measure => have := hm.out; omega
        case rel => exact ⟨i + 1, _, F, Lib.hid (Nat.le_refl _), by omega, by go_num, HCR, HS3⟩
    · have hge' : ¬ ((i : Int) < (n : Int)) := by omega
      obtain rfl : i = n := by omega
      have P := Lib.hid (put_fy hS.out (x := ⟨aF, none, 0, 0⟩) (rd_none _ rfl rfl rfl) (sane_of (show (5 : Int) ≠ 1 by decide)) (show (5 : Int) ≠ 11 by decide) (p := 7) (by decide) (by decide) (by decide))
      obtain ⟨H, hH⟩ : ∃ H, min i M = H := ⟨_, rfl⟩
      rw [hH] at hcr hlen
      have hmn : ∀ (ts : Array TypeId) (t : TypeId) (w : World), (Builtin.min_ ts t #[.int .i64 (i : Nat), .int .i64 (M : Nat)]).run Try.prog w = .ok (.int .i64 (H : Nat)) w := by
        intro ts t w
        rw [run_min_int2]
        congr 2
        split <;> omega
      have hH30 : H ≤ 30 := by omega
      go_wp2_with fail
      with_reducible refine Calls.mono P.out ?_
      rintro e w3 ⟨rfl, s, c, F3, hS3, _⟩
      have HS3 : Hid (PS w b 52 (M : Nat) true (l7 [⟨aF, s, c, 0⟩]) cr 0 0 F3 w3) := Lib.hid hS3
      clear hS3 P hS
      go_wp2_with fail
      clear hmn
      go_loopg [13, 14, 15] T (fun kx s13 s14 s15 wr => ∃ (t g A : Nat) (nw : Int) (L cr : List Bx) (F : Nat → Prop), Hid (T - t ≤ kx) ∧ t ≤ T ∧ s15 = .int .i64 (t : Nat) ∧ s13 = .int .i64 (g : Nat) ∧ s14 = .int .i64 (A : Nat) ∧ Hid (g = min H ((t + 3) / 4)) ∧ Hid (cr.map (·.f) = crF g (H - g)) ∧ Hid (0 ≤ nw ∧ nw ≤ t) ∧
        Hid ((A = 0 ∧ (∃ s c, L = [(⟨aF, s, c, 0⟩ : Bx)]) ∧ ¬ (2 ≤ t ∨ (1 ≤ t ∧ H = 0))) ∨ (A = 1 ∧ L = [] ∧ (2 ≤ t ∨ (1 ≤ t ∧ H = 0)))) ∧ Hid (PS w b 52 (M : Nat) true (l7 L) cr nw (4 * (g : Int)) F wr))
      case atStart => exact ⟨0, 0, 0, 0, _, cr, F3, Lib.hid (by omega), by omega, rfl, rfl, rfl, Lib.hid (by omega), hcr, Lib.hid ⟨by decide, by decide⟩, Lib.hid (Or.inl ⟨rfl, ⟨s, c, rfl⟩, by omega⟩), HS3⟩
      case round =>
        clear HS3 hcr hlen hge hge' hm hH
        obtain ⟨t, g, A, nw, L, cr, F, hm, ht, rfl, rfl, rfl, hg, hcr, hnw, hA, hS⟩ := hrel
        have hlen : cr.length = H - g := by have := congrArg List.length hcr.out; rwa [List.length_map, crF_len] at this
        have hgb : g ≤ 30 := by have := hg.out; omega
        rcases Nat.lt_or_ge t T with hlt | hge
        · have hlt' : (t : Int) < (T : Int) := by omega
          have hcl : NumM.clampI ((t : Nat) : Int) nw 1125899906842624 = ((t : Nat) : Int) := NumM.clampI_in hnw.out.2 (by omega)
          by_cases hgo : g < H ∧ 4 * g ≤ t
          · obtain ⟨x, R, hxR⟩ : ∃ x R, cr = x :: R := by
              cases cr with
              | nil => simp at hlen; omega
              | cons x R => exact ⟨x, R, rfl⟩
            subst hxR
            have hcr2 := hcr.out
            obtain ⟨q, hq⟩ : ∃ q, H - g = q + 1 := ⟨H - g - 1, by omega⟩
            rw [hq, crF_cons, List.map_cons] at hcr2
            obtain ⟨hx, hR⟩ := List.cons.inj hcr2
            have hHR : Hid (R.map (·.f) = crF (g + 1) (H - (g + 1))) := Lib.hid (by rw [hR, show H - (g + 1) = q by omega])
            obtain ⟨xf, xa, xc, xq⟩ := x
            simp only at hx
            subst hx
            have P := Lib.hid (take_credit hS.out hcl (by rw [hlen]; omega) (by omega))
            have hrem : ((t : Nat) : Int).tmod 4 = 0 := by
              have h4 : t % 4 = 0 := by have := hg.out; omega
              have h5 : ((t : Nat) : Int).tmod 4 = ((t % 4 : Nat) : Int) := (Int.ofNat_tmod _ _).symm
              rw [h5, h4]; rfl
            clear hcl hcr2 hR hS hcr hlen
            go_wp2_with fail
            with_reducible refine Calls.mono P.out ?_
            rintro e w4 ⟨rfl, _, F4, hS4, _⟩
            have HS4 := Lib.hid hS4
            clear hS4 P
            go_upto_block 4 with fail
            have hB := Blk.new w4 [.int .i64 11, .int .i64 0, .int .i64 1, .int .i64 0, .int .u64 0, .int .i64 0, .int .i64 0, .int .i64 0, .int .i64 (g : Nat), .slice xa 0 xc, .int .i64 xq] 40
            have hk := (Kept.refl (fun _ => False) w4).alloc (.cells [.int .i64 11, .int .i64 0, .int .i64 1, .int .i64 0, .int .u64 0, .int .i64 0, .int .i64 0, .int .i64 0, .int .i64 (g : Nat), .slice xa 0 xc, .int .i64 xq].toArray 40)
            dsimp only [List.toArray] at hB hk
            have HS5 := Lib.hid (HS4.out.old hk)
            generalize w4.alloc (.cells #[.int .i64 11, .int .i64 0, .int .i64 1, .int .i64 0, .int .u64 0, .int .i64 0, .int .i64 0, .int .i64 0, .int .i64 (g : Nat), .slice xa 0 xc, .int .i64 xq] 40) = w5 at *
            generalize w4.heap.size = xb0 at *
            have c0 := hB.cell (o := 0) rfl
            have c8 := hB.cell (o := 8) rfl
            clear hB hk HS4
            go_wp2_with fail
            go_roundg (T - (t + 1))
            case measure => have := hm.out; omega
            case rel =>
              refine ⟨t + 1, g + 1, A, t, L, R, F4, Lib.hid (Nat.le_refl _), by omega, by go_num, by go_num, rfl, Lib.hid (by have := hg.out; omega), hHR, Lib.hid ⟨by omega, by omega⟩, Lib.hid ?_, ?_⟩
              · rcases hA.out with ⟨h1, h2, h3⟩ | ⟨h1, h2, h3⟩
                · exact Or.inl ⟨h1, h2, by have := hg.out; omega⟩
                · exact Or.inr ⟨h1, h2, by omega⟩
              · rw [show 4 * (((g + 1 : Nat)) : Int) = (t : Int) + 4 by have := hg.out; omega]; exact HS5
          · have hno : cr = [] ∨ (0 < cr.length ∧ cr.length ≤ 1000000 ∧ ((t : Nat) : Int) < 4 * (g : Int)) := by
              rcases Nat.eq_zero_or_pos cr.length with h | h
              · exact Or.inl (List.length_eq_zero_iff.1 h)
              · exact Or.inr ⟨h, by omega, by omega⟩
            have hgn : Hid (g = min H ((t + 1 + 3) / 4)) := Lib.hid (by have := hg.out; omega)
            rcases hA.out with ⟨rfl, ⟨s, c, rfl⟩, h3⟩ | ⟨rfl, rfl, h3⟩
            · have P := Lib.hid (take_frame hS.out hcl hno (top_l7 _ _) (x := ⟨aF, s, c, 0⟩) (R := []) (upd_self _ _ _) (by rw [show l7 [(⟨aF, s, c, 0⟩ : Bx)] 7 = [⟨aF, s, c, 0⟩] from upd_self _ _ _]; simp))
              clear hcl hS hno
              go_wp2_with fail
              with_reducible refine Calls.mono P.out ?_
              rintro e w4 ⟨rfl, _, F4, hS4, _⟩
              rw [show upd (l7 [(⟨aF, s, c, 0⟩ : Bx)]) 7 [] = l7 [] from upd_upd _ _ _ _] at hS4
              have HS4 := Lib.hid hS4
              clear hS4 P
              go_upto_block 4 with fail
              have hB := Blk.new w4 [.int .i64 5, .int .i64 0, .int .i64 1, .int .i64 7, .int .u64 0, .int .i64 0, .int .i64 0, .int .i64 0, .int .i64 0, .slice s 0 c, .int .i64 0] 40
              have hk := (Kept.refl (fun _ => False) w4).alloc (.cells [.int .i64 5, .int .i64 0, .int .i64 1, .int .i64 7, .int .u64 0, .int .i64 0, .int .i64 0, .int .i64 0, .int .i64 0, .slice s 0 c, .int .i64 0].toArray 40)
              dsimp only [List.toArray] at hB hk
              have HS5 := Lib.hid (HS4.out.old hk)
              generalize w4.alloc (.cells #[.int .i64 5, .int .i64 0, .int .i64 1, .int .i64 7, .int .u64 0, .int .i64 0, .int .i64 0, .int .i64 0, .int .i64 0, .slice s 0 c, .int .i64 0] 40) = w5 at *
              generalize w4.heap.size = xb0 at *
              have c0 := hB.cell (o := 0) rfl
              have c8 := hB.cell (o := 8) rfl
              clear hB hk HS4
              go_wp2_with fail
              go_roundg (T - (t + 1))
              case measure => have := hm.out; omega
              case rel => exact ⟨t + 1, g, 1, t, [], cr, F4, Lib.hid (Nat.le_refl _), by omega, by go_num, rfl, rfl, hgn, hcr, Lib.hid ⟨by omega, by omega⟩, Lib.hid (Or.inr ⟨rfl, rfl, by have := hg.out; omega⟩), HS5⟩
            · have P := Lib.hid (take_empty hS.out hcl hno top_l7n)
              clear hcl hS hno
              go_wp2_with fail
              with_reducible refine Calls.mono P.out ?_
              rintro e w4 ⟨rfl, F4, hS4, _⟩
              have HS4 := Lib.hid hS4
              clear hS4 P
              go_upto_block 4 with fail
              have hk := (Kept.refl (fun _ => False) w4).alloc (.cells #[.int .i64 0, .int .i64 0, .int .i64 0, .int .i64 0, .int .u64 0, .int .i64 0, .int .i64 0, .int .i64 0, .int .i64 0, .slice none 0 0, .int .i64 0] 40)
              have HS5 := Lib.hid (HS4.out.old hk)
              try dsimp only [List.length_nil, Int.natCast_zero]
              generalize w4.alloc (.cells #[.int .i64 0, .int .i64 0, .int .i64 0, .int .i64 0, .int .u64 0, .int .i64 0, .int .i64 0, .int .i64 0, .int .i64 0, .slice none 0 0, .int .i64 0] 40) = w5 at *
              clear hk HS4
              go_wp2_with fail
              go_roundg (T - (t + 1))
              case measure => have := hm.out; omega
              case rel => exact ⟨t + 1, g, 1, t, [], cr, F4, Lib.hid (Nat.le_refl _), by omega, by go_num, rfl, rfl, hgn, hcr, Lib.hid ⟨by omega, by omega⟩, Lib.hid (Or.inr ⟨rfl, rfl, by omega⟩), HS5⟩
        · have hge' : ¬ ((t : Int) < (T : Int)) := by omega
          obtain rfl : t = T := by omega
          have hA1 : A ≤ 1 ∧ (2 ≤ t → A = 1) := by rcases hA.out with ⟨rfl, _, h3⟩ | ⟨rfl, _, h3⟩ <;> omega
          have hmn : ∀ (ts : Array TypeId) (ty : TypeId) (w : World), (Builtin.min_ ts ty #[.int .i64 (H : Nat), .int .i64 ((((t : Nat) : Int) + 3) / 4)]).run Try.prog w = .ok (.int .i64 (g : Nat)) w := by
            intro ts ty w
            rw [run_min_int2]
            congr 2
            have h5 := hg.out
            have h6 : (((t : Nat) : Int) + 3) / 4 = (((t + 3) / 4 : Nat) : Int) := by omega
            rw [h6]
            split <;> omega
          have CR := credits_any hS.out (by omega)
          rw [hlen, show ((H - g : Nat) : Int) = (H : Int) - (g : Int) by have := hg.out; omega] at CR
          have CR := Lib.hid CR
          have HSo := Lib.hid hS.out.since
          have hgH : g ≤ H := by have := hg.out; omega
          have e1 : ((g : Int) == (H : Int) - ((H : Int) - (g : Int))) = true := by rw [beq_iff_eq]; omega
          have e2 : ((A : Int) ≤ 1) := by omega
          have e3 : (2 ≤ t ∧ A = 1) ∨ ((t : Int) < 2) := by omega
          clear hlen hA1 hge hm hcr hnw hA hS hg hgH
          rcases e3 with ⟨e4, rfl⟩ | e4
          all_goals
            go_wp2_with fail
            with_reducible refine Calls.mono CR.out ?_
            rintro e w7 ⟨rfl, rfl⟩
            go_wp2_with fail
            with_reducible refine Calls.mono (HC.out _) ?_
            rintro e w7 ⟨rfl, ho⟩
            have HO : Hid (Old w w7) := Lib.hid (HSo.out.trans ho)
            clear ho
            go_wp2_with fail
            go_ret
            exact ⟨rfl, HO.out⟩
theorem walk (a0 a1 a2 : Int) (w : World) (w0 : (Lit.int .i64 a0).wf = true) (w1 : (Lit.int .i64 a1).wf = true) (w2 : (Lit.int .i64 a2).wf = true) :
    Calls Try.prog 7 #[.int .i64 a0, .int .i64 a1, .int .i64 a2] w fun e w' => e = .returned (.bool true) ∧ Old w w' := by
  by_cases h : 0 ≤ a0 ∧ a0 ≤ 30 ∧ 0 ≤ a1 ∧ a1 ≤ 60 ∧ 0 ≤ a2 ∧ a2 ≤ 200
  · obtain ⟨M, rfl⟩ := Int.eq_ofNat_of_zero_le h.1
    obtain ⟨n, rfl⟩ := Int.eq_ofNat_of_zero_le h.2.2.1
    obtain ⟨T, rfl⟩ := Int.eq_ofNat_of_zero_le h.2.2.2.2.1
    exact late M n T w (by omega) (by omega) (by omega)
  · exact early a0 a1 a2 w h
set_option maxRecDepth 100000 in
set_option maxHeartbeats 1000000 in
theorem lifted (os : Os) (started : os.Started) (H : Type) (enc : TypeId × Value → H) :
    ReturnsInHanded {} Try.checked os 7 .any (Rows.portCreditsSpec.pre6 enc Try.prog Try.f7 Rows.portCreditsRow.domain false) (Rows.portCreditsSpec.post enc Try.prog Try.f7 false true false false) := by
  refine returnsInHanded_of_change (C := Try.checked) own started (by kernel_rfl) Try.func7
    (ChangeSpec.witness6 (enc := enc) (C := Try.checked) false ⟨#[], #[.int .i64 0, .int .i64 0, .int .i64 0], []⟩ 8 (by kernel_rfl) (by kernel_rfl) (by kernel_rfl) (by kernel_rfl)) ?_
  intro W base args ds gs before hval0 hW hcnd _
  have hval : ∀ (j : Nat) t v, Try.f7.params[j]? = some t → args[j]? = some v → Value.okWide Try.prog W .any base t v := hval0
  have hW' := hW
  obtain ⟨p, q, hA0, hV, rfl, hfz, hnd⟩ := hW
  have hA : DataW.TrodAll enc Try.prog W 0 (fun _ => true) true Try.f7.params.toList args.toList ds p := hA0
  rw [Try.params7] at hA hval
  obtain ⟨v0, vs0, d0, ds0, p0, q0, hargs, rfl, rfl, h0, r0⟩ := trodAll_cons hA
  obtain ⟨v1, vs1, d1, ds1, p1, q1, rfl, rfl, rfl, h1, r1⟩ := trodAll_cons r0
  obtain ⟨v2, vs2, d2, ds2, p2, q2, rfl, rfl, rfl, h2, r2⟩ := trodAll_cons r1
  obtain ⟨rfl, rfl, rfl⟩ := trodAll_nil r2
  obtain rfl : args = #[v0, v1, v2] := by cases args; simp_all
  obtain ⟨rfl, rfl⟩ := trodVars_none hV
  obtain ⟨a0, rfl, rfl, rfl, w0⟩ := open_int Try.underlying3 (hval 0 3 v0 rfl rfl) h0
  obtain ⟨a1, rfl, rfl, rfl, w1⟩ := open_int Try.underlying3 (hval 1 3 v1 rfl rfl) h1
  obtain ⟨a2, rfl, rfl, rfl, w2⟩ := open_int Try.underlying3 (hval 2 3 v2 rfl rfl) h2
  clear hA0 hval0
  simp only [List.append_nil] at hW'
  refine (walk a0 a1 a2 W w0 w1 w2).mono fun e W' ⟨he, hg⟩ => ?_
  subst he
  exact ⟨_, rfl, post_of_old (pa := []) (pv := []) hW' (fun _ _ _ => (trodAll_cons_mk (shut_bool Try.underlying4 _) trodAll_mk0)) (fun sp _ => (trodAll_cons_mk (shut_int Try.underlying3 w0) (trodAll_cons_mk (shut_int Try.underlying3 w1) (trodAll_cons_mk (shut_int Try.underlying3 w2) trodAll_mk0)))) (fun _ _ => rfl)
    hg (ok_one (by kernel_rfl) rfl (okWide_bool_mk Try.underlying4 _))⟩
theorem over : Rows.portCreditsRow.holds Try.pinned (OpenSpec.ofChange Rows.portCreditsSpec) :=
  OpenClaim.holds_of_wide 7 Try.f7 rfl rfl rfl rfl rfl rfl rfl ⟨rfl, rfl, rfl, rfl, rfl⟩ rfl rfl rfl rfl rfl (by kernel_rfl) Try.func7 (by kernel_rfl)
    (of_decide_eq_true (by kernel_rfl)) (by unfold Func.isWrapper; first | (rw [if_pos (by decide +kernel)]; kernel_rfl) | (rw [if_neg (by decide +kernel)]; exact ⟨rfl, rfl⟩))
    (fun os started H enc _ => lifted os started H enc)
theorem proved : Rows.PortCreditsSaid :=
  over
#print axioms proved
end Go.Proofs.Ytlgcbggffhlhmaa.portCredits
