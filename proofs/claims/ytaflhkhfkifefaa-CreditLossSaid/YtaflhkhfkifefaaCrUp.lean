/- A credit rate of the program: rise, fall, Update. Conditions: each theorem's own. -/
import Derived.Test.YtaflhkhfkifefaaCr
set_option linter.unusedVariables false
namespace Go.Proofs.Ytaflhkhfkifefaa.Cr
open Go.RowKit Hp NumM NumC CrM
attribute [local go_sem ↓] Go.wp_at_zero Go.wp_at_succ
/-- How it lies behind a rise, or a fall, and ahead of being held within its limits. -/
def PQ (w : World) (b : Nat) (M T R A : Int) (k : Nat) : Prop := Blk w b [.int .i64 M, .int .i64 T, .int .i64 R, .int .i64 A, .int .i64 (k : Nat)] 54
set_option maxHeartbeats 2000000 in
theorem fall_any {w : World} {b : Nat} {M T g : Int} {x : St} (h : PR w b M T x) (o : Ok M T x) (g0 : 0 ≤ g) (g1 : g ≤ 65536) :
    Calls Try.prog 24 #[.pointer (some ⟨b, 0, none⟩), .int .i64 g] w fun e w' => e = .returned (.tuple #[]) ∧ PQ w' b M T (rDn T x.R g) (x.A / 2) 0 ∧ Kept (fun k => k = b) w w' := by
  have c1 := h.cell (o := 1) rfl
  have c2 := h.cell (o := 2) rfl
  have f2 := h.frozen 2
  have hbl := h.lt
  have t0 := o.t0
  have t1 := o.t1
  have a0 := o.a0
  have a1 := o.a1
  have HB := Lib.hid h
  clear h o
  obtain ⟨R, A, k⟩ := x
  dsimp only at *
  unfold rDn
  have B1 := Lib.hid fun w => by_any R (65536 - g) w
  have P1 := plus_any 65536 T
  have e1 : addI 65536 T = 65536 + T := by unfold addI; rw [show hold 65536 = 65536 from by decide, hold_in t0 (by omega), hold_in (show 0 ≤ 65536 + T by omega) (by omega)]
  rw [e1] at P1
  have P1 := Lib.hid P1
  clear e1
  have hw : IntKind.i64.wrap (65536 - g) = 65536 - g := by rw [IntKind.wrap_i64]; omega
  generalize fixI R (65536 - g) = u at *
  have hV0 : 0 ≤ 65536 + T := by omega
  generalize 65536 + T = v at *
  have B2 := Lib.hid fun w => by_any u v w
  generalize fixI u v = z at *
  go_enter Try.func24, Try.ntmps24
  go_upto_region 0 with fail
  go_cut [] (fun wx => Blk wx b [.int .i64 M, .int .i64 T, .int .i64 z, .int .i64 A, .int .i64 (k : Nat)] 54 ∧ Kept (fun k => k = b) w wx)
  case first =>
    go_region_with (first | (go_at_call 32; first | (with_reducible refine Calls.mono (B1.out _) ?_; rintro e w' ⟨rfl, rfl⟩) | (with_reducible refine Calls.mono (B2.out _) ?_; rintro e w' ⟨rfl, rfl⟩)) | (go_at_call 31; with_reducible refine Calls.mono (P1.out _) ?_; rintro e w' ⟨rfl, rfl⟩))
    all_goals
      go_wp2_with fail
      go_meet
      exact ⟨(HB.out.set 2 (.int .i64 z)).drew, (Kept.one w b 2 _).drew⟩
  case rest =>
    obtain ⟨hx, hk⟩ := hcut
    clear c1 c2 f2 HB B1 B2 P1 hbl
    have HX := Lib.hid hx
    have HK := Lib.hid hk
    have c3 := hx.cell (o := 3) rfl
    have f3 := hx.frozen 3
    have hbl := hx.lt
    have c4 := hx.cell (o := 4) rfl
    have f4 := hx.frozen 4
    clear hx hk
    go_wp2_with fail
    go_end0
    exact ⟨rfl, (HX.out.set 3 (.int .i64 (A / 2))).set 4 (.int .i64 0), (HK.out.set (fun _ => rfl) 3 _).set (fun _ => rfl) 4 _⟩
set_option maxHeartbeats 16000000 in
theorem rise_any {w : World} {b : Nat} {M T : Int} {x : St} (h : PR w b M T x) (o : Ok M T x) (hk : x.k ≤ 1000000) :
    Calls Try.prog 23 #[.pointer (some ⟨b, 0, none⟩)] w fun e w' => e = .returned (.tuple #[]) ∧ PQ w' b M T (rUp M x.R (aUp x.A x.k)) (aUp x.A x.k) (x.k + 1) ∧ Kept (fun k => k = b) w w' := by
  have a0 := o.a0
  have a1 := o.a1
  have hbd := aUp_bd (k := x.k) a0 a1
  have HB := Lib.hid h
  clear h o
  obtain ⟨R, A, k⟩ := x
  dsimp only at *
  obtain ⟨a, ha⟩ : ∃ a, aUp A k = a := ⟨_, rfl⟩
  rw [ha] at hbd ⊢
  unfold rUp
  have B1 := Lib.hid fun w => by_any a M w
  have B2 := Lib.hid fun w => by_any (65536 - a) R w
  have hw : IntKind.i64.wrap (65536 - a) = 65536 - a := by rw [IntKind.wrap_i64]; omega
  generalize fixI a M = u at *
  generalize fixI (65536 - a) R = v at *
  have P2 := Lib.hid fun w => plus_any u v w
  generalize addI u v = z at *
  have P1 := plus_any A 32768
  have e1 : addI A 32768 = A + 32768 := by unfold addI; rw [show hold 32768 = 32768 from by decide, hold_in (show 0 ≤ A by omega) (by omega), hold_in (show 0 ≤ A + 32768 by omega) (by omega)]
  rw [e1] at P1
  have P1 := Lib.hid P1
  clear e1
  have HA := Lib.hid ha
  clear ha
  have c4 := HB.out.cell (o := 4) rfl
  have c3 := HB.out.cell (o := 3) rfl
  have f3 := HB.out.frozen 3
  have hbl := HB.out.lt
  go_enter Try.func23, Try.ntmps23
  go_upto_region 0 with fail
  go_cut [6] (fun c wx => c = .bool (decide (0 < k)) ∧ w = wx)
  case first =>
    go_wp2_with fail
    go_meet
    exact ⟨rfl, rfl⟩
  case rest =>
    obtain ⟨rfl, rfl⟩ := hcut
    go_upto_if 6 with (fail)
    go_cut [] (fun wx => Blk wx b [.int .i64 M, .int .i64 T, .int .i64 R, .int .i64 a, .int .i64 (k : Nat)] 54 ∧ Kept (fun k => k = b) w wx)
    case first =>
      by_cases h0 : 0 < k
      · have e2 : (A + 32768) / 2 = a := by rw [← HA.out]; unfold aUp; rw [if_pos h0]
        have h0' : decide (0 < k) = true := by simpa using h0
        rw [h0']
        go_wp2_with (go_at_call 31; with_reducible refine Calls.mono (P1.out _) ?_; rintro e w' ⟨rfl, rfl⟩)
        rw [e2]
        go_meet
        exact ⟨HB.out.set 3 (.int .i64 a), Kept.one w b 3 _⟩
      · have e2 : A = a := by rw [← HA.out]; unfold aUp; rw [if_neg h0]
        have h0' : decide (0 < k) = false := by simpa using h0
        rw [h0']
        go_wp2_with fail
        go_meet
        subst e2
        exact ⟨HB.out, Kept.refl _ w⟩
    case rest =>
      obtain ⟨hx, hk2⟩ := hcut
      clear c4 c3 f3 hbl HB P1
      have HX := Lib.hid hx
      have HK := Lib.hid hk2
      clear hx hk2
      have c0 := HX.out.cell (o := 0) rfl
      have c2 := HX.out.cell (o := 2) rfl
      have c3 := HX.out.cell (o := 3) rfl
      have f2 := HX.out.frozen 2
      have hbl := HX.out.lt
      go_upto_region 2 with fail
      go_cut [] (fun wx => Blk wx b [.int .i64 M, .int .i64 T, .int .i64 z, .int .i64 a, .int .i64 (k : Nat)] 54 ∧ Kept (fun k => k = b) w wx)
      case first =>
        go_region_with (first | (go_at_call 32; first | (with_reducible refine Calls.mono (B1.out _) ?_; rintro e w' ⟨rfl, rfl⟩) | (with_reducible refine Calls.mono (B2.out _) ?_; rintro e w' ⟨rfl, rfl⟩)) | (go_at_call 31; with_reducible refine Calls.mono (P2.out _) ?_; rintro e w' ⟨rfl, rfl⟩))
        all_goals
          go_wp2_with fail
          go_meet
          exact ⟨(HX.out.set 2 (.int .i64 z)).drew, (HK.out.set (fun _ => rfl) 2 _).drew⟩
      case rest =>
        obtain ⟨hx, hk2⟩ := hcut
        clear c0 c2 c3 f2 hbl HX HK B1 B2 P2
        have HX := Lib.hid hx
        have HK := Lib.hid hk2
        have c4 := hx.cell (o := 4) rfl
        have f4 := hx.frozen 4
        have hbl := hx.lt
        clear hx hk2
        go_wp2_with fail
        go_end0
        exact ⟨rfl, HX.out.set 4 (.int .i64 ((k + 1 : Nat) : Int)), HK.out.set (fun _ => rfl) 4 _⟩
end Go.Proofs.Ytaflhkhfkifefaa.Cr
