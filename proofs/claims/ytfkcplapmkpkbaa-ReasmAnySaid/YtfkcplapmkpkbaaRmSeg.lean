/- Messages in pieces: may, Count, piece, Piece, At. Conditions: each theorem's own. -/
import Derived.Test.YtfkcplapmkpkbaaIvNum
import Derived.Test.YtfkcplapmkpkbaaSgMath
import Derived.Test.YtfkcplapmkpkbaaIvRow
import Derived.WalkKit
import Derived.Outline
import Derived.ProofKit
import Derived.Deep.RegionLaw
import Derived.Deep.CutBlock
import Derived.Deep.RegionWith
import Derived.Deep.RegionHeld3
import Derived.Deep.DeepCutAuto
import Derived.Deep.DrawnRows
import Derived.Deep.LoopGhost
import Derived.WalkLawsBesides
import Derived.BigQuiet
import Derived.Deep.QuietTactic
set_option linter.unusedVariables false
namespace Go.Proofs.Ytfkcplapmkpkbaa.Sg
open Go.RowKit Hp IvM IvR IvN SgM
attribute [local go_sem ↓] Go.wp_at_zero Go.wp_at_succ
theorem ret_int {k : IntKind} {a b : Int} (h : a = b) : Ending.returned (.int k a) = .returned (.int k b) := by rw [h]
theorem may_yes {t m : Int} (h : May t m) (w : World) : Calls Try.prog 42 #[.int .i64 t, .int .i64 m] w fun e w' => e = .returned (.bool true) ∧ w = w' := by
  obtain ⟨h1, h2, h3, h4⟩ := h
  go_enter Try.func42, Try.ntmps42
  go_wp2_with fail
  go_ret
  exact ⟨rfl, rfl⟩
theorem may_no {t m : Int} (h : ¬ May t m) (w : World) : Calls Try.prog 42 #[.int .i64 t, .int .i64 m] w fun e w' => e = .returned (.bool false) ∧ w = w' := by
  have hc : ¬ 0 ≤ t ∨ (0 ≤ t ∧ ¬ t ≤ 1073741824) ∨ (0 ≤ t ∧ t ≤ 1073741824 ∧ ¬ 1 ≤ m) ∨ (0 ≤ t ∧ t ≤ 1073741824 ∧ 1 ≤ m ∧ decide (m ≤ 1048576) = false) := by
    rw [decide_eq_false_iff_not]; unfold May at h; omega
  clear h
  rcases hc with h1 | ⟨h1, h2⟩ | ⟨h1, h2, h3⟩ | ⟨h1, h2, h3, h4⟩
  all_goals
    go_enter Try.func42, Try.ntmps42
    go_wp2_with fail
    go_ret
    exact ⟨rfl, rfl⟩
set_option maxHeartbeats 1000000 in
theorem count_any (t m : Int) (w : World) : Calls Try.prog 43 #[.int .i64 t, .int .i64 m] w fun e w' => e = .returned (.int .i64 (cnt t m)) ∧ Kept (fun _ => False) w w' := by
  by_cases h : May t m
  · have M := Lib.hid (may_yes h w)
    have hc := cnt_yes h
    obtain ⟨h1, h2, h3, h4⟩ := id h
    have hb := div_in (x := t + m - 1) h3 (by omega) (by omega)
    generalize cnt t m = n at *
    have hq0 : 0 ≤ t + m - 1 := by omega
    have HC := Lib.hid hc
    have hm0 : ¬ m = 0 := by omega
    have hm1 : (m == 0) = false := by rw [beq_eq_false_iff_ne]; exact hm0
    clear hc h
    go_enter Try.func43, Try.ntmps43
    go_wp2_with (go_at_call 42; refine M.out.mono ?_; rintro e w' ⟨rfl, rfl⟩)
    with_reducible refine Calls.mono (max1 _ _ _ _ _ HC.out ?_) ?_
    · simp
    rintro e w1 ⟨rfl, rfl⟩
    go_wp2_with fail
    go_ret
    exact ⟨rfl, (Kept.refl _ w).alloc _⟩
  · have M := Lib.hid (may_no h w)
    rw [cnt_no h]
    clear h
    go_enter Try.func43, Try.ntmps43
    go_wp2_with (go_at_call 42; refine M.out.mono ?_; rintro e w' ⟨rfl, rfl⟩)
    go_ret
    exact ⟨rfl, Kept.refl _ w⟩
/-- A piece as a value. -/
def rv (p : Rg) : Value := .agg #[.int .i64 p.1, .int .i64 p.2]
set_option maxHeartbeats 1000000 in
theorem piece_any {t m k : Int} (hk : 0 ≤ k) (hk2 : k ≤ 2147483648) (hm : 1 ≤ m) (hm2 : m ≤ 1048576) (w : World) :
    Calls Try.prog 44 #[.int .i64 t, .int .i64 m, .int .i64 k] w fun e w' => e = .returned (rv (pc t m k)) ∧ Kept (fun _ => False) w w' := by
  obtain ⟨h0, h1⟩ := mulM hk hk2 hm hm2
  obtain ⟨x, hx⟩ : ∃ x, x = min (k * m + m) t := ⟨_, rfl⟩
  have HX := Lib.hid (hx.trans (min_if _ _))
  have hp : rv (pc t m k) = .agg #[.int .i64 (k * m), .int .i64 x] := by rw [hx]; rfl
  rw [hp]
  clear hp hx
  go_enter Try.func44, Try.ntmps44
  go_wp2_with fail
  with_reducible refine Calls.mono (min1 _ _ _ _ _ HX.out ?_) ?_
  · simp
  rintro e w1 ⟨rfl, rfl⟩
  go_wp2_with fail
  exact bodyPost_ret (v := .agg #[.int .i64 (k * m), .int .i64 x]) (by simp [results, Try.results44, go_sem]) rfl ⟨rfl, ((Kept.refl _ w).alloc _).alloc _⟩
/-- A result that lies in a cell of two, and a number beside it. -/
theorem setTwo {w0 w : World} {b : Nat} (k : Kept (fun _ => False) w0 w) (hb : w0.heap.size ≤ b) (v u : Value) :
    Kept (fun _ => False) w0 ((w.setCell ⟨b, 0, none⟩ v).setCell ⟨b, 1, none⟩ u) := (k.set (fun h => by omega) 0 v).set (fun h => by omega) 1 u
set_option maxHeartbeats 1000000 in
theorem Piece_yes {t m k : Int} (h : May t m) (hk : 0 ≤ k) (hk2 : k < cnt t m) (w : World) :
    Calls Try.prog 33 #[.int .i64 t, .int .i64 m, .int .i64 k] w fun e w' => e = .returned (.tuple #[rv (pc t m k), .int .i64 0]) ∧ Kept (fun _ => False) w w' := by
  have hc := cnt_le h
  have C := Lib.hid fun w => count_any t m w
  have P := Lib.hid fun w => piece_any (t := t) (m := m) hk (by omega) h.2.2.1 h.2.2.2 w
  generalize cnt t m = n at *
  obtain ⟨p, hp⟩ : ∃ p, p = pc t m k := ⟨_, rfl⟩
  rw [← hp] at P ⊢
  clear hp h
  obtain ⟨x, y⟩ := p
  have hk3 : ¬ k < 0 := by omega
  have hk4 : decide (n ≤ k) = false := by rw [decide_eq_false_iff_not]; omega
  go_enter Try.func33, Try.ntmps33
  go_wp2_with fail
  with_reducible refine Calls.mono (C.out _) ?_
  rintro e w1 ⟨rfl, k1⟩
  have hB := k1.blk (Blk.new w [.int .i64 0, .int .i64 0] 59) (fun f => f)
  have k1' := ((Kept.refl (fun _ => False) w).alloc (.cells #[.int .i64 0, .int .i64 0] 59)).trans k1
  clear k1
  go_wp2_with fail
  with_reducible refine Calls.mono (P.out _) ?_
  rintro e w2 ⟨rfl, k2⟩
  have hB2 := k2.blk hB (fun f => f)
  have k2' := k1'.trans k2
  have c0 := hB2.cell (o := 0) rfl
  have c1 := hB2.cell (o := 1) rfl
  have z0 := hB2.frozen 0
  have z1 := hB2.frozen 1
  have hz := hB2.lt
  generalize hbe : w.heap.size = b at *
  have HBE := Lib.hid hbe
  clear hbe k1' k2 hB hB2
  unfold rv
  go_wp2_with fail
  exact bodyPost_ret (v := .tuple #[.agg #[.int .i64 x, .int .i64 y], .int .i64 0]) (by simp [results, Try.results33, go_sem, c0, c1]) rfl ⟨rfl, setTwo k2' (Nat.le_of_eq HBE.out) _ _⟩
set_option maxHeartbeats 1000000 in
theorem at_any (t m o : Int) (w : World) : Calls Try.prog 32 #[.int .i64 t, .int .i64 m, .int .i64 o] w fun e w' => e = .returned (.int .i64 (at' t m o)) ∧ Kept (fun _ => False) w w' := by
  by_cases h : May t m
  · have M := Lib.hid (may_yes h w)
    obtain ⟨mx, hmx⟩ : ∃ x, x = max 1 t := ⟨_, rfl⟩
    have HX := Lib.hid (hmx.trans (max_if _ _))
    by_cases h0 : 0 ≤ o
    · have h0' : ¬ o < 0 := by omega
      by_cases h1 : o < mx
      · rw [at_yes h h0 (by omega)]
        obtain ⟨g0, g1, g2, g3⟩ := h
        have hb := div_in (x := o) g2 h0 (by omega)
        have hm0 : ¬ m = 0 := by omega
        have hm1 : (m == 0) = false := by rw [beq_eq_false_iff_ne]; exact hm0
        have h2 : decide (mx ≤ o) = false := by rw [decide_eq_false_iff_not]; omega
        have ho : o ≤ 1073741824 := by omega
        clear hmx
        go_enter Try.func32, Try.ntmps32
        go_wp2_with (go_at_call 42; refine M.out.mono ?_; rintro e w' ⟨rfl, rfl⟩)
        with_reducible refine Calls.mono (max1 _ _ _ _ _ HX.out ?_) ?_
        · simp
        rintro e w1 ⟨rfl, rfl⟩
        go_wp2_with fail
        go_ret
        exact ⟨rfl, (Kept.refl _ w).alloc _⟩
      · rw [at_no (by omega)]
        have h2 : decide (mx ≤ o) = true := decide_eq_true (by omega)
        clear hmx h
        go_enter Try.func32, Try.ntmps32
        go_wp2_with (go_at_call 42; refine M.out.mono ?_; rintro e w' ⟨rfl, rfl⟩)
        with_reducible refine Calls.mono (max1 _ _ _ _ _ HX.out ?_) ?_
        · simp
        rintro e w1 ⟨rfl, rfl⟩
        go_wp2_with fail
        go_ret
        exact ⟨rfl, (Kept.refl _ w).alloc _⟩
    · rw [at_no (by omega)]
      have h2 : decide (o < 0) = true := decide_eq_true (by omega)
      clear hmx h
      go_enter Try.func32, Try.ntmps32
      go_wp2_with (go_at_call 42; refine M.out.mono ?_; rintro e w' ⟨rfl, rfl⟩)
      go_ret
      exact ⟨rfl, Kept.refl _ w⟩
  · have M := Lib.hid (may_no h w)
    rw [at_no (fun g => h g.1)]
    clear h
    go_enter Try.func32, Try.ntmps32
    go_wp2_with (go_at_call 42; refine M.out.mono ?_; rintro e w' ⟨rfl, rfl⟩)
    go_ret
    exact ⟨rfl, Kept.refl _ w⟩
end Go.Proofs.Ytfkcplapmkpkbaa.Sg
