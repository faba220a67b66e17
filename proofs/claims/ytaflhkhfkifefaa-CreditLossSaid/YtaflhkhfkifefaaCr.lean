/- A credit rate of the program: how it lies; New, made, Rate, Aggr, Rises, rise, fall, Update. Conditions: each theorem's own. -/
import Derived.Test.YtaflhkhfkifefaaHeap
import Derived.Test.YtaflhkhfkifefaaCrMath
import Derived.Test.YtaflhkhfkifefaaCrNum
import Derived.Deep.RegionHeld3
import Derived.WalkLawsBesides
import Derived.Deep.DrawnRows
import Derived.Deep.RegionWith
import Derived.Deep.DeepCutAuto
set_option linter.unusedVariables false
namespace Go.Proofs.Ytaflhkhfkifefaa.Cr
open Go.RowKit Hp NumM NumC CrM
attribute [local go_sem ↓] Go.wp_at_zero Go.wp_at_succ
/-- A rate of the program: how it lies. -/
def PR (w : World) (b : Nat) (M T : Int) (x : St) : Prop := Blk w b [.int .i64 M, .int .i64 T, .int .i64 x.R, .int .i64 x.A, .int .i64 (x.k : Nat)] 54
theorem new_yes {m T : Int} (h0 : 1 ≤ m) (h1 : m ≤ 1048576) (h2 : 0 ≤ T) (h3 : T ≤ 65536) (w : World) : Calls Try.prog 7 #[.int .i64 m, .int .i64 T] w fun e w' => ∃ b, e = .returned (.tuple #[.pointer (some ⟨b, 0, none⟩), .int .i64 0]) ∧ PR w' b (m * 65536) T (St.first (m * 65536)) ∧ Kept (fun _ => False) w w' ∧ w.heap.size ≤ b := by
  have g1 : decide (m < 1) = false := by rw [decide_eq_false_iff_not]; omega
  have g2 : decide (1048576 < m) = false := by rw [decide_eq_false_iff_not]; omega
  have g3 : decide (T < 0) = false := by rw [decide_eq_false_iff_not]; omega
  have g4 : decide (65536 < T) = false := by rw [decide_eq_false_iff_not]; omega
  have OF := of_any m
  rw [clampI_in (show 0 ≤ m by omega) (show m ≤ 17179869184 by omega)] at OF
  have OF := Lib.hid OF
  have hM0 : 65536 ≤ m * 65536 := by omega
  have hM1 : m * 65536 ≤ 68719476736 := by omega
  generalize m * 65536 = M at *
  go_enter Try.func7, Try.ntmps7
  go_wp2_with fail
  with_reducible refine Calls.mono (OF.out _) ?_
  rintro e w' ⟨rfl, rfl⟩
  go_wp2_with fail
  go_ret2
  exact ⟨_, rfl, Blk.new w [.int .i64 M, .int .i64 T, .int .i64 (M / 16), .int .i64 32768, .int .i64 0] 54, (Kept.refl _ w).alloc _, Nat.le_refl _⟩
theorem new_no {m T : Int} (h : ¬ (1 ≤ m ∧ m ≤ 1048576 ∧ 0 ≤ T ∧ T ≤ 65536)) (w : World) : Calls Try.prog 7 #[.int .i64 m, .int .i64 T] w fun e w' => e = .returned (.tuple #[.pointer none, .int .i64 1]) ∧ w = w' := by
  have hc : m < 1 ∨ (decide (m < 1) = false ∧ 1048576 < m) ∨ (decide (m < 1) = false ∧ decide (1048576 < m) = false ∧ T < 0) ∨ (decide (m < 1) = false ∧ decide (1048576 < m) = false ∧ decide (T < 0) = false ∧ 65536 < T) := by
    simp only [decide_eq_false_iff_not]; omega
  clear h
  rcases hc with h1 | ⟨h1, h2⟩ | ⟨h1, h2, h3⟩ | ⟨h1, h2, h3, h4⟩
  all_goals
    go_enter Try.func7, Try.ntmps7
    go_wp2_with fail
    go_ret2
    exact ⟨rfl, rfl⟩
theorem made_yes {w : World} {b : Nat} {M T : Int} {x : St} (h : PR w b M T x) (hM : 65536 ≤ M) : Calls Try.prog 20 #[.pointer (some ⟨b, 0, none⟩)] w fun e w' => e = .returned (.bool true) ∧ w = w' := by
  have c0 := h.cell (o := 0) rfl
  have g1 : 0 < M := by omega
  clear h
  go_enter Try.func20, Try.ntmps20
  go_wp2_with fail
  go_ret
  exact ⟨rfl, rfl⟩
theorem made_nil (w : World) : Calls Try.prog 20 #[.pointer none] w fun e w' => e = .returned (.bool false) ∧ w = w' := by
  go_enter Try.func20, Try.ntmps20
  go_wp2_with fail
  go_ret
  exact ⟨rfl, rfl⟩
theorem rate_any {w : World} {b : Nat} {M T : Int} {x : St} (h : PR w b M T x) (hM : 65536 ≤ M) : Calls Try.prog 11 #[.pointer (some ⟨b, 0, none⟩)] w fun e w' => e = .returned (.int .i64 x.R) ∧ w = w' := by
  have MD := Lib.hid (made_yes h hM)
  have c2 := h.cell (o := 2) rfl
  clear h
  go_enter Try.func11, Try.ntmps11
  go_wp2_with fail
  with_reducible refine Calls.mono MD.out ?_
  rintro e w' ⟨rfl, rfl⟩
  go_wp2_with fail
  go_ret
  exact ⟨rfl, rfl⟩
theorem aggr_any {w : World} {b : Nat} {M T : Int} {x : St} (h : PR w b M T x) (hM : 65536 ≤ M) : Calls Try.prog 12 #[.pointer (some ⟨b, 0, none⟩)] w fun e w' => e = .returned (.int .i64 x.A) ∧ w = w' := by
  have MD := Lib.hid (made_yes h hM)
  have c2 := h.cell (o := 3) rfl
  clear h
  go_enter Try.func12, Try.ntmps12
  go_wp2_with fail
  with_reducible refine Calls.mono MD.out ?_
  rintro e w' ⟨rfl, rfl⟩
  go_wp2_with fail
  go_ret
  exact ⟨rfl, rfl⟩
theorem rises_any {w : World} {b : Nat} {M T : Int} {x : St} (h : PR w b M T x) (hM : 65536 ≤ M) : Calls Try.prog 13 #[.pointer (some ⟨b, 0, none⟩)] w fun e w' => e = .returned (.int .i64 (x.k : Nat)) ∧ w = w' := by
  have MD := Lib.hid (made_yes h hM)
  have c2 := h.cell (o := 4) rfl
  clear h
  go_enter Try.func13, Try.ntmps13
  go_wp2_with fail
  with_reducible refine Calls.mono MD.out ?_
  rintro e w' ⟨rfl, rfl⟩
  go_wp2_with fail
  go_ret
  exact ⟨rfl, rfl⟩
theorem rate_nil (w : World) : Calls Try.prog 11 #[.pointer none] w fun e w' => e = .returned (.int .i64 0) ∧ w = w' := by
  have MD := Lib.hid (made_nil w)
  go_enter Try.func11, Try.ntmps11
  go_wp2_with fail
  with_reducible refine Calls.mono MD.out ?_
  rintro e w' ⟨rfl, rfl⟩
  go_wp2_with fail
  go_ret
  exact ⟨rfl, rfl⟩
theorem aggr_nil (w : World) : Calls Try.prog 12 #[.pointer none] w fun e w' => e = .returned (.int .i64 0) ∧ w = w' := by
  have MD := Lib.hid (made_nil w)
  go_enter Try.func12, Try.ntmps12
  go_wp2_with fail
  with_reducible refine Calls.mono MD.out ?_
  rintro e w' ⟨rfl, rfl⟩
  go_wp2_with fail
  go_ret
  exact ⟨rfl, rfl⟩
theorem rises_nil (w : World) : Calls Try.prog 13 #[.pointer none] w fun e w' => e = .returned (.int .i64 0) ∧ w = w' := by
  have MD := Lib.hid (made_nil w)
  go_enter Try.func13, Try.ntmps13
  go_wp2_with fail
  with_reducible refine Calls.mono MD.out ?_
  rintro e w' ⟨rfl, rfl⟩
  go_wp2_with fail
  go_ret
  exact ⟨rfl, rfl⟩
theorem upd_nil (s l : Int) (w : World) : Calls Try.prog 9 #[.pointer none, .int .i64 s, .int .i64 l] w fun e w' => e = .returned (.int .i64 0) ∧ w = w' := by
  have MD := Lib.hid (made_nil w)
  go_enter Try.func9, Try.ntmps9
  go_wp2_with fail
  with_reducible refine Calls.mono MD.out ?_
  rintro e w' ⟨rfl, rfl⟩
  go_wp2_with fail
  go_ret
  exact ⟨rfl, rfl⟩
end Go.Proofs.Ytaflhkhfkifefaa.Cr
