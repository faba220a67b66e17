/- The document's own credit rate: how it lies; NewRate, Update. Conditions: each theorem's own. -/
import Derived.Test.YtaflhkhfkifefaaCrUpd
import Derived.Test.YtaflhkhfkifefaaEnd
set_option linter.unusedVariables false
namespace Go.Proofs.Ytaflhkhfkifefaa.Cr
open Go.RowKit Hp NumM NumC CrM
attribute [local go_sem ↓] Go.wp_at_zero Go.wp_at_succ
def RR (w : World) (c : Nat) (M T R A : Int) (k : Nat) (s : Bool) : Prop := Blk w c [.int .i64 M, .int .i64 T, .int .i64 R, .int .i64 A, .int .i64 (k : Nat), .bool s] 38
/-- The document's own rate: how it lies. -/
def DR (w : World) (c : Nat) (M T : Int) (x : St) : Prop := RR w c M T x.R x.A x.k (decide (0 < x.k))
theorem rnew_yes {m T : Int} (h0 : 1 ≤ m) (h1 : m ≤ 1048576) (h2 : 0 ≤ T) (h3 : T ≤ 65536) (w : World) : Calls Try.prog 8 #[.int .i64 m, .int .i64 T] w fun e w' => ∃ b, e = .returned (.tuple #[.pointer (some ⟨b, 0, none⟩), .int .i64 0]) ∧ DR w' b (m * 65536) T (St.first (m * 65536)) ∧ Kept (fun _ => False) w w' ∧ w.heap.size ≤ b := by
  have g1 : decide (m < 1) = false := by rw [decide_eq_false_iff_not]; omega
  have g2 : decide (1048576 < m) = false := by rw [decide_eq_false_iff_not]; omega
  have g3 : decide (T < 0) = false := by rw [decide_eq_false_iff_not]; omega
  have g4 : decide (65536 < T) = false := by rw [decide_eq_false_iff_not]; omega
  have hM0 : 65536 ≤ m * 65536 := by omega
  have hM1 : m * 65536 ≤ 68719476736 := by omega
  have hw : IntKind.i64.wrap (m * 65536) = m * 65536 := by rw [IntKind.wrap_i64]; omega
  have q1 : (m * 65536).tdiv 16 = m * 65536 / 16 := Int.tdiv_eq_ediv_of_nonneg (by omega)
  have q2 : (m * 65536).tdiv 64 = m * 65536 / 64 := Int.tdiv_eq_ediv_of_nonneg (by omega)
  have r1 : IntKind.i64.wrap (m * 65536 / 16) = m * 65536 / 16 := by rw [IntKind.wrap_i64]; omega
  have r2 : IntKind.i64.wrap (m * 65536 / 64) = m * 65536 / 64 := by rw [IntKind.wrap_i64]; omega
  have mx : ∀ ts ty w, (Builtin.max_ ts ty #[.int .i64 (m * 65536 / 16), .int .i64 (m * 65536 / 64)]).run Try.prog w = .ok (.int .i64 (m * 65536 / 16)) w := by
    intro ts ty w
    rw [run_max_int2, if_neg (by omega)]
  go_enter Try.func8, Try.ntmps8
  go_wp2_with fail
  go_ret2
  exact ⟨_, rfl, Blk.new w [.int .i64 (m * 65536), .int .i64 T, .int .i64 (m * 65536 / 16), .int .i64 32768, .int .i64 0, .bool false] 38, (Kept.refl _ w).alloc _, Nat.le_refl _⟩
theorem rnew_no {m T : Int} (h : ¬ (1 ≤ m ∧ m ≤ 1048576 ∧ 0 ≤ T ∧ T ≤ 65536)) (w : World) : Calls Try.prog 8 #[.int .i64 m, .int .i64 T] w fun e w' => e = .returned (.tuple #[.pointer none, .int .i64 1]) ∧ w = w' := by
  have hc : m < 1 ∨ (decide (m < 1) = false ∧ 1048576 < m) ∨ (decide (m < 1) = false ∧ decide (1048576 < m) = false ∧ T < 0) ∨ (decide (m < 1) = false ∧ decide (1048576 < m) = false ∧ decide (T < 0) = false ∧ 65536 < T) := by
    simp only [decide_eq_false_iff_not]; omega
  clear h
  rcases hc with h1 | ⟨h1, h2⟩ | ⟨h1, h2, h3⟩ | ⟨h1, h2, h3, h4⟩
  all_goals
    go_enter Try.func8, Try.ntmps8
    go_wp2_with fail
    go_ret2
    exact ⟨rfl, rfl⟩
end Go.Proofs.Ytaflhkhfkifefaa.Cr
