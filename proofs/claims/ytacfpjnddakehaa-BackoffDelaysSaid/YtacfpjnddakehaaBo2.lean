/- Backoff: the program's timer: when it fires next, its start, its end, when and how often. Conditions: each theorem's own. -/
import Derived.Test.YtacfpjnddakehaaBo
set_option linter.unusedVariables false
namespace Go.Proofs.Ytacfpjnddakehaa.Bo
open Go.RowKit Hp NumM NumC
attribute [local go_sem ↓] Go.wp_at_zero Go.wp_at_succ
/-- A timer of the program: base, cap, limit, tries, when. -/
def PT (w : World) (b : Nat) (x y m n a : Int) : Prop := Blk w b [.int .i64 x, .int .i64 y, .int .i64 m, .int .i64 n, .int .i64 a] 47
/-- When it fires next. -/
def nextI (x y n now : Int) : Int := addI now (delayI x y n)
theorem nextI_bd (x y n now : Int) : 1 ≤ nextI x y n now ∧ nextI x y n now ≤ 1125899906842624 := by
  have h1 := delayI_bd x y n
  have h2 := hold_lo now
  have h3 := hold_hi (hold now + hold (delayI x y n))
  have h4 := hold_in (v := delayI x y n) (by omega) (by omega)
  unfold nextI addI at *
  refine ⟨?_, h3⟩
  rcases Int.le_total (hold now + hold (delayI x y n)) 1125899906842624 with h5 | h5
  · rw [hold_in (by omega) h5]; omega
  · rw [hold_top h5]; omega
set_option maxHeartbeats 2000000 in
theorem wait_any {x y m n a : Int} {b : Nat} {w : World} (hB : PT w b x y m n a) (now : Int) :
    Calls Try.prog 20 #[.pointer (some ⟨b, 0, none⟩), .int .i64 now] w fun e w' => e = .returned (.tuple #[]) ∧ PT w' b x y m n (nextI x y n now) ∧ Kept (fun k => k = b) w w' := by
  unfold PT at hB
  have c0 := hB.cell (o := 0) rfl
  have c1 := hB.cell (o := 1) rfl
  have c3 := hB.cell (o := 3) rfl
  have c4 := hB.cell (o := 4) rfl
  have f4 := hB.frozen 4
  have HB := Lib.hid hB
  have hblt := hB.lt
  clear hB
  unfold nextI
  have D := Lib.hid fun w => delay_any x y n w
  have A := Lib.hid fun w => addNum_any now (delayI x y n) w
  generalize delayI x y n = d at *
  generalize addI now d = a' at *
  go_enter Try.func20, Try.ntmps20
  go_wp2_with fail
  go_region_with (first | (go_at_call 17; with_reducible refine Calls.mono (D.out _) ?_; rintro e w' ⟨rfl, rfl⟩) | (go_at_call 23; with_reducible refine Calls.mono (A.out _) ?_; rintro e w' ⟨rfl, rfl⟩))
  all_goals
    go_wp2_with fail
    go_end0
    exact ⟨rfl, (HB.out.set 4 (.int .i64 a')).drew, (Kept.one w b 4 _).drew⟩
theorem at_nil (w : World) : Calls Try.prog 15 #[.pointer none] w fun e w' => e = .returned (.tuple #[.int .i64 0, .bool false]) ∧ w = w' := by
  go_enter Try.func15, Try.ntmps15
  go_wp2_with fail
  go_ret2
  exact ⟨rfl, rfl⟩
theorem at_any {x y m n a : Int} {b : Nat} {w : World} (hB : PT w b x y m n a) :
    Calls Try.prog 15 #[.pointer (some ⟨b, 0, none⟩)] w fun e w' => e = .returned (.tuple #[.int .i64 a, .bool (decide (0 < a))]) ∧ PT w' b x y m n a ∧ Kept (fun _ => False) w w' := by
  unfold PT at hB
  have c4 := hB.cell (o := 4) rfl
  have HB := Lib.hid hB
  clear hB
  go_enter Try.func15, Try.ntmps15
  go_wp2_with fail
  go_quiet (fail)
  go_wp2_with fail
  go_ret2
  exact ⟨rfl, HB.out.drewN _, (Kept.refl _ w).drewN _⟩
theorem tries_nil (w : World) : Calls Try.prog 16 #[.pointer none] w fun e w' => e = .returned (.int .i64 0) ∧ w = w' := by
  go_enter Try.func16, Try.ntmps16
  go_wp2_with fail
  go_ret
  exact ⟨rfl, rfl⟩
theorem tries_any {x y m n a : Int} {b : Nat} {w : World} (hB : PT w b x y m n a) :
    Calls Try.prog 16 #[.pointer (some ⟨b, 0, none⟩)] w fun e w' => e = .returned (.int .i64 n) ∧ w = w' := by
  unfold PT at hB
  have c3 := hB.cell (o := 3) rfl
  clear hB
  go_enter Try.func16, Try.ntmps16
  go_wp2_with fail
  go_ret
  exact ⟨rfl, rfl⟩
theorem start_nil (now : Int) (w : World) : Calls Try.prog 9 #[.pointer none, .int .i64 now] w fun e w' => e = .returned (.tuple #[]) ∧ w = w' := by
  go_enter Try.func9, Try.ntmps9
  go_wp2_with fail
  (try simp only [Exit.inBlock, Exit.then])
  refine bodyPost_ret (results_none rfl _ _ _) rfl ?_
  exact ⟨rfl, rfl⟩
theorem start_any {x y m n a : Int} {b : Nat} {w : World} (hB : PT w b x y m n a) (now : Int) :
    Calls Try.prog 9 #[.pointer (some ⟨b, 0, none⟩), .int .i64 now] w fun e w' => e = .returned (.tuple #[]) ∧ PT w' b x y m 0 (nextI x y 0 now) ∧ Kept (fun k => k = b) w w' := by
  unfold PT at hB
  have c3 := hB.cell (o := 3) rfl
  have f3 := hB.frozen 3
  have hblt := hB.lt
  have hB1 : PT (w.setCell ⟨b, 3, none⟩ (.int .i64 0)) b x y m 0 a := hB.set 3 (.int .i64 0)
  have W := Lib.hid (wait_any hB1 now)
  clear hB hB1
  go_enter Try.func9, Try.ntmps9
  go_wp2_with fail
  refine W.out.mono ?_
  rintro e w1 ⟨rfl, h1, k1⟩
  go_wp2_with fail
  go_end0
  exact ⟨rfl, h1, (Kept.one w b 3 _).trans k1⟩
theorem stop_nil (w : World) : Calls Try.prog 14 #[.pointer none] w fun e w' => e = .returned (.tuple #[]) ∧ w = w' := by
  go_enter Try.func14, Try.ntmps14
  go_wp2_with fail
  (try simp only [Exit.inBlock, Exit.then])
  refine bodyPost_ret (results_none rfl _ _ _) rfl ?_
  exact ⟨rfl, rfl⟩
theorem stop_any {x y m n a : Int} {b : Nat} {w : World} (hB : PT w b x y m n a) :
    Calls Try.prog 14 #[.pointer (some ⟨b, 0, none⟩)] w fun e w' => e = .returned (.tuple #[]) ∧ PT w' b x y m 0 0 ∧ Kept (fun k => k = b) w w' := by
  unfold PT at hB
  have c3 := hB.cell (o := 3) rfl
  have c4 := hB.cell (o := 4) rfl
  have f3 := hB.frozen 3
  have f4 := hB.frozen 4
  have hblt := hB.lt
  go_enter Try.func14, Try.ntmps14
  go_wp2_with fail
  go_end0
  exact ⟨rfl, (hB.set 3 (.int .i64 0)).set 4 (.int .i64 0), (Kept.one w b 3 _).set (fun _ => rfl) 4 _⟩
end Go.Proofs.Ytacfpjnddakehaa.Bo
