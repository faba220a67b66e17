/- Pacers: what each call answers and leaves. Conditions: each theorem's own. -/
import Derived.Test.YtiffnlcpemfmoaaPoNum
import Derived.Test.YtiffnlcpemfmoaaHeap
import Derived.Deep.RegionWith
import Derived.Deep.DeepCutAuto
import Derived.Deep.DrawnRows
set_option linter.unusedVariables false
namespace Go.Proofs.Ytiffnlcpemfmoaa.Pc
open Go.RowKit Hp NumM NumC
attribute [local go_sem ↓] Go.wp_at_zero Go.wp_at_succ
/-- A pacer of the program: pause, next time. -/
def PP (w : World) (b : Nat) (v x : Int) : Prop := Blk w b [.int .i64 v, .int .i64 x] 64
def Beats (v : Int) : Prop := 1 ≤ v ∧ v ≤ 1073741824
theorem newP_yes {v : Int} (h : Beats v) (w : World) : Calls Try.prog 39 #[.int .i64 v] w fun e w' =>
    ∃ b, e = .returned (.tuple #[.pointer (some ⟨b, 0, none⟩), .int .i64 0]) ∧ PP w' b v 0 ∧ Kept (fun _ => False) w w' ∧ w.heap.size ≤ b := by
  obtain ⟨h1, h2⟩ := h
  go_enter Try.func39, Try.ntmps39
  go_wp2_with fail
  go_ret2
  exact ⟨_, rfl, Blk.new w [.int .i64 v, .int .i64 0] 64, (Kept.refl _ w).alloc _, Nat.le_refl _⟩
def atN (t : Int) : Int := clampI t 0 1125899906842624
theorem atN_bd (t : Int) : 0 ≤ atN t ∧ atN t ≤ 1125899906842624 := clampI_bd t (by decide)
theorem go_yes {v x : Int} {b : Nat} {w : World} (hB : PP w b v x) (hv : Beats v) (t : Int) (h : x ≤ atN t) : Calls Try.prog 14 #[.pointer (some ⟨b, 0, none⟩), .int .i64 t] w fun e w' =>
    e = .returned (.bool true) ∧ PP w' b v (atN t + v) ∧ Kept (fun k => k = b) w w' := by
  obtain ⟨v0, v1⟩ := hv
  have hb := atN_bd t
  have CL := clampInt_any t 0 1125899906842624
  change ∀ w, Calls _ _ _ w fun e w' => e = .returned (.int .i64 (atN t)) ∧ w = w' at CL
  generalize atN t = a at *
  have CL := Lib.hid CL
  unfold PP at hB
  have c0 := hB.cell (o := 0) rfl
  have c1 := hB.cell (o := 1) rfl
  have f1 := hB.frozen 1
  have hblt := hB.lt
  go_enter Try.func14, Try.ntmps14
  go_wp2_with (go_at_call 12; refine (CL.out _).mono ?_; rintro e w' ⟨rfl, rfl⟩)
  go_ret
  exact ⟨rfl, hB.set 1 (.int .i64 (a + v)), Kept.one w b 1 _⟩
theorem go_no {v x : Int} {b : Nat} {w : World} (hB : PP w b v x) (t : Int) (h : atN t < x) : Calls Try.prog 14 #[.pointer (some ⟨b, 0, none⟩), .int .i64 t] w fun e w' =>
    e = .returned (.bool false) ∧ PP w' b v x ∧ Kept (fun k => k = b) w w' := by
  have hb := atN_bd t
  have CL := clampInt_any t 0 1125899906842624
  change ∀ w, Calls _ _ _ w fun e w' => e = .returned (.int .i64 (atN t)) ∧ w = w' at CL
  generalize atN t = a at *
  have CL := Lib.hid CL
  have hB0 := hB
  unfold PP at hB
  have c0 := hB.cell (o := 0) rfl
  have c1 := hB.cell (o := 1) rfl
  go_enter Try.func14, Try.ntmps14
  go_wp2_with (go_at_call 12; refine (CL.out _).mono ?_; rintro e w' ⟨rfl, rfl⟩)
  go_ret
  exact ⟨rfl, hB0, Kept.refl _ w⟩
end Go.Proofs.Ytiffnlcpemfmoaa.Pc
