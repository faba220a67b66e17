/- Frames: one as a value, whether its numbers may be, its data's length, Size. Conditions: each theorem's own. -/
import Derived.Test.YtompbpiaapenaaaFbK1
import Derived.Test.YtompbpiaapenaaaFbK2
import Derived.Test.YtompbpiaapenaaaFbK4
import Derived.LoopTactic
import Derived.Outline
import Derived.WalkKit
import Derived.ProofKit
import Derived.Deep.LoopGhost
import Derived.Deep.Draws
import Derived.Deep.QuietTactic
import Derived.Deep.CutBlock
import Derived.Deep.RegionHeld3
import Derived.Deep.RegionLaw
import Derived.Deep.RegionWith
import Derived.Deep.DeepCutAuto
import Derived.Deep.DrawnRows
import Derived.WalkLawsBesides
import Derived.BigQuiet
set_option linter.unusedVariables false
set_option linter.unusedSimpArgs false
namespace Go.Proofs.Ytompbpiaapenaaa.Wr
open Go.RowKit Hp WrM
attribute [local go_sem ↓] Go.wp_at_zero Go.wp_at_succ
theorem within_yes {n m : Int} (h0 : 0 ≤ n) (h1 : n ≤ m) (w : World) : Calls Try.prog 108 #[.int .i64 n, .int .i64 m] w fun e w' => e = .returned (.bool true) ∧ w = w' := by
  go_enter Try.func108, Try.ntmps108
  go_wp2
  go_ret
  exact ⟨rfl, rfl⟩
theorem within_no {n m : Int} (h : ¬ (0 ≤ n ∧ n ≤ m)) (w : World) : Calls Try.prog 108 #[.int .i64 n, .int .i64 m] w fun e w' => e = .returned (.bool false) ∧ w = w' := by
  rcases Int.lt_or_le n 0 with h0 | h0
  · have h2 : ¬ 0 ≤ n := by omega
    clear h
    go_enter Try.func108, Try.ntmps108
    go_wp2
    go_ret
    exact ⟨rfl, rfl⟩
  · have h2 : ¬ n ≤ m := by omega
    clear h
    go_enter Try.func108, Try.ntmps108
    go_wp2
    go_ret
    exact ⟨rfl, rfl⟩
set_option maxHeartbeats 4000000 in
set_option maxRecDepth 100000 in
theorem fits_yes {f : Frm} (h : Fit f) (s : Option Addr) (c : Nat) (w : World) : Calls Try.prog 88 #[fv f s c] w (Ans w (.bool true)) := by
  obtain ⟨kind, src, dst, prio, msg, off, len, total, num, data⟩ := f
  obtain ⟨⟨k1, k2⟩, ⟨s1, s2⟩, ⟨d1, d2⟩, ⟨p1, p2⟩, m2, ⟨o1, o2⟩, ⟨t1, t2⟩, ⟨l1, l2⟩, ⟨n1, n2⟩⟩ := h
  dsimp only at *
  unfold fv fcs
  dsimp only
  have C1 := Lib.hid fun w => within_yes s1 s2 w
  have C2 := Lib.hid fun w => within_yes d1 d2 w
  have C3 := Lib.hid fun w => within_yes p1 p2 w
  have C4 := Lib.hid fun w => within_yes o1 o2 w
  have C5 := Lib.hid fun w => within_yes t1 t2 w
  have C6 := Lib.hid fun w => within_yes l1 l2 w
  have C7 := Lib.hid fun w => within_yes n1 n2 w
  have m3 : decide ((msg : Int) ≤ 1152921504606846976) = true := decide_eq_true (by omega)
  have k3 : decide ((1 : Int) ≤ kind) = true := decide_eq_true k1
  have k4 : decide (kind ≤ (12 : Int)) = true := decide_eq_true k2
  clear s1 s2 d1 d2 p1 p2 o1 o2 t1 t2 l1 l2 n1 n2 m2 k1 k2
  go_enter Try.func88, Try.ntmps88
  go_upto_region 1 with fail
  have hB : Blk (w.alloc (.cells #[.int .i64 kind, .int .i64 src, .int .i64 dst, .int .i64 prio, .int .u64 (msg : Int), .int .i64 off, .int .i64 len, .int .i64 total, .int .i64 num, .slice s data.length c] 35)) w.heap.size [.int .i64 kind, .int .i64 src, .int .i64 dst, .int .i64 prio, .int .u64 (msg : Int), .int .i64 off, .int .i64 len, .int .i64 total, .int .i64 num, .slice s data.length c] 35 := Blk.new w _ _
  have hk1 : Kept (fun _ => False) w (w.alloc (.cells #[.int .i64 kind, .int .i64 src, .int .i64 dst, .int .i64 prio, .int .u64 (msg : Int), .int .i64 off, .int .i64 len, .int .i64 total, .int .i64 num, .slice s data.length c] 35)) := (Kept.refl _ w).alloc _
  generalize w.alloc (.cells #[.int .i64 kind, .int .i64 src, .int .i64 dst, .int .i64 prio, .int .u64 (msg : Int), .int .i64 off, .int .i64 len, .int .i64 total, .int .i64 num, .slice s data.length c] 35) = w1 at *
  generalize w.heap.size = vb at *
  have e0 := hB.cell (o := 0) rfl
  have e1 := hB.cell (o := 1) rfl
  have e2 := hB.cell (o := 2) rfl
  have e3 := hB.cell (o := 3) rfl
  have e4 := hB.cell (o := 4) rfl
  have e5 := hB.cell (o := 5) rfl
  have e6 := hB.cell (o := 6) rfl
  have e7 := hB.cell (o := 7) rfl
  have e8 := hB.cell (o := 8) rfl
  clear hB
  go_wp2_with (first | (go_at_call 108; with_reducible refine Calls.mono (C1.out _) ?_; rintro e w2 ⟨rfl, rfl⟩) | (go_at_call 108; with_reducible refine Calls.mono (C2.out _) ?_; rintro e w2 ⟨rfl, rfl⟩) | (go_at_call 108; with_reducible refine Calls.mono (C3.out _) ?_; rintro e w2 ⟨rfl, rfl⟩) | (go_at_call 108; with_reducible refine Calls.mono (C4.out _) ?_; rintro e w2 ⟨rfl, rfl⟩) | (go_at_call 108; with_reducible refine Calls.mono (C5.out _) ?_; rintro e w2 ⟨rfl, rfl⟩) | (go_at_call 108; with_reducible refine Calls.mono (C6.out _) ?_; rintro e w2 ⟨rfl, rfl⟩) | (go_at_call 108; with_reducible refine Calls.mono (C7.out _) ?_; rintro e w2 ⟨rfl, rfl⟩))
  go_ret
  exact ⟨rfl, hk1⟩
set_option maxHeartbeats 4000000 in
set_option maxRecDepth 100000 in
theorem fits_no {f : Frm} (h : ¬ Fit f) (s : Option Addr) (c : Nat) (w : World) : Calls Try.prog 88 #[fv f s c] w (Ans w (.bool false)) := by
  obtain ⟨kind, src, dst, prio, msg, off, len, total, num, data⟩ := f
  unfold Fit at h
  dsimp only at h
  unfold fv fcs
  dsimp only
  by_cases g0 : 1 ≤ kind
  rotate_left
  · clear h
    have q0 : decide ((1 : Int) ≤ kind) = false := by rw [decide_eq_false_iff_not]; omega
    clear g0
    go_enter Try.func88, Try.ntmps88
    go_upto_region 1 with fail
    have hB : Blk (w.alloc (.cells #[.int .i64 kind, .int .i64 src, .int .i64 dst, .int .i64 prio, .int .u64 (msg : Int), .int .i64 off, .int .i64 len, .int .i64 total, .int .i64 num, .slice s data.length c] 35)) w.heap.size [.int .i64 kind, .int .i64 src, .int .i64 dst, .int .i64 prio, .int .u64 (msg : Int), .int .i64 off, .int .i64 len, .int .i64 total, .int .i64 num, .slice s data.length c] 35 := Blk.new w _ _
    have hk1 : Kept (fun _ => False) w (w.alloc (.cells #[.int .i64 kind, .int .i64 src, .int .i64 dst, .int .i64 prio, .int .u64 (msg : Int), .int .i64 off, .int .i64 len, .int .i64 total, .int .i64 num, .slice s data.length c] 35)) := (Kept.refl _ w).alloc _
    generalize w.alloc (.cells #[.int .i64 kind, .int .i64 src, .int .i64 dst, .int .i64 prio, .int .u64 (msg : Int), .int .i64 off, .int .i64 len, .int .i64 total, .int .i64 num, .slice s data.length c] 35) = w1 at *
    generalize w.heap.size = vb at *
    have e0 := hB.cell (o := 0) rfl
    have e1 := hB.cell (o := 1) rfl
    have e2 := hB.cell (o := 2) rfl
    have e3 := hB.cell (o := 3) rfl
    have e4 := hB.cell (o := 4) rfl
    have e5 := hB.cell (o := 5) rfl
    have e6 := hB.cell (o := 6) rfl
    have e7 := hB.cell (o := 7) rfl
    have e8 := hB.cell (o := 8) rfl
    clear hB
    go_wp2_with fail
    go_ret
    exact ⟨rfl, hk1⟩
  by_cases g1 : kind ≤ 12
  rotate_left
  · clear h
    have q0 : decide ((1 : Int) ≤ kind) = true := by exact decide_eq_true (by omega)
    have q1 : decide (kind ≤ (12 : Int)) = false := by rw [decide_eq_false_iff_not]; omega
    clear g0 g1
    go_enter Try.func88, Try.ntmps88
    go_upto_region 1 with fail
    have hB : Blk (w.alloc (.cells #[.int .i64 kind, .int .i64 src, .int .i64 dst, .int .i64 prio, .int .u64 (msg : Int), .int .i64 off, .int .i64 len, .int .i64 total, .int .i64 num, .slice s data.length c] 35)) w.heap.size [.int .i64 kind, .int .i64 src, .int .i64 dst, .int .i64 prio, .int .u64 (msg : Int), .int .i64 off, .int .i64 len, .int .i64 total, .int .i64 num, .slice s data.length c] 35 := Blk.new w _ _
    have hk1 : Kept (fun _ => False) w (w.alloc (.cells #[.int .i64 kind, .int .i64 src, .int .i64 dst, .int .i64 prio, .int .u64 (msg : Int), .int .i64 off, .int .i64 len, .int .i64 total, .int .i64 num, .slice s data.length c] 35)) := (Kept.refl _ w).alloc _
    generalize w.alloc (.cells #[.int .i64 kind, .int .i64 src, .int .i64 dst, .int .i64 prio, .int .u64 (msg : Int), .int .i64 off, .int .i64 len, .int .i64 total, .int .i64 num, .slice s data.length c] 35) = w1 at *
    generalize w.heap.size = vb at *
    have e0 := hB.cell (o := 0) rfl
    have e1 := hB.cell (o := 1) rfl
    have e2 := hB.cell (o := 2) rfl
    have e3 := hB.cell (o := 3) rfl
    have e4 := hB.cell (o := 4) rfl
    have e5 := hB.cell (o := 5) rfl
    have e6 := hB.cell (o := 6) rfl
    have e7 := hB.cell (o := 7) rfl
    have e8 := hB.cell (o := 8) rfl
    clear hB
    go_wp2_with fail
    go_ret
    exact ⟨rfl, hk1⟩
  by_cases g2 : (0 ≤ src ∧ src ≤ 7)
  rotate_left
  · clear h
    have q0 : decide ((1 : Int) ≤ kind) = true := by exact decide_eq_true (by omega)
    have q1 : decide (kind ≤ (12 : Int)) = true := by exact decide_eq_true (by omega)
    have C1 := Lib.hid fun w => within_no g2 w
    clear g0 g1 g2
    go_enter Try.func88, Try.ntmps88
    go_upto_region 1 with fail
    have hB : Blk (w.alloc (.cells #[.int .i64 kind, .int .i64 src, .int .i64 dst, .int .i64 prio, .int .u64 (msg : Int), .int .i64 off, .int .i64 len, .int .i64 total, .int .i64 num, .slice s data.length c] 35)) w.heap.size [.int .i64 kind, .int .i64 src, .int .i64 dst, .int .i64 prio, .int .u64 (msg : Int), .int .i64 off, .int .i64 len, .int .i64 total, .int .i64 num, .slice s data.length c] 35 := Blk.new w _ _
    have hk1 : Kept (fun _ => False) w (w.alloc (.cells #[.int .i64 kind, .int .i64 src, .int .i64 dst, .int .i64 prio, .int .u64 (msg : Int), .int .i64 off, .int .i64 len, .int .i64 total, .int .i64 num, .slice s data.length c] 35)) := (Kept.refl _ w).alloc _
    generalize w.alloc (.cells #[.int .i64 kind, .int .i64 src, .int .i64 dst, .int .i64 prio, .int .u64 (msg : Int), .int .i64 off, .int .i64 len, .int .i64 total, .int .i64 num, .slice s data.length c] 35) = w1 at *
    generalize w.heap.size = vb at *
    have e0 := hB.cell (o := 0) rfl
    have e1 := hB.cell (o := 1) rfl
    have e2 := hB.cell (o := 2) rfl
    have e3 := hB.cell (o := 3) rfl
    have e4 := hB.cell (o := 4) rfl
    have e5 := hB.cell (o := 5) rfl
    have e6 := hB.cell (o := 6) rfl
    have e7 := hB.cell (o := 7) rfl
    have e8 := hB.cell (o := 8) rfl
    clear hB
    go_wp2_with (first | (go_at_call 108; with_reducible refine Calls.mono (C1.out _) ?_; rintro e w2 ⟨rfl, rfl⟩))
    go_ret
    exact ⟨rfl, hk1⟩
  by_cases g3 : (0 ≤ dst ∧ dst ≤ 7)
  rotate_left
  · clear h
    have q0 : decide ((1 : Int) ≤ kind) = true := by exact decide_eq_true (by omega)
    have q1 : decide (kind ≤ (12 : Int)) = true := by exact decide_eq_true (by omega)
    have C1 := Lib.hid fun w => within_yes g2.1 g2.2 w
    have C2 := Lib.hid fun w => within_no g3 w
    clear g0 g1 g2 g3
    go_enter Try.func88, Try.ntmps88
    go_upto_region 1 with fail
    have hB : Blk (w.alloc (.cells #[.int .i64 kind, .int .i64 src, .int .i64 dst, .int .i64 prio, .int .u64 (msg : Int), .int .i64 off, .int .i64 len, .int .i64 total, .int .i64 num, .slice s data.length c] 35)) w.heap.size [.int .i64 kind, .int .i64 src, .int .i64 dst, .int .i64 prio, .int .u64 (msg : Int), .int .i64 off, .int .i64 len, .int .i64 total, .int .i64 num, .slice s data.length c] 35 := Blk.new w _ _
    have hk1 : Kept (fun _ => False) w (w.alloc (.cells #[.int .i64 kind, .int .i64 src, .int .i64 dst, .int .i64 prio, .int .u64 (msg : Int), .int .i64 off, .int .i64 len, .int .i64 total, .int .i64 num, .slice s data.length c] 35)) := (Kept.refl _ w).alloc _
    generalize w.alloc (.cells #[.int .i64 kind, .int .i64 src, .int .i64 dst, .int .i64 prio, .int .u64 (msg : Int), .int .i64 off, .int .i64 len, .int .i64 total, .int .i64 num, .slice s data.length c] 35) = w1 at *
    generalize w.heap.size = vb at *
    have e0 := hB.cell (o := 0) rfl
    have e1 := hB.cell (o := 1) rfl
    have e2 := hB.cell (o := 2) rfl
    have e3 := hB.cell (o := 3) rfl
    have e4 := hB.cell (o := 4) rfl
    have e5 := hB.cell (o := 5) rfl
    have e6 := hB.cell (o := 6) rfl
    have e7 := hB.cell (o := 7) rfl
    have e8 := hB.cell (o := 8) rfl
    clear hB
    go_wp2_with (first | (go_at_call 108; with_reducible refine Calls.mono (C1.out _) ?_; rintro e w2 ⟨rfl, rfl⟩) | (go_at_call 108; with_reducible refine Calls.mono (C2.out _) ?_; rintro e w2 ⟨rfl, rfl⟩))
    go_ret
    exact ⟨rfl, hk1⟩
  by_cases g4 : (0 ≤ prio ∧ prio ≤ 7)
  rotate_left
  · clear h
    have q0 : decide ((1 : Int) ≤ kind) = true := by exact decide_eq_true (by omega)
    have q1 : decide (kind ≤ (12 : Int)) = true := by exact decide_eq_true (by omega)
    have C1 := Lib.hid fun w => within_yes g2.1 g2.2 w
    have C2 := Lib.hid fun w => within_yes g3.1 g3.2 w
    have C3 := Lib.hid fun w => within_no g4 w
    clear g0 g1 g2 g3 g4
    go_enter Try.func88, Try.ntmps88
    go_upto_region 1 with fail
    have hB : Blk (w.alloc (.cells #[.int .i64 kind, .int .i64 src, .int .i64 dst, .int .i64 prio, .int .u64 (msg : Int), .int .i64 off, .int .i64 len, .int .i64 total, .int .i64 num, .slice s data.length c] 35)) w.heap.size [.int .i64 kind, .int .i64 src, .int .i64 dst, .int .i64 prio, .int .u64 (msg : Int), .int .i64 off, .int .i64 len, .int .i64 total, .int .i64 num, .slice s data.length c] 35 := Blk.new w _ _
    have hk1 : Kept (fun _ => False) w (w.alloc (.cells #[.int .i64 kind, .int .i64 src, .int .i64 dst, .int .i64 prio, .int .u64 (msg : Int), .int .i64 off, .int .i64 len, .int .i64 total, .int .i64 num, .slice s data.length c] 35)) := (Kept.refl _ w).alloc _
    generalize w.alloc (.cells #[.int .i64 kind, .int .i64 src, .int .i64 dst, .int .i64 prio, .int .u64 (msg : Int), .int .i64 off, .int .i64 len, .int .i64 total, .int .i64 num, .slice s data.length c] 35) = w1 at *
    generalize w.heap.size = vb at *
    have e0 := hB.cell (o := 0) rfl
    have e1 := hB.cell (o := 1) rfl
    have e2 := hB.cell (o := 2) rfl
    have e3 := hB.cell (o := 3) rfl
    have e4 := hB.cell (o := 4) rfl
    have e5 := hB.cell (o := 5) rfl
    have e6 := hB.cell (o := 6) rfl
    have e7 := hB.cell (o := 7) rfl
    have e8 := hB.cell (o := 8) rfl
    clear hB
    go_wp2_with (first | (go_at_call 108; with_reducible refine Calls.mono (C1.out _) ?_; rintro e w2 ⟨rfl, rfl⟩) | (go_at_call 108; with_reducible refine Calls.mono (C2.out _) ?_; rintro e w2 ⟨rfl, rfl⟩) | (go_at_call 108; with_reducible refine Calls.mono (C3.out _) ?_; rintro e w2 ⟨rfl, rfl⟩))
    go_ret
    exact ⟨rfl, hk1⟩
  by_cases g5 : msg ≤ 1152921504606846976
  rotate_left
  · clear h
    have q0 : decide ((1 : Int) ≤ kind) = true := by exact decide_eq_true (by omega)
    have q1 : decide (kind ≤ (12 : Int)) = true := by exact decide_eq_true (by omega)
    have C1 := Lib.hid fun w => within_yes g2.1 g2.2 w
    have C2 := Lib.hid fun w => within_yes g3.1 g3.2 w
    have C3 := Lib.hid fun w => within_yes g4.1 g4.2 w
    have q5 : decide ((msg : Int) ≤ 1152921504606846976) = false := by rw [decide_eq_false_iff_not]; omega
    clear g0 g1 g2 g3 g4 g5
    go_enter Try.func88, Try.ntmps88
    go_upto_region 1 with fail
    have hB : Blk (w.alloc (.cells #[.int .i64 kind, .int .i64 src, .int .i64 dst, .int .i64 prio, .int .u64 (msg : Int), .int .i64 off, .int .i64 len, .int .i64 total, .int .i64 num, .slice s data.length c] 35)) w.heap.size [.int .i64 kind, .int .i64 src, .int .i64 dst, .int .i64 prio, .int .u64 (msg : Int), .int .i64 off, .int .i64 len, .int .i64 total, .int .i64 num, .slice s data.length c] 35 := Blk.new w _ _
    have hk1 : Kept (fun _ => False) w (w.alloc (.cells #[.int .i64 kind, .int .i64 src, .int .i64 dst, .int .i64 prio, .int .u64 (msg : Int), .int .i64 off, .int .i64 len, .int .i64 total, .int .i64 num, .slice s data.length c] 35)) := (Kept.refl _ w).alloc _
    generalize w.alloc (.cells #[.int .i64 kind, .int .i64 src, .int .i64 dst, .int .i64 prio, .int .u64 (msg : Int), .int .i64 off, .int .i64 len, .int .i64 total, .int .i64 num, .slice s data.length c] 35) = w1 at *
    generalize w.heap.size = vb at *
    have e0 := hB.cell (o := 0) rfl
    have e1 := hB.cell (o := 1) rfl
    have e2 := hB.cell (o := 2) rfl
    have e3 := hB.cell (o := 3) rfl
    have e4 := hB.cell (o := 4) rfl
    have e5 := hB.cell (o := 5) rfl
    have e6 := hB.cell (o := 6) rfl
    have e7 := hB.cell (o := 7) rfl
    have e8 := hB.cell (o := 8) rfl
    clear hB
    go_wp2_with (first | (go_at_call 108; with_reducible refine Calls.mono (C1.out _) ?_; rintro e w2 ⟨rfl, rfl⟩) | (go_at_call 108; with_reducible refine Calls.mono (C2.out _) ?_; rintro e w2 ⟨rfl, rfl⟩) | (go_at_call 108; with_reducible refine Calls.mono (C3.out _) ?_; rintro e w2 ⟨rfl, rfl⟩))
    go_ret
    exact ⟨rfl, hk1⟩
  by_cases g6 : (0 ≤ off ∧ off ≤ 1073741824)
  rotate_left
  · clear h
    have q0 : decide ((1 : Int) ≤ kind) = true := by exact decide_eq_true (by omega)
    have q1 : decide (kind ≤ (12 : Int)) = true := by exact decide_eq_true (by omega)
    have C1 := Lib.hid fun w => within_yes g2.1 g2.2 w
    have C2 := Lib.hid fun w => within_yes g3.1 g3.2 w
    have C3 := Lib.hid fun w => within_yes g4.1 g4.2 w
    have q5 : decide ((msg : Int) ≤ 1152921504606846976) = true := by exact decide_eq_true (by omega)
    have C4 := Lib.hid fun w => within_no g6 w
    clear g0 g1 g2 g3 g4 g5 g6
    go_enter Try.func88, Try.ntmps88
    go_upto_region 1 with fail
    have hB : Blk (w.alloc (.cells #[.int .i64 kind, .int .i64 src, .int .i64 dst, .int .i64 prio, .int .u64 (msg : Int), .int .i64 off, .int .i64 len, .int .i64 total, .int .i64 num, .slice s data.length c] 35)) w.heap.size [.int .i64 kind, .int .i64 src, .int .i64 dst, .int .i64 prio, .int .u64 (msg : Int), .int .i64 off, .int .i64 len, .int .i64 total, .int .i64 num, .slice s data.length c] 35 := Blk.new w _ _
    have hk1 : Kept (fun _ => False) w (w.alloc (.cells #[.int .i64 kind, .int .i64 src, .int .i64 dst, .int .i64 prio, .int .u64 (msg : Int), .int .i64 off, .int .i64 len, .int .i64 total, .int .i64 num, .slice s data.length c] 35)) := (Kept.refl _ w).alloc _
    generalize w.alloc (.cells #[.int .i64 kind, .int .i64 src, .int .i64 dst, .int .i64 prio, .int .u64 (msg : Int), .int .i64 off, .int .i64 len, .int .i64 total, .int .i64 num, .slice s data.length c] 35) = w1 at *
    generalize w.heap.size = vb at *
    have e0 := hB.cell (o := 0) rfl
    have e1 := hB.cell (o := 1) rfl
    have e2 := hB.cell (o := 2) rfl
    have e3 := hB.cell (o := 3) rfl
    have e4 := hB.cell (o := 4) rfl
    have e5 := hB.cell (o := 5) rfl
    have e6 := hB.cell (o := 6) rfl
    have e7 := hB.cell (o := 7) rfl
    have e8 := hB.cell (o := 8) rfl
    clear hB
    go_wp2_with (first | (go_at_call 108; with_reducible refine Calls.mono (C1.out _) ?_; rintro e w2 ⟨rfl, rfl⟩) | (go_at_call 108; with_reducible refine Calls.mono (C2.out _) ?_; rintro e w2 ⟨rfl, rfl⟩) | (go_at_call 108; with_reducible refine Calls.mono (C3.out _) ?_; rintro e w2 ⟨rfl, rfl⟩) | (go_at_call 108; with_reducible refine Calls.mono (C4.out _) ?_; rintro e w2 ⟨rfl, rfl⟩))
    go_ret
    exact ⟨rfl, hk1⟩
  by_cases g7 : (0 ≤ total ∧ total ≤ 1073741824)
  rotate_left
  · clear h
    have q0 : decide ((1 : Int) ≤ kind) = true := by exact decide_eq_true (by omega)
    have q1 : decide (kind ≤ (12 : Int)) = true := by exact decide_eq_true (by omega)
    have C1 := Lib.hid fun w => within_yes g2.1 g2.2 w
    have C2 := Lib.hid fun w => within_yes g3.1 g3.2 w
    have C3 := Lib.hid fun w => within_yes g4.1 g4.2 w
    have q5 : decide ((msg : Int) ≤ 1152921504606846976) = true := by exact decide_eq_true (by omega)
    have C4 := Lib.hid fun w => within_yes g6.1 g6.2 w
    have C5 := Lib.hid fun w => within_no g7 w
    clear g0 g1 g2 g3 g4 g5 g6 g7
    go_enter Try.func88, Try.ntmps88
    go_upto_region 1 with fail
    have hB : Blk (w.alloc (.cells #[.int .i64 kind, .int .i64 src, .int .i64 dst, .int .i64 prio, .int .u64 (msg : Int), .int .i64 off, .int .i64 len, .int .i64 total, .int .i64 num, .slice s data.length c] 35)) w.heap.size [.int .i64 kind, .int .i64 src, .int .i64 dst, .int .i64 prio, .int .u64 (msg : Int), .int .i64 off, .int .i64 len, .int .i64 total, .int .i64 num, .slice s data.length c] 35 := Blk.new w _ _
    have hk1 : Kept (fun _ => False) w (w.alloc (.cells #[.int .i64 kind, .int .i64 src, .int .i64 dst, .int .i64 prio, .int .u64 (msg : Int), .int .i64 off, .int .i64 len, .int .i64 total, .int .i64 num, .slice s data.length c] 35)) := (Kept.refl _ w).alloc _
    generalize w.alloc (.cells #[.int .i64 kind, .int .i64 src, .int .i64 dst, .int .i64 prio, .int .u64 (msg : Int), .int .i64 off, .int .i64 len, .int .i64 total, .int .i64 num, .slice s data.length c] 35) = w1 at *
    generalize w.heap.size = vb at *
    have e0 := hB.cell (o := 0) rfl
    have e1 := hB.cell (o := 1) rfl
    have e2 := hB.cell (o := 2) rfl
    have e3 := hB.cell (o := 3) rfl
    have e4 := hB.cell (o := 4) rfl
    have e5 := hB.cell (o := 5) rfl
    have e6 := hB.cell (o := 6) rfl
    have e7 := hB.cell (o := 7) rfl
    have e8 := hB.cell (o := 8) rfl
    clear hB
    go_wp2_with (first | (go_at_call 108; with_reducible refine Calls.mono (C1.out _) ?_; rintro e w2 ⟨rfl, rfl⟩) | (go_at_call 108; with_reducible refine Calls.mono (C2.out _) ?_; rintro e w2 ⟨rfl, rfl⟩) | (go_at_call 108; with_reducible refine Calls.mono (C3.out _) ?_; rintro e w2 ⟨rfl, rfl⟩) | (go_at_call 108; with_reducible refine Calls.mono (C4.out _) ?_; rintro e w2 ⟨rfl, rfl⟩) | (go_at_call 108; with_reducible refine Calls.mono (C5.out _) ?_; rintro e w2 ⟨rfl, rfl⟩))
    go_ret
    exact ⟨rfl, hk1⟩
  by_cases g8 : (0 ≤ len ∧ len ≤ 1500)
  rotate_left
  · clear h
    have q0 : decide ((1 : Int) ≤ kind) = true := by exact decide_eq_true (by omega)
    have q1 : decide (kind ≤ (12 : Int)) = true := by exact decide_eq_true (by omega)
    have C1 := Lib.hid fun w => within_yes g2.1 g2.2 w
    have C2 := Lib.hid fun w => within_yes g3.1 g3.2 w
    have C3 := Lib.hid fun w => within_yes g4.1 g4.2 w
    have q5 : decide ((msg : Int) ≤ 1152921504606846976) = true := by exact decide_eq_true (by omega)
    have C4 := Lib.hid fun w => within_yes g6.1 g6.2 w
    have C5 := Lib.hid fun w => within_yes g7.1 g7.2 w
    have C6 := Lib.hid fun w => within_no g8 w
    clear g0 g1 g2 g3 g4 g5 g6 g7 g8
    go_enter Try.func88, Try.ntmps88
    go_upto_region 1 with fail
    have hB : Blk (w.alloc (.cells #[.int .i64 kind, .int .i64 src, .int .i64 dst, .int .i64 prio, .int .u64 (msg : Int), .int .i64 off, .int .i64 len, .int .i64 total, .int .i64 num, .slice s data.length c] 35)) w.heap.size [.int .i64 kind, .int .i64 src, .int .i64 dst, .int .i64 prio, .int .u64 (msg : Int), .int .i64 off, .int .i64 len, .int .i64 total, .int .i64 num, .slice s data.length c] 35 := Blk.new w _ _
    have hk1 : Kept (fun _ => False) w (w.alloc (.cells #[.int .i64 kind, .int .i64 src, .int .i64 dst, .int .i64 prio, .int .u64 (msg : Int), .int .i64 off, .int .i64 len, .int .i64 total, .int .i64 num, .slice s data.length c] 35)) := (Kept.refl _ w).alloc _
    generalize w.alloc (.cells #[.int .i64 kind, .int .i64 src, .int .i64 dst, .int .i64 prio, .int .u64 (msg : Int), .int .i64 off, .int .i64 len, .int .i64 total, .int .i64 num, .slice s data.length c] 35) = w1 at *
    generalize w.heap.size = vb at *
    have e0 := hB.cell (o := 0) rfl
    have e1 := hB.cell (o := 1) rfl
    have e2 := hB.cell (o := 2) rfl
    have e3 := hB.cell (o := 3) rfl
    have e4 := hB.cell (o := 4) rfl
    have e5 := hB.cell (o := 5) rfl
    have e6 := hB.cell (o := 6) rfl
    have e7 := hB.cell (o := 7) rfl
    have e8 := hB.cell (o := 8) rfl
    clear hB
    go_wp2_with (first | (go_at_call 108; with_reducible refine Calls.mono (C1.out _) ?_; rintro e w2 ⟨rfl, rfl⟩) | (go_at_call 108; with_reducible refine Calls.mono (C2.out _) ?_; rintro e w2 ⟨rfl, rfl⟩) | (go_at_call 108; with_reducible refine Calls.mono (C3.out _) ?_; rintro e w2 ⟨rfl, rfl⟩) | (go_at_call 108; with_reducible refine Calls.mono (C4.out _) ?_; rintro e w2 ⟨rfl, rfl⟩) | (go_at_call 108; with_reducible refine Calls.mono (C5.out _) ?_; rintro e w2 ⟨rfl, rfl⟩) | (go_at_call 108; with_reducible refine Calls.mono (C6.out _) ?_; rintro e w2 ⟨rfl, rfl⟩))
    go_ret
    exact ⟨rfl, hk1⟩
  by_cases g9 : (0 ≤ num ∧ num ≤ 1073741824)
  rotate_left
  · clear h
    have q0 : decide ((1 : Int) ≤ kind) = true := by exact decide_eq_true (by omega)
    have q1 : decide (kind ≤ (12 : Int)) = true := by exact decide_eq_true (by omega)
    have C1 := Lib.hid fun w => within_yes g2.1 g2.2 w
    have C2 := Lib.hid fun w => within_yes g3.1 g3.2 w
    have C3 := Lib.hid fun w => within_yes g4.1 g4.2 w
    have q5 : decide ((msg : Int) ≤ 1152921504606846976) = true := by exact decide_eq_true (by omega)
    have C4 := Lib.hid fun w => within_yes g6.1 g6.2 w
    have C5 := Lib.hid fun w => within_yes g7.1 g7.2 w
    have C6 := Lib.hid fun w => within_yes g8.1 g8.2 w
    have C7 := Lib.hid fun w => within_no g9 w
    clear g0 g1 g2 g3 g4 g5 g6 g7 g8 g9
    go_enter Try.func88, Try.ntmps88
    go_upto_region 1 with fail
    have hB : Blk (w.alloc (.cells #[.int .i64 kind, .int .i64 src, .int .i64 dst, .int .i64 prio, .int .u64 (msg : Int), .int .i64 off, .int .i64 len, .int .i64 total, .int .i64 num, .slice s data.length c] 35)) w.heap.size [.int .i64 kind, .int .i64 src, .int .i64 dst, .int .i64 prio, .int .u64 (msg : Int), .int .i64 off, .int .i64 len, .int .i64 total, .int .i64 num, .slice s data.length c] 35 := Blk.new w _ _
    have hk1 : Kept (fun _ => False) w (w.alloc (.cells #[.int .i64 kind, .int .i64 src, .int .i64 dst, .int .i64 prio, .int .u64 (msg : Int), .int .i64 off, .int .i64 len, .int .i64 total, .int .i64 num, .slice s data.length c] 35)) := (Kept.refl _ w).alloc _
    generalize w.alloc (.cells #[.int .i64 kind, .int .i64 src, .int .i64 dst, .int .i64 prio, .int .u64 (msg : Int), .int .i64 off, .int .i64 len, .int .i64 total, .int .i64 num, .slice s data.length c] 35) = w1 at *
    generalize w.heap.size = vb at *
    have e0 := hB.cell (o := 0) rfl
    have e1 := hB.cell (o := 1) rfl
    have e2 := hB.cell (o := 2) rfl
    have e3 := hB.cell (o := 3) rfl
    have e4 := hB.cell (o := 4) rfl
    have e5 := hB.cell (o := 5) rfl
    have e6 := hB.cell (o := 6) rfl
    have e7 := hB.cell (o := 7) rfl
    have e8 := hB.cell (o := 8) rfl
    clear hB
    go_wp2_with (first | (go_at_call 108; with_reducible refine Calls.mono (C1.out _) ?_; rintro e w2 ⟨rfl, rfl⟩) | (go_at_call 108; with_reducible refine Calls.mono (C2.out _) ?_; rintro e w2 ⟨rfl, rfl⟩) | (go_at_call 108; with_reducible refine Calls.mono (C3.out _) ?_; rintro e w2 ⟨rfl, rfl⟩) | (go_at_call 108; with_reducible refine Calls.mono (C4.out _) ?_; rintro e w2 ⟨rfl, rfl⟩) | (go_at_call 108; with_reducible refine Calls.mono (C5.out _) ?_; rintro e w2 ⟨rfl, rfl⟩) | (go_at_call 108; with_reducible refine Calls.mono (C6.out _) ?_; rintro e w2 ⟨rfl, rfl⟩) | (go_at_call 108; with_reducible refine Calls.mono (C7.out _) ?_; rintro e w2 ⟨rfl, rfl⟩))
    go_ret
    exact ⟨rfl, hk1⟩
  exact absurd ⟨⟨g0, g1⟩, g2, g3, g4, g5, g6, g7, g8, g9⟩ h
set_option maxHeartbeats 4000000 in
set_option maxRecDepth 100000 in
theorem rng_yes {f : Frm} (hF : Fit f) (h : Rng f) (s : Option Addr) (c : Nat) (w : World) : Calls Try.prog 89 #[fv f s c] w (Ans w (.bool true)) := by
  obtain ⟨kind, src, dst, prio, msg, off, len, total, num, data⟩ := f
  obtain ⟨_, _, _, _, _, ⟨o1, o2⟩, ⟨t1, t2⟩, ⟨l1, l2⟩, _⟩ := hF
  unfold Rng at h
  dsimp only at *
  unfold fv fcs
  dsimp only
  have hw : IntKind.i64.wrap (off + len) = off + len := by rw [IntKind.wrap_i64]; omega
  by_cases hk : kind = 1 ∨ kind = 7
  rotate_left
  · have h1 : (kind != 1) = true := by rw [bne_iff_ne]; omega
    have h2 : (kind != 7) = true := by rw [bne_iff_ne]; omega
    clear h hk o1 o2 t1 t2 l1 l2
    go_enter Try.func89, Try.ntmps89
    go_upto_region 1 with fail
    have hB : Blk (w.alloc (.cells #[.int .i64 kind, .int .i64 src, .int .i64 dst, .int .i64 prio, .int .u64 (msg : Int), .int .i64 off, .int .i64 len, .int .i64 total, .int .i64 num, .slice s data.length c] 35)) w.heap.size [.int .i64 kind, .int .i64 src, .int .i64 dst, .int .i64 prio, .int .u64 (msg : Int), .int .i64 off, .int .i64 len, .int .i64 total, .int .i64 num, .slice s data.length c] 35 := Blk.new w _ _
    have hk1 : Kept (fun _ => False) w (w.alloc (.cells #[.int .i64 kind, .int .i64 src, .int .i64 dst, .int .i64 prio, .int .u64 (msg : Int), .int .i64 off, .int .i64 len, .int .i64 total, .int .i64 num, .slice s data.length c] 35)) := (Kept.refl _ w).alloc _
    generalize w.alloc (.cells #[.int .i64 kind, .int .i64 src, .int .i64 dst, .int .i64 prio, .int .u64 (msg : Int), .int .i64 off, .int .i64 len, .int .i64 total, .int .i64 num, .slice s data.length c] 35) = w1 at *
    generalize w.heap.size = vb at *
    have e0 := hB.cell (o := 0) rfl
    clear hB
    go_wp2_with fail
    go_ret
    exact ⟨rfl, hk1⟩
  have hd : decide (off + len ≤ total) = true := by exact decide_eq_true (h hk)
  clear h o1 o2 t1 t2 l1 l2
  rcases hk with rfl | rfl
  · go_enter Try.func89, Try.ntmps89
    go_upto_region 1 with fail
    have hB : Blk (w.alloc (.cells #[.int .i64 1, .int .i64 src, .int .i64 dst, .int .i64 prio, .int .u64 (msg : Int), .int .i64 off, .int .i64 len, .int .i64 total, .int .i64 num, .slice s data.length c] 35)) w.heap.size [.int .i64 1, .int .i64 src, .int .i64 dst, .int .i64 prio, .int .u64 (msg : Int), .int .i64 off, .int .i64 len, .int .i64 total, .int .i64 num, .slice s data.length c] 35 := Blk.new w _ _
    have hk1 : Kept (fun _ => False) w (w.alloc (.cells #[.int .i64 1, .int .i64 src, .int .i64 dst, .int .i64 prio, .int .u64 (msg : Int), .int .i64 off, .int .i64 len, .int .i64 total, .int .i64 num, .slice s data.length c] 35)) := (Kept.refl _ w).alloc _
    generalize w.alloc (.cells #[.int .i64 1, .int .i64 src, .int .i64 dst, .int .i64 prio, .int .u64 (msg : Int), .int .i64 off, .int .i64 len, .int .i64 total, .int .i64 num, .slice s data.length c] 35) = w1 at *
    generalize w.heap.size = vb at *
    have e0 := hB.cell (o := 0) rfl
    have e5 := hB.cell (o := 5) rfl
    have e6 := hB.cell (o := 6) rfl
    have e7 := hB.cell (o := 7) rfl
    clear hB
    go_wp2_with fail
    go_ret
    exact ⟨rfl, hk1⟩
  · go_enter Try.func89, Try.ntmps89
    go_upto_region 1 with fail
    have hB : Blk (w.alloc (.cells #[.int .i64 7, .int .i64 src, .int .i64 dst, .int .i64 prio, .int .u64 (msg : Int), .int .i64 off, .int .i64 len, .int .i64 total, .int .i64 num, .slice s data.length c] 35)) w.heap.size [.int .i64 7, .int .i64 src, .int .i64 dst, .int .i64 prio, .int .u64 (msg : Int), .int .i64 off, .int .i64 len, .int .i64 total, .int .i64 num, .slice s data.length c] 35 := Blk.new w _ _
    have hk1 : Kept (fun _ => False) w (w.alloc (.cells #[.int .i64 7, .int .i64 src, .int .i64 dst, .int .i64 prio, .int .u64 (msg : Int), .int .i64 off, .int .i64 len, .int .i64 total, .int .i64 num, .slice s data.length c] 35)) := (Kept.refl _ w).alloc _
    generalize w.alloc (.cells #[.int .i64 7, .int .i64 src, .int .i64 dst, .int .i64 prio, .int .u64 (msg : Int), .int .i64 off, .int .i64 len, .int .i64 total, .int .i64 num, .slice s data.length c] 35) = w1 at *
    generalize w.heap.size = vb at *
    have e0 := hB.cell (o := 0) rfl
    have e5 := hB.cell (o := 5) rfl
    have e6 := hB.cell (o := 6) rfl
    have e7 := hB.cell (o := 7) rfl
    clear hB
    go_wp2_with fail
    go_ret
    exact ⟨rfl, hk1⟩
set_option maxHeartbeats 4000000 in
set_option maxRecDepth 100000 in
theorem rng_no {f : Frm} (hF : Fit f) (h : ¬ Rng f) (s : Option Addr) (c : Nat) (w : World) : Calls Try.prog 89 #[fv f s c] w (Ans w (.bool false)) := by
  obtain ⟨kind, src, dst, prio, msg, off, len, total, num, data⟩ := f
  obtain ⟨_, _, _, _, _, ⟨o1, o2⟩, ⟨t1, t2⟩, ⟨l1, l2⟩, _⟩ := hF
  unfold Rng at h
  dsimp only at *
  unfold fv fcs
  dsimp only
  have hw : IntKind.i64.wrap (off + len) = off + len := by rw [IntKind.wrap_i64]; omega
  have hk : kind = 1 ∨ kind = 7 := by omega
  have hd : decide (off + len ≤ total) = false := by rw [decide_eq_false_iff_not]; omega
  clear h o1 o2 t1 t2 l1 l2
  rcases hk with rfl | rfl
  · go_enter Try.func89, Try.ntmps89
    go_upto_region 1 with fail
    have hB : Blk (w.alloc (.cells #[.int .i64 1, .int .i64 src, .int .i64 dst, .int .i64 prio, .int .u64 (msg : Int), .int .i64 off, .int .i64 len, .int .i64 total, .int .i64 num, .slice s data.length c] 35)) w.heap.size [.int .i64 1, .int .i64 src, .int .i64 dst, .int .i64 prio, .int .u64 (msg : Int), .int .i64 off, .int .i64 len, .int .i64 total, .int .i64 num, .slice s data.length c] 35 := Blk.new w _ _
    have hk1 : Kept (fun _ => False) w (w.alloc (.cells #[.int .i64 1, .int .i64 src, .int .i64 dst, .int .i64 prio, .int .u64 (msg : Int), .int .i64 off, .int .i64 len, .int .i64 total, .int .i64 num, .slice s data.length c] 35)) := (Kept.refl _ w).alloc _
    generalize w.alloc (.cells #[.int .i64 1, .int .i64 src, .int .i64 dst, .int .i64 prio, .int .u64 (msg : Int), .int .i64 off, .int .i64 len, .int .i64 total, .int .i64 num, .slice s data.length c] 35) = w1 at *
    generalize w.heap.size = vb at *
    have e0 := hB.cell (o := 0) rfl
    have e5 := hB.cell (o := 5) rfl
    have e6 := hB.cell (o := 6) rfl
    have e7 := hB.cell (o := 7) rfl
    clear hB
    go_wp2_with fail
    go_ret
    exact ⟨rfl, hk1⟩
  · go_enter Try.func89, Try.ntmps89
    go_upto_region 1 with fail
    have hB : Blk (w.alloc (.cells #[.int .i64 7, .int .i64 src, .int .i64 dst, .int .i64 prio, .int .u64 (msg : Int), .int .i64 off, .int .i64 len, .int .i64 total, .int .i64 num, .slice s data.length c] 35)) w.heap.size [.int .i64 7, .int .i64 src, .int .i64 dst, .int .i64 prio, .int .u64 (msg : Int), .int .i64 off, .int .i64 len, .int .i64 total, .int .i64 num, .slice s data.length c] 35 := Blk.new w _ _
    have hk1 : Kept (fun _ => False) w (w.alloc (.cells #[.int .i64 7, .int .i64 src, .int .i64 dst, .int .i64 prio, .int .u64 (msg : Int), .int .i64 off, .int .i64 len, .int .i64 total, .int .i64 num, .slice s data.length c] 35)) := (Kept.refl _ w).alloc _
    generalize w.alloc (.cells #[.int .i64 7, .int .i64 src, .int .i64 dst, .int .i64 prio, .int .u64 (msg : Int), .int .i64 off, .int .i64 len, .int .i64 total, .int .i64 num, .slice s data.length c] 35) = w1 at *
    generalize w.heap.size = vb at *
    have e0 := hB.cell (o := 0) rfl
    have e5 := hB.cell (o := 5) rfl
    have e6 := hB.cell (o := 6) rfl
    have e7 := hB.cell (o := 7) rfl
    clear hB
    go_wp2_with fail
    go_ret
    exact ⟨rfl, hk1⟩
end Go.Proofs.Ytompbpiaapenaaa.Wr

