/- Frames: the reference's Check. Conditions: each theorem's own. -/
import Derived.Test.YtpogpibjkolioaaGreatFpK4
set_option linter.unusedVariables false
set_option linter.unusedSimpArgs false
namespace Go.Proofs.YtpogpibjkolioaaGreat.Wr
open Classical
open Go.RowKit Hp WrM
attribute [local go_sem ↓] Go.wp_at_zero Go.wp_at_succ
set_option maxHeartbeats 4000000 in
set_option maxRecDepth 100000 in
theorem checkR_fit {f : Frm} (h : ¬ Fit f) (s : Option Addr) (c : Nat) (w : World) : Calls Tryz.prog 35 #[fv f s c] w (Ans w (.int .i64 1)) := by
 obtain ⟨kind, src, dst, prio, msg, off, len, total, num, data⟩ := f
 unfold Fit at h
 dsimp only at h
 unfold fv fcs
 dsimp only
 by_cases g0 : (1 ≤ kind ∧ kind ≤ 12)
 rotate_left
 ·clear h
  by_cases u : kind < 1
  ·have ua : decide (kind < (1 : Int)) = true := by exact decide_eq_true (by omega)
   clear g0
   go_enter Tryz.func35, Tryz.ntmps35
   go_upto_region 1 with fail
   have hB : Blk (w.alloc (.cells #[.int .i64 kind, .int .i64 src, .int .i64 dst, .int .i64 prio, .int .u64 (msg : Int), .int .i64 off, .int .i64 len, .int .i64 total, .int .i64 num, .slice s data.length c] 35)) w.heap.size [.int .i64 kind, .int .i64 src, .int .i64 dst, .int .i64 prio, .int .u64 (msg : Int), .int .i64 off, .int .i64 len, .int .i64 total, .int .i64 num, .slice s data.length c] 35 := Blk.new w _ _
   have hk1 : Kept (fun _ => False) w (w.alloc (.cells #[.int .i64 kind, .int .i64 src, .int .i64 dst, .int .i64 prio, .int .u64 (msg : Int), .int .i64 off, .int .i64 len, .int .i64 total, .int .i64 num, .slice s data.length c] 35)) := (Kept.refl _ w).alloc _
   generalize w.alloc (.cells #[.int .i64 kind, .int .i64 src, .int .i64 dst, .int .i64 prio, .int .u64 (msg : Int), .int .i64 off, .int .i64 len, .int .i64 total, .int .i64 num, .slice s data.length c] 35) = w1 at *
   generalize w.heap.size = vb at *
   obtain ⟨e0, e1, e2, e3, e4, e5, e6, e7, e8⟩ := cs9 hB
   clear hB
   go_wp2_with fail
   go_ret
   exact ⟨rfl, hk1⟩
  ·have ua : decide (kind < (1 : Int)) = false := by rw [decide_eq_false_iff_not]; omega
   have ub : decide ((12 : Int) < kind) = true := by exact decide_eq_true (by omega)
   clear g0
   go_enter Tryz.func35, Tryz.ntmps35
   go_upto_region 1 with fail
   have hB : Blk (w.alloc (.cells #[.int .i64 kind, .int .i64 src, .int .i64 dst, .int .i64 prio, .int .u64 (msg : Int), .int .i64 off, .int .i64 len, .int .i64 total, .int .i64 num, .slice s data.length c] 35)) w.heap.size [.int .i64 kind, .int .i64 src, .int .i64 dst, .int .i64 prio, .int .u64 (msg : Int), .int .i64 off, .int .i64 len, .int .i64 total, .int .i64 num, .slice s data.length c] 35 := Blk.new w _ _
   have hk1 : Kept (fun _ => False) w (w.alloc (.cells #[.int .i64 kind, .int .i64 src, .int .i64 dst, .int .i64 prio, .int .u64 (msg : Int), .int .i64 off, .int .i64 len, .int .i64 total, .int .i64 num, .slice s data.length c] 35)) := (Kept.refl _ w).alloc _
   generalize w.alloc (.cells #[.int .i64 kind, .int .i64 src, .int .i64 dst, .int .i64 prio, .int .u64 (msg : Int), .int .i64 off, .int .i64 len, .int .i64 total, .int .i64 num, .slice s data.length c] 35) = w1 at *
   generalize w.heap.size = vb at *
   obtain ⟨e0, e1, e2, e3, e4, e5, e6, e7, e8⟩ := cs9 hB
   clear hB
   go_wp2_with fail
   go_ret
   exact ⟨rfl, hk1⟩
 by_cases g1 : (0 ≤ src ∧ src ≤ 7)
 rotate_left
 ·clear h
  by_cases u : src < 0
  ·have q0a : decide (kind < (1 : Int)) = false := by rw [decide_eq_false_iff_not]; omega
   have q0b : decide ((12 : Int) < kind) = false := by rw [decide_eq_false_iff_not]; omega
   have ua : decide (src < (0 : Int)) = true := by exact decide_eq_true (by omega)
   clear g0 g1
   go_enter Tryz.func35, Tryz.ntmps35
   go_upto_region 1 with fail
   have hB : Blk (w.alloc (.cells #[.int .i64 kind, .int .i64 src, .int .i64 dst, .int .i64 prio, .int .u64 (msg : Int), .int .i64 off, .int .i64 len, .int .i64 total, .int .i64 num, .slice s data.length c] 35)) w.heap.size [.int .i64 kind, .int .i64 src, .int .i64 dst, .int .i64 prio, .int .u64 (msg : Int), .int .i64 off, .int .i64 len, .int .i64 total, .int .i64 num, .slice s data.length c] 35 := Blk.new w _ _
   have hk1 : Kept (fun _ => False) w (w.alloc (.cells #[.int .i64 kind, .int .i64 src, .int .i64 dst, .int .i64 prio, .int .u64 (msg : Int), .int .i64 off, .int .i64 len, .int .i64 total, .int .i64 num, .slice s data.length c] 35)) := (Kept.refl _ w).alloc _
   generalize w.alloc (.cells #[.int .i64 kind, .int .i64 src, .int .i64 dst, .int .i64 prio, .int .u64 (msg : Int), .int .i64 off, .int .i64 len, .int .i64 total, .int .i64 num, .slice s data.length c] 35) = w1 at *
   generalize w.heap.size = vb at *
   obtain ⟨e0, e1, e2, e3, e4, e5, e6, e7, e8⟩ := cs9 hB
   clear hB
   go_wp2_with fail
   go_ret
   exact ⟨rfl, hk1⟩
  ·have q0a : decide (kind < (1 : Int)) = false := by rw [decide_eq_false_iff_not]; omega
   have q0b : decide ((12 : Int) < kind) = false := by rw [decide_eq_false_iff_not]; omega
   have ua : decide (src < (0 : Int)) = false := by rw [decide_eq_false_iff_not]; omega
   have ub : decide ((7 : Int) < src) = true := by exact decide_eq_true (by omega)
   clear g0 g1
   go_enter Tryz.func35, Tryz.ntmps35
   go_upto_region 1 with fail
   have hB : Blk (w.alloc (.cells #[.int .i64 kind, .int .i64 src, .int .i64 dst, .int .i64 prio, .int .u64 (msg : Int), .int .i64 off, .int .i64 len, .int .i64 total, .int .i64 num, .slice s data.length c] 35)) w.heap.size [.int .i64 kind, .int .i64 src, .int .i64 dst, .int .i64 prio, .int .u64 (msg : Int), .int .i64 off, .int .i64 len, .int .i64 total, .int .i64 num, .slice s data.length c] 35 := Blk.new w _ _
   have hk1 : Kept (fun _ => False) w (w.alloc (.cells #[.int .i64 kind, .int .i64 src, .int .i64 dst, .int .i64 prio, .int .u64 (msg : Int), .int .i64 off, .int .i64 len, .int .i64 total, .int .i64 num, .slice s data.length c] 35)) := (Kept.refl _ w).alloc _
   generalize w.alloc (.cells #[.int .i64 kind, .int .i64 src, .int .i64 dst, .int .i64 prio, .int .u64 (msg : Int), .int .i64 off, .int .i64 len, .int .i64 total, .int .i64 num, .slice s data.length c] 35) = w1 at *
   generalize w.heap.size = vb at *
   obtain ⟨e0, e1, e2, e3, e4, e5, e6, e7, e8⟩ := cs9 hB
   clear hB
   go_wp2_with fail
   go_ret
   exact ⟨rfl, hk1⟩
 by_cases g2 : (0 ≤ dst ∧ dst ≤ 7)
 rotate_left
 ·clear h
  by_cases u : dst < 0
  ·have q0a : decide (kind < (1 : Int)) = false := by rw [decide_eq_false_iff_not]; omega
   have q0b : decide ((12 : Int) < kind) = false := by rw [decide_eq_false_iff_not]; omega
   have q1a : decide (src < (0 : Int)) = false := by rw [decide_eq_false_iff_not]; omega
   have q1b : decide ((7 : Int) < src) = false := by rw [decide_eq_false_iff_not]; omega
   have ua : decide (dst < (0 : Int)) = true := by exact decide_eq_true (by omega)
   clear g0 g1 g2
   go_enter Tryz.func35, Tryz.ntmps35
   go_upto_region 1 with fail
   have hB : Blk (w.alloc (.cells #[.int .i64 kind, .int .i64 src, .int .i64 dst, .int .i64 prio, .int .u64 (msg : Int), .int .i64 off, .int .i64 len, .int .i64 total, .int .i64 num, .slice s data.length c] 35)) w.heap.size [.int .i64 kind, .int .i64 src, .int .i64 dst, .int .i64 prio, .int .u64 (msg : Int), .int .i64 off, .int .i64 len, .int .i64 total, .int .i64 num, .slice s data.length c] 35 := Blk.new w _ _
   have hk1 : Kept (fun _ => False) w (w.alloc (.cells #[.int .i64 kind, .int .i64 src, .int .i64 dst, .int .i64 prio, .int .u64 (msg : Int), .int .i64 off, .int .i64 len, .int .i64 total, .int .i64 num, .slice s data.length c] 35)) := (Kept.refl _ w).alloc _
   generalize w.alloc (.cells #[.int .i64 kind, .int .i64 src, .int .i64 dst, .int .i64 prio, .int .u64 (msg : Int), .int .i64 off, .int .i64 len, .int .i64 total, .int .i64 num, .slice s data.length c] 35) = w1 at *
   generalize w.heap.size = vb at *
   obtain ⟨e0, e1, e2, e3, e4, e5, e6, e7, e8⟩ := cs9 hB
   clear hB
   go_wp2_with fail
   go_ret
   exact ⟨rfl, hk1⟩
  ·have q0a : decide (kind < (1 : Int)) = false := by rw [decide_eq_false_iff_not]; omega
   have q0b : decide ((12 : Int) < kind) = false := by rw [decide_eq_false_iff_not]; omega
   have q1a : decide (src < (0 : Int)) = false := by rw [decide_eq_false_iff_not]; omega
   have q1b : decide ((7 : Int) < src) = false := by rw [decide_eq_false_iff_not]; omega
   have ua : decide (dst < (0 : Int)) = false := by rw [decide_eq_false_iff_not]; omega
   have ub : decide ((7 : Int) < dst) = true := by exact decide_eq_true (by omega)
   clear g0 g1 g2
   go_enter Tryz.func35, Tryz.ntmps35
   go_upto_region 1 with fail
   have hB : Blk (w.alloc (.cells #[.int .i64 kind, .int .i64 src, .int .i64 dst, .int .i64 prio, .int .u64 (msg : Int), .int .i64 off, .int .i64 len, .int .i64 total, .int .i64 num, .slice s data.length c] 35)) w.heap.size [.int .i64 kind, .int .i64 src, .int .i64 dst, .int .i64 prio, .int .u64 (msg : Int), .int .i64 off, .int .i64 len, .int .i64 total, .int .i64 num, .slice s data.length c] 35 := Blk.new w _ _
   have hk1 : Kept (fun _ => False) w (w.alloc (.cells #[.int .i64 kind, .int .i64 src, .int .i64 dst, .int .i64 prio, .int .u64 (msg : Int), .int .i64 off, .int .i64 len, .int .i64 total, .int .i64 num, .slice s data.length c] 35)) := (Kept.refl _ w).alloc _
   generalize w.alloc (.cells #[.int .i64 kind, .int .i64 src, .int .i64 dst, .int .i64 prio, .int .u64 (msg : Int), .int .i64 off, .int .i64 len, .int .i64 total, .int .i64 num, .slice s data.length c] 35) = w1 at *
   generalize w.heap.size = vb at *
   obtain ⟨e0, e1, e2, e3, e4, e5, e6, e7, e8⟩ := cs9 hB
   clear hB
   go_wp2_with fail
   go_ret
   exact ⟨rfl, hk1⟩
 by_cases g3 : (0 ≤ prio ∧ prio ≤ 7)
 rotate_left
 ·clear h
  by_cases u : prio < 0
  ·have q0a : decide (kind < (1 : Int)) = false := by rw [decide_eq_false_iff_not]; omega
   have q0b : decide ((12 : Int) < kind) = false := by rw [decide_eq_false_iff_not]; omega
   have q1a : decide (src < (0 : Int)) = false := by rw [decide_eq_false_iff_not]; omega
   have q1b : decide ((7 : Int) < src) = false := by rw [decide_eq_false_iff_not]; omega
   have q2a : decide (dst < (0 : Int)) = false := by rw [decide_eq_false_iff_not]; omega
   have q2b : decide ((7 : Int) < dst) = false := by rw [decide_eq_false_iff_not]; omega
   have ua : decide (prio < (0 : Int)) = true := by exact decide_eq_true (by omega)
   clear g0 g1 g2 g3
   go_enter Tryz.func35, Tryz.ntmps35
   go_upto_region 1 with fail
   have hB : Blk (w.alloc (.cells #[.int .i64 kind, .int .i64 src, .int .i64 dst, .int .i64 prio, .int .u64 (msg : Int), .int .i64 off, .int .i64 len, .int .i64 total, .int .i64 num, .slice s data.length c] 35)) w.heap.size [.int .i64 kind, .int .i64 src, .int .i64 dst, .int .i64 prio, .int .u64 (msg : Int), .int .i64 off, .int .i64 len, .int .i64 total, .int .i64 num, .slice s data.length c] 35 := Blk.new w _ _
   have hk1 : Kept (fun _ => False) w (w.alloc (.cells #[.int .i64 kind, .int .i64 src, .int .i64 dst, .int .i64 prio, .int .u64 (msg : Int), .int .i64 off, .int .i64 len, .int .i64 total, .int .i64 num, .slice s data.length c] 35)) := (Kept.refl _ w).alloc _
   generalize w.alloc (.cells #[.int .i64 kind, .int .i64 src, .int .i64 dst, .int .i64 prio, .int .u64 (msg : Int), .int .i64 off, .int .i64 len, .int .i64 total, .int .i64 num, .slice s data.length c] 35) = w1 at *
   generalize w.heap.size = vb at *
   obtain ⟨e0, e1, e2, e3, e4, e5, e6, e7, e8⟩ := cs9 hB
   clear hB
   go_wp2_with fail
   go_ret
   exact ⟨rfl, hk1⟩
  ·have q0a : decide (kind < (1 : Int)) = false := by rw [decide_eq_false_iff_not]; omega
   have q0b : decide ((12 : Int) < kind) = false := by rw [decide_eq_false_iff_not]; omega
   have q1a : decide (src < (0 : Int)) = false := by rw [decide_eq_false_iff_not]; omega
   have q1b : decide ((7 : Int) < src) = false := by rw [decide_eq_false_iff_not]; omega
   have q2a : decide (dst < (0 : Int)) = false := by rw [decide_eq_false_iff_not]; omega
   have q2b : decide ((7 : Int) < dst) = false := by rw [decide_eq_false_iff_not]; omega
   have ua : decide (prio < (0 : Int)) = false := by rw [decide_eq_false_iff_not]; omega
   have ub : decide ((7 : Int) < prio) = true := by exact decide_eq_true (by omega)
   clear g0 g1 g2 g3
   go_enter Tryz.func35, Tryz.ntmps35
   go_upto_region 1 with fail
   have hB : Blk (w.alloc (.cells #[.int .i64 kind, .int .i64 src, .int .i64 dst, .int .i64 prio, .int .u64 (msg : Int), .int .i64 off, .int .i64 len, .int .i64 total, .int .i64 num, .slice s data.length c] 35)) w.heap.size [.int .i64 kind, .int .i64 src, .int .i64 dst, .int .i64 prio, .int .u64 (msg : Int), .int .i64 off, .int .i64 len, .int .i64 total, .int .i64 num, .slice s data.length c] 35 := Blk.new w _ _
   have hk1 : Kept (fun _ => False) w (w.alloc (.cells #[.int .i64 kind, .int .i64 src, .int .i64 dst, .int .i64 prio, .int .u64 (msg : Int), .int .i64 off, .int .i64 len, .int .i64 total, .int .i64 num, .slice s data.length c] 35)) := (Kept.refl _ w).alloc _
   generalize w.alloc (.cells #[.int .i64 kind, .int .i64 src, .int .i64 dst, .int .i64 prio, .int .u64 (msg : Int), .int .i64 off, .int .i64 len, .int .i64 total, .int .i64 num, .slice s data.length c] 35) = w1 at *
   generalize w.heap.size = vb at *
   obtain ⟨e0, e1, e2, e3, e4, e5, e6, e7, e8⟩ := cs9 hB
   clear hB
   go_wp2_with fail
   go_ret
   exact ⟨rfl, hk1⟩
 by_cases g4 : msg ≤ 1152921504606846976
 rotate_left
 ·clear h
  have q0a : decide (kind < (1 : Int)) = false := by rw [decide_eq_false_iff_not]; omega
  have q0b : decide ((12 : Int) < kind) = false := by rw [decide_eq_false_iff_not]; omega
  have q1a : decide (src < (0 : Int)) = false := by rw [decide_eq_false_iff_not]; omega
  have q1b : decide ((7 : Int) < src) = false := by rw [decide_eq_false_iff_not]; omega
  have q2a : decide (dst < (0 : Int)) = false := by rw [decide_eq_false_iff_not]; omega
  have q2b : decide ((7 : Int) < dst) = false := by rw [decide_eq_false_iff_not]; omega
  have q3a : decide (prio < (0 : Int)) = false := by rw [decide_eq_false_iff_not]; omega
  have q3b : decide ((7 : Int) < prio) = false := by rw [decide_eq_false_iff_not]; omega
  have ub : decide ((1152921504606846976 : Int) < (msg : Int)) = true := by exact decide_eq_true (by omega)
  clear g0 g1 g2 g3 g4
  go_enter Tryz.func35, Tryz.ntmps35
  go_upto_region 1 with fail
  have hB : Blk (w.alloc (.cells #[.int .i64 kind, .int .i64 src, .int .i64 dst, .int .i64 prio, .int .u64 (msg : Int), .int .i64 off, .int .i64 len, .int .i64 total, .int .i64 num, .slice s data.length c] 35)) w.heap.size [.int .i64 kind, .int .i64 src, .int .i64 dst, .int .i64 prio, .int .u64 (msg : Int), .int .i64 off, .int .i64 len, .int .i64 total, .int .i64 num, .slice s data.length c] 35 := Blk.new w _ _
  have hk1 : Kept (fun _ => False) w (w.alloc (.cells #[.int .i64 kind, .int .i64 src, .int .i64 dst, .int .i64 prio, .int .u64 (msg : Int), .int .i64 off, .int .i64 len, .int .i64 total, .int .i64 num, .slice s data.length c] 35)) := (Kept.refl _ w).alloc _
  generalize w.alloc (.cells #[.int .i64 kind, .int .i64 src, .int .i64 dst, .int .i64 prio, .int .u64 (msg : Int), .int .i64 off, .int .i64 len, .int .i64 total, .int .i64 num, .slice s data.length c] 35) = w1 at *
  generalize w.heap.size = vb at *
  obtain ⟨e0, e1, e2, e3, e4, e5, e6, e7, e8⟩ := cs9 hB
  clear hB
  go_wp2_with fail
  go_ret
  exact ⟨rfl, hk1⟩
 by_cases g5 : (0 ≤ off ∧ off ≤ 1073741824)
 rotate_left
 ·clear h
  by_cases u : off < 0
  ·have q0a : decide (kind < (1 : Int)) = false := by rw [decide_eq_false_iff_not]; omega
   have q0b : decide ((12 : Int) < kind) = false := by rw [decide_eq_false_iff_not]; omega
   have q1a : decide (src < (0 : Int)) = false := by rw [decide_eq_false_iff_not]; omega
   have q1b : decide ((7 : Int) < src) = false := by rw [decide_eq_false_iff_not]; omega
   have q2a : decide (dst < (0 : Int)) = false := by rw [decide_eq_false_iff_not]; omega
   have q2b : decide ((7 : Int) < dst) = false := by rw [decide_eq_false_iff_not]; omega
   have q3a : decide (prio < (0 : Int)) = false := by rw [decide_eq_false_iff_not]; omega
   have q3b : decide ((7 : Int) < prio) = false := by rw [decide_eq_false_iff_not]; omega
   have q4b : decide ((1152921504606846976 : Int) < (msg : Int)) = false := by rw [decide_eq_false_iff_not]; omega
   have ua : decide (off < (0 : Int)) = true := by exact decide_eq_true (by omega)
   clear g0 g1 g2 g3 g4 g5
   go_enter Tryz.func35, Tryz.ntmps35
   go_upto_region 1 with fail
   have hB : Blk (w.alloc (.cells #[.int .i64 kind, .int .i64 src, .int .i64 dst, .int .i64 prio, .int .u64 (msg : Int), .int .i64 off, .int .i64 len, .int .i64 total, .int .i64 num, .slice s data.length c] 35)) w.heap.size [.int .i64 kind, .int .i64 src, .int .i64 dst, .int .i64 prio, .int .u64 (msg : Int), .int .i64 off, .int .i64 len, .int .i64 total, .int .i64 num, .slice s data.length c] 35 := Blk.new w _ _
   have hk1 : Kept (fun _ => False) w (w.alloc (.cells #[.int .i64 kind, .int .i64 src, .int .i64 dst, .int .i64 prio, .int .u64 (msg : Int), .int .i64 off, .int .i64 len, .int .i64 total, .int .i64 num, .slice s data.length c] 35)) := (Kept.refl _ w).alloc _
   generalize w.alloc (.cells #[.int .i64 kind, .int .i64 src, .int .i64 dst, .int .i64 prio, .int .u64 (msg : Int), .int .i64 off, .int .i64 len, .int .i64 total, .int .i64 num, .slice s data.length c] 35) = w1 at *
   generalize w.heap.size = vb at *
   obtain ⟨e0, e1, e2, e3, e4, e5, e6, e7, e8⟩ := cs9 hB
   clear hB
   go_wp2_with fail
   go_ret
   exact ⟨rfl, hk1⟩
  ·have q0a : decide (kind < (1 : Int)) = false := by rw [decide_eq_false_iff_not]; omega
   have q0b : decide ((12 : Int) < kind) = false := by rw [decide_eq_false_iff_not]; omega
   have q1a : decide (src < (0 : Int)) = false := by rw [decide_eq_false_iff_not]; omega
   have q1b : decide ((7 : Int) < src) = false := by rw [decide_eq_false_iff_not]; omega
   have q2a : decide (dst < (0 : Int)) = false := by rw [decide_eq_false_iff_not]; omega
   have q2b : decide ((7 : Int) < dst) = false := by rw [decide_eq_false_iff_not]; omega
   have q3a : decide (prio < (0 : Int)) = false := by rw [decide_eq_false_iff_not]; omega
   have q3b : decide ((7 : Int) < prio) = false := by rw [decide_eq_false_iff_not]; omega
   have q4b : decide ((1152921504606846976 : Int) < (msg : Int)) = false := by rw [decide_eq_false_iff_not]; omega
   have ua : decide (off < (0 : Int)) = false := by rw [decide_eq_false_iff_not]; omega
   have ub : decide ((1073741824 : Int) < off) = true := by exact decide_eq_true (by omega)
   clear g0 g1 g2 g3 g4 g5
   go_enter Tryz.func35, Tryz.ntmps35
   go_upto_region 1 with fail
   have hB : Blk (w.alloc (.cells #[.int .i64 kind, .int .i64 src, .int .i64 dst, .int .i64 prio, .int .u64 (msg : Int), .int .i64 off, .int .i64 len, .int .i64 total, .int .i64 num, .slice s data.length c] 35)) w.heap.size [.int .i64 kind, .int .i64 src, .int .i64 dst, .int .i64 prio, .int .u64 (msg : Int), .int .i64 off, .int .i64 len, .int .i64 total, .int .i64 num, .slice s data.length c] 35 := Blk.new w _ _
   have hk1 : Kept (fun _ => False) w (w.alloc (.cells #[.int .i64 kind, .int .i64 src, .int .i64 dst, .int .i64 prio, .int .u64 (msg : Int), .int .i64 off, .int .i64 len, .int .i64 total, .int .i64 num, .slice s data.length c] 35)) := (Kept.refl _ w).alloc _
   generalize w.alloc (.cells #[.int .i64 kind, .int .i64 src, .int .i64 dst, .int .i64 prio, .int .u64 (msg : Int), .int .i64 off, .int .i64 len, .int .i64 total, .int .i64 num, .slice s data.length c] 35) = w1 at *
   generalize w.heap.size = vb at *
   obtain ⟨e0, e1, e2, e3, e4, e5, e6, e7, e8⟩ := cs9 hB
   clear hB
   go_wp2_with fail
   go_ret
   exact ⟨rfl, hk1⟩
 by_cases g6 : (0 ≤ total ∧ total ≤ 1073741824)
 rotate_left
 ·clear h
  by_cases u : total < 0
  ·have q0a : decide (kind < (1 : Int)) = false := by rw [decide_eq_false_iff_not]; omega
   have q0b : decide ((12 : Int) < kind) = false := by rw [decide_eq_false_iff_not]; omega
   have q1a : decide (src < (0 : Int)) = false := by rw [decide_eq_false_iff_not]; omega
   have q1b : decide ((7 : Int) < src) = false := by rw [decide_eq_false_iff_not]; omega
   have q2a : decide (dst < (0 : Int)) = false := by rw [decide_eq_false_iff_not]; omega
   have q2b : decide ((7 : Int) < dst) = false := by rw [decide_eq_false_iff_not]; omega
   have q3a : decide (prio < (0 : Int)) = false := by rw [decide_eq_false_iff_not]; omega
   have q3b : decide ((7 : Int) < prio) = false := by rw [decide_eq_false_iff_not]; omega
   have q4b : decide ((1152921504606846976 : Int) < (msg : Int)) = false := by rw [decide_eq_false_iff_not]; omega
   have q5a : decide (off < (0 : Int)) = false := by rw [decide_eq_false_iff_not]; omega
   have q5b : decide ((1073741824 : Int) < off) = false := by rw [decide_eq_false_iff_not]; omega
   have ua : decide (total < (0 : Int)) = true := by exact decide_eq_true (by omega)
   clear g0 g1 g2 g3 g4 g5 g6
   go_enter Tryz.func35, Tryz.ntmps35
   go_upto_region 1 with fail
   have hB : Blk (w.alloc (.cells #[.int .i64 kind, .int .i64 src, .int .i64 dst, .int .i64 prio, .int .u64 (msg : Int), .int .i64 off, .int .i64 len, .int .i64 total, .int .i64 num, .slice s data.length c] 35)) w.heap.size [.int .i64 kind, .int .i64 src, .int .i64 dst, .int .i64 prio, .int .u64 (msg : Int), .int .i64 off, .int .i64 len, .int .i64 total, .int .i64 num, .slice s data.length c] 35 := Blk.new w _ _
   have hk1 : Kept (fun _ => False) w (w.alloc (.cells #[.int .i64 kind, .int .i64 src, .int .i64 dst, .int .i64 prio, .int .u64 (msg : Int), .int .i64 off, .int .i64 len, .int .i64 total, .int .i64 num, .slice s data.length c] 35)) := (Kept.refl _ w).alloc _
   generalize w.alloc (.cells #[.int .i64 kind, .int .i64 src, .int .i64 dst, .int .i64 prio, .int .u64 (msg : Int), .int .i64 off, .int .i64 len, .int .i64 total, .int .i64 num, .slice s data.length c] 35) = w1 at *
   generalize w.heap.size = vb at *
   obtain ⟨e0, e1, e2, e3, e4, e5, e6, e7, e8⟩ := cs9 hB
   clear hB
   go_wp2_with fail
   go_ret
   exact ⟨rfl, hk1⟩
  ·have q0a : decide (kind < (1 : Int)) = false := by rw [decide_eq_false_iff_not]; omega
   have q0b : decide ((12 : Int) < kind) = false := by rw [decide_eq_false_iff_not]; omega
   have q1a : decide (src < (0 : Int)) = false := by rw [decide_eq_false_iff_not]; omega
   have q1b : decide ((7 : Int) < src) = false := by rw [decide_eq_false_iff_not]; omega
   have q2a : decide (dst < (0 : Int)) = false := by rw [decide_eq_false_iff_not]; omega
   have q2b : decide ((7 : Int) < dst) = false := by rw [decide_eq_false_iff_not]; omega
   have q3a : decide (prio < (0 : Int)) = false := by rw [decide_eq_false_iff_not]; omega
   have q3b : decide ((7 : Int) < prio) = false := by rw [decide_eq_false_iff_not]; omega
   have q4b : decide ((1152921504606846976 : Int) < (msg : Int)) = false := by rw [decide_eq_false_iff_not]; omega
   have q5a : decide (off < (0 : Int)) = false := by rw [decide_eq_false_iff_not]; omega
   have q5b : decide ((1073741824 : Int) < off) = false := by rw [decide_eq_false_iff_not]; omega
   have ua : decide (total < (0 : Int)) = false := by rw [decide_eq_false_iff_not]; omega
   have ub : decide ((1073741824 : Int) < total) = true := by exact decide_eq_true (by omega)
   clear g0 g1 g2 g3 g4 g5 g6
   go_enter Tryz.func35, Tryz.ntmps35
   go_upto_region 1 with fail
   have hB : Blk (w.alloc (.cells #[.int .i64 kind, .int .i64 src, .int .i64 dst, .int .i64 prio, .int .u64 (msg : Int), .int .i64 off, .int .i64 len, .int .i64 total, .int .i64 num, .slice s data.length c] 35)) w.heap.size [.int .i64 kind, .int .i64 src, .int .i64 dst, .int .i64 prio, .int .u64 (msg : Int), .int .i64 off, .int .i64 len, .int .i64 total, .int .i64 num, .slice s data.length c] 35 := Blk.new w _ _
   have hk1 : Kept (fun _ => False) w (w.alloc (.cells #[.int .i64 kind, .int .i64 src, .int .i64 dst, .int .i64 prio, .int .u64 (msg : Int), .int .i64 off, .int .i64 len, .int .i64 total, .int .i64 num, .slice s data.length c] 35)) := (Kept.refl _ w).alloc _
   generalize w.alloc (.cells #[.int .i64 kind, .int .i64 src, .int .i64 dst, .int .i64 prio, .int .u64 (msg : Int), .int .i64 off, .int .i64 len, .int .i64 total, .int .i64 num, .slice s data.length c] 35) = w1 at *
   generalize w.heap.size = vb at *
   obtain ⟨e0, e1, e2, e3, e4, e5, e6, e7, e8⟩ := cs9 hB
   clear hB
   go_wp2_with fail
   go_ret
   exact ⟨rfl, hk1⟩
 by_cases g7 : (0 ≤ len ∧ len ≤ 1500)
 rotate_left
 ·clear h
  by_cases u : len < 0
  ·have q0a : decide (kind < (1 : Int)) = false := by rw [decide_eq_false_iff_not]; omega
   have q0b : decide ((12 : Int) < kind) = false := by rw [decide_eq_false_iff_not]; omega
   have q1a : decide (src < (0 : Int)) = false := by rw [decide_eq_false_iff_not]; omega
   have q1b : decide ((7 : Int) < src) = false := by rw [decide_eq_false_iff_not]; omega
   have q2a : decide (dst < (0 : Int)) = false := by rw [decide_eq_false_iff_not]; omega
   have q2b : decide ((7 : Int) < dst) = false := by rw [decide_eq_false_iff_not]; omega
   have q3a : decide (prio < (0 : Int)) = false := by rw [decide_eq_false_iff_not]; omega
   have q3b : decide ((7 : Int) < prio) = false := by rw [decide_eq_false_iff_not]; omega
   have q4b : decide ((1152921504606846976 : Int) < (msg : Int)) = false := by rw [decide_eq_false_iff_not]; omega
   have q5a : decide (off < (0 : Int)) = false := by rw [decide_eq_false_iff_not]; omega
   have q5b : decide ((1073741824 : Int) < off) = false := by rw [decide_eq_false_iff_not]; omega
   have q6a : decide (total < (0 : Int)) = false := by rw [decide_eq_false_iff_not]; omega
   have q6b : decide ((1073741824 : Int) < total) = false := by rw [decide_eq_false_iff_not]; omega
   have ua : decide (len < (0 : Int)) = true := by exact decide_eq_true (by omega)
   clear g0 g1 g2 g3 g4 g5 g6 g7
   go_enter Tryz.func35, Tryz.ntmps35
   go_upto_region 1 with fail
   have hB : Blk (w.alloc (.cells #[.int .i64 kind, .int .i64 src, .int .i64 dst, .int .i64 prio, .int .u64 (msg : Int), .int .i64 off, .int .i64 len, .int .i64 total, .int .i64 num, .slice s data.length c] 35)) w.heap.size [.int .i64 kind, .int .i64 src, .int .i64 dst, .int .i64 prio, .int .u64 (msg : Int), .int .i64 off, .int .i64 len, .int .i64 total, .int .i64 num, .slice s data.length c] 35 := Blk.new w _ _
   have hk1 : Kept (fun _ => False) w (w.alloc (.cells #[.int .i64 kind, .int .i64 src, .int .i64 dst, .int .i64 prio, .int .u64 (msg : Int), .int .i64 off, .int .i64 len, .int .i64 total, .int .i64 num, .slice s data.length c] 35)) := (Kept.refl _ w).alloc _
   generalize w.alloc (.cells #[.int .i64 kind, .int .i64 src, .int .i64 dst, .int .i64 prio, .int .u64 (msg : Int), .int .i64 off, .int .i64 len, .int .i64 total, .int .i64 num, .slice s data.length c] 35) = w1 at *
   generalize w.heap.size = vb at *
   obtain ⟨e0, e1, e2, e3, e4, e5, e6, e7, e8⟩ := cs9 hB
   clear hB
   go_wp2_with fail
   go_ret
   exact ⟨rfl, hk1⟩
  ·have q0a : decide (kind < (1 : Int)) = false := by rw [decide_eq_false_iff_not]; omega
   have q0b : decide ((12 : Int) < kind) = false := by rw [decide_eq_false_iff_not]; omega
   have q1a : decide (src < (0 : Int)) = false := by rw [decide_eq_false_iff_not]; omega
   have q1b : decide ((7 : Int) < src) = false := by rw [decide_eq_false_iff_not]; omega
   have q2a : decide (dst < (0 : Int)) = false := by rw [decide_eq_false_iff_not]; omega
   have q2b : decide ((7 : Int) < dst) = false := by rw [decide_eq_false_iff_not]; omega
   have q3a : decide (prio < (0 : Int)) = false := by rw [decide_eq_false_iff_not]; omega
   have q3b : decide ((7 : Int) < prio) = false := by rw [decide_eq_false_iff_not]; omega
   have q4b : decide ((1152921504606846976 : Int) < (msg : Int)) = false := by rw [decide_eq_false_iff_not]; omega
   have q5a : decide (off < (0 : Int)) = false := by rw [decide_eq_false_iff_not]; omega
   have q5b : decide ((1073741824 : Int) < off) = false := by rw [decide_eq_false_iff_not]; omega
   have q6a : decide (total < (0 : Int)) = false := by rw [decide_eq_false_iff_not]; omega
   have q6b : decide ((1073741824 : Int) < total) = false := by rw [decide_eq_false_iff_not]; omega
   have ua : decide (len < (0 : Int)) = false := by rw [decide_eq_false_iff_not]; omega
   have ub : decide ((1500 : Int) < len) = true := by exact decide_eq_true (by omega)
   clear g0 g1 g2 g3 g4 g5 g6 g7
   go_enter Tryz.func35, Tryz.ntmps35
   go_upto_region 1 with fail
   have hB : Blk (w.alloc (.cells #[.int .i64 kind, .int .i64 src, .int .i64 dst, .int .i64 prio, .int .u64 (msg : Int), .int .i64 off, .int .i64 len, .int .i64 total, .int .i64 num, .slice s data.length c] 35)) w.heap.size [.int .i64 kind, .int .i64 src, .int .i64 dst, .int .i64 prio, .int .u64 (msg : Int), .int .i64 off, .int .i64 len, .int .i64 total, .int .i64 num, .slice s data.length c] 35 := Blk.new w _ _
   have hk1 : Kept (fun _ => False) w (w.alloc (.cells #[.int .i64 kind, .int .i64 src, .int .i64 dst, .int .i64 prio, .int .u64 (msg : Int), .int .i64 off, .int .i64 len, .int .i64 total, .int .i64 num, .slice s data.length c] 35)) := (Kept.refl _ w).alloc _
   generalize w.alloc (.cells #[.int .i64 kind, .int .i64 src, .int .i64 dst, .int .i64 prio, .int .u64 (msg : Int), .int .i64 off, .int .i64 len, .int .i64 total, .int .i64 num, .slice s data.length c] 35) = w1 at *
   generalize w.heap.size = vb at *
   obtain ⟨e0, e1, e2, e3, e4, e5, e6, e7, e8⟩ := cs9 hB
   clear hB
   go_wp2_with fail
   go_ret
   exact ⟨rfl, hk1⟩
 by_cases g8 : (0 ≤ num ∧ num ≤ 1073741824)
 rotate_left
 ·clear h
  by_cases u : num < 0
  ·have q0a : decide (kind < (1 : Int)) = false := by rw [decide_eq_false_iff_not]; omega
   have q0b : decide ((12 : Int) < kind) = false := by rw [decide_eq_false_iff_not]; omega
   have q1a : decide (src < (0 : Int)) = false := by rw [decide_eq_false_iff_not]; omega
   have q1b : decide ((7 : Int) < src) = false := by rw [decide_eq_false_iff_not]; omega
   have q2a : decide (dst < (0 : Int)) = false := by rw [decide_eq_false_iff_not]; omega
   have q2b : decide ((7 : Int) < dst) = false := by rw [decide_eq_false_iff_not]; omega
   have q3a : decide (prio < (0 : Int)) = false := by rw [decide_eq_false_iff_not]; omega
   have q3b : decide ((7 : Int) < prio) = false := by rw [decide_eq_false_iff_not]; omega
   have q4b : decide ((1152921504606846976 : Int) < (msg : Int)) = false := by rw [decide_eq_false_iff_not]; omega
   have q5a : decide (off < (0 : Int)) = false := by rw [decide_eq_false_iff_not]; omega
   have q5b : decide ((1073741824 : Int) < off) = false := by rw [decide_eq_false_iff_not]; omega
   have q6a : decide (total < (0 : Int)) = false := by rw [decide_eq_false_iff_not]; omega
   have q6b : decide ((1073741824 : Int) < total) = false := by rw [decide_eq_false_iff_not]; omega
   have q7a : decide (len < (0 : Int)) = false := by rw [decide_eq_false_iff_not]; omega
   have q7b : decide ((1500 : Int) < len) = false := by rw [decide_eq_false_iff_not]; omega
   have ua : decide (num < (0 : Int)) = true := by exact decide_eq_true (by omega)
   clear g0 g1 g2 g3 g4 g5 g6 g7 g8
   go_enter Tryz.func35, Tryz.ntmps35
   go_upto_region 1 with fail
   have hB : Blk (w.alloc (.cells #[.int .i64 kind, .int .i64 src, .int .i64 dst, .int .i64 prio, .int .u64 (msg : Int), .int .i64 off, .int .i64 len, .int .i64 total, .int .i64 num, .slice s data.length c] 35)) w.heap.size [.int .i64 kind, .int .i64 src, .int .i64 dst, .int .i64 prio, .int .u64 (msg : Int), .int .i64 off, .int .i64 len, .int .i64 total, .int .i64 num, .slice s data.length c] 35 := Blk.new w _ _
   have hk1 : Kept (fun _ => False) w (w.alloc (.cells #[.int .i64 kind, .int .i64 src, .int .i64 dst, .int .i64 prio, .int .u64 (msg : Int), .int .i64 off, .int .i64 len, .int .i64 total, .int .i64 num, .slice s data.length c] 35)) := (Kept.refl _ w).alloc _
   generalize w.alloc (.cells #[.int .i64 kind, .int .i64 src, .int .i64 dst, .int .i64 prio, .int .u64 (msg : Int), .int .i64 off, .int .i64 len, .int .i64 total, .int .i64 num, .slice s data.length c] 35) = w1 at *
   generalize w.heap.size = vb at *
   obtain ⟨e0, e1, e2, e3, e4, e5, e6, e7, e8⟩ := cs9 hB
   clear hB
   go_wp2_with fail
   go_ret
   exact ⟨rfl, hk1⟩
  ·have q0a : decide (kind < (1 : Int)) = false := by rw [decide_eq_false_iff_not]; omega
   have q0b : decide ((12 : Int) < kind) = false := by rw [decide_eq_false_iff_not]; omega
   have q1a : decide (src < (0 : Int)) = false := by rw [decide_eq_false_iff_not]; omega
   have q1b : decide ((7 : Int) < src) = false := by rw [decide_eq_false_iff_not]; omega
   have q2a : decide (dst < (0 : Int)) = false := by rw [decide_eq_false_iff_not]; omega
   have q2b : decide ((7 : Int) < dst) = false := by rw [decide_eq_false_iff_not]; omega
   have q3a : decide (prio < (0 : Int)) = false := by rw [decide_eq_false_iff_not]; omega
   have q3b : decide ((7 : Int) < prio) = false := by rw [decide_eq_false_iff_not]; omega
   have q4b : decide ((1152921504606846976 : Int) < (msg : Int)) = false := by rw [decide_eq_false_iff_not]; omega
   have q5a : decide (off < (0 : Int)) = false := by rw [decide_eq_false_iff_not]; omega
   have q5b : decide ((1073741824 : Int) < off) = false := by rw [decide_eq_false_iff_not]; omega
   have q6a : decide (total < (0 : Int)) = false := by rw [decide_eq_false_iff_not]; omega
   have q6b : decide ((1073741824 : Int) < total) = false := by rw [decide_eq_false_iff_not]; omega
   have q7a : decide (len < (0 : Int)) = false := by rw [decide_eq_false_iff_not]; omega
   have q7b : decide ((1500 : Int) < len) = false := by rw [decide_eq_false_iff_not]; omega
   have ua : decide (num < (0 : Int)) = false := by rw [decide_eq_false_iff_not]; omega
   have ub : decide ((1073741824 : Int) < num) = true := by exact decide_eq_true (by omega)
   clear g0 g1 g2 g3 g4 g5 g6 g7 g8
   go_enter Tryz.func35, Tryz.ntmps35
   go_upto_region 1 with fail
   have hB : Blk (w.alloc (.cells #[.int .i64 kind, .int .i64 src, .int .i64 dst, .int .i64 prio, .int .u64 (msg : Int), .int .i64 off, .int .i64 len, .int .i64 total, .int .i64 num, .slice s data.length c] 35)) w.heap.size [.int .i64 kind, .int .i64 src, .int .i64 dst, .int .i64 prio, .int .u64 (msg : Int), .int .i64 off, .int .i64 len, .int .i64 total, .int .i64 num, .slice s data.length c] 35 := Blk.new w _ _
   have hk1 : Kept (fun _ => False) w (w.alloc (.cells #[.int .i64 kind, .int .i64 src, .int .i64 dst, .int .i64 prio, .int .u64 (msg : Int), .int .i64 off, .int .i64 len, .int .i64 total, .int .i64 num, .slice s data.length c] 35)) := (Kept.refl _ w).alloc _
   generalize w.alloc (.cells #[.int .i64 kind, .int .i64 src, .int .i64 dst, .int .i64 prio, .int .u64 (msg : Int), .int .i64 off, .int .i64 len, .int .i64 total, .int .i64 num, .slice s data.length c] 35) = w1 at *
   generalize w.heap.size = vb at *
   obtain ⟨e0, e1, e2, e3, e4, e5, e6, e7, e8⟩ := cs9 hB
   clear hB
   go_wp2_with fail
   go_ret
   exact ⟨rfl, hk1⟩
 exact absurd ⟨g0, g1, g2, g3, g4, g5, g6, g7, g8⟩ h
set_option maxHeartbeats 4000000 in
set_option maxRecDepth 100000 in
theorem checkR_rest {f : Frm} (h1 : Fit f) (x : Int) (hx : x = if Rng f ∧ Dat f then 0 else 1) (s : Option Addr) (c : Nat) (w : World) : Calls Tryz.prog 35 #[fv f s c] w (Ans w (.int .i64 x)) := by
 obtain ⟨kind, src, dst, prio, msg, off, len, total, num, data⟩ := f
 obtain ⟨⟨k1, k2⟩, ⟨s1, s2⟩, ⟨d1, d2⟩, ⟨p1, p2⟩, m2, ⟨o1, o2⟩, ⟨t1, t2⟩, ⟨l1, l2⟩, ⟨n1, n2⟩⟩ := h1
 unfold Rng Dat at hx
 dsimp only at *
 unfold fv fcs
 dsimp only
 have q0a : decide (kind < (1 : Int)) = false := by rw [decide_eq_false_iff_not]; omega
 have q0b : decide ((12 : Int) < kind) = false := by rw [decide_eq_false_iff_not]; omega
 have q1a : decide (src < (0 : Int)) = false := by rw [decide_eq_false_iff_not]; omega
 have q1b : decide ((7 : Int) < src) = false := by rw [decide_eq_false_iff_not]; omega
 have q2a : decide (dst < (0 : Int)) = false := by rw [decide_eq_false_iff_not]; omega
 have q2b : decide ((7 : Int) < dst) = false := by rw [decide_eq_false_iff_not]; omega
 have q3a : decide (prio < (0 : Int)) = false := by rw [decide_eq_false_iff_not]; omega
 have q3b : decide ((7 : Int) < prio) = false := by rw [decide_eq_false_iff_not]; omega
 have q4b : decide ((1152921504606846976 : Int) < (msg : Int)) = false := by rw [decide_eq_false_iff_not]; omega
 have q5a : decide (off < (0 : Int)) = false := by rw [decide_eq_false_iff_not]; omega
 have q5b : decide ((1073741824 : Int) < off) = false := by rw [decide_eq_false_iff_not]; omega
 have q6a : decide (total < (0 : Int)) = false := by rw [decide_eq_false_iff_not]; omega
 have q6b : decide ((1073741824 : Int) < total) = false := by rw [decide_eq_false_iff_not]; omega
 have q7a : decide (len < (0 : Int)) = false := by rw [decide_eq_false_iff_not]; omega
 have q7b : decide ((1500 : Int) < len) = false := by rw [decide_eq_false_iff_not]; omega
 have q8a : decide (num < (0 : Int)) = false := by rw [decide_eq_false_iff_not]; omega
 have q8b : decide ((1073741824 : Int) < num) = false := by rw [decide_eq_false_iff_not]; omega
 have hw : IntKind.i64.wrap (off + len) = off + len := by rw [IntKind.wrap_i64]; omega
 by_cases e1 : kind = 1
 ·subst e1
  by_cases u : off + len ≤ total
  ·by_cases v : (data.length : Int) = len
   ·have hxv : x = 0 := by rw [hx]; exact if_pos ⟨fun _ => u, by rw [if_pos rfl]; exact v⟩
    subst hxv
    have r1 : decide (total < off + len) = false := by rw [decide_eq_false_iff_not]; omega
    have r2 : ((data.length : Int) != len) = false := by rw [bne_eq_false_iff_eq]; omega
    clear hx k1 k2 s1 s2 d1 d2 p1 p2 m2 o1 o2 t1 t2 l1 l2 n1 n2 u v
    go_enter Tryz.func35, Tryz.ntmps35
    go_upto_region 1 with fail
    have hB : Blk (w.alloc (.cells #[.int .i64 1, .int .i64 src, .int .i64 dst, .int .i64 prio, .int .u64 (msg : Int), .int .i64 off, .int .i64 len, .int .i64 total, .int .i64 num, .slice s data.length c] 35)) w.heap.size [.int .i64 1, .int .i64 src, .int .i64 dst, .int .i64 prio, .int .u64 (msg : Int), .int .i64 off, .int .i64 len, .int .i64 total, .int .i64 num, .slice s data.length c] 35 := Blk.new w _ _
    have hk1 : Kept (fun _ => False) w (w.alloc (.cells #[.int .i64 1, .int .i64 src, .int .i64 dst, .int .i64 prio, .int .u64 (msg : Int), .int .i64 off, .int .i64 len, .int .i64 total, .int .i64 num, .slice s data.length c] 35)) := (Kept.refl _ w).alloc _
    generalize w.alloc (.cells #[.int .i64 1, .int .i64 src, .int .i64 dst, .int .i64 prio, .int .u64 (msg : Int), .int .i64 off, .int .i64 len, .int .i64 total, .int .i64 num, .slice s data.length c] 35) = w1 at *
    generalize w.heap.size = vb at *
    obtain ⟨e0, e1, e2, e3, e4, e5, e6, e7, e8, e9⟩ := cs10 hB
    clear hB
    go_wp2_with fail
    go_ret
    exact ⟨rfl, hk1⟩
   ·have hxv : x = 1 := by rw [hx]; exact if_neg fun e => by have := e.2; rw [if_pos rfl] at this; omega
    subst hxv
    have r1 : decide (total < off + len) = false := by rw [decide_eq_false_iff_not]; omega
    have r2 : ((data.length : Int) != len) = true := by rw [bne_iff_ne]; omega
    clear hx k1 k2 s1 s2 d1 d2 p1 p2 m2 o1 o2 t1 t2 l1 l2 n1 n2 u v
    go_enter Tryz.func35, Tryz.ntmps35
    go_upto_region 1 with fail
    have hB : Blk (w.alloc (.cells #[.int .i64 1, .int .i64 src, .int .i64 dst, .int .i64 prio, .int .u64 (msg : Int), .int .i64 off, .int .i64 len, .int .i64 total, .int .i64 num, .slice s data.length c] 35)) w.heap.size [.int .i64 1, .int .i64 src, .int .i64 dst, .int .i64 prio, .int .u64 (msg : Int), .int .i64 off, .int .i64 len, .int .i64 total, .int .i64 num, .slice s data.length c] 35 := Blk.new w _ _
    have hk1 : Kept (fun _ => False) w (w.alloc (.cells #[.int .i64 1, .int .i64 src, .int .i64 dst, .int .i64 prio, .int .u64 (msg : Int), .int .i64 off, .int .i64 len, .int .i64 total, .int .i64 num, .slice s data.length c] 35)) := (Kept.refl _ w).alloc _
    generalize w.alloc (.cells #[.int .i64 1, .int .i64 src, .int .i64 dst, .int .i64 prio, .int .u64 (msg : Int), .int .i64 off, .int .i64 len, .int .i64 total, .int .i64 num, .slice s data.length c] 35) = w1 at *
    generalize w.heap.size = vb at *
    obtain ⟨e0, e1, e2, e3, e4, e5, e6, e7, e8, e9⟩ := cs10 hB
    clear hB
    go_wp2_with fail
    go_ret
    exact ⟨rfl, hk1⟩
  ·have v : True := trivial
   have hxv : x = 1 := by rw [hx]; exact if_neg fun e => u (e.1 (by omega))
   subst hxv
   have r1 : decide (total < off + len) = true := by exact decide_eq_true (by omega)
   clear hx k1 k2 s1 s2 d1 d2 p1 p2 m2 o1 o2 t1 t2 l1 l2 n1 n2 u v
   go_enter Tryz.func35, Tryz.ntmps35
   go_upto_region 1 with fail
   have hB : Blk (w.alloc (.cells #[.int .i64 1, .int .i64 src, .int .i64 dst, .int .i64 prio, .int .u64 (msg : Int), .int .i64 off, .int .i64 len, .int .i64 total, .int .i64 num, .slice s data.length c] 35)) w.heap.size [.int .i64 1, .int .i64 src, .int .i64 dst, .int .i64 prio, .int .u64 (msg : Int), .int .i64 off, .int .i64 len, .int .i64 total, .int .i64 num, .slice s data.length c] 35 := Blk.new w _ _
   have hk1 : Kept (fun _ => False) w (w.alloc (.cells #[.int .i64 1, .int .i64 src, .int .i64 dst, .int .i64 prio, .int .u64 (msg : Int), .int .i64 off, .int .i64 len, .int .i64 total, .int .i64 num, .slice s data.length c] 35)) := (Kept.refl _ w).alloc _
   generalize w.alloc (.cells #[.int .i64 1, .int .i64 src, .int .i64 dst, .int .i64 prio, .int .u64 (msg : Int), .int .i64 off, .int .i64 len, .int .i64 total, .int .i64 num, .slice s data.length c] 35) = w1 at *
   generalize w.heap.size = vb at *
   obtain ⟨e0, e1, e2, e3, e4, e5, e6, e7, e8, e9⟩ := cs10 hB
   clear hB
   go_wp2_with fail
   go_ret
   exact ⟨rfl, hk1⟩
 by_cases e7 : kind = 7
 ·subst e7
  by_cases u : off + len ≤ total
  ·by_cases v : data.length = 0
   ·have hxv : x = 0 := by rw [hx]; exact if_pos ⟨fun _ => u, by rw [if_neg (by omega)]; omega⟩
    subst hxv
    have r1 : decide (total < off + len) = false := by rw [decide_eq_false_iff_not]; omega
    have r3 : decide ((0 : Int) < (data.length : Int)) = false := by rw [decide_eq_false_iff_not]; omega
    have r4 : decide (0 < data.length) = false := by rw [decide_eq_false_iff_not]; omega
    clear hx k1 k2 s1 s2 d1 d2 p1 p2 m2 o1 o2 t1 t2 l1 l2 n1 n2 u v
    go_enter Tryz.func35, Tryz.ntmps35
    go_upto_region 1 with fail
    have hB : Blk (w.alloc (.cells #[.int .i64 7, .int .i64 src, .int .i64 dst, .int .i64 prio, .int .u64 (msg : Int), .int .i64 off, .int .i64 len, .int .i64 total, .int .i64 num, .slice s data.length c] 35)) w.heap.size [.int .i64 7, .int .i64 src, .int .i64 dst, .int .i64 prio, .int .u64 (msg : Int), .int .i64 off, .int .i64 len, .int .i64 total, .int .i64 num, .slice s data.length c] 35 := Blk.new w _ _
    have hk1 : Kept (fun _ => False) w (w.alloc (.cells #[.int .i64 7, .int .i64 src, .int .i64 dst, .int .i64 prio, .int .u64 (msg : Int), .int .i64 off, .int .i64 len, .int .i64 total, .int .i64 num, .slice s data.length c] 35)) := (Kept.refl _ w).alloc _
    generalize w.alloc (.cells #[.int .i64 7, .int .i64 src, .int .i64 dst, .int .i64 prio, .int .u64 (msg : Int), .int .i64 off, .int .i64 len, .int .i64 total, .int .i64 num, .slice s data.length c] 35) = w1 at *
    generalize w.heap.size = vb at *
    obtain ⟨e0, e1, e2, e3, e4, e5, e6, e7, e8, e9⟩ := cs10 hB
    clear hB
    go_wp2_with fail
    go_ret
    exact ⟨rfl, hk1⟩
   ·have hxv : x = 1 := by rw [hx]; exact if_neg fun e => by have := e.2; rw [if_neg (by omega)] at this; omega
    subst hxv
    have r1 : decide (total < off + len) = false := by rw [decide_eq_false_iff_not]; omega
    have r3 : decide ((0 : Int) < (data.length : Int)) = true := by exact decide_eq_true (by omega)
    have r4 : decide (0 < data.length) = true := by exact decide_eq_true (by omega)
    clear hx k1 k2 s1 s2 d1 d2 p1 p2 m2 o1 o2 t1 t2 l1 l2 n1 n2 u v
    go_enter Tryz.func35, Tryz.ntmps35
    go_upto_region 1 with fail
    have hB : Blk (w.alloc (.cells #[.int .i64 7, .int .i64 src, .int .i64 dst, .int .i64 prio, .int .u64 (msg : Int), .int .i64 off, .int .i64 len, .int .i64 total, .int .i64 num, .slice s data.length c] 35)) w.heap.size [.int .i64 7, .int .i64 src, .int .i64 dst, .int .i64 prio, .int .u64 (msg : Int), .int .i64 off, .int .i64 len, .int .i64 total, .int .i64 num, .slice s data.length c] 35 := Blk.new w _ _
    have hk1 : Kept (fun _ => False) w (w.alloc (.cells #[.int .i64 7, .int .i64 src, .int .i64 dst, .int .i64 prio, .int .u64 (msg : Int), .int .i64 off, .int .i64 len, .int .i64 total, .int .i64 num, .slice s data.length c] 35)) := (Kept.refl _ w).alloc _
    generalize w.alloc (.cells #[.int .i64 7, .int .i64 src, .int .i64 dst, .int .i64 prio, .int .u64 (msg : Int), .int .i64 off, .int .i64 len, .int .i64 total, .int .i64 num, .slice s data.length c] 35) = w1 at *
    generalize w.heap.size = vb at *
    obtain ⟨e0, e1, e2, e3, e4, e5, e6, e7, e8, e9⟩ := cs10 hB
    clear hB
    go_wp2_with fail
    go_ret
    exact ⟨rfl, hk1⟩
  ·have v : True := trivial
   have hxv : x = 1 := by rw [hx]; exact if_neg fun e => u (e.1 (by omega))
   subst hxv
   have r1 : decide (total < off + len) = true := by exact decide_eq_true (by omega)
   clear hx k1 k2 s1 s2 d1 d2 p1 p2 m2 o1 o2 t1 t2 l1 l2 n1 n2 u v
   go_enter Tryz.func35, Tryz.ntmps35
   go_upto_region 1 with fail
   have hB : Blk (w.alloc (.cells #[.int .i64 7, .int .i64 src, .int .i64 dst, .int .i64 prio, .int .u64 (msg : Int), .int .i64 off, .int .i64 len, .int .i64 total, .int .i64 num, .slice s data.length c] 35)) w.heap.size [.int .i64 7, .int .i64 src, .int .i64 dst, .int .i64 prio, .int .u64 (msg : Int), .int .i64 off, .int .i64 len, .int .i64 total, .int .i64 num, .slice s data.length c] 35 := Blk.new w _ _
   have hk1 : Kept (fun _ => False) w (w.alloc (.cells #[.int .i64 7, .int .i64 src, .int .i64 dst, .int .i64 prio, .int .u64 (msg : Int), .int .i64 off, .int .i64 len, .int .i64 total, .int .i64 num, .slice s data.length c] 35)) := (Kept.refl _ w).alloc _
   generalize w.alloc (.cells #[.int .i64 7, .int .i64 src, .int .i64 dst, .int .i64 prio, .int .u64 (msg : Int), .int .i64 off, .int .i64 len, .int .i64 total, .int .i64 num, .slice s data.length c] 35) = w1 at *
   generalize w.heap.size = vb at *
   obtain ⟨e0, e1, e2, e3, e4, e5, e6, e7, e8, e9⟩ := cs10 hB
   clear hB
   go_wp2_with fail
   go_ret
   exact ⟨rfl, hk1⟩
 have u : True := trivial
 by_cases v : data.length = 0
 ·have hxv : x = 0 := by rw [hx]; exact if_pos ⟨fun e => by omega, by rw [if_neg (by omega)]; omega⟩
  subst hxv
  have z1 : (kind == 1) = false := by rw [beq_eq_false_iff_ne]; omega
  have z7 : (kind == 7) = false := by rw [beq_eq_false_iff_ne]; omega
  have z8 : (kind != 1) = true := by rw [bne_iff_ne]; omega
  have r3 : decide ((0 : Int) < (data.length : Int)) = false := by rw [decide_eq_false_iff_not]; omega
  have r4 : decide (0 < data.length) = false := by rw [decide_eq_false_iff_not]; omega
  clear hx k1 k2 s1 s2 d1 d2 p1 p2 m2 o1 o2 t1 t2 l1 l2 n1 n2 u v
  go_enter Tryz.func35, Tryz.ntmps35
  go_upto_region 1 with fail
  have hB : Blk (w.alloc (.cells #[.int .i64 kind, .int .i64 src, .int .i64 dst, .int .i64 prio, .int .u64 (msg : Int), .int .i64 off, .int .i64 len, .int .i64 total, .int .i64 num, .slice s data.length c] 35)) w.heap.size [.int .i64 kind, .int .i64 src, .int .i64 dst, .int .i64 prio, .int .u64 (msg : Int), .int .i64 off, .int .i64 len, .int .i64 total, .int .i64 num, .slice s data.length c] 35 := Blk.new w _ _
  have hk1 : Kept (fun _ => False) w (w.alloc (.cells #[.int .i64 kind, .int .i64 src, .int .i64 dst, .int .i64 prio, .int .u64 (msg : Int), .int .i64 off, .int .i64 len, .int .i64 total, .int .i64 num, .slice s data.length c] 35)) := (Kept.refl _ w).alloc _
  generalize w.alloc (.cells #[.int .i64 kind, .int .i64 src, .int .i64 dst, .int .i64 prio, .int .u64 (msg : Int), .int .i64 off, .int .i64 len, .int .i64 total, .int .i64 num, .slice s data.length c] 35) = w1 at *
  generalize w.heap.size = vb at *
  obtain ⟨e0, e1, e2, e3, e4, e5, e6, e7, e8, e9⟩ := cs10 hB
  clear hB
  go_wp2_with fail
  go_ret
  exact ⟨rfl, hk1⟩
 ·have hxv : x = 1 := by rw [hx]; exact if_neg fun e => by have := e.2; rw [if_neg (by omega)] at this; omega
  subst hxv
  have z1 : (kind == 1) = false := by rw [beq_eq_false_iff_ne]; omega
  have z7 : (kind == 7) = false := by rw [beq_eq_false_iff_ne]; omega
  have z8 : (kind != 1) = true := by rw [bne_iff_ne]; omega
  have r3 : decide ((0 : Int) < (data.length : Int)) = true := by exact decide_eq_true (by omega)
  have r4 : decide (0 < data.length) = true := by exact decide_eq_true (by omega)
  clear hx k1 k2 s1 s2 d1 d2 p1 p2 m2 o1 o2 t1 t2 l1 l2 n1 n2 u v
  go_enter Tryz.func35, Tryz.ntmps35
  go_upto_region 1 with fail
  have hB : Blk (w.alloc (.cells #[.int .i64 kind, .int .i64 src, .int .i64 dst, .int .i64 prio, .int .u64 (msg : Int), .int .i64 off, .int .i64 len, .int .i64 total, .int .i64 num, .slice s data.length c] 35)) w.heap.size [.int .i64 kind, .int .i64 src, .int .i64 dst, .int .i64 prio, .int .u64 (msg : Int), .int .i64 off, .int .i64 len, .int .i64 total, .int .i64 num, .slice s data.length c] 35 := Blk.new w _ _
  have hk1 : Kept (fun _ => False) w (w.alloc (.cells #[.int .i64 kind, .int .i64 src, .int .i64 dst, .int .i64 prio, .int .u64 (msg : Int), .int .i64 off, .int .i64 len, .int .i64 total, .int .i64 num, .slice s data.length c] 35)) := (Kept.refl _ w).alloc _
  generalize w.alloc (.cells #[.int .i64 kind, .int .i64 src, .int .i64 dst, .int .i64 prio, .int .u64 (msg : Int), .int .i64 off, .int .i64 len, .int .i64 total, .int .i64 num, .slice s data.length c] 35) = w1 at *
  generalize w.heap.size = vb at *
  obtain ⟨e0, e1, e2, e3, e4, e5, e6, e7, e8, e9⟩ := cs10 hB
  clear hB
  go_wp2_with fail
  go_ret
  exact ⟨rfl, hk1⟩
theorem checkR_any (f : Frm) (s : Option Addr) (c : Nat) (w : World) : Calls Tryz.prog 35 #[fv f s c] w (Ans w (.int .i64 (chk f))) := by
 by_cases h1 : Fit f
 ·by_cases h2 : Rng f ∧ Dat f
  ·rw [chk_yes ⟨h1, h2⟩]; exact checkR_rest h1 0 (if_pos h2).symm s c w
  ·rw [chk_no fun h => h2 h.2]; exact checkR_rest h1 1 (if_neg h2).symm s c w
 ·rw [chk_no fun h => h1 h.1]; exact checkR_fit h1 s c w
end Go.Proofs.YtpogpibjkolioaaGreat.Wr

