/- Frames: one as a value, how long it is. Conditions: each theorem's own. -/
import Derived.Test.YtiffnlcpemfmoaaHeap
import Derived.Test.YtiffnlcpemfmoaaWrMath
import Derived.LoopTactic
import Derived.Outline
import Derived.WalkKit
import Derived.ProofKit
import Derived.Deep.LoopGhost
import Derived.Deep.Draws
import Derived.Deep.QuietTactic
import Derived.Deep.CutBlock
import Derived.Deep.RegionHeld3
import Derived.Deep.RegionLaw
import Derived.Deep.RegionWith
import Derived.Deep.DeepCutAuto
import Derived.Deep.DrawnRows
import Derived.WalkLawsBesides
import Derived.BigQuiet
set_option linter.unusedVariables false
namespace Go.Proofs.Ytiffnlcpemfmoaa.Wr
open Go.RowKit Hp WrM
attribute [local go_sem ↓] Go.wp_at_zero Go.wp_at_succ
/-- A frame's cells. -/
def fcs (f : Frm) (s : Option Addr) (c : Nat) : List Value :=
  [.int .i64 f.kind, .int .i64 f.src, .int .i64 f.dst, .int .i64 f.prio, .int .u64 (f.msg : Int), .int .i64 f.off, .int .i64 f.len, .int .i64 f.total, .int .i64 f.num, .slice s f.data.length c]
/-- A frame as a value. -/
def fv (f : Frm) (s : Option Addr) (c : Nat) : Value := .agg (fcs f s c).toArray
/-- A call that answers a value and turns nothing that was there. -/
def Ans (w : World) (v : Value) (e : Ending) (w' : World) : Prop := e = .returned v ∧ Kept (fun _ => False) w w'
/-- How many bytes of data one has. -/
def dl (f : Frm) : Int := if f.kind = 1 then f.len else 0
set_option maxHeartbeats 4000000 in
set_option maxRecDepth 100000 in
theorem dlen_any {f : Frm} (s : Option Addr) (c : Nat) (w : World) : Calls Try.prog 45 #[fv f s c] w (Ans w (.int .i64 (dl f))) := by
  obtain ⟨kind, src, dst, prio, msg, off, len, total, num, data⟩ := f
  unfold fv fcs
  dsimp only
  unfold dl
  dsimp only
  by_cases hk : kind = 1
  · subst hk
    rw [if_pos rfl]
    go_enter Try.func45, Try.ntmps45
    go_upto_region 1 with fail
    have hB : Blk (w.alloc (.cells #[.int .i64 1, .int .i64 src, .int .i64 dst, .int .i64 prio, .int .u64 (msg : Int), .int .i64 off, .int .i64 len, .int .i64 total, .int .i64 num, .slice s data.length c] 26)) w.heap.size [.int .i64 1, .int .i64 src, .int .i64 dst, .int .i64 prio, .int .u64 (msg : Int), .int .i64 off, .int .i64 len, .int .i64 total, .int .i64 num, .slice s data.length c] 26 := Blk.new w _ _
    have hk1 : Kept (fun _ => False) w (w.alloc (.cells #[.int .i64 1, .int .i64 src, .int .i64 dst, .int .i64 prio, .int .u64 (msg : Int), .int .i64 off, .int .i64 len, .int .i64 total, .int .i64 num, .slice s data.length c] 26)) := (Kept.refl _ w).alloc _
    generalize w.alloc (.cells #[.int .i64 1, .int .i64 src, .int .i64 dst, .int .i64 prio, .int .u64 (msg : Int), .int .i64 off, .int .i64 len, .int .i64 total, .int .i64 num, .slice s data.length c] 26) = w1 at *
    generalize w.heap.size = vb at *
    have e0 := hB.cell (o := 0) rfl
    have e6 := hB.cell (o := 6) rfl
    clear hB
    go_wp2_with fail
    go_ret
    exact ⟨rfl, hk1⟩
  · have h1 : (kind == 1) = false := by rw [beq_eq_false_iff_ne]; exact hk
    rw [if_neg hk]
    clear hk
    go_enter Try.func45, Try.ntmps45
    go_upto_region 1 with fail
    have hB : Blk (w.alloc (.cells #[.int .i64 kind, .int .i64 src, .int .i64 dst, .int .i64 prio, .int .u64 (msg : Int), .int .i64 off, .int .i64 len, .int .i64 total, .int .i64 num, .slice s data.length c] 26)) w.heap.size [.int .i64 kind, .int .i64 src, .int .i64 dst, .int .i64 prio, .int .u64 (msg : Int), .int .i64 off, .int .i64 len, .int .i64 total, .int .i64 num, .slice s data.length c] 26 := Blk.new w _ _
    have hk1 : Kept (fun _ => False) w (w.alloc (.cells #[.int .i64 kind, .int .i64 src, .int .i64 dst, .int .i64 prio, .int .u64 (msg : Int), .int .i64 off, .int .i64 len, .int .i64 total, .int .i64 num, .slice s data.length c] 26)) := (Kept.refl _ w).alloc _
    generalize w.alloc (.cells #[.int .i64 kind, .int .i64 src, .int .i64 dst, .int .i64 prio, .int .u64 (msg : Int), .int .i64 off, .int .i64 len, .int .i64 total, .int .i64 num, .slice s data.length c] 26) = w1 at *
    generalize w.heap.size = vb at *
    have e0 := hB.cell (o := 0) rfl
    clear hB
    go_wp2_with fail
    go_ret
    exact ⟨rfl, hk1⟩
set_option maxHeartbeats 4000000 in
set_option maxRecDepth 100000 in
theorem size_any {f : Frm} (h0 : 0 ≤ dl f) (h1 : dl f ≤ 1000000) (s : Option Addr) (c : Nat) (w : World) : Calls Try.prog 40 #[fv f s c] w (Ans w (.int .i64 (26 + dl f))) := by
  obtain ⟨kind, src, dst, prio, msg, off, len, total, num, data⟩ := f
  have D := Lib.hid fun w => dlen_any (f := ⟨kind, src, dst, prio, msg, off, len, total, num, data⟩) s c w
  generalize dl (⟨kind, src, dst, prio, msg, off, len, total, num, data⟩ : Frm) = q at *
  unfold fv fcs at *
  dsimp only at *
  have hmin : ¬ (9223372036854775781 < q) := by omega
  go_enter Try.func40, Try.ntmps40
  go_upto_region 1 with fail
  have hB : Blk (w.alloc (.cells #[.int .i64 kind, .int .i64 src, .int .i64 dst, .int .i64 prio, .int .u64 (msg : Int), .int .i64 off, .int .i64 len, .int .i64 total, .int .i64 num, .slice s data.length c] 26)) w.heap.size [.int .i64 kind, .int .i64 src, .int .i64 dst, .int .i64 prio, .int .u64 (msg : Int), .int .i64 off, .int .i64 len, .int .i64 total, .int .i64 num, .slice s data.length c] 26 := Blk.new w _ _
  have hk1 : Kept (fun _ => False) w (w.alloc (.cells #[.int .i64 kind, .int .i64 src, .int .i64 dst, .int .i64 prio, .int .u64 (msg : Int), .int .i64 off, .int .i64 len, .int .i64 total, .int .i64 num, .slice s data.length c] 26)) := (Kept.refl _ w).alloc _
  generalize w.alloc (.cells #[.int .i64 kind, .int .i64 src, .int .i64 dst, .int .i64 prio, .int .u64 (msg : Int), .int .i64 off, .int .i64 len, .int .i64 total, .int .i64 num, .slice s data.length c] 26) = w1 at *
  generalize w.heap.size = vb at *
  have e0 := hB.cell (o := 0) rfl
  have e1 := hB.cell (o := 1) rfl
  have e2 := hB.cell (o := 2) rfl
  have e3 := hB.cell (o := 3) rfl
  have e4 := hB.cell (o := 4) rfl
  have e5 := hB.cell (o := 5) rfl
  have e6 := hB.cell (o := 6) rfl
  have e7 := hB.cell (o := 7) rfl
  have e8 := hB.cell (o := 8) rfl
  have e9 := hB.cell (o := 9) rfl
  clear hB
  go_wp2_with (go_at_call 45; (with_reducible refine Calls.mono (D.out _) ?_); rintro e w2 ⟨rfl, k2⟩)
  go_ret
  exact ⟨rfl, hk1.trans k2⟩
end Go.Proofs.Ytiffnlcpemfmoaa.Wr
