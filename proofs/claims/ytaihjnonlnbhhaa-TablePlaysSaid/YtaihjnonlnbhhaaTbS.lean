/- Slots with open addressing: where a search begins, one on, how far, a search. Conditions: each theorem's own. -/
import Derived.Test.YtaihjnonlnbhhaaTbRow
import Derived.ProofKit
import Derived.Deep.RegionLaw
import Derived.Deep.CutBlock
import Derived.Deep.RegionWith
import Derived.Deep.RegionHeld3
import Derived.Deep.DeepCutAuto
import Derived.WalkLawsBesides
import Derived.StillTailTactics
import Derived.Deep.DrawnRows
import Derived.Deep.LoopGhost
import Derived.Laws.StructEq
set_option linter.unusedVariables false
namespace Go.Proofs.Ytaihjnonlnbhhaa.TbS
open Go.RowKit Hp TbM TbN TbR
attribute [local go_sem ↓] Go.wp_at_zero Go.wp_at_succ
abbrev ky (k : Ky) : Value := .agg #[.int .i64 k.1, .int .u64 k.2]
set_option maxHeartbeats 1000000 in
theorem home_any {n c : Nat} (h : Pow n) (a : Option Addr) (k : Ky) (w : World) : Calls Try.prog 64 #[.slice a n c, ky k] w fun e w' => e = .returned (.int .i64 (homeF n k : Nat)) ∧ Kept (fun _ => False) w w' := by
  obtain ⟨k1, k2⟩ := k
  have M := Lib.hid mix_any
  have h0 := h.pos
  have hl := h.le
  have hm := home_lt h0 (k1, k2)
  have r1 : 0 ≤ IntKind.u64.wrap k1 ∧ IntKind.u64.wrap k1 < 18446744073709551616 := by rw [IntKind.wrap_u64]; omega
  have r2 : 0 ≤ IntKind.u64.wrap (mixF (IntKind.u64.wrap k1) + k2) ∧ IntKind.u64.wrap (mixF (IntKind.u64.wrap k1) + k2) < 18446744073709551616 := by rw [IntKind.wrap_u64]; omega
  have e1 : IntKind.i64.wrap ((n : Int) - 1) = (n : Int) - 1 := by rw [IntKind.wrap_i64]; omega
  have e2 : IntKind.u64.wrap ((n : Int) - 1) = (n : Int) - 1 := by rw [IntKind.wrap_u64]; omega
  have E := Lib.hid (show wrap64 (bits .and .u64 (mixF (IntKind.u64.wrap (mixF (IntKind.u64.wrap k1) + k2))) ((n : Int) - 1)) = (homeF n (k1, k2) : Nat) by
    rw [and_u64 h]
    have := home_int h0 (k1, k2)
    unfold hashF at this
    rw [this]
    unfold wrap64
    omega)
  generalize homeF n (k1, k2) = m at *
  have M1 := Lib.hid (fun w => M.out (IntKind.u64.wrap k1) w r1.1 r1.2)
  have M2 := Lib.hid (fun w => M.out (IntKind.u64.wrap (mixF (IntKind.u64.wrap k1) + k2)) w r2.1 r2.2)
  clear r1 r2 M h
  go_enter Try.func64, Try.ntmps64
  go_upto_region 1 with fail
  have hR := Blk.new w [.int .i64 k1, .int .u64 k2] 62
  have hk := (Kept.refl (fun _ => False) w).alloc (.cells [.int .i64 k1, .int .u64 k2].toArray 62)
  dsimp only [List.toArray] at hR hk
  have c0 := hR.cell (o := 0) rfl
  have c1 := hR.cell (o := 1) rfl
  have HK := Lib.hid hk
  clear hR hk
  generalize w.alloc (.cells #[.int .i64 k1, .int .u64 k2] 62) = w1 at *
  generalize w.heap.size = rb at *
  go_quiet ((go_at_call 75; first | (with_reducible exact Calls.quiet_of_same ((M1.out _).mono fun _ _ ⟨e1, e2⟩ => ⟨e1, e2.symm⟩)) | (with_reducible exact Calls.quiet_of_same ((M2.out _).mono fun _ _ ⟨e1, e2⟩ => ⟨e1, e2.symm⟩))))
  go_wp2_with fail
  go_ret
  exact ⟨congrArg (fun z => Ending.returned (.int .i64 z)) E.out, HK.out.drewN _⟩
theorem after_any {n c i : Nat} (h : Pow n) (hi : i < n) (a : Option Addr) (w : World) : Calls Try.prog 62 #[.slice a n c, .int .i64 i] w fun e w' => e = .returned (.int .i64 (nxt n i : Nat)) ∧ w = w' := by
  have hl := h.le
  have hb := and_i64 h ((i : Int) + 1)
  rw [mod_nxt hi] at hb
  have hm := nxt_lt hi
  generalize nxt n i = m at *
  have e1 : IntKind.i64.wrap ((n : Int) - 1) = (n : Int) - 1 := by rw [IntKind.wrap_i64]; omega
  have e2 : IntKind.i64.wrap ((i : Int) + 1) = (i : Int) + 1 := by rw [IntKind.wrap_i64]; omega
  clear h
  go_enter Try.func62, Try.ntmps62
  go_wp2_with fail
  go_ret
  exact ⟨rfl, rfl⟩
end Go.Proofs.Ytaihjnonlnbhhaa.TbS
