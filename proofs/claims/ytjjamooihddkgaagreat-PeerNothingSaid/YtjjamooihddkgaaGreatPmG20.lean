/- Senders and receivers that are none: what each call answers. Conditions: each theorem's own. -/
import Derived.Test.YtjjamooihddkgaaGreatPmG18
import Derived.Test.YtjjamooihddkgaaGreatPmG17
import Derived.WalkKit
import Derived.ProofKit
set_option linter.unusedVariables false
set_option linter.unusedSimpArgs false
namespace Go.Proofs.YtjjamooihddkgaaGreat.Pk
open Go.RowKit Go.Deep Hp TbM TbN Po Go.Proofs.YtjjamooihddkgaaGreat.End
open Ph (ptr)
open Pl (Ms)
attribute [local go_sem ↓] Go.wp_at_zero Go.wp_at_succ
abbrev nilp : Value := .pointer none
abbrev zo : Value := .agg #[.int .u64 0, .int .i64 0, .slice none 0 0, .int .i64 0, .bool false]
theorem submit_nil (dst : Int) (v : Value) (r : Int) (hr : r = if 0 ≤ dst ∧ dst < 8 then 4 else 1) (w : World) : Calls Tryz.prog 12 #[nilp, .int .i64 dst, v] w fun e w' => e = .returned (.tuple #[.int .u64 0, .int .i64 r]) ∧ w = w' := by
  have MD := Lib.hid (Pw.made_nil w)
  by_cases hd : 0 ≤ dst ∧ dst < 8
  · rw [if_pos hd] at hr
    subst hr
    have IH := Lib.hid fun w => Pr.isHost_any dst true (by simp; omega) w
    clear hd
    go_enter Tryz.func12, Tryz.ntmps12
    go_wp2_with fail
    with_reducible refine Calls.mono (IH.out _) ?_
    rintro e w1 ⟨rfl, rfl⟩
    go_wp2_with fail
    with_reducible refine Calls.mono MD.out ?_
    rintro e w1 ⟨rfl, rfl⟩
    go_wp2_with fail
    go_ret2
    exact ⟨rfl, rfl⟩
  · rw [if_neg hd] at hr
    subst hr
    have IH := Lib.hid fun w => Pr.isHost_any dst false (by simp; omega) w
    clear hd
    go_enter Tryz.func12, Tryz.ntmps12
    go_wp2_with fail
    with_reducible refine Calls.mono (IH.out _) ?_
    rintro e w1 ⟨rfl, rfl⟩
    go_wp2_with fail
    go_ret2
    exact ⟨rfl, rfl⟩
set_option maxHeartbeats 4000000 in
theorem sfind_nil (id : Int) (w : World) : Calls Tryz.prog 46 #[nilp, .int .u64 id] w fun e w' => e = .returned (.tuple #[zo, .bool false]) ∧ Kept (fun _ => False) w w' := by
  have MD := Lib.hid fun w => Pw.made_nil w
  have hR := Blk.new w TbRO.zc 45
  have k1 : Kept (fun _ => False) w (w.alloc (.cells #[.int .u64 0, .int .i64 0, .slice none 0 0, .int .i64 0, .bool false] 45)) := (Kept.refl (fun _ => False) w).alloc _
  dsimp only [List.toArray, TbRO.zc] at hR
  go_enter Tryz.func46, Tryz.ntmps46
  go_upto_region 1 with fail
  generalize w.alloc (.cells #[.int .u64 0, .int .i64 0, .slice none 0 0, .int .i64 0, .bool false] 45) = w1 at *
  obtain ⟨r, hr⟩ : ∃ r, w.heap.size = r := ⟨_, rfl⟩
  rw [hr] at hR ⊢
  have HNR := Lib.hid (show r < w.heap.size → False from fun e => by omega)
  clear hr
  have HK := Lib.hid k1
  have HR := Lib.hid hR
  clear k1 hR
  go_wp2_with fail
  with_reducible refine Calls.mono (MD.out _) ?_
  rintro e w2 ⟨rfl, rfl⟩
  have r0 := HR.out.cell (o := 0) rfl
  have r1 := HR.out.cell (o := 1) rfl
  have r2 := HR.out.cell (o := 2) rfl
  have r3 := HR.out.cell (o := 3) rfl
  have r4 := HR.out.cell (o := 4) rfl
  have f0 := HR.out.frozen 0
  have f1 := HR.out.frozen 1
  have f2 := HR.out.frozen 2
  have f3 := HR.out.frozen 3
  have f4 := HR.out.frozen 4
  have HE := Lib.hid (((((HR.out.set 0 (.int .u64 0)).set 1 (.int .i64 0)).set 2 (.slice none 0 0)).set 3 (.int .i64 0)).set 4 (.bool false))
  have hK := Lib.hid (((((HK.out.set (b := r) (fun e => (HNR.out e)) 0 (.int .u64 0)).set (b := r) (fun e => HNR.out e) 1 (.int .i64 0)).set (b := r) (fun e => HNR.out e) 2 (.slice none 0 0)).set (b := r) (fun e => HNR.out e) 3 (.int .i64 0)).set (b := r) (fun e => HNR.out e) 4 (.bool false))
  clear HNR
  go_wp2_with fail
  exact bodyPost_ret (TbO.results_obj Tryz.results46 _ _ _ rfl HE.out) rfl ⟨rfl, hK.out⟩
theorem end_nil (id st : Int) (w : World) : Calls Tryz.prog 14 #[nilp, .int .u64 id, .int .i64 st] w fun e w' => e = .returned (.int .i64 5) ∧ Kept (fun _ => False) w w' := by
  have F := Lib.hid (sfind_nil id w)
  go_enter Tryz.func14, Tryz.ntmps14
  go_wp2_with fail
  with_reducible refine Calls.mono F.out ?_
  rintro e w1 ⟨rfl, k1⟩
  go_wp2_with fail
  go_ret
  exact ⟨rfl, k1.alloc _⟩
theorem forget_nil (id : Int) (w : World) : Calls Tryz.prog 16 #[nilp, .int .u64 id] w fun e w' => e = .returned (.int .i64 5) ∧ Kept (fun _ => False) w w' := by
  have F := Lib.hid (sfind_nil id w)
  go_enter Tryz.func16, Tryz.ntmps16
  go_wp2_with fail
  with_reducible refine Calls.mono F.out ?_
  rintro e w1 ⟨rfl, k1⟩
  go_wp2_with fail
  go_ret
  exact ⟨rfl, k1.alloc _⟩
theorem open_nil (w : World) : Calls Tryz.prog 22 #[nilp] w fun e w' => e = .returned (.slice none 0 0) ∧ w = w' := by
  have MD := Lib.hid fun w => Pw.made_nil w
  go_enter Tryz.func22, Tryz.ntmps22
  go_wp2_with fail
  with_reducible refine Calls.mono (MD.out _) ?_
  rintro e w1 ⟨rfl, rfl⟩
  go_wp2_with fail
  go_ret
  exact ⟨rfl, rfl⟩
theorem lowest_nil (dst : Int) (w : World) : Calls Tryz.prog 24 #[nilp, .int .i64 dst] w fun e w' => e = .returned (.int .u64 1) ∧ w = w' := by
  have MD := Lib.hid fun w => Pw.made_nil w
  go_enter Tryz.func24, Tryz.ntmps24
  go_wp2_with fail
  with_reducible refine Calls.mono (MD.out _) ?_
  rintro e w1 ⟨rfl, rfl⟩
  go_wp2_with fail
  go_ret
  exact ⟨rfl, rfl⟩
theorem slen_nil (w : World) : Calls Tryz.prog 20 #[nilp] w fun e w' => e = .returned (.int .i64 0) ∧ w = w' := by
  have MD := Lib.hid fun w => Pw.made_nil w
  go_enter Tryz.func20, Tryz.ntmps20
  go_wp2_with fail
  with_reducible refine Calls.mono (MD.out _) ?_
  rintro e w1 ⟨rfl, rfl⟩
  go_wp2_with fail
  go_ret
  exact ⟨rfl, rfl⟩
theorem rlen_nil (w : World) : Calls Tryz.prog 33 #[nilp] w fun e w' => e = .returned (.int .i64 0) ∧ w = w' := by
  have MD := Lib.hid fun w => Pr.made_nil w
  go_enter Tryz.func33, Tryz.ntmps33
  go_wp2_with fail
  with_reducible refine Calls.mono (MD.out _) ?_
  rintro e w1 ⟨rfl, rfl⟩
  go_wp2_with fail
  go_ret
  exact ⟨rfl, rfl⟩
theorem wait_nil (w : World) : Calls Tryz.prog 34 #[nilp] w fun e w' => e = .returned (.int .i64 0) ∧ w = w' := by
  have MD := Lib.hid fun w => Pr.made_nil w
  go_enter Tryz.func34, Tryz.ntmps34
  go_wp2_with fail
  with_reducible refine Calls.mono (MD.out _) ?_
  rintro e w1 ⟨rfl, rfl⟩
  go_wp2_with fail
  go_ret
  exact ⟨rfl, rfl⟩
theorem rhas_nil (src : Int) (w : World) : Calls Tryz.prog 62 #[nilp, .int .i64 src] w fun e w' => e = .returned (.bool false) ∧ w = w' := by
  have MD := Lib.hid fun w => Pr.made_nil w
  go_enter Tryz.func62, Tryz.ntmps62
  go_wp2_with fail
  with_reducible refine Calls.mono (MD.out _) ?_
  rintro e w1 ⟨rfl, rfl⟩
  go_wp2_with fail
  go_ret
  exact ⟨rfl, rfl⟩
theorem retire_nil (src id : Int) (w : World) : Calls Tryz.prog 30 #[nilp, .int .i64 src, .int .u64 id] w fun e w' => e = .returned (.int .i64 0) ∧ w = w' := by
  have MD := Lib.hid fun w => rhas_nil src w
  go_enter Tryz.func30, Tryz.ntmps30
  go_wp2_with fail
  with_reducible refine Calls.mono (MD.out _) ?_
  rintro e w1 ⟨rfl, rfl⟩
  go_wp2_with fail
  go_ret
  exact ⟨rfl, rfl⟩
theorem ended_nil (src id : Int) (w : World) : Calls Tryz.prog 32 #[nilp, .int .i64 src, .int .u64 id] w fun e w' => e = .returned (.bool false) ∧ w = w' := by
  have MD := Lib.hid fun w => rhas_nil src w
  go_enter Tryz.func32, Tryz.ntmps32
  go_wp2_with fail
  with_reducible refine Calls.mono (MD.out _) ?_
  rintro e w1 ⟨rfl, rfl⟩
  go_wp2_with fail
  go_ret
  exact ⟨rfl, rfl⟩
theorem rfind_nil (src id : Int) (w : World) : Calls Tryz.prog 65 #[nilp, .int .i64 src, .int .u64 id] w fun e w' => e = .returned (.tuple #[.pointer none, .bool false]) ∧ w = w' := by
  have MD := Lib.hid fun w => Pr.made_nil w
  go_enter Tryz.func65, Tryz.ntmps65
  go_wp2_with fail
  with_reducible refine Calls.mono (MD.out _) ?_
  rintro e w1 ⟨rfl, rfl⟩
  go_wp2_with fail
  go_ret2
  exact ⟨rfl, rfl⟩
set_option maxHeartbeats 4000000 in
theorem poll_nil (w : World) : Calls Tryz.prog 29 #[nilp] w fun e w' => e = .returned (.tuple #[.agg #[.int .i64 0, .int .u64 0, .slice none 0 0], .bool false]) ∧ Kept (fun _ => False) w w' := by
  have MD := Lib.hid fun w => Pr.made_nil w
  have hR := Blk.new w Pl.mz 70
  have k1 : Kept (fun _ => False) w (w.alloc (.cells #[.int .i64 0, .int .u64 0, .slice none 0 0] 70)) := (Kept.refl (fun _ => False) w).alloc _
  dsimp only [List.toArray, Pl.mz] at hR
  go_enter Tryz.func29, Tryz.ntmps29
  go_upto_region 1 with fail
  generalize w.alloc (.cells #[.int .i64 0, .int .u64 0, .slice none 0 0] 70) = w1 at *
  obtain ⟨r, hr⟩ : ∃ r, w.heap.size = r := ⟨_, rfl⟩
  rw [hr] at hR ⊢
  have HNR := Lib.hid (show r < w.heap.size → False from fun e => by omega)
  clear hr
  have HK := Lib.hid k1
  have HR := Lib.hid hR
  clear k1 hR
  go_wp2_with fail
  with_reducible refine Calls.mono (MD.out _) ?_
  rintro e w2 ⟨rfl, rfl⟩
  have r0 := HR.out.cell (o := 0) rfl
  have r1 := HR.out.cell (o := 1) rfl
  have r2 := HR.out.cell (o := 2) rfl
  have f0 := HR.out.frozen 0
  have f1 := HR.out.frozen 1
  have f2 := HR.out.frozen 2
  have HE := Lib.hid (((HR.out.set 0 (.int .i64 0)).set 1 (.int .u64 0)).set 2 (.slice none 0 0))
  have hK := Lib.hid (((HK.out.set (b := r) (fun e => (HNR.out e)) 0 (.int .i64 0)).set (b := r) (fun e => HNR.out e) 1 (.int .u64 0)).set (b := r) (fun e => HNR.out e) 2 (.slice none 0 0))
  clear HNR
  go_wp2_with fail
  exact bodyPost_ret (Pl.results_msg Tryz.results29 _ _ _ rfl HE.out) rfl ⟨rfl, hK.out⟩
theorem have_nil (src id : Int) (w : World) : Calls Tryz.prog 31 #[nilp, .int .i64 src, .int .u64 id] w fun e w' => e = .returned (.tuple #[.int .i64 0, .int .i64 0, .bool false]) ∧ Kept (fun _ => False) w w' := by
  have MD := Lib.hid fun w => rfind_nil src id w
  have TN := Lib.hid fun w => Rm.total_nil w
  have LN := Lib.hid fun w => Rm.left_nil w
  go_enter Tryz.func31, Tryz.ntmps31
  go_wp2_with fail
  with_reducible refine Calls.mono (MD.out _ ) ?_
  rintro e w1 ⟨rfl, rfl⟩
  go_wp2_with (first | (go_at_call 66; refine (TN.out _).mono ?_; rintro e w' ⟨rfl, rfl⟩) | (go_at_call 67; refine (LN.out _).mono ?_; rintro e w' ⟨rfl, rfl⟩))
  go_ret3
  exact ⟨rfl, Kept.refl _ _⟩
theorem rdata_nil (src id : Int) (n : Nat) (a : Option Addr) (c : Nat) (hn : n ≤ 1000) (r : Int) (hr : r = if (src < 0 ∨ 7 < src) ∨ id < 1 ∨ 1152921504606846976 < id then 1 else 4) (w : World) : Calls Tryz.prog 28 #[nilp, .int .i64 src, .int .u64 id, .int .i64 (n : Nat), .int .i64 0, .slice a n c] w fun e w' => e = .returned (.tuple #[.int .i64 0, .bool false, .int .i64 r]) ∧ w = w' := by
  have MD := Lib.hid fun w => Pr.made_nil w
  have g5 : decide (((n : Nat) : Int) < 0) = false := by rw [decide_eq_false_iff_not]; omega
  have g7 : IntKind.i64.wrap (((n : Nat) : Int) - 0) = ((n : Nat) : Int) := by rw [IntKind.wrap_i64]; omega
  have g7' : IntKind.i64.wrap (((n : Nat) : Int)) = ((n : Nat) : Int) := by rw [IntKind.wrap_i64]; omega
  have g8 : decide (((n : Nat) : Int) < ((n : Nat) : Int)) = false := by rw [decide_eq_false_iff_not]; omega
  have hc : (r = 1 ∧ ¬ (0 ≤ src ∧ src < 8)) ∨ (r = 1 ∧ (0 ≤ src ∧ src < 8) ∧ id < 1) ∨ (r = 1 ∧ (0 ≤ src ∧ src < 8) ∧ decide (id < 1) = false ∧ 1152921504606846976 < id) ∨ (r = 4 ∧ (0 ≤ src ∧ src < 8) ∧ decide (id < 1) = false ∧ decide ((1152921504606846976 : Int) < id) = false) := by
    simp only [decide_eq_false_iff_not]
    split at hr <;> omega
  clear hr
  rcases hc with ⟨rfl, hs⟩ | ⟨rfl, hs, h1⟩ | ⟨rfl, hs, h1, h2⟩ | ⟨rfl, hs, h1, h2⟩
  · have IH := Lib.hid fun w => Pr.isHost_any src false (by simp; omega) w
    clear hs
    go_enter Tryz.func28, Tryz.ntmps28
    go_wp2_with fail
    with_reducible refine Calls.mono (IH.out _) ?_
    rintro e w1 ⟨rfl, rfl⟩
    go_wp2_with fail
    go_ret3
    exact ⟨rfl, rfl⟩
  all_goals
    have IH := Lib.hid fun w => Pr.isHost_any src true (by simp; omega) w
    clear hs
    go_enter Tryz.func28, Tryz.ntmps28
    go_wp2_with fail
    with_reducible refine Calls.mono (IH.out _) ?_
    rintro e w1 ⟨rfl, rfl⟩
    go_wp2_with (first | (go_at_call 55; refine (MD.out _).mono ?_; rintro e w' ⟨rfl, rfl⟩))
    go_ret3
    exact ⟨rfl, rfl⟩
end Go.Proofs.YtjjamooihddkgaaGreat.Pk

/- Get of senders that are none. Conditions: none. -/
namespace Go.Proofs.YtjjamooihddkgaaGreat.Pk
open Go.RowKit Go.Deep Hp TbM TbN Po Go.Proofs.YtjjamooihddkgaaGreat.End
open Ph (ptr)
open Pl (Ms)
attribute [local go_sem ↓] Go.wp_at_zero Go.wp_at_succ
theorem clone_nil (w : World) : Calls Tryz.prog 45 #[.slice none 0 0] w fun e w' => e = .returned (.slice none 0 0) ∧ w = w' := by
  have hnil := fun (w : World) => Lib.run_eql_slice_nil (P := Tryz.prog) w 25 5 none 0 0 0 0 Tryz.underlying25
  go_enter Tryz.func45, Tryz.ntmps45
  go_wp2_with fail
  go_ret
  exact ⟨rfl, rfl⟩
set_option maxHeartbeats 8000000 in
theorem get_nil (id : Int) (w : World) : Calls Tryz.prog 18 #[nilp, .int .u64 id] w fun e w' => e = .returned (.tuple #[zo, .bool false]) ∧ Kept (fun _ => False) w w' := by
  have FN := Lib.hid fun w => sfind_nil id w
  have CN := Lib.hid fun w => clone_nil w
  have hR := Blk.new w TbRO.zc 45
  have k1 : Kept (fun _ => False) w (w.alloc (.cells #[.int .u64 0, .int .i64 0, .slice none 0 0, .int .i64 0, .bool false] 45)) := (Kept.refl (fun _ => False) w).alloc _
  dsimp only [List.toArray, TbRO.zc] at hR
  go_enter Tryz.func18, Tryz.ntmps18
  go_upto_region 1 with fail
  generalize w.alloc (.cells #[.int .u64 0, .int .i64 0, .slice none 0 0, .int .i64 0, .bool false] 45) = w1 at *
  obtain ⟨r, hr⟩ : ∃ r, w.heap.size = r := ⟨_, rfl⟩
  rw [hr] at hR ⊢
  have HNR := Lib.hid (show r < w.heap.size → False from fun e => by omega)
  clear hr
  have HK := Lib.hid k1
  have HR := Lib.hid hR
  clear k1 hR
  go_wp2_with fail
  with_reducible refine Calls.mono (FN.out _) ?_
  rintro e w2 ⟨rfl, k2⟩
  have hB2 := k2.blk HR.out (fun e => e)
  have hK2 := HK.out.trans k2
  clear HR HK k2
  have hB3 := hB2.old (.cells #[.int .u64 0, .int .i64 0, .slice none 0 0, .int .i64 0, .bool false] 45)
  have hT := Blk.new w2 TbRO.zc 45
  have hK3 := hK2.alloc (.cells #[.int .u64 0, .int .i64 0, .slice none 0 0, .int .i64 0, .bool false] 45)
  have hne : w2.heap.size ≠ r := fun e => by have := hB2.lt; omega
  have hnt : w2.heap.size < w.heap.size → False := fun e => by have := hK2.size; omega
  dsimp only [List.toArray, TbRO.zc] at hT
  clear hB2 hK2
  go_upto_region 2 with fail
  generalize w2.alloc (.cells #[.int .u64 0, .int .i64 0, .slice none 0 0, .int .i64 0, .bool false] 45) = w3 at *
  obtain ⟨t, ht⟩ : ∃ t, w2.heap.size = t := ⟨_, rfl⟩
  rw [ht] at hT hne hnt ⊢
  clear ht
  have c2 := hT.cell (o := 2) rfl
  have g2 := hT.frozen 2
  have HT := Lib.hid (hT.set 2 (.slice none 0 0))
  have HB := Lib.hid (hB3.far hne 2 (.slice none 0 0))
  have HK := Lib.hid (hK3.set (b := t) hnt 2 (.slice none 0 0))
  clear hT hne hnt hB3 hK3
  go_upto_region 3 with (first | (go_at_call 45; refine (CN.out _).mono ?_; rintro e w' ⟨rfl, rfl⟩))
  generalize w3.setCell ⟨t, 2, none⟩ (.slice none 0 0) = w4 at *
  have r0 := HT.out.cell (o := 0) rfl
  have r1 := HT.out.cell (o := 1) rfl
  have r2 := HT.out.cell (o := 2) rfl
  have r3 := HT.out.cell (o := 3) rfl
  have r4 := HT.out.cell (o := 4) rfl
  have q0 := HB.out.cell (o := 0) rfl
  have q1 := HB.out.cell (o := 1) rfl
  have q2 := HB.out.cell (o := 2) rfl
  have q3 := HB.out.cell (o := 3) rfl
  have q4 := HB.out.cell (o := 4) rfl
  have f0 := HB.out.frozen 0
  have f1 := HB.out.frozen 1
  have f2 := HB.out.frozen 2
  have f3 := HB.out.frozen 3
  have f4 := HB.out.frozen 4
  have HE := Lib.hid (((((HB.out.set 0 (.int .u64 0)).set 1 (.int .i64 0)).set 2 (.slice none 0 0)).set 3 (.int .i64 0)).set 4 (.bool false))
  have hK := Lib.hid (((((HK.out.set (b := r) (fun e => (HNR.out e)) 0 (.int .u64 0)).set (b := r) (fun e => HNR.out e) 1 (.int .i64 0)).set (b := r) (fun e => HNR.out e) 2 (.slice none 0 0)).set (b := r) (fun e => HNR.out e) 3 (.int .i64 0)).set (b := r) (fun e => HNR.out e) 4 (.bool false))
  clear HNR HT HB HK
  go_wp2_with fail
  exact bodyPost_ret (TbO.results_obj Tryz.results18 _ _ _ rfl HE.out) rfl ⟨rfl, hK.out⟩
end Go.Proofs.YtjjamooihddkgaaGreat.Pk

/- Nothing keeps nothing: one of five ways. Conditions: none. -/
namespace Go.Proofs.YtjjamooihddkgaaGreat.Pk
open Go.RowKit Go.Deep Go.Proofs.YtjjamooihddkgaaGreat.Hp Go.Proofs.YtjjamooihddkgaaGreat.End Byt Ph
attribute [local go_sem ↓] Go.wp_at_zero Go.wp_at_succ
set_option maxRecDepth 100000 in
set_option maxHeartbeats 64000000 in
theorem late1 (a0 a1 : Int) (n : Nat) (s2 : Option Addr) (cap2 : Nat) (w : World) (h : ¬ 100 < n)
    (h0 : a0 < 0) :
    Calls Tryz.prog 5 #[.int .i64 a0, .int .u64 a1, .slice s2 n cap2] w fun e w' => e = .returned (.bool true) ∧ Old w w' := by
  have HC := Lib.hid fun w => awake_any w
  have h1 : ¬ 100 < (n : Int) := by omega
  have G1 := Lib.hid fun w => get_nil a1 w
  have P1 := Lib.hid fun w => poll_nil w
  have H1 := Lib.hid fun w => have_nil a0 a1 w
  have E1 := Lib.hid fun w => end_nil a1 2 w
  have F1 := Lib.hid fun w => forget_nil a1 w
  have O1 := Lib.hid fun w => open_nil w
  have L1 := Lib.hid fun w => lowest_nil a0 w
  have N1 := Lib.hid fun w => slen_nil w
  have T1 := Lib.hid fun w => retire_nil a0 a1 w
  have D1 := Lib.hid fun w => ended_nil a0 a1 w
  have M1 := Lib.hid fun w => rlen_nil w
  have W1 := Lib.hid fun w => wait_nil w
  have SS : Hid (∀ (w : World) (r : Int), r = (if 0 ≤ a0 ∧ a0 < 8 then 4 else 1) → Calls Tryz.prog 12 #[nilp, .int .i64 a0, .slice s2 n cap2] w fun e w' => e = .returned (.tuple #[.int .u64 0, .int .i64 r]) ∧ w = w') := Lib.hid fun w r hr => submit_nil a0 _ r hr w
  have RD : Hid (∀ (w : World) (r : Int), (r = if (a0 < 0 ∨ 7 < a0) ∨ a1 < 1 ∨ 1152921504606846976 < a1 then 1 else 4) → Calls Tryz.prog 28 #[nilp, .int .i64 a0, .int .u64 a1, .int .i64 (n : Nat), .int .i64 0, .slice s2 n cap2] w fun e w' => e = .returned (.tuple #[.int .i64 0, .bool false, .int .i64 r]) ∧ w = w') := Lib.hid fun w r hr => rdata_nil a0 a1 n s2 cap2 (by omega) r hr w
  have S1 : Hid (∀ w, Calls Tryz.prog 12 #[nilp, .int .i64 a0, .slice s2 n cap2] w fun e w' => e = .returned (.tuple #[.int .u64 0, .int .i64 1]) ∧ w = w') := Lib.hid fun w => SS.out w 1 (by split <;> omega)
  have R1 : Hid (∀ w, Calls Tryz.prog 28 #[nilp, .int .i64 a0, .int .u64 a1, .int .i64 (n : Nat), .int .i64 0, .slice s2 n cap2] w fun e w' => e = .returned (.tuple #[.int .i64 0, .bool false, .int .i64 1]) ∧ w = w') := Lib.hid fun w => RD.out w 1 (by split <;> omega)
  clear SS RD
  go_enter Tryz.func5, Tryz.ntmps5
  go_wp2_with fail
  with_reducible refine Calls.mono (S1.out _) ?_
  rintro e w1 ⟨rfl, rfl⟩
  go_wp2_with fail
  with_reducible refine Calls.mono (G1.out _) ?_
  rintro e w1 ⟨rfl, k1⟩
  have K1 := Lib.hid (k1.alloc (.cells #[.int .u64 0, .int .i64 0, .slice none 0 0, .int .i64 0, .bool false] 45))
  clear k1 S1 G1
  go_upto_region 12 with fail
  generalize w1.alloc (.cells #[.int .u64 0, .int .i64 0, .slice none 0 0, .int .i64 0, .bool false] 45) = w2 at *
  generalize w1.heap.size = q1
  go_wp2_with fail
  with_reducible refine Calls.mono (R1.out _) ?_
  rintro e w3 ⟨rfl, rfl⟩
  clear R1
  go_wp2_with fail
  with_reducible refine Calls.mono (P1.out _) ?_
  rintro e w3 ⟨rfl, k3⟩
  have K3 := Lib.hid ((K1.out.trans k3).alloc (.cells #[.int .i64 0, .int .u64 0, .slice none 0 0] 70))
  clear k3 P1 K1
  go_upto_region 14 with fail
  generalize w3.alloc (.cells #[.int .i64 0, .int .u64 0, .slice none 0 0] 70) = w4 at *
  generalize w3.heap.size = q3
  go_wp2_with fail
  with_reducible refine Calls.mono (H1.out _) ?_
  rintro e w5 ⟨rfl, k5⟩
  have K5 := Lib.hid (K3.out.trans k5)
  clear k5 H1 K3
  go_wp2_with fail
  with_reducible refine Calls.mono (E1.out _) ?_
  rintro e w6 ⟨rfl, k6⟩
  have K6 := Lib.hid (K5.out.trans k6)
  clear k6 E1 K5
  go_wp2_with fail
  with_reducible refine Calls.mono (F1.out _) ?_
  rintro e w7 ⟨rfl, k7⟩
  have K7 := Lib.hid (K6.out.trans k7)
  clear k7 F1 K6
  go_wp2_with fail
  with_reducible refine Calls.mono (O1.out _) ?_
  rintro e w8 ⟨rfl, rfl⟩
  go_wp2_with fail
  with_reducible refine Calls.mono (L1.out _) ?_
  rintro e w8 ⟨rfl, rfl⟩
  go_wp2_with fail
  with_reducible refine Calls.mono (N1.out _) ?_
  rintro e w8 ⟨rfl, rfl⟩
  go_wp2_with fail
  with_reducible refine Calls.mono (T1.out _) ?_
  rintro e w8 ⟨rfl, rfl⟩
  go_wp2_with fail
  with_reducible refine Calls.mono (D1.out _) ?_
  rintro e w8 ⟨rfl, rfl⟩
  go_wp2_with fail
  with_reducible refine Calls.mono (M1.out _) ?_
  rintro e w8 ⟨rfl, rfl⟩
  go_wp2_with fail
  with_reducible refine Calls.mono (W1.out _) ?_
  rintro e w8 ⟨rfl, rfl⟩
  go_wp2_with fail
  with_reducible refine Calls.mono (HC.out _) ?_
  rintro e w8 ⟨rfl, ho⟩
  have HO : Hid (Old w w8) := Lib.hid (K7.out.trans ho)
  clear ho
  go_wp2_with fail
  go_ret
  exact ⟨rfl, HO.out⟩
end Go.Proofs.YtjjamooihddkgaaGreat.Pk

/- Nothing keeps nothing: one of five ways. Conditions: none. -/
namespace Go.Proofs.YtjjamooihddkgaaGreat.Pk
open Go.RowKit Go.Deep Go.Proofs.YtjjamooihddkgaaGreat.Hp Go.Proofs.YtjjamooihddkgaaGreat.End Byt Ph
attribute [local go_sem ↓] Go.wp_at_zero Go.wp_at_succ
set_option maxRecDepth 100000 in
set_option maxHeartbeats 64000000 in
theorem late2 (a0 a1 : Int) (n : Nat) (s2 : Option Addr) (cap2 : Nat) (w : World) (h : ¬ 100 < n)
    (h0 : decide (a0 < 0) = false) (h2 : 7 < a0) :
    Calls Tryz.prog 5 #[.int .i64 a0, .int .u64 a1, .slice s2 n cap2] w fun e w' => e = .returned (.bool true) ∧ Old w w' := by
  have HC := Lib.hid fun w => awake_any w
  have h1 : ¬ 100 < (n : Int) := by omega
  have G1 := Lib.hid fun w => get_nil a1 w
  have P1 := Lib.hid fun w => poll_nil w
  have H1 := Lib.hid fun w => have_nil a0 a1 w
  have E1 := Lib.hid fun w => end_nil a1 2 w
  have F1 := Lib.hid fun w => forget_nil a1 w
  have O1 := Lib.hid fun w => open_nil w
  have L1 := Lib.hid fun w => lowest_nil a0 w
  have N1 := Lib.hid fun w => slen_nil w
  have T1 := Lib.hid fun w => retire_nil a0 a1 w
  have D1 := Lib.hid fun w => ended_nil a0 a1 w
  have M1 := Lib.hid fun w => rlen_nil w
  have W1 := Lib.hid fun w => wait_nil w
  have SS : Hid (∀ (w : World) (r : Int), r = (if 0 ≤ a0 ∧ a0 < 8 then 4 else 1) → Calls Tryz.prog 12 #[nilp, .int .i64 a0, .slice s2 n cap2] w fun e w' => e = .returned (.tuple #[.int .u64 0, .int .i64 r]) ∧ w = w') := Lib.hid fun w r hr => submit_nil a0 _ r hr w
  have RD : Hid (∀ (w : World) (r : Int), (r = if (a0 < 0 ∨ 7 < a0) ∨ a1 < 1 ∨ 1152921504606846976 < a1 then 1 else 4) → Calls Tryz.prog 28 #[nilp, .int .i64 a0, .int .u64 a1, .int .i64 (n : Nat), .int .i64 0, .slice s2 n cap2] w fun e w' => e = .returned (.tuple #[.int .i64 0, .bool false, .int .i64 r]) ∧ w = w') := Lib.hid fun w r hr => rdata_nil a0 a1 n s2 cap2 (by omega) r hr w
  have S1 : Hid (∀ w, Calls Tryz.prog 12 #[nilp, .int .i64 a0, .slice s2 n cap2] w fun e w' => e = .returned (.tuple #[.int .u64 0, .int .i64 1]) ∧ w = w') := Lib.hid fun w => SS.out w 1 (by simp only [decide_eq_false_iff_not] at *; split <;> omega)
  have R1 : Hid (∀ w, Calls Tryz.prog 28 #[nilp, .int .i64 a0, .int .u64 a1, .int .i64 (n : Nat), .int .i64 0, .slice s2 n cap2] w fun e w' => e = .returned (.tuple #[.int .i64 0, .bool false, .int .i64 1]) ∧ w = w') := Lib.hid fun w => RD.out w 1 (by simp only [decide_eq_false_iff_not] at *; split <;> omega)
  clear SS RD
  go_enter Tryz.func5, Tryz.ntmps5
  go_wp2_with fail
  with_reducible refine Calls.mono (S1.out _) ?_
  rintro e w1 ⟨rfl, rfl⟩
  go_wp2_with fail
  with_reducible refine Calls.mono (G1.out _) ?_
  rintro e w1 ⟨rfl, k1⟩
  have K1 := Lib.hid (k1.alloc (.cells #[.int .u64 0, .int .i64 0, .slice none 0 0, .int .i64 0, .bool false] 45))
  clear k1 S1 G1
  go_upto_region 12 with fail
  generalize w1.alloc (.cells #[.int .u64 0, .int .i64 0, .slice none 0 0, .int .i64 0, .bool false] 45) = w2 at *
  generalize w1.heap.size = q1
  go_wp2_with fail
  with_reducible refine Calls.mono (R1.out _) ?_
  rintro e w3 ⟨rfl, rfl⟩
  clear R1
  go_wp2_with fail
  with_reducible refine Calls.mono (P1.out _) ?_
  rintro e w3 ⟨rfl, k3⟩
  have K3 := Lib.hid ((K1.out.trans k3).alloc (.cells #[.int .i64 0, .int .u64 0, .slice none 0 0] 70))
  clear k3 P1 K1
  go_upto_region 14 with fail
  generalize w3.alloc (.cells #[.int .i64 0, .int .u64 0, .slice none 0 0] 70) = w4 at *
  generalize w3.heap.size = q3
  go_wp2_with fail
  with_reducible refine Calls.mono (H1.out _) ?_
  rintro e w5 ⟨rfl, k5⟩
  have K5 := Lib.hid (K3.out.trans k5)
  clear k5 H1 K3
  go_wp2_with fail
  with_reducible refine Calls.mono (E1.out _) ?_
  rintro e w6 ⟨rfl, k6⟩
  have K6 := Lib.hid (K5.out.trans k6)
  clear k6 E1 K5
  go_wp2_with fail
  with_reducible refine Calls.mono (F1.out _) ?_
  rintro e w7 ⟨rfl, k7⟩
  have K7 := Lib.hid (K6.out.trans k7)
  clear k7 F1 K6
  go_wp2_with fail
  with_reducible refine Calls.mono (O1.out _) ?_
  rintro e w8 ⟨rfl, rfl⟩
  go_wp2_with fail
  with_reducible refine Calls.mono (L1.out _) ?_
  rintro e w8 ⟨rfl, rfl⟩
  go_wp2_with fail
  with_reducible refine Calls.mono (N1.out _) ?_
  rintro e w8 ⟨rfl, rfl⟩
  go_wp2_with fail
  with_reducible refine Calls.mono (T1.out _) ?_
  rintro e w8 ⟨rfl, rfl⟩
  go_wp2_with fail
  with_reducible refine Calls.mono (D1.out _) ?_
  rintro e w8 ⟨rfl, rfl⟩
  go_wp2_with fail
  with_reducible refine Calls.mono (M1.out _) ?_
  rintro e w8 ⟨rfl, rfl⟩
  go_wp2_with fail
  with_reducible refine Calls.mono (W1.out _) ?_
  rintro e w8 ⟨rfl, rfl⟩
  go_wp2_with fail
  with_reducible refine Calls.mono (HC.out _) ?_
  rintro e w8 ⟨rfl, ho⟩
  have HO : Hid (Old w w8) := Lib.hid (K7.out.trans ho)
  clear ho
  go_wp2_with fail
  go_ret
  exact ⟨rfl, HO.out⟩
end Go.Proofs.YtjjamooihddkgaaGreat.Pk

/- Nothing keeps nothing: one of five ways. Conditions: none. -/
namespace Go.Proofs.YtjjamooihddkgaaGreat.Pk
open Go.RowKit Go.Deep Go.Proofs.YtjjamooihddkgaaGreat.Hp Go.Proofs.YtjjamooihddkgaaGreat.End Byt Ph
attribute [local go_sem ↓] Go.wp_at_zero Go.wp_at_succ
set_option maxRecDepth 100000 in
set_option maxHeartbeats 64000000 in
theorem late3 (a0 : Int) (n : Nat) (s2 : Option Addr) (cap2 : Nat) (w : World) (h : ¬ 100 < n)
    (h0 : decide (a0 < 0) = false) (h2 : decide (7 < a0) = false) :
    Calls Tryz.prog 5 #[.int .i64 a0, .int .u64 0, .slice s2 n cap2] w fun e w' => e = .returned (.bool true) ∧ Old w w' := by
  have HC := Lib.hid fun w => awake_any w
  have h1 : ¬ 100 < (n : Int) := by omega
  have G1 := Lib.hid fun w => get_nil 0 w
  have P1 := Lib.hid fun w => poll_nil w
  have H1 := Lib.hid fun w => have_nil a0 0 w
  have E1 := Lib.hid fun w => end_nil 0 2 w
  have F1 := Lib.hid fun w => forget_nil 0 w
  have O1 := Lib.hid fun w => open_nil w
  have L1 := Lib.hid fun w => lowest_nil a0 w
  have N1 := Lib.hid fun w => slen_nil w
  have T1 := Lib.hid fun w => retire_nil a0 0 w
  have D1 := Lib.hid fun w => ended_nil a0 0 w
  have M1 := Lib.hid fun w => rlen_nil w
  have W1 := Lib.hid fun w => wait_nil w
  have SS : Hid (∀ (w : World) (r : Int), r = (if 0 ≤ a0 ∧ a0 < 8 then 4 else 1) → Calls Tryz.prog 12 #[nilp, .int .i64 a0, .slice s2 n cap2] w fun e w' => e = .returned (.tuple #[.int .u64 0, .int .i64 r]) ∧ w = w') := Lib.hid fun w r hr => submit_nil a0 _ r hr w
  have RD : Hid (∀ (w : World) (r : Int), (r = if (a0 < 0 ∨ 7 < a0) ∨ (0 : Int) < 1 ∨ (1152921504606846976 : Int) < 0 then 1 else 4) → Calls Tryz.prog 28 #[nilp, .int .i64 a0, .int .u64 0, .int .i64 (n : Nat), .int .i64 0, .slice s2 n cap2] w fun e w' => e = .returned (.tuple #[.int .i64 0, .bool false, .int .i64 r]) ∧ w = w') := Lib.hid fun w r hr => rdata_nil a0 0 n s2 cap2 (by omega) r hr w
  have S1 : Hid (∀ w, Calls Tryz.prog 12 #[nilp, .int .i64 a0, .slice s2 n cap2] w fun e w' => e = .returned (.tuple #[.int .u64 0, .int .i64 4]) ∧ w = w') := Lib.hid fun w => SS.out w 4 (by simp only [decide_eq_false_iff_not] at h0 h2; split <;> omega)
  have R1 : Hid (∀ w, Calls Tryz.prog 28 #[nilp, .int .i64 a0, .int .u64 0, .int .i64 (n : Nat), .int .i64 0, .slice s2 n cap2] w fun e w' => e = .returned (.tuple #[.int .i64 0, .bool false, .int .i64 1]) ∧ w = w') := Lib.hid fun w => RD.out w 1 (by simp only [decide_eq_false_iff_not] at h0 h2; split <;> omega)
  clear SS RD
  go_enter Tryz.func5, Tryz.ntmps5
  go_wp2_with fail
  with_reducible refine Calls.mono (S1.out _) ?_
  rintro e w1 ⟨rfl, rfl⟩
  go_wp2_with fail
  with_reducible refine Calls.mono (G1.out _) ?_
  rintro e w1 ⟨rfl, k1⟩
  have K1 := Lib.hid (k1.alloc (.cells #[.int .u64 0, .int .i64 0, .slice none 0 0, .int .i64 0, .bool false] 45))
  clear k1 S1 G1
  go_upto_region 12 with fail
  generalize w1.alloc (.cells #[.int .u64 0, .int .i64 0, .slice none 0 0, .int .i64 0, .bool false] 45) = w2 at *
  generalize w1.heap.size = q1
  go_wp2_with fail
  with_reducible refine Calls.mono (R1.out _) ?_
  rintro e w3 ⟨rfl, rfl⟩
  clear R1
  go_wp2_with fail
  with_reducible refine Calls.mono (P1.out _) ?_
  rintro e w3 ⟨rfl, k3⟩
  have K3 := Lib.hid ((K1.out.trans k3).alloc (.cells #[.int .i64 0, .int .u64 0, .slice none 0 0] 70))
  clear k3 P1 K1
  go_upto_region 14 with fail
  generalize w3.alloc (.cells #[.int .i64 0, .int .u64 0, .slice none 0 0] 70) = w4 at *
  generalize w3.heap.size = q3
  go_wp2_with fail
  with_reducible refine Calls.mono (H1.out _) ?_
  rintro e w5 ⟨rfl, k5⟩
  have K5 := Lib.hid (K3.out.trans k5)
  clear k5 H1 K3
  go_wp2_with fail
  with_reducible refine Calls.mono (E1.out _) ?_
  rintro e w6 ⟨rfl, k6⟩
  have K6 := Lib.hid (K5.out.trans k6)
  clear k6 E1 K5
  go_wp2_with fail
  with_reducible refine Calls.mono (F1.out _) ?_
  rintro e w7 ⟨rfl, k7⟩
  have K7 := Lib.hid (K6.out.trans k7)
  clear k7 F1 K6
  go_wp2_with fail
  with_reducible refine Calls.mono (O1.out _) ?_
  rintro e w8 ⟨rfl, rfl⟩
  go_wp2_with fail
  with_reducible refine Calls.mono (L1.out _) ?_
  rintro e w8 ⟨rfl, rfl⟩
  go_wp2_with fail
  with_reducible refine Calls.mono (N1.out _) ?_
  rintro e w8 ⟨rfl, rfl⟩
  go_wp2_with fail
  with_reducible refine Calls.mono (T1.out _) ?_
  rintro e w8 ⟨rfl, rfl⟩
  go_wp2_with fail
  with_reducible refine Calls.mono (D1.out _) ?_
  rintro e w8 ⟨rfl, rfl⟩
  go_wp2_with fail
  with_reducible refine Calls.mono (M1.out _) ?_
  rintro e w8 ⟨rfl, rfl⟩
  go_wp2_with fail
  with_reducible refine Calls.mono (W1.out _) ?_
  rintro e w8 ⟨rfl, rfl⟩
  go_wp2_with fail
  with_reducible refine Calls.mono (HC.out _) ?_
  rintro e w8 ⟨rfl, ho⟩
  have HO : Hid (Old w w8) := Lib.hid (K7.out.trans ho)
  clear ho
  go_wp2_with fail
  go_ret
  exact ⟨rfl, HO.out⟩
end Go.Proofs.YtjjamooihddkgaaGreat.Pk

/- Nothing keeps nothing: one of five ways. Conditions: none. -/
namespace Go.Proofs.YtjjamooihddkgaaGreat.Pk
open Go.RowKit Go.Deep Go.Proofs.YtjjamooihddkgaaGreat.Hp Go.Proofs.YtjjamooihddkgaaGreat.End Byt Ph
attribute [local go_sem ↓] Go.wp_at_zero Go.wp_at_succ
set_option maxRecDepth 100000 in
set_option maxHeartbeats 64000000 in
theorem late4 (a0 a1 : Int) (n : Nat) (s2 : Option Addr) (cap2 : Nat) (w : World) (h : ¬ 100 < n)
    (h0 : decide (a0 < 0) = false) (h2 : decide (7 < a0) = false) (h3 : decide (a1 = 0) = false) (h4 : 1152921504606846976 < a1) :
    Calls Tryz.prog 5 #[.int .i64 a0, .int .u64 a1, .slice s2 n cap2] w fun e w' => e = .returned (.bool true) ∧ Old w w' := by
  have HC := Lib.hid fun w => awake_any w
  have h1 : ¬ 100 < (n : Int) := by omega
  have G1 := Lib.hid fun w => get_nil a1 w
  have P1 := Lib.hid fun w => poll_nil w
  have H1 := Lib.hid fun w => have_nil a0 a1 w
  have E1 := Lib.hid fun w => end_nil a1 2 w
  have F1 := Lib.hid fun w => forget_nil a1 w
  have O1 := Lib.hid fun w => open_nil w
  have L1 := Lib.hid fun w => lowest_nil a0 w
  have N1 := Lib.hid fun w => slen_nil w
  have T1 := Lib.hid fun w => retire_nil a0 a1 w
  have D1 := Lib.hid fun w => ended_nil a0 a1 w
  have M1 := Lib.hid fun w => rlen_nil w
  have W1 := Lib.hid fun w => wait_nil w
  have SS : Hid (∀ (w : World) (r : Int), r = (if 0 ≤ a0 ∧ a0 < 8 then 4 else 1) → Calls Tryz.prog 12 #[nilp, .int .i64 a0, .slice s2 n cap2] w fun e w' => e = .returned (.tuple #[.int .u64 0, .int .i64 r]) ∧ w = w') := Lib.hid fun w r hr => submit_nil a0 _ r hr w
  have RD : Hid (∀ (w : World) (r : Int), (r = if (a0 < 0 ∨ 7 < a0) ∨ a1 < 1 ∨ 1152921504606846976 < a1 then 1 else 4) → Calls Tryz.prog 28 #[nilp, .int .i64 a0, .int .u64 a1, .int .i64 (n : Nat), .int .i64 0, .slice s2 n cap2] w fun e w' => e = .returned (.tuple #[.int .i64 0, .bool false, .int .i64 r]) ∧ w = w') := Lib.hid fun w r hr => rdata_nil a0 a1 n s2 cap2 (by omega) r hr w
  have S1 : Hid (∀ w, Calls Tryz.prog 12 #[nilp, .int .i64 a0, .slice s2 n cap2] w fun e w' => e = .returned (.tuple #[.int .u64 0, .int .i64 4]) ∧ w = w') := Lib.hid fun w => SS.out w 4 (by simp only [decide_eq_false_iff_not] at *; split <;> omega)
  have R1 : Hid (∀ w, Calls Tryz.prog 28 #[nilp, .int .i64 a0, .int .u64 a1, .int .i64 (n : Nat), .int .i64 0, .slice s2 n cap2] w fun e w' => e = .returned (.tuple #[.int .i64 0, .bool false, .int .i64 1]) ∧ w = w') := Lib.hid fun w => RD.out w 1 (by simp only [decide_eq_false_iff_not] at *; split <;> omega)
  clear SS RD
  go_enter Tryz.func5, Tryz.ntmps5
  go_wp2_with fail
  with_reducible refine Calls.mono (S1.out _) ?_
  rintro e w1 ⟨rfl, rfl⟩
  go_wp2_with fail
  with_reducible refine Calls.mono (G1.out _) ?_
  rintro e w1 ⟨rfl, k1⟩
  have K1 := Lib.hid (k1.alloc (.cells #[.int .u64 0, .int .i64 0, .slice none 0 0, .int .i64 0, .bool false] 45))
  clear k1 S1 G1
  go_upto_region 12 with fail
  generalize w1.alloc (.cells #[.int .u64 0, .int .i64 0, .slice none 0 0, .int .i64 0, .bool false] 45) = w2 at *
  generalize w1.heap.size = q1
  go_wp2_with fail
  with_reducible refine Calls.mono (R1.out _) ?_
  rintro e w3 ⟨rfl, rfl⟩
  clear R1
  go_wp2_with fail
  with_reducible refine Calls.mono (P1.out _) ?_
  rintro e w3 ⟨rfl, k3⟩
  have K3 := Lib.hid ((K1.out.trans k3).alloc (.cells #[.int .i64 0, .int .u64 0, .slice none 0 0] 70))
  clear k3 P1 K1
  go_upto_region 14 with fail
  generalize w3.alloc (.cells #[.int .i64 0, .int .u64 0, .slice none 0 0] 70) = w4 at *
  generalize w3.heap.size = q3
  go_wp2_with fail
  with_reducible refine Calls.mono (H1.out _) ?_
  rintro e w5 ⟨rfl, k5⟩
  have K5 := Lib.hid (K3.out.trans k5)
  clear k5 H1 K3
  go_wp2_with fail
  with_reducible refine Calls.mono (E1.out _) ?_
  rintro e w6 ⟨rfl, k6⟩
  have K6 := Lib.hid (K5.out.trans k6)
  clear k6 E1 K5
  go_wp2_with fail
  with_reducible refine Calls.mono (F1.out _) ?_
  rintro e w7 ⟨rfl, k7⟩
  have K7 := Lib.hid (K6.out.trans k7)
  clear k7 F1 K6
  go_wp2_with fail
  with_reducible refine Calls.mono (O1.out _) ?_
  rintro e w8 ⟨rfl, rfl⟩
  go_wp2_with fail
  with_reducible refine Calls.mono (L1.out _) ?_
  rintro e w8 ⟨rfl, rfl⟩
  go_wp2_with fail
  with_reducible refine Calls.mono (N1.out _) ?_
  rintro e w8 ⟨rfl, rfl⟩
  go_wp2_with fail
  with_reducible refine Calls.mono (T1.out _) ?_
  rintro e w8 ⟨rfl, rfl⟩
  go_wp2_with fail
  with_reducible refine Calls.mono (D1.out _) ?_
  rintro e w8 ⟨rfl, rfl⟩
  go_wp2_with fail
  with_reducible refine Calls.mono (M1.out _) ?_
  rintro e w8 ⟨rfl, rfl⟩
  go_wp2_with fail
  with_reducible refine Calls.mono (W1.out _) ?_
  rintro e w8 ⟨rfl, rfl⟩
  go_wp2_with fail
  with_reducible refine Calls.mono (HC.out _) ?_
  rintro e w8 ⟨rfl, ho⟩
  have HO : Hid (Old w w8) := Lib.hid (K7.out.trans ho)
  clear ho
  go_wp2_with fail
  go_ret
  exact ⟨rfl, HO.out⟩
end Go.Proofs.YtjjamooihddkgaaGreat.Pk

/- Nothing keeps nothing: one of five ways. Conditions: none. -/
namespace Go.Proofs.YtjjamooihddkgaaGreat.Pk
open Go.RowKit Go.Deep Go.Proofs.YtjjamooihddkgaaGreat.Hp Go.Proofs.YtjjamooihddkgaaGreat.End Byt Ph
attribute [local go_sem ↓] Go.wp_at_zero Go.wp_at_succ
set_option maxRecDepth 100000 in
set_option maxHeartbeats 64000000 in
theorem late5 (a0 a1 : Int) (n : Nat) (s2 : Option Addr) (cap2 : Nat) (w : World) (h : ¬ 100 < n)
    (h0 : decide (a0 < 0) = false) (h2 : decide (7 < a0) = false) (h3 : decide (a1 = 0) = false) (h4 : decide ((1152921504606846976 : Int) < a1) = false) (h5 : 1 ≤ a1) :
    Calls Tryz.prog 5 #[.int .i64 a0, .int .u64 a1, .slice s2 n cap2] w fun e w' => e = .returned (.bool true) ∧ Old w w' := by
  have HC := Lib.hid fun w => awake_any w
  have h1 : ¬ 100 < (n : Int) := by omega
  have G1 := Lib.hid fun w => get_nil a1 w
  have P1 := Lib.hid fun w => poll_nil w
  have H1 := Lib.hid fun w => have_nil a0 a1 w
  have E1 := Lib.hid fun w => end_nil a1 2 w
  have F1 := Lib.hid fun w => forget_nil a1 w
  have O1 := Lib.hid fun w => open_nil w
  have L1 := Lib.hid fun w => lowest_nil a0 w
  have N1 := Lib.hid fun w => slen_nil w
  have T1 := Lib.hid fun w => retire_nil a0 a1 w
  have D1 := Lib.hid fun w => ended_nil a0 a1 w
  have M1 := Lib.hid fun w => rlen_nil w
  have W1 := Lib.hid fun w => wait_nil w
  have SS : Hid (∀ (w : World) (r : Int), r = (if 0 ≤ a0 ∧ a0 < 8 then 4 else 1) → Calls Tryz.prog 12 #[nilp, .int .i64 a0, .slice s2 n cap2] w fun e w' => e = .returned (.tuple #[.int .u64 0, .int .i64 r]) ∧ w = w') := Lib.hid fun w r hr => submit_nil a0 _ r hr w
  have RD : Hid (∀ (w : World) (r : Int), (r = if (a0 < 0 ∨ 7 < a0) ∨ a1 < 1 ∨ 1152921504606846976 < a1 then 1 else 4) → Calls Tryz.prog 28 #[nilp, .int .i64 a0, .int .u64 a1, .int .i64 (n : Nat), .int .i64 0, .slice s2 n cap2] w fun e w' => e = .returned (.tuple #[.int .i64 0, .bool false, .int .i64 r]) ∧ w = w') := Lib.hid fun w r hr => rdata_nil a0 a1 n s2 cap2 (by omega) r hr w
  have S1 : Hid (∀ w, Calls Tryz.prog 12 #[nilp, .int .i64 a0, .slice s2 n cap2] w fun e w' => e = .returned (.tuple #[.int .u64 0, .int .i64 4]) ∧ w = w') := Lib.hid fun w => SS.out w 4 (by simp only [decide_eq_false_iff_not] at *; split <;> omega)
  have R1 : Hid (∀ w, Calls Tryz.prog 28 #[nilp, .int .i64 a0, .int .u64 a1, .int .i64 (n : Nat), .int .i64 0, .slice s2 n cap2] w fun e w' => e = .returned (.tuple #[.int .i64 0, .bool false, .int .i64 4]) ∧ w = w') := Lib.hid fun w => RD.out w 4 (by simp only [decide_eq_false_iff_not] at *; split <;> omega)
  clear SS RD
  go_enter Tryz.func5, Tryz.ntmps5
  go_wp2_with fail
  with_reducible refine Calls.mono (S1.out _) ?_
  rintro e w1 ⟨rfl, rfl⟩
  go_wp2_with fail
  with_reducible refine Calls.mono (G1.out _) ?_
  rintro e w1 ⟨rfl, k1⟩
  have K1 := Lib.hid (k1.alloc (.cells #[.int .u64 0, .int .i64 0, .slice none 0 0, .int .i64 0, .bool false] 45))
  clear k1 S1 G1
  go_upto_region 12 with fail
  generalize w1.alloc (.cells #[.int .u64 0, .int .i64 0, .slice none 0 0, .int .i64 0, .bool false] 45) = w2 at *
  generalize w1.heap.size = q1
  go_wp2_with fail
  with_reducible refine Calls.mono (R1.out _) ?_
  rintro e w3 ⟨rfl, rfl⟩
  clear R1
  go_wp2_with fail
  with_reducible refine Calls.mono (P1.out _) ?_
  rintro e w3 ⟨rfl, k3⟩
  have K3 := Lib.hid ((K1.out.trans k3).alloc (.cells #[.int .i64 0, .int .u64 0, .slice none 0 0] 70))
  clear k3 P1 K1
  go_upto_region 14 with fail
  generalize w3.alloc (.cells #[.int .i64 0, .int .u64 0, .slice none 0 0] 70) = w4 at *
  generalize w3.heap.size = q3
  go_wp2_with fail
  with_reducible refine Calls.mono (H1.out _) ?_
  rintro e w5 ⟨rfl, k5⟩
  have K5 := Lib.hid (K3.out.trans k5)
  clear k5 H1 K3
  go_wp2_with fail
  with_reducible refine Calls.mono (E1.out _) ?_
  rintro e w6 ⟨rfl, k6⟩
  have K6 := Lib.hid (K5.out.trans k6)
  clear k6 E1 K5
  go_wp2_with fail
  with_reducible refine Calls.mono (F1.out _) ?_
  rintro e w7 ⟨rfl, k7⟩
  have K7 := Lib.hid (K6.out.trans k7)
  clear k7 F1 K6
  go_wp2_with fail
  with_reducible refine Calls.mono (O1.out _) ?_
  rintro e w8 ⟨rfl, rfl⟩
  go_wp2_with fail
  with_reducible refine Calls.mono (L1.out _) ?_
  rintro e w8 ⟨rfl, rfl⟩
  go_wp2_with fail
  with_reducible refine Calls.mono (N1.out _) ?_
  rintro e w8 ⟨rfl, rfl⟩
  go_wp2_with fail
  with_reducible refine Calls.mono (T1.out _) ?_
  rintro e w8 ⟨rfl, rfl⟩
  go_wp2_with fail
  with_reducible refine Calls.mono (D1.out _) ?_
  rintro e w8 ⟨rfl, rfl⟩
  go_wp2_with fail
  with_reducible refine Calls.mono (M1.out _) ?_
  rintro e w8 ⟨rfl, rfl⟩
  go_wp2_with fail
  with_reducible refine Calls.mono (W1.out _) ?_
  rintro e w8 ⟨rfl, rfl⟩
  go_wp2_with fail
  with_reducible refine Calls.mono (HC.out _) ?_
  rintro e w8 ⟨rfl, ho⟩
  have HO : Hid (Old w w8) := Lib.hid (K7.out.trans ho)
  clear ho
  go_wp2_with fail
  go_ret
  exact ⟨rfl, HO.out⟩
end Go.Proofs.YtjjamooihddkgaaGreat.Pk

