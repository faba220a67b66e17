/- Frames: Check. Conditions: each theorem's own. -/
import Derived.Test.YtpogpibjkolioaaGreatFpK15
set_option linter.unusedVariables false
set_option linter.unusedSimpArgs false
namespace Go.Proofs.YtpogpibjkolioaaGreat.Wr
open Go.RowKit Hp WrM
attribute [local go_sem ↓] Go.wp_at_zero Go.wp_at_succ
set_option maxHeartbeats 4000000 in
set_option maxRecDepth 100000 in
theorem check_fit {f : Frm} (h1 : ¬ Fit f) (s : Option Addr) (c : Nat) (w : World) : Calls Tryz.prog 32 #[fv f s c] w (Ans w (.int .i64 1)) := by
 obtain ⟨kind, src, dst, prio, msg, off, len, total, num, data⟩ := f
 have C1 := Lib.hid fun w => fits_no h1 s c w
 clear h1
 unfold fv fcs at *
 dsimp only at *
 go_enter Tryz.func32, Tryz.ntmps32
 go_upto_region 1 with fail
 have hB : Blk (w.alloc (.cells #[.int .i64 kind, .int .i64 src, .int .i64 dst, .int .i64 prio, .int .u64 (msg : Int), .int .i64 off, .int .i64 len, .int .i64 total, .int .i64 num, .slice s data.length c] 35)) w.heap.size [.int .i64 kind, .int .i64 src, .int .i64 dst, .int .i64 prio, .int .u64 (msg : Int), .int .i64 off, .int .i64 len, .int .i64 total, .int .i64 num, .slice s data.length c] 35 := Blk.new w _ _
 have hk1 : Kept (fun _ => False) w (w.alloc (.cells #[.int .i64 kind, .int .i64 src, .int .i64 dst, .int .i64 prio, .int .u64 (msg : Int), .int .i64 off, .int .i64 len, .int .i64 total, .int .i64 num, .slice s data.length c] 35)) := (Kept.refl _ w).alloc _
 generalize w.alloc (.cells #[.int .i64 kind, .int .i64 src, .int .i64 dst, .int .i64 prio, .int .u64 (msg : Int), .int .i64 off, .int .i64 len, .int .i64 total, .int .i64 num, .slice s data.length c] 35) = w1 at *
 generalize w.heap.size = vb at *
 have E0 := Lib.hid (Kept.refl (fun _ => False) w1)
 have KS := Lib.hid fun (w' : World) (k : Kept (fun _ => False) w1 w') => (show w'.cell? ⟨vb, 0, none⟩ = some (.int .i64 kind) ∧ w'.cell? ⟨vb, 1, none⟩ = some (.int .i64 src) ∧ w'.cell? ⟨vb, 2, none⟩ = some (.int .i64 dst) ∧ w'.cell? ⟨vb, 3, none⟩ = some (.int .i64 prio) ∧ w'.cell? ⟨vb, 4, none⟩ = some (.int .u64 (msg : Int)) ∧ w'.cell? ⟨vb, 5, none⟩ = some (.int .i64 off) ∧ w'.cell? ⟨vb, 6, none⟩ = some (.int .i64 len) ∧ w'.cell? ⟨vb, 7, none⟩ = some (.int .i64 total) ∧ w'.cell? ⟨vb, 8, none⟩ = some (.int .i64 num) ∧ w'.cell? ⟨vb, 9, none⟩ = some (.slice s data.length c) from have hx := k.blk hB (fun f => f); ⟨hx.cell (o := 0) rfl, ⟨hx.cell (o := 1) rfl, ⟨hx.cell (o := 2) rfl, ⟨hx.cell (o := 3) rfl, ⟨hx.cell (o := 4) rfl, ⟨hx.cell (o := 5) rfl, ⟨hx.cell (o := 6) rfl, ⟨hx.cell (o := 7) rfl, ⟨hx.cell (o := 8) rfl, hx.cell (o := 9) rfl⟩⟩⟩⟩⟩⟩⟩⟩⟩)
 clear hB
 refine wp_region_held_drew (S := fun w' => w'.cell? ⟨vb, 0, none⟩ = some (.int .i64 kind) ∧ w'.cell? ⟨vb, 1, none⟩ = some (.int .i64 src) ∧ w'.cell? ⟨vb, 2, none⟩ = some (.int .i64 dst) ∧ w'.cell? ⟨vb, 3, none⟩ = some (.int .i64 prio) ∧ w'.cell? ⟨vb, 4, none⟩ = some (.int .u64 (msg : Int)) ∧ w'.cell? ⟨vb, 5, none⟩ = some (.int .i64 off) ∧ w'.cell? ⟨vb, 6, none⟩ = some (.int .i64 len) ∧ w'.cell? ⟨vb, 7, none⟩ = some (.int .i64 total) ∧ w'.cell? ⟨vb, 8, none⟩ = some (.int .i64 num) ∧ w'.cell? ⟨vb, 9, none⟩ = some (.slice s data.length c)) (by kernel_rfl) (KS.out _ E0.out.drew) (fun hHeld => ?_)
 have K0 := Lib.hid E0.out.drew
 refine tk 0 ⟨some 3, .load 35 (.tmp 1), 35, "wire.go:52", #[], none⟩ (v := ?_) rfl ?_ ?_
 rotate_left 1
 focus (intro w h; (try dsimp only at h); go_simp; try with_reducible rfl)
 try simp only [Act.put, ppA, ppB, ppC]
 refine wpAnyH_ready (rs := [1]) (by kernel_rfl) (by simp) ?_
 refine AllReadyH.cons (o := ⟨some 4, .call ⟨.value (.func 59), #[.tmp 3], #[35]⟩, 4, "wire.go:52", #[⟨0, .data⟩], none⟩) rfl (fun K hK => ?_) AllReadyH.nil
 go_simp
 with_reducible refine Calls.mono (C1.out _) ?_
 rintro e x1 ⟨rfl, k1⟩
 have K1 := Lib.hid (K0.out.trans k1)
 clear k1
 refine hK.out _ _ (KS.out _ K1.out) (fun hHeld => ?_)
 clear hK K
 try simp only [Act.put, ppA, ppB, ppC]
 refine tk 2 ⟨some 5, .unOp .not 4 (.tmp 4), 4, "wire.go:52", #[⟨1, .data⟩], none⟩ (v := ?_) rfl ?_ ?_
 rotate_left 1
 focus (intro w h; (try dsimp only at h); go_simp; try with_reducible rfl)
 try simp only [Act.put, ppA, ppB, ppC]
 refine tk 3 ⟨some 6, .move (.tmp 5), 4, "wire.go:52", #[⟨2, .data⟩, ⟨1, .chain⟩], none⟩ (v := ?_) rfl ?_ ?_
 rotate_left 1
 focus (intro w h; (try dsimp only at h); go_simp; try with_reducible rfl)
 try simp only [Act.put, ppA, ppB, ppC]
 refine tko 4 ⟨some 7, .load 35 (.tmp 1), 35, "wire.go:52", #[⟨3, .guard⟩], some (3, false)⟩ rfl ?_
 try simp only [Act.put, ppA, ppB, ppC]
 refine tko 5 ⟨some 8, .call ⟨.value (.func 60), #[.tmp 7], #[35]⟩, 4, "wire.go:52", #[⟨4, .data⟩, ⟨3, .chain⟩, ⟨3, .guard⟩], some (3, false)⟩ rfl ?_
 try simp only [Act.put, ppA, ppB, ppC]
 refine tko 6 ⟨some 9, .unOp .not 4 (.tmp 8), 4, "wire.go:52", #[⟨5, .data⟩, ⟨3, .guard⟩], some (3, false)⟩ rfl ?_
 try simp only [Act.put, ppA, ppB, ppC]
 refine tk 7 ⟨some 10, .pick (.tmp 6) (.const (.bool true)) (.tmp 9), 4, "wire.go:52", #[⟨3, .data⟩, ⟨6, .data⟩], none⟩ (v := ?_) rfl ?_ ?_
 rotate_left 1
 focus (intro w h; (try dsimp only at h); go_simp; try with_reducible rfl)
 try simp only [Act.put, ppA, ppB, ppC]
 refine tk 8 ⟨some 11, .move (.tmp 10), 4, "wire.go:52", #[⟨7, .data⟩, ⟨5, .chain⟩], none⟩ (v := ?_) rfl ?_ ?_
 rotate_left 1
 focus (intro w h; (try dsimp only at h); go_simp; try with_reducible rfl)
 try simp only [Act.put, ppA, ppB, ppC]
 refine tko 9 ⟨some 12, .fieldAddr 35 (.tmp 1) 9, 0, "wire.go:52", #[⟨8, .guard⟩], some (8, false)⟩ rfl ?_
 try simp only [Act.put, ppA, ppB, ppC]
 refine tko 10 ⟨some 13, .load 33 (.tmp 12), 33, "wire.go:52", #[⟨9, .data⟩, ⟨8, .guard⟩], some (8, false)⟩ rfl ?_
 try simp only [Act.put, ppA, ppB, ppC]
 refine tko 11 ⟨some 14, .call ⟨.builtin .len, #[.tmp 13], #[33]⟩, 3, "wire.go:52", #[⟨10, .data⟩, ⟨8, .guard⟩], some (8, false)⟩ rfl ?_
 try simp only [Act.put, ppA, ppB, ppC]
 refine tko 12 ⟨some 15, .load 35 (.tmp 1), 35, "wire.go:52", #[⟨8, .guard⟩], some (8, false)⟩ rfl ?_
 try simp only [Act.put, ppA, ppB, ppC]
 refine tko 13 ⟨some 16, .call ⟨.value (.func 61), #[.tmp 15], #[35]⟩, 3, "wire.go:52", #[⟨12, .data⟩, ⟨8, .chain⟩, ⟨8, .guard⟩], some (8, false)⟩ rfl ?_
 try simp only [Act.put, ppA, ppB, ppC]
 refine tko 14 ⟨some 17, .binOp .neq 3 (.tmp 14) (.tmp 16) 3, 4, "wire.go:52", #[⟨11, .data⟩, ⟨13, .data⟩, ⟨8, .guard⟩], some (8, false)⟩ rfl ?_
 try simp only [Act.put, ppA, ppB, ppC]
 refine tk 15 ⟨some 18, .pick (.tmp 11) (.const (.bool true)) (.tmp 17), 4, "wire.go:52", #[⟨8, .data⟩, ⟨14, .data⟩], none⟩ (v := ?_) rfl ?_ ?_
 rotate_left 1
 focus (intro w h; (try dsimp only at h); go_simp; try with_reducible rfl)
 try simp only [Act.put, ppA, ppB, ppC]
 refine wpAnyH_done (by kernel_rfl) ?_ _
 go_wp2_with fail
 go_ret
 exact ⟨rfl, hk1.trans K1.out⟩
set_option maxHeartbeats 4000000 in
set_option maxRecDepth 100000 in
theorem check_rng {f : Frm} (h1 : Fit f) (h2 : ¬ Rng f) (s : Option Addr) (c : Nat) (w : World) : Calls Tryz.prog 32 #[fv f s c] w (Ans w (.int .i64 1)) := by
 obtain ⟨kind, src, dst, prio, msg, off, len, total, num, data⟩ := f
 have C1 := Lib.hid fun w => fits_yes h1 s c w
 have C2 := Lib.hid fun w => rng_no h1 h2 s c w
 clear h1 h2
 unfold fv fcs at *
 dsimp only at *
 go_enter Tryz.func32, Tryz.ntmps32
 go_upto_region 1 with fail
 have hB : Blk (w.alloc (.cells #[.int .i64 kind, .int .i64 src, .int .i64 dst, .int .i64 prio, .int .u64 (msg : Int), .int .i64 off, .int .i64 len, .int .i64 total, .int .i64 num, .slice s data.length c] 35)) w.heap.size [.int .i64 kind, .int .i64 src, .int .i64 dst, .int .i64 prio, .int .u64 (msg : Int), .int .i64 off, .int .i64 len, .int .i64 total, .int .i64 num, .slice s data.length c] 35 := Blk.new w _ _
 have hk1 : Kept (fun _ => False) w (w.alloc (.cells #[.int .i64 kind, .int .i64 src, .int .i64 dst, .int .i64 prio, .int .u64 (msg : Int), .int .i64 off, .int .i64 len, .int .i64 total, .int .i64 num, .slice s data.length c] 35)) := (Kept.refl _ w).alloc _
 generalize w.alloc (.cells #[.int .i64 kind, .int .i64 src, .int .i64 dst, .int .i64 prio, .int .u64 (msg : Int), .int .i64 off, .int .i64 len, .int .i64 total, .int .i64 num, .slice s data.length c] 35) = w1 at *
 generalize w.heap.size = vb at *
 have E0 := Lib.hid (Kept.refl (fun _ => False) w1)
 have KS := Lib.hid fun (w' : World) (k : Kept (fun _ => False) w1 w') => (show w'.cell? ⟨vb, 0, none⟩ = some (.int .i64 kind) ∧ w'.cell? ⟨vb, 1, none⟩ = some (.int .i64 src) ∧ w'.cell? ⟨vb, 2, none⟩ = some (.int .i64 dst) ∧ w'.cell? ⟨vb, 3, none⟩ = some (.int .i64 prio) ∧ w'.cell? ⟨vb, 4, none⟩ = some (.int .u64 (msg : Int)) ∧ w'.cell? ⟨vb, 5, none⟩ = some (.int .i64 off) ∧ w'.cell? ⟨vb, 6, none⟩ = some (.int .i64 len) ∧ w'.cell? ⟨vb, 7, none⟩ = some (.int .i64 total) ∧ w'.cell? ⟨vb, 8, none⟩ = some (.int .i64 num) ∧ w'.cell? ⟨vb, 9, none⟩ = some (.slice s data.length c) from have hx := k.blk hB (fun f => f); ⟨hx.cell (o := 0) rfl, ⟨hx.cell (o := 1) rfl, ⟨hx.cell (o := 2) rfl, ⟨hx.cell (o := 3) rfl, ⟨hx.cell (o := 4) rfl, ⟨hx.cell (o := 5) rfl, ⟨hx.cell (o := 6) rfl, ⟨hx.cell (o := 7) rfl, ⟨hx.cell (o := 8) rfl, hx.cell (o := 9) rfl⟩⟩⟩⟩⟩⟩⟩⟩⟩)
 clear hB
 refine wp_region_held_drew (S := fun w' => w'.cell? ⟨vb, 0, none⟩ = some (.int .i64 kind) ∧ w'.cell? ⟨vb, 1, none⟩ = some (.int .i64 src) ∧ w'.cell? ⟨vb, 2, none⟩ = some (.int .i64 dst) ∧ w'.cell? ⟨vb, 3, none⟩ = some (.int .i64 prio) ∧ w'.cell? ⟨vb, 4, none⟩ = some (.int .u64 (msg : Int)) ∧ w'.cell? ⟨vb, 5, none⟩ = some (.int .i64 off) ∧ w'.cell? ⟨vb, 6, none⟩ = some (.int .i64 len) ∧ w'.cell? ⟨vb, 7, none⟩ = some (.int .i64 total) ∧ w'.cell? ⟨vb, 8, none⟩ = some (.int .i64 num) ∧ w'.cell? ⟨vb, 9, none⟩ = some (.slice s data.length c)) (by kernel_rfl) (KS.out _ E0.out.drew) (fun hHeld => ?_)
 have K0 := Lib.hid E0.out.drew
 refine tk 0 ⟨some 3, .load 35 (.tmp 1), 35, "wire.go:52", #[], none⟩ (v := ?_) rfl ?_ ?_
 rotate_left 1
 focus (intro w h; (try dsimp only at h); go_simp; try with_reducible rfl)
 try simp only [Act.put, ppA, ppB, ppC]
 refine wpAnyH_ready (rs := [1]) (by kernel_rfl) (by simp) ?_
 refine AllReadyH.cons (o := ⟨some 4, .call ⟨.value (.func 59), #[.tmp 3], #[35]⟩, 4, "wire.go:52", #[⟨0, .data⟩], none⟩) rfl (fun K hK => ?_) AllReadyH.nil
 go_simp
 with_reducible refine Calls.mono (C1.out _) ?_
 rintro e x1 ⟨rfl, k1⟩
 have K1 := Lib.hid (K0.out.trans k1)
 clear k1
 refine hK.out _ _ (KS.out _ K1.out) (fun hHeld => ?_)
 clear hK K
 try simp only [Act.put, ppA, ppB, ppC]
 refine tk 2 ⟨some 5, .unOp .not 4 (.tmp 4), 4, "wire.go:52", #[⟨1, .data⟩], none⟩ (v := ?_) rfl ?_ ?_
 rotate_left 1
 focus (intro w h; (try dsimp only at h); go_simp; try with_reducible rfl)
 try simp only [Act.put, ppA, ppB, ppC]
 refine tk 3 ⟨some 6, .move (.tmp 5), 4, "wire.go:52", #[⟨2, .data⟩, ⟨1, .chain⟩], none⟩ (v := ?_) rfl ?_ ?_
 rotate_left 1
 focus (intro w h; (try dsimp only at h); go_simp; try with_reducible rfl)
 try simp only [Act.put, ppA, ppB, ppC]
 refine tk 4 ⟨some 7, .load 35 (.tmp 1), 35, "wire.go:52", #[⟨3, .guard⟩], some (3, false)⟩ (v := ?_) rfl ?_ ?_
 rotate_left 1
 focus (intro w h; (try dsimp only at h); go_simp; try with_reducible rfl)
 try simp only [Act.put, ppA, ppB, ppC]
 refine wpAnyH_ready (rs := [5]) (by kernel_rfl) (by simp) ?_
 refine AllReadyH.cons (o := ⟨some 8, .call ⟨.value (.func 60), #[.tmp 7], #[35]⟩, 4, "wire.go:52", #[⟨4, .data⟩, ⟨3, .chain⟩, ⟨3, .guard⟩], some (3, false)⟩) rfl (fun K hK => ?_) AllReadyH.nil
 go_simp
 with_reducible refine Calls.mono (C2.out _) ?_
 rintro e x2 ⟨rfl, k2⟩
 have K2 := Lib.hid (K1.out.trans k2)
 clear k2
 refine hK.out _ _ (KS.out _ K2.out) (fun hHeld => ?_)
 clear hK K
 try simp only [Act.put, ppA, ppB, ppC]
 refine tk 6 ⟨some 9, .unOp .not 4 (.tmp 8), 4, "wire.go:52", #[⟨5, .data⟩, ⟨3, .guard⟩], some (3, false)⟩ (v := ?_) rfl ?_ ?_
 rotate_left 1
 focus (intro w h; (try dsimp only at h); go_simp; try with_reducible rfl)
 try simp only [Act.put, ppA, ppB, ppC]
 refine tk 7 ⟨some 10, .pick (.tmp 6) (.const (.bool true)) (.tmp 9), 4, "wire.go:52", #[⟨3, .data⟩, ⟨6, .data⟩], none⟩ (v := ?_) rfl ?_ ?_
 rotate_left 1
 focus (intro w h; (try dsimp only at h); go_simp; try with_reducible rfl)
 try simp only [Act.put, ppA, ppB, ppC]
 refine tk 8 ⟨some 11, .move (.tmp 10), 4, "wire.go:52", #[⟨7, .data⟩, ⟨5, .chain⟩], none⟩ (v := ?_) rfl ?_ ?_
 rotate_left 1
 focus (intro w h; (try dsimp only at h); go_simp; try with_reducible rfl)
 try simp only [Act.put, ppA, ppB, ppC]
 refine tko 9 ⟨some 12, .fieldAddr 35 (.tmp 1) 9, 0, "wire.go:52", #[⟨8, .guard⟩], some (8, false)⟩ rfl ?_
 try simp only [Act.put, ppA, ppB, ppC]
 refine tko 10 ⟨some 13, .load 33 (.tmp 12), 33, "wire.go:52", #[⟨9, .data⟩, ⟨8, .guard⟩], some (8, false)⟩ rfl ?_
 try simp only [Act.put, ppA, ppB, ppC]
 refine tko 11 ⟨some 14, .call ⟨.builtin .len, #[.tmp 13], #[33]⟩, 3, "wire.go:52", #[⟨10, .data⟩, ⟨8, .guard⟩], some (8, false)⟩ rfl ?_
 try simp only [Act.put, ppA, ppB, ppC]
 refine tko 12 ⟨some 15, .load 35 (.tmp 1), 35, "wire.go:52", #[⟨8, .guard⟩], some (8, false)⟩ rfl ?_
 try simp only [Act.put, ppA, ppB, ppC]
 refine tko 13 ⟨some 16, .call ⟨.value (.func 61), #[.tmp 15], #[35]⟩, 3, "wire.go:52", #[⟨12, .data⟩, ⟨8, .chain⟩, ⟨8, .guard⟩], some (8, false)⟩ rfl ?_
 try simp only [Act.put, ppA, ppB, ppC]
 refine tko 14 ⟨some 17, .binOp .neq 3 (.tmp 14) (.tmp 16) 3, 4, "wire.go:52", #[⟨11, .data⟩, ⟨13, .data⟩, ⟨8, .guard⟩], some (8, false)⟩ rfl ?_
 try simp only [Act.put, ppA, ppB, ppC]
 refine tk 15 ⟨some 18, .pick (.tmp 11) (.const (.bool true)) (.tmp 17), 4, "wire.go:52", #[⟨8, .data⟩, ⟨14, .data⟩], none⟩ (v := ?_) rfl ?_ ?_
 rotate_left 1
 focus (intro w h; (try dsimp only at h); go_simp; try with_reducible rfl)
 try simp only [Act.put, ppA, ppB, ppC]
 refine wpAnyH_done (by kernel_rfl) ?_ _
 go_wp2_with fail
 go_ret
 exact ⟨rfl, hk1.trans K2.out⟩
set_option maxHeartbeats 4000000 in
set_option maxRecDepth 100000 in
theorem check_dat {f : Frm} (h1 : Fit f) (h2 : Rng f) (h3 : ¬ Dat f) (s : Option Addr) (c : Nat) (w : World) : Calls Tryz.prog 32 #[fv f s c] w (Ans w (.int .i64 1)) := by
 obtain ⟨kind, src, dst, prio, msg, off, len, total, num, data⟩ := f
 have C1 := Lib.hid fun w => fits_yes h1 s c w
 have C2 := Lib.hid fun w => rng_yes h1 h2 s c w
 have C3 := Lib.hid fun w => dlen_any (f := ⟨kind, src, dst, prio, msg, off, len, total, num, data⟩) s c w
 unfold Dat at h3
 unfold dl at C3
 dsimp only at h3 C3
 have hd : ((data.length : Int) == (if kind = 1 then len else 0)) = false := by rw [beq_eq_false_iff_ne]; exact h3
 have hd2 : ((data.length : Int) != (if kind = 1 then len else 0)) = true := by rw [bne_iff_ne]; exact h3
 generalize (if kind = 1 then len else 0 : Int) = q at *
 clear h1 h2 h3
 unfold fv fcs at *
 dsimp only at *
 go_enter Tryz.func32, Tryz.ntmps32
 go_upto_region 1 with fail
 have hB : Blk (w.alloc (.cells #[.int .i64 kind, .int .i64 src, .int .i64 dst, .int .i64 prio, .int .u64 (msg : Int), .int .i64 off, .int .i64 len, .int .i64 total, .int .i64 num, .slice s data.length c] 35)) w.heap.size [.int .i64 kind, .int .i64 src, .int .i64 dst, .int .i64 prio, .int .u64 (msg : Int), .int .i64 off, .int .i64 len, .int .i64 total, .int .i64 num, .slice s data.length c] 35 := Blk.new w _ _
 have hk1 : Kept (fun _ => False) w (w.alloc (.cells #[.int .i64 kind, .int .i64 src, .int .i64 dst, .int .i64 prio, .int .u64 (msg : Int), .int .i64 off, .int .i64 len, .int .i64 total, .int .i64 num, .slice s data.length c] 35)) := (Kept.refl _ w).alloc _
 generalize w.alloc (.cells #[.int .i64 kind, .int .i64 src, .int .i64 dst, .int .i64 prio, .int .u64 (msg : Int), .int .i64 off, .int .i64 len, .int .i64 total, .int .i64 num, .slice s data.length c] 35) = w1 at *
 generalize w.heap.size = vb at *
 have E0 := Lib.hid (Kept.refl (fun _ => False) w1)
 have KS := Lib.hid fun (w' : World) (k : Kept (fun _ => False) w1 w') => (show w'.cell? ⟨vb, 0, none⟩ = some (.int .i64 kind) ∧ w'.cell? ⟨vb, 1, none⟩ = some (.int .i64 src) ∧ w'.cell? ⟨vb, 2, none⟩ = some (.int .i64 dst) ∧ w'.cell? ⟨vb, 3, none⟩ = some (.int .i64 prio) ∧ w'.cell? ⟨vb, 4, none⟩ = some (.int .u64 (msg : Int)) ∧ w'.cell? ⟨vb, 5, none⟩ = some (.int .i64 off) ∧ w'.cell? ⟨vb, 6, none⟩ = some (.int .i64 len) ∧ w'.cell? ⟨vb, 7, none⟩ = some (.int .i64 total) ∧ w'.cell? ⟨vb, 8, none⟩ = some (.int .i64 num) ∧ w'.cell? ⟨vb, 9, none⟩ = some (.slice s data.length c) from have hx := k.blk hB (fun f => f); ⟨hx.cell (o := 0) rfl, ⟨hx.cell (o := 1) rfl, ⟨hx.cell (o := 2) rfl, ⟨hx.cell (o := 3) rfl, ⟨hx.cell (o := 4) rfl, ⟨hx.cell (o := 5) rfl, ⟨hx.cell (o := 6) rfl, ⟨hx.cell (o := 7) rfl, ⟨hx.cell (o := 8) rfl, hx.cell (o := 9) rfl⟩⟩⟩⟩⟩⟩⟩⟩⟩)
 clear hB
 refine wp_region_held_drew (S := fun w' => w'.cell? ⟨vb, 0, none⟩ = some (.int .i64 kind) ∧ w'.cell? ⟨vb, 1, none⟩ = some (.int .i64 src) ∧ w'.cell? ⟨vb, 2, none⟩ = some (.int .i64 dst) ∧ w'.cell? ⟨vb, 3, none⟩ = some (.int .i64 prio) ∧ w'.cell? ⟨vb, 4, none⟩ = some (.int .u64 (msg : Int)) ∧ w'.cell? ⟨vb, 5, none⟩ = some (.int .i64 off) ∧ w'.cell? ⟨vb, 6, none⟩ = some (.int .i64 len) ∧ w'.cell? ⟨vb, 7, none⟩ = some (.int .i64 total) ∧ w'.cell? ⟨vb, 8, none⟩ = some (.int .i64 num) ∧ w'.cell? ⟨vb, 9, none⟩ = some (.slice s data.length c)) (by kernel_rfl) (KS.out _ E0.out.drew) (fun hHeld => ?_)
 have K0 := Lib.hid E0.out.drew
 refine tk 0 ⟨some 3, .load 35 (.tmp 1), 35, "wire.go:52", #[], none⟩ (v := ?_) rfl ?_ ?_
 rotate_left 1
 focus (intro w h; (try dsimp only at h); go_simp; try with_reducible rfl)
 try simp only [Act.put, ppA, ppB, ppC]
 refine wpAnyH_ready (rs := [1]) (by kernel_rfl) (by simp) ?_
 refine AllReadyH.cons (o := ⟨some 4, .call ⟨.value (.func 59), #[.tmp 3], #[35]⟩, 4, "wire.go:52", #[⟨0, .data⟩], none⟩) rfl (fun K hK => ?_) AllReadyH.nil
 go_simp
 with_reducible refine Calls.mono (C1.out _) ?_
 rintro e x1 ⟨rfl, k1⟩
 have K1 := Lib.hid (K0.out.trans k1)
 clear k1
 refine hK.out _ _ (KS.out _ K1.out) (fun hHeld => ?_)
 clear hK K
 try simp only [Act.put, ppA, ppB, ppC]
 refine tk 2 ⟨some 5, .unOp .not 4 (.tmp 4), 4, "wire.go:52", #[⟨1, .data⟩], none⟩ (v := ?_) rfl ?_ ?_
 rotate_left 1
 focus (intro w h; (try dsimp only at h); go_simp; try with_reducible rfl)
 try simp only [Act.put, ppA, ppB, ppC]
 refine tk 3 ⟨some 6, .move (.tmp 5), 4, "wire.go:52", #[⟨2, .data⟩, ⟨1, .chain⟩], none⟩ (v := ?_) rfl ?_ ?_
 rotate_left 1
 focus (intro w h; (try dsimp only at h); go_simp; try with_reducible rfl)
 try simp only [Act.put, ppA, ppB, ppC]
 refine tk 4 ⟨some 7, .load 35 (.tmp 1), 35, "wire.go:52", #[⟨3, .guard⟩], some (3, false)⟩ (v := ?_) rfl ?_ ?_
 rotate_left 1
 focus (intro w h; (try dsimp only at h); go_simp; try with_reducible rfl)
 try simp only [Act.put, ppA, ppB, ppC]
 refine wpAnyH_ready (rs := [5]) (by kernel_rfl) (by simp) ?_
 refine AllReadyH.cons (o := ⟨some 8, .call ⟨.value (.func 60), #[.tmp 7], #[35]⟩, 4, "wire.go:52", #[⟨4, .data⟩, ⟨3, .chain⟩, ⟨3, .guard⟩], some (3, false)⟩) rfl (fun K hK => ?_) AllReadyH.nil
 go_simp
 with_reducible refine Calls.mono (C2.out _) ?_
 rintro e x2 ⟨rfl, k2⟩
 have K2 := Lib.hid (K1.out.trans k2)
 clear k2
 refine hK.out _ _ (KS.out _ K2.out) (fun hHeld => ?_)
 clear hK K
 try simp only [Act.put, ppA, ppB, ppC]
 refine tk 6 ⟨some 9, .unOp .not 4 (.tmp 8), 4, "wire.go:52", #[⟨5, .data⟩, ⟨3, .guard⟩], some (3, false)⟩ (v := ?_) rfl ?_ ?_
 rotate_left 1
 focus (intro w h; (try dsimp only at h); go_simp; try with_reducible rfl)
 try simp only [Act.put, ppA, ppB, ppC]
 refine tk 7 ⟨some 10, .pick (.tmp 6) (.const (.bool true)) (.tmp 9), 4, "wire.go:52", #[⟨3, .data⟩, ⟨6, .data⟩], none⟩ (v := ?_) rfl ?_ ?_
 rotate_left 1
 focus (intro w h; (try dsimp only at h); go_simp; try with_reducible rfl)
 try simp only [Act.put, ppA, ppB, ppC]
 refine tk 8 ⟨some 11, .move (.tmp 10), 4, "wire.go:52", #[⟨7, .data⟩, ⟨5, .chain⟩], none⟩ (v := ?_) rfl ?_ ?_
 rotate_left 1
 focus (intro w h; (try dsimp only at h); go_simp; try with_reducible rfl)
 try simp only [Act.put, ppA, ppB, ppC]
 refine tk 9 ⟨some 12, .fieldAddr 35 (.tmp 1) 9, 0, "wire.go:52", #[⟨8, .guard⟩], some (8, false)⟩ (v := ?_) rfl ?_ ?_
 rotate_left 1
 focus (intro w h; (try dsimp only at h); go_simp; try with_reducible rfl)
 try simp only [Act.put, ppA, ppB, ppC]
 refine tk 10 ⟨some 13, .load 33 (.tmp 12), 33, "wire.go:52", #[⟨9, .data⟩, ⟨8, .guard⟩], some (8, false)⟩ (v := ?_) rfl ?_ ?_
 rotate_left 1
 focus (intro w h; (try dsimp only at h); go_simp; try with_reducible rfl)
 try simp only [Act.put, ppA, ppB, ppC]
 refine tk 11 ⟨some 14, .call ⟨.builtin .len, #[.tmp 13], #[33]⟩, 3, "wire.go:52", #[⟨10, .data⟩, ⟨8, .guard⟩], some (8, false)⟩ (v := ?_) rfl ?_ ?_
 rotate_left 1
 focus (intro w h; (try dsimp only at h); go_simp; try with_reducible rfl)
 try simp only [Act.put, ppA, ppB, ppC]
 refine tk 12 ⟨some 15, .load 35 (.tmp 1), 35, "wire.go:52", #[⟨8, .guard⟩], some (8, false)⟩ (v := ?_) rfl ?_ ?_
 rotate_left 1
 focus (intro w h; (try dsimp only at h); go_simp; try with_reducible rfl)
 try simp only [Act.put, ppA, ppB, ppC]
 refine wpAnyH_ready (rs := [13]) (by kernel_rfl) (by simp) ?_
 refine AllReadyH.cons (o := ⟨some 16, .call ⟨.value (.func 61), #[.tmp 15], #[35]⟩, 3, "wire.go:52", #[⟨12, .data⟩, ⟨8, .chain⟩, ⟨8, .guard⟩], some (8, false)⟩) rfl (fun K hK => ?_) AllReadyH.nil
 go_simp
 with_reducible refine Calls.mono (C3.out _) ?_
 rintro e x3 ⟨rfl, k3⟩
 have K3 := Lib.hid (K2.out.trans k3)
 clear k3
 refine hK.out _ _ (KS.out _ K3.out) (fun hHeld => ?_)
 clear hK K
 try simp only [Act.put, ppA, ppB, ppC]
 refine tk 14 ⟨some 17, .binOp .neq 3 (.tmp 14) (.tmp 16) 3, 4, "wire.go:52", #[⟨11, .data⟩, ⟨13, .data⟩, ⟨8, .guard⟩], some (8, false)⟩ (v := ?_) rfl ?_ ?_
 rotate_left 1
 focus (intro w h; (try dsimp only at h); go_simp; try with_reducible rfl)
 try simp only [Act.put, ppA, ppB, ppC]
 refine tk 15 ⟨some 18, .pick (.tmp 11) (.const (.bool true)) (.tmp 17), 4, "wire.go:52", #[⟨8, .data⟩, ⟨14, .data⟩], none⟩ (v := ?_) rfl ?_ ?_
 rotate_left 1
 focus (intro w h; (try dsimp only at h); go_simp; try with_reducible rfl)
 try simp only [Act.put, ppA, ppB, ppC]
 refine wpAnyH_done (by kernel_rfl) ?_ _
 go_wp2_with fail
 go_ret
 exact ⟨rfl, hk1.trans K3.out⟩
set_option maxHeartbeats 4000000 in
set_option maxRecDepth 100000 in
theorem check_ok {f : Frm} (h1 : Fit f) (h2 : Rng f) (h3 : Dat f) (s : Option Addr) (c : Nat) (w : World) : Calls Tryz.prog 32 #[fv f s c] w (Ans w (.int .i64 0)) := by
 obtain ⟨kind, src, dst, prio, msg, off, len, total, num, data⟩ := f
 have C1 := Lib.hid fun w => fits_yes h1 s c w
 have C2 := Lib.hid fun w => rng_yes h1 h2 s c w
 have C3 := Lib.hid fun w => dlen_any (f := ⟨kind, src, dst, prio, msg, off, len, total, num, data⟩) s c w
 unfold Dat at h3
 unfold dl at C3
 dsimp only at h3 C3
 rw [← h3] at C3
 clear h1 h2 h3
 unfold fv fcs at *
 dsimp only at *
 go_enter Tryz.func32, Tryz.ntmps32
 go_upto_region 1 with fail
 have hB : Blk (w.alloc (.cells #[.int .i64 kind, .int .i64 src, .int .i64 dst, .int .i64 prio, .int .u64 (msg : Int), .int .i64 off, .int .i64 len, .int .i64 total, .int .i64 num, .slice s data.length c] 35)) w.heap.size [.int .i64 kind, .int .i64 src, .int .i64 dst, .int .i64 prio, .int .u64 (msg : Int), .int .i64 off, .int .i64 len, .int .i64 total, .int .i64 num, .slice s data.length c] 35 := Blk.new w _ _
 have hk1 : Kept (fun _ => False) w (w.alloc (.cells #[.int .i64 kind, .int .i64 src, .int .i64 dst, .int .i64 prio, .int .u64 (msg : Int), .int .i64 off, .int .i64 len, .int .i64 total, .int .i64 num, .slice s data.length c] 35)) := (Kept.refl _ w).alloc _
 generalize w.alloc (.cells #[.int .i64 kind, .int .i64 src, .int .i64 dst, .int .i64 prio, .int .u64 (msg : Int), .int .i64 off, .int .i64 len, .int .i64 total, .int .i64 num, .slice s data.length c] 35) = w1 at *
 generalize w.heap.size = vb at *
 have E0 := Lib.hid (Kept.refl (fun _ => False) w1)
 have KS := Lib.hid fun (w' : World) (k : Kept (fun _ => False) w1 w') => (show w'.cell? ⟨vb, 0, none⟩ = some (.int .i64 kind) ∧ w'.cell? ⟨vb, 1, none⟩ = some (.int .i64 src) ∧ w'.cell? ⟨vb, 2, none⟩ = some (.int .i64 dst) ∧ w'.cell? ⟨vb, 3, none⟩ = some (.int .i64 prio) ∧ w'.cell? ⟨vb, 4, none⟩ = some (.int .u64 (msg : Int)) ∧ w'.cell? ⟨vb, 5, none⟩ = some (.int .i64 off) ∧ w'.cell? ⟨vb, 6, none⟩ = some (.int .i64 len) ∧ w'.cell? ⟨vb, 7, none⟩ = some (.int .i64 total) ∧ w'.cell? ⟨vb, 8, none⟩ = some (.int .i64 num) ∧ w'.cell? ⟨vb, 9, none⟩ = some (.slice s data.length c) from have hx := k.blk hB (fun f => f); ⟨hx.cell (o := 0) rfl, ⟨hx.cell (o := 1) rfl, ⟨hx.cell (o := 2) rfl, ⟨hx.cell (o := 3) rfl, ⟨hx.cell (o := 4) rfl, ⟨hx.cell (o := 5) rfl, ⟨hx.cell (o := 6) rfl, ⟨hx.cell (o := 7) rfl, ⟨hx.cell (o := 8) rfl, hx.cell (o := 9) rfl⟩⟩⟩⟩⟩⟩⟩⟩⟩)
 clear hB
 refine wp_region_held_drew (S := fun w' => w'.cell? ⟨vb, 0, none⟩ = some (.int .i64 kind) ∧ w'.cell? ⟨vb, 1, none⟩ = some (.int .i64 src) ∧ w'.cell? ⟨vb, 2, none⟩ = some (.int .i64 dst) ∧ w'.cell? ⟨vb, 3, none⟩ = some (.int .i64 prio) ∧ w'.cell? ⟨vb, 4, none⟩ = some (.int .u64 (msg : Int)) ∧ w'.cell? ⟨vb, 5, none⟩ = some (.int .i64 off) ∧ w'.cell? ⟨vb, 6, none⟩ = some (.int .i64 len) ∧ w'.cell? ⟨vb, 7, none⟩ = some (.int .i64 total) ∧ w'.cell? ⟨vb, 8, none⟩ = some (.int .i64 num) ∧ w'.cell? ⟨vb, 9, none⟩ = some (.slice s data.length c)) (by kernel_rfl) (KS.out _ E0.out.drew) (fun hHeld => ?_)
 have K0 := Lib.hid E0.out.drew
 refine tk 0 ⟨some 3, .load 35 (.tmp 1), 35, "wire.go:52", #[], none⟩ (v := ?_) rfl ?_ ?_
 rotate_left 1
 focus (intro w h; (try dsimp only at h); go_simp; try with_reducible rfl)
 try simp only [Act.put, ppA, ppB, ppC]
 refine wpAnyH_ready (rs := [1]) (by kernel_rfl) (by simp) ?_
 refine AllReadyH.cons (o := ⟨some 4, .call ⟨.value (.func 59), #[.tmp 3], #[35]⟩, 4, "wire.go:52", #[⟨0, .data⟩], none⟩) rfl (fun K hK => ?_) AllReadyH.nil
 go_simp
 with_reducible refine Calls.mono (C1.out _) ?_
 rintro e x1 ⟨rfl, k1⟩
 have K1 := Lib.hid (K0.out.trans k1)
 clear k1
 refine hK.out _ _ (KS.out _ K1.out) (fun hHeld => ?_)
 clear hK K
 try simp only [Act.put, ppA, ppB, ppC]
 refine tk 2 ⟨some 5, .unOp .not 4 (.tmp 4), 4, "wire.go:52", #[⟨1, .data⟩], none⟩ (v := ?_) rfl ?_ ?_
 rotate_left 1
 focus (intro w h; (try dsimp only at h); go_simp; try with_reducible rfl)
 try simp only [Act.put, ppA, ppB, ppC]
 refine tk 3 ⟨some 6, .move (.tmp 5), 4, "wire.go:52", #[⟨2, .data⟩, ⟨1, .chain⟩], none⟩ (v := ?_) rfl ?_ ?_
 rotate_left 1
 focus (intro w h; (try dsimp only at h); go_simp; try with_reducible rfl)
 try simp only [Act.put, ppA, ppB, ppC]
 refine tk 4 ⟨some 7, .load 35 (.tmp 1), 35, "wire.go:52", #[⟨3, .guard⟩], some (3, false)⟩ (v := ?_) rfl ?_ ?_
 rotate_left 1
 focus (intro w h; (try dsimp only at h); go_simp; try with_reducible rfl)
 try simp only [Act.put, ppA, ppB, ppC]
 refine wpAnyH_ready (rs := [5]) (by kernel_rfl) (by simp) ?_
 refine AllReadyH.cons (o := ⟨some 8, .call ⟨.value (.func 60), #[.tmp 7], #[35]⟩, 4, "wire.go:52", #[⟨4, .data⟩, ⟨3, .chain⟩, ⟨3, .guard⟩], some (3, false)⟩) rfl (fun K hK => ?_) AllReadyH.nil
 go_simp
 with_reducible refine Calls.mono (C2.out _) ?_
 rintro e x2 ⟨rfl, k2⟩
 have K2 := Lib.hid (K1.out.trans k2)
 clear k2
 refine hK.out _ _ (KS.out _ K2.out) (fun hHeld => ?_)
 clear hK K
 try simp only [Act.put, ppA, ppB, ppC]
 refine tk 6 ⟨some 9, .unOp .not 4 (.tmp 8), 4, "wire.go:52", #[⟨5, .data⟩, ⟨3, .guard⟩], some (3, false)⟩ (v := ?_) rfl ?_ ?_
 rotate_left 1
 focus (intro w h; (try dsimp only at h); go_simp; try with_reducible rfl)
 try simp only [Act.put, ppA, ppB, ppC]
 refine tk 7 ⟨some 10, .pick (.tmp 6) (.const (.bool true)) (.tmp 9), 4, "wire.go:52", #[⟨3, .data⟩, ⟨6, .data⟩], none⟩ (v := ?_) rfl ?_ ?_
 rotate_left 1
 focus (intro w h; (try dsimp only at h); go_simp; try with_reducible rfl)
 try simp only [Act.put, ppA, ppB, ppC]
 refine tk 8 ⟨some 11, .move (.tmp 10), 4, "wire.go:52", #[⟨7, .data⟩, ⟨5, .chain⟩], none⟩ (v := ?_) rfl ?_ ?_
 rotate_left 1
 focus (intro w h; (try dsimp only at h); go_simp; try with_reducible rfl)
 try simp only [Act.put, ppA, ppB, ppC]
 refine tk 9 ⟨some 12, .fieldAddr 35 (.tmp 1) 9, 0, "wire.go:52", #[⟨8, .guard⟩], some (8, false)⟩ (v := ?_) rfl ?_ ?_
 rotate_left 1
 focus (intro w h; (try dsimp only at h); go_simp; try with_reducible rfl)
 try simp only [Act.put, ppA, ppB, ppC]
 refine tk 10 ⟨some 13, .load 33 (.tmp 12), 33, "wire.go:52", #[⟨9, .data⟩, ⟨8, .guard⟩], some (8, false)⟩ (v := ?_) rfl ?_ ?_
 rotate_left 1
 focus (intro w h; (try dsimp only at h); go_simp; try with_reducible rfl)
 try simp only [Act.put, ppA, ppB, ppC]
 refine tk 11 ⟨some 14, .call ⟨.builtin .len, #[.tmp 13], #[33]⟩, 3, "wire.go:52", #[⟨10, .data⟩, ⟨8, .guard⟩], some (8, false)⟩ (v := ?_) rfl ?_ ?_
 rotate_left 1
 focus (intro w h; (try dsimp only at h); go_simp; try with_reducible rfl)
 try simp only [Act.put, ppA, ppB, ppC]
 refine tk 12 ⟨some 15, .load 35 (.tmp 1), 35, "wire.go:52", #[⟨8, .guard⟩], some (8, false)⟩ (v := ?_) rfl ?_ ?_
 rotate_left 1
 focus (intro w h; (try dsimp only at h); go_simp; try with_reducible rfl)
 try simp only [Act.put, ppA, ppB, ppC]
 refine wpAnyH_ready (rs := [13]) (by kernel_rfl) (by simp) ?_
 refine AllReadyH.cons (o := ⟨some 16, .call ⟨.value (.func 61), #[.tmp 15], #[35]⟩, 3, "wire.go:52", #[⟨12, .data⟩, ⟨8, .chain⟩, ⟨8, .guard⟩], some (8, false)⟩) rfl (fun K hK => ?_) AllReadyH.nil
 go_simp
 with_reducible refine Calls.mono (C3.out _) ?_
 rintro e x3 ⟨rfl, k3⟩
 have K3 := Lib.hid (K2.out.trans k3)
 clear k3
 refine hK.out _ _ (KS.out _ K3.out) (fun hHeld => ?_)
 clear hK K
 try simp only [Act.put, ppA, ppB, ppC]
 refine tk 14 ⟨some 17, .binOp .neq 3 (.tmp 14) (.tmp 16) 3, 4, "wire.go:52", #[⟨11, .data⟩, ⟨13, .data⟩, ⟨8, .guard⟩], some (8, false)⟩ (v := ?_) rfl ?_ ?_
 rotate_left 1
 focus (intro w h; (try dsimp only at h); go_simp; try with_reducible rfl)
 try simp only [Act.put, ppA, ppB, ppC]
 refine tk 15 ⟨some 18, .pick (.tmp 11) (.const (.bool true)) (.tmp 17), 4, "wire.go:52", #[⟨8, .data⟩, ⟨14, .data⟩], none⟩ (v := ?_) rfl ?_ ?_
 rotate_left 1
 focus (intro w h; (try dsimp only at h); go_simp; try with_reducible rfl)
 try simp only [Act.put, ppA, ppB, ppC]
 refine wpAnyH_done (by kernel_rfl) ?_ _
 go_wp2_with fail
 go_ret
 exact ⟨rfl, hk1.trans K3.out⟩
theorem check_any (f : Frm) (s : Option Addr) (c : Nat) (w : World) : Calls Tryz.prog 32 #[fv f s c] w (Ans w (.int .i64 (chk f))) := by
 by_cases h1 : Fit f
 ·by_cases h2 : Rng f
  ·by_cases h3 : Dat f
   ·rw [chk_yes ⟨h1, h2, h3⟩]; exact check_ok h1 h2 h3 s c w
   ·rw [chk_no fun h => h3 h.2.2]; exact check_dat h1 h2 h3 s c w
  ·rw [chk_no fun h => h2 h.2.1]; exact check_rng h1 h2 s c w
 ·rw [chk_no fun h => h1 h.1]; exact check_fit h1 s c w
end Go.Proofs.YtpogpibjkolioaaGreat.Wr

