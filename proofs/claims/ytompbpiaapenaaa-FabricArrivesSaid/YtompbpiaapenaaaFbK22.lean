/- Frames: Check. Conditions: each theorem's own. -/
import Derived.Test.YtompbpiaapenaaaFbK21
set_option linter.unusedVariables false
set_option linter.unusedSimpArgs false
namespace Go.Proofs.Ytompbpiaapenaaa.Wr
open Go.RowKit Hp WrM
attribute [local go_sem ↓] Go.wp_at_zero Go.wp_at_succ
set_option maxHeartbeats 4000000 in
set_option maxRecDepth 100000 in
theorem check_fit {f : Frm} (h1 : ¬ Fit f) (s : Option Addr) (c : Nat) (w : World) : Calls Try.prog 62 #[fv f s c] w (Ans w (.int .i64 1)) := by
  obtain ⟨kind, src, dst, prio, msg, off, len, total, num, data⟩ := f
  have C1 := Lib.hid fun w => fits_no h1 s c w
  clear h1
  unfold fv fcs at *
  dsimp only at *
  go_enter Try.func62, Try.ntmps62
  go_upto_region 1 with fail
  have hB : Blk (w.alloc (.cells #[.int .i64 kind, .int .i64 src, .int .i64 dst, .int .i64 prio, .int .u64 (msg : Int), .int .i64 off, .int .i64 len, .int .i64 total, .int .i64 num, .slice s data.length c] 35)) w.heap.size [.int .i64 kind, .int .i64 src, .int .i64 dst, .int .i64 prio, .int .u64 (msg : Int), .int .i64 off, .int .i64 len, .int .i64 total, .int .i64 num, .slice s data.length c] 35 := Blk.new w _ _
  have hk1 : Kept (fun _ => False) w (w.alloc (.cells #[.int .i64 kind, .int .i64 src, .int .i64 dst, .int .i64 prio, .int .u64 (msg : Int), .int .i64 off, .int .i64 len, .int .i64 total, .int .i64 num, .slice s data.length c] 35)) := (Kept.refl _ w).alloc _
  generalize w.alloc (.cells #[.int .i64 kind, .int .i64 src, .int .i64 dst, .int .i64 prio, .int .u64 (msg : Int), .int .i64 off, .int .i64 len, .int .i64 total, .int .i64 num, .slice s data.length c] 35) = w1 at *
  generalize w.heap.size = vb at *
  have E0 := Lib.hid (Kept.refl (fun _ => False) w1)
  have KS := Lib.hid fun (w' : World) (k : Kept (fun _ => False) w1 w') => (show w'.cell? ⟨vb, 0, none⟩ = some (.int .i64 kind) ∧ w'.cell? ⟨vb, 1, none⟩ = some (.int .i64 src) ∧ w'.cell? ⟨vb, 2, none⟩ = some (.int .i64 dst) ∧ w'.cell? ⟨vb, 3, none⟩ = some (.int .i64 prio) ∧ w'.cell? ⟨vb, 4, none⟩ = some (.int .u64 (msg : Int)) ∧ w'.cell? ⟨vb, 5, none⟩ = some (.int .i64 off) ∧ w'.cell? ⟨vb, 6, none⟩ = some (.int .i64 len) ∧ w'.cell? ⟨vb, 7, none⟩ = some (.int .i64 total) ∧ w'.cell? ⟨vb, 8, none⟩ = some (.int .i64 num) ∧ w'.cell? ⟨vb, 9, none⟩ = some (.slice s data.length c) from have hx := k.blk hB (fun f => f); ⟨hx.cell (o := 0) rfl, ⟨hx.cell (o := 1) rfl, ⟨hx.cell (o := 2) rfl, ⟨hx.cell (o := 3) rfl, ⟨hx.cell (o := 4) rfl, ⟨hx.cell (o := 5) rfl, ⟨hx.cell (o := 6) rfl, ⟨hx.cell (o := 7) rfl, ⟨hx.cell (o := 8) rfl, hx.cell (o := 9) rfl⟩⟩⟩⟩⟩⟩⟩⟩⟩)
  clear hB
  refine wp_region_held_drew (S := fun w' => w'.cell? ⟨vb, 0, none⟩ = some (.int .i64 kind) ∧ w'.cell? ⟨vb, 1, none⟩ = some (.int .i64 src) ∧ w'.cell? ⟨vb, 2, none⟩ = some (.int .i64 dst) ∧ w'.cell? ⟨vb, 3, none⟩ = some (.int .i64 prio) ∧ w'.cell? ⟨vb, 4, none⟩ = some (.int .u64 (msg : Int)) ∧ w'.cell? ⟨vb, 5, none⟩ = some (.int .i64 off) ∧ w'.cell? ⟨vb, 6, none⟩ = some (.int .i64 len) ∧ w'.cell? ⟨vb, 7, none⟩ = some (.int .i64 total) ∧ w'.cell? ⟨vb, 8, none⟩ = some (.int .i64 num) ∧ w'.cell? ⟨vb, 9, none⟩ = some (.slice s data.length c)) (by kernel_rfl) (KS.out _ E0.out.drew) (fun hHeld => ?_)
  have K0 := Lib.hid E0.out.drew
  refine wpAnyH_take (i := 0) (oi := { dst := some 3, op := Go.Op.load 35 (Go.Operand.tmp 1), type := 35, pos := "wire.go:52", after := #[], guard := none }) (v := ?_) rfl (by kernel_rfl) (by kernel_rfl) (by kernel_rfl) (fun _ _ _ h => h) (Or.inl ⟨by rfl, ?_⟩) (by assumption) ?_
  rotate_left 1
  focus (intro w hSw; (try dsimp only at hSw); go_simp; try with_reducible rfl)
  try simp only [Act.put, List.setIfInBounds_toArray, List.set_cons_zero, List.set_cons_succ]
  refine wpAnyH_ready (rs := [1]) (by kernel_rfl) (by simp) ?_
  refine AllReadyH.cons (o := { dst := some 4, op := Go.Op.call { callee := Go.Callee.value (Go.Operand.func 88), args := #[Go.Operand.tmp 3], argTypes := #[35] }, type := 4, pos := "wire.go:52", after := #[{ on := 0, ground := Go.Ground.data }], guard := none }) rfl (fun K hK => ?_) AllReadyH.nil
  go_simp
  with_reducible refine Calls.mono (C1.out _) ?_
  rintro e x1 ⟨rfl, k1⟩
  have K1 := Lib.hid (K0.out.trans k1)
  clear k1
  refine hK.out _ _ (KS.out _ K1.out) (fun hHeld => ?_)
  clear hK K
  try simp only [Act.put, List.setIfInBounds_toArray, List.set_cons_zero, List.set_cons_succ]
  refine wpAnyH_take (i := 2) (oi := { dst := some 5, op := Go.Op.unOp Go.UnOp.not 4 (Go.Operand.tmp 4), type := 4, pos := "wire.go:52", after := #[{ on := 1, ground := Go.Ground.data }], guard := none }) (v := ?_) rfl (by kernel_rfl) (by kernel_rfl) (by kernel_rfl) (fun _ _ _ h => h) (Or.inl ⟨by rfl, ?_⟩) (by assumption) ?_
  rotate_left 1
  focus (intro w hSw; (try dsimp only at hSw); go_simp; try with_reducible rfl)
  try simp only [Act.put, List.setIfInBounds_toArray, List.set_cons_zero, List.set_cons_succ]
  refine wpAnyH_take (i := 3) (oi := { dst := some 6, op := Go.Op.move (Go.Operand.tmp 5), type := 4, pos := "wire.go:52", after := #[{ on := 2, ground := Go.Ground.data }, { on := 1, ground := Go.Ground.chain }], guard := none }) (v := ?_) rfl (by kernel_rfl) (by kernel_rfl) (by kernel_rfl) (fun _ _ _ h => h) (Or.inl ⟨by rfl, ?_⟩) (by assumption) ?_
  rotate_left 1
  focus (intro w hSw; (try dsimp only at hSw); go_simp; try with_reducible rfl)
  try simp only [Act.put, List.setIfInBounds_toArray, List.set_cons_zero, List.set_cons_succ]
  refine wpAnyH_take (i := 4) (oi := { dst := some 7, op := Go.Op.load 35 (Go.Operand.tmp 1), type := 35, pos := "wire.go:52", after := #[{ on := 3, ground := Go.Ground.guard }], guard := some (3, false) }) (v := undef) rfl (by kernel_rfl) (by kernel_rfl) (by kernel_rfl) (fun _ _ _ h => h) (Or.inr ⟨by rfl, rfl⟩) (by assumption) ?_
  try simp only [Act.put, List.setIfInBounds_toArray, List.set_cons_zero, List.set_cons_succ]
  refine wpAnyH_take (i := 5) (oi := { dst := some 8, op := Go.Op.call { callee := Go.Callee.value (Go.Operand.func 89), args := #[Go.Operand.tmp 7], argTypes := #[35] }, type := 4, pos := "wire.go:52", after := #[{ on := 4, ground := Go.Ground.data }, { on := 3, ground := Go.Ground.chain }, { on := 3, ground := Go.Ground.guard }], guard := some (3, false) }) (v := undef) rfl (by kernel_rfl) (by kernel_rfl) (by kernel_rfl) (fun _ _ _ h => h) (Or.inr ⟨by rfl, rfl⟩) (by assumption) ?_
  try simp only [Act.put, List.setIfInBounds_toArray, List.set_cons_zero, List.set_cons_succ]
  refine wpAnyH_take (i := 6) (oi := { dst := some 9, op := Go.Op.unOp Go.UnOp.not 4 (Go.Operand.tmp 8), type := 4, pos := "wire.go:52", after := #[{ on := 5, ground := Go.Ground.data }, { on := 3, ground := Go.Ground.guard }], guard := some (3, false) }) (v := undef) rfl (by kernel_rfl) (by kernel_rfl) (by kernel_rfl) (fun _ _ _ h => h) (Or.inr ⟨by rfl, rfl⟩) (by assumption) ?_
  try simp only [Act.put, List.setIfInBounds_toArray, List.set_cons_zero, List.set_cons_succ]
  refine wpAnyH_take (i := 7) (oi := { dst := some 10, op := Go.Op.pick (Go.Operand.tmp 6) (Go.Operand.const (Go.Value.bool true)) (Go.Operand.tmp 9), type := 4, pos := "wire.go:52", after := #[{ on := 3, ground := Go.Ground.data }, { on := 6, ground := Go.Ground.data }], guard := none }) (v := ?_) rfl (by kernel_rfl) (by kernel_rfl) (by kernel_rfl) (fun _ _ _ h => h) (Or.inl ⟨by rfl, ?_⟩) (by assumption) ?_
  rotate_left 1
  focus (intro w hSw; (try dsimp only at hSw); go_simp; try with_reducible rfl)
  try simp only [Act.put, List.setIfInBounds_toArray, List.set_cons_zero, List.set_cons_succ]
  refine wpAnyH_take (i := 8) (oi := { dst := some 11, op := Go.Op.move (Go.Operand.tmp 10), type := 4, pos := "wire.go:52", after := #[{ on := 7, ground := Go.Ground.data }, { on := 5, ground := Go.Ground.chain }], guard := none }) (v := ?_) rfl (by kernel_rfl) (by kernel_rfl) (by kernel_rfl) (fun _ _ _ h => h) (Or.inl ⟨by rfl, ?_⟩) (by assumption) ?_
  rotate_left 1
  focus (intro w hSw; (try dsimp only at hSw); go_simp; try with_reducible rfl)
  try simp only [Act.put, List.setIfInBounds_toArray, List.set_cons_zero, List.set_cons_succ]
  refine wpAnyH_take (i := 9) (oi := { dst := some 12, op := Go.Op.fieldAddr 35 (Go.Operand.tmp 1) 9, type := 0, pos := "wire.go:52", after := #[{ on := 8, ground := Go.Ground.guard }], guard := some (8, false) }) (v := undef) rfl (by kernel_rfl) (by kernel_rfl) (by kernel_rfl) (fun _ _ _ h => h) (Or.inr ⟨by rfl, rfl⟩) (by assumption) ?_
  try simp only [Act.put, List.setIfInBounds_toArray, List.set_cons_zero, List.set_cons_succ]
  refine wpAnyH_take (i := 10) (oi := { dst := some 13, op := Go.Op.load 33 (Go.Operand.tmp 12), type := 33, pos := "wire.go:52", after := #[{ on := 9, ground := Go.Ground.data }, { on := 8, ground := Go.Ground.guard }], guard := some (8, false) }) (v := undef) rfl (by kernel_rfl) (by kernel_rfl) (by kernel_rfl) (fun _ _ _ h => h) (Or.inr ⟨by rfl, rfl⟩) (by assumption) ?_
  try simp only [Act.put, List.setIfInBounds_toArray, List.set_cons_zero, List.set_cons_succ]
  refine wpAnyH_take (i := 11) (oi := { dst := some 14, op := Go.Op.call { callee := Go.Callee.builtin Go.Builtin.len, args := #[Go.Operand.tmp 13], argTypes := #[33] }, type := 3, pos := "wire.go:52", after := #[{ on := 10, ground := Go.Ground.data }, { on := 8, ground := Go.Ground.guard }], guard := some (8, false) }) (v := undef) rfl (by kernel_rfl) (by kernel_rfl) (by kernel_rfl) (fun _ _ _ h => h) (Or.inr ⟨by rfl, rfl⟩) (by assumption) ?_
  try simp only [Act.put, List.setIfInBounds_toArray, List.set_cons_zero, List.set_cons_succ]
  refine wpAnyH_take (i := 12) (oi := { dst := some 15, op := Go.Op.load 35 (Go.Operand.tmp 1), type := 35, pos := "wire.go:52", after := #[{ on := 8, ground := Go.Ground.guard }], guard := some (8, false) }) (v := undef) rfl (by kernel_rfl) (by kernel_rfl) (by kernel_rfl) (fun _ _ _ h => h) (Or.inr ⟨by rfl, rfl⟩) (by assumption) ?_
  try simp only [Act.put, List.setIfInBounds_toArray, List.set_cons_zero, List.set_cons_succ]
  refine wpAnyH_take (i := 13) (oi := { dst := some 16, op := Go.Op.call { callee := Go.Callee.value (Go.Operand.func 90), args := #[Go.Operand.tmp 15], argTypes := #[35] }, type := 3, pos := "wire.go:52", after := #[{ on := 12, ground := Go.Ground.data }, { on := 8, ground := Go.Ground.chain }, { on := 8, ground := Go.Ground.guard }], guard := some (8, false) }) (v := undef) rfl (by kernel_rfl) (by kernel_rfl) (by kernel_rfl) (fun _ _ _ h => h) (Or.inr ⟨by rfl, rfl⟩) (by assumption) ?_
  try simp only [Act.put, List.setIfInBounds_toArray, List.set_cons_zero, List.set_cons_succ]
  refine wpAnyH_take (i := 14) (oi := { dst := some 17, op := Go.Op.binOp Go.BinOp.neq 3 (Go.Operand.tmp 14) (Go.Operand.tmp 16) 3, type := 4, pos := "wire.go:52", after := #[{ on := 11, ground := Go.Ground.data }, { on := 13, ground := Go.Ground.data }, { on := 8, ground := Go.Ground.guard }], guard := some (8, false) }) (v := undef) rfl (by kernel_rfl) (by kernel_rfl) (by kernel_rfl) (fun _ _ _ h => h) (Or.inr ⟨by rfl, rfl⟩) (by assumption) ?_
  try simp only [Act.put, List.setIfInBounds_toArray, List.set_cons_zero, List.set_cons_succ]
  refine wpAnyH_take (i := 15) (oi := { dst := some 18, op := Go.Op.pick (Go.Operand.tmp 11) (Go.Operand.const (Go.Value.bool true)) (Go.Operand.tmp 17), type := 4, pos := "wire.go:52", after := #[{ on := 8, ground := Go.Ground.data }, { on := 14, ground := Go.Ground.data }], guard := none }) (v := ?_) rfl (by kernel_rfl) (by kernel_rfl) (by kernel_rfl) (fun _ _ _ h => h) (Or.inl ⟨by rfl, ?_⟩) (by assumption) ?_
  rotate_left 1
  focus (intro w hSw; (try dsimp only at hSw); go_simp; try with_reducible rfl)
  try simp only [Act.put, List.setIfInBounds_toArray, List.set_cons_zero, List.set_cons_succ]
  refine wpAnyH_done (by kernel_rfl) ?_ _
  go_wp2_with fail
  go_ret
  exact ⟨rfl, hk1.trans K1.out⟩
set_option maxHeartbeats 4000000 in
set_option maxRecDepth 100000 in
theorem check_rng {f : Frm} (h1 : Fit f) (h2 : ¬ Rng f) (s : Option Addr) (c : Nat) (w : World) : Calls Try.prog 62 #[fv f s c] w (Ans w (.int .i64 1)) := by
  obtain ⟨kind, src, dst, prio, msg, off, len, total, num, data⟩ := f
  have C1 := Lib.hid fun w => fits_yes h1 s c w
  have C2 := Lib.hid fun w => rng_no h1 h2 s c w
  clear h1 h2
  unfold fv fcs at *
  dsimp only at *
  go_enter Try.func62, Try.ntmps62
  go_upto_region 1 with fail
  have hB : Blk (w.alloc (.cells #[.int .i64 kind, .int .i64 src, .int .i64 dst, .int .i64 prio, .int .u64 (msg : Int), .int .i64 off, .int .i64 len, .int .i64 total, .int .i64 num, .slice s data.length c] 35)) w.heap.size [.int .i64 kind, .int .i64 src, .int .i64 dst, .int .i64 prio, .int .u64 (msg : Int), .int .i64 off, .int .i64 len, .int .i64 total, .int .i64 num, .slice s data.length c] 35 := Blk.new w _ _
  have hk1 : Kept (fun _ => False) w (w.alloc (.cells #[.int .i64 kind, .int .i64 src, .int .i64 dst, .int .i64 prio, .int .u64 (msg : Int), .int .i64 off, .int .i64 len, .int .i64 total, .int .i64 num, .slice s data.length c] 35)) := (Kept.refl _ w).alloc _
  generalize w.alloc (.cells #[.int .i64 kind, .int .i64 src, .int .i64 dst, .int .i64 prio, .int .u64 (msg : Int), .int .i64 off, .int .i64 len, .int .i64 total, .int .i64 num, .slice s data.length c] 35) = w1 at *
  generalize w.heap.size = vb at *
  have E0 := Lib.hid (Kept.refl (fun _ => False) w1)
  have KS := Lib.hid fun (w' : World) (k : Kept (fun _ => False) w1 w') => (show w'.cell? ⟨vb, 0, none⟩ = some (.int .i64 kind) ∧ w'.cell? ⟨vb, 1, none⟩ = some (.int .i64 src) ∧ w'.cell? ⟨vb, 2, none⟩ = some (.int .i64 dst) ∧ w'.cell? ⟨vb, 3, none⟩ = some (.int .i64 prio) ∧ w'.cell? ⟨vb, 4, none⟩ = some (.int .u64 (msg : Int)) ∧ w'.cell? ⟨vb, 5, none⟩ = some (.int .i64 off) ∧ w'.cell? ⟨vb, 6, none⟩ = some (.int .i64 len) ∧ w'.cell? ⟨vb, 7, none⟩ = some (.int .i64 total) ∧ w'.cell? ⟨vb, 8, none⟩ = some (.int .i64 num) ∧ w'.cell? ⟨vb, 9, none⟩ = some (.slice s data.length c) from have hx := k.blk hB (fun f => f); ⟨hx.cell (o := 0) rfl, ⟨hx.cell (o := 1) rfl, ⟨hx.cell (o := 2) rfl, ⟨hx.cell (o := 3) rfl, ⟨hx.cell (o := 4) rfl, ⟨hx.cell (o := 5) rfl, ⟨hx.cell (o := 6) rfl, ⟨hx.cell (o := 7) rfl, ⟨hx.cell (o := 8) rfl, hx.cell (o := 9) rfl⟩⟩⟩⟩⟩⟩⟩⟩⟩)
  clear hB
  refine wp_region_held_drew (S := fun w' => w'.cell? ⟨vb, 0, none⟩ = some (.int .i64 kind) ∧ w'.cell? ⟨vb, 1, none⟩ = some (.int .i64 src) ∧ w'.cell? ⟨vb, 2, none⟩ = some (.int .i64 dst) ∧ w'.cell? ⟨vb, 3, none⟩ = some (.int .i64 prio) ∧ w'.cell? ⟨vb, 4, none⟩ = some (.int .u64 (msg : Int)) ∧ w'.cell? ⟨vb, 5, none⟩ = some (.int .i64 off) ∧ w'.cell? ⟨vb, 6, none⟩ = some (.int .i64 len) ∧ w'.cell? ⟨vb, 7, none⟩ = some (.int .i64 total) ∧ w'.cell? ⟨vb, 8, none⟩ = some (.int .i64 num) ∧ w'.cell? ⟨vb, 9, none⟩ = some (.slice s data.length c)) (by kernel_rfl) (KS.out _ E0.out.drew) (fun hHeld => ?_)
  have K0 := Lib.hid E0.out.drew
  refine wpAnyH_take (i := 0) (oi := { dst := some 3, op := Go.Op.load 35 (Go.Operand.tmp 1), type := 35, pos := "wire.go:52", after := #[], guard := none }) (v := ?_) rfl (by kernel_rfl) (by kernel_rfl) (by kernel_rfl) (fun _ _ _ h => h) (Or.inl ⟨by rfl, ?_⟩) (by assumption) ?_
  rotate_left 1
  focus (intro w hSw; (try dsimp only at hSw); go_simp; try with_reducible rfl)
  try simp only [Act.put, List.setIfInBounds_toArray, List.set_cons_zero, List.set_cons_succ]
  refine wpAnyH_ready (rs := [1]) (by kernel_rfl) (by simp) ?_
  refine AllReadyH.cons (o := { dst := some 4, op := Go.Op.call { callee := Go.Callee.value (Go.Operand.func 88), args := #[Go.Operand.tmp 3], argTypes := #[35] }, type := 4, pos := "wire.go:52", after := #[{ on := 0, ground := Go.Ground.data }], guard := none }) rfl (fun K hK => ?_) AllReadyH.nil
  go_simp
  with_reducible refine Calls.mono (C1.out _) ?_
  rintro e x1 ⟨rfl, k1⟩
  have K1 := Lib.hid (K0.out.trans k1)
  clear k1
  refine hK.out _ _ (KS.out _ K1.out) (fun hHeld => ?_)
  clear hK K
  try simp only [Act.put, List.setIfInBounds_toArray, List.set_cons_zero, List.set_cons_succ]
  refine wpAnyH_take (i := 2) (oi := { dst := some 5, op := Go.Op.unOp Go.UnOp.not 4 (Go.Operand.tmp 4), type := 4, pos := "wire.go:52", after := #[{ on := 1, ground := Go.Ground.data }], guard := none }) (v := ?_) rfl (by kernel_rfl) (by kernel_rfl) (by kernel_rfl) (fun _ _ _ h => h) (Or.inl ⟨by rfl, ?_⟩) (by assumption) ?_
  rotate_left 1
  focus (intro w hSw; (try dsimp only at hSw); go_simp; try with_reducible rfl)
  try simp only [Act.put, List.setIfInBounds_toArray, List.set_cons_zero, List.set_cons_succ]
  refine wpAnyH_take (i := 3) (oi := { dst := some 6, op := Go.Op.move (Go.Operand.tmp 5), type := 4, pos := "wire.go:52", after := #[{ on := 2, ground := Go.Ground.data }, { on := 1, ground := Go.Ground.chain }], guard := none }) (v := ?_) rfl (by kernel_rfl) (by kernel_rfl) (by kernel_rfl) (fun _ _ _ h => h) (Or.inl ⟨by rfl, ?_⟩) (by assumption) ?_
  rotate_left 1
  focus (intro w hSw; (try dsimp only at hSw); go_simp; try with_reducible rfl)
  try simp only [Act.put, List.setIfInBounds_toArray, List.set_cons_zero, List.set_cons_succ]
  refine wpAnyH_take (i := 4) (oi := { dst := some 7, op := Go.Op.load 35 (Go.Operand.tmp 1), type := 35, pos := "wire.go:52", after := #[{ on := 3, ground := Go.Ground.guard }], guard := some (3, false) }) (v := ?_) rfl (by kernel_rfl) (by kernel_rfl) (by kernel_rfl) (fun _ _ _ h => h) (Or.inl ⟨by rfl, ?_⟩) (by assumption) ?_
  rotate_left 1
  focus (intro w hSw; (try dsimp only at hSw); go_simp; try with_reducible rfl)
  try simp only [Act.put, List.setIfInBounds_toArray, List.set_cons_zero, List.set_cons_succ]
  refine wpAnyH_ready (rs := [5]) (by kernel_rfl) (by simp) ?_
  refine AllReadyH.cons (o := { dst := some 8, op := Go.Op.call { callee := Go.Callee.value (Go.Operand.func 89), args := #[Go.Operand.tmp 7], argTypes := #[35] }, type := 4, pos := "wire.go:52", after := #[{ on := 4, ground := Go.Ground.data }, { on := 3, ground := Go.Ground.chain }, { on := 3, ground := Go.Ground.guard }], guard := some (3, false) }) rfl (fun K hK => ?_) AllReadyH.nil
  go_simp
  with_reducible refine Calls.mono (C2.out _) ?_
  rintro e x2 ⟨rfl, k2⟩
  have K2 := Lib.hid (K1.out.trans k2)
  clear k2
  refine hK.out _ _ (KS.out _ K2.out) (fun hHeld => ?_)
  clear hK K
  try simp only [Act.put, List.setIfInBounds_toArray, List.set_cons_zero, List.set_cons_succ]
  refine wpAnyH_take (i := 6) (oi := { dst := some 9, op := Go.Op.unOp Go.UnOp.not 4 (Go.Operand.tmp 8), type := 4, pos := "wire.go:52", after := #[{ on := 5, ground := Go.Ground.data }, { on := 3, ground := Go.Ground.guard }], guard := some (3, false) }) (v := ?_) rfl (by kernel_rfl) (by kernel_rfl) (by kernel_rfl) (fun _ _ _ h => h) (Or.inl ⟨by rfl, ?_⟩) (by assumption) ?_
  rotate_left 1
  focus (intro w hSw; (try dsimp only at hSw); go_simp; try with_reducible rfl)
  try simp only [Act.put, List.setIfInBounds_toArray, List.set_cons_zero, List.set_cons_succ]
  refine wpAnyH_take (i := 7) (oi := { dst := some 10, op := Go.Op.pick (Go.Operand.tmp 6) (Go.Operand.const (Go.Value.bool true)) (Go.Operand.tmp 9), type := 4, pos := "wire.go:52", after := #[{ on := 3, ground := Go.Ground.data }, { on := 6, ground := Go.Ground.data }], guard := none }) (v := ?_) rfl (by kernel_rfl) (by kernel_rfl) (by kernel_rfl) (fun _ _ _ h => h) (Or.inl ⟨by rfl, ?_⟩) (by assumption) ?_
  rotate_left 1
  focus (intro w hSw; (try dsimp only at hSw); go_simp; try with_reducible rfl)
  try simp only [Act.put, List.setIfInBounds_toArray, List.set_cons_zero, List.set_cons_succ]
  refine wpAnyH_take (i := 8) (oi := { dst := some 11, op := Go.Op.move (Go.Operand.tmp 10), type := 4, pos := "wire.go:52", after := #[{ on := 7, ground := Go.Ground.data }, { on := 5, ground := Go.Ground.chain }], guard := none }) (v := ?_) rfl (by kernel_rfl) (by kernel_rfl) (by kernel_rfl) (fun _ _ _ h => h) (Or.inl ⟨by rfl, ?_⟩) (by assumption) ?_
  rotate_left 1
  focus (intro w hSw; (try dsimp only at hSw); go_simp; try with_reducible rfl)
  try simp only [Act.put, List.setIfInBounds_toArray, List.set_cons_zero, List.set_cons_succ]
  refine wpAnyH_take (i := 9) (oi := { dst := some 12, op := Go.Op.fieldAddr 35 (Go.Operand.tmp 1) 9, type := 0, pos := "wire.go:52", after := #[{ on := 8, ground := Go.Ground.guard }], guard := some (8, false) }) (v := undef) rfl (by kernel_rfl) (by kernel_rfl) (by kernel_rfl) (fun _ _ _ h => h) (Or.inr ⟨by rfl, rfl⟩) (by assumption) ?_
  try simp only [Act.put, List.setIfInBounds_toArray, List.set_cons_zero, List.set_cons_succ]
  refine wpAnyH_take (i := 10) (oi := { dst := some 13, op := Go.Op.load 33 (Go.Operand.tmp 12), type := 33, pos := "wire.go:52", after := #[{ on := 9, ground := Go.Ground.data }, { on := 8, ground := Go.Ground.guard }], guard := some (8, false) }) (v := undef) rfl (by kernel_rfl) (by kernel_rfl) (by kernel_rfl) (fun _ _ _ h => h) (Or.inr ⟨by rfl, rfl⟩) (by assumption) ?_
  try simp only [Act.put, List.setIfInBounds_toArray, List.set_cons_zero, List.set_cons_succ]
  refine wpAnyH_take (i := 11) (oi := { dst := some 14, op := Go.Op.call { callee := Go.Callee.builtin Go.Builtin.len, args := #[Go.Operand.tmp 13], argTypes := #[33] }, type := 3, pos := "wire.go:52", after := #[{ on := 10, ground := Go.Ground.data }, { on := 8, ground := Go.Ground.guard }], guard := some (8, false) }) (v := undef) rfl (by kernel_rfl) (by kernel_rfl) (by kernel_rfl) (fun _ _ _ h => h) (Or.inr ⟨by rfl, rfl⟩) (by assumption) ?_
  try simp only [Act.put, List.setIfInBounds_toArray, List.set_cons_zero, List.set_cons_succ]
  refine wpAnyH_take (i := 12) (oi := { dst := some 15, op := Go.Op.load 35 (Go.Operand.tmp 1), type := 35, pos := "wire.go:52", after := #[{ on := 8, ground := Go.Ground.guard }], guard := some (8, false) }) (v := undef) rfl (by kernel_rfl) (by kernel_rfl) (by kernel_rfl) (fun _ _ _ h => h) (Or.inr ⟨by rfl, rfl⟩) (by assumption) ?_
  try simp only [Act.put, List.setIfInBounds_toArray, List.set_cons_zero, List.set_cons_succ]
  refine wpAnyH_take (i := 13) (oi := { dst := some 16, op := Go.Op.call { callee := Go.Callee.value (Go.Operand.func 90), args := #[Go.Operand.tmp 15], argTypes := #[35] }, type := 3, pos := "wire.go:52", after := #[{ on := 12, ground := Go.Ground.data }, { on := 8, ground := Go.Ground.chain }, { on := 8, ground := Go.Ground.guard }], guard := some (8, false) }) (v := undef) rfl (by kernel_rfl) (by kernel_rfl) (by kernel_rfl) (fun _ _ _ h => h) (Or.inr ⟨by rfl, rfl⟩) (by assumption) ?_
  try simp only [Act.put, List.setIfInBounds_toArray, List.set_cons_zero, List.set_cons_succ]
  refine wpAnyH_take (i := 14) (oi := { dst := some 17, op := Go.Op.binOp Go.BinOp.neq 3 (Go.Operand.tmp 14) (Go.Operand.tmp 16) 3, type := 4, pos := "wire.go:52", after := #[{ on := 11, ground := Go.Ground.data }, { on := 13, ground := Go.Ground.data }, { on := 8, ground := Go.Ground.guard }], guard := some (8, false) }) (v := undef) rfl (by kernel_rfl) (by kernel_rfl) (by kernel_rfl) (fun _ _ _ h => h) (Or.inr ⟨by rfl, rfl⟩) (by assumption) ?_
  try simp only [Act.put, List.setIfInBounds_toArray, List.set_cons_zero, List.set_cons_succ]
  refine wpAnyH_take (i := 15) (oi := { dst := some 18, op := Go.Op.pick (Go.Operand.tmp 11) (Go.Operand.const (Go.Value.bool true)) (Go.Operand.tmp 17), type := 4, pos := "wire.go:52", after := #[{ on := 8, ground := Go.Ground.data }, { on := 14, ground := Go.Ground.data }], guard := none }) (v := ?_) rfl (by kernel_rfl) (by kernel_rfl) (by kernel_rfl) (fun _ _ _ h => h) (Or.inl ⟨by rfl, ?_⟩) (by assumption) ?_
  rotate_left 1
  focus (intro w hSw; (try dsimp only at hSw); go_simp; try with_reducible rfl)
  try simp only [Act.put, List.setIfInBounds_toArray, List.set_cons_zero, List.set_cons_succ]
  refine wpAnyH_done (by kernel_rfl) ?_ _
  go_wp2_with fail
  go_ret
  exact ⟨rfl, hk1.trans K2.out⟩
set_option maxHeartbeats 4000000 in
set_option maxRecDepth 100000 in
theorem check_dat {f : Frm} (h1 : Fit f) (h2 : Rng f) (h3 : ¬ Dat f) (s : Option Addr) (c : Nat) (w : World) : Calls Try.prog 62 #[fv f s c] w (Ans w (.int .i64 1)) := by
  obtain ⟨kind, src, dst, prio, msg, off, len, total, num, data⟩ := f
  have C1 := Lib.hid fun w => fits_yes h1 s c w
  have C2 := Lib.hid fun w => rng_yes h1 h2 s c w
  have C3 := Lib.hid fun w => dlen_any (f := ⟨kind, src, dst, prio, msg, off, len, total, num, data⟩) s c w
  unfold Dat at h3
  unfold dl at C3
  dsimp only at h3 C3
  have hd : ((data.length : Int) == (if kind = 1 then len else 0)) = false := by rw [beq_eq_false_iff_ne]; exact h3
  have hd2 : ((data.length : Int) != (if kind = 1 then len else 0)) = true := by rw [bne_iff_ne]; exact h3
  generalize (if kind = 1 then len else 0 : Int) = q at *
  clear h1 h2 h3
  unfold fv fcs at *
  dsimp only at *
  go_enter Try.func62, Try.ntmps62
  go_upto_region 1 with fail
  have hB : Blk (w.alloc (.cells #[.int .i64 kind, .int .i64 src, .int .i64 dst, .int .i64 prio, .int .u64 (msg : Int), .int .i64 off, .int .i64 len, .int .i64 total, .int .i64 num, .slice s data.length c] 35)) w.heap.size [.int .i64 kind, .int .i64 src, .int .i64 dst, .int .i64 prio, .int .u64 (msg : Int), .int .i64 off, .int .i64 len, .int .i64 total, .int .i64 num, .slice s data.length c] 35 := Blk.new w _ _
  have hk1 : Kept (fun _ => False) w (w.alloc (.cells #[.int .i64 kind, .int .i64 src, .int .i64 dst, .int .i64 prio, .int .u64 (msg : Int), .int .i64 off, .int .i64 len, .int .i64 total, .int .i64 num, .slice s data.length c] 35)) := (Kept.refl _ w).alloc _
  generalize w.alloc (.cells #[.int .i64 kind, .int .i64 src, .int .i64 dst, .int .i64 prio, .int .u64 (msg : Int), .int .i64 off, .int .i64 len, .int .i64 total, .int .i64 num, .slice s data.length c] 35) = w1 at *
  generalize w.heap.size = vb at *
  have E0 := Lib.hid (Kept.refl (fun _ => False) w1)
  have KS := Lib.hid fun (w' : World) (k : Kept (fun _ => False) w1 w') => (show w'.cell? ⟨vb, 0, none⟩ = some (.int .i64 kind) ∧ w'.cell? ⟨vb, 1, none⟩ = some (.int .i64 src) ∧ w'.cell? ⟨vb, 2, none⟩ = some (.int .i64 dst) ∧ w'.cell? ⟨vb, 3, none⟩ = some (.int .i64 prio) ∧ w'.cell? ⟨vb, 4, none⟩ = some (.int .u64 (msg : Int)) ∧ w'.cell? ⟨vb, 5, none⟩ = some (.int .i64 off) ∧ w'.cell? ⟨vb, 6, none⟩ = some (.int .i64 len) ∧ w'.cell? ⟨vb, 7, none⟩ = some (.int .i64 total) ∧ w'.cell? ⟨vb, 8, none⟩ = some (.int .i64 num) ∧ w'.cell? ⟨vb, 9, none⟩ = some (.slice s data.length c) from have hx := k.blk hB (fun f => f); ⟨hx.cell (o := 0) rfl, ⟨hx.cell (o := 1) rfl, ⟨hx.cell (o := 2) rfl, ⟨hx.cell (o := 3) rfl, ⟨hx.cell (o := 4) rfl, ⟨hx.cell (o := 5) rfl, ⟨hx.cell (o := 6) rfl, ⟨hx.cell (o := 7) rfl, ⟨hx.cell (o := 8) rfl, hx.cell (o := 9) rfl⟩⟩⟩⟩⟩⟩⟩⟩⟩)
  clear hB
  refine wp_region_held_drew (S := fun w' => w'.cell? ⟨vb, 0, none⟩ = some (.int .i64 kind) ∧ w'.cell? ⟨vb, 1, none⟩ = some (.int .i64 src) ∧ w'.cell? ⟨vb, 2, none⟩ = some (.int .i64 dst) ∧ w'.cell? ⟨vb, 3, none⟩ = some (.int .i64 prio) ∧ w'.cell? ⟨vb, 4, none⟩ = some (.int .u64 (msg : Int)) ∧ w'.cell? ⟨vb, 5, none⟩ = some (.int .i64 off) ∧ w'.cell? ⟨vb, 6, none⟩ = some (.int .i64 len) ∧ w'.cell? ⟨vb, 7, none⟩ = some (.int .i64 total) ∧ w'.cell? ⟨vb, 8, none⟩ = some (.int .i64 num) ∧ w'.cell? ⟨vb, 9, none⟩ = some (.slice s data.length c)) (by kernel_rfl) (KS.out _ E0.out.drew) (fun hHeld => ?_)
  have K0 := Lib.hid E0.out.drew
  refine wpAnyH_take (i := 0) (oi := { dst := some 3, op := Go.Op.load 35 (Go.Operand.tmp 1), type := 35, pos := "wire.go:52", after := #[], guard := none }) (v := ?_) rfl (by kernel_rfl) (by kernel_rfl) (by kernel_rfl) (fun _ _ _ h => h) (Or.inl ⟨by rfl, ?_⟩) (by assumption) ?_
  rotate_left 1
  focus (intro w hSw; (try dsimp only at hSw); go_simp; try with_reducible rfl)
  try simp only [Act.put, List.setIfInBounds_toArray, List.set_cons_zero, List.set_cons_succ]
  refine wpAnyH_ready (rs := [1]) (by kernel_rfl) (by simp) ?_
  refine AllReadyH.cons (o := { dst := some 4, op := Go.Op.call { callee := Go.Callee.value (Go.Operand.func 88), args := #[Go.Operand.tmp 3], argTypes := #[35] }, type := 4, pos := "wire.go:52", after := #[{ on := 0, ground := Go.Ground.data }], guard := none }) rfl (fun K hK => ?_) AllReadyH.nil
  go_simp
  with_reducible refine Calls.mono (C1.out _) ?_
  rintro e x1 ⟨rfl, k1⟩
  have K1 := Lib.hid (K0.out.trans k1)
  clear k1
  refine hK.out _ _ (KS.out _ K1.out) (fun hHeld => ?_)
  clear hK K
  try simp only [Act.put, List.setIfInBounds_toArray, List.set_cons_zero, List.set_cons_succ]
  refine wpAnyH_take (i := 2) (oi := { dst := some 5, op := Go.Op.unOp Go.UnOp.not 4 (Go.Operand.tmp 4), type := 4, pos := "wire.go:52", after := #[{ on := 1, ground := Go.Ground.data }], guard := none }) (v := ?_) rfl (by kernel_rfl) (by kernel_rfl) (by kernel_rfl) (fun _ _ _ h => h) (Or.inl ⟨by rfl, ?_⟩) (by assumption) ?_
  rotate_left 1
  focus (intro w hSw; (try dsimp only at hSw); go_simp; try with_reducible rfl)
  try simp only [Act.put, List.setIfInBounds_toArray, List.set_cons_zero, List.set_cons_succ]
  refine wpAnyH_take (i := 3) (oi := { dst := some 6, op := Go.Op.move (Go.Operand.tmp 5), type := 4, pos := "wire.go:52", after := #[{ on := 2, ground := Go.Ground.data }, { on := 1, ground := Go.Ground.chain }], guard := none }) (v := ?_) rfl (by kernel_rfl) (by kernel_rfl) (by kernel_rfl) (fun _ _ _ h => h) (Or.inl ⟨by rfl, ?_⟩) (by assumption) ?_
  rotate_left 1
  focus (intro w hSw; (try dsimp only at hSw); go_simp; try with_reducible rfl)
  try simp only [Act.put, List.setIfInBounds_toArray, List.set_cons_zero, List.set_cons_succ]
  refine wpAnyH_take (i := 4) (oi := { dst := some 7, op := Go.Op.load 35 (Go.Operand.tmp 1), type := 35, pos := "wire.go:52", after := #[{ on := 3, ground := Go.Ground.guard }], guard := some (3, false) }) (v := ?_) rfl (by kernel_rfl) (by kernel_rfl) (by kernel_rfl) (fun _ _ _ h => h) (Or.inl ⟨by rfl, ?_⟩) (by assumption) ?_
  rotate_left 1
  focus (intro w hSw; (try dsimp only at hSw); go_simp; try with_reducible rfl)
  try simp only [Act.put, List.setIfInBounds_toArray, List.set_cons_zero, List.set_cons_succ]
  refine wpAnyH_ready (rs := [5]) (by kernel_rfl) (by simp) ?_
  refine AllReadyH.cons (o := { dst := some 8, op := Go.Op.call { callee := Go.Callee.value (Go.Operand.func 89), args := #[Go.Operand.tmp 7], argTypes := #[35] }, type := 4, pos := "wire.go:52", after := #[{ on := 4, ground := Go.Ground.data }, { on := 3, ground := Go.Ground.chain }, { on := 3, ground := Go.Ground.guard }], guard := some (3, false) }) rfl (fun K hK => ?_) AllReadyH.nil
  go_simp
  with_reducible refine Calls.mono (C2.out _) ?_
  rintro e x2 ⟨rfl, k2⟩
  have K2 := Lib.hid (K1.out.trans k2)
  clear k2
  refine hK.out _ _ (KS.out _ K2.out) (fun hHeld => ?_)
  clear hK K
  try simp only [Act.put, List.setIfInBounds_toArray, List.set_cons_zero, List.set_cons_succ]
  refine wpAnyH_take (i := 6) (oi := { dst := some 9, op := Go.Op.unOp Go.UnOp.not 4 (Go.Operand.tmp 8), type := 4, pos := "wire.go:52", after := #[{ on := 5, ground := Go.Ground.data }, { on := 3, ground := Go.Ground.guard }], guard := some (3, false) }) (v := ?_) rfl (by kernel_rfl) (by kernel_rfl) (by kernel_rfl) (fun _ _ _ h => h) (Or.inl ⟨by rfl, ?_⟩) (by assumption) ?_
  rotate_left 1
  focus (intro w hSw; (try dsimp only at hSw); go_simp; try with_reducible rfl)
  try simp only [Act.put, List.setIfInBounds_toArray, List.set_cons_zero, List.set_cons_succ]
  refine wpAnyH_take (i := 7) (oi := { dst := some 10, op := Go.Op.pick (Go.Operand.tmp 6) (Go.Operand.const (Go.Value.bool true)) (Go.Operand.tmp 9), type := 4, pos := "wire.go:52", after := #[{ on := 3, ground := Go.Ground.data }, { on := 6, ground := Go.Ground.data }], guard := none }) (v := ?_) rfl (by kernel_rfl) (by kernel_rfl) (by kernel_rfl) (fun _ _ _ h => h) (Or.inl ⟨by rfl, ?_⟩) (by assumption) ?_
  rotate_left 1
  focus (intro w hSw; (try dsimp only at hSw); go_simp; try with_reducible rfl)
  try simp only [Act.put, List.setIfInBounds_toArray, List.set_cons_zero, List.set_cons_succ]
  refine wpAnyH_take (i := 8) (oi := { dst := some 11, op := Go.Op.move (Go.Operand.tmp 10), type := 4, pos := "wire.go:52", after := #[{ on := 7, ground := Go.Ground.data }, { on := 5, ground := Go.Ground.chain }], guard := none }) (v := ?_) rfl (by kernel_rfl) (by kernel_rfl) (by kernel_rfl) (fun _ _ _ h => h) (Or.inl ⟨by rfl, ?_⟩) (by assumption) ?_
  rotate_left 1
  focus (intro w hSw; (try dsimp only at hSw); go_simp; try with_reducible rfl)
  try simp only [Act.put, List.setIfInBounds_toArray, List.set_cons_zero, List.set_cons_succ]
  refine wpAnyH_take (i := 9) (oi := { dst := some 12, op := Go.Op.fieldAddr 35 (Go.Operand.tmp 1) 9, type := 0, pos := "wire.go:52", after := #[{ on := 8, ground := Go.Ground.guard }], guard := some (8, false) }) (v := ?_) rfl (by kernel_rfl) (by kernel_rfl) (by kernel_rfl) (fun _ _ _ h => h) (Or.inl ⟨by rfl, ?_⟩) (by assumption) ?_
  rotate_left 1
  focus (intro w hSw; (try dsimp only at hSw); go_simp; try with_reducible rfl)
  try simp only [Act.put, List.setIfInBounds_toArray, List.set_cons_zero, List.set_cons_succ]
  refine wpAnyH_take (i := 10) (oi := { dst := some 13, op := Go.Op.load 33 (Go.Operand.tmp 12), type := 33, pos := "wire.go:52", after := #[{ on := 9, ground := Go.Ground.data }, { on := 8, ground := Go.Ground.guard }], guard := some (8, false) }) (v := ?_) rfl (by kernel_rfl) (by kernel_rfl) (by kernel_rfl) (fun _ _ _ h => h) (Or.inl ⟨by rfl, ?_⟩) (by assumption) ?_
  rotate_left 1
  focus (intro w hSw; (try dsimp only at hSw); go_simp; try with_reducible rfl)
  try simp only [Act.put, List.setIfInBounds_toArray, List.set_cons_zero, List.set_cons_succ]
  refine wpAnyH_take (i := 11) (oi := { dst := some 14, op := Go.Op.call { callee := Go.Callee.builtin Go.Builtin.len, args := #[Go.Operand.tmp 13], argTypes := #[33] }, type := 3, pos := "wire.go:52", after := #[{ on := 10, ground := Go.Ground.data }, { on := 8, ground := Go.Ground.guard }], guard := some (8, false) }) (v := ?_) rfl (by kernel_rfl) (by kernel_rfl) (by kernel_rfl) (fun _ _ _ h => h) (Or.inl ⟨by rfl, ?_⟩) (by assumption) ?_
  rotate_left 1
  focus (intro w hSw; (try dsimp only at hSw); go_simp; try with_reducible rfl)
  try simp only [Act.put, List.setIfInBounds_toArray, List.set_cons_zero, List.set_cons_succ]
  refine wpAnyH_take (i := 12) (oi := { dst := some 15, op := Go.Op.load 35 (Go.Operand.tmp 1), type := 35, pos := "wire.go:52", after := #[{ on := 8, ground := Go.Ground.guard }], guard := some (8, false) }) (v := ?_) rfl (by kernel_rfl) (by kernel_rfl) (by kernel_rfl) (fun _ _ _ h => h) (Or.inl ⟨by rfl, ?_⟩) (by assumption) ?_
  rotate_left 1
  focus (intro w hSw; (try dsimp only at hSw); go_simp; try with_reducible rfl)
  try simp only [Act.put, List.setIfInBounds_toArray, List.set_cons_zero, List.set_cons_succ]
  refine wpAnyH_ready (rs := [13]) (by kernel_rfl) (by simp) ?_
  refine AllReadyH.cons (o := { dst := some 16, op := Go.Op.call { callee := Go.Callee.value (Go.Operand.func 90), args := #[Go.Operand.tmp 15], argTypes := #[35] }, type := 3, pos := "wire.go:52", after := #[{ on := 12, ground := Go.Ground.data }, { on := 8, ground := Go.Ground.chain }, { on := 8, ground := Go.Ground.guard }], guard := some (8, false) }) rfl (fun K hK => ?_) AllReadyH.nil
  go_simp
  with_reducible refine Calls.mono (C3.out _) ?_
  rintro e x3 ⟨rfl, k3⟩
  have K3 := Lib.hid (K2.out.trans k3)
  clear k3
  refine hK.out _ _ (KS.out _ K3.out) (fun hHeld => ?_)
  clear hK K
  try simp only [Act.put, List.setIfInBounds_toArray, List.set_cons_zero, List.set_cons_succ]
  refine wpAnyH_take (i := 14) (oi := { dst := some 17, op := Go.Op.binOp Go.BinOp.neq 3 (Go.Operand.tmp 14) (Go.Operand.tmp 16) 3, type := 4, pos := "wire.go:52", after := #[{ on := 11, ground := Go.Ground.data }, { on := 13, ground := Go.Ground.data }, { on := 8, ground := Go.Ground.guard }], guard := some (8, false) }) (v := ?_) rfl (by kernel_rfl) (by kernel_rfl) (by kernel_rfl) (fun _ _ _ h => h) (Or.inl ⟨by rfl, ?_⟩) (by assumption) ?_
  rotate_left 1
  focus (intro w hSw; (try dsimp only at hSw); go_simp; try with_reducible rfl)
  try simp only [Act.put, List.setIfInBounds_toArray, List.set_cons_zero, List.set_cons_succ]
  refine wpAnyH_take (i := 15) (oi := { dst := some 18, op := Go.Op.pick (Go.Operand.tmp 11) (Go.Operand.const (Go.Value.bool true)) (Go.Operand.tmp 17), type := 4, pos := "wire.go:52", after := #[{ on := 8, ground := Go.Ground.data }, { on := 14, ground := Go.Ground.data }], guard := none }) (v := ?_) rfl (by kernel_rfl) (by kernel_rfl) (by kernel_rfl) (fun _ _ _ h => h) (Or.inl ⟨by rfl, ?_⟩) (by assumption) ?_
  rotate_left 1
  focus (intro w hSw; (try dsimp only at hSw); go_simp; try with_reducible rfl)
  try simp only [Act.put, List.setIfInBounds_toArray, List.set_cons_zero, List.set_cons_succ]
  refine wpAnyH_done (by kernel_rfl) ?_ _
  go_wp2_with fail
  go_ret
  exact ⟨rfl, hk1.trans K3.out⟩
set_option maxHeartbeats 4000000 in
set_option maxRecDepth 100000 in
theorem check_ok {f : Frm} (h1 : Fit f) (h2 : Rng f) (h3 : Dat f) (s : Option Addr) (c : Nat) (w : World) : Calls Try.prog 62 #[fv f s c] w (Ans w (.int .i64 0)) := by
  obtain ⟨kind, src, dst, prio, msg, off, len, total, num, data⟩ := f
  have C1 := Lib.hid fun w => fits_yes h1 s c w
  have C2 := Lib.hid fun w => rng_yes h1 h2 s c w
  have C3 := Lib.hid fun w => dlen_any (f := ⟨kind, src, dst, prio, msg, off, len, total, num, data⟩) s c w
  unfold Dat at h3
  unfold dl at C3
  dsimp only at h3 C3
  rw [← h3] at C3
  clear h1 h2 h3
  unfold fv fcs at *
  dsimp only at *
  go_enter Try.func62, Try.ntmps62
  go_upto_region 1 with fail
  have hB : Blk (w.alloc (.cells #[.int .i64 kind, .int .i64 src, .int .i64 dst, .int .i64 prio, .int .u64 (msg : Int), .int .i64 off, .int .i64 len, .int .i64 total, .int .i64 num, .slice s data.length c] 35)) w.heap.size [.int .i64 kind, .int .i64 src, .int .i64 dst, .int .i64 prio, .int .u64 (msg : Int), .int .i64 off, .int .i64 len, .int .i64 total, .int .i64 num, .slice s data.length c] 35 := Blk.new w _ _
  have hk1 : Kept (fun _ => False) w (w.alloc (.cells #[.int .i64 kind, .int .i64 src, .int .i64 dst, .int .i64 prio, .int .u64 (msg : Int), .int .i64 off, .int .i64 len, .int .i64 total, .int .i64 num, .slice s data.length c] 35)) := (Kept.refl _ w).alloc _
  generalize w.alloc (.cells #[.int .i64 kind, .int .i64 src, .int .i64 dst, .int .i64 prio, .int .u64 (msg : Int), .int .i64 off, .int .i64 len, .int .i64 total, .int .i64 num, .slice s data.length c] 35) = w1 at *
  generalize w.heap.size = vb at *
  have E0 := Lib.hid (Kept.refl (fun _ => False) w1)
  have KS := Lib.hid fun (w' : World) (k : Kept (fun _ => False) w1 w') => (show w'.cell? ⟨vb, 0, none⟩ = some (.int .i64 kind) ∧ w'.cell? ⟨vb, 1, none⟩ = some (.int .i64 src) ∧ w'.cell? ⟨vb, 2, none⟩ = some (.int .i64 dst) ∧ w'.cell? ⟨vb, 3, none⟩ = some (.int .i64 prio) ∧ w'.cell? ⟨vb, 4, none⟩ = some (.int .u64 (msg : Int)) ∧ w'.cell? ⟨vb, 5, none⟩ = some (.int .i64 off) ∧ w'.cell? ⟨vb, 6, none⟩ = some (.int .i64 len) ∧ w'.cell? ⟨vb, 7, none⟩ = some (.int .i64 total) ∧ w'.cell? ⟨vb, 8, none⟩ = some (.int .i64 num) ∧ w'.cell? ⟨vb, 9, none⟩ = some (.slice s data.length c) from have hx := k.blk hB (fun f => f); ⟨hx.cell (o := 0) rfl, ⟨hx.cell (o := 1) rfl, ⟨hx.cell (o := 2) rfl, ⟨hx.cell (o := 3) rfl, ⟨hx.cell (o := 4) rfl, ⟨hx.cell (o := 5) rfl, ⟨hx.cell (o := 6) rfl, ⟨hx.cell (o := 7) rfl, ⟨hx.cell (o := 8) rfl, hx.cell (o := 9) rfl⟩⟩⟩⟩⟩⟩⟩⟩⟩)
  clear hB
  refine wp_region_held_drew (S := fun w' => w'.cell? ⟨vb, 0, none⟩ = some (.int .i64 kind) ∧ w'.cell? ⟨vb, 1, none⟩ = some (.int .i64 src) ∧ w'.cell? ⟨vb, 2, none⟩ = some (.int .i64 dst) ∧ w'.cell? ⟨vb, 3, none⟩ = some (.int .i64 prio) ∧ w'.cell? ⟨vb, 4, none⟩ = some (.int .u64 (msg : Int)) ∧ w'.cell? ⟨vb, 5, none⟩ = some (.int .i64 off) ∧ w'.cell? ⟨vb, 6, none⟩ = some (.int .i64 len) ∧ w'.cell? ⟨vb, 7, none⟩ = some (.int .i64 total) ∧ w'.cell? ⟨vb, 8, none⟩ = some (.int .i64 num) ∧ w'.cell? ⟨vb, 9, none⟩ = some (.slice s data.length c)) (by kernel_rfl) (KS.out _ E0.out.drew) (fun hHeld => ?_)
  have K0 := Lib.hid E0.out.drew
  refine wpAnyH_take (i := 0) (oi := { dst := some 3, op := Go.Op.load 35 (Go.Operand.tmp 1), type := 35, pos := "wire.go:52", after := #[], guard := none }) (v := ?_) rfl (by kernel_rfl) (by kernel_rfl) (by kernel_rfl) (fun _ _ _ h => h) (Or.inl ⟨by rfl, ?_⟩) (by assumption) ?_
  rotate_left 1
  focus (intro w hSw; (try dsimp only at hSw); go_simp; try with_reducible rfl)
  try simp only [Act.put, List.setIfInBounds_toArray, List.set_cons_zero, List.set_cons_succ]
  refine wpAnyH_ready (rs := [1]) (by kernel_rfl) (by simp) ?_
  refine AllReadyH.cons (o := { dst := some 4, op := Go.Op.call { callee := Go.Callee.value (Go.Operand.func 88), args := #[Go.Operand.tmp 3], argTypes := #[35] }, type := 4, pos := "wire.go:52", after := #[{ on := 0, ground := Go.Ground.data }], guard := none }) rfl (fun K hK => ?_) AllReadyH.nil
  go_simp
  with_reducible refine Calls.mono (C1.out _) ?_
  rintro e x1 ⟨rfl, k1⟩
  have K1 := Lib.hid (K0.out.trans k1)
  clear k1
  refine hK.out _ _ (KS.out _ K1.out) (fun hHeld => ?_)
  clear hK K
  try simp only [Act.put, List.setIfInBounds_toArray, List.set_cons_zero, List.set_cons_succ]
  refine wpAnyH_take (i := 2) (oi := { dst := some 5, op := Go.Op.unOp Go.UnOp.not 4 (Go.Operand.tmp 4), type := 4, pos := "wire.go:52", after := #[{ on := 1, ground := Go.Ground.data }], guard := none }) (v := ?_) rfl (by kernel_rfl) (by kernel_rfl) (by kernel_rfl) (fun _ _ _ h => h) (Or.inl ⟨by rfl, ?_⟩) (by assumption) ?_
  rotate_left 1
  focus (intro w hSw; (try dsimp only at hSw); go_simp; try with_reducible rfl)
  try simp only [Act.put, List.setIfInBounds_toArray, List.set_cons_zero, List.set_cons_succ]
  refine wpAnyH_take (i := 3) (oi := { dst := some 6, op := Go.Op.move (Go.Operand.tmp 5), type := 4, pos := "wire.go:52", after := #[{ on := 2, ground := Go.Ground.data }, { on := 1, ground := Go.Ground.chain }], guard := none }) (v := ?_) rfl (by kernel_rfl) (by kernel_rfl) (by kernel_rfl) (fun _ _ _ h => h) (Or.inl ⟨by rfl, ?_⟩) (by assumption) ?_
  rotate_left 1
  focus (intro w hSw; (try dsimp only at hSw); go_simp; try with_reducible rfl)
  try simp only [Act.put, List.setIfInBounds_toArray, List.set_cons_zero, List.set_cons_succ]
  refine wpAnyH_take (i := 4) (oi := { dst := some 7, op := Go.Op.load 35 (Go.Operand.tmp 1), type := 35, pos := "wire.go:52", after := #[{ on := 3, ground := Go.Ground.guard }], guard := some (3, false) }) (v := ?_) rfl (by kernel_rfl) (by kernel_rfl) (by kernel_rfl) (fun _ _ _ h => h) (Or.inl ⟨by rfl, ?_⟩) (by assumption) ?_
  rotate_left 1
  focus (intro w hSw; (try dsimp only at hSw); go_simp; try with_reducible rfl)
  try simp only [Act.put, List.setIfInBounds_toArray, List.set_cons_zero, List.set_cons_succ]
  refine wpAnyH_ready (rs := [5]) (by kernel_rfl) (by simp) ?_
  refine AllReadyH.cons (o := { dst := some 8, op := Go.Op.call { callee := Go.Callee.value (Go.Operand.func 89), args := #[Go.Operand.tmp 7], argTypes := #[35] }, type := 4, pos := "wire.go:52", after := #[{ on := 4, ground := Go.Ground.data }, { on := 3, ground := Go.Ground.chain }, { on := 3, ground := Go.Ground.guard }], guard := some (3, false) }) rfl (fun K hK => ?_) AllReadyH.nil
  go_simp
  with_reducible refine Calls.mono (C2.out _) ?_
  rintro e x2 ⟨rfl, k2⟩
  have K2 := Lib.hid (K1.out.trans k2)
  clear k2
  refine hK.out _ _ (KS.out _ K2.out) (fun hHeld => ?_)
  clear hK K
  try simp only [Act.put, List.setIfInBounds_toArray, List.set_cons_zero, List.set_cons_succ]
  refine wpAnyH_take (i := 6) (oi := { dst := some 9, op := Go.Op.unOp Go.UnOp.not 4 (Go.Operand.tmp 8), type := 4, pos := "wire.go:52", after := #[{ on := 5, ground := Go.Ground.data }, { on := 3, ground := Go.Ground.guard }], guard := some (3, false) }) (v := ?_) rfl (by kernel_rfl) (by kernel_rfl) (by kernel_rfl) (fun _ _ _ h => h) (Or.inl ⟨by rfl, ?_⟩) (by assumption) ?_
  rotate_left 1
  focus (intro w hSw; (try dsimp only at hSw); go_simp; try with_reducible rfl)
  try simp only [Act.put, List.setIfInBounds_toArray, List.set_cons_zero, List.set_cons_succ]
  refine wpAnyH_take (i := 7) (oi := { dst := some 10, op := Go.Op.pick (Go.Operand.tmp 6) (Go.Operand.const (Go.Value.bool true)) (Go.Operand.tmp 9), type := 4, pos := "wire.go:52", after := #[{ on := 3, ground := Go.Ground.data }, { on := 6, ground := Go.Ground.data }], guard := none }) (v := ?_) rfl (by kernel_rfl) (by kernel_rfl) (by kernel_rfl) (fun _ _ _ h => h) (Or.inl ⟨by rfl, ?_⟩) (by assumption) ?_
  rotate_left 1
  focus (intro w hSw; (try dsimp only at hSw); go_simp; try with_reducible rfl)
  try simp only [Act.put, List.setIfInBounds_toArray, List.set_cons_zero, List.set_cons_succ]
  refine wpAnyH_take (i := 8) (oi := { dst := some 11, op := Go.Op.move (Go.Operand.tmp 10), type := 4, pos := "wire.go:52", after := #[{ on := 7, ground := Go.Ground.data }, { on := 5, ground := Go.Ground.chain }], guard := none }) (v := ?_) rfl (by kernel_rfl) (by kernel_rfl) (by kernel_rfl) (fun _ _ _ h => h) (Or.inl ⟨by rfl, ?_⟩) (by assumption) ?_
  rotate_left 1
  focus (intro w hSw; (try dsimp only at hSw); go_simp; try with_reducible rfl)
  try simp only [Act.put, List.setIfInBounds_toArray, List.set_cons_zero, List.set_cons_succ]
  refine wpAnyH_take (i := 9) (oi := { dst := some 12, op := Go.Op.fieldAddr 35 (Go.Operand.tmp 1) 9, type := 0, pos := "wire.go:52", after := #[{ on := 8, ground := Go.Ground.guard }], guard := some (8, false) }) (v := ?_) rfl (by kernel_rfl) (by kernel_rfl) (by kernel_rfl) (fun _ _ _ h => h) (Or.inl ⟨by rfl, ?_⟩) (by assumption) ?_
  rotate_left 1
  focus (intro w hSw; (try dsimp only at hSw); go_simp; try with_reducible rfl)
  try simp only [Act.put, List.setIfInBounds_toArray, List.set_cons_zero, List.set_cons_succ]
  refine wpAnyH_take (i := 10) (oi := { dst := some 13, op := Go.Op.load 33 (Go.Operand.tmp 12), type := 33, pos := "wire.go:52", after := #[{ on := 9, ground := Go.Ground.data }, { on := 8, ground := Go.Ground.guard }], guard := some (8, false) }) (v := ?_) rfl (by kernel_rfl) (by kernel_rfl) (by kernel_rfl) (fun _ _ _ h => h) (Or.inl ⟨by rfl, ?_⟩) (by assumption) ?_
  rotate_left 1
  focus (intro w hSw; (try dsimp only at hSw); go_simp; try with_reducible rfl)
  try simp only [Act.put, List.setIfInBounds_toArray, List.set_cons_zero, List.set_cons_succ]
  refine wpAnyH_take (i := 11) (oi := { dst := some 14, op := Go.Op.call { callee := Go.Callee.builtin Go.Builtin.len, args := #[Go.Operand.tmp 13], argTypes := #[33] }, type := 3, pos := "wire.go:52", after := #[{ on := 10, ground := Go.Ground.data }, { on := 8, ground := Go.Ground.guard }], guard := some (8, false) }) (v := ?_) rfl (by kernel_rfl) (by kernel_rfl) (by kernel_rfl) (fun _ _ _ h => h) (Or.inl ⟨by rfl, ?_⟩) (by assumption) ?_
  rotate_left 1
  focus (intro w hSw; (try dsimp only at hSw); go_simp; try with_reducible rfl)
  try simp only [Act.put, List.setIfInBounds_toArray, List.set_cons_zero, List.set_cons_succ]
  refine wpAnyH_take (i := 12) (oi := { dst := some 15, op := Go.Op.load 35 (Go.Operand.tmp 1), type := 35, pos := "wire.go:52", after := #[{ on := 8, ground := Go.Ground.guard }], guard := some (8, false) }) (v := ?_) rfl (by kernel_rfl) (by kernel_rfl) (by kernel_rfl) (fun _ _ _ h => h) (Or.inl ⟨by rfl, ?_⟩) (by assumption) ?_
  rotate_left 1
  focus (intro w hSw; (try dsimp only at hSw); go_simp; try with_reducible rfl)
  try simp only [Act.put, List.setIfInBounds_toArray, List.set_cons_zero, List.set_cons_succ]
  refine wpAnyH_ready (rs := [13]) (by kernel_rfl) (by simp) ?_
  refine AllReadyH.cons (o := { dst := some 16, op := Go.Op.call { callee := Go.Callee.value (Go.Operand.func 90), args := #[Go.Operand.tmp 15], argTypes := #[35] }, type := 3, pos := "wire.go:52", after := #[{ on := 12, ground := Go.Ground.data }, { on := 8, ground := Go.Ground.chain }, { on := 8, ground := Go.Ground.guard }], guard := some (8, false) }) rfl (fun K hK => ?_) AllReadyH.nil
  go_simp
  with_reducible refine Calls.mono (C3.out _) ?_
  rintro e x3 ⟨rfl, k3⟩
  have K3 := Lib.hid (K2.out.trans k3)
  clear k3
  refine hK.out _ _ (KS.out _ K3.out) (fun hHeld => ?_)
  clear hK K
  try simp only [Act.put, List.setIfInBounds_toArray, List.set_cons_zero, List.set_cons_succ]
  refine wpAnyH_take (i := 14) (oi := { dst := some 17, op := Go.Op.binOp Go.BinOp.neq 3 (Go.Operand.tmp 14) (Go.Operand.tmp 16) 3, type := 4, pos := "wire.go:52", after := #[{ on := 11, ground := Go.Ground.data }, { on := 13, ground := Go.Ground.data }, { on := 8, ground := Go.Ground.guard }], guard := some (8, false) }) (v := ?_) rfl (by kernel_rfl) (by kernel_rfl) (by kernel_rfl) (fun _ _ _ h => h) (Or.inl ⟨by rfl, ?_⟩) (by assumption) ?_
  rotate_left 1
  focus (intro w hSw; (try dsimp only at hSw); go_simp; try with_reducible rfl)
  try simp only [Act.put, List.setIfInBounds_toArray, List.set_cons_zero, List.set_cons_succ]
  refine wpAnyH_take (i := 15) (oi := { dst := some 18, op := Go.Op.pick (Go.Operand.tmp 11) (Go.Operand.const (Go.Value.bool true)) (Go.Operand.tmp 17), type := 4, pos := "wire.go:52", after := #[{ on := 8, ground := Go.Ground.data }, { on := 14, ground := Go.Ground.data }], guard := none }) (v := ?_) rfl (by kernel_rfl) (by kernel_rfl) (by kernel_rfl) (fun _ _ _ h => h) (Or.inl ⟨by rfl, ?_⟩) (by assumption) ?_
  rotate_left 1
  focus (intro w hSw; (try dsimp only at hSw); go_simp; try with_reducible rfl)
  try simp only [Act.put, List.setIfInBounds_toArray, List.set_cons_zero, List.set_cons_succ]
  refine wpAnyH_done (by kernel_rfl) ?_ _
  go_wp2_with fail
  go_ret
  exact ⟨rfl, hk1.trans K3.out⟩
theorem check_any (f : Frm) (s : Option Addr) (c : Nat) (w : World) : Calls Try.prog 62 #[fv f s c] w (Ans w (.int .i64 (chk f))) := by
  by_cases h1 : Fit f
  · by_cases h2 : Rng f
    · by_cases h3 : Dat f
      · rw [chk_yes ⟨h1, h2, h3⟩]; exact check_ok h1 h2 h3 s c w
      · rw [chk_no fun h => h3 h.2.2]; exact check_dat h1 h2 h3 s c w
    · rw [chk_no fun h => h2 h.2.1]; exact check_rng h1 h2 s c w
  · rw [chk_no fun h => h1 h.1]; exact check_fit h1 s c w
end Go.Proofs.Ytompbpiaapenaaa.Wr

