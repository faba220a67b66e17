/- What nothing tells; Drop and Double of what is not there. Conditions: each theorem's own. -/
import Derived.Test.YtiffnlcpemfmoaaPoAwake
set_option linter.unusedVariables false
namespace Go.Proofs.Ytiffnlcpemfmoaa.Po
open Go.RowKit Hp QuM QuN Rw Qu NumM NumC Go.Proofs.Ytiffnlcpemfmoaa.End
attribute [local go_sem ↓] Go.wp_at_zero Go.wp_at_succ
/-- No line. -/
abbrev lz : Value := .agg #[.pointer none, .int .i64 0]
theorem find_nil (k : Int) (w : World) : Calls Try.prog 16 #[.pointer none, .int .i64 k] w fun e w' => e = .returned (.tuple #[lz, .int .i64 0, .bool false]) ∧ Kept (fun _ => False) w w' := by
  go_enter Try.func16, Try.ntmps16
  go_upto_region 1 with fail
  have hO := Blk.new w [.pointer none, .int .i64 0] 45
  have hk1 := (Kept.refl (fun _ => False) w).alloc (.cells [.pointer none, .int .i64 0].toArray 45)
  dsimp only [List.toArray] at hO hk1
  generalize w.alloc (.cells #[.pointer none, .int .i64 0] 45) = w1 at *
  obtain ⟨rb, hrb⟩ : ∃ rb, w.heap.size = rb := ⟨_, rfl⟩
  rw [hrb] at hO
  simp only [hrb]
  have HRB := Lib.hid hrb
  clear hrb
  have n0 := hO.cell (o := 0) rfl
  have n1 := hO.cell (o := 1) rfl
  have f0 := hO.frozen 0
  have f1 := hO.frozen 1
  have hO5 := (hO.set 0 (.pointer none)).set 1 (.int .i64 0)
  have HK5 : Hid (Kept (fun _ => False) w ((w1.setCell ⟨rb, 0, none⟩ (.pointer none)).setCell ⟨rb, 1, none⟩ (.int .i64 0))) := Lib.hid ((hk1.set (b := rb) (fun h => by have := HRB.out; omega) _ _).set (b := rb) (fun h => by have := HRB.out; omega) _ _)
  have z0 := hO5.cell (o := 0) rfl
  have z1 := hO5.cell (o := 1) rfl
  clear hO hO5 hk1
  go_wp2_with fail
  exact bodyPost_ret (v := .tuple #[lz, .int .i64 0, .bool false]) (by simp [results, Try.results16, go_sem, z0, z1]) rfl ⟨rfl, HK5.out⟩
set_option maxRecDepth 100000 in
set_option maxHeartbeats 4000000 in
theorem drop_off {q : Option Addr} {k : Int} {w : World} (hF : ∀ w', Kept (fun _ => False) w w' → Calls Try.prog 16 #[.pointer q, .int .i64 k] w' fun e w'' => e = .returned (.tuple #[lz, .int .i64 0, .bool false]) ∧ Kept (fun _ => False) w' w'') :
    Calls Try.prog 5 #[.pointer q, .int .i64 k] w fun e w' => e = .returned (.tuple #[bv zB, .bool false]) ∧ Kept (fun _ => False) w w' := by
  have HF := Lib.hid hF
  clear hF
  go_enter Try.func5, Try.ntmps5
  go_upto_region 1 with fail
  have hO := Blk.new w [.int .i64 0, .int .i64 0, .int .i64 0, .int .i64 0, .int .u64 0, .int .i64 0, .int .i64 0, .int .i64 0, .int .i64 0, .slice none 0 0, .int .i64 0] 28
  have hk1 := (Kept.refl (fun _ => False) w).alloc (.cells [.int .i64 0, .int .i64 0, .int .i64 0, .int .i64 0, .int .u64 0, .int .i64 0, .int .i64 0, .int .i64 0, .int .i64 0, .slice none 0 0, .int .i64 0].toArray 28)
  dsimp only [List.toArray] at hO hk1
  generalize w.alloc (.cells #[.int .i64 0, .int .i64 0, .int .i64 0, .int .i64 0, .int .u64 0, .int .i64 0, .int .i64 0, .int .i64 0, .int .i64 0, .slice none 0 0, .int .i64 0] 28) = w1 at *
  obtain ⟨rb, hrb⟩ : ∃ rb, w.heap.size = rb := ⟨_, rfl⟩
  rw [hrb] at hO
  simp only [hrb]
  have HRB := Lib.hid hrb
  have HO := Lib.hid hO
  have HK := Lib.hid hk1
  clear hrb hO hk1
  go_wp2_with fail
  with_reducible refine Calls.mono (HF.out _ HK.out) ?_
  rintro e w2 ⟨rfl, hk2⟩
  have HO2 := Lib.hid (hk2.blk HO.out (fun f => f))
  have HK2 := Lib.hid (HK.out.trans hk2)
  clear hk2 HO HK HF
  go_upto_region 2 with fail
  have hk3 := (Kept.refl (fun _ => False) w2).alloc (.cells [.pointer none, .int .i64 0].toArray 45)
  dsimp only [List.toArray] at hk3
  have hO3 := hk3.blk HO2.out (fun f => f)
  have HK3 := Lib.hid (HK2.out.trans hk3)
  generalize w2.alloc (.cells #[.pointer none, .int .i64 0] 45) = w3 at *
  generalize w2.heap.size = ob at *
  have n0 := hO3.cell (o := 0) rfl
  have n1 := hO3.cell (o := 1) rfl
  have n2 := hO3.cell (o := 2) rfl
  have n3 := hO3.cell (o := 3) rfl
  have n4 := hO3.cell (o := 4) rfl
  have n5 := hO3.cell (o := 5) rfl
  have n6 := hO3.cell (o := 6) rfl
  have n7 := hO3.cell (o := 7) rfl
  have n8 := hO3.cell (o := 8) rfl
  have n9 := hO3.cell (o := 9) rfl
  have n10 := hO3.cell (o := 10) rfl
  have fz0 := hO3.frozen 0
  have fz1 := hO3.frozen 1
  have fz2 := hO3.frozen 2
  have fz3 := hO3.frozen 3
  have fz4 := hO3.frozen 4
  have fz5 := hO3.frozen 5
  have fz6 := hO3.frozen 6
  have fz7 := hO3.frozen 7
  have fz8 := hO3.frozen 8
  have fz9 := hO3.frozen 9
  have fz10 := hO3.frozen 10
  have hO6 := set11_blk hO3 rfl zB
  have k6 := set11_kept w3 rb zB
  have HK6 : Hid (Kept (fun _ => False) w (set11 w3 rb zB)) := Lib.hid (HK3.out.trans' k6 (fun i hi e => by have := HRB.out; omega))
  unfold set11 at HK6 hO6
  dsimp only [List.length_nil, Int.natCast_zero] at HK6 hO6
  have z0 := hO6.cell (o := 0) rfl
  have z1 := hO6.cell (o := 1) rfl
  have z2 := hO6.cell (o := 2) rfl
  have z3 := hO6.cell (o := 3) rfl
  have z4 := hO6.cell (o := 4) rfl
  have z5 := hO6.cell (o := 5) rfl
  have z6 := hO6.cell (o := 6) rfl
  have z7 := hO6.cell (o := 7) rfl
  have z8 := hO6.cell (o := 8) rfl
  have z9 := hO6.cell (o := 9) rfl
  have z10 := hO6.cell (o := 10) rfl
  clear hO3 hO6 k6 hk3 HO2 HK2 HK3
  go_wp2_with fail
  exact bodyPost_ret (v := .tuple #[bv zB, .bool false]) (by simp [results, Try.results5, go_sem, z0, z1, z2, z3, z4, z5, z6, z7, z8, z9, z10]) rfl ⟨rfl, HK6.out⟩
theorem drop_nil (k : Int) (w : World) : Calls Try.prog 5 #[.pointer none, .int .i64 k] w fun e w' => e = .returned (.tuple #[bv zB, .bool false]) ∧ Kept (fun _ => False) w w' := drop_off fun w' _ => find_nil k w'
set_option maxRecDepth 100000 in
set_option maxHeartbeats 4000000 in
theorem standing_off {q : Option Addr} {k : Int} {w : World} (hF : ∀ w', Kept (fun _ => False) w w' → Calls Try.prog 16 #[.pointer q, .int .i64 k] w' fun e w'' => e = .returned (.tuple #[lz, .int .i64 0, .bool false]) ∧ Kept (fun _ => False) w' w'') :
    Calls Try.prog 20 #[.pointer q, .int .i64 k] w fun e w' => e = .returned (.tuple #[bv zB, .bool false]) ∧ Kept (fun _ => False) w w' := by
  have HF := Lib.hid hF
  clear hF
  go_enter Try.func20, Try.ntmps20
  go_upto_region 1 with fail
  have hO := Blk.new w [.int .i64 0, .int .i64 0, .int .i64 0, .int .i64 0, .int .u64 0, .int .i64 0, .int .i64 0, .int .i64 0, .int .i64 0, .slice none 0 0, .int .i64 0] 28
  have hk1 := (Kept.refl (fun _ => False) w).alloc (.cells [.int .i64 0, .int .i64 0, .int .i64 0, .int .i64 0, .int .u64 0, .int .i64 0, .int .i64 0, .int .i64 0, .int .i64 0, .slice none 0 0, .int .i64 0].toArray 28)
  dsimp only [List.toArray] at hO hk1
  generalize w.alloc (.cells #[.int .i64 0, .int .i64 0, .int .i64 0, .int .i64 0, .int .u64 0, .int .i64 0, .int .i64 0, .int .i64 0, .int .i64 0, .slice none 0 0, .int .i64 0] 28) = w1 at *
  obtain ⟨rb, hrb⟩ : ∃ rb, w.heap.size = rb := ⟨_, rfl⟩
  rw [hrb] at hO
  simp only [hrb]
  have HRB := Lib.hid hrb
  have HO := Lib.hid hO
  have HK := Lib.hid hk1
  clear hrb hO hk1
  go_wp2_with fail
  with_reducible refine Calls.mono (HF.out _ HK.out) ?_
  rintro e w2 ⟨rfl, hk2⟩
  have HO2 := Lib.hid (hk2.blk HO.out (fun f => f))
  have HK2 := Lib.hid (HK.out.trans hk2)
  clear hk2 HO HK HF
  go_upto_region 2 with fail
  have hk3 := (Kept.refl (fun _ => False) w2).alloc (.cells [.pointer none, .int .i64 0].toArray 45)
  dsimp only [List.toArray] at hk3
  have hO3 := hk3.blk HO2.out (fun f => f)
  have HK3 := Lib.hid (HK2.out.trans hk3)
  generalize w2.alloc (.cells #[.pointer none, .int .i64 0] 45) = w3 at *
  generalize w2.heap.size = ob at *
  have n0 := hO3.cell (o := 0) rfl
  have n1 := hO3.cell (o := 1) rfl
  have n2 := hO3.cell (o := 2) rfl
  have n3 := hO3.cell (o := 3) rfl
  have n4 := hO3.cell (o := 4) rfl
  have n5 := hO3.cell (o := 5) rfl
  have n6 := hO3.cell (o := 6) rfl
  have n7 := hO3.cell (o := 7) rfl
  have n8 := hO3.cell (o := 8) rfl
  have n9 := hO3.cell (o := 9) rfl
  have n10 := hO3.cell (o := 10) rfl
  have fz0 := hO3.frozen 0
  have fz1 := hO3.frozen 1
  have fz2 := hO3.frozen 2
  have fz3 := hO3.frozen 3
  have fz4 := hO3.frozen 4
  have fz5 := hO3.frozen 5
  have fz6 := hO3.frozen 6
  have fz7 := hO3.frozen 7
  have fz8 := hO3.frozen 8
  have fz9 := hO3.frozen 9
  have fz10 := hO3.frozen 10
  have hO6 := set11_blk hO3 rfl zB
  have k6 := set11_kept w3 rb zB
  have HK6 : Hid (Kept (fun _ => False) w (set11 w3 rb zB)) := Lib.hid (HK3.out.trans' k6 (fun i hi e => by have := HRB.out; omega))
  unfold set11 at HK6 hO6
  dsimp only [List.length_nil, Int.natCast_zero] at HK6 hO6
  have z0 := hO6.cell (o := 0) rfl
  have z1 := hO6.cell (o := 1) rfl
  have z2 := hO6.cell (o := 2) rfl
  have z3 := hO6.cell (o := 3) rfl
  have z4 := hO6.cell (o := 4) rfl
  have z5 := hO6.cell (o := 5) rfl
  have z6 := hO6.cell (o := 6) rfl
  have z7 := hO6.cell (o := 7) rfl
  have z8 := hO6.cell (o := 8) rfl
  have z9 := hO6.cell (o := 9) rfl
  have z10 := hO6.cell (o := 10) rfl
  clear hO3 hO6 k6 hk3 HO2 HK2 HK3
  go_wp2_with fail
  exact bodyPost_ret (v := .tuple #[bv zB, .bool false]) (by simp [results, Try.results20, go_sem, z0, z1, z2, z3, z4, z5, z6, z7, z8, z9, z10]) rfl ⟨rfl, HK6.out⟩
theorem standing_nil (k : Int) (w : World) : Calls Try.prog 20 #[.pointer none, .int .i64 k] w fun e w' => e = .returned (.tuple #[bv zB, .bool false]) ∧ Kept (fun _ => False) w w' := standing_off fun w' _ => find_nil k w'
theorem double_off {q : Option Addr} {k : Int} {w : World} (hF : ∀ w', Kept (fun _ => False) w w' → Calls Try.prog 20 #[.pointer q, .int .i64 k] w' fun e w'' => e = .returned (.tuple #[bv zB, .bool false]) ∧ Kept (fun _ => False) w' w'') :
    Calls Try.prog 7 #[.pointer q, .int .i64 k] w fun e w' => e = .returned (.bool false) ∧ Kept (fun _ => False) w w' := by
  have HF := Lib.hid hF
  clear hF
  go_enter Try.func7, Try.ntmps7
  go_wp2_with fail
  with_reducible refine Calls.mono (HF.out _ (Kept.refl _ w)) ?_
  rintro e w2 ⟨rfl, hk2⟩
  have HK2 := Lib.hid (hk2.alloc (.cells #[.int .i64 0, .int .i64 0, .int .i64 0, .int .i64 0, .int .u64 0, .int .i64 0, .int .i64 0, .int .i64 0, .int .i64 0, .slice none 0 0, .int .i64 0] 28))
  clear hk2 HF
  dsimp only [List.length_nil, Int.natCast_zero]
  go_wp2_with fail
  go_ret
  exact ⟨rfl, HK2.out⟩
theorem double_nil (k : Int) (w : World) : Calls Try.prog 7 #[.pointer none, .int .i64 k] w fun e w' => e = .returned (.bool false) ∧ Kept (fun _ => False) w w' := double_off fun w' _ => standing_nil k w'
theorem waiting_nil (w : World) : Calls Try.prog 8 #[.pointer none] w fun e w' => e = .returned (.slice none 0 0) ∧ w = w' := by
  go_enter Try.func8, Try.ntmps8
  go_wp2_with fail
  go_ret
  exact ⟨rfl, rfl⟩
end Go.Proofs.Ytiffnlcpemfmoaa.Po
