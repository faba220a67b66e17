/- An item trimmed; a port's own cells; which line a frame waits in. Conditions: each theorem's own. -/
import Derived.Test.YtiffnlcpemfmoaaPoCp
import Derived.Test.YtiffnlcpemfmoaaPoPc
import Derived.Test.YtiffnlcpemfmoaaPqSz
set_option linter.unusedVariables false
namespace Go.Proofs.Ytiffnlcpemfmoaa.Po
open Go.RowKit Hp QuM QuN Rw Qu NumM NumC
attribute [local go_sem ↓] Go.wp_at_zero Go.wp_at_succ
/-- What is left of one that is trimmed. -/
def trX (x : Bx) : Bx := ⟨⟨7, x.f.src, x.f.dst, 7, x.f.msg, x.f.off, x.f.len, x.f.total, x.f.num, []⟩, none, 0, x.q⟩
set_option maxRecDepth 100000 in
set_option maxHeartbeats 8000000 in
theorem trimmed_any {w : World} (x : Bx) : Calls Try.prog 19 #[bv x] w fun e w' => e = .returned (bv (trX x)) ∧ Kept (fun _ => False) w w' := by
  obtain ⟨⟨x1, x2, x3, x4, x5, x6, x7, x8, x9, xd⟩, xa, xc, xq⟩ := x
  go_enter Try.func19, Try.ntmps19
  go_upto_region 1 with fail
  have hB := Blk.new w [.int .i64 x1, .int .i64 x2, .int .i64 x3, .int .i64 x4, .int .u64 (x5 : Int), .int .i64 x6, .int .i64 x7, .int .i64 x8, .int .i64 x9, .slice xa xd.length xc, .int .i64 xq] 28
  have hk1 := (Kept.refl (fun _ => False) w).alloc (.cells [.int .i64 x1, .int .i64 x2, .int .i64 x3, .int .i64 x4, .int .u64 (x5 : Int), .int .i64 x6, .int .i64 x7, .int .i64 x8, .int .i64 x9, .slice xa xd.length xc, .int .i64 xq].toArray 28)
  have hs1 : (w.alloc (.cells #[.int .i64 x1, .int .i64 x2, .int .i64 x3, .int .i64 x4, .int .u64 (x5 : Int), .int .i64 x6, .int .i64 x7, .int .i64 x8, .int .i64 x9, .slice xa xd.length xc, .int .i64 xq] 28)).heap.size = w.heap.size + 1 := by simp
  dsimp only [List.toArray] at hB hk1
  generalize w.alloc (.cells #[.int .i64 x1, .int .i64 x2, .int .i64 x3, .int .i64 x4, .int .u64 (x5 : Int), .int .i64 x6, .int .i64 x7, .int .i64 x8, .int .i64 x9, .slice xa xd.length xc, .int .i64 xq] 28) = w1 at *
  have hO := Blk.new w1 [.int .i64 0, .int .i64 0, .int .i64 0, .int .i64 0, .int .u64 0, .int .i64 0, .int .i64 0, .int .i64 0, .int .i64 0, .slice none 0 0, .int .i64 0] 28
  have hk2 := (Kept.refl (fun _ => False) w1).alloc (.cells [.int .i64 0, .int .i64 0, .int .i64 0, .int .i64 0, .int .u64 0, .int .i64 0, .int .i64 0, .int .i64 0, .int .i64 0, .slice none 0 0, .int .i64 0].toArray 28)
  have hB2 := hk2.blk hB (fun f => f)
  dsimp only [List.toArray] at hO hk2 hB2
  rw [hs1] at hO
  generalize w1.alloc (.cells #[.int .i64 0, .int .i64 0, .int .i64 0, .int .i64 0, .int .u64 0, .int .i64 0, .int .i64 0, .int .i64 0, .int .i64 0, .slice none 0 0, .int .i64 0] 28) = w2 at *
  have HK2 := Lib.hid (hk1.trans hk2)
  obtain ⟨rb, hrb⟩ : ∃ rb, w.heap.size = rb := ⟨_, rfl⟩
  rw [hrb] at hB2 hO
  simp only [hrb]
  have HRB := Lib.hid hrb
  have hO2 := hO
  clear hrb hs1 hk1 hk2 hB hO
  have c0 := hB2.cell (o := 0) rfl
  have c1 := hB2.cell (o := 1) rfl
  have c2 := hB2.cell (o := 2) rfl
  have c3 := hB2.cell (o := 3) rfl
  have c4 := hB2.cell (o := 4) rfl
  have c5 := hB2.cell (o := 5) rfl
  have c6 := hB2.cell (o := 6) rfl
  have c7 := hB2.cell (o := 7) rfl
  have c8 := hB2.cell (o := 8) rfl
  have c9 := hB2.cell (o := 9) rfl
  have c10 := hB2.cell (o := 10) rfl
  have f0 := hB2.frozen 0
  have f1 := hB2.frozen 1
  have f2 := hB2.frozen 2
  have f3 := hB2.frozen 3
  have f4 := hB2.frozen 4
  have f5 := hB2.frozen 5
  have f6 := hB2.frozen 6
  have f7 := hB2.frozen 7
  have f8 := hB2.frozen 8
  have f9 := hB2.frozen 9
  have f10 := hB2.frozen 10
  go_upto_region 2 with fail
  have hB4 := ((hB2.set 0 (.int .i64 7)).set 3 (.int .i64 7)).set 9 (.slice none 0 0)
  dsimp only [List.set] at hB4
  have k4 : Kept (fun i => i = rb) w2 (((w2.setCell ⟨rb, 0, none⟩ (.int .i64 7)).setCell ⟨rb, 3, none⟩ (.int .i64 7)).setCell ⟨rb, 9, none⟩ (.slice none 0 0)) := (((Kept.refl (fun i => i = rb) w2).set (b := rb) (fun _ => rfl) _ _).set (b := rb) (fun _ => rfl) _ _).set (b := rb) (fun _ => rfl) _ _
  have hO4 := k4.blk hO2 (by omega)
  generalize ((w2.setCell ⟨rb, 0, none⟩ (.int .i64 7)).setCell ⟨rb, 3, none⟩ (.int .i64 7)).setCell ⟨rb, 9, none⟩ (.slice none 0 0) = w4 at *
  have HK4 : Hid (Kept (fun _ => False) w w4) := Lib.hid (HK2.out.trans' k4 (fun i hi e => by have := HRB.out; omega))
  clear k4 hB2 hO2 HK2 c0 c1 c2 c3 c4 c5 c6 c7 c8 c9 c10 f0 f1 f2 f3 f4 f5 f6 f7 f8 f9 f10
  have e0 := hB4.cell (o := 0) rfl
  have e1 := hB4.cell (o := 1) rfl
  have e2 := hB4.cell (o := 2) rfl
  have e3 := hB4.cell (o := 3) rfl
  have e4 := hB4.cell (o := 4) rfl
  have e5 := hB4.cell (o := 5) rfl
  have e6 := hB4.cell (o := 6) rfl
  have e7 := hB4.cell (o := 7) rfl
  have e8 := hB4.cell (o := 8) rfl
  have e9 := hB4.cell (o := 9) rfl
  have e10 := hB4.cell (o := 10) rfl
  have n0 := hO4.cell (o := 0) rfl
  have n1 := hO4.cell (o := 1) rfl
  have n2 := hO4.cell (o := 2) rfl
  have n3 := hO4.cell (o := 3) rfl
  have n4 := hO4.cell (o := 4) rfl
  have n5 := hO4.cell (o := 5) rfl
  have n6 := hO4.cell (o := 6) rfl
  have n7 := hO4.cell (o := 7) rfl
  have n8 := hO4.cell (o := 8) rfl
  have n9 := hO4.cell (o := 9) rfl
  have n10 := hO4.cell (o := 10) rfl
  have fz0 := hO4.frozen 0
  have fz1 := hO4.frozen 1
  have fz2 := hO4.frozen 2
  have fz3 := hO4.frozen 3
  have fz4 := hO4.frozen 4
  have fz5 := hO4.frozen 5
  have fz6 := hO4.frozen 6
  have fz7 := hO4.frozen 7
  have fz8 := hO4.frozen 8
  have fz9 := hO4.frozen 9
  have fz10 := hO4.frozen 10
  have hO5 := set11_blk hO4 rfl (trX ⟨⟨x1, x2, x3, x4, x5, x6, x7, x8, x9, xd⟩, xa, xc, xq⟩)
  have k5 := set11_kept w4 (rb + 1) (trX ⟨⟨x1, x2, x3, x4, x5, x6, x7, x8, x9, xd⟩, xa, xc, xq⟩)
  have HK5 : Hid (Kept (fun _ => False) w (set11 w4 (rb + 1) (trX ⟨⟨x1, x2, x3, x4, x5, x6, x7, x8, x9, xd⟩, xa, xc, xq⟩))) := Lib.hid (HK4.out.trans' k5 (fun i hi e => by have := HRB.out; omega))
  unfold set11 trX at HK5 hO5
  dsimp only [List.length_nil] at HK5 hO5
  have z0 := hO5.cell (o := 0) rfl
  have z1 := hO5.cell (o := 1) rfl
  have z2 := hO5.cell (o := 2) rfl
  have z3 := hO5.cell (o := 3) rfl
  have z4 := hO5.cell (o := 4) rfl
  have z5 := hO5.cell (o := 5) rfl
  have z6 := hO5.cell (o := 6) rfl
  have z7 := hO5.cell (o := 7) rfl
  have z8 := hO5.cell (o := 8) rfl
  have z9 := hO5.cell (o := 9) rfl
  have z10 := hO5.cell (o := 10) rfl
  clear hB4 hO4 hO5 k5 HK4
  go_wp2_with fail
  exact bodyPost_ret (v := bv ⟨⟨7, x2, x3, 7, x5, x6, x7, x8, x9, []⟩, none, 0, xq⟩) (by simp [results, Try.results19, go_sem, z0, z1, z2, z3, z4, z5, z6, z7, z8, z9, z10]) rfl ⟨rfl, HK5.out⟩
/-- A port's own cells. -/
abbrev tP : TypeId := 41
abbrev pcs (trim : Bool) (qf qc pb : Nat) (now : Int) : List Value := [.bool trim, .pointer (some ⟨qf, 0, none⟩), .pointer (some ⟨qc, 0, none⟩), .pointer (some ⟨pb, 0, none⟩), .int .i64 now]
/-- A line, told. -/
abbrev lv (q : Nat) (p : Int) : Value := .agg #[.pointer (some ⟨q, 0, none⟩), .int .i64 p]
theorem creditLine_any {w : World} {b qf qc pb : Nat} {trim : Bool} {now : Int} (h : Blk w b (pcs trim qf qc pb now) tP) :
    Calls Try.prog 34 #[.pointer (some ⟨b, 0, none⟩)] w fun e w' => e = .returned (lv qc 0) ∧ Kept (fun _ => False) w w' := by
  have hl := h.lt
  have H := Lib.hid h
  clear h
  go_enter Try.func34, Try.ntmps34
  go_upto_region 1 with fail
  have hO := Blk.new w [.pointer none, .int .i64 0] 45
  have hk := (Kept.refl (fun _ => False) w).alloc (.cells [.pointer none, .int .i64 0].toArray 45)
  have hB := hk.blk H.out (fun f => f)
  dsimp only [List.toArray] at hO hk hB
  generalize w.alloc (.cells #[.pointer none, .int .i64 0] 45) = w1 at *
  obtain ⟨rb, hrb⟩ : ∃ rb, w.heap.size = rb := ⟨_, rfl⟩
  rw [hrb] at hO hl
  simp only [hrb]
  have HRB := Lib.hid hrb
  clear hrb
  have c2 := hB.cell (o := 2) rfl
  have n0 := hO.cell (o := 0) rfl
  have n1 := hO.cell (o := 1) rfl
  have f0 := hO.frozen 0
  have f1 := hO.frozen 1
  have hO5 := (hO.set 0 (.pointer (some ⟨qc, 0, none⟩))).set 1 (.int .i64 0)
  have HK5 : Hid (Kept (fun _ => False) w ((w1.setCell ⟨rb, 0, none⟩ (.pointer (some ⟨qc, 0, none⟩))).setCell ⟨rb, 1, none⟩ (.int .i64 0))) := Lib.hid ((hk.set (b := rb) (fun h => by have := HRB.out; omega) _ _).set (b := rb) (fun h => by have := HRB.out; omega) _ _)
  have z0 := hO5.cell (o := 0) rfl
  have z1 := hO5.cell (o := 1) rfl
  clear hO hB hk hO5
  go_wp2_with fail
  exact bodyPost_ret (v := lv qc 0) (by simp [results, Try.results34, go_sem, z0, z1]) rfl ⟨rfl, HK5.out⟩
end Go.Proofs.Ytiffnlcpemfmoaa.Po
