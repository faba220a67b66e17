/- Which line a frame waits in. Conditions: each theorem's own. -/
import Derived.Test.YtiffnlcpemfmoaaPoTr
set_option linter.unusedVariables false
namespace Go.Proofs.Ytiffnlcpemfmoaa.Po
open Go.RowKit Hp QuM QuN Rw Qu NumM NumC
attribute [local go_sem ↓] Go.wp_at_zero Go.wp_at_succ
/-- A frame's own line. -/
def prI (x : Bx) : Int := clampI x.f.prio 0 7
theorem prI_bd (x : Bx) : 0 ≤ prI x ∧ prI x ≤ 7 := clampI_bd _ (by decide)
set_option maxRecDepth 100000 in
set_option maxHeartbeats 8000000 in
theorem lineOf_credit {w : World} {b qf qc pb : Nat} {trim : Bool} {now : Int} (h : Blk w b (pcs trim qf qc pb now) tP) {x : Bx} (hk : x.f.kind = 11) :
    Calls Try.prog 31 #[.pointer (some ⟨b, 0, none⟩), Wr.fv x.f x.s x.c] w fun e w' => e = .returned (lv qc 0) ∧ Kept (fun _ => False) w w' := by
  have CLN := Lib.hid fun (w' : World) (k : Kept (fun _ => False) w w') => creditLine_any (k.blk h (fun f => f))
  have hl := h.lt
  obtain ⟨⟨x1, x2, x3, x4, x5, x6, x7, x8, x9, xd⟩, xa, xc, xq⟩ := x
  dsimp only at hk
  subst hk
  clear h
  unfold Wr.fv Wr.fcs
  dsimp only
  go_enter Try.func31, Try.ntmps31
  go_upto_region 1 with fail
  have hB := Blk.new w [.int .i64 11, .int .i64 x2, .int .i64 x3, .int .i64 x4, .int .u64 (x5 : Int), .int .i64 x6, .int .i64 x7, .int .i64 x8, .int .i64 x9, .slice xa xd.length xc] 26
  have hk1 := (Kept.refl (fun _ => False) w).alloc (.cells [.int .i64 11, .int .i64 x2, .int .i64 x3, .int .i64 x4, .int .u64 (x5 : Int), .int .i64 x6, .int .i64 x7, .int .i64 x8, .int .i64 x9, .slice xa xd.length xc].toArray 26)
  have hs1 : (w.alloc (.cells #[.int .i64 11, .int .i64 x2, .int .i64 x3, .int .i64 x4, .int .u64 (x5 : Int), .int .i64 x6, .int .i64 x7, .int .i64 x8, .int .i64 x9, .slice xa xd.length xc] 26)).heap.size = w.heap.size + 1 := by simp
  dsimp only [List.toArray] at hB hk1
  generalize w.alloc (.cells #[.int .i64 11, .int .i64 x2, .int .i64 x3, .int .i64 x4, .int .u64 (x5 : Int), .int .i64 x6, .int .i64 x7, .int .i64 x8, .int .i64 x9, .slice xa xd.length xc] 26) = w1 at *
  have hO := Blk.new w1 [.pointer none, .int .i64 0] 45
  have hk2 := (Kept.refl (fun _ => False) w1).alloc (.cells [.pointer none, .int .i64 0].toArray 45)
  have hB2 := hk2.blk hB (fun f => f)
  dsimp only [List.toArray] at hO hk2 hB2
  rw [hs1] at hO
  generalize w1.alloc (.cells #[.pointer none, .int .i64 0] 45) = w2 at *
  have HK2 := Lib.hid (hk1.trans hk2)
  obtain ⟨rb, hrb⟩ : ∃ rb, w.heap.size = rb := ⟨_, rfl⟩
  rw [hrb] at hB2 hO
  simp only [hrb]
  have HRB := Lib.hid hrb
  have HO := Lib.hid hO
  clear hrb hs1 hk1 hk2 hB hO
  have c0 := hB2.cell (o := 0) rfl
  clear hB2
  go_wp2_with fail
  with_reducible refine Calls.mono (CLN.out _ HK2.out) ?_
  rintro e w3 ⟨rfl, hk3⟩
  have hO3 := hk3.blk HO.out (fun f => f)
  have HK3 := Lib.hid (HK2.out.trans hk3)
  clear hk3 c0 HK2 CLN
  have n0 := hO3.cell (o := 0) rfl
  have n1 := hO3.cell (o := 1) rfl
  have f0 := hO3.frozen 0
  have f1 := hO3.frozen 1
  have hO5 := (hO3.set 0 (.pointer (some ⟨qc, 0, none⟩))).set 1 (.int .i64 0)
  have HK5 : Hid (Kept (fun _ => False) w ((w3.setCell ⟨rb + 1, 0, none⟩ (.pointer (some ⟨qc, 0, none⟩))).setCell ⟨rb + 1, 1, none⟩ (.int .i64 0))) := Lib.hid ((HK3.out.set (b := rb + 1) (fun h => by have := HRB.out; omega) _ _).set (b := rb + 1) (fun h => by have := HRB.out; omega) _ _)
  have z0 := hO5.cell (o := 0) rfl
  have z1 := hO5.cell (o := 1) rfl
  clear hO3 hO5
  go_wp2_with fail
  exact bodyPost_ret (v := lv qc 0) (by simp [results, Try.results31, go_sem, z0, z1]) rfl ⟨rfl, HK5.out⟩
set_option maxRecDepth 100000 in
set_option maxHeartbeats 8000000 in
theorem lineOf_else {w : World} {b qf qc pb : Nat} {trim : Bool} {now : Int} (h : Blk w b (pcs trim qf qc pb now) tP) {x : Bx} (hk : x.f.kind ≠ 11) :
    Calls Try.prog 31 #[.pointer (some ⟨b, 0, none⟩), Wr.fv x.f x.s x.c] w fun e w' => e = .returned (lv qf (prI x)) ∧ Kept (fun _ => False) w w' := by
  have CLI := Lib.hid fun (w' : World) => clampInt_any x.f.prio 0 7 w'
  have hl := h.lt
  have hb := prI_bd x
  unfold prI at hb ⊢
  obtain ⟨⟨x1, x2, x3, x4, x5, x6, x7, x8, x9, xd⟩, xa, xc, xq⟩ := x
  dsimp only at *
  generalize clampI x4 0 7 = y at *
  have hk2 : (x1 == 11) = false := by rw [beq_eq_false_iff_ne]; exact hk
  have H := Lib.hid h
  clear h hk
  unfold Wr.fv Wr.fcs
  dsimp only
  go_enter Try.func31, Try.ntmps31
  go_upto_region 1 with fail
  have hB := Blk.new w [.int .i64 x1, .int .i64 x2, .int .i64 x3, .int .i64 x4, .int .u64 (x5 : Int), .int .i64 x6, .int .i64 x7, .int .i64 x8, .int .i64 x9, .slice xa xd.length xc] 26
  have hk1 := (Kept.refl (fun _ => False) w).alloc (.cells [.int .i64 x1, .int .i64 x2, .int .i64 x3, .int .i64 x4, .int .u64 (x5 : Int), .int .i64 x6, .int .i64 x7, .int .i64 x8, .int .i64 x9, .slice xa xd.length xc].toArray 26)
  have hs1 : (w.alloc (.cells #[.int .i64 x1, .int .i64 x2, .int .i64 x3, .int .i64 x4, .int .u64 (x5 : Int), .int .i64 x6, .int .i64 x7, .int .i64 x8, .int .i64 x9, .slice xa xd.length xc] 26)).heap.size = w.heap.size + 1 := by simp
  dsimp only [List.toArray] at hB hk1
  generalize w.alloc (.cells #[.int .i64 x1, .int .i64 x2, .int .i64 x3, .int .i64 x4, .int .u64 (x5 : Int), .int .i64 x6, .int .i64 x7, .int .i64 x8, .int .i64 x9, .slice xa xd.length xc] 26) = w1 at *
  have hO := Blk.new w1 [.pointer none, .int .i64 0] 45
  have hk2 := (Kept.refl (fun _ => False) w1).alloc (.cells [.pointer none, .int .i64 0].toArray 45)
  have hB2 := hk2.blk hB (fun f => f)
  dsimp only [List.toArray] at hO hk2 hB2
  rw [hs1] at hO
  generalize w1.alloc (.cells #[.pointer none, .int .i64 0] 45) = w2 at *
  have HK2 := Lib.hid (hk1.trans hk2)
  have hP := HK2.out.blk H.out (fun f => f)
  obtain ⟨rb, hrb⟩ : ∃ rb, w.heap.size = rb := ⟨_, rfl⟩
  rw [hrb] at hB2 hO
  simp only [hrb]
  have HRB := Lib.hid hrb
  have HO := Lib.hid hO
  clear hrb hs1 hk1 hk2 hB hO
  have c0 := hB2.cell (o := 0) rfl
  have c3 := hB2.cell (o := 3) rfl
  have d1 := hP.cell (o := 1) rfl
  clear hB2
  go_upto_region 3 with fail
  have n0 := HO.out.cell (o := 0) rfl
  have n1 := HO.out.cell (o := 1) rfl
  have f0 := HO.out.frozen 0
  have f1 := HO.out.frozen 1
  go_region_with (first | (go_at_call 12; refine (CLI.out _).mono ?_; rintro e w' ⟨rfl, rfl⟩))
  all_goals
    have hO5 := ((HO.out.set 0 (.pointer (some ⟨qf, 0, none⟩))).set 1 (.int .i64 y)).drew
    have HK5 : Hid (Kept (fun _ => False) w ((w2.setCell ⟨rb + 1, 0, none⟩ (.pointer (some ⟨qf, 0, none⟩))).setCell ⟨rb + 1, 1, none⟩ (.int .i64 y)).drew) := Lib.hid (((HK2.out.set (b := rb + 1) (fun h => by have := HRB.out; omega) _ _).set (b := rb + 1) (fun h => by have := HRB.out; omega) _ _).drew)
    have z0 := hO5.cell (o := 0) rfl
    have z1 := hO5.cell (o := 1) rfl
    clear hO5 n0 n1 f0 f1 c0 c3 d1 hP
    go_wp2_with fail
    exact bodyPost_ret (v := lv qf y) (by simp [results, Try.results31, go_sem, z0, z1]) rfl ⟨rfl, HK5.out⟩
end Go.Proofs.Ytiffnlcpemfmoaa.Po
