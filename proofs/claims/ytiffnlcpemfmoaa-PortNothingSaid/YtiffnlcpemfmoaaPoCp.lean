/- An item copied, trimmed. Conditions: each theorem's own. -/
import Derived.Test.YtiffnlcpemfmoaaPqRem
import Derived.Test.YtiffnlcpemfmoaaByt
set_option linter.unusedVariables false
namespace Go.Proofs.Ytiffnlcpemfmoaa.Po
open Go.RowKit Hp QuM QuN Rw Qu
attribute [local go_sem ↓] Go.wp_at_zero Go.wp_at_succ
/-- Bytes that are copied. -/
def CloneP (w : World) (l : List UInt8) (e : Ending) (w' : World) : Prop := ∃ s c, e = .returned (.slice s l.length c) ∧ Byt.Row w' w.heap.size (.slice s l.length c) l ∧ Kept (fun _ => False) w w'
theorem clone_any {w : World} {v : Value} {l : List UInt8} (h : Byt.Src w v l) (hsm : l.length ≤ 900000000) : Calls Try.prog 37 #[v] w (CloneP w l) := by
  have hS := Lib.hid (h.kept ((Kept.refl _ w).alloc (.cells #[] 5)))
  have hR := Lib.hid (Byt.row_new w)
  obtain ⟨s, c, rfl, hc, hs, hn⟩ := h
  cases s with
  | none =>
    obtain rfl := hn rfl
    obtain rfl : l = [] := List.length_eq_zero_iff.1 (by omega)
    have hnil := fun (w : World) => Lib.run_eql_slice_nil (P := Try.prog) w 24 5 none 0 0 0 0 Try.underlying24
    clear hs hn hS hR
    go_enter Try.func37, Try.ntmps37
    go_wp2_with fail
    go_ret
    exact ⟨_, _, rfl, Byt.row_nil _ _, Kept.refl _ w⟩
  | some a =>
    have hnil := fun (w : World) => Lib.run_eql_slice_nil (P := Try.prog) w 24 5 (some a) l.length c 0 0 Try.underlying24
    clear hs hn
    go_enter Try.func37, Try.ntmps37
    go_wp2_with (at_builtin; refine Byt.wpList_app rfl _ _ rfl w.heap.size (v := .slice (some ⟨w.heap.size, 0, none⟩) 0 0) rfl hR.out rfl hS.out (by simp; omega) (by simp) ?_; intro v' w' hA)
    have hrow : Byt.Row w' w.heap.size v' l := by simpa using hA.row
    obtain ⟨s', c', e, _⟩ := hrow.slice
    subst e
    go_ret
    exact ⟨_, _, rfl, hrow, ((Kept.refl (fun _ => False) w).alloc (.cells #[] 5)).trans' hA.kept (fun i hi e => by cases e; exact absurd hi (Nat.lt_irrefl _))⟩
/-- Its data may be read. -/
def Rd (w : World) (x : Bx) : Prop := Byt.Src w (.slice x.s x.f.data.length x.c) x.f.data ∧ x.f.data.length ≤ 1000000
theorem Rd.old {w w' : World} {x : Bx} (h : Rd w x) (k : Kept (fun _ => False) w w') : Rd w' x := ⟨h.1.kept k, h.2⟩
/-- The world with an item set. -/
abbrev set11 (w : World) (g : Nat) (x : Bx) : World := ((((((((((w.setCell ⟨g, 0, none⟩ (.int .i64 x.f.kind)).setCell ⟨g, 1, none⟩ (.int .i64 x.f.src)).setCell ⟨g, 2, none⟩ (.int .i64 x.f.dst)).setCell ⟨g, 3, none⟩ (.int .i64 x.f.prio)).setCell ⟨g, 4, none⟩ (.int .u64 (x.f.msg : Int))).setCell ⟨g, 5, none⟩ (.int .i64 x.f.off)).setCell ⟨g, 6, none⟩ (.int .i64 x.f.len)).setCell ⟨g, 7, none⟩ (.int .i64 x.f.total)).setCell ⟨g, 8, none⟩ (.int .i64 x.f.num)).setCell ⟨g, 9, none⟩ (.slice x.s x.f.data.length x.c)).setCell ⟨g, 10, none⟩ (.int .i64 x.q)
theorem set11_eq (w : World) (g : Nat) (x : Bx) : set11 w g x = setW w g 0 (bT.enc x) := by
  show _ = setW w g 0 [.int .i64 x.f.kind, .int .i64 x.f.src, .int .i64 x.f.dst, .int .i64 x.f.prio, .int .u64 (x.f.msg : Int), .int .i64 x.f.off, .int .i64 x.f.len, .int .i64 x.f.total, .int .i64 x.f.num, .slice x.s x.f.data.length x.c, .int .i64 x.q]
  simp only [setW, Nat.zero_add, Nat.reduceAdd]
theorem set11_blk {w : World} {g : Nat} {T : TypeId} {c : List Value} (h : Blk w g c T) (hc : c.length = 11) (x : Bx) : Blk (set11 w g x) g (bT.enc x) T := by
  rw [set11_eq]; exact set_all h _ hc
theorem set11_kept (w : World) (g : Nat) (x : Bx) : Kept (fun i => i = g) w (set11 w g x) := by
  rw [set11_eq]; exact setW_kept _ w 0
set_option maxRecDepth 100000 in
set_option maxHeartbeats 8000000 in
theorem copied_any {w : World} {x : Bx} (h : Rd w x) : Calls Try.prog 23 #[bv x] w fun e w' =>
    ∃ s c, e = .returned (bv ⟨x.f, s, c, x.q⟩) ∧ Byt.Row w' w.heap.size (.slice s x.f.data.length c) x.f.data ∧ Kept (fun _ => False) w w' := by
  have CL := Lib.hid fun (w' : World) (k : Kept (fun _ => False) w w') => clone_any (h.1.kept k) (Nat.le_trans h.2 (by decide))
  obtain ⟨⟨x1, x2, x3, x4, x5, x6, x7, x8, x9, xd⟩, xa, xc, xq⟩ := x
  clear h
  dsimp only at CL ⊢
  go_enter Try.func23, Try.ntmps23
  go_upto_region 1 with fail
  have hB := Blk.new w [.int .i64 x1, .int .i64 x2, .int .i64 x3, .int .i64 x4, .int .u64 (x5 : Int), .int .i64 x6, .int .i64 x7, .int .i64 x8, .int .i64 x9, .slice xa xd.length xc, .int .i64 xq] 28
  have hk1 := (Kept.refl (fun _ => False) w).alloc (.cells [.int .i64 x1, .int .i64 x2, .int .i64 x3, .int .i64 x4, .int .u64 (x5 : Int), .int .i64 x6, .int .i64 x7, .int .i64 x8, .int .i64 x9, .slice xa xd.length xc, .int .i64 xq].toArray 28)
  have hs1 : (w.alloc (.cells #[.int .i64 x1, .int .i64 x2, .int .i64 x3, .int .i64 x4, .int .u64 (x5 : Int), .int .i64 x6, .int .i64 x7, .int .i64 x8, .int .i64 x9, .slice xa xd.length xc, .int .i64 xq] 28)).heap.size = w.heap.size + 1 := by simp
  dsimp only [List.toArray] at hB hk1
  generalize w.alloc (.cells #[.int .i64 x1, .int .i64 x2, .int .i64 x3, .int .i64 x4, .int .u64 (x5 : Int), .int .i64 x6, .int .i64 x7, .int .i64 x8, .int .i64 x9, .slice xa xd.length xc, .int .i64 xq] 28) = w1 at *
  have hO := Blk.new w1 [.int .i64 0, .int .i64 0, .int .i64 0, .int .i64 0, .int .u64 0, .int .i64 0, .int .i64 0, .int .i64 0, .int .i64 0, .slice none 0 0, .int .i64 0] 28
  have hk2 := (Kept.refl (fun _ => False) w1).alloc (.cells [.int .i64 0, .int .i64 0, .int .i64 0, .int .i64 0, .int .u64 0, .int .i64 0, .int .i64 0, .int .i64 0, .int .i64 0, .slice none 0 0, .int .i64 0].toArray 28)
  have hB2 := hk2.blk hB (fun f => f)
  dsimp only [List.toArray] at hO hk2 hB2
  rw [hs1] at hO
  generalize w1.alloc (.cells #[.int .i64 0, .int .i64 0, .int .i64 0, .int .i64 0, .int .u64 0, .int .i64 0, .int .i64 0, .int .i64 0, .int .i64 0, .slice none 0 0, .int .i64 0] 28) = w2 at *
  have HK2 := Lib.hid (hk1.trans hk2)
  have hlt2 := hO.lt
  have HB2 := Lib.hid hB2
  have HO2 := Lib.hid hO
  obtain ⟨rb, hrb⟩ : ∃ rb, w.heap.size = rb := ⟨_, rfl⟩
  rw [hrb] at HB2 HO2 hlt2
  simp only [hrb]
  have HRB := Lib.hid hrb
  clear hrb hs1 hk1 hk2 hB hB2 hO
  have c9 := HB2.out.cell (o := 9) rfl
  go_wp2_with fail
  with_reducible refine Calls.mono (CL.out _ HK2.out) ?_
  rintro e w3 ⟨s, c, rfl, hR3, hk3⟩
  have hB3 := hk3.blk HB2.out (fun f => f)
  have hO3 := hk3.blk HO2.out (fun f => f)
  have HR3 := Lib.hid hR3
  have HK3 := Lib.hid (HK2.out.trans hk3)
  have HB3 := Lib.hid hB3
  have HO3 := Lib.hid hO3
  clear c9 hR3 hk3 hB3 hO3 HB2 HO2 HK2 CL
  have c9 := HB3.out.cell (o := 9) rfl
  have f9 := HB3.out.frozen 9
  go_upto_region 2 with fail
  have hB4 := HB3.out.set 9 (.slice s xd.length c)
  dsimp only [List.set] at hB4
  have k4 := Kept.one w3 rb 9 (.slice s xd.length c)
  have hO4 := k4.blk HO3.out (by omega)
  generalize w3.setCell ⟨rb, 9, none⟩ (.slice s xd.length c) = w4 at *
  have HR4 : Hid (Byt.Row w4 w2.heap.size (.slice s xd.length c) xd) := Lib.hid (HR3.out.kept k4 (fun g hg e => by have := (HR3.out.lt g hg).1; omega))
  have HK4 : Hid (Kept (fun _ => False) w w4) := Lib.hid (HK3.out.trans' k4 (fun i hi e => by have := HRB.out; omega))
  clear c9 f9 HR3 HK3 HB3 HO3 k4
  have e0 := hB4.cell (o := 0) rfl
  have e1 := hB4.cell (o := 1) rfl
  have e2 := hB4.cell (o := 2) rfl
  have e3 := hB4.cell (o := 3) rfl
  have e4 := hB4.cell (o := 4) rfl
  have e5 := hB4.cell (o := 5) rfl
  have e6 := hB4.cell (o := 6) rfl
  have e7 := hB4.cell (o := 7) rfl
  have e8 := hB4.cell (o := 8) rfl
  have e9 := hB4.cell (o := 9) rfl
  have e10 := hB4.cell (o := 10) rfl
  have n0 := hO4.cell (o := 0) rfl
  have n1 := hO4.cell (o := 1) rfl
  have n2 := hO4.cell (o := 2) rfl
  have n3 := hO4.cell (o := 3) rfl
  have n4 := hO4.cell (o := 4) rfl
  have n5 := hO4.cell (o := 5) rfl
  have n6 := hO4.cell (o := 6) rfl
  have n7 := hO4.cell (o := 7) rfl
  have n8 := hO4.cell (o := 8) rfl
  have n9 := hO4.cell (o := 9) rfl
  have n10 := hO4.cell (o := 10) rfl
  have fz0 := hO4.frozen 0
  have fz1 := hO4.frozen 1
  have fz2 := hO4.frozen 2
  have fz3 := hO4.frozen 3
  have fz4 := hO4.frozen 4
  have fz5 := hO4.frozen 5
  have fz6 := hO4.frozen 6
  have fz7 := hO4.frozen 7
  have fz8 := hO4.frozen 8
  have fz9 := hO4.frozen 9
  have fz10 := hO4.frozen 10
  have hO5 := set11_blk hO4 rfl ⟨⟨x1, x2, x3, x4, x5, x6, x7, x8, x9, xd⟩, s, c, xq⟩
  have k5 := set11_kept w4 (rb + 1) ⟨⟨x1, x2, x3, x4, x5, x6, x7, x8, x9, xd⟩, s, c, xq⟩
  have HR5 : Hid (Byt.Row (set11 w4 (rb + 1) ⟨⟨x1, x2, x3, x4, x5, x6, x7, x8, x9, xd⟩, s, c, xq⟩) w.heap.size (.slice s xd.length c) xd) := Lib.hid ((HR4.out.kept k5 (fun g hg e => by have := (HR4.out.lt g hg).1; omega)).base (fun g hg => by have := (HR4.out.lt g hg).1; have := HRB.out; omega))
  have HK5 : Hid (Kept (fun _ => False) w (set11 w4 (rb + 1) ⟨⟨x1, x2, x3, x4, x5, x6, x7, x8, x9, xd⟩, s, c, xq⟩)) := Lib.hid (HK4.out.trans' k5 (fun i hi e => by have := HRB.out; omega))
  unfold set11 at HR5 HK5 hO5
  dsimp only at HR5 HK5 hO5
  have z0 := hO5.cell (o := 0) rfl
  have z1 := hO5.cell (o := 1) rfl
  have z2 := hO5.cell (o := 2) rfl
  have z3 := hO5.cell (o := 3) rfl
  have z4 := hO5.cell (o := 4) rfl
  have z5 := hO5.cell (o := 5) rfl
  have z6 := hO5.cell (o := 6) rfl
  have z7 := hO5.cell (o := 7) rfl
  have z8 := hO5.cell (o := 8) rfl
  have z9 := hO5.cell (o := 9) rfl
  have z10 := hO5.cell (o := 10) rfl
  clear hB4 hO4 hO5 k5 HR4 HK4
  go_wp2_with fail
  exact bodyPost_ret (v := bv ⟨⟨x1, x2, x3, x4, x5, x6, x7, x8, x9, xd⟩, s, c, xq⟩) (by simp [results, Try.results23, go_sem, z0, z1, z2, z3, z4, z5, z6, z7, z8, z9, z10]) rfl ⟨s, c, rfl, HR5.out, HK5.out⟩
end Go.Proofs.Ytiffnlcpemfmoaa.Po
