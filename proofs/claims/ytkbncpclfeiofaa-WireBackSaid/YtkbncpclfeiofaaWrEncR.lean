/- Frames: the reference's Encode. Conditions: each theorem's own. -/
import Derived.Test.YtkbncpclfeiofaaWrEnc
import Derived.Test.YtkbncpclfeiofaaWr3
set_option linter.unusedVariables false
namespace Go.Proofs.Ytkbncpclfeiofaa.Wr
open Go.RowKit Hp WrM Byt
attribute [local go_sem ↓] Go.wp_at_zero Go.wp_at_succ
/-- A row of bytes that was built. -/
theorem row_built {w : World} {g : Nat} {l : List UInt8} (h : Blk w g (bvs l) 5) (hl : l.length ≤ 1000000) : Byt.Row w g (.slice (some ⟨g, 0, none⟩) l.length l.length) l := by
  unfold Blk at h
  refine ⟨by rw [bvs_len], Or.inr ⟨g, l.length, (bvs l).toArray, rfl, Nat.le_refl _, h, Nat.le_refl _, by unfold maxLen; omega, by simp [bvs], ?_⟩⟩
  have := bvs_len l
  simp only [Nat.mul_one] at this ⊢
  rw [← this, List.take_length]
set_option maxHeartbeats 4000000 in
set_option maxRecDepth 100000 in
theorem encR_no {f : Frm} (h : ¬ Ok f) (s : Option Addr) (c : Nat) (w : World) : Calls Try.prog 11 #[fv f s c] w (Ans w (.tuple #[.slice none 0 0, .int .i64 1])) := by
  have C := Lib.hid fun w => checkR_any f s c w
  rw [chk_no h] at C
  obtain ⟨kind, src, dst, prio, msg, off, len, total, num, data⟩ := f
  unfold fv fcs at *
  dsimp only at *
  clear h
  go_enter Try.func11, Try.ntmps11
  go_upto_region 1 with fail
  have hB : Blk (w.alloc (.cells #[.int .i64 kind, .int .i64 src, .int .i64 dst, .int .i64 prio, .int .u64 (msg : Int), .int .i64 off, .int .i64 len, .int .i64 total, .int .i64 num, .slice s data.length c] 25)) w.heap.size [.int .i64 kind, .int .i64 src, .int .i64 dst, .int .i64 prio, .int .u64 (msg : Int), .int .i64 off, .int .i64 len, .int .i64 total, .int .i64 num, .slice s data.length c] 25 := Blk.new w _ _
  have hk1 : Kept (fun _ => False) w (w.alloc (.cells #[.int .i64 kind, .int .i64 src, .int .i64 dst, .int .i64 prio, .int .u64 (msg : Int), .int .i64 off, .int .i64 len, .int .i64 total, .int .i64 num, .slice s data.length c] 25)) := (Kept.refl _ w).alloc _
  generalize w.alloc (.cells #[.int .i64 kind, .int .i64 src, .int .i64 dst, .int .i64 prio, .int .u64 (msg : Int), .int .i64 off, .int .i64 len, .int .i64 total, .int .i64 num, .slice s data.length c] 25) = w1 at *
  generalize w.heap.size = vb at *
  have e0 := hB.cell (o := 0) rfl
  have e1 := hB.cell (o := 1) rfl
  have e2 := hB.cell (o := 2) rfl
  have e3 := hB.cell (o := 3) rfl
  have e4 := hB.cell (o := 4) rfl
  have e5 := hB.cell (o := 5) rfl
  have e6 := hB.cell (o := 6) rfl
  have e7 := hB.cell (o := 7) rfl
  have e8 := hB.cell (o := 8) rfl
  have e9 := hB.cell (o := 9) rfl
  clear hB
  go_wp2_with (go_at_call 13; (with_reducible refine Calls.mono (C.out _) ?_); rintro e w2 ⟨rfl, k2⟩)
  go_ret2
  exact ⟨rfl, hk1.trans k2⟩
set_option maxHeartbeats 8000000 in
set_option maxRecDepth 100000 in
theorem encR_yes {f : Frm} (h : Ok f) {s : Option Addr} {c : Nat} {w : World} (hD : Byt.Src w (.slice s f.data.length c) f.data) :
    Calls Try.prog 11 #[fv f s c] w fun e w' => ∃ v, e = .returned (.tuple #[v, .int .i64 0]) ∧ Byt.Row w' w.heap.size v (enc f) ∧ Kept (fun _ => False) w w' := by
  have C := Lib.hid fun w => checkR_any f s c w
  rw [chk_yes h] at C
  have hdata : f.data.length ≤ 1500 := by
    have h1 := h.1
    have := h.2.2
    unfold Dat at this
    unfold Fit at h1
    split at this <;> omega
  have hen : enc f = hd f (sm f) ++ f.data := rfl
  have hsm : sm f = UInt8.ofNat (sumTo (hd f 0) 26) := rfl
  have hhd (x : UInt8) : (hd f 0).set 3 x = hd f x := hd_set f 0 x
  have hh0 : hd f 0 = ((((([UInt8.ofNat f.kind.toNat, UInt8.ofNat (f.src * 16 + f.dst).toNat, UInt8.ofNat f.prio.toNat, UInt8.ofNat 0] ++ be f.msg 8) ++ be f.off.toNat 4) ++ be f.total.toNat 4) ++ be f.len.toNat 2) ++ be f.num.toNat 4) := by
    simp [hd, be]
  have hF := h.1
  obtain ⟨kind, src, dst, prio, msg, off, len, total, num, data⟩ := f
  obtain ⟨⟨k1, k2⟩, ⟨s1, s2⟩, ⟨d1, d2⟩, ⟨p1, p2⟩, m2, ⟨o1, o2⟩, ⟨t1, t2⟩, ⟨l1, l2⟩, ⟨n1, n2⟩⟩ := hF
  dsimp only at *
  obtain ⟨kind, rfl⟩ : ∃ x : Nat, kind = x := ⟨kind.toNat, by omega⟩
  obtain ⟨src, rfl⟩ : ∃ x : Nat, src = x := ⟨src.toNat, by omega⟩
  obtain ⟨dst, rfl⟩ : ∃ x : Nat, dst = x := ⟨dst.toNat, by omega⟩
  obtain ⟨prio, rfl⟩ : ∃ x : Nat, prio = x := ⟨prio.toNat, by omega⟩
  obtain ⟨off, rfl⟩ : ∃ x : Nat, off = x := ⟨off.toNat, by omega⟩
  obtain ⟨len, rfl⟩ : ∃ x : Nat, len = x := ⟨len.toNat, by omega⟩
  obtain ⟨total, rfl⟩ : ∃ x : Nat, total = x := ⟨total.toNat, by omega⟩
  obtain ⟨num, rfl⟩ : ∃ x : Nat, num = x := ⟨num.toNat, by omega⟩
  have hsd : ((src : Int) * 16 + (dst : Int)).toNat = src * 16 + dst := by omega
  rw [hsd] at hh0
  simp only [Int.toNat_natCast] at hh0
  rw [hen, hsm, ← hhd]
  have HH := Lib.hid hh0
  have HL := Lib.hid (hd_len (⟨kind, src, dst, prio, msg, off, len, total, num, data⟩ : Frm) 0)
  generalize hd (⟨kind, src, dst, prio, msg, off, len, total, num, data⟩ : Frm) 0 = H0 at *
  unfold fv fcs at *
  dsimp only at *
  have HD := Lib.hid hD
  have HDL := Lib.hid hdata
  clear h hen hsm hhd hh0 hsd hD hdata
  have b0 : (kind : Int) = ((UInt8.ofNat kind).toNat : Int) := by rw [UInt8.toNat_ofNat']; omega
  have b1 : (src : Int) * 16 + (dst : Int) = ((UInt8.ofNat (src * 16 + dst)).toNat : Int) := by rw [UInt8.toNat_ofNat']; omega
  have b2 : (prio : Int) = ((UInt8.ofNat prio).toNat : Int) := by rw [UInt8.toNat_ofNat']; omega
  have esd : IntKind.i64.wrap ((src : Int) * 16) = (src : Int) * 16 := by rw [IntKind.wrap_i64]; omega
  have HB0 := Lib.hid b0
  have HB1 := Lib.hid b1
  have HB2 := Lib.hid b2
  clear b0 b1 b2
  go_enter Try.func11, Try.ntmps11
  go_upto_region 1 with fail
  have hB : Blk (w.alloc (.cells #[.int .i64 kind, .int .i64 src, .int .i64 dst, .int .i64 prio, .int .u64 (msg : Int), .int .i64 off, .int .i64 len, .int .i64 total, .int .i64 num, .slice s data.length c] 25)) w.heap.size [.int .i64 kind, .int .i64 src, .int .i64 dst, .int .i64 prio, .int .u64 (msg : Int), .int .i64 off, .int .i64 len, .int .i64 total, .int .i64 num, .slice s data.length c] 25 := Blk.new w _ _
  have hk1 : Kept (fun _ => False) w (w.alloc (.cells #[.int .i64 kind, .int .i64 src, .int .i64 dst, .int .i64 prio, .int .u64 (msg : Int), .int .i64 off, .int .i64 len, .int .i64 total, .int .i64 num, .slice s data.length c] 25)) := (Kept.refl _ w).alloc _
  have hsz : (w.alloc (.cells #[.int .i64 kind, .int .i64 src, .int .i64 dst, .int .i64 prio, .int .u64 (msg : Int), .int .i64 off, .int .i64 len, .int .i64 total, .int .i64 num, .slice s data.length c] 25)).heap.size = w.heap.size + 1 := by simp
  generalize w.alloc (.cells #[.int .i64 kind, .int .i64 src, .int .i64 dst, .int .i64 prio, .int .u64 (msg : Int), .int .i64 off, .int .i64 len, .int .i64 total, .int .i64 num, .slice s data.length c] 25) = w1 at *
  generalize hfb : w.heap.size = fb at *
  have e0 := hB.cell (o := 0) rfl
  have e1 := hB.cell (o := 1) rfl
  have e2 := hB.cell (o := 2) rfl
  have e3 := hB.cell (o := 3) rfl
  have e4 := hB.cell (o := 4) rfl
  have e5 := hB.cell (o := 5) rfl
  have e6 := hB.cell (o := 6) rfl
  have e7 := hB.cell (o := 7) rfl
  have e8 := hB.cell (o := 8) rfl
  have e9 := hB.cell (o := 9) rfl
  have HB := Lib.hid hB
  have HK := Lib.hid hk1
  have HSZ := Lib.hid hsz
  have HFB := Lib.hid hfb
  clear hB hk1 hsz hfb
  go_upto_region 4 with (go_at_call 13; (with_reducible refine Calls.mono (C.out _) ?_); rintro e w2 ⟨rfl, k2⟩)
  have hB2 := k2.blk HB.out (fun f => f)
  have hK2 := HK.out.trans k2
  have hS2 : fb + 1 ≤ w2.heap.size := by have := k2.size; have := HSZ.out; omega
  have HB := Lib.hid hB2
  have HK := Lib.hid hK2
  have HS := Lib.hid hS2
  clear e0 e1 e2 e3 e4 e5 e6 e7 e8 e9 k2 hK2 hS2 C
  have e0 := hB2.cell (o := 0) rfl
  have e1 := hB2.cell (o := 1) rfl
  have e2 := hB2.cell (o := 2) rfl
  have e3 := hB2.cell (o := 3) rfl
  have e4 := hB2.cell (o := 4) rfl
  have e5 := hB2.cell (o := 5) rfl
  have e6 := hB2.cell (o := 6) rfl
  have e7 := hB2.cell (o := 7) rfl
  have e8 := hB2.cell (o := 8) rfl
  have e9 := hB2.cell (o := 9) rfl
  clear hB2
  go_upto_region 5 with fail
  clear e0 e1 e2 e3 e4 e5 e6 e7 e8 e9 esd
  have hR0 : Byt.Row (w2.alloc (.cells #[.int .u8 (kind : Int), .int .u8 ((src : Int) * 16 + (dst : Int)), .int .u8 (prio : Int), .int .u8 0] 5)) w2.heap.size (.slice (some ⟨w2.heap.size, 0, none⟩) 4 4) [UInt8.ofNat kind, UInt8.ofNat (src * 16 + dst), UInt8.ofNat prio, UInt8.ofNat 0] := by
    have hb := Blk.new w2 (bvs [UInt8.ofNat kind, UInt8.ofNat (src * 16 + dst), UInt8.ofNat prio, UInt8.ofNat 0]) 5
    have := row_built hb (by simp)
    have ev : bvs [UInt8.ofNat kind, UInt8.ofNat (src * 16 + dst), UInt8.ofNat prio, UInt8.ofNat 0] = [.int .u8 (kind : Int), .int .u8 ((src : Int) * 16 + (dst : Int)), .int .u8 (prio : Int), .int .u8 0] := by
      rw [HB0.out, HB1.out, HB2.out]
      rfl
    rw [ev] at this
    exact this
  have k4 : Kept (fun _ => False) w2 (w2.alloc (.cells #[.int .u8 (kind : Int), .int .u8 ((src : Int) * 16 + (dst : Int)), .int .u8 (prio : Int), .int .u8 0] 5)) := (Kept.refl _ w2).alloc _
  generalize w2.alloc (.cells #[.int .u8 (kind : Int), .int .u8 ((src : Int) * 16 + (dst : Int)), .int .u8 (prio : Int), .int .u8 0] 5) = w4 at *
  have hR : Byt.Row w4 (fb + 1) (.slice (some ⟨w2.heap.size, 0, none⟩) 4 4) [UInt8.ofNat kind, UInt8.ofNat (src * 16 + dst), UInt8.ofNat prio, UInt8.ofNat 0] := hR0.base (fun g hg => by have e : some w2.heap.size = some g := hg; cases e; exact HS.out)
  have hB4 := k4.blk HB.out (fun f => f)
  have hK4 := HK.out.trans k4
  have hS4 : fb + 1 ≤ w4.heap.size := Nat.le_trans HS.out k4.size
  generalize w2.heap.size = rb at *
  have HB := Lib.hid (hB4.drew)
  have HK := Lib.hid hK4.drew
  have HS : Hid (fb + 1 ≤ w4.drew.heap.size) := Lib.hid hS4
  have hR' : Byt.Row w4.drew (fb + 1) (.slice (some ⟨rb, 0, none⟩) 4 4) [UInt8.ofNat kind, UInt8.ofNat (src * 16 + dst), UInt8.ofNat prio, UInt8.ofNat 0] := hR
  have HR := Lib.hid hR'
  have HN : Hid (([UInt8.ofNat kind, UInt8.ofNat (src * 16 + dst), UInt8.ofNat prio, UInt8.ofNat 0] : List UInt8).length = 4) := Lib.hid rfl
  have KS := Lib.hid fun (w' : World) (hx : Blk w' fb [.int .i64 kind, .int .i64 src, .int .i64 dst, .int .i64 prio, .int .u64 (msg : Int), .int .i64 off, .int .i64 len, .int .i64 total, .int .i64 num, .slice s data.length c] 25) => (show w'.cell? ⟨fb, 0, none⟩ = some (.int .i64 kind) ∧ w'.cell? ⟨fb, 1, none⟩ = some (.int .i64 src) ∧ w'.cell? ⟨fb, 2, none⟩ = some (.int .i64 dst) ∧ w'.cell? ⟨fb, 3, none⟩ = some (.int .i64 prio) ∧ w'.cell? ⟨fb, 4, none⟩ = some (.int .u64 (msg : Int)) ∧ w'.cell? ⟨fb, 5, none⟩ = some (.int .i64 off) ∧ w'.cell? ⟨fb, 6, none⟩ = some (.int .i64 len) ∧ w'.cell? ⟨fb, 7, none⟩ = some (.int .i64 total) ∧ w'.cell? ⟨fb, 8, none⟩ = some (.int .i64 num) ∧ w'.cell? ⟨fb, 9, none⟩ = some (.slice s data.length c) from ⟨hx.cell (o := 0) rfl, ⟨hx.cell (o := 1) rfl, ⟨hx.cell (o := 2) rfl, ⟨hx.cell (o := 3) rfl, ⟨hx.cell (o := 4) rfl, ⟨hx.cell (o := 5) rfl, ⟨hx.cell (o := 6) rfl, ⟨hx.cell (o := 7) rfl, ⟨hx.cell (o := 8) rfl, hx.cell (o := 9) rfl⟩⟩⟩⟩⟩⟩⟩⟩⟩)
  clear hR0 hR hR' k4 hK4 hS4 hB4
  refine wp_region_held_drew (S := fun w' => w'.cell? ⟨fb, 0, none⟩ = some (.int .i64 kind) ∧ w'.cell? ⟨fb, 1, none⟩ = some (.int .i64 src) ∧ w'.cell? ⟨fb, 2, none⟩ = some (.int .i64 dst) ∧ w'.cell? ⟨fb, 3, none⟩ = some (.int .i64 prio) ∧ w'.cell? ⟨fb, 4, none⟩ = some (.int .u64 (msg : Int)) ∧ w'.cell? ⟨fb, 5, none⟩ = some (.int .i64 off) ∧ w'.cell? ⟨fb, 6, none⟩ = some (.int .i64 len) ∧ w'.cell? ⟨fb, 7, none⟩ = some (.int .i64 total) ∧ w'.cell? ⟨fb, 8, none⟩ = some (.int .i64 num) ∧ w'.cell? ⟨fb, 9, none⟩ = some (.slice s data.length c)) (by kernel_rfl) (KS.out _ HB.out) (fun hHeld => ?_)
  refine wpAnyH_take (i := 0) (oi := { dst := some 25, op := Go.Op.move (Go.Operand.tmp 5), type := 23, pos := "base.go:530", after := #[], guard := none }) (v := ?_) rfl (by kernel_rfl) (by kernel_rfl) (by kernel_rfl) (fun _ _ _ h => h) (Or.inl ⟨by rfl, ?_⟩) (by assumption) ?_
  rotate_left 1
  focus (intro w hSw; (try dsimp only at hSw); go_simp; try with_reducible rfl)
  try simp only [Act.put, List.setIfInBounds_toArray, List.set_cons_zero, List.set_cons_succ]
  refine wpAnyH_take (i := 1) (oi := { dst := some 26, op := Go.Op.fieldAddr 25 (Go.Operand.tmp 1) 4, type := 0, pos := "base.go:530", after := #[], guard := none }) (v := ?_) rfl (by kernel_rfl) (by kernel_rfl) (by kernel_rfl) (fun _ _ _ h => h) (Or.inl ⟨by rfl, ?_⟩) (by assumption) ?_
  rotate_left 1
  focus (intro w hSw; (try dsimp only at hSw); go_simp; try with_reducible rfl)
  try simp only [Act.put, List.setIfInBounds_toArray, List.set_cons_zero, List.set_cons_succ]
  refine wpAnyH_take (i := 2) (oi := { dst := some 27, op := Go.Op.load 22 (Go.Operand.tmp 26), type := 22, pos := "base.go:530", after := #[{ on := 1, ground := Go.Ground.data }], guard := none }) (v := ?_) rfl (by kernel_rfl) (by kernel_rfl) (by kernel_rfl) (fun _ _ _ h => h) (Or.inl ⟨by rfl, ?_⟩) (by assumption) ?_
  rotate_left 1
  focus (intro w hSw; (try dsimp only at hSw); go_simp; try with_reducible rfl)
  try simp only [Act.put, List.setIfInBounds_toArray, List.set_cons_zero, List.set_cons_succ]
  refine wpAnyH_take (i := 4) (oi := { dst := some 29, op := Go.Op.fieldAddr 25 (Go.Operand.tmp 1) 5, type := 0, pos := "base.go:530", after := #[], guard := none }) (v := ?_) rfl (by kernel_rfl) (by kernel_rfl) (by kernel_rfl) (fun _ _ _ h => h) (Or.inl ⟨by rfl, ?_⟩) (by assumption) ?_
  rotate_left 1
  focus (intro w hSw; (try dsimp only at hSw); go_simp; try with_reducible rfl)
  try simp only [Act.put, List.setIfInBounds_toArray, List.set_cons_zero, List.set_cons_succ]
  refine wpAnyH_take (i := 5) (oi := { dst := some 30, op := Go.Op.load 3 (Go.Operand.tmp 29), type := 3, pos := "base.go:530", after := #[{ on := 4, ground := Go.Ground.data }], guard := none }) (v := ?_) rfl (by kernel_rfl) (by kernel_rfl) (by kernel_rfl) (fun _ _ _ h => h) (Or.inl ⟨by rfl, ?_⟩) (by assumption) ?_
  rotate_left 1
  focus (intro w hSw; (try dsimp only at hSw); go_simp; try with_reducible rfl)
  try simp only [Act.put, List.setIfInBounds_toArray, List.set_cons_zero, List.set_cons_succ]
  refine wpAnyH_take (i := 6) (oi := { dst := some 31, op := Go.Op.convert 3 22 (Go.Operand.tmp 30), type := 22, pos := "base.go:530", after := #[{ on := 5, ground := Go.Ground.data }], guard := none }) (v := ?_) rfl (by kernel_rfl) (by kernel_rfl) (by kernel_rfl) (fun _ _ _ h => h) (Or.inl ⟨by rfl, ?_⟩) (by assumption) ?_
  rotate_left 1
  focus (intro w hSw; (try dsimp only at hSw); go_simp; try with_reducible rfl)
  try simp only [Act.put, List.setIfInBounds_toArray, List.set_cons_zero, List.set_cons_succ]
  refine wpAnyH_take (i := 8) (oi := { dst := some 33, op := Go.Op.fieldAddr 25 (Go.Operand.tmp 1) 7, type := 0, pos := "base.go:530", after := #[], guard := none }) (v := ?_) rfl (by kernel_rfl) (by kernel_rfl) (by kernel_rfl) (fun _ _ _ h => h) (Or.inl ⟨by rfl, ?_⟩) (by assumption) ?_
  rotate_left 1
  focus (intro w hSw; (try dsimp only at hSw); go_simp; try with_reducible rfl)
  try simp only [Act.put, List.setIfInBounds_toArray, List.set_cons_zero, List.set_cons_succ]
  refine wpAnyH_take (i := 9) (oi := { dst := some 34, op := Go.Op.load 3 (Go.Operand.tmp 33), type := 3, pos := "base.go:530", after := #[{ on := 8, ground := Go.Ground.data }], guard := none }) (v := ?_) rfl (by kernel_rfl) (by kernel_rfl) (by kernel_rfl) (fun _ _ _ h => h) (Or.inl ⟨by rfl, ?_⟩) (by assumption) ?_
  rotate_left 1
  focus (intro w hSw; (try dsimp only at hSw); go_simp; try with_reducible rfl)
  try simp only [Act.put, List.setIfInBounds_toArray, List.set_cons_zero, List.set_cons_succ]
  refine wpAnyH_take (i := 10) (oi := { dst := some 35, op := Go.Op.convert 3 22 (Go.Operand.tmp 34), type := 22, pos := "base.go:530", after := #[{ on := 9, ground := Go.Ground.data }], guard := none }) (v := ?_) rfl (by kernel_rfl) (by kernel_rfl) (by kernel_rfl) (fun _ _ _ h => h) (Or.inl ⟨by rfl, ?_⟩) (by assumption) ?_
  rotate_left 1
  focus (intro w hSw; (try dsimp only at hSw); go_simp; try with_reducible rfl)
  try simp only [Act.put, List.setIfInBounds_toArray, List.set_cons_zero, List.set_cons_succ]
  refine wpAnyH_take (i := 12) (oi := { dst := some 37, op := Go.Op.fieldAddr 25 (Go.Operand.tmp 1) 6, type := 0, pos := "base.go:530", after := #[], guard := none }) (v := ?_) rfl (by kernel_rfl) (by kernel_rfl) (by kernel_rfl) (fun _ _ _ h => h) (Or.inl ⟨by rfl, ?_⟩) (by assumption) ?_
  rotate_left 1
  focus (intro w hSw; (try dsimp only at hSw); go_simp; try with_reducible rfl)
  try simp only [Act.put, List.setIfInBounds_toArray, List.set_cons_zero, List.set_cons_succ]
  refine wpAnyH_take (i := 13) (oi := { dst := some 38, op := Go.Op.load 3 (Go.Operand.tmp 37), type := 3, pos := "base.go:530", after := #[{ on := 12, ground := Go.Ground.data }], guard := none }) (v := ?_) rfl (by kernel_rfl) (by kernel_rfl) (by kernel_rfl) (fun _ _ _ h => h) (Or.inl ⟨by rfl, ?_⟩) (by assumption) ?_
  rotate_left 1
  focus (intro w hSw; (try dsimp only at hSw); go_simp; try with_reducible rfl)
  try simp only [Act.put, List.setIfInBounds_toArray, List.set_cons_zero, List.set_cons_succ]
  refine wpAnyH_take (i := 14) (oi := { dst := some 39, op := Go.Op.convert 3 22 (Go.Operand.tmp 38), type := 22, pos := "base.go:530", after := #[{ on := 13, ground := Go.Ground.data }], guard := none }) (v := ?_) rfl (by kernel_rfl) (by kernel_rfl) (by kernel_rfl) (fun _ _ _ h => h) (Or.inl ⟨by rfl, ?_⟩) (by assumption) ?_
  rotate_left 1
  focus (intro w hSw; (try dsimp only at hSw); go_simp; try with_reducible rfl)
  try simp only [Act.put, List.setIfInBounds_toArray, List.set_cons_zero, List.set_cons_succ]
  refine wpAnyH_take (i := 16) (oi := { dst := some 41, op := Go.Op.fieldAddr 25 (Go.Operand.tmp 1) 8, type := 0, pos := "base.go:530", after := #[], guard := none }) (v := ?_) rfl (by kernel_rfl) (by kernel_rfl) (by kernel_rfl) (fun _ _ _ h => h) (Or.inl ⟨by rfl, ?_⟩) (by assumption) ?_
  rotate_left 1
  focus (intro w hSw; (try dsimp only at hSw); go_simp; try with_reducible rfl)
  try simp only [Act.put, List.setIfInBounds_toArray, List.set_cons_zero, List.set_cons_succ]
  refine wpAnyH_take (i := 17) (oi := { dst := some 42, op := Go.Op.load 3 (Go.Operand.tmp 41), type := 3, pos := "base.go:530", after := #[{ on := 16, ground := Go.Ground.data }], guard := none }) (v := ?_) rfl (by kernel_rfl) (by kernel_rfl) (by kernel_rfl) (fun _ _ _ h => h) (Or.inl ⟨by rfl, ?_⟩) (by assumption) ?_
  rotate_left 1
  focus (intro w hSw; (try dsimp only at hSw); go_simp; try with_reducible rfl)
  try simp only [Act.put, List.setIfInBounds_toArray, List.set_cons_zero, List.set_cons_succ]
  refine wpAnyH_take (i := 18) (oi := { dst := some 43, op := Go.Op.convert 3 22 (Go.Operand.tmp 42), type := 22, pos := "base.go:530", after := #[{ on := 17, ground := Go.Ground.data }], guard := none }) (v := ?_) rfl (by kernel_rfl) (by kernel_rfl) (by kernel_rfl) (fun _ _ _ h => h) (Or.inl ⟨by rfl, ?_⟩) (by assumption) ?_
  rotate_left 1
  focus (intro w hSw; (try dsimp only at hSw); go_simp; try with_reducible rfl)
  try simp only [Act.put, List.setIfInBounds_toArray, List.set_cons_zero, List.set_cons_succ]
  have P1 := Lib.hid (putR_any HR.out HS.out msg 8 (by omega) (by omega) (by have := HN.out; omega))
  unfold PutP at P1
  obtain ⟨L1, hL1⟩ : ∃ L', L' = [UInt8.ofNat kind, UInt8.ofNat (src * 16 + dst), UInt8.ofNat prio, UInt8.ofNat 0] ++ be msg 8 := ⟨_, rfl⟩
  rw [← hL1] at P1
  have hN1 : L1.length = 12 := by have := HN.out; rw [hL1, List.length_append, be_len]; omega
  have G1 := Lib.hid hL1
  have HN := Lib.hid hN1
  clear hL1 hN1
  refine wpAnyH_ready (rs := [3]) (by kernel_rfl) (by simp) ?_
  refine AllReadyH.cons (o := { dst := some 28, op := Go.Op.call { callee := Go.Callee.value (Go.Operand.func 26), args := #[Go.Operand.tmp 25, Go.Operand.tmp 27, Go.Operand.const (Go.Value.int Go.IntKind.i64 8)], argTypes := #[23, 22, 3] }, type := 23, pos := "base.go:530", after := #[{ on := 0, ground := Go.Ground.data }, { on := 2, ground := Go.Ground.data }], guard := none }) rfl (fun K hK => ?_) AllReadyH.nil
  go_simp
  with_reducible refine Calls.mono P1.out ?_
  rintro e x1 ⟨v1, rfl, hA1⟩
  have hB1 := hA1.kept.blk HB.out (fun e => by have := (HR.out.lt _ e).1; omega)
  have hK1 := HK.out.trans' hA1.kept (fun i hi e => by have := (HR.out.lt _ e).1; have := HFB.out; omega)
  have hS1 : fb + 1 ≤ x1.heap.size := Nat.le_trans HS.out hA1.kept.size
  have hR1 := hA1.row
  have HB := Lib.hid hB1
  have HK := Lib.hid hK1
  have HS := Lib.hid hS1
  have HR := Lib.hid hR1
  obtain ⟨s1, c1, rfl, _⟩ := hR1.slice
  clear hA1 hK1 hS1 hR1 P1 hB1
  refine hK.out _ _ (KS.out _ HB.out) (fun hHeld => ?_)
  clear hK K
  try simp only [Act.put, List.setIfInBounds_toArray, List.set_cons_zero, List.set_cons_succ]
  have P2 := Lib.hid (putR_any HR.out HS.out off 4 (by omega) (by omega) (by have := HN.out; omega))
  unfold PutP at P2
  obtain ⟨L2, hL2⟩ : ∃ L', L' = L1 ++ be off 4 := ⟨_, rfl⟩
  rw [← hL2] at P2
  rw [← (show IntKind.u64.wrap (off : Int) = (off : Int) by rw [IntKind.wrap_u64]; omega)] at P2
  have hN2 : L2.length = 16 := by have := HN.out; rw [hL2, List.length_append, be_len]; omega
  have G2 := Lib.hid hL2
  have HN := Lib.hid hN2
  clear hL2 hN2
  refine wpAnyH_ready (rs := [7]) (by kernel_rfl) (by simp) ?_
  refine AllReadyH.cons (o := { dst := some 32, op := Go.Op.call { callee := Go.Callee.value (Go.Operand.func 26), args := #[Go.Operand.tmp 28, Go.Operand.tmp 31, Go.Operand.const (Go.Value.int Go.IntKind.i64 4)], argTypes := #[23, 22, 3] }, type := 23, pos := "base.go:530", after := #[{ on := 3, ground := Go.Ground.data }, { on := 6, ground := Go.Ground.data }, { on := 3, ground := Go.Ground.chain }], guard := none }) rfl (fun K hK => ?_) AllReadyH.nil
  go_simp
  with_reducible refine Calls.mono P2.out ?_
  rintro e x2 ⟨v2, rfl, hA2⟩
  have hB2 := hA2.kept.blk HB.out (fun e => by have := (HR.out.lt _ e).1; omega)
  have hK2 := HK.out.trans' hA2.kept (fun i hi e => by have := (HR.out.lt _ e).1; have := HFB.out; omega)
  have hS2 : fb + 1 ≤ x2.heap.size := Nat.le_trans HS.out hA2.kept.size
  have hR2 := hA2.row
  have HB := Lib.hid hB2
  have HK := Lib.hid hK2
  have HS := Lib.hid hS2
  have HR := Lib.hid hR2
  obtain ⟨s2, c2, rfl, _⟩ := hR2.slice
  clear hA2 hK2 hS2 hR2 P2 hB2
  refine hK.out _ _ (KS.out _ HB.out) (fun hHeld => ?_)
  clear hK K
  try simp only [Act.put, List.setIfInBounds_toArray, List.set_cons_zero, List.set_cons_succ]
  have P3 := Lib.hid (putR_any HR.out HS.out total 4 (by omega) (by omega) (by have := HN.out; omega))
  unfold PutP at P3
  obtain ⟨L3, hL3⟩ : ∃ L', L' = L2 ++ be total 4 := ⟨_, rfl⟩
  rw [← hL3] at P3
  rw [← (show IntKind.u64.wrap (total : Int) = (total : Int) by rw [IntKind.wrap_u64]; omega)] at P3
  have hN3 : L3.length = 20 := by have := HN.out; rw [hL3, List.length_append, be_len]; omega
  have G3 := Lib.hid hL3
  have HN := Lib.hid hN3
  clear hL3 hN3
  refine wpAnyH_ready (rs := [11]) (by kernel_rfl) (by simp) ?_
  refine AllReadyH.cons (o := { dst := some 36, op := Go.Op.call { callee := Go.Callee.value (Go.Operand.func 26), args := #[Go.Operand.tmp 32, Go.Operand.tmp 35, Go.Operand.const (Go.Value.int Go.IntKind.i64 4)], argTypes := #[23, 22, 3] }, type := 23, pos := "base.go:530", after := #[{ on := 7, ground := Go.Ground.data }, { on := 10, ground := Go.Ground.data }, { on := 7, ground := Go.Ground.chain }], guard := none }) rfl (fun K hK => ?_) AllReadyH.nil
  go_simp
  with_reducible refine Calls.mono P3.out ?_
  rintro e x3 ⟨v3, rfl, hA3⟩
  have hB3 := hA3.kept.blk HB.out (fun e => by have := (HR.out.lt _ e).1; omega)
  have hK3 := HK.out.trans' hA3.kept (fun i hi e => by have := (HR.out.lt _ e).1; have := HFB.out; omega)
  have hS3 : fb + 1 ≤ x3.heap.size := Nat.le_trans HS.out hA3.kept.size
  have hR3 := hA3.row
  have HB := Lib.hid hB3
  have HK := Lib.hid hK3
  have HS := Lib.hid hS3
  have HR := Lib.hid hR3
  obtain ⟨s3, c3, rfl, _⟩ := hR3.slice
  clear hA3 hK3 hS3 hR3 P3 hB3
  refine hK.out _ _ (KS.out _ HB.out) (fun hHeld => ?_)
  clear hK K
  try simp only [Act.put, List.setIfInBounds_toArray, List.set_cons_zero, List.set_cons_succ]
  have P4 := Lib.hid (putR_any HR.out HS.out len 2 (by omega) (by omega) (by have := HN.out; omega))
  unfold PutP at P4
  obtain ⟨L4, hL4⟩ : ∃ L', L' = L3 ++ be len 2 := ⟨_, rfl⟩
  rw [← hL4] at P4
  rw [← (show IntKind.u64.wrap (len : Int) = (len : Int) by rw [IntKind.wrap_u64]; omega)] at P4
  have hN4 : L4.length = 22 := by have := HN.out; rw [hL4, List.length_append, be_len]; omega
  have G4 := Lib.hid hL4
  have HN := Lib.hid hN4
  clear hL4 hN4
  refine wpAnyH_ready (rs := [15]) (by kernel_rfl) (by simp) ?_
  refine AllReadyH.cons (o := { dst := some 40, op := Go.Op.call { callee := Go.Callee.value (Go.Operand.func 26), args := #[Go.Operand.tmp 36, Go.Operand.tmp 39, Go.Operand.const (Go.Value.int Go.IntKind.i64 2)], argTypes := #[23, 22, 3] }, type := 23, pos := "base.go:530", after := #[{ on := 11, ground := Go.Ground.data }, { on := 14, ground := Go.Ground.data }, { on := 11, ground := Go.Ground.chain }], guard := none }) rfl (fun K hK => ?_) AllReadyH.nil
  go_simp
  with_reducible refine Calls.mono P4.out ?_
  rintro e x4 ⟨v4, rfl, hA4⟩
  have hB4 := hA4.kept.blk HB.out (fun e => by have := (HR.out.lt _ e).1; omega)
  have hK4 := HK.out.trans' hA4.kept (fun i hi e => by have := (HR.out.lt _ e).1; have := HFB.out; omega)
  have hS4 : fb + 1 ≤ x4.heap.size := Nat.le_trans HS.out hA4.kept.size
  have hR4 := hA4.row
  have HB := Lib.hid hB4
  have HK := Lib.hid hK4
  have HS := Lib.hid hS4
  have HR := Lib.hid hR4
  obtain ⟨s4, c4, rfl, _⟩ := hR4.slice
  clear hA4 hK4 hS4 hR4 P4 hB4
  refine hK.out _ _ (KS.out _ HB.out) (fun hHeld => ?_)
  clear hK K
  try simp only [Act.put, List.setIfInBounds_toArray, List.set_cons_zero, List.set_cons_succ]
  have P5 := Lib.hid (putR_any HR.out HS.out num 4 (by omega) (by omega) (by have := HN.out; omega))
  unfold PutP at P5
  obtain ⟨L5, hL5⟩ : ∃ L', L' = L4 ++ be num 4 := ⟨_, rfl⟩
  rw [← hL5] at P5
  rw [← (show IntKind.u64.wrap (num : Int) = (num : Int) by rw [IntKind.wrap_u64]; omega)] at P5
  have hN5 : L5.length = 26 := by have := HN.out; rw [hL5, List.length_append, be_len]; omega
  have G5 := Lib.hid hL5
  have HN := Lib.hid hN5
  clear hL5 hN5
  refine wpAnyH_ready (rs := [19]) (by kernel_rfl) (by simp) ?_
  refine AllReadyH.cons (o := { dst := some 44, op := Go.Op.call { callee := Go.Callee.value (Go.Operand.func 26), args := #[Go.Operand.tmp 40, Go.Operand.tmp 43, Go.Operand.const (Go.Value.int Go.IntKind.i64 4)], argTypes := #[23, 22, 3] }, type := 23, pos := "base.go:530", after := #[{ on := 15, ground := Go.Ground.data }, { on := 18, ground := Go.Ground.data }, { on := 15, ground := Go.Ground.chain }], guard := none }) rfl (fun K hK => ?_) AllReadyH.nil
  go_simp
  with_reducible refine Calls.mono P5.out ?_
  rintro e x5 ⟨v5, rfl, hA5⟩
  have hB5 := hA5.kept.blk HB.out (fun e => by have := (HR.out.lt _ e).1; omega)
  have hK5 := HK.out.trans' hA5.kept (fun i hi e => by have := (HR.out.lt _ e).1; have := HFB.out; omega)
  have hS5 : fb + 1 ≤ x5.heap.size := Nat.le_trans HS.out hA5.kept.size
  have hR5 := hA5.row
  have HB := Lib.hid hB5
  have HK := Lib.hid hK5
  have HS := Lib.hid hS5
  have HR := Lib.hid hR5
  obtain ⟨s5, c5, rfl, _⟩ := hR5.slice
  clear hA5 hK5 hS5 hR5 P5 hB5
  refine hK.out _ _ (KS.out _ HB.out) (fun hHeld => ?_)
  clear hK K
  try simp only [Act.put, List.setIfInBounds_toArray, List.set_cons_zero, List.set_cons_succ]
  refine wpAnyH_take (i := 20) (oi := { dst := some 5, op := Go.Op.assign (Go.Operand.tmp 44), type := 23, pos := "base.go:530", after := #[{ on := 19, ground := Go.Ground.data }, { on := 19, ground := Go.Ground.chain }, { on := 0, ground := Go.Ground.phase }, { on := 1, ground := Go.Ground.phase }, { on := 2, ground := Go.Ground.phase }, { on := 3, ground := Go.Ground.phase }, { on := 4, ground := Go.Ground.phase }, { on := 5, ground := Go.Ground.phase }, { on := 6, ground := Go.Ground.phase }, { on := 7, ground := Go.Ground.phase }, { on := 8, ground := Go.Ground.phase }, { on := 9, ground := Go.Ground.phase }, { on := 10, ground := Go.Ground.phase }, { on := 11, ground := Go.Ground.phase }, { on := 12, ground := Go.Ground.phase }, { on := 13, ground := Go.Ground.phase }, { on := 14, ground := Go.Ground.phase }, { on := 15, ground := Go.Ground.phase }, { on := 16, ground := Go.Ground.phase }, { on := 17, ground := Go.Ground.phase }, { on := 18, ground := Go.Ground.phase }, { on := 19, ground := Go.Ground.phase }], guard := none }) (v := ?_) rfl (by kernel_rfl) (by kernel_rfl) (by kernel_rfl) (fun _ _ _ h => h) (Or.inl ⟨by rfl, ?_⟩) (by assumption) ?_
  rotate_left 1
  focus (intro w hSw; (try dsimp only at hSw); go_simp; try with_reducible rfl)
  try simp only [Act.put, List.setIfInBounds_toArray, List.set_cons_zero, List.set_cons_succ]
  refine wpAnyH_done (by kernel_rfl) ?_ _
  have hH : H0 = L5 := by rw [HH.out, G5.out, G4.out, G3.out, G2.out, G1.out]
  subst hH
  clear HH G1 G2 G3 G4 G5
  have hR9 := HR.out
  have hlen := HN.out
  rcases hR9.form with ⟨_, e⟩ | ⟨g, cap, _, e, hg, _⟩
  · rw [e] at hlen; simp at hlen
  cases e
  have hS := sumR_any hR9.src (by omega) (by omega)
  obtain ⟨y, hyd⟩ : ∃ y, y = UInt8.ofNat (sumTo H0 26) := ⟨_, rfl⟩
  obtain ⟨hset, ⟨uu, hcell⟩, hfz⟩ := row_set3 (y := y) hR9 (by omega)
  have hy : ((sumTo H0 26 : Nat) : Int) = (y.toNat : Int) := by
    have := sumTo_lt H0 26
    rw [hyd, UInt8.toNat_ofNat']
    omega
  rw [hlen] at hset
  rw [hlen] at hS
  rw [hlen]
  unfold bv at hset
  rw [hy] at hS
  have HSM := Lib.hid hS
  have HYD := Lib.hid hyd
  have HSET := Lib.hid hset
  clear hHeld
  clear hR9 hS hset hy hlen hyd
  go_wp2_with fail
  with_reducible refine Calls.mono HSM.out ?_
  rintro e y1 ⟨rfl, rfl⟩
  go_upto_region 7 with fail
  have k10 := Kept.one x5 g 3 (.int .u8 (y.toNat : Int))
  have hB10 := HB.out.far (p := g) (by omega) 3 (.int .u8 (y.toNat : Int))
  have hsz : (x5.setCell ⟨g, 3, none⟩ (.int .u8 (y.toNat : Int))).heap.size = x5.heap.size := by simp
  have hSET := HSET.out
  generalize x5.setCell ⟨g, 3, none⟩ (.int .u8 (y.toNat : Int)) = z at *
  have hK10 := HK.out.trans' k10 (fun i hi e => by have := HFB.out; omega)
  have hS10 : fb + 1 ≤ z.heap.size := by have := HS.out; omega
  have hd := HD.out.kept hK10
  have e9 := hB10.cell (o := 9) rfl
  have HK := Lib.hid hK10
  have HS := Lib.hid hS10
  have HX := Lib.hid hd
  have HSET := Lib.hid hSET
  have hll : ((H0.set 3 y).length + data.length) ≤ 1000000000 := by have := HL.out; have := HDL.out; rw [List.length_set]; omega
  have HLL := Lib.hid hll
  have hl26 : (H0.set 3 y).length = 26 := by rw [List.length_set]; exact HL.out
  have HL26 := Lib.hid hl26
  clear k10 hB10 hsz hSET hK10 hS10 hd hll hl26 hcell hfz
  go_wp2_with (at_builtin; (refine Byt.wpList_app rfl _ _ rfl (fb + 1) (v := .slice (some ⟨g, 0, none⟩) 26 c5) rfl HSET.out rfl HX.out HLL.out HS.out ?_); intro v' w12 hA)
  go_ret2
  refine ⟨v', rfl, ?_, HK.out.trans' hA.kept (fun i hi e => ?_)⟩
  · rw [← HYD.out]
    exact hA.row.base (fun q hq => by have := (hA.row.lt q hq).1; have := HFB.out; omega)
  · have e : some g = some i := e
    cases e
    have := HFB.out; omega
theorem encR_any {f : Frm} {s : Option Addr} {c : Nat} {w : World} (hD : Byt.Src w (.slice s f.data.length c) f.data) : Calls Try.prog 11 #[fv f s c] w (EncP w f) := by
  by_cases h : Ok f
  · exact (encR_yes h hD).mono fun e w' he => Or.inr ⟨h, he⟩
  · exact (encR_no h s c w).mono fun e w' he => Or.inl ⟨h, he⟩
end Go.Proofs.Ytkbncpclfeiofaa.Wr
