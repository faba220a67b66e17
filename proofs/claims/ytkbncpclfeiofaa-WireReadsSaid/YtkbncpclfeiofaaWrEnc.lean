/- Frames: Size, Encode. Conditions: each theorem's own. -/
import Derived.Test.YtkbncpclfeiofaaWrPut
import Derived.Test.YtkbncpclfeiofaaWrSum
import Derived.Test.YtkbncpclfeiofaaWr2
import Derived.OwnWalk
set_option linter.unusedVariables false
namespace Go.Proofs.Ytkbncpclfeiofaa.Wr
open Go.RowKit Hp WrM Byt
attribute [local go_sem ↓] Go.wp_at_zero Go.wp_at_succ
set_option maxHeartbeats 4000000 in
set_option maxRecDepth 100000 in
theorem size_any {f : Frm} (h0 : 0 ≤ dl f) (h1 : dl f ≤ 1000000) (s : Option Addr) (c : Nat) (w : World) : Calls Try.prog 14 #[fv f s c] w (Ans w (.int .i64 (26 + dl f))) := by
  obtain ⟨kind, src, dst, prio, msg, off, len, total, num, data⟩ := f
  have D := Lib.hid fun w => dlen_any (f := ⟨kind, src, dst, prio, msg, off, len, total, num, data⟩) s c w
  generalize dl (⟨kind, src, dst, prio, msg, off, len, total, num, data⟩ : Frm) = q at *
  unfold fv fcs at *
  dsimp only at *
  have hmin : ¬ (9223372036854775781 < q) := by omega
  go_enter Try.func14, Try.ntmps14
  go_upto_region 1 with fail
  have hB : Blk (w.alloc (.cells #[.int .i64 kind, .int .i64 src, .int .i64 dst, .int .i64 prio, .int .u64 (msg : Int), .int .i64 off, .int .i64 len, .int .i64 total, .int .i64 num, .slice s data.length c] 25)) w.heap.size [.int .i64 kind, .int .i64 src, .int .i64 dst, .int .i64 prio, .int .u64 (msg : Int), .int .i64 off, .int .i64 len, .int .i64 total, .int .i64 num, .slice s data.length c] 25 := Blk.new w _ _
  have hk1 : Kept (fun _ => False) w (w.alloc (.cells #[.int .i64 kind, .int .i64 src, .int .i64 dst, .int .i64 prio, .int .u64 (msg : Int), .int .i64 off, .int .i64 len, .int .i64 total, .int .i64 num, .slice s data.length c] 25)) := (Kept.refl _ w).alloc _
  generalize w.alloc (.cells #[.int .i64 kind, .int .i64 src, .int .i64 dst, .int .i64 prio, .int .u64 (msg : Int), .int .i64 off, .int .i64 len, .int .i64 total, .int .i64 num, .slice s data.length c] 25) = w1 at *
  generalize w.heap.size = vb at *
  have e0 := hB.cell (o := 0) rfl
  have e1 := hB.cell (o := 1) rfl
  have e2 := hB.cell (o := 2) rfl
  have e3 := hB.cell (o := 3) rfl
  have e4 := hB.cell (o := 4) rfl
  have e5 := hB.cell (o := 5) rfl
  have e6 := hB.cell (o := 6) rfl
  have e7 := hB.cell (o := 7) rfl
  have e8 := hB.cell (o := 8) rfl
  have e9 := hB.cell (o := 9) rfl
  clear hB
  go_wp2_with (go_at_call 30; (with_reducible refine Calls.mono (D.out _) ?_); rintro e w2 ⟨rfl, k2⟩)
  go_ret
  exact ⟨rfl, hk1.trans k2⟩
set_option maxHeartbeats 4000000 in
set_option maxRecDepth 100000 in
theorem sizeR_any {f : Frm} (h0 : 0 ≤ dl f) (h1 : dl f ≤ 1000000) (s : Option Addr) (c : Nat) (w : World) : Calls Try.prog 15 #[fv f s c] w (Ans w (.int .i64 (26 + dl f))) := by
  obtain ⟨kind, src, dst, prio, msg, off, len, total, num, data⟩ := f
  unfold dl at *
  unfold fv fcs at *
  dsimp only at *
  by_cases hk : kind = 1
  · subst hk
    rw [if_pos rfl] at *
    go_enter Try.func15, Try.ntmps15
    go_upto_region 1 with fail
    have hB : Blk (w.alloc (.cells #[.int .i64 1, .int .i64 src, .int .i64 dst, .int .i64 prio, .int .u64 (msg : Int), .int .i64 off, .int .i64 len, .int .i64 total, .int .i64 num, .slice s data.length c] 25)) w.heap.size [.int .i64 1, .int .i64 src, .int .i64 dst, .int .i64 prio, .int .u64 (msg : Int), .int .i64 off, .int .i64 len, .int .i64 total, .int .i64 num, .slice s data.length c] 25 := Blk.new w _ _
    have hk1 : Kept (fun _ => False) w (w.alloc (.cells #[.int .i64 1, .int .i64 src, .int .i64 dst, .int .i64 prio, .int .u64 (msg : Int), .int .i64 off, .int .i64 len, .int .i64 total, .int .i64 num, .slice s data.length c] 25)) := (Kept.refl _ w).alloc _
    generalize w.alloc (.cells #[.int .i64 1, .int .i64 src, .int .i64 dst, .int .i64 prio, .int .u64 (msg : Int), .int .i64 off, .int .i64 len, .int .i64 total, .int .i64 num, .slice s data.length c] 25) = w1 at *
    generalize w.heap.size = vb at *
    have e0 := hB.cell (o := 0) rfl
    have e6 := hB.cell (o := 6) rfl
    clear hB
    go_wp2_with fail
    go_ret
    exact ⟨rfl, hk1⟩
  · have hk1 : (kind == 1) = false := by rw [beq_eq_false_iff_ne]; exact hk
    rw [if_neg hk] at *
    clear hk
    go_enter Try.func15, Try.ntmps15
    go_upto_region 1 with fail
    have hB : Blk (w.alloc (.cells #[.int .i64 kind, .int .i64 src, .int .i64 dst, .int .i64 prio, .int .u64 (msg : Int), .int .i64 off, .int .i64 len, .int .i64 total, .int .i64 num, .slice s data.length c] 25)) w.heap.size [.int .i64 kind, .int .i64 src, .int .i64 dst, .int .i64 prio, .int .u64 (msg : Int), .int .i64 off, .int .i64 len, .int .i64 total, .int .i64 num, .slice s data.length c] 25 := Blk.new w _ _
    have hk2 : Kept (fun _ => False) w (w.alloc (.cells #[.int .i64 kind, .int .i64 src, .int .i64 dst, .int .i64 prio, .int .u64 (msg : Int), .int .i64 off, .int .i64 len, .int .i64 total, .int .i64 num, .slice s data.length c] 25)) := (Kept.refl _ w).alloc _
    generalize w.alloc (.cells #[.int .i64 kind, .int .i64 src, .int .i64 dst, .int .i64 prio, .int .u64 (msg : Int), .int .i64 off, .int .i64 len, .int .i64 total, .int .i64 num, .slice s data.length c] 25) = w1 at *
    generalize w.heap.size = vb at *
    have e0 := hB.cell (o := 0) rfl
    clear hB
    go_wp2_with fail
    go_ret
    exact ⟨rfl, hk2⟩
/-- What Encode answers. -/
def EncP (w : World) (f : Frm) (e : Ending) (w' : World) : Prop :=
  (¬ Ok f ∧ Ans w (.tuple #[.slice none 0 0, .int .i64 1]) e w') ∨ (Ok f ∧ ∃ v, e = .returned (.tuple #[v, .int .i64 0]) ∧ Byt.Row w' w.heap.size v (enc f) ∧ Kept (fun _ => False) w w')
/-- The fourth byte stored. -/
theorem row_set3 {w : World} {b g c : Nat} {l : List UInt8} {y : UInt8} (h : Byt.Row w b (.slice (some ⟨g, 0, none⟩) l.length c) l) (h3 : 3 < l.length) :
    Byt.Row (w.setCell ⟨g, 3, none⟩ (bv y)) b (.slice (some ⟨g, 0, none⟩) l.length c) (l.set 3 y) ∧ (∃ u, w.cell? ⟨g, 3, none⟩ = some u) ∧ w.frozen? ⟨g, 3, none⟩ = false := by
  rcases h.2 with ⟨e, _⟩ | ⟨g', cap, cur, e, h1, h2, h4, h5, h6, h7⟩
  · cases e
  · cases e
    have hB : Blk w g cur.toList 5 := by unfold Blk; simpa using h2
    have hl3 : 3 < cur.toList.length := by simp; omega
    refine ⟨⟨by rw [bvs_len] <;> simp, Or.inr ⟨g, c, (cur.toList.set 3 (bv y)).toArray, by simp, h1, ?_, by simpa using h4, h5, by simpa using h6, ?_⟩⟩, ⟨_, hB.cell (List.getElem?_eq_getElem hl3)⟩, hB.frozen 3⟩
    · have := hB.set 3 (bv y)
      unfold Blk at this
      exact this
    · have e7 : cur.toList.take l.length = bvs l := by simpa using h7
      simp only [List.length_set, Nat.mul_one, bvs, List.map_set]
      rw [show List.map bv l = bvs l from rfl, ← e7]
      simp [List.take_set]
set_option maxHeartbeats 4000000 in
set_option maxRecDepth 100000 in
theorem enc_no {f : Frm} (h : ¬ Ok f) (s : Option Addr) (c : Nat) (w : World) : Calls Try.prog 10 #[fv f s c] w (Ans w (.tuple #[.slice none 0 0, .int .i64 1])) := by
  have C := Lib.hid fun w => check_any f s c w
  rw [chk_no h] at C
  obtain ⟨kind, src, dst, prio, msg, off, len, total, num, data⟩ := f
  unfold fv fcs at *
  dsimp only at *
  clear h
  go_enter Try.func10, Try.ntmps10
  go_upto_region 1 with fail
  have hB : Blk (w.alloc (.cells #[.int .i64 kind, .int .i64 src, .int .i64 dst, .int .i64 prio, .int .u64 (msg : Int), .int .i64 off, .int .i64 len, .int .i64 total, .int .i64 num, .slice s data.length c] 25)) w.heap.size [.int .i64 kind, .int .i64 src, .int .i64 dst, .int .i64 prio, .int .u64 (msg : Int), .int .i64 off, .int .i64 len, .int .i64 total, .int .i64 num, .slice s data.length c] 25 := Blk.new w _ _
  have hk1 : Kept (fun _ => False) w (w.alloc (.cells #[.int .i64 kind, .int .i64 src, .int .i64 dst, .int .i64 prio, .int .u64 (msg : Int), .int .i64 off, .int .i64 len, .int .i64 total, .int .i64 num, .slice s data.length c] 25)) := (Kept.refl _ w).alloc _
  generalize w.alloc (.cells #[.int .i64 kind, .int .i64 src, .int .i64 dst, .int .i64 prio, .int .u64 (msg : Int), .int .i64 off, .int .i64 len, .int .i64 total, .int .i64 num, .slice s data.length c] 25) = w1 at *
  generalize w.heap.size = vb at *
  have e0 := hB.cell (o := 0) rfl
  have e1 := hB.cell (o := 1) rfl
  have e2 := hB.cell (o := 2) rfl
  have e3 := hB.cell (o := 3) rfl
  have e4 := hB.cell (o := 4) rfl
  have e5 := hB.cell (o := 5) rfl
  have e6 := hB.cell (o := 6) rfl
  have e7 := hB.cell (o := 7) rfl
  have e8 := hB.cell (o := 8) rfl
  have e9 := hB.cell (o := 9) rfl
  clear hB
  go_wp2_with (go_at_call 12; (with_reducible refine Calls.mono (C.out _) ?_); rintro e w2 ⟨rfl, k2⟩)
  go_ret2
  exact ⟨rfl, hk1.trans k2⟩
set_option maxHeartbeats 8000000 in
set_option maxRecDepth 100000 in
theorem enc_yes {f : Frm} (h : Ok f) {s : Option Addr} {c : Nat} {w : World} (hD : Byt.Src w (.slice s f.data.length c) f.data) :
    Calls Try.prog 10 #[fv f s c] w fun e w' => ∃ v, e = .returned (.tuple #[v, .int .i64 0]) ∧ Byt.Row w' w.heap.size v (enc f) ∧ Kept (fun _ => False) w w' := by
  have C := Lib.hid fun w => check_any f s c w
  rw [chk_yes h] at C
  have hdl : 0 ≤ dl f ∧ dl f ≤ 1500 := by
    have := h.1
    unfold Fit at this
    unfold dl
    split <;> omega
  have Z := Lib.hid fun w => size_any (f := f) hdl.1 (by omega) s c w
  have hdata : f.data.length ≤ 1500 := by have := h.2.2; unfold Dat at this; unfold dl at hdl; omega
  obtain ⟨n, hn⟩ : ∃ n : Nat, 26 + dl f = (n : Int) := ⟨(26 + dl f).toNat, by omega⟩
  rw [hn] at Z
  have hn2 : n ≤ 2000 := by omega
  have hen : enc f = hd f (sm f) ++ f.data := rfl
  have hsm : sm f = UInt8.ofNat (sumTo (hd f 0) 26) := rfl
  have hhd (x : UInt8) : (hd f 0).set 3 x = hd f x := hd_set f 0 x
  have hh0 : hd f 0 = (((((((([] ++ be f.kind.toNat 1) ++ be (f.src * 16 + f.dst).toNat 1) ++ be f.prio.toNat 1) ++ be 0 1) ++ be f.msg 8) ++ be f.off.toNat 4) ++ be f.total.toNat 4) ++ be f.len.toNat 2) ++ be f.num.toNat 4 := by
    simp [hd, be]
  have hF := h.1
  obtain ⟨kind, src, dst, prio, msg, off, len, total, num, data⟩ := f
  obtain ⟨⟨k1, k2⟩, ⟨s1, s2⟩, ⟨d1, d2⟩, ⟨p1, p2⟩, m2, ⟨o1, o2⟩, ⟨t1, t2⟩, ⟨l1, l2⟩, ⟨n1, n2⟩⟩ := hF
  dsimp only at *
  obtain ⟨kind, rfl⟩ : ∃ x : Nat, kind = x := ⟨kind.toNat, by omega⟩
  obtain ⟨src, rfl⟩ : ∃ x : Nat, src = x := ⟨src.toNat, by omega⟩
  obtain ⟨dst, rfl⟩ : ∃ x : Nat, dst = x := ⟨dst.toNat, by omega⟩
  obtain ⟨prio, rfl⟩ : ∃ x : Nat, prio = x := ⟨prio.toNat, by omega⟩
  obtain ⟨off, rfl⟩ : ∃ x : Nat, off = x := ⟨off.toNat, by omega⟩
  obtain ⟨len, rfl⟩ : ∃ x : Nat, len = x := ⟨len.toNat, by omega⟩
  obtain ⟨total, rfl⟩ : ∃ x : Nat, total = x := ⟨total.toNat, by omega⟩
  obtain ⟨num, rfl⟩ : ∃ x : Nat, num = x := ⟨num.toNat, by omega⟩
  have hsd : ((src : Int) * 16 + (dst : Int)).toNat = src * 16 + dst := by omega
  rw [hsd] at hh0
  simp only [Int.toNat_natCast] at hh0
  rw [hen, hsm, ← hhd]
  have HH := Lib.hid hh0
  have HL := Lib.hid (hd_len (⟨kind, src, dst, prio, msg, off, len, total, num, data⟩ : Frm) 0)
  generalize hd (⟨kind, src, dst, prio, msg, off, len, total, num, data⟩ : Frm) 0 = H0 at *
  unfold fv fcs at *
  dsimp only at *
  have HD := Lib.hid hD
  have HDL := Lib.hid hdata
  clear h hdl hn hen hsm hhd hh0 hsd hD hdata
  obtain ⟨ti, hti, hz0, hz1, hz2⟩ := info_parts Byt.infoB
  go_enter Try.func10, Try.ntmps10
  go_upto_region 1 with fail
  have hB : Blk (w.alloc (.cells #[.int .i64 kind, .int .i64 src, .int .i64 dst, .int .i64 prio, .int .u64 (msg : Int), .int .i64 off, .int .i64 len, .int .i64 total, .int .i64 num, .slice s data.length c] 25)) w.heap.size [.int .i64 kind, .int .i64 src, .int .i64 dst, .int .i64 prio, .int .u64 (msg : Int), .int .i64 off, .int .i64 len, .int .i64 total, .int .i64 num, .slice s data.length c] 25 := Blk.new w _ _
  have hk1 : Kept (fun _ => False) w (w.alloc (.cells #[.int .i64 kind, .int .i64 src, .int .i64 dst, .int .i64 prio, .int .u64 (msg : Int), .int .i64 off, .int .i64 len, .int .i64 total, .int .i64 num, .slice s data.length c] 25)) := (Kept.refl _ w).alloc _
  have hsz : (w.alloc (.cells #[.int .i64 kind, .int .i64 src, .int .i64 dst, .int .i64 prio, .int .u64 (msg : Int), .int .i64 off, .int .i64 len, .int .i64 total, .int .i64 num, .slice s data.length c] 25)).heap.size = w.heap.size + 1 := by simp
  generalize w.alloc (.cells #[.int .i64 kind, .int .i64 src, .int .i64 dst, .int .i64 prio, .int .u64 (msg : Int), .int .i64 off, .int .i64 len, .int .i64 total, .int .i64 num, .slice s data.length c] 25) = w1 at *
  generalize hfb : w.heap.size = fb at *
  have e0 := hB.cell (o := 0) rfl
  have e1 := hB.cell (o := 1) rfl
  have e2 := hB.cell (o := 2) rfl
  have e3 := hB.cell (o := 3) rfl
  have e4 := hB.cell (o := 4) rfl
  have e5 := hB.cell (o := 5) rfl
  have e6 := hB.cell (o := 6) rfl
  have e7 := hB.cell (o := 7) rfl
  have e8 := hB.cell (o := 8) rfl
  have e9 := hB.cell (o := 9) rfl
  have HB := Lib.hid hB
  have HK := Lib.hid hk1
  have HSZ := Lib.hid hsz
  have HFB := Lib.hid hfb
  clear hB hk1 hsz hfb
  go_upto_region 4 with (go_at_call 12; (with_reducible refine Calls.mono (C.out _) ?_); rintro e w2 ⟨rfl, k2⟩)
  have hB2 := k2.blk HB.out (fun f => f)
  have hK2 := HK.out.trans k2
  have hS2 : fb + 1 ≤ w2.heap.size := by have := k2.size; have := HSZ.out; omega
  have HB := Lib.hid hB2
  have HK := Lib.hid hK2
  have HS := Lib.hid hS2
  clear e0 e1 e2 e3 e4 e5 e6 e7 e8 e9 k2 hK2 hS2 C
  have e0 := hB2.cell (o := 0) rfl
  have e1 := hB2.cell (o := 1) rfl
  have e2 := hB2.cell (o := 2) rfl
  have e3 := hB2.cell (o := 3) rfl
  have e4 := hB2.cell (o := 4) rfl
  have e5 := hB2.cell (o := 5) rfl
  have e6 := hB2.cell (o := 6) rfl
  have e7 := hB2.cell (o := 7) rfl
  have e8 := hB2.cell (o := 8) rfl
  have e9 := hB2.cell (o := 9) rfl
  clear hB2
  go_wp2_with fail
  with_reducible refine Calls.mono (Z.out _) ?_
  rintro e w3 ⟨rfl, k3⟩
  have hB3 := k3.blk HB.out (fun f => f)
  have hK3 := HK.out.trans k3
  have hS3 : fb + 1 ≤ w3.heap.size := Nat.le_trans HS.out k3.size
  have HB := Lib.hid hB3
  have HK := Lib.hid hK3
  have HS := Lib.hid hS3
  clear e0 e1 e2 e3 e4 e5 e6 e7 e8 e9 k3 hB3 hK3 hS3 Z
  go_upto_region 5 with (at_make; refine wpList_make_own _ rfl _ _ 23 rfl w3.heap.size 5 ti (.int .u8 0) 1 Try.underlying23 hti hz0 hz1 .i64 .i64 _ n rfl rfl (by omega) (by rw [hz2]; omega) (by unfold maxLen; omega) (Nat.le_refl _) ?_; intro w4 hR0 hg0)
  have hR : Byt.Row w4 (fb + 1) (.slice (some ⟨w3.heap.size, 0, none⟩) 0 n) [] := Byt.Row.base (b := w3.heap.size) hR0 (fun g hg => by cases hg; exact HS.out)
  have k4 : Kept (fun _ => False) w3 w4 := (Byt.grown_kept hg0).mono (fun i _ e => by cases e)
  have hB4 := k4.blk HB.out (fun f => f)
  have hK4 := HK.out.trans k4
  have hS4 : fb + 1 ≤ w4.heap.size := Nat.le_trans HS.out k4.size
  have HB := Lib.hid hB4
  have HK := Lib.hid hK4
  have HS := Lib.hid hS4
  have HR := Lib.hid hR
  have HN : Hid (([] : List UInt8).length = 0) := Lib.hid rfl
  clear hR0 hg0 hR k4 hK4 hS4 hti hz0 hz1 hz2
  have e0 := hB4.cell (o := 0) rfl
  have e1 := hB4.cell (o := 1) rfl
  have e2 := hB4.cell (o := 2) rfl
  have e3 := hB4.cell (o := 3) rfl
  have e4 := hB4.cell (o := 4) rfl
  have e5 := hB4.cell (o := 5) rfl
  have e6 := hB4.cell (o := 6) rfl
  have e7 := hB4.cell (o := 7) rfl
  have e8 := hB4.cell (o := 8) rfl
  clear hB4
  have P1 := Lib.hid (put_any HR.out HS.out kind 1 (by omega) (by omega) (by have := HN.out; omega))
  unfold PutP at P1
  obtain ⟨L1, hL1⟩ : ∃ L', L' = [] ++ be kind 1 := ⟨_, rfl⟩
  rw [← hL1] at P1
  have hN1 : L1.length = 1 := by have := HN.out; rw [hL1, List.length_append, be_len]; omega
  have G1 := Lib.hid hL1
  have HN := Lib.hid hN1
  clear hL1 hN1
  go_wp2_with fail
  with_reducible refine Calls.mono P1.out ?_
  rintro e x1 ⟨v1, rfl, hA1⟩
  have hB1 := hA1.kept.blk HB.out (fun e => by have := (HR.out.lt _ e).1; omega)
  have hK1 := HK.out.trans' hA1.kept (fun i hi e => by have := (HR.out.lt _ e).1; have := HFB.out; omega)
  have hS1 : fb + 1 ≤ x1.heap.size := Nat.le_trans HS.out hA1.kept.size
  have hR1 := hA1.row
  have HB := Lib.hid hB1
  have HK := Lib.hid hK1
  have HS := Lib.hid hS1
  have HR := Lib.hid hR1
  obtain ⟨s1, c1, rfl, _⟩ := hR1.slice
  clear hA1 hK1 hS1 hR1 P1 e0 e1 e2 e3 e4 e5 e6 e7 e8
  have e0 := hB1.cell (o := 0) rfl
  have e1 := hB1.cell (o := 1) rfl
  have e2 := hB1.cell (o := 2) rfl
  have e3 := hB1.cell (o := 3) rfl
  have e4 := hB1.cell (o := 4) rfl
  have e5 := hB1.cell (o := 5) rfl
  have e6 := hB1.cell (o := 6) rfl
  have e7 := hB1.cell (o := 7) rfl
  have e8 := hB1.cell (o := 8) rfl
  clear hB1
  go_upto_region 6 with fail
  have esd : IntKind.i64.wrap ((src : Int) * 16) = (src : Int) * 16 := by rw [IntKind.wrap_i64]; omega
  have P2 := Lib.hid (put_any HR.out HS.out (src * 16 + dst) 1 (by omega) (by omega) (by have := HN.out; omega))
  unfold PutP at P2
  rw [show ((src * 16 + dst : Nat) : Int) = (src : Int) * 16 + (dst : Int) by omega] at P2
  obtain ⟨L2, hL2⟩ : ∃ L', L' = L1 ++ be (src * 16 + dst) 1 := ⟨_, rfl⟩
  rw [← hL2] at P2
  have hN2 : L2.length = 2 := by have := HN.out; rw [hL2, List.length_append, be_len]; omega
  have G2 := Lib.hid hL2
  have HN := Lib.hid hN2
  clear hL2 hN2
  go_wp2_with fail
  with_reducible refine Calls.mono P2.out ?_
  rintro e x2 ⟨v2, rfl, hA2⟩
  have hB2 := hA2.kept.blk HB.out (fun e => by have := (HR.out.lt _ e).1; omega)
  have hK2 := HK.out.trans' hA2.kept (fun i hi e => by have := (HR.out.lt _ e).1; have := HFB.out; omega)
  have hS2 : fb + 1 ≤ x2.heap.size := Nat.le_trans HS.out hA2.kept.size
  have hR2 := hA2.row
  have HB := Lib.hid hB2
  have HK := Lib.hid hK2
  have HS := Lib.hid hS2
  have HR := Lib.hid hR2
  obtain ⟨s2, c2, rfl, _⟩ := hR2.slice
  clear hA2 hK2 hS2 hR2 P2 e0 e1 e2 e3 e4 e5 e6 e7 e8
  have e0 := hB2.cell (o := 0) rfl
  have e1 := hB2.cell (o := 1) rfl
  have e2 := hB2.cell (o := 2) rfl
  have e3 := hB2.cell (o := 3) rfl
  have e4 := hB2.cell (o := 4) rfl
  have e5 := hB2.cell (o := 5) rfl
  have e6 := hB2.cell (o := 6) rfl
  have e7 := hB2.cell (o := 7) rfl
  have e8 := hB2.cell (o := 8) rfl
  clear hB2
  go_upto_region 7 with fail
  have P3 := Lib.hid (put_any HR.out HS.out prio 1 (by omega) (by omega) (by have := HN.out; omega))
  unfold PutP at P3
  obtain ⟨L3, hL3⟩ : ∃ L', L' = L2 ++ be prio 1 := ⟨_, rfl⟩
  rw [← hL3] at P3
  have hN3 : L3.length = 3 := by have := HN.out; rw [hL3, List.length_append, be_len]; omega
  have G3 := Lib.hid hL3
  have HN := Lib.hid hN3
  clear hL3 hN3
  go_wp2_with fail
  with_reducible refine Calls.mono P3.out ?_
  rintro e x3 ⟨v3, rfl, hA3⟩
  have hB3 := hA3.kept.blk HB.out (fun e => by have := (HR.out.lt _ e).1; omega)
  have hK3 := HK.out.trans' hA3.kept (fun i hi e => by have := (HR.out.lt _ e).1; have := HFB.out; omega)
  have hS3 : fb + 1 ≤ x3.heap.size := Nat.le_trans HS.out hA3.kept.size
  have hR3 := hA3.row
  have HB := Lib.hid hB3
  have HK := Lib.hid hK3
  have HS := Lib.hid hS3
  have HR := Lib.hid hR3
  obtain ⟨s3, c3, rfl, _⟩ := hR3.slice
  clear hA3 hK3 hS3 hR3 P3 e0 e1 e2 e3 e4 e5 e6 e7 e8
  have e0 := hB3.cell (o := 0) rfl
  have e1 := hB3.cell (o := 1) rfl
  have e2 := hB3.cell (o := 2) rfl
  have e3 := hB3.cell (o := 3) rfl
  have e4 := hB3.cell (o := 4) rfl
  have e5 := hB3.cell (o := 5) rfl
  have e6 := hB3.cell (o := 6) rfl
  have e7 := hB3.cell (o := 7) rfl
  have e8 := hB3.cell (o := 8) rfl
  clear hB3
  go_upto_region 8 with fail
  have P4 := Lib.hid (put_any HR.out HS.out 0 1 (by omega) (by omega) (by have := HN.out; omega))
  unfold PutP at P4
  obtain ⟨L4, hL4⟩ : ∃ L', L' = L3 ++ be 0 1 := ⟨_, rfl⟩
  rw [← hL4] at P4
  have hN4 : L4.length = 4 := by have := HN.out; rw [hL4, List.length_append, be_len]; omega
  have G4 := Lib.hid hL4
  have HN := Lib.hid hN4
  clear hL4 hN4
  go_wp2_with fail
  with_reducible refine Calls.mono P4.out ?_
  rintro e x4 ⟨v4, rfl, hA4⟩
  have hB4 := hA4.kept.blk HB.out (fun e => by have := (HR.out.lt _ e).1; omega)
  have hK4 := HK.out.trans' hA4.kept (fun i hi e => by have := (HR.out.lt _ e).1; have := HFB.out; omega)
  have hS4 : fb + 1 ≤ x4.heap.size := Nat.le_trans HS.out hA4.kept.size
  have hR4 := hA4.row
  have HB := Lib.hid hB4
  have HK := Lib.hid hK4
  have HS := Lib.hid hS4
  have HR := Lib.hid hR4
  obtain ⟨s4, c4, rfl, _⟩ := hR4.slice
  clear hA4 hK4 hS4 hR4 P4 e0 e1 e2 e3 e4 e5 e6 e7 e8
  have e0 := hB4.cell (o := 0) rfl
  have e1 := hB4.cell (o := 1) rfl
  have e2 := hB4.cell (o := 2) rfl
  have e3 := hB4.cell (o := 3) rfl
  have e4 := hB4.cell (o := 4) rfl
  have e5 := hB4.cell (o := 5) rfl
  have e6 := hB4.cell (o := 6) rfl
  have e7 := hB4.cell (o := 7) rfl
  have e8 := hB4.cell (o := 8) rfl
  clear hB4
  go_upto_region 9 with fail
  have P5 := Lib.hid (put_any HR.out HS.out msg 8 (by omega) (by omega) (by have := HN.out; omega))
  unfold PutP at P5
  obtain ⟨L5, hL5⟩ : ∃ L', L' = L4 ++ be msg 8 := ⟨_, rfl⟩
  rw [← hL5] at P5
  have hN5 : L5.length = 12 := by have := HN.out; rw [hL5, List.length_append, be_len]; omega
  have G5 := Lib.hid hL5
  have HN := Lib.hid hN5
  clear hL5 hN5
  go_wp2_with fail
  with_reducible refine Calls.mono P5.out ?_
  rintro e x5 ⟨v5, rfl, hA5⟩
  have hB5 := hA5.kept.blk HB.out (fun e => by have := (HR.out.lt _ e).1; omega)
  have hK5 := HK.out.trans' hA5.kept (fun i hi e => by have := (HR.out.lt _ e).1; have := HFB.out; omega)
  have hS5 : fb + 1 ≤ x5.heap.size := Nat.le_trans HS.out hA5.kept.size
  have hR5 := hA5.row
  have HB := Lib.hid hB5
  have HK := Lib.hid hK5
  have HS := Lib.hid hS5
  have HR := Lib.hid hR5
  obtain ⟨s5, c5, rfl, _⟩ := hR5.slice
  clear hA5 hK5 hS5 hR5 P5 e0 e1 e2 e3 e4 e5 e6 e7 e8
  have e0 := hB5.cell (o := 0) rfl
  have e1 := hB5.cell (o := 1) rfl
  have e2 := hB5.cell (o := 2) rfl
  have e3 := hB5.cell (o := 3) rfl
  have e4 := hB5.cell (o := 4) rfl
  have e5 := hB5.cell (o := 5) rfl
  have e6 := hB5.cell (o := 6) rfl
  have e7 := hB5.cell (o := 7) rfl
  have e8 := hB5.cell (o := 8) rfl
  clear hB5
  go_upto_region 10 with fail
  have P6 := Lib.hid (put_any HR.out HS.out off 4 (by omega) (by omega) (by have := HN.out; omega))
  unfold PutP at P6
  obtain ⟨L6, hL6⟩ : ∃ L', L' = L5 ++ be off 4 := ⟨_, rfl⟩
  rw [← hL6] at P6
  have hN6 : L6.length = 16 := by have := HN.out; rw [hL6, List.length_append, be_len]; omega
  have G6 := Lib.hid hL6
  have HN := Lib.hid hN6
  clear hL6 hN6
  go_wp2_with fail
  with_reducible refine Calls.mono P6.out ?_
  rintro e x6 ⟨v6, rfl, hA6⟩
  have hB6 := hA6.kept.blk HB.out (fun e => by have := (HR.out.lt _ e).1; omega)
  have hK6 := HK.out.trans' hA6.kept (fun i hi e => by have := (HR.out.lt _ e).1; have := HFB.out; omega)
  have hS6 : fb + 1 ≤ x6.heap.size := Nat.le_trans HS.out hA6.kept.size
  have hR6 := hA6.row
  have HB := Lib.hid hB6
  have HK := Lib.hid hK6
  have HS := Lib.hid hS6
  have HR := Lib.hid hR6
  obtain ⟨s6, c6, rfl, _⟩ := hR6.slice
  clear hA6 hK6 hS6 hR6 P6 e0 e1 e2 e3 e4 e5 e6 e7 e8
  have e0 := hB6.cell (o := 0) rfl
  have e1 := hB6.cell (o := 1) rfl
  have e2 := hB6.cell (o := 2) rfl
  have e3 := hB6.cell (o := 3) rfl
  have e4 := hB6.cell (o := 4) rfl
  have e5 := hB6.cell (o := 5) rfl
  have e6 := hB6.cell (o := 6) rfl
  have e7 := hB6.cell (o := 7) rfl
  have e8 := hB6.cell (o := 8) rfl
  clear hB6
  go_upto_region 11 with fail
  have P7 := Lib.hid (put_any HR.out HS.out total 4 (by omega) (by omega) (by have := HN.out; omega))
  unfold PutP at P7
  obtain ⟨L7, hL7⟩ : ∃ L', L' = L6 ++ be total 4 := ⟨_, rfl⟩
  rw [← hL7] at P7
  have hN7 : L7.length = 20 := by have := HN.out; rw [hL7, List.length_append, be_len]; omega
  have G7 := Lib.hid hL7
  have HN := Lib.hid hN7
  clear hL7 hN7
  go_wp2_with fail
  with_reducible refine Calls.mono P7.out ?_
  rintro e x7 ⟨v7, rfl, hA7⟩
  have hB7 := hA7.kept.blk HB.out (fun e => by have := (HR.out.lt _ e).1; omega)
  have hK7 := HK.out.trans' hA7.kept (fun i hi e => by have := (HR.out.lt _ e).1; have := HFB.out; omega)
  have hS7 : fb + 1 ≤ x7.heap.size := Nat.le_trans HS.out hA7.kept.size
  have hR7 := hA7.row
  have HB := Lib.hid hB7
  have HK := Lib.hid hK7
  have HS := Lib.hid hS7
  have HR := Lib.hid hR7
  obtain ⟨s7, c7, rfl, _⟩ := hR7.slice
  clear hA7 hK7 hS7 hR7 P7 e0 e1 e2 e3 e4 e5 e6 e7 e8
  have e0 := hB7.cell (o := 0) rfl
  have e1 := hB7.cell (o := 1) rfl
  have e2 := hB7.cell (o := 2) rfl
  have e3 := hB7.cell (o := 3) rfl
  have e4 := hB7.cell (o := 4) rfl
  have e5 := hB7.cell (o := 5) rfl
  have e6 := hB7.cell (o := 6) rfl
  have e7 := hB7.cell (o := 7) rfl
  have e8 := hB7.cell (o := 8) rfl
  clear hB7
  go_upto_region 12 with fail
  have P8 := Lib.hid (put_any HR.out HS.out len 2 (by omega) (by omega) (by have := HN.out; omega))
  unfold PutP at P8
  obtain ⟨L8, hL8⟩ : ∃ L', L' = L7 ++ be len 2 := ⟨_, rfl⟩
  rw [← hL8] at P8
  have hN8 : L8.length = 22 := by have := HN.out; rw [hL8, List.length_append, be_len]; omega
  have G8 := Lib.hid hL8
  have HN := Lib.hid hN8
  clear hL8 hN8
  go_wp2_with fail
  with_reducible refine Calls.mono P8.out ?_
  rintro e x8 ⟨v8, rfl, hA8⟩
  have hB8 := hA8.kept.blk HB.out (fun e => by have := (HR.out.lt _ e).1; omega)
  have hK8 := HK.out.trans' hA8.kept (fun i hi e => by have := (HR.out.lt _ e).1; have := HFB.out; omega)
  have hS8 : fb + 1 ≤ x8.heap.size := Nat.le_trans HS.out hA8.kept.size
  have hR8 := hA8.row
  have HB := Lib.hid hB8
  have HK := Lib.hid hK8
  have HS := Lib.hid hS8
  have HR := Lib.hid hR8
  obtain ⟨s8, c8, rfl, _⟩ := hR8.slice
  clear hA8 hK8 hS8 hR8 P8 e0 e1 e2 e3 e4 e5 e6 e7 e8
  have e0 := hB8.cell (o := 0) rfl
  have e1 := hB8.cell (o := 1) rfl
  have e2 := hB8.cell (o := 2) rfl
  have e3 := hB8.cell (o := 3) rfl
  have e4 := hB8.cell (o := 4) rfl
  have e5 := hB8.cell (o := 5) rfl
  have e6 := hB8.cell (o := 6) rfl
  have e7 := hB8.cell (o := 7) rfl
  have e8 := hB8.cell (o := 8) rfl
  clear hB8
  go_upto_region 13 with fail
  have P9 := Lib.hid (put_any HR.out HS.out num 4 (by omega) (by omega) (by have := HN.out; omega))
  unfold PutP at P9
  obtain ⟨L9, hL9⟩ : ∃ L', L' = L8 ++ be num 4 := ⟨_, rfl⟩
  rw [← hL9] at P9
  have hN9 : L9.length = 26 := by have := HN.out; rw [hL9, List.length_append, be_len]; omega
  have G9 := Lib.hid hL9
  have HN := Lib.hid hN9
  clear hL9 hN9
  go_wp2_with fail
  with_reducible refine Calls.mono P9.out ?_
  rintro e x9 ⟨v9, rfl, hA9⟩
  have hB9 := hA9.kept.blk HB.out (fun e => by have := (HR.out.lt _ e).1; omega)
  have hK9 := HK.out.trans' hA9.kept (fun i hi e => by have := (HR.out.lt _ e).1; have := HFB.out; omega)
  have hS9 : fb + 1 ≤ x9.heap.size := Nat.le_trans HS.out hA9.kept.size
  have hR9 := hA9.row
  have HB := Lib.hid hB9
  have HK := Lib.hid hK9
  have HS := Lib.hid hS9
  have HR := Lib.hid hR9
  obtain ⟨s9, c9, rfl, _⟩ := hR9.slice
  clear hA9 hK9 hS9 hR9 P9 e0 e1 e2 e3 e4 e5 e6 e7 e8
  have e0 := hB9.cell (o := 0) rfl
  have e1 := hB9.cell (o := 1) rfl
  have e2 := hB9.cell (o := 2) rfl
  have e3 := hB9.cell (o := 3) rfl
  have e4 := hB9.cell (o := 4) rfl
  have e5 := hB9.cell (o := 5) rfl
  have e6 := hB9.cell (o := 6) rfl
  have e7 := hB9.cell (o := 7) rfl
  have e8 := hB9.cell (o := 8) rfl
  clear hB9
  go_upto_region 14 with fail
  have hH : H0 = L9 := by rw [HH.out, G9.out, G8.out, G7.out, G6.out, G5.out, G4.out, G3.out, G2.out, G1.out]
  subst hH
  clear HH G1 G2 G3 G4 G5 G6 G7 G8 G9
  have hR9 := HR.out
  have hlen := HN.out
  rcases hR9.form with ⟨_, e⟩ | ⟨g, cap, _, e, hg, _⟩
  · rw [e] at hlen; simp at hlen
  cases e
  have hS := sum_any hR9.src (by omega)
  obtain ⟨y, hyd⟩ : ∃ y, y = UInt8.ofNat (sumTo H0 26) := ⟨_, rfl⟩
  obtain ⟨hset, ⟨uu, hcell⟩, hfz⟩ := row_set3 (y := y) hR9 (by omega)
  have hy : ((sumTo H0 26 : Nat) : Int) = (y.toNat : Int) := by
    have := sumTo_lt H0 26
    rw [hyd, UInt8.toNat_ofNat']
    omega
  rw [hlen] at hS hset
  rw [hlen]
  unfold bv at hset
  rw [hy] at hS
  have HSM := Lib.hid hS
  have HYD := Lib.hid hyd
  have HSET := Lib.hid hset
  clear hR9 hS hset hy hlen hyd
  go_wp2_with fail
  with_reducible refine Calls.mono HSM.out ?_
  rintro e y1 ⟨rfl, rfl⟩
  go_upto_region 15 with fail
  have k10 := Kept.one x9 g 3 (.int .u8 (y.toNat : Int))
  have hB10 := HB.out.far (p := g) (by omega) 3 (.int .u8 (y.toNat : Int))
  have hsz : (x9.setCell ⟨g, 3, none⟩ (.int .u8 (y.toNat : Int))).heap.size = x9.heap.size := by simp
  have hSET := HSET.out
  generalize x9.setCell ⟨g, 3, none⟩ (.int .u8 (y.toNat : Int)) = z at *
  have hK10 := HK.out.trans' k10 (fun i hi e => by have := HFB.out; omega)
  have hS10 : fb + 1 ≤ z.heap.size := by have := HS.out; omega
  have hd := HD.out.kept hK10
  have e9 := hB10.cell (o := 9) rfl
  have HK := Lib.hid hK10
  have HS := Lib.hid hS10
  have HX := Lib.hid hd
  have HSET := Lib.hid hSET
  have hll : ((H0.set 3 y).length + data.length) ≤ 1000000000 := by have := HL.out; have := HDL.out; rw [List.length_set]; omega
  have HLL := Lib.hid hll
  have hl26 : (H0.set 3 y).length = 26 := by rw [List.length_set]; exact HL.out
  have HL26 := Lib.hid hl26
  clear k10 hB10 hsz hSET hK10 hS10 hd hll hl26 e0 e1 e2 e3 e4 e5 e6 e7 e8 hcell hfz
  go_wp2_with (at_builtin; (refine Byt.wpList_app rfl _ _ rfl (fb + 1) (v := .slice (some ⟨g, 0, none⟩) 26 c9) rfl HSET.out rfl HX.out HLL.out HS.out ?_); intro v' w12 hA)
  go_ret2
  refine ⟨v', rfl, ?_, HK.out.trans' hA.kept (fun i hi e => ?_)⟩
  · rw [← HYD.out]
    exact hA.row.base (fun q hq => by have := (hA.row.lt q hq).1; have := HFB.out; omega)
  · have e : some g = some i := e
    cases e
    have := HFB.out; omega
theorem enc_any {f : Frm} {s : Option Addr} {c : Nat} {w : World} (hD : Byt.Src w (.slice s f.data.length c) f.data) : Calls Try.prog 10 #[fv f s c] w (EncP w f) := by
  by_cases h : Ok f
  · exact (enc_yes h hD).mono fun e w' he => Or.inr ⟨h, he⟩
  · exact (enc_no h s c w).mono fun e w' he => Or.inl ⟨h, he⟩
end Go.Proofs.Ytkbncpclfeiofaa.Wr
