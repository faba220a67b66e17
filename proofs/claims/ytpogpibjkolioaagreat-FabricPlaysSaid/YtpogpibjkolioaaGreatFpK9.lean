/- What the document fixes of ports. Conditions: each theorem's own. -/
import Derived.Test.YtpogpibjkolioaaGreatFpK8
import Derived.Test.YtpogpibjkolioaaGreatFpK1
import Derived.Test.YtpogpibjkolioaaGreatFpK6
set_option linter.unusedVariables false
set_option linter.unusedSimpArgs false
namespace Go.Proofs.YtpogpibjkolioaaGreat.Po
open Go.RowKit Hp QuM QuN Rw Qu NumM NumC Go.Proofs.YtpogpibjkolioaaGreat.End
attribute [local go_sem ↓] Go.wp_at_zero Go.wp_at_succ
abbrev cX : Bx := ⟨⟨11, 0, 1, 0, 0, 0, 0, 0, 0, []⟩, none, 0, 0⟩
theorem cX_sane : Sane cX := by unfold Sane Wr.dl; decide
theorem rd_none (w : World) {x : Bx} (hs : x.s = none) (hc : x.c = 0) (hd : x.f.data = []) : Rd w x := by
 refine ⟨⟨none, 0, by rw [hs, hc], by rw [hd]; exact Nat.le_refl _, Or.inl hd, fun _ => rfl⟩, by rw [hd]; exact Nat.zero_le _⟩
end Go.Proofs.YtpogpibjkolioaaGreat.Po

/- What nothing tells; Drop and Double of what is not there. Conditions: each theorem's own. -/
namespace Go.Proofs.YtpogpibjkolioaaGreat.Po
open Go.RowKit Hp QuM QuN Rw Qu NumM NumC Go.Proofs.YtpogpibjkolioaaGreat.End
attribute [local go_sem ↓] Go.wp_at_zero Go.wp_at_succ
abbrev lz : Value := .agg #[.pointer none, .int .i64 0]
theorem find_nil (k : Int) (w : World) : Calls Tryz.prog 77 #[.pointer none, .int .i64 k] w fun e w' => e = .returned (.tuple #[lz, .int .i64 0, .bool false]) ∧ Kept (fun _ => False) w w' := by
 go_enter Tryz.func77, Tryz.ntmps77
 go_upto_region 1 with fail
 have hO := Blk.new w [.pointer none, .int .i64 0] 135
 have hk1 := (Kept.refl (fun _ => False) w).alloc (.cells [.pointer none, .int .i64 0].toArray 135)
 dsimp only [List.toArray] at hO hk1
 generalize w.alloc (.cells #[.pointer none, .int .i64 0] 135) = w1 at *
 obtain ⟨rb, hrb⟩ : ∃ rb, w.heap.size = rb := ⟨_, rfl⟩
 rw [hrb] at hO
 simp only [hrb]
 have HRB := Lib.hid hrb
 clear hrb
 have n0 := hO.cell (o := 0) rfl
 have n1 := hO.cell (o := 1) rfl
 have f0 := hO.frozen 0
 have f1 := hO.frozen 1
 have hO5 := (hO.set 0 (.pointer none)).set 1 (.int .i64 0)
 have HK5 : Hid (Kept (fun _ => False) w ((w1.setCell ⟨rb, 0, none⟩ (.pointer none)).setCell ⟨rb, 1, none⟩ (.int .i64 0))) := Lib.hid ((hk1.set (b := rb) (fun h => by have := HRB.out; omega) _ _).set (b := rb) (fun h => by have := HRB.out; omega) _ _)
 have z0 := hO5.cell (o := 0) rfl
 have z1 := hO5.cell (o := 1) rfl
 clear hO hO5 hk1
 go_wp2_with fail
 exact bodyPost_ret (v := .tuple #[lz, .int .i64 0, .bool false]) (by simp [results, Tryz.results77, go_sem, z0, z1]) rfl ⟨rfl, HK5.out⟩
set_option maxRecDepth 100000 in
set_option maxHeartbeats 4000000 in
theorem drop_off {q : Option Addr} {k : Int} {w : World} (hF : ∀ w', Kept (fun _ => False) w w' → Calls Tryz.prog 77 #[.pointer q, .int .i64 k] w' fun e w'' => e = .returned (.tuple #[lz, .int .i64 0, .bool false]) ∧ Kept (fun _ => False) w' w'') :
  Calls Tryz.prog 45 #[.pointer q, .int .i64 k] w fun e w' => e = .returned (.tuple #[bv zB, .bool false]) ∧ Kept (fun _ => False) w w' := by
 have HF := Lib.hid hF
 clear hF
 go_enter Tryz.func45, Tryz.ntmps45
 go_upto_region 1 with fail
 have hO := Blk.new w [.int .i64 0, .int .i64 0, .int .i64 0, .int .i64 0, .int .u64 0, .int .i64 0, .int .i64 0, .int .i64 0, .int .i64 0, .slice none 0 0, .int .i64 0] 83
 have hk1 := (Kept.refl (fun _ => False) w).alloc (.cells [.int .i64 0, .int .i64 0, .int .i64 0, .int .i64 0, .int .u64 0, .int .i64 0, .int .i64 0, .int .i64 0, .int .i64 0, .slice none 0 0, .int .i64 0].toArray 83)
 dsimp only [List.toArray] at hO hk1
 generalize w.alloc (.cells #[.int .i64 0, .int .i64 0, .int .i64 0, .int .i64 0, .int .u64 0, .int .i64 0, .int .i64 0, .int .i64 0, .int .i64 0, .slice none 0 0, .int .i64 0] 83) = w1 at *
 obtain ⟨rb, hrb⟩ : ∃ rb, w.heap.size = rb := ⟨_, rfl⟩
 rw [hrb] at hO
 simp only [hrb]
 have HRB := Lib.hid hrb
 have HO := Lib.hid hO
 have HK := Lib.hid hk1
 clear hrb hO hk1
 go_wp2_with fail
 with_reducible refine Calls.mono (HF.out _ HK.out) ?_
 rintro e w2 ⟨rfl, hk2⟩
 have HO2 := Lib.hid (hk2.blk HO.out (fun f => f))
 have HK2 := Lib.hid (HK.out.trans hk2)
 clear hk2 HO HK HF
 go_upto_region 2 with fail
 have hk3 := (Kept.refl (fun _ => False) w2).alloc (.cells [.pointer none, .int .i64 0].toArray 135)
 dsimp only [List.toArray] at hk3
 have hO3 := hk3.blk HO2.out (fun f => f)
 have HK3 := Lib.hid (HK2.out.trans hk3)
 generalize w2.alloc (.cells #[.pointer none, .int .i64 0] 135) = w3 at *
 generalize w2.heap.size = ob at *
 obtain ⟨n0, n1, n2, n3, n4, n5, n6, n7, n8, n9, n10⟩ := cs11 hO3
 obtain ⟨fz0, fz1, fz2, fz3, fz4, fz5, fz6, fz7, fz8, fz9, fz10⟩ := fz11 hO3
 have hO6 := set11_blk hO3 rfl zB
 have k6 := set11_kept w3 rb zB
 have HK6 : Hid (Kept (fun _ => False) w (set11 w3 rb zB)) := Lib.hid (HK3.out.trans' k6 (fun i hi e => by have := HRB.out; omega))
 unfold set11 at HK6 hO6
 dsimp only [List.length_nil, Int.natCast_zero] at HK6 hO6
 obtain ⟨z0, z1, z2, z3, z4, z5, z6, z7, z8, z9, z10⟩ := cs11 hO6
 clear hO3 hO6 k6 hk3 HO2 HK2 HK3
 go_wp2_with fail
 exact bodyPost_ret (v := .tuple #[bv zB, .bool false]) (by simp [results, Tryz.results45, go_sem, z0, z1, z2, z3, z4, z5, z6, z7, z8, z9, z10]) rfl ⟨rfl, HK6.out⟩
theorem drop_nil (k : Int) (w : World) : Calls Tryz.prog 45 #[.pointer none, .int .i64 k] w fun e w' => e = .returned (.tuple #[bv zB, .bool false]) ∧ Kept (fun _ => False) w w' := drop_off fun w' _ => find_nil k w'
set_option maxRecDepth 100000 in
set_option maxHeartbeats 4000000 in
theorem standing_off {q : Option Addr} {k : Int} {w : World} (hF : ∀ w', Kept (fun _ => False) w w' → Calls Tryz.prog 77 #[.pointer q, .int .i64 k] w' fun e w'' => e = .returned (.tuple #[lz, .int .i64 0, .bool false]) ∧ Kept (fun _ => False) w' w'') :
  Calls Tryz.prog 80 #[.pointer q, .int .i64 k] w fun e w' => e = .returned (.tuple #[bv zB, .bool false]) ∧ Kept (fun _ => False) w w' := by
 have HF := Lib.hid hF
 clear hF
 go_enter Tryz.func80, Tryz.ntmps80
 go_upto_region 1 with fail
 have hO := Blk.new w [.int .i64 0, .int .i64 0, .int .i64 0, .int .i64 0, .int .u64 0, .int .i64 0, .int .i64 0, .int .i64 0, .int .i64 0, .slice none 0 0, .int .i64 0] 83
 have hk1 := (Kept.refl (fun _ => False) w).alloc (.cells [.int .i64 0, .int .i64 0, .int .i64 0, .int .i64 0, .int .u64 0, .int .i64 0, .int .i64 0, .int .i64 0, .int .i64 0, .slice none 0 0, .int .i64 0].toArray 83)
 dsimp only [List.toArray] at hO hk1
 generalize w.alloc (.cells #[.int .i64 0, .int .i64 0, .int .i64 0, .int .i64 0, .int .u64 0, .int .i64 0, .int .i64 0, .int .i64 0, .int .i64 0, .slice none 0 0, .int .i64 0] 83) = w1 at *
 obtain ⟨rb, hrb⟩ : ∃ rb, w.heap.size = rb := ⟨_, rfl⟩
 rw [hrb] at hO
 simp only [hrb]
 have HRB := Lib.hid hrb
 have HO := Lib.hid hO
 have HK := Lib.hid hk1
 clear hrb hO hk1
 go_wp2_with fail
 with_reducible refine Calls.mono (HF.out _ HK.out) ?_
 rintro e w2 ⟨rfl, hk2⟩
 have HO2 := Lib.hid (hk2.blk HO.out (fun f => f))
 have HK2 := Lib.hid (HK.out.trans hk2)
 clear hk2 HO HK HF
 go_upto_region 2 with fail
 have hk3 := (Kept.refl (fun _ => False) w2).alloc (.cells [.pointer none, .int .i64 0].toArray 135)
 dsimp only [List.toArray] at hk3
 have hO3 := hk3.blk HO2.out (fun f => f)
 have HK3 := Lib.hid (HK2.out.trans hk3)
 generalize w2.alloc (.cells #[.pointer none, .int .i64 0] 135) = w3 at *
 generalize w2.heap.size = ob at *
 obtain ⟨n0, n1, n2, n3, n4, n5, n6, n7, n8, n9, n10⟩ := cs11 hO3
 obtain ⟨fz0, fz1, fz2, fz3, fz4, fz5, fz6, fz7, fz8, fz9, fz10⟩ := fz11 hO3
 have hO6 := set11_blk hO3 rfl zB
 have k6 := set11_kept w3 rb zB
 have HK6 : Hid (Kept (fun _ => False) w (set11 w3 rb zB)) := Lib.hid (HK3.out.trans' k6 (fun i hi e => by have := HRB.out; omega))
 unfold set11 at HK6 hO6
 dsimp only [List.length_nil, Int.natCast_zero] at HK6 hO6
 obtain ⟨z0, z1, z2, z3, z4, z5, z6, z7, z8, z9, z10⟩ := cs11 hO6
 clear hO3 hO6 k6 hk3 HO2 HK2 HK3
 go_wp2_with fail
 exact bodyPost_ret (v := .tuple #[bv zB, .bool false]) (by simp [results, Tryz.results80, go_sem, z0, z1, z2, z3, z4, z5, z6, z7, z8, z9, z10]) rfl ⟨rfl, HK6.out⟩
theorem standing_nil (k : Int) (w : World) : Calls Tryz.prog 80 #[.pointer none, .int .i64 k] w fun e w' => e = .returned (.tuple #[bv zB, .bool false]) ∧ Kept (fun _ => False) w w' := standing_off fun w' _ => find_nil k w'
theorem len_nil (w : World) : Calls Tryz.prog 53 #[.pointer none] w fun e w' => e = .returned (.int .i64 0) ∧ w = w' := by
 go_enter Tryz.func53, Tryz.ntmps53
 go_wp2_with fail
 go_ret
 exact ⟨rfl, rfl⟩
end Go.Proofs.YtpogpibjkolioaaGreat.Po

/- A port's lines, told. Conditions: each theorem's own. -/
namespace Go.Proofs.YtpogpibjkolioaaGreat.Po
open Go.RowKit Hp QuM QuN Rw Qu NumM NumC
attribute [local go_sem ↓] Go.wp_at_zero Go.wp_at_succ
variable {w0 w w' : World} {b qf qc pb : Nat} {room most : Int} {trim : Bool} {ls : Nat → List Bx} {cr : List Bx} {now nxt : Int} {Ff Fc F : Nat → Prop}
abbrev Ln := Nat × Nat
@[reducible] def lT : Rw.Ty Ln where
 E := 135
 L := 156
 k := 2
 bz := 16
 enc x := [.pointer (some ⟨x.1, 0, none⟩), .int .i64 (x.2 : Nat)]
 z := .agg #[.pointer none, .int .i64 0]
 hL := Tryz.underlying156
 hI := by kernel_rfl
 hz := rfl
 hk _ := rfl
 h1 x v hv := by simp at hv; rcases hv with rfl | rfl <;> rfl
 k0 := by decide
 hb := by decide
def lq (qf qc i : Nat) : Ln := if i < 8 then (qf, 7 - i) else (qc, 0)
abbrev lsts (qf qc n : Nat) : List Ln := (List.range n).map (lq qf qc)
theorem lsts_succ (qf qc n : Nat) : lsts qf qc (n + 1) = lsts qf qc n ++ [lq qf qc n] := by unfold lsts; rw [List.range_succ, List.map_append]; rfl
theorem lsts_len (qf qc n : Nat) : (lsts qf qc n).length = n := by unfold lsts; rw [List.length_map, List.length_range]
set_option maxRecDepth 100000 in
set_option maxHeartbeats 8000000 in
theorem lines_any (h : Blk w b (pcs trim qf qc pb now) tP) :
  Calls Tryz.prog 92 #[.pointer (some ⟨b, 0, none⟩)] w fun e w' => ∃ v', e = .returned v' ∧ Row lT w' w.heap.size v' (lsts qf qc 9) ∧ Kept (fun _ => False) w w' := by
 have H := Lib.hid h
 have CL := Lib.hid fun (w' : World) (k : Kept (fun _ => False) w w') => creditLine_any (k.blk h (fun f => f))
 clear h
 go_enter Tryz.func92, Tryz.ntmps92
 go_upto_region 2 with (first | ((with_reducible refine wpList_make lT rfl _ _ rfl (9 : Int) 9 rfl rfl rfl (by omega) ?_); intro w1 hr1 hk1))
 have HR1 := Lib.hid hr1
 have HK1 := Lib.hid hk1
 clear hr1 hk1
 obtain ⟨v0, hv0⟩ : ∃ v0, Value.slice (some ⟨w.heap.size, 0, none⟩) 0 9 = v0 := ⟨_, rfl⟩
 rw [hv0] at HR1
 simp only [hv0]
 clear hv0
 go_wp2_with fail
 go_loopg [3, 4] 8 (fun mm s3 s4 wr => ∃ (i : Nat), Hid (8 - i ≤ mm) ∧ i ≤ 8 ∧ s4 = .int .i64 (7 - (i : Nat) : Int) ∧ Hid (Row lT wr w.heap.size s3 (lsts qf qc i)) ∧ Hid (Kept (fun _ => False) w wr))
 case atStart => exact ⟨0, Lib.hid (by omega), Nat.zero_le _, rfl, HR1, HK1⟩
 case round =>
  obtain ⟨i, hmm, hi, rfl, hRr, hkl⟩ := hrel
  rcases Nat.lt_or_ge i 8 with hlt | hge
  ·have hP := hkl.out.blk H.out (fun f => f)
   have d1 := hP.cell (o := 1) rfl
   have g1 : (0 : Int) ≤ 7 - (i : Int) := by omega
   have e : lsts qf qc (i + 1) = lsts qf qc i ++ [(qf, 7 - i)] := by rw [lsts_succ]; unfold lq; rw [if_pos hlt]
   have HE := Lib.hid e
   have hci : (7 : Int) - (i : Int) = ((7 - i : Nat) : Int) := by omega
   rw [hci] at g1 ⊢
   have HCI := Lib.hid hci
   obtain ⟨j, hj⟩ : ∃ j, 7 - i = j := ⟨_, rfl⟩
   rw [hj] at HE HCI g1 ⊢
   have hj8 : j < 8 := by omega
   have hBs := Blk.new wr [.pointer (some ⟨qf, 0, none⟩), .int .i64 (j : Nat)] lT.E
   have hks : Kept (fun _ => False) wr (wr.alloc (.cells [.pointer (some ⟨qf, 0, none⟩), .int .i64 (j : Nat)].toArray lT.E)) := (Kept.refl _ wr).alloc _
   have HBS := Lib.hid hBs
   have HKS := Lib.hid hks
   dsimp only [List.toArray] at HBS HKS
   clear hBs hks hP e hci
   go_wp2_with (refine wpList_app lT rfl _ _ rfl w.heap.size rfl (hRr.out.old HKS.out) rfl (src_blk 1 (K := [(qf, j)]) HBS.out) (by rw [lsts_len, List.length_singleton]; omega) (Nat.le_trans (hkl.out.trans HKS.out).size (Nat.le_refl _)) ?_; rintro v5 w5 hA)
   have HR5 : Hid (Row lT w5 w.heap.size v5 (lsts qf qc (i + 1))) := Lib.hid (by rw [HE.out]; exact hA.row)
   have HK5 : Hid (Kept (fun _ => False) w w5) := Lib.hid ((hkl.out.trans HKS.out).trans' hA.kept (fun k hk e => by have := (hRr.out.lt k e).1; omega))
   clear hA HBS HKS hRr hkl d1
   go_wp2_with fail
   go_roundg (8 - (i + 1))
   case measure => have := hmm.out; omega
   case rel => exact ⟨i + 1, Lib.hid (Nat.le_refl _), by omega, by have := HCI.out; go_num, HR5, HK5⟩
  ·obtain rfl : i = 8 := by omega
   have e : lsts qf qc 9 = lsts qf qc 8 ++ [(qc, 0)] := by rw [lsts_succ]; rfl
   have HE := Lib.hid e
   clear e
   go_wp2_with fail
   with_reducible refine Calls.mono (CL.out _ hkl.out) ?_
   rintro e w4 ⟨rfl, hk4⟩
   have hBs := Blk.new w4 [.pointer (some ⟨qc, 0, none⟩), .int .i64 0] lT.E
   have hks : Kept (fun _ => False) w4 (w4.alloc (.cells [.pointer (some ⟨qc, 0, none⟩), .int .i64 0].toArray lT.E)) := (Kept.refl _ w4).alloc _
   have HBS := Lib.hid hBs
   have HKS := Lib.hid hks
   have HR4 := Lib.hid (hRr.out.old hk4)
   have HK4 := Lib.hid (hkl.out.trans hk4)
   dsimp only [List.toArray] at HBS HKS
   clear hBs hks hk4 hRr hkl
   go_wp2_with (refine wpList_app lT rfl _ _ rfl w.heap.size rfl (HR4.out.old HKS.out) rfl (src_blk 1 (K := [(qc, 0)]) HBS.out) (by rw [lsts_len, List.length_singleton]; omega) (Nat.le_trans (HK4.out.trans HKS.out).size (Nat.le_refl _)) ?_; rintro v5 w5 hA)
   have HR5 : Hid (Row lT w5 w.heap.size v5 (lsts qf qc 9)) := Lib.hid (by rw [HE.out]; exact hA.row)
   have HK5 : Hid (Kept (fun _ => False) w w5) := Lib.hid ((HK4.out.trans HKS.out).trans' hA.kept (fun k hk e => by have := (HR4.out.lt k e).1; omega))
   clear hA HBS HKS HR4 HK4
   go_wp2_with fail
   go_ret
   exact ⟨_, rfl, HR5.out, HK5.out⟩
end Go.Proofs.YtpogpibjkolioaaGreat.Po

/- A row of items: one read, one set. Conditions: each theorem's own. -/
namespace Go.Proofs.YtpogpibjkolioaaGreat.Po
open Go.RowKit Hp QuM QuN Rw Qu
theorem lies_set {α : Type} {t : Rw.Ty α} {w : World} {g cap : Nat} {cur : List Value} {l : List α} (h : Lies t w g cap cur l) {i : Nat} (hi : i < l.length) (x : α) : Lies t (setW w g (i * t.k) (t.enc x)) g cap (setsL cur (i * t.k) (t.enc x)) (l.set i x) := by
 have hk := t.hk x
 have h1 : (i + 1) * t.k ≤ l.length * t.k := Nat.mul_le_mul_right _ hi
 have h2 : l.length * t.k ≤ cap * t.k := Nat.mul_le_mul_right _ h.le
 rw [Nat.add_mul, Nat.one_mul] at h1
 have hc := h.len
 refine ⟨setW_blk _ _ h.blk, by rw [List.length_set]; exact h.le, h.most, by rw [setsL_len]; exact hc, ?_⟩
 rw [List.length_set]
 apply List.ext_getElem?
 intro j
 by_cases hj : j < l.length * t.k
 ·rw [List.getElem?_take, if_pos hj]
  obtain ⟨q, r, hr, hq, rfl⟩ : ∃ q r, r < t.k ∧ q < l.length ∧ j = q * t.k + r := ⟨j / t.k, j % t.k, Nat.mod_lt _ t.k0, Nat.div_lt_of_lt_mul (by rw [Nat.mul_comm]; exact hj), by rw [Nat.mul_comm]; exact (Nat.div_add_mod j t.k).symm⟩
  by_cases e : i = q
  ·subst e
   rw [setsL_in _ _ _ _ (by omega) (by omega), flat_at t (x := x) (by rw [List.getElem?_set_self hi]) hr]
  ·have hout : q * t.k + r < i * t.k ∨ i * t.k + (t.enc x).length ≤ q * t.k + r := by
    rcases Nat.lt_or_ge q i with h | h
    ·have := Nat.mul_le_mul_right t.k (show q + 1 ≤ i from h); rw [Nat.add_mul, Nat.one_mul] at this; omega
    ·have := Nat.mul_le_mul_right t.k (show i + 1 ≤ q by omega); rw [Nat.add_mul, Nat.one_mul] at this; omega
   rw [setsL_out _ _ _ _ hout, h.cur_at hj, flat_at t (x := l[q]) (List.getElem?_eq_getElem hq) hr, flat_at t (x := l[q]) (by rw [List.getElem?_set_ne e, List.getElem?_eq_getElem hq]) hr]
 ·rw [List.getElem?_eq_none (by rw [List.length_take, setsL_len]; omega), List.getElem?_eq_none (by rw [flat_len, List.length_set]; omega)]
abbrev setB (w : World) (g p : Nat) (x : Bx) : World := ((((((((((w.setCell ⟨g, p * 11, none⟩ (.int .i64 x.f.kind)).setCell ⟨g, p * 11 + 1, none⟩ (.int .i64 x.f.src)).setCell ⟨g, p * 11 + 2, none⟩ (.int .i64 x.f.dst)).setCell ⟨g, p * 11 + 3, none⟩ (.int .i64 x.f.prio)).setCell ⟨g, p * 11 + 4, none⟩ (.int .u64 (x.f.msg : Int))).setCell ⟨g, p * 11 + 5, none⟩ (.int .i64 x.f.off)).setCell ⟨g, p * 11 + 6, none⟩ (.int .i64 x.f.len)).setCell ⟨g, p * 11 + 7, none⟩ (.int .i64 x.f.total)).setCell ⟨g, p * 11 + 8, none⟩ (.int .i64 x.f.num)).setCell ⟨g, p * 11 + 9, none⟩ (.slice x.s x.f.data.length x.c)).setCell ⟨g, p * 11 + 10, none⟩ (.int .i64 x.q)
theorem ln_cells {w : World} {g cap : Nat} {cur : List Value} {l : List Ln} (h : Lies lT w g cap cur l) {i : Nat} {x : Ln} (hi : l[i]? = some x) :
  w.cell? ⟨g, i * 2, none⟩ = some (.pointer (some ⟨x.1, 0, none⟩)) ∧ w.cell? ⟨g, i * 2 + 1, none⟩ = some (.int .i64 (x.2 : Nat)) :=
 ⟨by have := h.cell (t := lT) hi (j := 0) (u := .pointer (some ⟨x.1, 0, none⟩)) rfl; simpa using this, by have := h.cell (t := lT) hi (j := 1) (u := .int .i64 (x.2 : Nat)) rfl; simpa using this⟩
end Go.Proofs.YtpogpibjkolioaaGreat.Po

/- A port: Waiting. Conditions: each theorem's own. -/
namespace Go.Proofs.YtpogpibjkolioaaGreat.Po
open Go.RowKit Hp QuM QuN Rw Qu NumM NumC
attribute [local go_sem ↓] Go.wp_at_zero Go.wp_at_succ
variable {w0 w w' : World} {b qf qc pb : Nat} {room most : Int} {trim : Bool} {ls : Nat → List Bx} {cr : List Bx} {now nxt : Int} {Ff Fc F : Nat → Prop}
def lnl (ls : Nat → List Bx) (cr : List Bx) (i : Nat) : List Bx := if i < 8 then ls (7 - i) else cr
def accL (ls : Nat → List Bx) (cr : List Bx) : Nat → List Bx
  | 0 => []
  | n + 1 => accL ls cr n ++ lnl ls cr n
theorem acc_mem {x : Bx} : ∀ {n : Nat}, n ≤ 9 → x ∈ accL ls cr n → (∃ k, k < 8 ∧ x ∈ ls k) ∨ x ∈ cr
  | 0, _, h => by cases h
  | n + 1, hn, h => by
    rcases List.mem_append.1 h with h | h
    · exact acc_mem (by omega) h
    · unfold lnl at h
      split at h
      · exact Or.inl ⟨7 - n, by omega, h⟩
      · exact Or.inr h
theorem acc_le : ∀ {n m : Nat}, n ≤ m → (accL ls cr n).length ≤ (accL ls cr m).length
  | n, 0, h => by obtain rfl : n = 0 := by omega
                  exact Nat.le_refl _
  | n, m + 1, h => by
    by_cases e : n = m + 1
    · subst e; exact Nat.le_refl _
    · have := acc_le (n := n) (m := m) (by omega); show _ ≤ (accL ls cr m ++ lnl ls cr m).length; rw [List.length_append]; omega
theorem lnl_le {i : Nat} (hi : i < 9) : (lnl ls cr i).length ≤ (accL ls cr 9).length := by
  have h := acc_le (ls := ls) (cr := cr) (n := i + 1) (m := 9) (by omega)
  have : (accL ls cr (i + 1)).length = (accL ls cr i).length + (lnl ls cr i).length := by show (accL ls cr i ++ lnl ls cr i).length = _; rw [List.length_append]
  omega
abbrev ky (x : Bx) : WrM.Frm × Int := (x.f, x.q)
def Dt (w : World) (base : Nat) (y : Bx) : Prop := Byt.Row w base (.slice y.s y.f.data.length y.c) y.f.data
end Go.Proofs.YtpogpibjkolioaaGreat.Po

/- Acks in eight lines, as lists: their order. Conditions: each theorem's own. -/
namespace Go.Proofs.YtpogpibjkolioaaGreat.Po
open Go.RowKit Hp QuM Qu
abbrev qF (p i : Int) : WrM.Frm := ⟨5, 0, 1, p, 0, 0, 0, 0, i, []⟩
theorem nb_ne {x : Bx} (h : x.f.kind ≠ 1) : szI (nb x) = 26 := by
 unfold nb szI
 rw [if_neg h]
 decide
theorem sumB_ne : ∀ {L : List Bx}, (∀ x ∈ L, x.f.kind ≠ 1) → sumB L = 26 * (L.length : Int)
 | [], _ => rfl
 | x :: L, h => by
  have h1 := sumB_ne (L := L) (fun y hy => h y (List.mem_cons_of_mem _ hy))
  have h2 := nb_ne (h x List.mem_cons_self)
  show szI (nb x) + sumB L = _
  rw [h1, h2, List.length_cons]
  omega
theorem tot_ne {ls : Nat → List Bx} : ∀ {n : Nat}, (∀ k x, k < n → x ∈ ls k → x.f.kind ≠ 1) → tot ls n = 26 * (cnt ls n : Int)
 | 0, _ => rfl
 | n + 1, h => by
  have h1 := tot_ne (ls := ls) (n := n) (fun k x hk hx => h k x (by omega) hx)
  have h2 := sumB_ne (L := ls n) (fun x hx => h n x (by omega) hx)
  show tot ls n + sumB (ls n) = 26 * ((cnt ls n + (ls n).length : Nat) : Int)
  rw [h1, h2]
  omega
structure Hs (ls : Nat → List Bx) (n : Nat) : Prop where
 mem : ∀ k x, k < 8 → x ∈ ls k → x.f.kind = 5 ∧ x.f.prio = (k : Int) ∧ 0 ≤ x.f.num ∧ x.f.num < n
 srt : ∀ k, k < 8 → (ls k).Pairwise (fun a c => a.f.num < c.f.num)
theorem Hs.tot {ls : Nat → List Bx} {n : Nat} (h : Hs ls n) : tot ls 8 = 26 * (cnt ls 8 : Int) := tot_ne fun k x hk hx => by rw [(h.mem k x hk hx).1]; decide
theorem Hs.push {ls : Nat → List Bx} {n p : Nat} (h : Hs ls n) (hp : p < 8) {y : Bx} (hy : y.f = qF p n) : Hs (upd ls p (ls p ++ [y])) (n + 1) := by
 constructor
 ·intro k x hk hx
  by_cases e : k = p
  ·subst e
   rw [upd_self] at hx
   rcases List.mem_append.1 hx with hx | hx
   ·obtain ⟨h1, h2, h3, h4⟩ := h.mem k x hk hx
    exact ⟨h1, h2, h3, by omega⟩
   ·rw [List.mem_singleton] at hx
    subst hx
    rw [hy]
    exact ⟨rfl, rfl, by show (0 : Int) ≤ (n : Int); omega, by show (n : Int) < _; omega⟩
  ·rw [upd_ne _ _ e] at hx
   obtain ⟨h1, h2, h3, h4⟩ := h.mem k x hk hx
   exact ⟨h1, h2, h3, by omega⟩
 ·intro k hk
  by_cases e : k = p
  ·subst e
   rw [upd_self]
   refine List.pairwise_append.2 ⟨h.srt k hk, List.pairwise_singleton _ _, fun a ha c hc => ?_⟩
   rw [List.mem_singleton] at hc
   subst hc
   have := (h.mem k a hk ha).2.2.2
   rw [hy]
   exact this
  ·rw [upd_ne _ _ e]; exact h.srt k hk
end Go.Proofs.YtpogpibjkolioaaGreat.Po

/- A queue in memory: At. Conditions: each theorem's own. -/
namespace Go.Proofs.YtpogpibjkolioaaGreat.Po
open Go.RowKit Hp QuM QuN Rw Qu
attribute [local go_sem ↓] Go.wp_at_zero Go.wp_at_succ
theorem ring_at {w : World} {v : Value} {f : Nat} {L : List It} (h : RingV w v f L) {k : Nat} {x : It} (hx : L[k]? = some x) :
  ∃ g P, v = .slice (some ⟨g, 0, none⟩) P.length P.length ∧ Blk w g (flat iT P) iT.E ∧ Pow P.length ∧ Ring P f L := by
 cases h with
 | nil => simp at hx
 | lies g P f L blk pow four ring => exact ⟨g, P, rfl, blk, pow, ring⟩
set_option maxRecDepth 100000 in
set_option maxHeartbeats 8000000 in
theorem qat_any {w0 w : World} {b : Nat} {room : Int} {ls : Nat → List Bx} {F : Nat → Prop} (h : St w0 b room ls F w) {p k : Nat} {P K : Int} (hP : P = (p : Nat)) (hK : K = (k : Nat)) (hp : p < 8) {x : Bx} (hx : (ls p)[k]? = some x) (hl : (ls p).length ≤ 100000) :
  Calls Tryz.prog 95 #[.pointer (some ⟨b, 0, none⟩), .int .i64 P, .int .i64 K] w fun e w' => e = .returned (.tuple #[bv x, .bool true]) ∧ Kept (fun _ => False) w w' := by
 subst hP
 subst hK
 have hkl := (List.getElem?_eq_some_iff.1 hx).1
 obtain ⟨h0, hr0, c, vs, fs, h1, h2, h3, h4⟩ := id h
 have HY := Lib.hid fun (w' : World) (hk : Kept (fun _ => False) w w') => has_yes (p := (p : Nat)) (k := (k : Nat)) rfl hp ((hk.blk h1.blk (fun f => f)).cell (h1.cn p hp)) (by omega) (by omega)
 have hxi : ((ls p).map it)[k]? = some (it x) := by rw [List.getElem?_map, hx]; rfl
 obtain ⟨g, L, hv, hG, hpw, hring⟩ := ring_at (h1.ring p hp) hxi
 have hat := hring.at' k _ hxi
 have hkL : k < L.length := by have := hring.le; rw [List.length_map] at this; omega
 have PL := Lib.hid fun (w' : World) (hk : Kept (fun _ => False) w w') =>
  place_any (w := w') (b := b) (o := 2 + p * 3) (g := g) (f := fs p) (n := L.length) (k := k) (K := (k : Nat)) ((hk.blk h1.blk (fun f => f)).cell (by rw [h1.cv p hp, hv])) ((hk.blk h1.blk (fun f => f)).cell (h1.cf p hp)) hpw hring.f0 hkL rfl
 have HG := Lib.hid hG
 have HAT := Lib.hid hat
 have hp' : (p : Int) < 8 := by omega
 unfold it at HAT
 generalize szI (nb x) = z at *
 clear h0 hr0 h1 h2 h3 h4 hv hG hpw hring hat hkL hxi hx hkl h
 generalize (fs p + k) % L.length = r at *
 go_enter Tryz.func95, Tryz.ntmps95
 go_upto_region 1 with fail
 have hO := Blk.new w [.int .i64 0, .int .i64 0, .int .i64 0, .int .i64 0, .int .u64 0, .int .i64 0, .int .i64 0, .int .i64 0, .int .i64 0, .slice none 0 0, .int .i64 0] 83
 have hk1 := (Kept.refl (fun _ => False) w).alloc (.cells [.int .i64 0, .int .i64 0, .int .i64 0, .int .i64 0, .int .u64 0, .int .i64 0, .int .i64 0, .int .i64 0, .int .i64 0, .slice none 0 0, .int .i64 0].toArray 83)
 dsimp only [List.toArray] at hO hk1
 generalize w.alloc (.cells #[.int .i64 0, .int .i64 0, .int .i64 0, .int .i64 0, .int .u64 0, .int .i64 0, .int .i64 0, .int .i64 0, .int .i64 0, .slice none 0 0, .int .i64 0] 83) = w1 at *
 obtain ⟨rb, hrb⟩ : ∃ rb, w.heap.size = rb := ⟨_, rfl⟩
 rw [hrb] at hO
 simp only [hrb]
 have HRB := Lib.hid hrb
 have HO := Lib.hid hO
 have HK := Lib.hid hk1
 clear hrb hO hk1
 go_wp2_with fail
 with_reducible refine Calls.mono (HY.out _ HK.out) ?_
 rintro e w2 ⟨rfl, rfl⟩
 go_wp2_with fail
 with_reducible refine Calls.mono (PL.out _ HK.out) ?_
 rintro e w3 ⟨rfl, hk3⟩
 have hk03 := HK.out.trans hk3
 have hG3 := hk03.blk HG.out (fun f => f)
 have hO3 := hk3.blk HO.out (fun f => f)
 obtain ⟨d0, d1, d2, d3, d4, d5, d6, d7, d8, d9, d10, d11⟩ := it_cells hG3 HAT.out
 obtain ⟨⟨x1, x2, x3, x4, x5, x6, x7, x8, x9, xd⟩, xa, xc, xq⟩ := x
 obtain ⟨n0, n1, n2, n3, n4, n5, n6, n7, n8, n9, n10⟩ := cs11 hO3
 obtain ⟨fz0, fz1, fz2, fz3, fz4, fz5, fz6, fz7, fz8, fz9, fz10⟩ := fz11 hO3
 have hO6 := set11_blk hO3 rfl ⟨⟨x1, x2, x3, x4, x5, x6, x7, x8, x9, xd⟩, xa, xc, xq⟩
 have k6 := set11_kept w3 rb ⟨⟨x1, x2, x3, x4, x5, x6, x7, x8, x9, xd⟩, xa, xc, xq⟩
 have HK6 : Hid (Kept (fun _ => False) w (set11 w3 rb ⟨⟨x1, x2, x3, x4, x5, x6, x7, x8, x9, xd⟩, xa, xc, xq⟩)) := Lib.hid (hk03.trans' k6 (fun i hi e => by have := HRB.out; omega))
 unfold set11 at HK6 hO6
 dsimp only at HK6 hO6
 obtain ⟨z0, z1, z2, z3, z4, z5, z6, z7, z8, z9, z10⟩ := cs11 hO6
 clear hO3 hO6 k6 hk03 hk3 hG3 HY PL HG HAT HO HK d11
 go_wp2_with fail
 exact bodyPost_ret (v := .tuple #[bv ⟨⟨x1, x2, x3, x4, x5, x6, x7, x8, x9, xd⟩, xa, xc, xq⟩, .bool true]) (by simp [results, Tryz.results95, go_sem, z0, z1, z2, z3, z4, z5, z6, z7, z8, z9, z10]) rfl ⟨rfl, HK6.out⟩
end Go.Proofs.YtpogpibjkolioaaGreat.Po

/- A port: which one is the k-th. Conditions: each theorem's own. -/
namespace Go.Proofs.YtpogpibjkolioaaGreat.Po
open Go.RowKit Hp QuM QuN Rw Qu NumM NumC
attribute [local go_sem ↓] Go.wp_at_zero Go.wp_at_succ
variable {w0 w w' : World} {b qf qc pb : Nat} {room most : Int} {trim : Bool} {ls : Nat → List Bx} {cr : List Bx} {now nxt : Int} {Ff Fc F : Nat → Prop}
theorem count_of (hp : Prt w0 b qf qc pb room most trim ls cr now nxt Ff Fc w) {i : Nat} (hi : i < 9) :
  Calls Tryz.prog 93 #[.pointer (some ⟨(lq qf qc i).1, 0, none⟩), .int .i64 ((lq qf qc i).2 : Nat)] w fun e w' => e = .returned (.int .i64 ((lnl ls cr i).length : Nat)) ∧ w = w' := by
 unfold lq lnl
 split
 ·obtain ⟨h0, hr0, c, vs, fs, h1, h2, h3, h4⟩ := hp.fr
  exact count_at rfl (by omega) (h1.blk.cell (h1.cn (7 - i) (by omega)))
 ·obtain ⟨h0, hr0, c, vs, fs, h1, h2, h3, h4⟩ := hp.cq
  have := count_at (n := (crl cr 0).length) (p := ((0 : Nat) : Int)) rfl (by decide) (h1.blk.cell (h1.cn 0 (by decide)))
  rw [show crl cr 0 = cr from upd_self _ _ _] at this
  exact this
theorem find_neg {q : Option Addr} {k : Int} (hk : k < 0) (w : World) : Calls Tryz.prog 77 #[.pointer q, .int .i64 k] w fun e w' => e = .returned (.tuple #[lz, .int .i64 0, .bool false]) ∧ Kept (fun _ => False) w w' := by
 rcases q with _ | a
 ·exact find_nil k w
 ·go_enter Tryz.func77, Tryz.ntmps77
  go_upto_region 1 with fail
  have hO := Blk.new w [.pointer none, .int .i64 0] 135
  have hk1 := (Kept.refl (fun _ => False) w).alloc (.cells [.pointer none, .int .i64 0].toArray 135)
  dsimp only [List.toArray] at hO hk1
  generalize w.alloc (.cells #[.pointer none, .int .i64 0] 135) = w1 at *
  obtain ⟨rb, hrb⟩ : ∃ rb, w.heap.size = rb := ⟨_, rfl⟩
  rw [hrb] at hO
  simp only [hrb]
  have HRB := Lib.hid hrb
  clear hrb
  have n0 := hO.cell (o := 0) rfl
  have n1 := hO.cell (o := 1) rfl
  have f0 := hO.frozen 0
  have f1 := hO.frozen 1
  have hO5 := (hO.set 0 (.pointer none)).set 1 (.int .i64 0)
  have HK5 : Hid (Kept (fun _ => False) w ((w1.setCell ⟨rb, 0, none⟩ (.pointer none)).setCell ⟨rb, 1, none⟩ (.int .i64 0))) := Lib.hid ((hk1.set (b := rb) (fun h => by have := HRB.out; omega) _ _).set (b := rb) (fun h => by have := HRB.out; omega) _ _)
  have z0 := hO5.cell (o := 0) rfl
  have z1 := hO5.cell (o := 1) rfl
  clear hO hO5 hk1
  go_wp2_with fail
  exact bodyPost_ret (v := .tuple #[lz, .int .i64 0, .bool false]) (by simp [results, Tryz.results77, go_sem, z0, z1]) rfl ⟨rfl, HK5.out⟩
def FdR (ls : Nat → List Bx) (cr : List Bx) (qf qc k : Nat) (v : Value) : Prop :=
 (∃ i at_, i < 9 ∧ at_ < (lnl ls cr i).length ∧ (accL ls cr i).length + at_ = k ∧ v = .tuple #[lv (lq qf qc i).1 ((lq qf qc i).2 : Nat), .int .i64 (at_ : Nat), .bool true]) ∨ ((accL ls cr 9).length ≤ k ∧ v = .tuple #[lz, .int .i64 0, .bool false])
theorem acc_succ (ls : Nat → List Bx) (cr : List Bx) (i : Nat) : (accL ls cr (i + 1)).length = (accL ls cr i).length + (lnl ls cr i).length := by
 show (accL ls cr i ++ lnl ls cr i).length = _; rw [List.length_append]
set_option maxRecDepth 100000 in
set_option maxHeartbeats 8000000 in
theorem find_any (hp : Prt w0 b qf qc pb room most trim ls cr now nxt Ff Fc w) {k : Nat} (hk : (k : Int) ≤ 9223372036854775807) (hn : (accL ls cr 9).length ≤ 100000) :
  Calls Tryz.prog 77 #[.pointer (some ⟨b, 0, none⟩), .int .i64 (k : Nat)] w fun e w' => ∃ v, e = .returned v ∧ FdR ls cr qf qc k v ∧ Kept (fun _ => False) w w' := by
 have HP := Lib.hid hp
 have LI := Lib.hid fun (w' : World) (kk : Kept (fun _ => False) w w') => lines_any (kk.blk hp.blk (fun f => f))
 have HN := Lib.hid hn
 clear hp hn
 go_enter Tryz.func77, Tryz.ntmps77
 go_upto_region 1 with fail
 have hO := Blk.new w [.pointer none, .int .i64 0] 135
 have hk1 := (Kept.refl (fun _ => False) w).alloc (.cells [.pointer none, .int .i64 0].toArray 135)
 dsimp only [List.toArray] at hO hk1
 generalize w.alloc (.cells #[.pointer none, .int .i64 0] 135) = w1 at *
 obtain ⟨rb, hrb⟩ : ∃ rb, w.heap.size = rb := ⟨_, rfl⟩
 rw [hrb] at hO
 simp only [hrb]
 have HRB := Lib.hid hrb
 have HO := Lib.hid hO
 have HK := Lib.hid hk1
 clear hrb hO hk1
 go_wp2_with fail
 with_reducible refine Calls.mono (LI.out _ HK.out) ?_
 rintro e w2 ⟨v', rfl, hr1, hk2⟩
 obtain ⟨g, cap, cur, rfl, hg, hL⟩ : ∃ g cap cur, v' = .slice (some ⟨g, 0, none⟩) 9 cap ∧ w1.heap.size ≤ g ∧ Lies lT w2 g cap cur (lsts qf qc 9) := by
  rcases hr1.form with ⟨_, h0⟩ | ⟨g, cap, cur, e, h1, h2⟩
  ·have := lsts_len qf qc 9; rw [h0] at this; cases this
  ·rw [lsts_len] at e; exact ⟨g, cap, cur, e, h1, h2⟩
 have HL := Lib.hid hL
 have HK2 := Lib.hid (HK.out.trans hk2)
 have HO2 := Lib.hid (hk2.blk HO.out (fun f => f))
 have hcap : 9 ≤ cap := by have := hL.le; rw [lsts_len] at this; exact this
 clear hr1 hk2 hL LI HO HK hg
 go_wp2_with fail
 go_loopg [1, 20] 9 (fun mm s1 s20 wr => ∃ (i r : Nat), Hid (9 - i ≤ mm) ∧ i ≤ 9 ∧ s20 = .int .i64 (i : Nat) ∧ s1 = .int .i64 (r : Nat) ∧ Hid ((accL ls cr i).length + r = k) ∧ Hid (Kept (fun _ => False) w2 wr))
 case atStart => exact ⟨0, k, Lib.hid (by omega), Nat.zero_le _, rfl, rfl, Lib.hid (by show 0 + k = k; omega), Lib.hid (Kept.refl _ _)⟩
 case round =>
  obtain ⟨i, r, hmm, hi, rfl, rfl, hr, hkl⟩ := hrel
  have hrk : (r : Int) ≤ 9223372036854775807 := by have := hr.out; omega
  rcases Nat.lt_or_ge i 9 with hlt | hge
  ·have hlt' : (i : Int) < 9 := by omega
   obtain ⟨d0, d1⟩ := ln_cells (HL.out.kept hkl.out (fun f => f)) (i := i) (x := lq qf qc i) (by unfold lsts; rw [List.getElem?_map, List.getElem?_range hlt]; rfl)
   have CN := Lib.hid fun (w' : World) (kk : Kept (fun _ => False) w w') => count_of (HP.out.old kk) hlt
   have hc1 : (lnl ls cr i).length ≤ 100000 := Nat.le_trans (lnl_le (ls := ls) (cr := cr) hlt) HN.out
   have HSU := Lib.hid (acc_succ ls cr i)
   obtain ⟨q, hq⟩ : ∃ q, (lq qf qc i).1 = q := ⟨_, rfl⟩
   obtain ⟨p, hp⟩ : ∃ p, (lq qf qc i).2 = p := ⟨_, rfl⟩
   obtain ⟨cn, hcn⟩ : ∃ cn, (lnl ls cr i).length = cn := ⟨_, rfl⟩
   have HQ := Lib.hid (And.intro hq (And.intro hp hcn))
   rw [hq, hp, hcn] at CN
   rw [hq] at d0
   rw [hp] at d1
   rw [hcn] at hc1 HSU
   clear hq hp hcn
   go_upto_region 6 with fail
   have hQ := Blk.new wr [.pointer (some ⟨q, 0, none⟩), .int .i64 (p : Nat)] 135
   have hkk := (Kept.refl (fun _ => False) wr).alloc (.cells [.pointer (some ⟨q, 0, none⟩), .int .i64 (p : Nat)].toArray 135)
   dsimp only [List.toArray] at hQ hkk
   have HK3 := Lib.hid (hkl.out.trans hkk)
   have hrl : rb < wr.heap.size := by have h1 := HO2.out.lt; have h2 := hkl.out.size; omega
   generalize wr.alloc (.cells #[.pointer (some ⟨q, 0, none⟩), .int .i64 (p : Nat)] 135) = w3 at *
   generalize wr.heap.size = ob at *
   have c0 := hQ.cell (o := 0) rfl
   have c1 := hQ.cell (o := 1) rfl
   clear hQ hkk hkl d0 d1
   go_wp2_with fail
   with_reducible refine Calls.mono (CN.out _ (HK2.out.trans HK3.out)) ?_
   rintro e w4 ⟨rfl, rfl⟩
   by_cases hlt2 : r < cn
   ·have hlt3 : (r : Int) < (cn : Int) := by omega
    have hO3 := HK3.out.blk HO2.out (fun f => f)
    have n0 := hO3.cell (o := 0) rfl
    have n1 := hO3.cell (o := 1) rfl
    have f0 := hO3.frozen 0
    have f1 := hO3.frozen 1
    have hO5 := (hO3.set 0 (.pointer (some ⟨q, 0, none⟩))).set 1 (.int .i64 (p : Nat))
    have HK5 : Hid (Kept (fun _ => False) w ((w3.setCell ⟨rb, 0, none⟩ (.pointer (some ⟨q, 0, none⟩))).setCell ⟨rb, 1, none⟩ (.int .i64 (p : Nat)))) := Lib.hid (((HK2.out.trans HK3.out).set (b := rb) (fun h => by have := HRB.out; omega) _ _).set (b := rb) (fun h => by have := HRB.out; omega) _ _)
    have z0 := hO5.cell (o := 0) rfl
    have z1 := hO5.cell (o := 1) rfl
    have R : Hid (FdR ls cr qf qc k (.tuple #[lv q (p : Nat), .int .i64 (r : Nat), .bool true])) := Lib.hid (Or.inl ⟨i, r, hlt, by rw [HQ.out.2.2]; exact hlt2, hr.out, by rw [HQ.out.1, HQ.out.2.1]⟩)
    clear hO3 hO5 HK3 HL hcap
    go_wp2_with fail
    exact bodyPost_ret (v := .tuple #[lv q (p : Nat), .int .i64 (r : Nat), .bool true]) (by simp [results, Tryz.results77, go_sem, z0, z1]) rfl ⟨_, rfl, R.out, HK5.out⟩
   ·have hge2 : ¬ ((r : Int) < (cn : Int)) := by omega
    clear CN
    go_wp2_with fail
    go_roundg (9 - (i + 1))
    case measure => have := hmm.out; omega
    case rel => exact ⟨i + 1, r - cn, Lib.hid (Nat.le_refl _), by omega, by go_num, by go_num, Lib.hid (by have := hr.out; have := HSU.out; omega), HK3⟩
  ·obtain rfl : i = 9 := by omega
   have hO3 := hkl.out.blk HO2.out (fun f => f)
   have n0 := hO3.cell (o := 0) rfl
   have n1 := hO3.cell (o := 1) rfl
   have f0 := hO3.frozen 0
   have f1 := hO3.frozen 1
   have hO5 := (hO3.set 0 (.pointer none)).set 1 (.int .i64 0)
   have HK5 : Hid (Kept (fun _ => False) w ((wr.setCell ⟨rb, 0, none⟩ (.pointer none)).setCell ⟨rb, 1, none⟩ (.int .i64 0))) := Lib.hid (((HK2.out.trans hkl.out).set (b := rb) (fun h => by have := HRB.out; omega) _ _).set (b := rb) (fun h => by have := HRB.out; omega) _ _)
   have z0 := hO5.cell (o := 0) rfl
   have z1 := hO5.cell (o := 1) rfl
   have R : Hid (FdR ls cr qf qc k (.tuple #[lz, .int .i64 0, .bool false])) := Lib.hid (Or.inr ⟨by have := hr.out; omega, rfl⟩)
   clear hO3 hO5 hkl HL hcap
   go_wp2_with fail
   exact bodyPost_ret (v := .tuple #[lz, .int .i64 0, .bool false]) (by simp [results, Tryz.results77, go_sem, z0, z1]) rfl ⟨_, rfl, R.out, HK5.out⟩
end Go.Proofs.YtpogpibjkolioaaGreat.Po

