/- Frames: the reader's head. Conditions: each theorem's own. -/
import Derived.Test.YtkbncpclfeiofaaWrTake
set_option linter.unusedVariables false
namespace Go.Proofs.Ytkbncpclfeiofaa.Wr
open Go.RowKit Hp WrM Byt
attribute [local go_sem ↓] Go.wp_at_zero Go.wp_at_succ
theorem tkN_lt (l : List UInt8) (k : Nat) : tkN l k < 256 ^ k := by
  unfold tkN
  split
  · have := val_lt (l.take k)
    rwa [List.length_take, Nat.min_eq_left (by assumption)] at this
  · exact Nat.pow_pos (by omega)
theorem tkL_len (l : List UInt8) (k : Nat) : (tkL l k).length ≤ l.length := by
  unfold tkL
  split
  · simp
  · exact Nat.le_refl _
/-- What the head's reads leave. -/
def left9 (l : List UInt8) : List UInt8 := tkL (tkL (tkL (tkL (tkL (tkL (tkL (tkL (tkL l 1) 1) 1) 1) 8) 4) 4) 2) 4
def sh9 (l : List UInt8) : Bool :=
  tkS (tkL (tkL (tkL (tkL (tkL (tkL (tkL (tkL l 1) 1) 1) 1) 8) 4) 4) 2) 4 (tkS (tkL (tkL (tkL (tkL (tkL (tkL (tkL l 1) 1) 1) 1) 8) 4) 4) 2
    (tkS (tkL (tkL (tkL (tkL (tkL (tkL l 1) 1) 1) 1) 8) 4) 4 (tkS (tkL (tkL (tkL (tkL (tkL l 1) 1) 1) 1) 8) 4 (tkS (tkL (tkL (tkL (tkL l 1) 1) 1) 1) 8
      (tkS (tkL (tkL (tkL l 1) 1) 1) 1 (tkS (tkL (tkL l 1) 1) 1 (tkS (tkL l 1) 1 (tkS l 1 false))))))))
def f9 (l : List UInt8) : Frm :=
  { kind := (tkN l 1 : Nat), src := (tkN (tkL l 1) 1 : Int) / 16, dst := (tkN (tkL l 1) 1 : Int) % 16, prio := (tkN (tkL (tkL l 1) 1) 1 : Nat),
    msg := tkN (tkL (tkL (tkL (tkL l 1) 1) 1) 1) 8, off := (tkN (tkL (tkL (tkL (tkL (tkL l 1) 1) 1) 1) 8) 4 : Nat), total := (tkN (tkL (tkL (tkL (tkL (tkL (tkL l 1) 1) 1) 1) 8) 4) 4 : Nat),
    len := (tkN (tkL (tkL (tkL (tkL (tkL (tkL (tkL l 1) 1) 1) 1) 8) 4) 4) 2 : Nat), num := (tkN (tkL (tkL (tkL (tkL (tkL (tkL (tkL (tkL l 1) 1) 1) 1) 8) 4) 4) 2) 4 : Nat), data := [] }
theorem tkL_drop {l : List UInt8} {i k : Nat} (h : i + k ≤ l.length) : tkL (l.drop i) k = l.drop (i + k) := by
  unfold tkL
  rw [if_pos (by rw [List.length_drop]; omega), List.drop_drop]
theorem tkN_drop {l : List UInt8} {i k : Nat} (h : i + k ≤ l.length) : tkN (l.drop i) k = val ((l.drop i).take k) := by
  unfold tkN
  rw [if_pos (by rw [List.length_drop]; omega)]
theorem tkS_drop {l : List UInt8} {i k : Nat} {b : Bool} (h : i + k ≤ l.length) : tkS (l.drop i) k b = b := by
  unfold tkS
  rw [if_pos (by rw [List.length_drop]; omega)]
theorem chain {l : List UInt8} (h : 26 ≤ l.length) : tkL l 1 = l.drop 1 ∧ tkL (l.drop 1) 1 = l.drop 2 ∧ tkL (l.drop 2) 1 = l.drop 3 ∧ tkL (l.drop 3) 1 = l.drop 4 ∧ tkL (l.drop 4) 8 = l.drop 12 ∧ tkL (l.drop 12) 4 = l.drop 16 ∧ tkL (l.drop 16) 4 = l.drop 20 ∧ tkL (l.drop 20) 2 = l.drop 22 ∧ tkL (l.drop 22) 4 = l.drop 26 :=
  ⟨tkL_drop (i := 0) (by omega), tkL_drop (by omega), tkL_drop (by omega), tkL_drop (by omega), tkL_drop (by omega), tkL_drop (by omega), tkL_drop (by omega), tkL_drop (by omega), tkL_drop (by omega)⟩
theorem left9_long {l : List UInt8} (h : 26 ≤ l.length) : left9 l = l.drop 26 := by
  obtain ⟨e1, e2, e3, e4, e5, e6, e7, e8, e9⟩ := chain h
  unfold left9
  rw [e1, e2, e3, e4, e5, e6, e7, e8, e9]
theorem sh9_long {l : List UInt8} (h : 26 ≤ l.length) : sh9 l = false := by
  obtain ⟨e1, e2, e3, e4, e5, e6, e7, e8, e9⟩ := chain h
  unfold sh9
  rw [e1, e2, e3, e4, e5, e6, e7, e8]
  rw [tkS_drop (by omega), tkS_drop (by omega), tkS_drop (by omega), tkS_drop (by omega), tkS_drop (by omega), tkS_drop (by omega), tkS_drop (by omega), tkS_drop (by omega)]
  exact tkS_drop (i := 0) (by omega)
theorem val_one {l : List UInt8} {i : Nat} (h : i < l.length) : val ((l.drop i).take 1) = (l.getD i 0).toNat := by
  rw [List.drop_eq_getElem_cons h, List.take_succ_cons, List.take_zero]
  simp [val, List.getD, List.getElem?_eq_getElem h]
theorem f9_long {l : List UInt8} (h : 26 ≤ l.length) : f9 l = { flds l with data := [] } := by
  obtain ⟨e1, e2, e3, e4, e5, e6, e7, e8, e9⟩ := chain h
  unfold f9 flds
  rw [e1, e2, e3, e4, e5, e6, e7, e8]
  have t0 : tkN l 1 = (l.getD 0 0).toNat := (tkN_drop (i := 0) (by omega)).trans (val_one (by omega))
  rw [t0, tkN_drop (by omega), tkN_drop (by omega), tkN_drop (by omega), tkN_drop (by omega), tkN_drop (by omega), tkN_drop (by omega), tkN_drop (by omega), val_one (by omega), val_one (by omega)]
  rfl
theorem tkS_true (l : List UInt8) (k : Nat) : tkS l k true = true := by
  unfold tkS
  split <;> rfl
/-- Once one has been too short, it stays so. -/
theorem short_or {l : List UInt8} {k : Nat} {b : Bool} : tkS l k b = true ∨ (tkS l k b = b ∧ (tkL l k).length + k = l.length) := by
  unfold tkS tkL
  split
  · right; exact ⟨rfl, by rw [List.length_drop]; omega⟩
  · left; rfl
theorem sh9_short {l : List UInt8} (h : l.length < 26) : sh9 l = true := by
  unfold sh9
  rcases short_or (l := l) (k := 1) (b := false) with e | ⟨_, n1⟩
  · rw [e]; simp only [tkS_true]
  generalize tkS l 1 false = b1
  generalize tkL l 1 = l1 at *
  rcases short_or (l := l1) (k := 1) (b := b1) with e | ⟨_, n2⟩
  · rw [e]; simp only [tkS_true]
  generalize tkS l1 1 b1 = b2
  generalize tkL l1 1 = l2 at *
  rcases short_or (l := l2) (k := 1) (b := b2) with e | ⟨_, n3⟩
  · rw [e]; simp only [tkS_true]
  generalize tkS l2 1 b2 = b3
  generalize tkL l2 1 = l3 at *
  rcases short_or (l := l3) (k := 1) (b := b3) with e | ⟨_, n4⟩
  · rw [e]; simp only [tkS_true]
  generalize tkS l3 1 b3 = b4
  generalize tkL l3 1 = l4 at *
  rcases short_or (l := l4) (k := 8) (b := b4) with e | ⟨_, n5⟩
  · rw [e]; simp only [tkS_true]
  generalize tkS l4 8 b4 = b5
  generalize tkL l4 8 = l5 at *
  rcases short_or (l := l5) (k := 4) (b := b5) with e | ⟨_, n6⟩
  · rw [e]; simp only [tkS_true]
  generalize tkS l5 4 b5 = b6
  generalize tkL l5 4 = l6 at *
  rcases short_or (l := l6) (k := 4) (b := b6) with e | ⟨_, n7⟩
  · rw [e]; simp only [tkS_true]
  generalize tkS l6 4 b6 = b7
  generalize tkL l6 4 = l7 at *
  rcases short_or (l := l7) (k := 2) (b := b7) with e | ⟨_, n8⟩
  · rw [e]; simp only [tkS_true]
  generalize tkS l7 2 b7 = b8
  generalize tkL l7 2 = l8 at *
  unfold tkS
  rw [if_neg (by omega)]
/-- What head leaves. -/
def HeadP (w : World) (rb : Nat) (l : List UInt8) (e : Ending) (w' : World) : Prop := e = .returned (fv (f9 l) none 0) ∧ RdV w' rb (left9 l) (sh9 l) ∧ Kept (fun q => q = rb) w w'
set_option maxHeartbeats 8000000 in
set_option maxRecDepth 100000 in
theorem head_any {w : World} {rb : Nat} {l : List UInt8} (h : RdV w rb l false) : Calls Try.prog 35 #[.pointer (some ⟨rb, 0, none⟩)] w (HeadP w rb l) := by
  unfold HeadP f9 left9 sh9 fv fcs
  dsimp only [List.length_nil]
  have HRD := Lib.hid h
  have hrb := h.lt
  go_enter Try.func35, Try.ntmps35
  go_upto_region 2 with fail
  have hA : Blk (w.alloc (.cells #[.int .i64 0, .int .i64 0, .int .i64 0, .int .i64 0, .int .u64 0, .int .i64 0, .int .i64 0, .int .i64 0, .int .i64 0, .slice none 0 0] 25)) w.heap.size [.int .i64 0, .int .i64 0, .int .i64 0, .int .i64 0, .int .u64 0, .int .i64 0, .int .i64 0, .int .i64 0, .int .i64 0, .slice none 0 0] 25 := Blk.new w _ _
  have kA : Kept (fun _ => False) w (w.alloc (.cells #[.int .i64 0, .int .i64 0, .int .i64 0, .int .i64 0, .int .u64 0, .int .i64 0, .int .i64 0, .int .i64 0, .int .i64 0, .slice none 0 0] 25)) := (Kept.refl _ w).alloc _
  have sA : (w.alloc (.cells #[.int .i64 0, .int .i64 0, .int .i64 0, .int .i64 0, .int .u64 0, .int .i64 0, .int .i64 0, .int .i64 0, .int .i64 0, .slice none 0 0] 25)).heap.size = w.heap.size + 1 := by simp
  generalize w.alloc (.cells #[.int .i64 0, .int .i64 0, .int .i64 0, .int .i64 0, .int .u64 0, .int .i64 0, .int .i64 0, .int .i64 0, .int .i64 0, .slice none 0 0] 25) = wa at *
  try rw [sA]
  have hF : Blk (wa.alloc (.cells #[.int .i64 0, .int .i64 0, .int .i64 0, .int .i64 0, .int .u64 0, .int .i64 0, .int .i64 0, .int .i64 0, .int .i64 0, .slice none 0 0] 25)) wa.heap.size [.int .i64 0, .int .i64 0, .int .i64 0, .int .i64 0, .int .u64 0, .int .i64 0, .int .i64 0, .int .i64 0, .int .i64 0, .slice none 0 0] 25 := Blk.new wa _ _
  rw [sA] at hF
  have hR : Blk (wa.alloc (.cells #[.int .i64 0, .int .i64 0, .int .i64 0, .int .i64 0, .int .u64 0, .int .i64 0, .int .i64 0, .int .i64 0, .int .i64 0, .slice none 0 0] 25)) w.heap.size [.int .i64 0, .int .i64 0, .int .i64 0, .int .i64 0, .int .u64 0, .int .i64 0, .int .i64 0, .int .i64 0, .int .i64 0, .slice none 0 0] 25 := hA.old _
  have kB : Kept (fun _ => False) w (wa.alloc (.cells #[.int .i64 0, .int .i64 0, .int .i64 0, .int .i64 0, .int .u64 0, .int .i64 0, .int .i64 0, .int .i64 0, .int .i64 0, .slice none 0 0] 25)) := kA.alloc _
  generalize wa.alloc (.cells #[.int .i64 0, .int .i64 0, .int .i64 0, .int .i64 0, .int .u64 0, .int .i64 0, .int .i64 0, .int .i64 0, .int .i64 0, .slice none 0 0] 25) = wb at *
  generalize hra : w.heap.size = ra at *
  have HRA := Lib.hid hra
  clear hA kA sA hra
  have hlt : rb < ra := hrb
  have HR := Lib.hid hR
  have HF := Lib.hid hF
  have HK := Lib.hid (kB.mono (G := fun q => q = rb) (fun _ _ f => f.elim))
  have HD := Lib.hid (HRD.out.kept kB (fun _ f => f.elim))
  clear hR hF kB
  have T1 := Lib.hid (take_any HD.out (k := 1) (by omega) (by omega))
  have N1 := tkN_lt (l) 1
  rw [show (256 : Nat) ^ 1 = 256 from rfl] at N1
  unfold TakeP at T1
  generalize hn1 : tkN (l) 1 = n1 at *
  generalize hl1 : tkL (l) 1 = l1 at *
  generalize hb1 : tkS (l) 1 (false) = b1 at *
  have HN1 := Lib.hid hn1
  have HL1 := Lib.hid hl1
  have HB1 := Lib.hid hb1
  clear hn1 hl1 hb1
  go_wp2_with fail
  with_reducible refine Calls.mono T1.out ?_
  rintro e x1 ⟨rfl, hd1, hk1⟩
  have hR1 := hk1.blk HR.out (by omega)
  have hF1 := hk1.blk HF.out (by omega)
  have hK1 := HK.out.trans hk1
  clear HR HF HK HD T1 hk1
  have f1 := hF1.frozen 0
  have d1 := hF1.cell (o := 0) rfl
  go_upto_region 3 with fail
  have hR1 := hR1.far (p := ra + 1) (by omega) 0 (.int .i64 (n1 : Int))
  have hF1 := hF1.set 0 (.int .i64 (n1 : Int))
  have hK1 := hK1.trans' (Kept.one _ (ra + 1) 0 (.int .i64 (n1 : Int))) (fun i hi e => by have := HRA.out; omega)
  have hd1 := hd1.kept (Kept.one _ (ra + 1) 0 (.int .i64 (n1 : Int))) (fun i e => by omega)
  dsimp only [List.set] at hF1
  generalize x1.setCell ⟨ra + 1, 0, none⟩ (.int .i64 (n1 : Int)) = y1 at *
  clear f1 d1
  have HR := Lib.hid hR1
  have HF := Lib.hid hF1
  have HK := Lib.hid hK1
  have HD := Lib.hid hd1
  clear hR1 hF1 hK1 hd1
  have T2 := Lib.hid (take_any HD.out (k := 1) (by omega) (by omega))
  have N2 := tkN_lt (l1) 1
  rw [show (256 : Nat) ^ 1 = 256 from rfl] at N2
  unfold TakeP at T2
  generalize hn2 : tkN (l1) 1 = n2 at *
  generalize hl2 : tkL (l1) 1 = l2 at *
  generalize hb2 : tkS (l1) 1 (b1) = b2 at *
  have HN2 := Lib.hid hn2
  have HL2 := Lib.hid hl2
  have HB2 := Lib.hid hb2
  clear hn2 hl2 hb2
  go_wp2_with fail
  with_reducible refine Calls.mono T2.out ?_
  rintro e x2 ⟨rfl, hd2, hk2⟩
  have hR2 := hk2.blk HR.out (by omega)
  have hF2 := hk2.blk HF.out (by omega)
  have hK2 := HK.out.trans hk2
  clear HR HF HK HD T2 hk2
  have f2 := hF2.frozen 1
  have d2 := hF2.cell (o := 1) rfl
  have f2b := hF2.frozen 2
  have d2b := hF2.cell (o := 2) rfl
  go_upto_region 5 with fail
  have hR2 := hR2.far (p := ra + 1) (by omega) 1 (.int .i64 ((n2 : Int) / 16))
  have hF2 := hF2.set 1 (.int .i64 ((n2 : Int) / 16))
  have hK2 := hK2.trans' (Kept.one _ (ra + 1) 1 (.int .i64 ((n2 : Int) / 16))) (fun i hi e => by have := HRA.out; omega)
  have hd2 := hd2.kept (Kept.one _ (ra + 1) 1 (.int .i64 ((n2 : Int) / 16))) (fun i e => by omega)
  dsimp only [List.set] at hF2
  have hR2 := hR2.far (p := ra + 1) (by omega) 2 (.int .i64 ((n2 : Int) % 16))
  have hF2 := hF2.set 2 (.int .i64 ((n2 : Int) % 16))
  have hK2 := hK2.trans' (Kept.one _ (ra + 1) 2 (.int .i64 ((n2 : Int) % 16))) (fun i hi e => by have := HRA.out; omega)
  have hd2 := hd2.kept (Kept.one _ (ra + 1) 2 (.int .i64 ((n2 : Int) % 16))) (fun i e => by omega)
  dsimp only [List.set] at hF2
  generalize (x2.setCell ⟨ra + 1, 1, none⟩ (.int .i64 ((n2 : Int) / 16))).setCell ⟨ra + 1, 2, none⟩ (.int .i64 ((n2 : Int) % 16)) = y2 at *
  clear f2 d2 f2b d2b
  have HR := Lib.hid hR2
  have HF := Lib.hid hF2
  have HK := Lib.hid hK2
  have HD := Lib.hid hd2
  clear hR2 hF2 hK2 hd2
  have T3 := Lib.hid (take_any HD.out (k := 1) (by omega) (by omega))
  have N3 := tkN_lt (l2) 1
  rw [show (256 : Nat) ^ 1 = 256 from rfl] at N3
  unfold TakeP at T3
  generalize hn3 : tkN (l2) 1 = n3 at *
  generalize hl3 : tkL (l2) 1 = l3 at *
  generalize hb3 : tkS (l2) 1 (b2) = b3 at *
  have HN3 := Lib.hid hn3
  have HL3 := Lib.hid hl3
  have HB3 := Lib.hid hb3
  clear hn3 hl3 hb3
  go_wp2_with fail
  with_reducible refine Calls.mono T3.out ?_
  rintro e x3 ⟨rfl, hd3, hk3⟩
  have hR3 := hk3.blk HR.out (by omega)
  have hF3 := hk3.blk HF.out (by omega)
  have hK3 := HK.out.trans hk3
  clear HR HF HK HD T3 hk3
  have f3 := hF3.frozen 3
  have d3 := hF3.cell (o := 3) rfl
  go_upto_region 6 with fail
  have hR3 := hR3.far (p := ra + 1) (by omega) 3 (.int .i64 (n3 : Int))
  have hF3 := hF3.set 3 (.int .i64 (n3 : Int))
  have hK3 := hK3.trans' (Kept.one _ (ra + 1) 3 (.int .i64 (n3 : Int))) (fun i hi e => by have := HRA.out; omega)
  have hd3 := hd3.kept (Kept.one _ (ra + 1) 3 (.int .i64 (n3 : Int))) (fun i e => by omega)
  dsimp only [List.set] at hF3
  generalize x3.setCell ⟨ra + 1, 3, none⟩ (.int .i64 (n3 : Int)) = y3 at *
  clear f3 d3
  have HR := Lib.hid hR3
  have HF := Lib.hid hF3
  have HK := Lib.hid hK3
  have HD := Lib.hid hd3
  clear hR3 hF3 hK3 hd3
  have T4 := Lib.hid (take_any HD.out (k := 1) (by omega) (by omega))
  have N4 := tkN_lt (l3) 1
  rw [show (256 : Nat) ^ 1 = 256 from rfl] at N4
  unfold TakeP at T4
  generalize hn4 : tkN (l3) 1 = n4 at *
  generalize hl4 : tkL (l3) 1 = l4 at *
  generalize hb4 : tkS (l3) 1 (b3) = b4 at *
  have HN4 := Lib.hid hn4
  have HL4 := Lib.hid hl4
  have HB4 := Lib.hid hb4
  clear hn4 hl4 hb4
  go_wp2_with fail
  with_reducible refine Calls.mono T4.out ?_
  rintro e x4 ⟨rfl, hd4, hk4⟩
  have hR4 := hk4.blk HR.out (by omega)
  have hF4 := hk4.blk HF.out (by omega)
  have hK4 := HK.out.trans hk4
  clear HR HF HK HD T4 hk4
  go_upto_region 7 with fail
  have HR := Lib.hid hR4
  have HF := Lib.hid hF4
  have HK := Lib.hid hK4
  have HD := Lib.hid hd4
  clear hR4 hF4 hK4 hd4
  have T5 := Lib.hid (take_any HD.out (k := 8) (by omega) (by omega))
  have N5 := tkN_lt (l4) 8
  rw [show (256 : Nat) ^ 8 = 18446744073709551616 from rfl] at N5
  unfold TakeP at T5
  generalize hn5 : tkN (l4) 8 = n5 at *
  generalize hl5 : tkL (l4) 8 = l5 at *
  generalize hb5 : tkS (l4) 8 (b4) = b5 at *
  have HN5 := Lib.hid hn5
  have HL5 := Lib.hid hl5
  have HB5 := Lib.hid hb5
  clear hn5 hl5 hb5
  go_wp2_with fail
  with_reducible refine Calls.mono T5.out ?_
  rintro e x5 ⟨rfl, hd5, hk5⟩
  have hR5 := hk5.blk HR.out (by omega)
  have hF5 := hk5.blk HF.out (by omega)
  have hK5 := HK.out.trans hk5
  clear HR HF HK HD T5 hk5
  have f5 := hF5.frozen 4
  have d5 := hF5.cell (o := 4) rfl
  go_upto_region 8 with fail
  have hR5 := hR5.far (p := ra + 1) (by omega) 4 (.int .u64 (n5 : Int))
  have hF5 := hF5.set 4 (.int .u64 (n5 : Int))
  have hK5 := hK5.trans' (Kept.one _ (ra + 1) 4 (.int .u64 (n5 : Int))) (fun i hi e => by have := HRA.out; omega)
  have hd5 := hd5.kept (Kept.one _ (ra + 1) 4 (.int .u64 (n5 : Int))) (fun i e => by omega)
  dsimp only [List.set] at hF5
  generalize x5.setCell ⟨ra + 1, 4, none⟩ (.int .u64 (n5 : Int)) = y5 at *
  clear f5 d5
  have HR := Lib.hid hR5
  have HF := Lib.hid hF5
  have HK := Lib.hid hK5
  have HD := Lib.hid hd5
  clear hR5 hF5 hK5 hd5
  have T6 := Lib.hid (take_any HD.out (k := 4) (by omega) (by omega))
  have N6 := tkN_lt (l5) 4
  rw [show (256 : Nat) ^ 4 = 4294967296 from rfl] at N6
  unfold TakeP at T6
  generalize hn6 : tkN (l5) 4 = n6 at *
  generalize hl6 : tkL (l5) 4 = l6 at *
  generalize hb6 : tkS (l5) 4 (b5) = b6 at *
  have HN6 := Lib.hid hn6
  have HL6 := Lib.hid hl6
  have HB6 := Lib.hid hb6
  clear hn6 hl6 hb6
  go_wp2_with fail
  with_reducible refine Calls.mono T6.out ?_
  rintro e x6 ⟨rfl, hd6, hk6⟩
  have hR6 := hk6.blk HR.out (by omega)
  have hF6 := hk6.blk HF.out (by omega)
  have hK6 := HK.out.trans hk6
  clear HR HF HK HD T6 hk6
  have f6 := hF6.frozen 5
  have d6 := hF6.cell (o := 5) rfl
  go_upto_region 9 with fail
  have hR6 := hR6.far (p := ra + 1) (by omega) 5 (.int .i64 (n6 : Int))
  have hF6 := hF6.set 5 (.int .i64 (n6 : Int))
  have hK6 := hK6.trans' (Kept.one _ (ra + 1) 5 (.int .i64 (n6 : Int))) (fun i hi e => by have := HRA.out; omega)
  have hd6 := hd6.kept (Kept.one _ (ra + 1) 5 (.int .i64 (n6 : Int))) (fun i e => by omega)
  dsimp only [List.set] at hF6
  generalize x6.setCell ⟨ra + 1, 5, none⟩ (.int .i64 (n6 : Int)) = y6 at *
  clear f6 d6
  have HR := Lib.hid hR6
  have HF := Lib.hid hF6
  have HK := Lib.hid hK6
  have HD := Lib.hid hd6
  clear hR6 hF6 hK6 hd6
  have T7 := Lib.hid (take_any HD.out (k := 4) (by omega) (by omega))
  have N7 := tkN_lt (l6) 4
  rw [show (256 : Nat) ^ 4 = 4294967296 from rfl] at N7
  unfold TakeP at T7
  generalize hn7 : tkN (l6) 4 = n7 at *
  generalize hl7 : tkL (l6) 4 = l7 at *
  generalize hb7 : tkS (l6) 4 (b6) = b7 at *
  have HN7 := Lib.hid hn7
  have HL7 := Lib.hid hl7
  have HB7 := Lib.hid hb7
  clear hn7 hl7 hb7
  go_wp2_with fail
  with_reducible refine Calls.mono T7.out ?_
  rintro e x7 ⟨rfl, hd7, hk7⟩
  have hR7 := hk7.blk HR.out (by omega)
  have hF7 := hk7.blk HF.out (by omega)
  have hK7 := HK.out.trans hk7
  clear HR HF HK HD T7 hk7
  have f7 := hF7.frozen 7
  have d7 := hF7.cell (o := 7) rfl
  go_upto_region 10 with fail
  have hR7 := hR7.far (p := ra + 1) (by omega) 7 (.int .i64 (n7 : Int))
  have hF7 := hF7.set 7 (.int .i64 (n7 : Int))
  have hK7 := hK7.trans' (Kept.one _ (ra + 1) 7 (.int .i64 (n7 : Int))) (fun i hi e => by have := HRA.out; omega)
  have hd7 := hd7.kept (Kept.one _ (ra + 1) 7 (.int .i64 (n7 : Int))) (fun i e => by omega)
  dsimp only [List.set] at hF7
  generalize x7.setCell ⟨ra + 1, 7, none⟩ (.int .i64 (n7 : Int)) = y7 at *
  clear f7 d7
  have HR := Lib.hid hR7
  have HF := Lib.hid hF7
  have HK := Lib.hid hK7
  have HD := Lib.hid hd7
  clear hR7 hF7 hK7 hd7
  have T8 := Lib.hid (take_any HD.out (k := 2) (by omega) (by omega))
  have N8 := tkN_lt (l7) 2
  rw [show (256 : Nat) ^ 2 = 65536 from rfl] at N8
  unfold TakeP at T8
  generalize hn8 : tkN (l7) 2 = n8 at *
  generalize hl8 : tkL (l7) 2 = l8 at *
  generalize hb8 : tkS (l7) 2 (b7) = b8 at *
  have HN8 := Lib.hid hn8
  have HL8 := Lib.hid hl8
  have HB8 := Lib.hid hb8
  clear hn8 hl8 hb8
  go_wp2_with fail
  with_reducible refine Calls.mono T8.out ?_
  rintro e x8 ⟨rfl, hd8, hk8⟩
  have hR8 := hk8.blk HR.out (by omega)
  have hF8 := hk8.blk HF.out (by omega)
  have hK8 := HK.out.trans hk8
  clear HR HF HK HD T8 hk8
  have f8 := hF8.frozen 6
  have d8 := hF8.cell (o := 6) rfl
  go_upto_region 11 with fail
  have hR8 := hR8.far (p := ra + 1) (by omega) 6 (.int .i64 (n8 : Int))
  have hF8 := hF8.set 6 (.int .i64 (n8 : Int))
  have hK8 := hK8.trans' (Kept.one _ (ra + 1) 6 (.int .i64 (n8 : Int))) (fun i hi e => by have := HRA.out; omega)
  have hd8 := hd8.kept (Kept.one _ (ra + 1) 6 (.int .i64 (n8 : Int))) (fun i e => by omega)
  dsimp only [List.set] at hF8
  generalize x8.setCell ⟨ra + 1, 6, none⟩ (.int .i64 (n8 : Int)) = y8 at *
  clear f8 d8
  have HR := Lib.hid hR8
  have HF := Lib.hid hF8
  have HK := Lib.hid hK8
  have HD := Lib.hid hd8
  clear hR8 hF8 hK8 hd8
  have T9 := Lib.hid (take_any HD.out (k := 4) (by omega) (by omega))
  have N9 := tkN_lt (l8) 4
  rw [show (256 : Nat) ^ 4 = 4294967296 from rfl] at N9
  unfold TakeP at T9
  generalize hn9 : tkN (l8) 4 = n9 at *
  generalize hl9 : tkL (l8) 4 = l9 at *
  generalize hb9 : tkS (l8) 4 (b8) = b9 at *
  have HN9 := Lib.hid hn9
  have HL9 := Lib.hid hl9
  have HB9 := Lib.hid hb9
  clear hn9 hl9 hb9
  go_wp2_with fail
  with_reducible refine Calls.mono T9.out ?_
  rintro e x9 ⟨rfl, hd9, hk9⟩
  have hR9 := hk9.blk HR.out (by omega)
  have hF9 := hk9.blk HF.out (by omega)
  have hK9 := HK.out.trans hk9
  clear HR HF HK HD T9 hk9
  have f9 := hF9.frozen 8
  have d9 := hF9.cell (o := 8) rfl
  go_upto_region 12 with fail
  have hR9 := hR9.far (p := ra + 1) (by omega) 8 (.int .i64 (n9 : Int))
  have hF9 := hF9.set 8 (.int .i64 (n9 : Int))
  have hK9 := hK9.trans' (Kept.one _ (ra + 1) 8 (.int .i64 (n9 : Int))) (fun i hi e => by have := HRA.out; omega)
  have hd9 := hd9.kept (Kept.one _ (ra + 1) 8 (.int .i64 (n9 : Int))) (fun i e => by omega)
  dsimp only [List.set] at hF9
  generalize x9.setCell ⟨ra + 1, 8, none⟩ (.int .i64 (n9 : Int)) = y9 at *
  clear f9 d9
  have HR := Lib.hid hR9
  have HF := Lib.hid hF9
  have HK := Lib.hid hK9
  have HD := Lib.hid hd9
  clear hR9 hF9 hK9 hd9
  have u0 := HF.out.cell (o := 0) rfl
  have v0 := HR.out.cell (o := 0) rfl
  have w0 := HR.out.frozen 0
  have u1 := HF.out.cell (o := 1) rfl
  have v1 := HR.out.cell (o := 1) rfl
  have w1 := HR.out.frozen 1
  have u2 := HF.out.cell (o := 2) rfl
  have v2 := HR.out.cell (o := 2) rfl
  have w2 := HR.out.frozen 2
  have u3 := HF.out.cell (o := 3) rfl
  have v3 := HR.out.cell (o := 3) rfl
  have w3 := HR.out.frozen 3
  have u4 := HF.out.cell (o := 4) rfl
  have v4 := HR.out.cell (o := 4) rfl
  have w4 := HR.out.frozen 4
  have u5 := HF.out.cell (o := 5) rfl
  have v5 := HR.out.cell (o := 5) rfl
  have w5 := HR.out.frozen 5
  have u6 := HF.out.cell (o := 6) rfl
  have v6 := HR.out.cell (o := 6) rfl
  have w6 := HR.out.frozen 6
  have u7 := HF.out.cell (o := 7) rfl
  have v7 := HR.out.cell (o := 7) rfl
  have w7 := HR.out.frozen 7
  have u8 := HF.out.cell (o := 8) rfl
  have v8 := HR.out.cell (o := 8) rfl
  have w8 := HR.out.frozen 8
  have u9 := HF.out.cell (o := 9) rfl
  have v9 := HR.out.cell (o := 9) rfl
  have w9 := HR.out.frozen 9
  go_wp2_with fail
  have hZ := blk10 HR.out (.int .i64 (n1 : Int)) (.int .i64 ((n2 : Int) / 16)) (.int .i64 ((n2 : Int) % 16)) (.int .i64 (n3 : Int)) (.int .u64 (n5 : Int)) (.int .i64 (n6 : Int)) (.int .i64 (n8 : Int)) (.int .i64 (n7 : Int)) (.int .i64 (n9 : Int)) (.slice none 0 0)
  have kZ := kept10 y9 ra (.int .i64 (n1 : Int)) (.int .i64 ((n2 : Int) / 16)) (.int .i64 ((n2 : Int) % 16)) (.int .i64 (n3 : Int)) (.int .u64 (n5 : Int)) (.int .i64 (n6 : Int)) (.int .i64 (n8 : Int)) (.int .i64 (n7 : Int)) (.int .i64 (n9 : Int)) (.slice none 0 0)
  unfold set10 at hZ kZ
  have hD := HD.out.kept kZ (fun i e => by omega)
  have hKZ := HK.out.trans' kZ (fun i hi e => by have := HRA.out; omega)
  generalize (((((((((y9.setCell ⟨ra, 0, none⟩ (.int .i64 (n1 : Int))).setCell ⟨ra, 1, none⟩ (.int .i64 ((n2 : Int) / 16))).setCell ⟨ra, 2, none⟩ (.int .i64 ((n2 : Int) % 16))).setCell ⟨ra, 3, none⟩ (.int .i64 (n3 : Int))).setCell ⟨ra, 4, none⟩ (.int .u64 (n5 : Int))).setCell ⟨ra, 5, none⟩ (.int .i64 (n6 : Int))).setCell ⟨ra, 6, none⟩ (.int .i64 (n8 : Int))).setCell ⟨ra, 7, none⟩ (.int .i64 (n7 : Int))).setCell ⟨ra, 8, none⟩ (.int .i64 (n9 : Int))).setCell ⟨ra, 9, none⟩ (.slice none 0 0) = z at *
  (try simp only [Exit.inBlock, Exit.then])
  refine bodyPost_ret (results_frame rfl _ _ ra rfl hZ) rfl ?_
  refine ⟨?_, ?_, hKZ⟩
  · rw [HN1.out, HL1.out]
    rw [HN2.out, HL2.out]
    rw [HN3.out, HL3.out]
    rw [HL4.out]
    rw [HN5.out, HL5.out]
    rw [HN6.out, HL6.out]
    rw [HN7.out, HL7.out]
    rw [HN8.out, HL8.out]
    rw [HN9.out]
  · rw [HL1.out, HB1.out]
    rw [HL2.out, HB2.out]
    rw [HL3.out, HB3.out]
    rw [HL4.out, HB4.out]
    rw [HL5.out, HB5.out]
    rw [HL6.out, HB6.out]
    rw [HL7.out, HB7.out]
    rw [HL8.out, HB8.out]
    rw [HL9.out, HB9.out]
    exact hD
end Go.Proofs.Ytkbncpclfeiofaa.Wr
