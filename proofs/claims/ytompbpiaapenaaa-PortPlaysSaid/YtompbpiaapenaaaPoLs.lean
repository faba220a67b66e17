/- A port's lines, told. Conditions: each theorem's own. -/
import Derived.Test.YtompbpiaapenaaaPoNil
set_option linter.unusedVariables false
namespace Go.Proofs.Ytompbpiaapenaaa.Po
open Go.RowKit Hp QuM QuN Rw Qu NumM NumC
attribute [local go_sem ↓] Go.wp_at_zero Go.wp_at_succ
variable {w0 w w' : World} {b qf qc pb : Nat} {room most : Int} {trim : Bool} {ls : Nat → List Bx} {cr : List Bx} {now nxt : Int} {Ff Fc F : Nat → Prop}
/-- A line: its queue, its place there. -/
abbrev Ln := Nat × Nat
@[reducible] def lT : Rw.Ty Ln where
  E := 99
  L := 140
  k := 2
  bz := 16
  enc x := [.pointer (some ⟨x.1, 0, none⟩), .int .i64 (x.2 : Nat)]
  z := .agg #[.pointer none, .int .i64 0]
  hL := Try.underlying140
  hI := by kernel_rfl
  hz := rfl
  hk _ := rfl
  h1 x v hv := by simp at hv; rcases hv with rfl | rfl <;> rfl
  k0 := by decide
  hb := by decide
/-- The lines, in the order in which they are told. -/
def lq (qf qc i : Nat) : Ln := if i < 8 then (qf, 7 - i) else (qc, 0)
abbrev lsts (qf qc n : Nat) : List Ln := (List.range n).map (lq qf qc)
theorem lsts_succ (qf qc n : Nat) : lsts qf qc (n + 1) = lsts qf qc n ++ [lq qf qc n] := by unfold lsts; rw [List.range_succ, List.map_append]; rfl
theorem lsts_len (qf qc n : Nat) : (lsts qf qc n).length = n := by unfold lsts; rw [List.length_map, List.length_range]
set_option maxRecDepth 100000 in
set_option maxHeartbeats 8000000 in
theorem lines_any (h : Blk w b (pcs trim qf qc pb now) tP) :
    Calls Try.prog 81 #[.pointer (some ⟨b, 0, none⟩)] w fun e w' => ∃ v', e = .returned v' ∧ Row lT w' w.heap.size v' (lsts qf qc 9) ∧ Kept (fun _ => False) w w' := by
  have H := Lib.hid h
  have CL := Lib.hid fun (w' : World) (k : Kept (fun _ => False) w w') => creditLine_any (k.blk h (fun f => f))
  clear h
  go_enter Try.func81, Try.ntmps81
  go_upto_region 2 with (first | ((with_reducible refine wpList_make lT rfl _ _ rfl (9 : Int) 9 rfl rfl rfl (by omega) ?_); intro w1 hr1 hk1))
  have HR1 := Lib.hid hr1
  have HK1 := Lib.hid hk1
  clear hr1 hk1
  obtain ⟨v0, hv0⟩ : ∃ v0, Value.slice (some ⟨w.heap.size, 0, none⟩) 0 9 = v0 := ⟨_, rfl⟩
  rw [hv0] at HR1
  simp only [hv0]
  clear hv0
  go_wp2_with fail
  go_loopg [3, 4] 8 (fun mm s3 s4 wr => ∃ (i : Nat), Hid (8 - i ≤ mm) ∧ i ≤ 8 ∧ s4 = .int .i64 (7 - (i : Nat) : Int) ∧ Hid (Row lT wr w.heap.size s3 (lsts qf qc i)) ∧ Hid (Kept (fun _ => False) w wr))
  case atStart => exact ⟨0, Lib.hid (by omega), Nat.zero_le _, rfl, HR1, HK1⟩
  case round =>
    obtain ⟨i, hmm, hi, rfl, hRr, hkl⟩ := hrel
    rcases Nat.lt_or_ge i 8 with hlt | hge
    · have hP := hkl.out.blk H.out (fun f => f)
      have d1 := hP.cell (o := 1) rfl
      have g1 : (0 : Int) ≤ 7 - (i : Int) := by omega
      have e : lsts qf qc (i + 1) = lsts qf qc i ++ [(qf, 7 - i)] := by rw [lsts_succ]; unfold lq; rw [if_pos hlt]
      have HE := Lib.hid e
      have hci : (7 : Int) - (i : Int) = ((7 - i : Nat) : Int) := by omega
      rw [hci] at g1 ⊢
      have HCI := Lib.hid hci
      obtain ⟨j, hj⟩ : ∃ j, 7 - i = j := ⟨_, rfl⟩
      rw [hj] at HE HCI g1 ⊢
      have hj8 : j < 8 := by omega
      have hBs := Blk.new wr [.pointer (some ⟨qf, 0, none⟩), .int .i64 (j : Nat)] lT.E
      have hks : Kept (fun _ => False) wr (wr.alloc (.cells [.pointer (some ⟨qf, 0, none⟩), .int .i64 (j : Nat)].toArray lT.E)) := (Kept.refl _ wr).alloc _
      have HBS := Lib.hid hBs
      have HKS := Lib.hid hks
      dsimp only [List.toArray] at HBS HKS
      clear hBs hks hP e hci
      go_wp2_with (refine wpList_app lT rfl _ _ rfl w.heap.size rfl (hRr.out.old HKS.out) rfl (src_blk 1 (K := [(qf, j)]) HBS.out) (by rw [lsts_len, List.length_singleton]; omega) (Nat.le_trans (hkl.out.trans HKS.out).size (Nat.le_refl _)) ?_; rintro v5 w5 hA)
      have HR5 : Hid (Row lT w5 w.heap.size v5 (lsts qf qc (i + 1))) := Lib.hid (by rw [HE.out]; exact hA.row)
      have HK5 : Hid (Kept (fun _ => False) w w5) := Lib.hid ((hkl.out.trans HKS.out).trans' hA.kept (fun k hk e => by have := (hRr.out.lt k e).1; omega))
      clear hA HBS HKS hRr hkl d1
      go_wp2_with fail
      go_roundg (8 - (i + 1))
      case measure => have := hmm.out; omega
      case rel => exact ⟨i + 1, Lib.hid (Nat.le_refl _), by omega, by have := HCI.out; go_num, HR5, HK5⟩
    · obtain rfl : i = 8 := by omega
      have e : lsts qf qc 9 = lsts qf qc 8 ++ [(qc, 0)] := by rw [lsts_succ]; rfl
      have HE := Lib.hid e
      clear e
      go_wp2_with fail
      with_reducible refine Calls.mono (CL.out _ hkl.out) ?_
      rintro e w4 ⟨rfl, hk4⟩
      have hBs := Blk.new w4 [.pointer (some ⟨qc, 0, none⟩), .int .i64 0] lT.E
      have hks : Kept (fun _ => False) w4 (w4.alloc (.cells [.pointer (some ⟨qc, 0, none⟩), .int .i64 0].toArray lT.E)) := (Kept.refl _ w4).alloc _
      have HBS := Lib.hid hBs
      have HKS := Lib.hid hks
      have HR4 := Lib.hid (hRr.out.old hk4)
      have HK4 := Lib.hid (hkl.out.trans hk4)
      dsimp only [List.toArray] at HBS HKS
      clear hBs hks hk4 hRr hkl
      go_wp2_with (refine wpList_app lT rfl _ _ rfl w.heap.size rfl (HR4.out.old HKS.out) rfl (src_blk 1 (K := [(qc, 0)]) HBS.out) (by rw [lsts_len, List.length_singleton]; omega) (Nat.le_trans (HK4.out.trans HKS.out).size (Nat.le_refl _)) ?_; rintro v5 w5 hA)
      have HR5 : Hid (Row lT w5 w.heap.size v5 (lsts qf qc 9)) := Lib.hid (by rw [HE.out]; exact hA.row)
      have HK5 : Hid (Kept (fun _ => False) w w5) := Lib.hid ((HK4.out.trans HKS.out).trans' hA.kept (fun k hk e => by have := (HR4.out.lt k e).1; omega))
      clear hA HBS HKS HR4 HK4
      go_wp2_with fail
      go_ret
      exact ⟨_, rfl, HR5.out, HK5.out⟩
end Go.Proofs.Ytompbpiaapenaaa.Po
