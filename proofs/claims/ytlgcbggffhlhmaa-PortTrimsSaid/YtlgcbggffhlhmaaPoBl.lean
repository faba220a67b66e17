/- The law's own bytes. Conditions: each theorem's own. -/
import Derived.Test.YtlgcbggffhlhmaaPoHi
import Derived.Laws.MakeOwn
set_option linter.unusedVariables false
namespace Go.Proofs.Ytlgcbggffhlhmaa.Po
open Go.RowKit Hp QuM QuN Rw Qu
attribute [local go_sem ↓] Go.wp_at_zero Go.wp_at_succ
theorem set_bvs {w : World} {g j : Nat} {l : List UInt8} {T : TypeId} {z : Int} (h : Blk w g (Byt.bvs l) T) (h0 : 0 ≤ z) (h1 : z < 256) : Blk (w.setCell ⟨g, j, none⟩ (.int .u8 z)) g (Byt.bvs (l.set j (UInt8.ofNat z.toNat))) T := by
  have := h.set j (.int .u8 z)
  have e : Byt.bvs (l.set j (UInt8.ofNat z.toNat)) = (Byt.bvs l).set j (.int .u8 z) := by
    unfold Byt.bvs
    rw [List.map_set]
    congr 1
    unfold Byt.bv
    rw [UInt8.toNat_ofNat', Nat.mod_eq_of_lt (by omega)]
    congr 1
    omega
  rw [e]
  exact this
set_option maxRecDepth 100000 in
set_option maxHeartbeats 4000000 in
theorem block_any {n i : Nat} (h : n ≤ 1000) (hi : i ≤ 1000) (w : World) : Calls Try.prog 26 #[.int .i64 (n : Nat), .int .i64 (i : Nat)] w fun e w' => ∃ s c l, e = .returned (.slice s n c) ∧ l.length = n ∧ Byt.Row w' w.heap.size (.slice s n c) l ∧ Kept (fun _ => False) w w' := by
  have hmk : ∃ Z : List Value, Z = Byt.bvs (List.replicate n 0) ∧ ∀ w : World, (Instr.makeSlice 33 (.int .i64 (n : Int)) (.int .i64 (n : Int))).run Try.prog w = .ok (.slice (some ⟨w.heap.size, 0, none⟩) n n) (w.alloc (.cells Z.toArray 5)) := by
    obtain ⟨ti, hti, hz0, hz1, hz2⟩ := info_parts Byt.infoB
    refine ⟨_, rfl, fun w => ?_⟩
    have := run_make (P := Try.prog) (w := w) 33 5 ti (.int .u8 0) Try.underlying33 hti hz0 .i64 .i64 (n : Int) (n : Int) (by omega) (by omega) (by rw [hz2]; omega) (by omega)
    rw [Int.toNat_natCast, hz1, Nat.mul_one] at this
    rw [this]
    have e : madeCells (Value.int .u8 0).cells n = (Byt.bvs (List.replicate n 0)).toArray := by
      apply Array.toList_inj.1
      have := toList_madeCells_one (.int .u8 0) n
      rw [show (Value.int .u8 0).cells = #[.int .u8 0] from rfl, this]
      simp [Byt.bvs, Byt.bv]
    rw [e]
  obtain ⟨Z, hZ, hmk⟩ := hmk
  have HZ := Lib.hid hZ
  clear hZ
  go_enter Try.func26, Try.ntmps26
  go_upto_region 2 with fail
  have hB := Blk.new w Z 5
  have hk := (Kept.refl (fun _ => False) w).alloc (.cells Z.toArray 5)
  rw [HZ.out] at hB
  have HB := Lib.hid hB
  have HK := Lib.hid hk
  rw [← HZ.out] at HB
  clear hB hk hmk
  generalize w.alloc (.cells Z.toArray 5) = w1 at *
  obtain ⟨g, hg⟩ : ∃ g, w.heap.size = g := ⟨_, rfl⟩
  rw [hg] at HB
  simp only [hg]
  have HG := Lib.hid hg
  clear hg
  go_wp2_with fail
  go_loopg [6] n (fun mm s6 wr => ∃ (j : Nat) (l : List UInt8), Hid (n - j ≤ mm) ∧ j ≤ n ∧ s6 = .int .i64 (j : Nat) ∧ Hid (l.length = n) ∧ Hid (Blk wr g (Byt.bvs l) 5) ∧ Hid (Kept (fun _ => False) w wr))
  case atStart => exact ⟨0, List.replicate n 0, Lib.hid (by omega), Nat.zero_le _, rfl, Lib.hid List.length_replicate, by rw [← HZ.out]; exact HB, HK⟩
  case round =>
    obtain ⟨j, l, hmm, hj, rfl, hl, hB, hK⟩ := hrel
    rcases Nat.lt_or_ge j n with hlt | hge
    · have hlt' : (j : Int) < (n : Int) := by omega
      have c0 := hB.out.cell (o := j) (Byt.bvs_at (l := l) (by rw [hl.out]; exact hlt))
      have f0 := hB.out.frozen j
      go_wp2_with fail
      go_roundg (n - (j + 1))
      case measure => have := hmm.out; omega
      case rel =>
        refine ⟨j + 1, _, Lib.hid (Nat.le_refl _), by omega, by go_num, ?_, Lib.hid (set_bvs hB.out ?_ ?_), Lib.hid (hK.out.trans' (Kept.one wr g j _) (fun i hi e => by have := HG.out; omega))⟩
        · exact Lib.hid (by rw [List.length_set]; exact hl.out)
        · omega
        · omega
    · have hge' : ¬ ((j : Int) < (n : Int)) := by omega
      obtain rfl : j = n := by omega
      have R : Hid (Byt.Row wr w.heap.size (.slice (some ⟨g, 0, none⟩) j j) l) := Lib.hid ⟨Byt.bvs_len l, Or.inr ⟨g, j, (Byt.bvs l).toArray, by rw [hl.out], Nat.le_of_eq HG.out, hB.out, Nat.le_of_eq hl.out, by unfold maxLen; omega, by simp [Byt.bvs, hl.out], by simp [Byt.bvs, List.take_of_length_le]⟩⟩
      go_wp2_with fail
      go_ret
      exact ⟨_, _, rfl, l, hl.out, R.out, hK.out⟩
end Go.Proofs.Ytlgcbggffhlhmaa.Po
