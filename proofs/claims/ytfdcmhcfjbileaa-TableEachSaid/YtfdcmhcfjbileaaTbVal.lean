/- A table: what stands at keys that are all there. Conditions: each theorem's own. -/
import Derived.Test.YtfdcmhcfjbileaaTbKeys
set_option linter.unusedVariables false
namespace Go.Proofs.Ytfdcmhcfjbileaa.Tb
open Go.RowKit Hp TbM TbN TbR TbK
attribute [local go_sem ↓] Go.wp_at_zero Go.wp_at_succ
theorem infoI : (Try.prog.info? 3).map (fun i => (i.zero, i.size, i.bytes)) = some (some (.int .i64 0), 1, 8) := by kernel_rfl
theorem run_mki (n : Nat) (hn : n ≤ 1000000) (w : World) : (Instr.makeSlice 48 (.int .i64 (n : Int)) (.int .i64 (n : Int))).run Try.prog w = .ok (.slice (some ⟨w.heap.size, 0, none⟩) n n) (w.alloc (.cells (List.replicate n (.int .i64 0)).toArray 3)) := by
  obtain ⟨ti, hti, hz0, hz1, hz2⟩ := info_parts infoI
  have := run_make (P := Try.prog) (w := w) 48 3 ti (.int .i64 0) Try.underlying48 hti hz0 .i64 .i64 (n : Int) (n : Int) (by omega) (by omega) (by rw [hz2]; omega) (by omega)
  rw [Int.toNat_natCast, hz1, Nat.mul_one] at this
  rw [this]
  have e : madeCells (Value.int .i64 0).cells n = (List.replicate n (.int .i64 0)).toArray := by
    apply Array.toList_inj.1
    have := toList_madeCells_one (.int .i64 0) n
    rw [show (Value.int .i64 0).cells = #[.int .i64 0] from rfl, this]
  rw [e]
/-- What stands there, one by one. -/
def Vals (m : List (Ky × Int)) (l : List Ky) (vs : List Int) : Prop := ∀ (i : Nat) (k : Ky) (v : Int), l[i]? = some k → vs[i]? = some v → (k, v) ∈ m
def ValP (m : List (Ky × Int)) (l : List Ky) (w : World) (e : Ending) (w' : World) : Prop :=
  ∃ (g : Nat) (vs : List Int), e = .returned (.slice (some ⟨g, 0, none⟩) l.length l.length) ∧ Blk w' g (vs.map ev) 3 ∧ vs.length = l.length ∧ Vals m l vs ∧ w.heap.size ≤ g ∧ Kept (fun _ => False) w w'
theorem values_nil (w : World) : Calls Try.prog 44 #[.pointer none, .slice none 0 0] w fun e w' => (∃ a c, e = .returned (.slice a 0 c)) ∧ Kept (fun _ => False) w w' := by
  have hmk := run_mki 0 (by omega)
  have e0 : ((0 : Nat) : Int) = 0 := rfl
  rw [e0] at hmk
  clear e0
  go_enter Try.func44, Try.ntmps44
  go_wp2_with fail
  refine wp_loop_rounds 1 ?_
  rw [rounds_succ]
  go_wp2_with fail
  go_ret
  exact ⟨⟨_, _, rfl⟩, (Kept.refl _ w).alloc _⟩
set_option maxHeartbeats 8000000 in
theorem values_any {w : World} {base : Nat} {F : Nat → Prop} {b most : Nat} {m : List (Ky × Int)} (h : TabV w base F b most m) {g cap : Nat} {cur : List Value} {l : List Ky} (hL : Rw.Lies kT w g cap cur l) (hin : ∀ k ∈ l, ∃ v, (k, v) ∈ m) (hl : l.length ≤ 1000000) :
    Calls Try.prog 44 #[.pointer (some ⟨b, 0, none⟩), .slice (some ⟨g, 0, none⟩) l.length cap] w (ValP m l w) := by
  have hmk := run_mki l.length hl
  obtain ⟨Z, hZ⟩ : ∃ Z : List Value, Z = List.replicate l.length (.int .i64 0) := ⟨_, rfl⟩
  rw [← hZ] at hmk
  have HZ := Lib.hid hZ
  clear hZ
  have H := Lib.hid h
  have HL := Lib.hid hL
  have HIN := Lib.hid hin
  clear h hL hin
  go_enter Try.func44, Try.ntmps44
  go_wp2_with fail
  have hB := Blk.new w Z 3
  have hk : Kept (fun _ => False) w (w.alloc (.cells Z.toArray 3)) := (Kept.refl _ w).alloc _
  have HB := Lib.hid hB
  have HK := Lib.hid hk
  clear hB hk hmk
  obtain ⟨g2, hg2⟩ : ∃ g2, w.heap.size = g2 := ⟨_, rfl⟩
  rw [hg2] at HB
  have HG := Lib.hid hg2
  generalize w.alloc (.cells Z.toArray 3) = w1 at *
  rw [HZ.out] at HB
  simp only [hg2]
  clear hg2
  go_loopg [13] l.length (fun mm s13 wr => ∃ (i : Nat) (vs : List Int), Hid (mm = l.length - i) ∧ i ≤ l.length ∧ s13 = .int .i64 ((i : Nat) : Int) ∧ Hid (Blk wr g2 (vs.map ev ++ List.replicate (l.length - i) (.int .i64 0)) 3) ∧ Hid (vs.length = i) ∧ Hid (Vals m l vs) ∧ Hid (Kept (fun _ => False) w wr))
  case atStart => exact ⟨0, [], Lib.hid (by omega), Nat.zero_le _, rfl, Lib.hid (by simpa using HB.out), Lib.hid rfl, Lib.hid (fun i k v _ h => by simp at h), HK⟩
  case round =>
    obtain ⟨i, vs, hm, hi, rfl, hB, hvl, hv, hk⟩ := hrel
    rcases Nat.lt_or_ge i l.length with hlt | hge
    · obtain ⟨⟨k1, k2⟩, hx⟩ : ∃ x, l[i]? = some x := ⟨l[i], List.getElem?_eq_getElem hlt⟩
      obtain ⟨v, hvm⟩ := HIN.out (k1, k2) (List.mem_of_getElem? hx)
      have hLr := HL.out.kept hk.out (fun f => f)
      have q0 : wr.cell? ⟨g, i * 2, none⟩ = some (.int .i64 k1) := hLr.cell hx (j := 0) rfl
      have q1 : wr.cell? ⟨g, i * 2 + 1, none⟩ = some (.int .u64 k2) := hLr.cell hx (j := 1) rfl
      have hka := (Kept.refl (fun _ => False) wr).alloc (.cells #[.int .i64 k1, .int .u64 k2] 34)
      have G := Lib.hid (get_hit (H.out.old (hk.out.trans hka)) hvm)
      have HX := Lib.hid hx
      have HVM := Lib.hid hvm
      have HKA := Lib.hid hka
      have hltI : (i : Int) < (l.length : Int) := by omega
      clear hx hvm hLr hka
      go_wp2_with fail
      with_reducible refine Calls.mono G.out ?_
      rintro e w2 ⟨rfl, hk2⟩
      have hB2 := (HKA.out.trans hk2).blk hB.out (fun f => f)
      have hlen : (vs.map ev ++ List.replicate (l.length - i) (Value.int .i64 0))[i]? = some (.int .i64 0) := by
        rw [List.getElem?_append_right (by rw [List.length_map, hvl.out]; exact Nat.le_refl i), List.length_map, hvl.out, Nat.sub_self, List.getElem?_replicate, if_pos (by omega)]
      have c2 := hB2.cell hlen
      have f2 := hB2.frozen i
      have HN : Hid (Blk (w2.setCell ⟨g2, i, none⟩ (ev v)) g2 ((vs ++ [v]).map ev ++ List.replicate (l.length - (i + 1)) (.int .i64 0)) 3 ∧ Kept (fun _ => False) w (w2.setCell ⟨g2, i, none⟩ (ev v))) := by
        refine Lib.hid ⟨?_, ((hk.out.trans HKA.out).trans hk2).trans' (Kept.one w2 g2 i (ev v)) (fun j hj e => by have := HG.out; omega)⟩
        have := hB2.set i (ev v)
        have e : (vs.map ev ++ List.replicate (l.length - i) (Value.int .i64 0)).set i (ev v) = (vs ++ [v]).map ev ++ List.replicate (l.length - (i + 1)) (.int .i64 0) := by
          rw [List.set_append_right _ _ (by rw [List.length_map, hvl.out]; exact Nat.le_refl i), List.length_map, hvl.out, Nat.sub_self, show l.length - i = (l.length - (i + 1)) + 1 by omega, List.replicate_succ, List.set_cons_zero, List.map_append, List.append_assoc]
          rfl
        rw [e] at this
        exact this
      clear hB2 hlen hk2 G
      go_wp2_with fail
      go_roundg (l.length - (i + 1))
      case measure => have := hm.out; omega
      case rel => exact ⟨i + 1, vs ++ [v], Lib.hid rfl, by omega, by go_num, Lib.hid HN.out.1, Lib.hid (by rw [List.length_append, hvl.out]; rfl), Lib.hid (by
        intro j k u hj hu
        rcases Nat.lt_or_ge j i with h | h
        · rw [List.getElem?_append_left (by rw [hvl.out]; exact h)] at hu
          exact hv.out j k u hj hu
        · have hjl := (List.getElem?_eq_some_iff.1 hu).1
          rw [List.length_append, hvl.out, List.length_singleton] at hjl
          obtain rfl : j = i := by omega
          rw [List.getElem?_append_right (by rw [hvl.out]; exact Nat.le_refl j), hvl.out, Nat.sub_self] at hu
          simp at hu
          subst hu
          rw [HX.out] at hj
          cases hj
          exact HVM.out), Lib.hid HN.out.2⟩
    · obtain rfl : i = l.length := by omega
      have P : Hid (ValP m l w (.returned (.slice (some ⟨g2, 0, none⟩) l.length l.length)) wr) := by
        have := hB.out
        rw [Nat.sub_self] at this
        exact Lib.hid ⟨g2, vs, rfl, by simpa using this, hvl.out, hv.out, by have := HG.out; omega, hk.out⟩
      go_wp2_with fail
      go_ret
      exact P.out
end Go.Proofs.Ytfdcmhcfjbileaa.Tb
