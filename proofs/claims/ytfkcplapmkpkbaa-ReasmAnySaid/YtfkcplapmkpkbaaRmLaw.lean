/- Messages put together: pieces of one message, put one by one; what the statements ask at first. Conditions: each theorem's own. -/
import Derived.Test.YtfkcplapmkpkbaaRmPut
import Derived.Test.YtfkcplapmkpkbaaRmRnd
import Derived.Test.YtfkcplapmkpkbaaEnd
import Derived.Lib.SlBytesConst
set_option linter.unusedVariables false
namespace Go.Proofs.Ytfkcplapmkpkbaa.Rm
open Go.RowKit Go.Deep Hp IvM RmM Go.Proofs.Ytfkcplapmkpkbaa.End
attribute [local go_sem ↓] Go.wp_at_zero Go.wp_at_succ
/-- What came is as in the message. -/
def Agree (l : List Rg) (D data : List UInt8) : Prop := ∀ i : Nat, Has l (i : Int) → D[i]? = data[i]?
theorem agree_nil (D data : List UInt8) : Agree [] D data := fun i h => by simp [IvM.Has] at h
theorem no_clash {l : List Rg} {D data : List UInt8} (h : Agree l D data) (off m : Nat) : ¬ Clash l D ((data.drop off).take m) off := by
  rintro ⟨i, y, hy, hh, hne⟩
  have hi := lt_of_get hy
  rw [List.length_take] at hi
  rw [List.getElem?_take, if_pos (by omega), List.getElem?_drop] at hy
  refine hne ((h (off + i) ?_).trans hy)
  rw [Int.natCast_add]
  exact hh
theorem agree_over {l L : List Rg} {D data : List UInt8} (h : Agree l D data) {off m : Nat} (hm : ((data.drop off).take m).length = m) (ho : off + m ≤ D.length) (hx : ∀ x, Has L x ↔ Has l x ∨ ((off : Int) ≤ x ∧ x < (off : Int) + (m : Nat))) :
    Agree L (over D ((data.drop off).take m) off) data := by
  intro i hi
  by_cases hc : off ≤ i ∧ i < off + m
  · rw [over_in (by omega) hc.1 (by omega), List.getElem?_take, if_pos (by omega), List.getElem?_drop]
    congr 1; omega
  · rw [over_out (by omega) (by omega)]
    refine h i (((hx i).1 hi).resolve_right fun g => hc ?_)
    omega
theorem put_part {w : World} {base : Nat} {F : Nat → Prop} {b n : Nat} {l : List Rg} {D data : List UInt8} (h : BufV w base F b n l D) (hbase : base ≤ w.heap.size) (ha : Agree l D data) (hd : data.length = n) {bk o c off m : Nat}
    (hK : Byt.Src w (.slice (some ⟨bk, o, none⟩) m c) ((data.drop off).take m)) (hF : ¬ F bk) (h0 : 0 < m) (ho : off + m ≤ n) (hc : c ≤ 9223372036854775807) :
    Calls Try.prog 9 #[.pointer (some ⟨b, 0, none⟩), .int .i64 off, .slice (some ⟨bk, o, none⟩) m c] w fun e w' => ∃ L D', e = .returned (.tuple #[.int .i64 (fr l off ((off : Int) + (m : Nat))), .int .i64 0]) ∧ BufV w' base (More F w w') b n L D' ∧ Agree L D' data ∧
      (∀ x, Has L x ↔ Has l x ∨ ((off : Int) ≤ x ∧ x < (off : Int) + (m : Nat))) ∧ Kept F w w' := by
  have hm : ((data.drop off).take m).length = m := by rw [List.length_take, List.length_drop]; omega
  obtain ⟨s, mm, v, hb⟩ := h.bare
  have hl := h.len
  have hP := put_any h hbase (K := (data.drop off).take m) (by rw [hm]; exact hK) hF (by omega) (by omega) hc (off := off)
  rw [hm] at hP
  refine hP.mono ?_
  rintro e w' (⟨hC, _⟩ | ⟨_, L, rfl, hB, hx, hg, hk⟩)
  · exact absurd hC (no_clash ha off m)
  · rw [hm] at hx
    refine ⟨L, _, ?_, hB, agree_over ha hm (by omega) hx, hx, hk⟩
    have := size_put hb.set.good hg (f := (off : Int)) (t := (off : Int) + (m : Nat)) (by omega) (by omega) (by omega) hx
    rw [show size L - size l = fr l off ((off : Int) + (m : Nat)) by omega]
theorem size_inn {n : Int} : ∀ {l : List Rg}, IvM.Good n l → inn 0 n l = size l
  | [], _ => rfl
  | p :: l, h => by
    have h1 := h.each p (by simp)
    rw [inn, size, size_inn h.tail]
    omega
theorem size_all {n : Nat} {l : List Rg} (h : IvM.Good n l) : size l = n ↔ ∀ x, 0 ≤ x → x < (n : Int) → Has l x := by
  have := (inn_bd h 0 n).2.2.1
  rw [Int.zero_add, size_inn h] at this
  exact this
theorem data_part {w : World} {base : Nat} {F : Nat → Prop} {b n : Nat} {l : List Rg} {D data : List UInt8} (h : BufV w base F b n l D) (ha : Agree l D data) (hd : data.length = n) (hall : ∀ x, 0 ≤ x → x < (n : Int) → Has l x) :
    Calls Try.prog 10 #[.pointer (some ⟨b, 0, none⟩)] w (DataP w data) := by
  obtain ⟨s, m, v, hb⟩ := h.bare
  have hn := (size_all hb.set.good).2 hall
  have hl := h.len
  have n0 := hb.n0
  have e : D = data := List.ext_getElem? fun i => by
    by_cases hi : i < n
    · exact ha i (hall i (by omega) (by omega))
    · rw [List.getElem?_eq_none (by omega), List.getElem?_eq_none (by omega)]
  rcases h with ⟨s, m, g, v, hT⟩ | ⟨s, m, v, _, e2, _⟩
  · rw [← e]; exact data_yes hT hn
  · rw [e2] at hn
    simp [size] at hn
    omega
theorem data_wants {w : World} {base : Nat} {F : Nat → Prop} {b n : Nat} {l : List Rg} {D : List UInt8} (h : BufV w base F b n l D) {x : Int} (h0 : 0 ≤ x) (h1 : x < (n : Int)) (hx : ¬ Has l x) :
    Calls Try.prog 10 #[.pointer (some ⟨b, 0, none⟩)] w fun e w' => e = .returned (.tuple #[.slice none 0 0, .bool false]) ∧ Kept (fun _ => False) w w' := by
  obtain ⟨s, m, v, hb⟩ := h.bare
  exact data_no h fun e => hx ((size_all hb.set.good).1 e x h0 h1)
theorem src_mark (w : World) (K : List UInt8) (T : TypeId) (z : Nat × Nat) : Byt.Src (w.alloc (.cells (Byt.bvs K).toArray T z)) (.slice (some ⟨w.heap.size, 0, none⟩) K.length K.length) K := by
  refine ⟨_, _, rfl, Nat.le_refl _, Or.inr ⟨w.heap.size, 0, rfl, by rw [World.size_alloc]; omega, fun j hj => ?_⟩, fun e => by cases e⟩
  have hb : (w.alloc (.cells (Byt.bvs K).toArray T z)).heap[w.heap.size]? = some (.cells (Byt.bvs K).toArray T z) := by
    show (w.heap.push _)[w.heap.size]? = _
    simp
  rw [Nat.zero_add]
  unfold World.cell?
  simp only [hb]
  simpa using Byt.bvs_at hj
set_option maxHeartbeats 4000000 in
set_option maxRecDepth 100000 in
theorem awake_any (w : World) : Calls Try.prog 6 #[] w fun e w' => e = .returned (.bool true) ∧ Old w w' := by
  have N1 := Lib.hid fun w => new_yes (n := 3) (most := 10) (by omega) (by omega) (by omega) (by omega) w
  have N2 := Lib.hid fun w => new_big (n := 11) (most := 10) (by omega) (by omega) (by omega) (by omega) w
  have kc := fun (w : World) (C : Array Value) (n c : Nat) => Lib.run_convert_bytes_const (P := Try.prog) w 22 5 C n c Try.underlying22 Try.underlying5
  go_enter Try.func6, Try.ntmps6
  go_wp2_with fail
  with_reducible refine Calls.mono (N1.out _) ?_
  rintro e w1 ⟨b, F, rfl, h1, k1⟩
  go_wp2_with fail
  with_reducible refine Calls.mono (N2.out _) ?_
  rintro e w2 ⟨rfl, k2⟩
  have h2 := h1.old k2
  have k02 := k1.trans k2
  clear h1 k1 k2
  have hP : Hid (Calls Try.prog 9 #[.pointer (some ⟨b, 0, none⟩), .int .i64 1, .slice (some ⟨w2.heap.size, 0, none⟩) 2 2] (w2.alloc (.cells #[.int .u8 98, .int .u8 99] 5 (2, 3))) fun e w' =>
      ∃ F' L D', e = .returned (.tuple #[.int .i64 2, .int .i64 0]) ∧ BufV w' w.heap.size F' b 3 L D' ∧ Agree L D' [97, 98, 99] ∧ (∀ x, Has L x ↔ 1 ≤ x ∧ x < 3) ∧ Kept (fun _ => False) w w') := by
    have hk3 : Kept (fun _ => False) w2 (w2.alloc (.cells (Byt.bvs [98, 99]).toArray 5 (2, 3))) := (Kept.refl _ w2).alloc _
    have hown : ∀ i, F i → w.heap.size ≤ i ∧ i < w2.heap.size := by obtain ⟨_, _, _, hb⟩ := h2.bare; exact hb.own
    have := put_part (h2.old hk3) (k02.trans hk3).size (agree_nil _ [97, 98, 99]) rfl (off := 1) (m := 2) (src_mark w2 [98, 99] 5 (2, 3)) (fun e => by have := (hown _ e).2; omega) (by decide) (by decide) (by decide)
    refine Calls.mono this ?_
    rintro e w' ⟨L, D', rfl, hB, ha, hx, hk⟩
    refine ⟨_, L, D', rfl, hB, ha, fun x => (hx x).trans ⟨fun h => h.elim (fun h => by simp [IvM.Has] at h) (fun h => by omega), fun h => Or.inr (by omega)⟩, (k02.trans hk3).trans' hk (fun i hi e => by have := (hown _ e).1; omega)⟩
  go_wp2_with fail
  with_reducible refine Calls.mono hP.out ?_
  rintro e w3 ⟨F3, L3, D3, rfl, h3, ha3, hx3, k3⟩
  have hP2 : Hid (Calls Try.prog 9 #[.pointer (some ⟨b, 0, none⟩), .int .i64 0, .slice (some ⟨w3.heap.size, 0, none⟩) 1 1] (w3.alloc (.cells #[.int .u8 97] 5 (1, 2))) fun e w' =>
      ∃ F' L D', e = .returned (.tuple #[.int .i64 1, .int .i64 0]) ∧ BufV w' w.heap.size F' b 3 L D' ∧ Agree L D' [97, 98, 99] ∧ (∀ x, 0 ≤ x → x < 3 → Has L x) ∧ Kept (fun _ => False) w w') := by
    have hk4 : Kept (fun _ => False) w3 (w3.alloc (.cells (Byt.bvs [97]).toArray 5 (1, 2))) := (Kept.refl _ w3).alloc _
    have hb3 : ∃ s m v, Bare w3 w.heap.size F3 b 3 L3 s m v := h3.bare
    obtain ⟨_, _, _, hb3⟩ := hb3
    have := put_part (h3.old hk4) (k3.trans hk4).size ha3 rfl (off := 0) (m := 1) (src_mark w3 [97] 5 (1, 2)) (fun e => by have := (hb3.own _ e).2; omega) (by decide) (by decide) (by decide)
    refine Calls.mono this ?_
    have e1 : fr L3 ((0 : Nat) : Int) (((0 : Nat) : Int) + ((1 : Nat) : Int)) = 1 := (fr_bd hb3.set.good _ 1).2.2.2.2 (fun x h1 h2 => by rw [hx3]; omega)
    rw [e1]
    rintro e w' ⟨L, D', rfl, hB, ha, hx, hk⟩
    refine ⟨_, L, D', rfl, hB, ha, fun x h1 h2 => (hx x).2 ?_, (k3.trans hk4).trans' hk (fun i hi e => by have := (hb3.own _ e).1; omega)⟩
    rw [hx3]; omega
  clear hP h2 k02 h3 ha3 hx3 k3
  go_wp2_with fail
  with_reducible refine Calls.mono hP2.out ?_
  rintro e w4 ⟨F4, L4, D4, rfl, h4, ha4, hx4, k4⟩
  have hD := Lib.hid (data_part h4 ha4 rfl (fun x h1 h2 => hx4 x h1 h2))
  clear hP2 h4 ha4 hx4
  go_wp2_with fail
  with_reducible refine Calls.mono hD.out ?_
  rintro e w5 ⟨v', rfl, hR, k5⟩
  have s1 := Byt.run_str hR.src
  clear hD
  go_wp2_with fail
  go_ret
  exact ⟨rfl, k4.trans k5⟩
end Go.Proofs.Ytfkcplapmkpkbaa.Rm
