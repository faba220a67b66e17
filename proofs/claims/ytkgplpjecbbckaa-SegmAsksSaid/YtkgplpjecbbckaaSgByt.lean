/- Messages in pieces: Bytes, the reference's, slices.Clone of bytes. Conditions: each theorem's own. -/
import Derived.Test.YtkgplpjecbbckaaByt
import Derived.Test.YtkgplpjecbbckaaSg
set_option linter.unusedVariables false
namespace Go.Proofs.Ytkgplpjecbbckaa.Sg
open Go.RowKit Hp IvN SgM Byt
attribute [local go_sem ↓] Go.wp_at_zero Go.wp_at_succ
def CloneP (w : World) (l : List UInt8) (e : Ending) (w' : World) : Prop := ∃ v', e = .returned v' ∧ Byt.Row w' w.heap.size v' l ∧ Kept (fun _ => False) w w'
set_option maxHeartbeats 2000000 in
theorem cloneB_any {w : World} {v : Value} {l : List UInt8} (h : Byt.Src w v l) (hsm : l.length ≤ 900000000) : Calls Try.prog 22 #[v] w (CloneP w l) := by
  have hS := Lib.hid (h.kept ((Kept.refl _ w).alloc (.cells #[] 5)))
  have hR := Lib.hid (Byt.row_new w)
  obtain ⟨s, c, rfl, hc, hs, hn⟩ := h
  cases s with
  | none =>
    obtain rfl := hn rfl
    obtain rfl : l = [] := List.length_eq_zero_iff.1 (by omega)
    have hnil := fun (w : World) => Lib.run_eql_slice_nil (P := Try.prog) w 24 5 none 0 0 0 0 Try.underlying24
    clear hs hn hS hR
    go_enter Try.func22, Try.ntmps22
    go_wp2_with fail
    go_ret
    exact ⟨_, rfl, Byt.row_nil _ _, Kept.refl _ w⟩
  | some a =>
    have hnil := fun (w : World) => Lib.run_eql_slice_nil (P := Try.prog) w 24 5 (some a) l.length c 0 0 Try.underlying24
    clear hs hn
    go_enter Try.func22, Try.ntmps22
    go_wp2_with (at_builtin; refine Byt.wpList_app rfl _ _ rfl w.heap.size (v := .slice (some ⟨w.heap.size, 0, none⟩) 0 0) rfl hR.out rfl hS.out (by simp; omega) (by simp) ?_; intro v' w' hA)
    go_ret
    exact ⟨_, rfl, by simpa using hA.row, ((Kept.refl (fun _ => False) w).alloc (.cells #[] 5)).trans' hA.kept (fun i hi e => by cases e; exact absurd hi (Nat.lt_irrefl _))⟩
/-- The same, told of an elder world. -/
theorem cloneB_in {w0 w : World} {v : Value} {l : List UInt8} (h : Byt.Src w v l) (hsm : l.length ≤ 900000000) (k : Kept (fun _ => False) w0 w) : Calls Try.prog 22 #[v] w (CloneP w0 l) :=
  (cloneB_any h hsm).mono fun e w' ⟨v', e1, hR, hk⟩ => ⟨v', e1, hR.base (fun g hg => Nat.le_trans k.size (hR.lt g hg).1), k.trans hk⟩
/-- The bytes that a range names, as far as they are there. -/
def sub (l : List UInt8) (f u : Int) : List UInt8 := (l.drop (max f 0).toNat).take (min u l.length - max f 0).toNat
theorem sub_none {l : List UInt8} {f u : Int} (h : min u l.length ≤ max f 0) : sub l f u = [] := by
  unfold sub
  rw [show (min u l.length - max f 0).toNat = 0 by omega]
  rfl
/-- A part of bytes. -/
theorem src_part {w : World} {s : Option Addr} {c : Nat} {l : List UInt8} (h : Byt.Src w (.slice s l.length c) l) {i j : Nat} (hij : i < j) (hj : j ≤ l.length) :
    ∃ b o, s = some ⟨b, o, none⟩ ∧ Byt.Src w (.slice (some ⟨b, o + i, none⟩) (j - i) (c - i)) ((l.drop i).take (j - i)) := by
  obtain ⟨s', c', e, hc, hs, _⟩ := h
  cases e
  obtain ⟨b, o, rfl, hb, hcell⟩ := hs.resolve_left (fun e => by rw [e] at hj; simp at hj; omega)
  have hl : ((l.drop i).take (j - i)).length = j - i := by rw [List.length_take, List.length_drop]; omega
  refine ⟨b, o, rfl, _, c - i, by rw [hl], by omega, Or.inr ⟨b, o + i, rfl, hb, fun k hk => ?_⟩, fun h => by cases h⟩
  rw [hl] at hk
  rw [Nat.add_assoc, hcell (i + k) (by omega)]
  congr 2
  simp
set_option maxHeartbeats 4000000 in
set_option maxRecDepth 100000 in
theorem bytes_any {w : World} {s : Option Addr} {c : Nat} {l : List UInt8} (h : Byt.Src w (.slice s l.length c) l) (hsm : l.length ≤ 900000000) (f u : Int) (hc : c ≤ 9223372036854775807) :
    Calls Try.prog 13 #[.slice s l.length c, .agg #[.int .i64 f, .int .i64 u]] w (CloneP w (sub l f u)) := by
  obtain ⟨x, hx⟩ : ∃ x, x = max f 0 := ⟨_, rfl⟩
  obtain ⟨y, hy⟩ : ∃ y, y = min u l.length := ⟨_, rfl⟩
  have HX := Lib.hid (hx.trans (max_if _ _))
  have HY := Lib.hid (hy.trans (min_if _ _))
  rcases Int.lt_or_le x y with hxy | hxy
  · obtain ⟨i, rfl⟩ : ∃ i : Nat, x = i := ⟨x.toNat, by omega⟩
    obtain ⟨j, rfl⟩ : ∃ j : Nat, y = j := ⟨y.toNat, by omega⟩
    have e : sub l f u = (l.drop i).take (j - i) := by
      unfold sub
      rw [← hx, ← hy, Int.toNat_natCast]
      congr 1
      omega
    rw [e]
    obtain ⟨b, o, rfl, hp⟩ := src_part h (show i < j by omega) (by omega)
    have hjl : j ≤ l.length := by omega
    have hlc : l.length ≤ c := by obtain ⟨_, _, e, hc, _⟩ := h; cases e; exact hc
    have hij : i < j := by omega
    have hd : decide ((j : Int) ≤ (i : Int)) = false := by rw [decide_eq_false_iff_not]; omega
    have hd2 : decide (j ≤ i) = false := by rw [decide_eq_false_iff_not]; omega
    have hne : ¬ (c = i) := by omega
    have hl2 : ((l.drop i).take (j - i)).length = j - i := by rw [List.length_take, List.length_drop]; omega
    have hic : i ≤ c := by omega
    have hjc : j ≤ c := by omega
    have hij2 : i ≤ j := by omega
    have hz1 : (i : Int) ≤ (j : Int) := by omega
    have hz2 : (j : Int) ≤ (c : Int) := by omega
    have HP := Lib.hid hp
    have HL := Lib.hid hl2
    clear hx hy hxy hp h hl2
    go_enter Try.func13, Try.ntmps13
    go_upto_region 1 with fail
    have hB : Blk (w.alloc (.cells #[.int .i64 f, .int .i64 u] 23)) w.heap.size [.int .i64 f, .int .i64 u] 23 := Blk.new w _ _
    have hk1 : Kept (fun _ => False) w (w.alloc (.cells #[.int .i64 f, .int .i64 u] 23)) := (Kept.refl _ w).alloc _
    generalize w.alloc (.cells #[.int .i64 f, .int .i64 u] 23) = w1 at *
    have hpo : Byt.Src w1 (.slice (some ⟨b, o + i, none⟩) (j - i) (c - i)) ((l.drop i).take (j - i)) := HP.out.kept hk1
    have HPO := Lib.hid hpo
    have HK1 := Lib.hid hk1
    generalize hvb : w.heap.size = vb at *
    have HVB := Lib.hid hvb
    have d0 := hB.cell (o := 0) rfl
    have d1 := hB.cell (o := 1) rfl
    have e0 : Kept (fun _ => False) w1 w1 := Kept.refl _ w1
    have KS := Lib.hid fun (w' : World) (k : Kept (fun _ => False) w1 w') => And.intro ((k.blk hB (fun f => f)).cell (o := 0) rfl) ((k.blk hB (fun f => f)).cell (o := 1) rfl)
    have E0 := Lib.hid e0
    have CL := Lib.hid fun (w' : World) (k : Kept (fun _ => False) w1 w') => cloneB_in (HPO.out.kept k) (by rw [HL.out]; omega) (HK1.out.trans k)
    clear e0 hB hvb hpo hk1
    go_region_held3 (fun w' => w'.cell? ⟨vb, 0, none⟩ = some (.int .i64 f) ∧ w'.cell? ⟨vb, 1, none⟩ = some (.int .i64 u)) ((refine KS.out _ ?_; repeat (first | exact E0.out | (with_reducible refine Kept.drew ?_) | (with_reducible refine Kept.alloc ?_ _))))
      (first | (go_at_call 21; refine Calls.mono (min1 _ _ _ _ _ HY.out ?_) ?_; (simp); rintro e w' ⟨rfl, rfl⟩) | (go_at_call 20; refine Calls.mono (max1 _ _ _ _ _ HX.out ?_) ?_; (simp); rintro e w' ⟨rfl, rfl⟩))
    all_goals
      go_wp2_with fail
      with_reducible refine Calls.mono (CL.out _ ?_) ?_
      · repeat (first | exact E0.out | (with_reducible refine Kept.drew ?_) | (with_reducible refine Kept.alloc ?_ _))
      rintro e w9 ⟨v', rfl, hR, hk9⟩
      go_wp2_with fail
      go_ret
      exact ⟨_, rfl, hR, hk9⟩
  · rw [sub_none (by omega)]
    have hd : decide (y ≤ x) = true := decide_eq_true hxy
    clear hx hy hxy
    go_enter Try.func13, Try.ntmps13
    go_upto_region 1 with fail
    have hB : Blk (w.alloc (.cells #[.int .i64 f, .int .i64 u] 23)) w.heap.size [.int .i64 f, .int .i64 u] 23 := Blk.new w _ _
    have hk1 : Kept (fun _ => False) w (w.alloc (.cells #[.int .i64 f, .int .i64 u] 23)) := (Kept.refl _ w).alloc _
    generalize w.alloc (.cells #[.int .i64 f, .int .i64 u] 23) = w1 at *
    generalize w.heap.size = vb at *
    have d0 := hB.cell (o := 0) rfl
    have d1 := hB.cell (o := 1) rfl
    have e0 : Kept (fun _ => False) w1 w1 := Kept.refl _ w1
    have KS := Lib.hid fun (w' : World) (k : Kept (fun _ => False) w1 w') => And.intro ((k.blk hB (fun f => f)).cell (o := 0) rfl) ((k.blk hB (fun f => f)).cell (o := 1) rfl)
    have E0 := Lib.hid e0
    clear e0 hB
    go_region_held3 (fun w' => w'.cell? ⟨vb, 0, none⟩ = some (.int .i64 f) ∧ w'.cell? ⟨vb, 1, none⟩ = some (.int .i64 u)) ((refine KS.out _ ?_; repeat (first | exact E0.out | (with_reducible refine Kept.drew ?_) | (with_reducible refine Kept.alloc ?_ _))))
      (first | (go_at_call 21; refine Calls.mono (min1 _ _ _ _ _ HY.out ?_) ?_; (simp); rintro e w' ⟨rfl, rfl⟩) | (go_at_call 20; refine Calls.mono (max1 _ _ _ _ _ HX.out ?_) ?_; (simp); rintro e w' ⟨rfl, rfl⟩))
    all_goals
      go_wp2_with fail
      go_ret
      exact ⟨_, rfl, Byt.row_nil _ _, hk1.trans (by repeat (first | exact E0.out | (with_reducible refine Kept.drew ?_) | (with_reducible refine Kept.alloc ?_ _)))⟩
/-- What the reference's Bytes answers: a part of what came in. -/
def PartP (w : World) (l : List UInt8) (e : Ending) (w' : World) : Prop := ∃ v', e = .returned v' ∧ Byt.Src w' v' l ∧ Kept (fun _ => False) w w'
theorem src_nil (w : World) : Byt.Src w (.slice none 0 0) [] := ⟨none, 0, rfl, Nat.le_refl _, Or.inl rfl, fun _ => rfl⟩
set_option maxHeartbeats 4000000 in
set_option maxRecDepth 100000 in
theorem bytesR_any {w : World} {s : Option Addr} {c : Nat} {l : List UInt8} (h : Byt.Src w (.slice s l.length c) l) (f u : Int) (hc : c ≤ 9223372036854775807) :
    Calls Try.prog 14 #[.slice s l.length c, .agg #[.int .i64 f, .int .i64 u]] w (PartP w (sub l f u)) := by
  obtain ⟨x, hx⟩ : ∃ x, x = max f 0 := ⟨_, rfl⟩
  obtain ⟨y, hy⟩ : ∃ y, y = min u l.length := ⟨_, rfl⟩
  have HX : (if f < 0 then 0 else f) = x := (hx.trans (max_if _ _)).symm
  have HY : (if (l.length : Int) < u then (l.length : Int) else u) = y := (hy.trans (min_if _ _)).symm
  rcases Int.lt_or_le x y with hxy | hxy
  · obtain ⟨i, rfl⟩ : ∃ i : Nat, x = i := ⟨x.toNat, by omega⟩
    obtain ⟨j, rfl⟩ : ∃ j : Nat, y = j := ⟨y.toNat, by omega⟩
    have e : sub l f u = (l.drop i).take (j - i) := by
      unfold sub
      rw [← hx, ← hy, Int.toNat_natCast]
      congr 1
      omega
    rw [e]
    obtain ⟨b, o, rfl, hp⟩ := src_part h (show i < j by omega) (by omega)
    have hjl : j ≤ l.length := by omega
    have hlc : l.length ≤ c := by obtain ⟨_, _, e, hc, _⟩ := h; cases e; exact hc
    have hij : i < j := by omega
    have hd : decide ((j : Int) ≤ (i : Int)) = false := by rw [decide_eq_false_iff_not]; omega
    have hd2 : decide (j ≤ i) = false := by rw [decide_eq_false_iff_not]; omega
    have hne : ¬ (c = i) := by omega
    have hl2 : ((l.drop i).take (j - i)).length = j - i := by rw [List.length_take, List.length_drop]; omega
    have hic : i ≤ c := by omega
    have hjc : j ≤ c := by omega
    have hij2 : i ≤ j := by omega
    have hz1 : (i : Int) ≤ (j : Int) := by omega
    have hz2 : (j : Int) ≤ (c : Int) := by omega
    have HP := Lib.hid hp
    have HL := Lib.hid hl2
    clear hx hy hxy hp h hl2
    go_enter Try.func14, Try.ntmps14
    go_upto_region 1 with fail
    go_quiet (fail)
    go_wp2_with fail
    go_ret
    have hkw : Kept (fun _ => False) w ((w.alloc (.cells #[.int .i64 f, .int .i64 u] 23)).drewN nq) := ((Kept.refl _ w).alloc _).drewN nq
    exact ⟨_, rfl, HP.out.kept hkw, hkw⟩
  · rw [sub_none (by omega)]
    have hd : decide (y ≤ x) = true := decide_eq_true hxy
    clear hx hy hxy h
    go_enter Try.func14, Try.ntmps14
    go_upto_region 1 with fail
    go_quiet (fail)
    go_wp2_with fail
    go_ret
    exact ⟨_, rfl, src_nil _, ((Kept.refl _ w).alloc _).drewN _⟩
end Go.Proofs.Ytkgplpjecbbckaa.Sg
