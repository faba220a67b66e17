/- ReasmOther (mizzenlaw7): for every slice of bytes and every two ints the law returns true and its arguments read as before. Conditions: none. -/
import Derived.Test.YtfkcplapmkpkbaaRows
import Derived.Test.YtfkcplapmkpkbaaByt
import Derived.Test.YtfkcplapmkpkbaaEnd
import Derived.Test.YtfkcplapmkpkbaaInts
import Derived.WalkKit
import Derived.ProofKit
import Derived.OpenShut
import Derived.Test.YtfkcplapmkpkbaaRmLaw
set_option linter.unusedVariables false
namespace Go.Proofs.Ytfkcplapmkpkbaa.reasmOther
open Go.ChangeShapes Go.WideShapes Go.ChangeAt Go.RowKit Go.Proofs.Ytfkcplapmkpkbaa.Hp Go.Proofs.Ytfkcplapmkpkbaa.End
open Opn IvM RmM Rm
theorem own : ownKnob Try.prog.godebug = none := by kernel_rfl
attribute [local go_sem ↓] Go.wp_at_zero Go.wp_at_succ
set_option maxRecDepth 100000 in
set_option maxHeartbeats 2000000 in
theorem early (l : List UInt8) (s : Option Addr) (cap : Nat) (at_ frm : Int) (w : World) (h : ¬ (2 ≤ l.length ∧ l.length ≤ 300)) :
    Calls Try.prog 4 #[.slice s l.length cap, .int .i64 at_, .int .i64 frm] w fun e w' => e = .returned (.bool true) ∧ Old w w' := by
  have HC := Lib.hid fun w => awake_any w
  have hc : l.length < 2 ∨ (¬ l.length < 2 ∧ 300 < l.length) := by omega
  clear h
  rcases hc with h1 | ⟨h1, h2⟩
  all_goals
    go_enter Try.func4, Try.ntmps4
    go_wp2_with (go_at_call 6; refine (HC.out _).mono ?_; rintro e w' ⟨rfl, ho⟩)
    go_ret
    exact ⟨rfl, ho⟩
/-- A row that is not empty. -/
theorem row_some {w : World} {base : Nat} {v : Value} {l : List UInt8} (h : Byt.Row w base v l) (h0 : 1 ≤ l.length) :
    ∃ g cap x, v = .slice (some ⟨g, 0, none⟩) l.length cap ∧ base ≤ g ∧ g < w.heap.size ∧ cap ≤ 9223372036854775807 ∧ w.cell? ⟨g, 0, none⟩ = some (.int .u8 x) ∧ w.frozen? ⟨g, 0, none⟩ = false := by
  rcases h.form with ⟨_, rfl⟩ | ⟨g, cap, cur, rfl, h1, h2, h3, h4, h5, h6⟩
  · simp at h0
  · refine ⟨g, cap, (l[0].toNat : Int), rfl, h1, h2.lt, by unfold maxLen at h4; omega, ?_, h2.frozen 0⟩
    refine h2.cell ?_
    have := Byt.bvs_at (l := l) (j := 0) (by omega)
    rw [← h6, List.getElem?_take, if_pos (by omega)] at this
    exact this
theorem row_cell {w : World} {base g c : Nat} {X : List UInt8} (h : Byt.Row w base (.slice (some ⟨g, 0, none⟩) X.length c) X) {i : Nat} (hi : i < X.length) :
    w.cell? ⟨g, i, none⟩ = some (Byt.bv X[i]) ∧ w.frozen? ⟨g, i, none⟩ = false ∧ base ≤ g ∧ g < w.heap.size ∧ c ≤ 9223372036854775807 ∧ X.length ≤ c := by
  rcases h.form with ⟨e, _⟩ | ⟨g', cap, cur, e, h1, h2, h3, h4, h5, h6⟩
  · cases e
  · cases e
    refine ⟨h2.cell ?_, h2.frozen i, h1, h2.lt, by unfold maxLen at h4; omega, h3⟩
    have := Byt.bvs_at hi
    rw [← h6, List.getElem?_take, if_pos hi] at this
    exact this
theorem row_set {w : World} {base g c : Nat} {X : List UInt8} (h : Byt.Row w base (.slice (some ⟨g, 0, none⟩) X.length c) X) {i : Nat} (hi : i < X.length) (z : UInt8) :
    Byt.Row (w.setCell ⟨g, i, none⟩ (Byt.bv z)) base (.slice (some ⟨g, 0, none⟩) X.length c) (X.set i z) := by
  rcases h.form with ⟨e, _⟩ | ⟨g', cap, cur, e, h1, h2, h3, h4, h5, h6⟩
  · cases e
  · cases e
    refine ⟨by simp [Byt.bvs], Or.inr ⟨g, c, (cur.set i (Byt.bv z)).toArray, ?_, h1, h2.set i _, by simpa using h3, h4, by simpa using h5, ?_⟩⟩
    · simp
    · have e2 : Byt.bvs (X.set i z) = (Byt.bvs X).set i (Byt.bv z) := by unfold Byt.bvs; rw [List.map_set]
      rw [e2, ← h6]
      simp [List.take_set]
theorem drop_in {l : List UInt8} {p : Nat} (hp : p < l.length) : ((l ++ [0]).drop p).take 1 = (l.drop p).take 1 := by
  rw [List.drop_append_of_le_length (by omega), List.take_append_of_le_length (by rw [List.length_drop]; omega)]
theorem drop_all {l : List UInt8} {q : Nat} (hq : q ≤ l.length) : l.drop q ++ [0] = ((l ++ [0]).drop q).take (l.length + 1 - q) := by
  rw [List.drop_append_of_le_length hq, List.take_of_length_le (by rw [List.length_append, List.length_drop]; simp; omega)]
set_option maxRecDepth 100000 in
set_option maxHeartbeats 16000000 in
theorem late (l : List UInt8) (b0 o cap p q : Nat) (at_ frm : Int) (w : World) (hB : Byts w (some ⟨b0, o, none⟩) cap l) (g1 : 2 ≤ l.length) (g2 : l.length ≤ 300) (hp : at_ % (l.length : Int) = (p : Int)) (hp2 : p < l.length) (hq : frm % ((p : Int) + 1) = (q : Int)) (hq2 : q ≤ p)
    (b1 : -9223372036854775808 ≤ at_ ∧ at_ ≤ 9223372036854775807) (b2 : -9223372036854775808 ≤ frm ∧ frm ≤ 9223372036854775807) :
    Calls Try.prog 4 #[.slice (some ⟨b0, o, none⟩) l.length cap, .int .i64 at_, .int .i64 frm] w fun e w' => e = .returned (.bool true) ∧ Old w w' := by
  have HC := Lib.hid fun w => awake_any w
  have HB := Lib.hid hB
  have hcap : l.length ≤ cap := by obtain ⟨_, _, e, hc, _⟩ := hB.1; cases e; exact hc
  have N := Lib.hid fun w => new_yes (n := l.length + 1) (most := 1000) (by omega) (by omega) (by omega) (by omega) w
  have R1 := Lib.hid fun w => Iv.round_pos (k := at_) (n := (l.length : Int)) (by omega) (by omega) b1.1 b1.2 w
  have R2 := Lib.hid fun w => Iv.round_pos (k := frm) (n := (p : Int) + 1) (by omega) (by omega) b2.1 b2.2 w
  rw [hp] at R1
  rw [hq] at R2
  have eN : ((l.length + 1 : Nat) : Int) = (l.length : Int) + 1 := by omega
  rw [eN] at N
  have h1 : ¬ (l.length < 2) := by omega
  have h2 : ¬ (300 < l.length) := by omega
  have hne : ¬ (cap = p) := by omega
  have hne2 : ¬ (cap = q) := by omega
  have hz1 : (p : Int) + 1 ≤ (cap : Int) := by omega
  have hz2 : (p : Int) ≤ (p : Int) + 1 := by omega
  have hz3 : (q : Int) ≤ (l.length : Int) := by omega
  clear hB hp hq eN b1 b2
  go_enter Try.func4, Try.ntmps4
  go_wp2_with fail
  with_reducible refine Calls.mono (N.out _) ?_
  rintro e w1 ⟨b, F, rfl, hb1, k1⟩
  go_wp2_with fail
  with_reducible refine Calls.mono (R1.out _) ?_
  rintro e w' ⟨rfl, rfl⟩
  go_wp2_with fail
  with_reducible refine Calls.mono (R2.out _) ?_
  rintro e w' ⟨rfl, rfl⟩
  clear N R1 R2
  go_wp2_with fail
  have P1 : Hid (Calls Try.prog 9 #[.pointer (some ⟨b, 0, none⟩), .int .i64 (p : Int), .slice (some ⟨b0, o + p, none⟩) 1 (cap - p)] w1 fun e w' =>
      ∃ F' D', e = .returned (.tuple #[.int .i64 1, .int .i64 0]) ∧ BufV w' w.heap.size F' b (l.length + 1) [((p : Int), (p : Int) + 1)] D' ∧ Agree [((p : Int), (p : Int) + 1)] D' (l ++ [0]) ∧ Old w w') := by
    have hown : ∀ i, F i → w.heap.size ≤ i ∧ i < w1.heap.size := by obtain ⟨_, _, _, hb⟩ := hb1.bare; exact hb.own
    have hlt : b0 < w.heap.size := by
      obtain ⟨_, _, e, hc, hs, _⟩ := HB.out.1
      cases e
      obtain ⟨_, _, e2, hlt, _⟩ := hs.resolve_left (fun e => by rw [e] at g1; simp at g1)
      cases e2
      exact hlt
    have s1 := src_drop (HB.out.1.kept k1) hp2
    have hl1 : (l.drop p).length = l.length - p := List.length_drop
    rw [← hl1] at s1
    have s2 := src_take s1 (i := 1) (by omega)
    rw [← drop_in hp2] at s2
    have := put_part hb1 k1.size (agree_nil _ (l ++ [0])) (by simp) (off := p) (m := 1) s2 (fun e => by have := hown _ e; omega) (by omega) (by omega) (by have := HB.out.2; omega)
    refine Calls.mono this ?_
    have e1 : fr [] (p : Int) ((p : Int) + ((1 : Nat) : Int)) = 1 := by unfold fr inn; omega
    rw [e1]
    rintro e w' ⟨L, D', rfl, hB, ha, hx, hk⟩
    have e2 : L = [((p : Int), (p : Int) + 1)] := by
      obtain ⟨_, _, _, hb⟩ := hB.bare
      exact Iv.only hb.set.good (by omega) (by omega) (by omega) (fun x => (hx x).trans ⟨fun h => h.elim (fun h => by simp [IvM.Has] at h) (fun h => by omega), fun h => Or.inr (by omega)⟩)
    subst e2
    exact ⟨_, D', rfl, hB, ha, k1.trans' hk (fun i hi e => by have := (hown _ e).1; omega)⟩
  clear hb1 k1
  with_reducible refine Calls.mono P1.out ?_
  rintro e w2 ⟨F2, D, rfl, hb2, ha2, k2⟩
  have HB2 := Lib.hid hb2
  have HA2 := Lib.hid ha2
  have K2 := Lib.hid k2
  clear P1 hb2 ha2
  go_upto_region 9 with fail
  have hR2 := Byt.row_new w2
  have k3 : Kept (fun _ => False) w2 (w2.alloc (.cells #[] 5)) := (Kept.refl _ w2).alloc _
  have hS2 := src_drop (HB.out.1.kept (k2.trans k3)) (show q < l.length by omega)
  have hl2 : (l.drop q).length = l.length - q := List.length_drop
  rw [← hl2] at hS2
  have HR2 := Lib.hid hR2
  have HS2 := Lib.hid hS2
  have K3 := Lib.hid k3
  have HL2 := Lib.hid hl2
  clear hR2 hS2 k3 k2 hl2
  go_upto_region 10 with (first
    | (at_builtin; rw [← HL2.out]; refine Byt.wpList_app rfl _ _ rfl w2.heap.size (v := .slice (some ⟨w2.heap.size, 0, none⟩) 0 0) rfl HR2.out rfl HS2.out (by simp; omega) K3.out.size ?_; intro v' w3 hA
       have hR3 : Byt.Row w3 w2.heap.size v' (l.drop q) := by have := hA.row; rw [List.nil_append] at this; exact this
       have k23 : Kept (fun _ => False) w2 w3 := K3.out.trans' hA.kept (fun i hi e => by have h1 := (HR2.out.lt i e).1; omega)
       have HR4 := Lib.hid (hR3.kept ((Kept.refl (fun _ => False) w3).alloc (.cells #[.int .u8 0] 5)) (fun _ _ f => f))
       have HS4 : Hid (Byt.Src (w3.alloc (.cells #[.int .u8 0] 5)) (.slice (some ⟨w3.heap.size, 0, none⟩) 1 1) [0]) := Lib.hid (src_mark w3 [0] 5 (0, 0))
       have K4 := Lib.hid (k23.alloc (.cells #[.int .u8 0] 5))
       clear hA hR3 k23)
    | (at_builtin; refine Byt.wpList_app rfl _ _ rfl w2.heap.size (v := v') rfl HR4.out rfl HS4.out (by rw [HL2.out]; simp; omega) K4.out.size ?_; intro v5 w5 hA))
  have k25 : Kept (fun _ => False) w2 w5 := K4.out.trans' hA.kept (fun i hi e => by have h1 := (HR4.out.lt i e).1; omega)
  have hR5 := hA.row
  rw [drop_all (show q ≤ l.length by omega)] at hR5
  obtain ⟨m, hm⟩ : ∃ m, l.length + 1 - q = m := ⟨_, rfl⟩
  rw [hm] at hR5
  have hXl : (((l ++ [0]).drop q).take m).length = m := by rw [List.length_take, List.length_drop, List.length_append]; simp; omega
  obtain ⟨X, hX⟩ : ∃ X, X = ((l ++ [0]).drop q).take m := ⟨_, rfl⟩
  rw [← hX] at hR5 hXl
  obtain ⟨g, c, x0, rfl, hg1, hg2, hc, _, _⟩ := row_some hR5 (by omega)
  obtain ⟨i, hi⟩ : ∃ i, p = q + i := ⟨p - q, by omega⟩
  have him : i < m := by omega
  obtain ⟨cc, cf, _⟩ := row_cell hR5 (i := i) (by omega)
  obtain ⟨y, hy⟩ : ∃ y, X[i]'(by omega) = y := ⟨_, rfl⟩
  rw [hy] at cc
  have hyp : (l ++ [0])[p]? = some y := by
    rw [← hy, ← List.getElem?_eq_getElem (l := X) (i := i) (by omega)]
    rw [hX, List.getElem?_take, if_pos him, List.getElem?_drop, hi]
  unfold Byt.bv at cc
  have hzp : ((y.toNat : Int) + 1) % 256 = ((y + 1).toNat : Int) := by rw [UInt8.toNat_add]; simp
  have hzm : (((y + 1).toNat : Int) - 1) % 256 = (y.toNat : Int) := by
    have := y.toNat_lt
    rw [← hzp]; omega
  have hyz : y ≠ y + 1 := fun e => by
    have h1 := congrArg UInt8.toNat e
    have := y.toNat_lt
    omega
  generalize y + 1 = z at *
  rw [hXl]
  have hsub : (p : Int) - (q : Int) = (i : Int) := by omega
  have q0 : (0 : Int) ≤ (i : Int) := by omega
  have q1 : (i : Int) < (m : Int) := by omega
  have HR5 := Lib.hid hR5
  have K25 := Lib.hid k25
  have HM := Lib.hid hm
  have HXL := Lib.hid hXl
  have HX := Lib.hid hX
  have HI := Lib.hid hi
  have HYP := Lib.hid hyp
  have HYZ := Lib.hid hyz
  have HZ := Lib.hid hzp
  have HZ2 := Lib.hid hzm
  clear hA hR5 k25 hm hXl hX hi hyp hyz hzp hzm hy HR4 HS4 K4 HR2 HS2 K3 HL2 hz1 hz2 hz3 hne hne2
  go_upto_region 11 with fail
  rw [HZ.out]
  have hR6 : Byt.Row (w5.setCell ⟨g, i, none⟩ (.int .u8 (z.toNat : Int))) w2.heap.size (.slice (some ⟨g, 0, none⟩) X.length c) (X.set i z) := row_set HR5.out (by rw [HXL.out]; exact him) z
  have k56 : Kept (fun k => k = g) w5 (w5.setCell ⟨g, i, none⟩ (.int .u8 (z.toNat : Int))) := Kept.one w5 g i _
  have hs6 : (w5.setCell ⟨g, i, none⟩ (.int .u8 (z.toNat : Int))).heap.size = w5.heap.size := by simp
  generalize w5.setCell ⟨g, i, none⟩ (.int .u8 (z.toNat : Int)) = w6 at *
  have k26 : Kept (fun _ => False) w2 w6 := K25.out.trans' k56 (fun i hi e => by omega)
  have hF2 : ∀ i, F2 i → w.heap.size ≤ i ∧ i < w2.heap.size := by obtain ⟨_, _, _, hb⟩ := HB2.out.bare; exact hb.own
  have HF2 := Lib.hid hF2
  have P6 : Hid (Calls Try.prog 9 #[.pointer (some ⟨b, 0, none⟩), .int .i64 (q : Int), .slice (some ⟨g, 0, none⟩) m c] w6 fun e w' => e = .returned (.tuple #[.int .i64 0, .int .i64 2]) ∧ Kept (fun _ => False) w6 w') := by
    have hl : (X.set i z).length = m := by rw [List.length_set, HXL.out]
    have hS := hR6.src
    rw [HXL.out, ← hl] at hS
    have hm := HM.out
    have := put_any (HB2.out.old k26) (K2.out.trans k26).size hS (fun e => by have := hF2 _ e; omega) (by rw [hl]; omega) (off := q) (by rw [hl]; omega) hc
    rw [hl] at this
    refine Calls.mono this ?_
    have hC : Clash [((p : Int), (p : Int) + 1)] D (X.set i z) q := by
      refine ⟨i, z, ?_, ?_, ?_⟩
      · rw [List.getElem?_set_self (by rw [HXL.out]; exact him)]
      · have := HI.out
        exact has_one.2 ⟨by show (p : Int) ≤ _; omega, by show _ < (p : Int) + 1; omega⟩
      · rw [← HI.out, HA2.out p (has_one.2 ⟨Int.le_refl _, by show (p : Int) < (p : Int) + 1; omega⟩), HYP.out]
        exact fun e => HYZ.out (Option.some.inj e)
    rintro e w' (⟨_, rfl, hk⟩ | ⟨hn, _⟩)
    · exact ⟨rfl, hk⟩
    · exact absurd hC hn
  have HR6 := Lib.hid hR6
  have K26 := Lib.hid k26
  clear hR6 k26 k56 hs6 hF2 cc cf
  go_wp2_with fail
  with_reducible refine Calls.mono P6.out ?_
  rintro e w7 ⟨rfl, k7⟩
  have L7 : Hid (Calls Try.prog 11 #[.pointer (some ⟨b, 0, none⟩)] w7 fun e w' => e = .returned (.int .i64 (l.length : Int)) ∧ Kept (fun _ => False) w7 w') := by
    have := left_any (HB2.out.old (K26.out.trans k7))
    have e : ((l.length + 1 : Nat) : Int) - size [((p : Int), (p : Int) + 1)] = (l.length : Int) := by
      have : size [((p : Int), (p : Int) + 1)] = 1 := by simp [size]; omega
      omega
    rw [e] at this
    exact this
  have K7 := Lib.hid k7
  have ell : ((l.length : Int) == (l.length : Int)) = true := beq_self_eq_true _
  clear k7 P6
  go_wp2_with fail
  with_reducible refine Calls.mono L7.out ?_
  rintro e w8 ⟨rfl, k8⟩
  have k68 := K7.out.trans k8
  have hR8 := HR6.out.kept k68 (fun _ _ f => f)
  obtain ⟨cc, cf, _⟩ : w8.cell? ⟨g, i, none⟩ = some (.int .u8 (z.toNat : Int)) ∧ w8.frozen? ⟨g, i, none⟩ = false ∧ True := by
    have h1 : (X.set i z).length = X.length := List.length_set
    have h2 := hR8
    rw [← h1] at h2
    have := row_cell h2 (i := i) (by rw [h1, HXL.out]; exact him)
    rw [List.getElem_set_self] at this
    exact ⟨this.1, this.2.1, trivial⟩
  have HR8 := Lib.hid hR8
  have K28 := Lib.hid (K26.out.trans k68)
  clear k8 L7 K7 HR6 K26 hR8 k68
  go_upto_region 15 with fail
  rw [HZ2.out]
  have hR9 : Byt.Row (w8.setCell ⟨g, i, none⟩ (.int .u8 (y.toNat : Int))) w2.heap.size (.slice (some ⟨g, 0, none⟩) X.length c) X := by
    have h1 : (X.set i z).length = X.length := List.length_set
    have h2 := HR8.out
    rw [← h1] at h2
    have h3 := row_set h2 (i := i) (by rw [h1, HXL.out]; exact him) y
    have h4 : (X.set i z).set i y = X := by
      rw [List.set_set]
      have hy : X[i]? = some y := by
        rw [HX.out, List.getElem?_take, if_pos him, List.getElem?_drop, ← HI.out]
        exact HYP.out
      refine List.ext_getElem? fun j => ?_
      by_cases hj : j = i
      · subst hj
        rw [List.getElem?_set_self (by rw [HXL.out]; exact him), hy]
      · rw [List.getElem?_set_ne (fun e => hj e.symm)]
    rw [h4, h1] at h3
    exact h3
  have k89 : Kept (fun k => k = g) w8 (w8.setCell ⟨g, i, none⟩ (.int .u8 (y.toNat : Int))) := Kept.one w8 g i _
  generalize w8.setCell ⟨g, i, none⟩ (.int .u8 (y.toNat : Int)) = w9 at *
  have k29 : Kept (fun _ => False) w2 w9 := K28.out.trans' k89 (fun i hi e => by omega)
  have P9 : Hid (Calls Try.prog 9 #[.pointer (some ⟨b, 0, none⟩), .int .i64 (q : Int), .slice (some ⟨g, 0, none⟩) m c] w9 fun e w' => e = .returned (.tuple #[.int .i64 ((m : Int) - 1), .int .i64 0]) ∧ Old w w') := by
    have hS := hR9.src
    rw [HXL.out, HX.out] at hS
    have hm := HM.out
    have := put_part (HB2.out.old k29) (K2.out.trans k29).size HA2.out (by simp) hS (fun e => by have := HF2.out _ e; omega) (by omega) (off := q) (by omega) hc
    have e1 : fr [((p : Int), (p : Int) + 1)] (q : Int) ((q : Int) + (m : Nat)) = (m : Int) - 1 := by
      unfold fr inn inn
      have := HI.out
      omega
    rw [e1] at this
    refine Calls.mono this ?_
    rintro e w' ⟨L, D', rfl, _, _, _, hk⟩
    exact ⟨rfl, (K2.out.trans k29).trans' hk (fun i hi e => by have := (HF2.out _ e).1; omega)⟩
  clear hR9 k89 k29 cc cf HR8 ell hsub q0 q1 him hg1 hg2 hc HF2
  go_wp2_with fail
  with_reducible refine Calls.mono P9.out ?_
  rintro e w10 ⟨rfl, k10⟩
  have hmb : m ≤ 301 := by have := HM.out; omega
  have hmb0 : 1 ≤ m := by have := HM.out; omega
  clear P9
  go_wp2_with fail
  with_reducible refine Calls.mono (HC.out _) ?_
  rintro e w11 ⟨rfl, k11⟩
  go_wp2_with fail
  go_ret
  exact ⟨rfl, k10.trans k11⟩
theorem walk (l : List UInt8) (s : Option Addr) (cap : Nat) (at_ frm : Int) (w : World) (w0 : Byts w s cap l) (w1 : (Lit.int .i64 at_).wf = true) (w2 : (Lit.int .i64 frm).wf = true) :
    Calls Try.prog 4 #[.slice s l.length cap, .int .i64 at_, .int .i64 frm] w fun e w' => e = .returned (.bool true) ∧ Old w w' := by
  by_cases h : 2 ≤ l.length ∧ l.length ≤ 300
  · obtain ⟨_, _, e, hc, hs, _⟩ := w0.1
    cases e
    obtain ⟨b0, o, rfl, _⟩ := hs.resolve_left (fun e => by rw [e] at h; simp at h)
    have p0 := Int.emod_nonneg at_ (show (l.length : Int) ≠ 0 by omega)
    have p1 := Int.emod_lt_of_pos at_ (show (0 : Int) < l.length by omega)
    obtain ⟨p, hp⟩ : ∃ p : Nat, at_ % (l.length : Int) = (p : Int) := ⟨(at_ % (l.length : Int)).toNat, by omega⟩
    have q0 := Int.emod_nonneg frm (show (p : Int) + 1 ≠ 0 by omega)
    have q1 := Int.emod_lt_of_pos frm (show (0 : Int) < (p : Int) + 1 by omega)
    obtain ⟨q, hq⟩ : ∃ q : Nat, frm % ((p : Int) + 1) = (q : Int) := ⟨(frm % ((p : Int) + 1)).toNat, by omega⟩
    exact late l b0 o cap p q at_ frm w w0 h.1 h.2 hp (by omega) hq (by omega) (bounds_i64 w1) (bounds_i64 w2)
  · exact early l s cap at_ frm w h
set_option maxRecDepth 100000 in
set_option maxHeartbeats 1000000 in
theorem lifted (os : Os) (started : os.Started) (H : Type) (enc : TypeId × Value → H) :
    ReturnsInHanded {} Try.checked os 4 .any (Rows.reasmOtherSpec.pre6 enc Try.prog Try.f4 Rows.reasmOtherRow.domain false) (Rows.reasmOtherSpec.post enc Try.prog Try.f4 false true false false) := by
  refine returnsInHanded_of_change (C := Try.checked) own started (by kernel_rfl) Try.func4
    (ChangeSpec.witness6 (enc := enc) (C := Try.checked) false ⟨#[], #[.slice none 0 0, .int .i64 0, .int .i64 0], []⟩ 8 (by kernel_rfl) (by kernel_rfl) (by kernel_rfl) (by kernel_rfl)) ?_
  intro W base args ds gs before hval0 hW hcnd _
  have hval : ∀ (j : Nat) t v, Try.f4.params[j]? = some t → args[j]? = some v → Value.okWide Try.prog W .any base t v := hval0
  have hW' := hW
  obtain ⟨p, q, hA0, hV, rfl, hfz, hnd⟩ := hW
  have hA : DataW.TrodAll enc Try.prog W 0 (fun _ => true) true Try.f4.params.toList args.toList ds p := hA0
  rw [Try.params4] at hA hval
  obtain ⟨v0, vs0, d0, ds0, p0, q0, hargs, rfl, rfl, h0, r0⟩ := trodAll_cons hA
  obtain ⟨v1, vs1, d1, ds1, p1, q1, rfl, rfl, rfl, h1, r1⟩ := trodAll_cons r0
  obtain ⟨v2, vs2, d2, ds2, p2, q2, rfl, rfl, rfl, h2, r2⟩ := trodAll_cons r1
  obtain ⟨rfl, rfl, rfl⟩ := trodAll_nil r2
  obtain rfl : args = #[v0, v1, v2] := by cases args; simp_all
  obtain ⟨rfl, rfl⟩ := trodVars_none hV
  obtain ⟨s0, cap0, a0, rfl, w0⟩ := Opn.bytes_of (hval 0 22 v0 rfl rfl) h0
  obtain ⟨a1, rfl, rfl, rfl, w1⟩ := open_int Try.underlying3 (hval 1 3 v1 rfl rfl) h1
  obtain ⟨a2, rfl, rfl, rfl, w2⟩ := open_int Try.underlying3 (hval 2 3 v2 rfl rfl) h2
  clear hA0 hval0
  refine (walk a0 s0 cap0 a1 a2 W w0 w1 w2).mono fun e W' ⟨he, hg⟩ => ?_
  subst he
  exact ⟨_, rfl, post_of_old hW' (fun _ _ _ => (trodAll_cons_mk (shut_bool Try.underlying4 _) trodAll_mk0)) (fun sp hsp => (trodAll_cons_mk (Opn.back (by kernel_rfl) (of_decide_eq_true (by kernel_rfl)) h0 hg (fun x hx => hW'.lt x (by simp [hx])) (fun x hx => hsp x (by simp [hx]))) (trodAll_cons_mk (shut_int Try.underlying3 w1) (trodAll_cons_mk (shut_int Try.underlying3 w2) trodAll_mk0)))) (fun _ _ => rfl)
    hg (ok_one (by kernel_rfl) rfl (okWide_bool_mk Try.underlying4 _))⟩
theorem over : Rows.reasmOtherRow.holds Try.pinned (OpenSpec.ofChange Rows.reasmOtherSpec) :=
  OpenClaim.holds_of_wide 4 Try.f4 rfl rfl rfl rfl rfl rfl rfl ⟨rfl, rfl, rfl, rfl, rfl⟩ rfl rfl rfl rfl rfl (by kernel_rfl) Try.func4 (by kernel_rfl)
    (of_decide_eq_true (by kernel_rfl)) (by unfold Func.isWrapper; first | (rw [if_pos (by decide +kernel)]; kernel_rfl) | (rw [if_neg (by decide +kernel)]; exact ⟨rfl, rfl⟩))
    (fun os started H enc _ => lifted os started H enc)
theorem proved : Rows.ReasmOtherSaid :=
  over
#print axioms proved
end Go.Proofs.Ytfkcplapmkpkbaa.reasmOther
