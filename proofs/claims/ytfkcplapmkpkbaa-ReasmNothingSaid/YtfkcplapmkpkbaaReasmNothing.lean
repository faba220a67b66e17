/- ReasmNothing (mizzenlaw7): for every slice of bytes the law returns true and its argument reads as before. Conditions: none. -/
import Derived.Test.YtfkcplapmkpkbaaRows
import Derived.Test.YtfkcplapmkpkbaaByt
import Derived.Test.YtfkcplapmkpkbaaEnd
import Derived.Test.YtfkcplapmkpkbaaInts
import Derived.WalkKit
import Derived.ProofKit
import Derived.OpenShut
import Derived.Test.YtfkcplapmkpkbaaRmLaw
set_option linter.unusedVariables false
namespace Go.Proofs.Ytfkcplapmkpkbaa.reasmNothing
open Go.ChangeShapes Go.WideShapes Go.ChangeAt Go.RowKit Go.Proofs.Ytfkcplapmkpkbaa.Hp Go.Proofs.Ytfkcplapmkpkbaa.End
open Opn IvM RmM Rm
theorem own : ownKnob Try.prog.godebug = none := by kernel_rfl
attribute [local go_sem ↓] Go.wp_at_zero Go.wp_at_succ
set_option maxRecDepth 100000 in
set_option maxHeartbeats 2000000 in
theorem early (l : List UInt8) (s : Option Addr) (cap : Nat) (w : World) (h : ¬ (1 ≤ l.length ∧ l.length ≤ 300)) :
    Calls Try.prog 5 #[.slice s l.length cap] w fun e w' => e = .returned (.bool true) ∧ Old w w' := by
  have HC := Lib.hid fun w => awake_any w
  have hc : l.length = 0 ∨ (¬ l.length = 0 ∧ 300 < l.length) := by omega
  clear h
  rcases hc with h1 | ⟨h1, h2⟩
  · rw [h1]
    go_enter Try.func5, Try.ntmps5
    go_wp2_with (go_at_call 6; refine (HC.out _).mono ?_; rintro e w' ⟨rfl, ho⟩)
    go_ret
    exact ⟨rfl, ho⟩
  · have h3 : ((l.length : Int) == 0) = false := by rw [beq_eq_false_iff_ne]; omega
    go_enter Try.func5, Try.ntmps5
    go_wp2_with (go_at_call 6; refine (HC.out _).mono ?_; rintro e w' ⟨rfl, ho⟩)
    go_ret
    exact ⟨rfl, ho⟩
/-- A row that is not empty. -/
theorem row_some {w : World} {base : Nat} {v : Value} {l : List UInt8} (h : Byt.Row w base v l) (h0 : 1 ≤ l.length) :
    ∃ g cap x, v = .slice (some ⟨g, 0, none⟩) l.length cap ∧ base ≤ g ∧ g < w.heap.size ∧ cap ≤ 9223372036854775807 ∧ w.cell? ⟨g, 0, none⟩ = some (.int .u8 x) ∧ w.frozen? ⟨g, 0, none⟩ = false := by
  rcases h.form with ⟨_, rfl⟩ | ⟨g, cap, cur, rfl, h1, h2, h3, h4, h5, h6⟩
  · simp at h0
  · refine ⟨g, cap, (l[0].toNat : Int), rfl, h1, h2.lt, by unfold maxLen at h4; omega, ?_, h2.frozen 0⟩
    refine h2.cell ?_
    have := Byt.bvs_at (l := l) (j := 0) (by omega)
    rw [← h6, List.getElem?_take, if_pos (by omega)] at this
    exact this
set_option maxRecDepth 100000 in
set_option maxHeartbeats 16000000 in
theorem late (l : List UInt8) (s : Option Addr) (cap : Nat) (w : World) (hB : Byts w s cap l) (g1 : 1 ≤ l.length) (g2 : l.length ≤ 300) :
    Calls Try.prog 5 #[.slice s l.length cap] w fun e w' => e = .returned (.bool true) ∧ Old w w' := by
  have HC := Lib.hid fun w => awake_any w
  have HB := Lib.hid hB
  have P := Lib.hid fun w => put_nil 0 (.slice s l.length cap) w
  have N := Lib.hid fun w => new_yes (n := l.length) (most := 300) (by omega) (by omega) (by omega) (by omega) w
  have h1 : ((l.length : Int) == 0) = false := by rw [beq_eq_false_iff_ne]; omega
  have h2 : ¬ (300 < l.length) := by omega
  clear hB
  go_enter Try.func5, Try.ntmps5
  go_wp2_with fail
  with_reducible refine Calls.mono (P.out _) ?_
  rintro e w' ⟨rfl, rfl⟩
  go_wp2_with fail
  with_reducible refine Calls.mono (data_nil _) ?_
  rintro e w' ⟨rfl, rfl⟩
  go_wp2_with fail
  with_reducible refine Calls.mono (N.out _) ?_
  rintro e w1 ⟨b, F, rfl, hb1, k1⟩
  have HB1 := Lib.hid hb1
  have K1 := Lib.hid k1
  clear hb1 k1 N P
  go_upto_region 9 with (first
    | (go_at_call 11; refine (left_nil _).mono ?_; rintro e w' ⟨rfl, rfl⟩)
    | (go_at_call 12; refine (total_nil _).mono ?_; rintro e w' ⟨rfl, rfl⟩)
    | (go_at_call 13; refine (front_nil _).mono ?_; rintro e w' ⟨rfl, rfl⟩)
    | (go_at_call 14; refine (gaps_nil _ _ _).mono ?_; rintro e w' ⟨rfl, rfl⟩))
  have hR2 := Byt.row_new w1
  have k2 : Kept (fun _ => False) w1 (w1.alloc (.cells #[] 5)) := (Kept.refl _ w1).alloc _
  have hS2 := HB.out.1.kept (K1.out.trans k2)
  have HR2 := Lib.hid hR2
  have HS2 := Lib.hid hS2
  have K2 := Lib.hid k2
  clear hR2 hS2 k2
  go_wp2_with (at_builtin; refine Byt.wpList_app rfl _ _ rfl w1.heap.size (v := .slice (some ⟨w1.heap.size, 0, none⟩) 0 0) rfl HR2.out rfl HS2.out (by simp; omega) K2.out.size ?_; intro v' w3 hA)
  have hR3 := hA.row
  rw [List.nil_append] at hR3
  obtain ⟨g, c, x, rfl, hg1, hg2, hc, cc, cf⟩ := row_some hR3 g1
  have k13 : Kept (fun _ => False) w1 w3 := K2.out.trans' hA.kept (fun i hi e => by have h1 := (HR2.out.lt i e).1; omega)
  have hB3 := HB1.out.old k13
  obtain ⟨_, _, _, hown⟩ := HB1.out.bare
  have hF : ∀ i, F i → w.heap.size ≤ i ∧ i < w1.heap.size := hown.own
  have k03 := K1.out.trans k13
  have P3 : Hid (Calls Try.prog 9 #[.pointer (some ⟨b, 0, none⟩), .int .i64 0, .slice (some ⟨g, 0, none⟩) l.length c] w3 fun e w' =>
      ∃ q F' L D', e = .returned (.tuple #[.int .i64 q, .int .i64 0]) ∧ BufV w' w.heap.size F' b l.length L D' ∧ Agree L D' l ∧ (∀ x, 0 ≤ x → x < (l.length : Int) → Has L x) ∧ (∀ i, F' i → i ≠ g ∧ i < w'.heap.size) ∧ Kept F w3 w') := by
    have hd : (l.drop 0).take l.length = l := by rw [List.drop_zero, List.take_length]
    have := put_part hB3 k03.size (agree_nil _ l) rfl (off := 0) (m := l.length) (by rw [hd]; exact hR3.src) (fun e => by have := hF _ e; omega) g1 (by omega) hc
    refine Calls.mono this ?_
    rintro e w' ⟨L, D', rfl, hB, ha, hx, hk⟩
    exact ⟨_, _, L, D', rfl, hB, ha, fun x h1 h2 => (hx x).2 (Or.inr (by omega)), fun i hi => hi.elim (fun h => by have := hF _ h; have := hk.size; omega) (fun h => by omega), hk⟩
  have HR3 := Lib.hid hR3
  have K03 := Lib.hid k03
  have HF := Lib.hid hF
  clear hA hR3 k13 hB3 hown hF k03 K2 HR2 HS2 HB1
  go_wp2_with fail
  with_reducible refine Calls.mono P3.out ?_
  rintro e w4 ⟨q, F', L, D', rfl, hB4, ha4, hx4, hF4, hk4⟩
  have hgF : ¬ F g := fun e => by have := HF.out _ e; omega
  obtain ⟨hcc, hcf⟩ : w4.cell? ⟨g, 0, none⟩ = some (.int .u8 x) ∧ w4.frozen? ⟨g, 0, none⟩ = false := by
    have e := hk4.block g hg2 hgF
    constructor
    · rw [← cc]; simp [World.cell?, e]
    · rw [← cf]; simp [World.frozen?, e]
  have k04 : Kept (fun _ => False) w w4 := K03.out.trans' hk4 (fun i hi e => by have := HF.out _ e; omega)
  have hwg : w.heap.size ≤ g := by have := K1.out.size; omega
  have HB4 := Lib.hid hB4
  have HA4 := Lib.hid ha4
  have HX4 := Lib.hid hx4
  have HF4 := Lib.hid hF4
  have K04 := Lib.hid k04
  have HWG := Lib.hid hwg
  clear hB4 ha4 hx4 hF4 hk4 hgF k04 cc cf P3 HR3 K03 hwg hc hg1
  go_upto_region 12 with fail
  have k45 : Kept (fun k => k = g) w4 (w4.setCell ⟨g, 0, none⟩ (.int .u8 ((x + 1) % 256))) := Kept.one w4 g 0 _
  have hs5 : (w4.setCell ⟨g, 0, none⟩ (.int .u8 ((x + 1) % 256))).heap.size = w4.heap.size := by simp
  generalize w4.setCell ⟨g, 0, none⟩ (.int .u8 ((x + 1) % 256)) = w5 at *
  have hB5 := HB4.out.kept k45 (fun i hi => (HF4.out i hi).1)
  have k05 : Kept (fun _ => False) w w5 := K04.out.trans' k45 (fun i hi e => by have := HWG.out; omega)
  have D5 := Lib.hid (data_part hB5 HA4.out rfl HX4.out)
  have HB5 := Lib.hid hB5
  have K05 := Lib.hid k05
  have HS5 := Lib.hid hs5
  clear k45 hB5 k05 hcc hcf hs5 HB4 K04
  go_wp2_with fail
  with_reducible refine Calls.mono D5.out ?_
  rintro e w6 ⟨v2, rfl, hR6, k6⟩
  obtain ⟨g2, c2, x2, rfl, hg21, hg22, hc2, cc2, cf2⟩ := row_some hR6 g1
  have s1 := Byt.run_str hR6.src
  have s2 := Byt.run_str (HB.out.1.kept (K05.out.trans k6))
  clear D5
  go_upto_region 16 with fail
  have k67 : Kept (fun k => k = g2) w6 (w6.setCell ⟨g2, 0, none⟩ (.int .u8 ((x2 + 1) % 256))) := Kept.one w6 g2 0 _
  generalize w6.setCell ⟨g2, 0, none⟩ (.int .u8 ((x2 + 1) % 256)) = w7 at *
  have k57 : Kept (fun _ => False) w5 w7 := k6.trans' k67 (fun i hi e => by omega)
  have D7 := Lib.hid (data_part (HB5.out.old k57) HA4.out rfl HX4.out)
  have K07 := Lib.hid (K05.out.trans k57)
  clear s1 s2 k67 k57 k6 hR6 cc2 cf2
  go_wp2_with fail
  with_reducible refine Calls.mono D7.out ?_
  rintro e w8 ⟨v3, rfl, hR8, k8⟩
  have s1 := Byt.run_str hR8.src
  have s2 := Byt.run_str (HB.out.1.kept (K07.out.trans k8))
  clear D7
  go_wp2_with fail
  with_reducible refine Calls.mono (HC.out _) ?_
  rintro e w9 ⟨rfl, k9⟩
  go_wp2_with fail
  go_ret
  exact ⟨rfl, (K07.out.trans k8).trans k9⟩
theorem walk (l : List UInt8) (s : Option Addr) (cap : Nat) (w : World) (w0 : Byts w s cap l) :
    Calls Try.prog 5 #[.slice s l.length cap] w fun e w' => e = .returned (.bool true) ∧ Old w w' := by
  by_cases h : 1 ≤ l.length ∧ l.length ≤ 300
  · exact late l s cap w w0 h.1 h.2
  · exact early l s cap w h
set_option maxRecDepth 100000 in
set_option maxHeartbeats 1000000 in
theorem lifted (os : Os) (started : os.Started) (H : Type) (enc : TypeId × Value → H) :
    ReturnsInHanded {} Try.checked os 5 .any (Rows.reasmNothingSpec.pre6 enc Try.prog Try.f5 Rows.reasmNothingRow.domain false) (Rows.reasmNothingSpec.post enc Try.prog Try.f5 false true false false) := by
  refine returnsInHanded_of_change (C := Try.checked) own started (by kernel_rfl) Try.func5
    (ChangeSpec.witness6 (enc := enc) (C := Try.checked) false ⟨#[], #[.slice none 0 0], []⟩ 8 (by kernel_rfl) (by kernel_rfl) (by kernel_rfl) (by kernel_rfl)) ?_
  intro W base args ds gs before hval0 hW hcnd _
  have hval : ∀ (j : Nat) t v, Try.f5.params[j]? = some t → args[j]? = some v → Value.okWide Try.prog W .any base t v := hval0
  have hW' := hW
  obtain ⟨p, q, hA0, hV, rfl, hfz, hnd⟩ := hW
  have hA : DataW.TrodAll enc Try.prog W 0 (fun _ => true) true Try.f5.params.toList args.toList ds p := hA0
  rw [Try.params5] at hA hval
  obtain ⟨v0, vs0, d0, ds0, p0, q0, hargs, rfl, rfl, h0, r0⟩ := trodAll_cons hA
  obtain ⟨rfl, rfl, rfl⟩ := trodAll_nil r0
  obtain rfl : args = #[v0] := by cases args; simp_all
  obtain ⟨rfl, rfl⟩ := trodVars_none hV
  obtain ⟨s0, cap0, a0, rfl, w0⟩ := Opn.bytes_of (hval 0 22 v0 rfl rfl) h0
  clear hA0 hval0
  refine (walk a0 s0 cap0 W w0).mono fun e W' ⟨he, hg⟩ => ?_
  subst he
  exact ⟨_, rfl, post_of_old hW' (fun _ _ _ => (trodAll_cons_mk (shut_bool Try.underlying4 _) trodAll_mk0)) (fun sp hsp => (trodAll_cons_mk (Opn.back (by kernel_rfl) (of_decide_eq_true (by kernel_rfl)) h0 hg (fun x hx => hW'.lt x (by simp [hx])) (fun x hx => hsp x (by simp [hx]))) trodAll_mk0)) (fun _ _ => rfl)
    hg (ok_one (by kernel_rfl) rfl (okWide_bool_mk Try.underlying4 _))⟩
theorem over : Rows.reasmNothingRow.holds Try.pinned (OpenSpec.ofChange Rows.reasmNothingSpec) :=
  OpenClaim.holds_of_wide 5 Try.f5 rfl rfl rfl rfl rfl rfl rfl ⟨rfl, rfl, rfl, rfl, rfl⟩ rfl rfl rfl rfl rfl (by kernel_rfl) Try.func5 (by kernel_rfl)
    (of_decide_eq_true (by kernel_rfl)) (by unfold Func.isWrapper; first | (rw [if_pos (by decide +kernel)]; kernel_rfl) | (rw [if_neg (by decide +kernel)]; exact ⟨rfl, rfl⟩))
    (fun os started H enc _ => lifted os started H enc)
theorem proved : Rows.ReasmNothingSaid :=
  over
#print axioms proved
end Go.Proofs.Ytfkcplapmkpkbaa.reasmNothing
