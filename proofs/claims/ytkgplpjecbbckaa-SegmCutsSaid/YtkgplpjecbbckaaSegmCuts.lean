/- SegmCuts (mizzenlaw6): for every two ints and every range the law returns true and its arguments read as before. Conditions: none. -/
import Derived.Test.YtkgplpjecbbckaaRows
import Derived.Test.YtkgplpjecbbckaaAgg
import Derived.Test.YtkgplpjecbbckaaEnd
import Derived.Test.YtkgplpjecbbckaaInts
import Derived.WalkKit
import Derived.ProofKit
import Derived.OpenShut
import Derived.Test.YtkgplpjecbbckaaSgCut
import Derived.Test.YtkgplpjecbbckaaSgAwake
import Derived.Test.YtkgplpjecbbckaaRgs
set_option linter.unusedVariables false
namespace Go.Proofs.Ytkgplpjecbbckaa.segmCuts
open Go.ChangeShapes Go.WideShapes Go.ChangeAt Go.RowKit Go.Proofs.Ytkgplpjecbbckaa.Hp Go.Proofs.Ytkgplpjecbbckaa.End
open Opn IvM IvR IvN SgM Sg
theorem own : ownKnob Try.prog.godebug = none := by kernel_rfl
set_option maxRecDepth 100000 in
set_option maxHeartbeats 2000000 in
theorem early (t m f u : Int) (w : World) (h : ¬ (0 ≤ t ∧ t ≤ 3000 ∧ 1 ≤ m ∧ m ≤ 4000 ∧ 0 ≤ f ∧ u ≤ t ∧ f < u)) :
    Calls Try.prog 5 #[.int .i64 t, .int .i64 m, rv (f, u)] w fun e w' => e = .returned (.bool true) ∧ Old w w' := by
  have HC := Lib.hid fun w => awake_any w
  have hc : t < 0 ∨ (¬ t < 0 ∧ 3000 < t) ∨ (¬ t < 0 ∧ ¬ 3000 < t ∧ m < 1) ∨ (¬ t < 0 ∧ ¬ 3000 < t ∧ ¬ m < 1 ∧ 4000 < m) ∨ (¬ t < 0 ∧ ¬ 3000 < t ∧ ¬ m < 1 ∧ ¬ 4000 < m ∧ f < 0) ∨
    (¬ t < 0 ∧ ¬ 3000 < t ∧ ¬ m < 1 ∧ ¬ 4000 < m ∧ ¬ f < 0 ∧ t < u) ∨ (¬ t < 0 ∧ ¬ 3000 < t ∧ ¬ m < 1 ∧ ¬ 4000 < m ∧ ¬ f < 0 ∧ ¬ t < u ∧ u ≤ f) := by omega
  clear h
  unfold rv
  rcases hc with h1 | ⟨h1, h2⟩ | ⟨h1, h2, h3⟩ | ⟨h1, h2, h3, h4⟩ | ⟨h1, h2, h3, h4, h5⟩ | ⟨h1, h2, h3, h4, h5, h6⟩ | ⟨h1, h2, h3, h4, h5, h6, h7⟩
  all_goals
    go_enter Try.func5, Try.ntmps5
    go_wp2_with (go_at_call 6; refine (HC.out _).mono ?_; rintro e w' ⟨rfl, ho⟩)
    go_ret
    exact ⟨rfl, ((Kept.refl (fun _ => False) w).alloc _).trans ho⟩
set_option maxRecDepth 100000 in
set_option maxHeartbeats 16000000 in
theorem late {t m f u : Int} (g0 : 0 ≤ t) (g1 : t ≤ 3000) (g2 : 1 ≤ m) (g3 : m ≤ 4000) (h0 : 0 ≤ f) (h1 : u ≤ t) (h2 : f < u) (w : World) :
    Calls Try.prog 5 #[.int .i64 t, .int .i64 m, rv (f, u)] w fun e w' => e = .returned (.bool true) ∧ Old w w' := by
  have ct := fun w => cut_any f u t m (by omega) w
  unfold rv at ct
  have CT := Lib.hid ct
  clear ct
  have CO := Lib.hid (cuts_ok (m := m) ⟨g0, by omega, g2, by omega⟩ h0 h2 h1)
  have HC := Lib.hid fun w => awake_any w
  generalize cut f u t m = L at *
  have l1 : ¬ t < 0 := by omega
  have l2 : ¬ 3000 < t := by omega
  have l3 : ¬ m < 1 := by omega
  have l4 : ¬ 4000 < m := by omega
  have l5 : ¬ f < 0 := by omega
  have l6 : ¬ t < u := by omega
  have l7 : decide (u ≤ f) = false := by rw [decide_eq_false_iff_not]; omega
  unfold rv
  go_enter Try.func5, Try.ntmps5
  go_wp2_with fail
  with_reducible refine Calls.mono (CT.out _) ?_
  rintro e w2 ⟨v, rfl, hR, k2⟩
  have hB := (k2.blk (Blk.new w [.int .i64 f, .int .i64 u] 23) (fun f => f))
  have k02 := ((Kept.refl (fun _ => False) w).alloc (.cells #[.int .i64 f, .int .i64 u] 23)).trans k2
  obtain ⟨s, c, rfl⟩ := form2 hR
  obtain ⟨_, hp, hc, hc2⟩ := Rgs.row_part hR
  generalize w.heap.size = b at *
  clear k2 hR CT
  have hpos := CO.out.pos
  have hfew := CO.out.few
  obtain ⟨g, o, rfl, hg, hcell⟩ := hp.resolve_left (fun e => by rw [e] at hpos; simp at hpos)
  have HCELL := Lib.hid hcell
  have b0 := hB.cell (o := 0) rfl
  have b1 := hB.cell (o := 1) rfl
  have hbl := hB.lt
  clear hcell hp hB
  have a0 := (HCELL.out 0 hpos).1
  have a1 := (HCELL.out (L.length - 1) (by omega)).2
  have f0 := CO.out.first
  have f1 := CO.out.last
  have HB0 := Lib.hid b0
  have HB1 := Lib.hid b1
  generalize (L.getD 0 (0, 0)).1 = x at *
  generalize (L.getD (L.length - 1) (0, 0)).2 = y at *
  obtain ⟨n, hn⟩ : ∃ n, L.length = n := ⟨_, rfl⟩
  have HN := Lib.hid hn
  rw [hn] at hpos hfew hc a1 ⊢
  clear hn
  have q0 : ((n : Int) == 0) = false := by rw [beq_eq_false_iff_ne]; omega
  have q1 : IntKind.i64.wrap ((n : Int) - 1) = (n : Int) - 1 := by rw [IntKind.wrap_i64]; omega
  have q2 : (0 : Int) ≤ (n : Int) - 1 := by omega
  have q3 : ((n : Int) - 1).toNat = n - 1 := by omega
  have q4 : (n : Int) - 1 < (n : Int) := by omega
  have q5 : decide (f < x) = false := by rw [decide_eq_false_iff_not]; omega
  have q6 : decide (y < u) = false := by rw [decide_eq_false_iff_not]; omega
  have q7 : (0 : Int) < (n : Int) := by omega
  have q8 : (1 : Int) ≤ (n : Int) := by omega
  have q9 : 1 ≤ n := by omega
  rw [Nat.zero_mul, Nat.add_zero] at a0
  go_wp2_with fail
  go_quiet (fail)
  have hk0 : Kept (fun _ => False) w2 (w2.drewN nq) := (Kept.refl _ w2).drewN nq
  have k03 := k02.drewN nq
  have HW : Hid (b < w2.heap.size ∧ g < w2.heap.size) := Lib.hid ⟨hbl, hg⟩
  clear q1 q2 q3 q4 q5 q6 a0 a1 b0 b1 f0 f1 k02
  generalize hw3 : w2.drewN nq = w3 at *
  clear hw3
  go_wp2_with fail
  go_loopg [8] n (fun mm s8 wr => ∃ i : Nat, Hid (mm = n - i) ∧ i ≤ n ∧ s8 = .int .i64 ((i : Nat) : Int) ∧ Hid (Kept (fun _ => False) w2 wr) ∧ Old w wr)
  case atStart => exact ⟨0, rfl, by omega, rfl, Lib.hid hk0, k03⟩
  case round =>
    obtain ⟨i, hm, hi, rfl, hk, ho⟩ := hrel
    clear k03 hk0
    by_cases hlt : i < n
    · have hil : i < L.length := by have := HN.out; omega
      obtain ⟨e1, e2, e3, e4, e5⟩ := CO.out.each i hil
      have c0 := (Rgs.keptCell hk.out HW.out.2 (fun f => f) _).trans (HCELL.out i hil).1
      have c1 := (Rgs.keptCell hk.out HW.out.2 (fun f => f) _).trans (HCELL.out i hil).2
      have b0 := (Rgs.keptCell hk.out HW.out.1 (fun f => f) 0).trans HB0.out
      have b1 := (Rgs.keptCell hk.out HW.out.1 (fun f => f) 1).trans HB1.out
      have hi2 : (i : Int) < (n : Int) := by omega
      have hi3 : i < c := by omega
      rcases Nat.eq_zero_or_pos i with rfl | hip
      · generalize (L.getD 0 (0, 0)).1 = x0 at *
        generalize (L.getD 0 (0, 0)).2 = y0 at *
        have p1 : decide (y0 ≤ f) = false := by rw [decide_eq_false_iff_not]; omega
        have p2 : decide (u ≤ x0) = false := by rw [decide_eq_false_iff_not]; omega
        have p3 : (x0.tmod m == 0) = true := by rw [beq_iff_eq]; exact e5
        have p4 : (m == 0) = false := by rw [beq_eq_false_iff_ne]; omega
        have p5 : ¬ m = 0 := by omega
        clear hil hlt
        rw [Nat.zero_mul, Nat.add_zero] at c0 c1
        go_wp2_with fail
        go_quiet (fail)
        clear p1 p2 p3 p4 p5 c0 c1 b0 b1
        go_wp2_with fail
        go_roundg (n - 1)
        case measure => have := hm.out; omega
        case rel => exact ⟨1, rfl, by omega, rfl, Lib.hid (hk.out.drewN _), ho.drewN _⟩
      · have hnx := CO.out.next i hip hil
        have c2 := (Rgs.keptCell hk.out HW.out.2 (fun f => f) _).trans (HCELL.out (i - 1) (by omega)).2
        rw [← hnx] at c2
        clear hnx
        generalize (L.getD i (0, 0)).1 = x0 at *
        generalize (L.getD i (0, 0)).2 = y0 at *
        have p1 : decide (y0 ≤ f) = false := by rw [decide_eq_false_iff_not]; omega
        have p2 : decide (u ≤ x0) = false := by rw [decide_eq_false_iff_not]; omega
        have p3 : (x0.tmod m == 0) = true := by rw [beq_iff_eq]; exact e5
        have p4 : (m == 0) = false := by rw [beq_eq_false_iff_ne]; omega
        have p5 : ¬ m = 0 := by omega
        have p6 : decide ((0 : Int) < (i : Int)) = true := decide_eq_true (by omega)
        have p7 : decide (0 < i) = true := decide_eq_true hip
        have p8 : (x0 == x0) = true := beq_self_eq_true x0
        have q1 : IntKind.i64.wrap ((i : Int) - 1) = (i : Int) - 1 := by rw [IntKind.wrap_i64]; omega
        have q2 : (0 : Int) ≤ (i : Int) - 1 := by omega
        have q3 : ((i : Int) - 1).toNat = i - 1 := by omega
        have q4 : (i : Int) - 1 < (n : Int) := by omega
        have q5 : (1 : Int) ≤ (i : Int) := by omega
        have q6 : 1 ≤ i := by omega
        clear hil hlt
        go_wp2_with fail
        go_quiet (fail)
        clear p1 p2 p3 p4 p5 p6 p7 p8 q1 q2 q3 q4 c0 c1 c2 b0 b1
        go_wp2_with fail
        go_roundg (n - (i + 1))
        case measure => have := hm.out; omega
        case rel => exact ⟨i + 1, rfl, by omega, by simp, Lib.hid (hk.out.drewN _), ho.drewN _⟩
    · have hi2 : ¬ (i : Int) < (n : Int) := by omega
      go_wp2_with fail
      with_reducible refine Calls.mono (HC.out _) ?_
      rintro e w8 ⟨rfl, hk8⟩
      go_wp2_with fail
      go_ret
      exact ⟨rfl, ho.trans hk8⟩
theorem walk (t m : Int) (f u : Int) (w : World) (w0 : (Lit.int .i64 t).wf = true) (w1 : (Lit.int .i64 m).wf = true) (w2 : (Lit.int .i64 f).wf = true) (w3 : (Lit.int .i64 u).wf = true) :
    Calls Try.prog 5 #[.int .i64 t, .int .i64 m, rv (f, u)] w fun e w' => e = .returned (.bool true) ∧ Old w w' := by
  by_cases h : 0 ≤ t ∧ t ≤ 3000 ∧ 1 ≤ m ∧ m ≤ 4000 ∧ 0 ≤ f ∧ u ≤ t ∧ f < u
  · exact late h.1 h.2.1 h.2.2.1 h.2.2.2.1 h.2.2.2.2.1 h.2.2.2.2.2.1 h.2.2.2.2.2.2 w
  · exact early t m f u w h
set_option maxRecDepth 100000 in
set_option maxHeartbeats 1000000 in
theorem lifted (os : Os) (started : os.Started) (H : Type) (enc : TypeId × Value → H) :
    ReturnsInHanded {} Try.checked os 5 .any (Rows.segmCutsSpec.pre6 enc Try.prog Try.f5 Rows.segmCutsRow.domain false) (Rows.segmCutsSpec.post enc Try.prog Try.f5 false true false false) := by
  refine returnsInHanded_of_change (C := Try.checked) own started (by kernel_rfl) Try.func5
    (ChangeSpec.witness6 (enc := enc) (C := Try.checked) false ⟨#[], #[.int .i64 0, .int .i64 0, .agg #[.int .i64 0, .int .i64 0]], []⟩ 8 (by kernel_rfl) (by kernel_rfl) (by kernel_rfl) (by kernel_rfl)) ?_
  intro W base args ds gs before hval0 hW hcnd _
  have hval : ∀ (j : Nat) t v, Try.f5.params[j]? = some t → args[j]? = some v → Value.okWide Try.prog W .any base t v := hval0
  have hW' := hW
  obtain ⟨p, q, hA0, hV, rfl, hfz, hnd⟩ := hW
  have hA : DataW.TrodAll enc Try.prog W 0 (fun _ => true) true Try.f5.params.toList args.toList ds p := hA0
  rw [Try.params5] at hA hval
  obtain ⟨v0, vs0, d0, ds0, p0, q0, hargs, rfl, rfl, h0, r0⟩ := trodAll_cons hA
  obtain ⟨v1, vs1, d1, ds1, p1, q1, rfl, rfl, rfl, h1, r1⟩ := trodAll_cons r0
  obtain ⟨v2, vs2, d2, ds2, p2, q2, rfl, rfl, rfl, h2, r2⟩ := trodAll_cons r1
  obtain ⟨rfl, rfl, rfl⟩ := trodAll_nil r2
  obtain rfl : args = #[v0, v1, v2] := by cases args; simp_all
  obtain ⟨rfl, rfl⟩ := trodVars_none hV
  obtain ⟨a0, rfl, rfl, rfl, w0⟩ := open_int Try.underlying3 (hval 0 3 v0 rfl rfl) h0
  obtain ⟨a1, rfl, rfl, rfl, w1⟩ := open_int Try.underlying3 (hval 1 3 v1 rfl rfl) h1
  obtain ⟨r2_, l2_, u2_, rfl⟩ := Opn.agg_of Try.underlying23 (by kernel_rfl) (by kernel_rfl) (by intro j f hf; rcases j with _ | _ | j <;> simp at hf <;> (try subst hf) <;> exact Try.underlying3) (hval 2 23 v2 rfl rfl) h2
  obtain ⟨x2_0, x2_1, rfl⟩ : ∃ x2_0 x2_1, r2_ = [x2_0, x2_1] := by
    rcases r2_ with _ | ⟨x2_0, _ | ⟨x2_1, _ | ⟨_, _⟩⟩⟩ <;> first | exact ⟨_, _, rfl⟩ | (simp at l2_)
  have w2_0 := u2_ x2_0 (by simp)
  have w2_1 := u2_ x2_1 (by simp)
  clear hA0 hval0
  refine (walk a0 a1 x2_0 x2_1 W w0 w1 w2_0 w2_1).mono fun e W' ⟨he, hg⟩ => ?_
  subst he
  exact ⟨_, rfl, post_of_old hW' (fun _ _ _ => (trodAll_cons_mk (shut_bool Try.underlying4 _) trodAll_mk0)) (fun sp hsp => (trodAll_cons_mk (shut_int Try.underlying3 w0) (trodAll_cons_mk (shut_int Try.underlying3 w1) (trodAll_cons_mk (Opn.back (by kernel_rfl) (of_decide_eq_true (by kernel_rfl)) h2 hg (fun x hx => hW'.lt x (by simp [hx])) (fun x hx => hsp x (by simp [hx]))) trodAll_mk0)))) (fun _ _ => rfl)
    hg (ok_one (by kernel_rfl) rfl (okWide_bool_mk Try.underlying4 _))⟩
theorem over : Rows.segmCutsRow.holds Try.pinned (OpenSpec.ofChange Rows.segmCutsSpec) :=
  OpenClaim.holds_of_wide 5 Try.f5 rfl rfl rfl rfl rfl rfl rfl ⟨rfl, rfl, rfl, rfl, rfl⟩ rfl rfl rfl rfl rfl (by kernel_rfl) Try.func5 (by kernel_rfl)
    (of_decide_eq_true (by kernel_rfl)) (by unfold Func.isWrapper; first | (rw [if_pos (by decide +kernel)]; kernel_rfl) | (rw [if_neg (by decide +kernel)]; exact ⟨rfl, rfl⟩))
    (fun os started H enc _ => lifted os started H enc)
theorem proved : Rows.SegmCutsSaid :=
  over
#print axioms proved
end Go.Proofs.Ytkgplpjecbbckaa.segmCuts
