/- CutoffForgets (mizzenlaw16): for all levels, elder sizes, sizes and windows the law returns true (just the last so many sizes count, whatever came ahead of them) and its arguments read as before. Conditions: none. -/
import Derived.Test.YtkggnbibjcogeaaRows
import Derived.Test.YtkggnbibjcogeaaEnd
import Derived.Test.YtkggnbibjcogeaaInts
import Derived.WalkKit
import Derived.ProofKit
import Derived.OpenShut
import Derived.Test.YtkggnbibjcogeaaCoAl
set_option linter.unusedVariables false
namespace Go.Proofs.Ytkggnbibjcogeaa.cutoffForgets
open Go.ChangeShapes Go.WideShapes Go.ChangeAt Go.RowKit Go.Proofs.Ytkggnbibjcogeaa.Hp Go.Proofs.Ytkggnbibjcogeaa.End
open Opn CoM CoS Co
theorem own : ownKnob Try.prog.godebug = none := by kernel_rfl
attribute [local go_sem ↓] Go.wp_at_zero Go.wp_at_succ
set_option maxRecDepth 100000 in
set_option maxHeartbeats 4000000 in
theorem early (n : Int) (a1 : List Int) (s1 : Option Addr) (cap1 : Nat) (a2 : List Int) (s2 : Option Addr) (cap2 : Nat) (x : Int) (w : World) (h : ¬ (1 ≤ n ∧ n ≤ 8 ∧ a1.length ≤ 60 ∧ 1 ≤ a2.length ∧ a2.length ≤ 60)) :
    Calls Try.prog 5 #[.int .i64 n, .slice s1 a1.length cap1, .slice s2 a2.length cap2, .int .i64 x] w fun e w' => e = .returned (.bool true) ∧ Old w w' := by
  have HC := Lib.hid fun w => awake_any w
  obtain ⟨p, hp⟩ : ∃ p, a1.length = p := ⟨_, rfl⟩
  obtain ⟨q, hq⟩ : ∃ q, a2.length = q := ⟨_, rfl⟩
  rw [hp, hq] at h ⊢
  clear hp hq
  have hc : n < 1 ∨ (decide (n < 1) = false ∧ 8 < n) ∨ (decide (n < 1) = false ∧ decide (8 < n) = false ∧ (60 : Int) < (p : Int)) ∨ (decide (n < 1) = false ∧ decide (8 < n) = false ∧ decide ((60 : Int) < (p : Int)) = false ∧ q = 0)
      ∨ (decide (n < 1) = false ∧ decide (8 < n) = false ∧ decide ((60 : Int) < (p : Int)) = false ∧ ((q : Int) == 0) = false ∧ (60 : Int) < (q : Int)) := by
    simp only [decide_eq_false_iff_not, beq_eq_false_iff_ne]; omega
  clear h
  rcases hc with h1 | ⟨h1, h2⟩ | ⟨h1, h2, h3⟩ | ⟨h1, h2, h3, rfl⟩ | ⟨h1, h2, h3, h4, h5⟩
  all_goals
    go_enter Try.func5, Try.ntmps5
    go_wp2_with fail
    with_reducible refine Calls.mono (HC.out _) ?_
    rintro e w' ⟨rfl, ho⟩
    go_wp2_with fail
    go_ret
    exact ⟨rfl, ho⟩
set_option maxRecDepth 100000 in
set_option maxHeartbeats 8000000 in
theorem late (n : Nat) (a1 : List Int) (s1 : Option Addr) (cap1 : Nat) (a2 : List Int) (s2 : Option Addr) (cap2 : Nat) (x : Int) (w : World) (w1 : Ints w s1 cap1 a1) (w2 : Ints w s2 cap2 a2) (g1 : 1 ≤ n) (g2 : n ≤ 8) (g3 : a1.length ≤ 60) (g4 : 1 ≤ a2.length) (g5 : a2.length ≤ 60) :
    Calls Try.prog 5 #[.int .i64 (n : Nat), .slice s1 a1.length cap1, .slice s2 a2.length cap2, .int .i64 x] w fun e w' => e = .returned (.bool true) ∧ Old w w' := by
  have HC := Lib.hid fun w => awake_any w
  have W1 := Lib.hid w1
  have W2 := Lib.hid w2
  clear w1 w2
  have HF := Lib.hid (keeps_forget a1 a2 g4)
  obtain ⟨p, hp⟩ : ∃ p, a1.length = p := ⟨_, rfl⟩
  obtain ⟨q, hq⟩ : ∃ q, a2.length = q := ⟨_, rfl⟩
  have HP := Lib.hid hp
  have HQ := Lib.hid hq
  rw [hq] at HF g4 g5 ⊢
  rw [hp] at g3 ⊢
  clear hp hq
  have N := Lib.hid fun w => new_st (L := n) (M := q) g1 g2 g4 (by omega) w
  have h1 : decide ((n : Int) < 1) = false := by rw [decide_eq_false_iff_not]; omega
  have h2 : decide ((8 : Int) < (n : Int)) = false := by rw [decide_eq_false_iff_not]; omega
  have h3 : decide ((60 : Int) < (p : Int)) = false := by rw [decide_eq_false_iff_not]; omega
  have h4 : ((q : Int) == 0) = false := by rw [beq_eq_false_iff_ne]; omega
  have h4' : ¬ (q : Int) = 0 := by omega
  have h5 : decide ((60 : Int) < (q : Int)) = false := by rw [decide_eq_false_iff_not]; omega
  go_enter Try.func5, Try.ntmps5
  go_wp2_with fail
  with_reducible refine Calls.mono (N.out _) ?_
  rintro e w3 ⟨b, F, rfl, hS, _⟩
  have HS := Lib.hid hS
  clear hS
  go_wp2_with fail
  with_reducible refine Calls.mono (N.out _) ?_
  rintro e w4 ⟨b2, F2, rfl, hS2, hn2⟩
  have HT : Hid (Two w b b2 n q [] [] w4) := Lib.hid ⟨F, F2, HS.out.old hS2.1, hS2.base HS.out.1, fun i hi hj => by have h1 := (HS.out.own i hi).2; have h2 := hn2 i hj; omega⟩
  clear hS2 hn2 HS N
  go_wp2_with fail
  clear h1 h2 h3 h4 h4' h5
  go_loopg [13] p (fun kx s13 wr => ∃ (i : Nat), Hid (p - i ≤ kx) ∧ i ≤ p ∧ s13 = .int .i64 (i : Nat) ∧ Hid (Two w b b2 n q (keeps q [] (a1.take i)) [] wr))
  case atStart => exact ⟨0, Lib.hid (by omega), by omega, rfl, HT⟩
  case round =>
    clear HT
    obtain ⟨i, hm, hi, rfl, hT⟩ := hrel
    rcases Nat.lt_or_ge i p with hlt | hge
    · have hin : i < a1.length := by rw [HP.out]; exact hlt
      obtain ⟨g, off, rfl, hg, hc⟩ := W1.out.at hT.out.kept (j := i) hin
      have hk : keep q (keeps q [] (a1.take i)) (cl a1[i]) = keeps q [] (a1.take (i + 1)) := by rw [List.take_succ_eq_append_getElem hin, keeps_snoc]
      have AD := Lib.hid (hT.out.add1 a1[i])
      rw [hk] at AD
      have hlt' : (i : Int) < (p : Int) := by omega
      generalize a1[i] = y at *
      clear hk hT
      go_wp2_with fail
      with_reducible refine Calls.mono AD.out ?_
      rintro e w5 ⟨rfl, hT⟩
      have HT := Lib.hid hT
      clear hT AD
      go_wp2_with fail
      go_roundg (p - (i + 1))
      case measure => have := hm.out; omega
      case rel => exact ⟨i + 1, Lib.hid (Nat.le_refl _), by omega, by go_num, HT⟩
    · obtain rfl : i = p := by omega
      have hge' : decide ((i : Int) < (i : Int)) = false := by simp
      rw [← HP.out, List.take_length] at hT
      go_wp2_with fail
      clear hge hge' hm hi
      go_loopg [14] q (fun kx s14 wr => ∃ (j : Nat), Hid (q - j ≤ kx) ∧ j ≤ q ∧ s14 = .int .i64 (j : Nat) ∧ Hid (Two w b b2 n q (keeps q (keeps q [] a1) (a2.take j)) (keeps q [] (a2.take j)) wr))
      case atStart => exact ⟨0, Lib.hid (by omega), by omega, rfl, hT⟩
      case round =>
        clear hT
        obtain ⟨j, hm, hj, rfl, hT⟩ := hrel
        rcases Nat.lt_or_ge j q with hlt | hge
        · have hin : j < a2.length := by rw [HQ.out]; exact hlt
          obtain ⟨g, off, rfl, hg, hc⟩ := W2.out.at hT.out.kept (j := j) hin
          have HAT := Lib.hid fun (w' : World) (k : Kept (fun _ => False) w w') => by
            obtain ⟨g', o', e, _, h⟩ := W2.out.at k (j := j) hin
            cases e
            exact h
          have hk1 : keep q (keeps q (keeps q [] a1) (a2.take j)) (cl a2[j]) = keeps q (keeps q [] a1) (a2.take (j + 1)) := by rw [List.take_succ_eq_append_getElem hin, keeps_snoc]
          have hk2 : keep q (keeps q [] (a2.take j)) (cl a2[j]) = keeps q [] (a2.take (j + 1)) := by rw [List.take_succ_eq_append_getElem hin, keeps_snoc]
          have AD := Lib.hid (hT.out.add1 a2[j])
          rw [hk1] at AD
          have HK2 := Lib.hid hk2
          have hlt' : (j : Int) < (q : Int) := by omega
          generalize a2[j] = y at *
          clear hk1 hk2 hT
          go_wp2_with fail
          with_reducible refine Calls.mono AD.out ?_
          rintro e w5 ⟨rfl, hT⟩
          have hc5 := HAT.out w5 hT.kept
          have AD2 := Lib.hid (hT.add2 y)
          rw [HK2.out] at AD2
          clear hT AD hc
          go_wp2_with fail
          with_reducible refine Calls.mono AD2.out ?_
          rintro e w6 ⟨rfl, hT⟩
          have HT := Lib.hid hT
          clear hT AD2 hc5
          go_wp2_with fail
          go_roundg (q - (j + 1))
          case measure => have := hm.out; omega
          case rel => exact ⟨j + 1, Lib.hid (Nat.le_refl _), by omega, by go_num, HT⟩
        · obtain rfl : j = q := by omega
          have hge' : decide ((j : Int) < (j : Int)) = false := by simp
          rw [show a2.take j = a2 by rw [← HQ.out, List.take_length], HF.out] at hT
          obtain ⟨K, hK⟩ : ∃ K, keeps j [] a2 = K := ⟨_, rfl⟩
          rw [hK] at hT
          clear hK
          have C1 := Lib.hid (hT.out.cuts1 x)
          have hcl := cutsM_len n K x
          obtain ⟨C, hC⟩ : ∃ C, cutsM n K x = C := ⟨_, rfl⟩
          rw [hC] at hcl
          have HCE := Lib.hid hC
          have hcl7 : Hid (C.length ≤ 900000) := Lib.hid (by omega)
          rw [hC] at C1
          clear hC hcl
          go_wp2_with fail
          with_reducible refine Calls.mono C1.out ?_
          rintro e w5 ⟨v5, rfl, hR5, hk5⟩
          have HT5 := Lib.hid (hT.out.old hk5)
          have C2 := Lib.hid (HT5.out.cuts2 x)
          rw [HCE.out] at C2
          have HR5 := Lib.hid hR5
          clear hR5 hk5 hT C1
          go_wp2_with fail
          with_reducible refine Calls.mono C2.out ?_
          rintro e w6 ⟨v6, rfl, hR6, hk6⟩
          have HT6 := Lib.hid (HT5.out.old hk6)
          have AL := Lib.hid (alike_any (HR5.out.old hk6) hR6 hcl7.out)
          clear hR6 hk6 HT5 C2 HR5
          go_wp2_with fail
          with_reducible refine Calls.mono AL.out ?_
          rintro e w7 ⟨rfl, hk7⟩
          have HT7 := Lib.hid (HT6.out.old hk7)
          have L1 := Lib.hid HT7.out.len1
          have L2 := Lib.hid HT7.out.len2
          clear hk7 HT6 AL
          go_wp2_with fail
          with_reducible refine Calls.mono L1.out ?_
          rintro e w8 ⟨rfl, rfl⟩
          go_wp2_with fail
          with_reducible refine Calls.mono L2.out ?_
          rintro e w8 ⟨rfl, rfl⟩
          go_wp2_with fail
          with_reducible refine Calls.mono (HC.out _) ?_
          rintro e w9 ⟨rfl, ho⟩
          go_wp2_with fail
          go_ret
          exact ⟨rfl, HT7.out.kept.trans ho⟩
theorem walk (n : Int) (a1 : List Int) (s1 : Option Addr) (cap1 : Nat) (a2 : List Int) (s2 : Option Addr) (cap2 : Nat) (x : Int) (w : World) (w0 : (Lit.int .i64 n).wf = true) (w1 : Ints w s1 cap1 a1) (w2 : Ints w s2 cap2 a2) (w3 : (Lit.int .i64 x).wf = true) :
    Calls Try.prog 5 #[.int .i64 n, .slice s1 a1.length cap1, .slice s2 a2.length cap2, .int .i64 x] w fun e w' => e = .returned (.bool true) ∧ Old w w' := by
  by_cases h : 1 ≤ n ∧ n ≤ 8 ∧ a1.length ≤ 60 ∧ 1 ≤ a2.length ∧ a2.length ≤ 60
  · obtain ⟨k, rfl⟩ : ∃ k : Nat, n = k := ⟨n.toNat, by omega⟩
    exact late k a1 s1 cap1 a2 s2 cap2 x w w1 w2 (by omega) (by omega) h.2.2.1 h.2.2.2.1 h.2.2.2.2
  · exact early n a1 s1 cap1 a2 s2 cap2 x w h
set_option maxRecDepth 100000 in
set_option maxHeartbeats 1000000 in
theorem lifted (os : Os) (started : os.Started) (H : Type) (enc : TypeId × Value → H) :
    ReturnsInHanded {} Try.checked os 5 .any (Rows.cutoffForgetsSpec.pre6 enc Try.prog Try.f5 Rows.cutoffForgetsRow.domain false) (Rows.cutoffForgetsSpec.post enc Try.prog Try.f5 false true false false) := by
  refine returnsInHanded_of_change (C := Try.checked) own started (by kernel_rfl) Try.func5
    (ChangeSpec.witness6 (enc := enc) (C := Try.checked) false ⟨#[], #[.int .i64 0, .slice none 0 0, .slice none 0 0, .int .i64 0], []⟩ 8 (by kernel_rfl) (by kernel_rfl) (by kernel_rfl) (by kernel_rfl)) ?_
  intro W base args ds gs before hval0 hW hcnd _
  have hval : ∀ (j : Nat) t v, Try.f5.params[j]? = some t → args[j]? = some v → Value.okWide Try.prog W .any base t v := hval0
  have hW' := hW
  obtain ⟨p, q, hA0, hV, rfl, hfz, hnd⟩ := hW
  have hA : DataW.TrodAll enc Try.prog W 0 (fun _ => true) true Try.f5.params.toList args.toList ds p := hA0
  rw [Try.params5] at hA hval
  obtain ⟨v0, vs0, d0, ds0, p0, q0, hargs, rfl, rfl, h0, r0⟩ := trodAll_cons hA
  obtain ⟨v1, vs1, d1, ds1, p1, q1, rfl, rfl, rfl, h1, r1⟩ := trodAll_cons r0
  obtain ⟨v2, vs2, d2, ds2, p2, q2, rfl, rfl, rfl, h2, r2⟩ := trodAll_cons r1
  obtain ⟨v3, vs3, d3, ds3, p3, q3, rfl, rfl, rfl, h3, r3⟩ := trodAll_cons r2
  obtain ⟨rfl, rfl, rfl⟩ := trodAll_nil r3
  obtain rfl : args = #[v0, v1, v2, v3] := by cases args; simp_all
  obtain ⟨rfl, rfl⟩ := trodVars_none hV
  obtain ⟨a0, rfl, rfl, rfl, w0⟩ := open_int Try.underlying3 (hval 0 3 v0 rfl rfl) h0
  obtain ⟨s1, cap1, a1, rfl, w1⟩ := Opn.ints_of Try.underlying22 Try.underlying3 (by kernel_rfl) (hval 1 22 v1 rfl rfl) h1
  obtain ⟨s2, cap2, a2, rfl, w2⟩ := Opn.ints_of Try.underlying22 Try.underlying3 (by kernel_rfl) (hval 2 22 v2 rfl rfl) h2
  obtain ⟨a3, rfl, rfl, rfl, w3⟩ := open_int Try.underlying3 (hval 3 3 v3 rfl rfl) h3
  clear hA0 hval0
  refine (walk a0 a1 s1 cap1 a2 s2 cap2 a3 W w0 w1 w2 w3).mono fun e W' ⟨he, hg⟩ => ?_
  subst he
  exact ⟨_, rfl, post_of_old hW' (fun _ _ _ => (trodAll_cons_mk (shut_bool Try.underlying4 _) trodAll_mk0)) (fun sp hsp => (trodAll_cons_mk (shut_int Try.underlying3 w0) (trodAll_cons_mk (Opn.back (by kernel_rfl) (of_decide_eq_true (by kernel_rfl)) h1 hg (fun x hx => hW'.lt x (by simp [hx])) (fun x hx => hsp x (by simp [hx]))) (trodAll_cons_mk (Opn.back (by kernel_rfl) (of_decide_eq_true (by kernel_rfl)) h2 hg (fun x hx => hW'.lt x (by simp [hx])) (fun x hx => hsp x (by simp [hx]))) (trodAll_cons_mk (shut_int Try.underlying3 w3) trodAll_mk0))))) (fun _ _ => rfl)
    hg (ok_one (by kernel_rfl) rfl (okWide_bool_mk Try.underlying4 _))⟩
theorem over : Rows.cutoffForgetsRow.holds Try.pinned (OpenSpec.ofChange Rows.cutoffForgetsSpec) :=
  OpenClaim.holds_of_wide 5 Try.f5 rfl rfl rfl rfl rfl rfl rfl ⟨rfl, rfl, rfl, rfl, rfl⟩ rfl rfl rfl rfl rfl (by kernel_rfl) Try.func5 (by kernel_rfl)
    (of_decide_eq_true (by kernel_rfl)) (by unfold Func.isWrapper; first | (rw [if_pos (by decide +kernel)]; kernel_rfl) | (rw [if_neg (by decide +kernel)]; exact ⟨rfl, rfl⟩))
    (fun os started H enc _ => lifted os started H enc)
theorem proved : Rows.CutoffForgetsSaid :=
  over
#print axioms proved
end Go.Proofs.Ytkggnbibjcogeaa.cutoffForgets
