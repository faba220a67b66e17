/- IdsOrder (mizzenlaw9): for every count and every order the law returns true (in whatever order they end, all of a row of numbers have ended, and no record is left) and its arguments read as before. Conditions: none. -/
import Derived.Test.YtaihjnonlnbhhaaRows
import Derived.Test.YtaihjnonlnbhhaaEnd
import Derived.Test.YtaihjnonlnbhhaaInts
import Derived.WalkKit
import Derived.ProofKit
import Derived.OpenShut
import Derived.Test.YtaihjnonlnbhhaaIdSt
import Derived.Test.YtaihjnonlnbhhaaIdMore
import Derived.Test.YtaihjnonlnbhhaaRnd
set_option linter.unusedVariables false
namespace Go.Proofs.Ytaihjnonlnbhhaa.idsOrder
open Go.ChangeShapes Go.WideShapes Go.ChangeAt Go.RowKit Go.Proofs.Ytaihjnonlnbhhaa.Hp Go.Proofs.Ytaihjnonlnbhhaa.End
open Opn IdM Idw
theorem own : ownKnob Try.prog.godebug = none := by kernel_rfl
attribute [local go_sem ↓] Go.wp_at_zero Go.wp_at_succ
set_option maxRecDepth 100000 in
set_option maxHeartbeats 4000000 in
theorem early (n : Int) (a1 : List Int) (s1 : Option Addr) (cap1 : Nat) (w : World) (h : ¬ (1 ≤ n ∧ n ≤ 60 ∧ a1.length ≤ 100)) :
    Calls Try.prog 7 #[.int .i64 n, .slice s1 a1.length cap1] w fun e w' => e = .returned (.bool true) ∧ Old w w' := by
  have HC := Lib.hid fun w => awake_any w
  have hc : n < 1 ∨ (decide (n < 1) = false ∧ 60 < n) ∨ (decide (n < 1) = false ∧ decide (60 < n) = false ∧ (100 : Int) < (a1.length : Int)) := by
    rw [decide_eq_false_iff_not, decide_eq_false_iff_not]; omega
  clear h
  rcases hc with h1 | ⟨h1, h2⟩ | ⟨h1, h2, h3⟩
  all_goals
    go_enter Try.func7, Try.ntmps7
    go_wp2_with fail
    with_reducible refine Calls.mono (HC.out _) ?_
    rintro e w' ⟨rfl, ho⟩
    go_wp2_with fail
    go_ret
    exact ⟨rfl, ho⟩
set_option maxRecDepth 100000 in
set_option maxHeartbeats 8000000 in
theorem late (n : Nat) (a1 : List Int) (s1 : Option Addr) (cap1 : Nat) (w : World) (w1 : Ints w s1 cap1 a1) (g1 : 1 ≤ n) (g2 : n ≤ 60) (g3 : a1.length ≤ 100) :
    Calls Try.prog 7 #[.int .i64 (n : Nat), .slice s1 a1.length cap1] w fun e w' => e = .returned (.bool true) ∧ Old w w' := by
  have HC := Lib.hid fun w => awake_any w
  have N := Lib.hid fun w => new_st (most := 60) (by omega) (by omega) w
  have W1 := Lib.hid w1
  have h1 : decide ((n : Int) < 1) = false := by rw [decide_eq_false_iff_not]; omega
  have h2 : decide ((60 : Int) < (n : Int)) = false := by rw [decide_eq_false_iff_not]; omega
  have h3 : decide ((100 : Int) < (a1.length : Int)) = false := by rw [decide_eq_false_iff_not]; omega
  clear w1
  obtain ⟨zl, hzl⟩ : ∃ zl, a1.length = zl := ⟨_, rfl⟩
  have HZ := Lib.hid hzl
  rw [hzl] at g3 h3 ⊢
  clear hzl
  go_enter Try.func7, Try.ntmps7
  go_wp2_with fail
  with_reducible refine Calls.mono (N.out _) ?_
  rintro e w2 ⟨b, F, rfl, hS, _⟩
  have HS := Lib.hid hS
  clear hS N
  go_wp2_with fail
  clear h1 h2 h3
  go_loopg [7] zl (fun kx s7 wr => ∃ (i : Nat) (M : Int) (l : List Int) (F : Nat → Prop), Hid (zl - i ≤ kx) ∧ i ≤ zl ∧ s7 = .int .i64 (i : Nat) ∧ Hid (Wrow n M l) ∧ Hid (St w b 60 M l F wr))
  case atStart => exact ⟨0, 1, [], F, Lib.hid (by omega), by omega, rfl, Lib.hid (Wrow.new n), HS⟩
  case round =>
    clear HS
    obtain ⟨i, M, l, F, hm, hi, rfl, hW, hS⟩ := hrel
    rcases Nat.lt_or_ge i zl with hlt | hge
    · obtain ⟨x, hx⟩ : ∃ x, a1[i]? = some x := ⟨_, List.getElem?_eq_getElem (by rw [HZ.out]; exact hlt)⟩
      obtain ⟨g, off, rfl, hg, hc⟩ := W1.out.at hS.out.1 (j := i) (by rw [HZ.out]; exact hlt)
      have hwf := W1.out.wf (j := i) (by rw [HZ.out]; exact hlt)
      rw [(List.getElem?_eq_some_iff.1 hx).2] at hc hwf
      have hr0 : 0 ≤ x % (n : Int) := Int.emod_nonneg _ (by omega)
      have hr1 : x % (n : Int) < (n : Int) := Int.emod_lt_of_pos _ (by omega)
      have RD := Lib.hid fun w => Rnd.round_pos (k := x) (n := (n : Int)) (by omega) (by omega) hwf.1 hwf.2 w
      generalize x % (n : Int) = r at *
      have hw1 : IntKind.i64.wrap (1 + r) = 1 + r := by rw [IntKind.wrap_i64]; omega
      have hw2 : IntKind.u64.wrap (1 + r) = 1 + r := by rw [IntKind.wrap_u64]; omega
      have hd := hW.out.done g2 (id := 1 + r) (by omega) (by omega)
      have DN := done_st hS.out (1 + r)
      rw [hd.1] at DN
      have HD := Lib.hid hd.2
      have DN := Lib.hid DN
      clear hd hx hwf
      go_wp2_with fail
      with_reducible refine Calls.mono (RD.out _) ?_
      rintro e w3 ⟨rfl, rfl⟩
      go_wp2_with fail
      with_reducible refine Calls.mono DN.out ?_
      rintro e w3 ⟨rfl, F', hS', hN'⟩
      have HS' := Lib.hid hS'
      clear hS' hN' DN
      go_wp2_with fail
      go_roundg (zl - (i + 1))
      case measure => have := hm.out; omega
      case rel => exact ⟨i + 1, _, _, F', Lib.hid (Nat.le_refl _), by omega, by go_num, HD, HS'⟩
    · have hge' : ¬ ((i : Int) < (zl : Int)) := by omega
      go_wp2_with fail
      clear hge hge' hm hi
      obtain ⟨wo, hwo⟩ : ∃ wo : World, wo = wr := ⟨_, rfl⟩
      rw [← hwo] at hS ⊢
      clear hwo
      go_loopg [8] n (fun kx s8 wr => ∃ (j : Nat) (M : Int) (l : List Int) (F : Nat → Prop), Hid (j ≤ kx) ∧ j ≤ n ∧ s8 = .int .i64 (j : Nat) ∧ Hid (Wrow n M l) ∧ Hid (St w b 60 M l F wr) ∧ Hid (∀ k : Nat, j < k → k ≤ n → isE M l k = true))
      case atStart => exact ⟨n, M, l, F, Lib.hid (Nat.le_refl _), Nat.le_refl _, rfl, hW, hS, Lib.hid (fun k h1 h2 => by omega)⟩
      case round =>
        clear hW hS
        obtain ⟨j, M, l, F, hm, hj, rfl, hW, hS, hE⟩ := hrel
        rcases Nat.eq_zero_or_pos j with rfl | hpos
        · obtain ⟨e1, e2⟩ := hW.out.full (fun k h1 h2 => hE.out k (by omega) h2)
          subst e1 e2
          have MK := Lib.hid (mark_st hS.out)
          have LN := Lib.hid (len_st hS.out)
          have I1 := is_st hS.out (n : Int)
          rw [show isE ((n : Int) + 1) [] (n : Int) = true by unfold isE; rw [decide_eq_true_eq]; exact ⟨by omega, Or.inl (by omega)⟩] at I1
          have I1 := Lib.hid I1
          have I2 : Hid (∀ w', Kept (fun _ => False) wr w' → Calls Try.prog 16 #[.pointer (some ⟨b, 0, none⟩), .int .u64 ((n : Int) + 1)] w' fun e w'' => e = .returned (.bool false) ∧ Kept (fun _ => False) w' w'') := Lib.hid fun w' k => by
            have := is_st (hS.out.old k) ((n : Int) + 1)
            rw [isE_mark hS.out.win] at this
            exact this
          have hw1 : IntKind.u64.wrap (n : Int) = (n : Int) := by rw [IntKind.wrap_u64]; omega
          have hw2 : IntKind.u64.wrap ((n : Int) + 1) = (n : Int) + 1 := by rw [IntKind.wrap_u64]; omega
          go_wp2_with fail
          with_reducible refine Calls.mono MK.out ?_
          rintro e w3 ⟨rfl, rfl⟩
          go_wp2_with fail
          with_reducible refine Calls.mono LN.out ?_
          rintro e w3 ⟨rfl, rfl⟩
          go_wp2_with fail
          with_reducible refine Calls.mono I1.out ?_
          rintro e w3 ⟨rfl, k3⟩
          have K3 := Lib.hid k3
          clear k3
          go_wp2_with fail
          with_reducible refine Calls.mono (I2.out _ K3.out) ?_
          rintro e w4 ⟨rfl, k4⟩
          have K4 := Lib.hid k4
          clear k4
          go_wp2_with fail
          with_reducible refine Calls.mono (HC.out _) ?_
          rintro e w5 ⟨rfl, ho⟩
          go_wp2_with fail
          go_ret
          exact ⟨rfl, ((hS.out.1.trans K3.out).trans K4.out).trans ho⟩
        · have hj1 : (1 : Int) ≤ (j : Int) := by omega
          have hw1 : IntKind.u64.wrap (j : Int) = (j : Int) := by rw [IntKind.wrap_u64]; omega
          have hw2 : IntKind.i64.wrap ((j : Int) - 1) = (j : Int) - 1 := by rw [IntKind.wrap_i64]; omega
          have hd := hW.out.done g2 (id := (j : Int)) (by omega) (by omega)
          have he := done_ended hW.out.win hd.1
          have DN := done_st hS.out (j : Int)
          rw [hd.1] at DN
          have HE : Hid (∀ k : Nat, j - 1 < k → k ≤ n → isE (done 60 M l j).2.1 (done 60 M l j).2.2 k = true) := Lib.hid fun k h1 h2 => by
            rcases Nat.eq_or_lt_of_le (show j ≤ k by omega) with rfl | h
            · exact he
            · exact done_keeps hW.out.win _ (hE.out k h h2)
          have HD := Lib.hid hd.2
          have DN := Lib.hid DN
          clear hd he
          go_wp2_with fail
          with_reducible refine Calls.mono DN.out ?_
          rintro e w3 ⟨rfl, F', hS', hN'⟩
          have HS' := Lib.hid hS'
          clear hS' hN' DN
          go_wp2_with fail
          go_roundg (j - 1)
          case measure => have := hm.out; omega
          case rel => exact ⟨j - 1, _, _, F', Lib.hid (Nat.le_refl _), by omega, by rw [show (((j - 1 : Nat)) : Int) = (j : Int) - 1 by omega], HD, HS', HE⟩
theorem walk (n : Int) (a1 : List Int) (s1 : Option Addr) (cap1 : Nat) (w : World) (w0 : (Lit.int .i64 n).wf = true) (w1 : Ints w s1 cap1 a1) :
    Calls Try.prog 7 #[.int .i64 n, .slice s1 a1.length cap1] w fun e w' => e = .returned (.bool true) ∧ Old w w' := by
  by_cases h : 1 ≤ n ∧ n ≤ 60 ∧ a1.length ≤ 100
  · obtain ⟨k, rfl⟩ : ∃ k : Nat, n = k := ⟨n.toNat, by omega⟩
    exact late k a1 s1 cap1 w w1 (by omega) (by omega) h.2.2
  · exact early n a1 s1 cap1 w h
set_option maxRecDepth 100000 in
set_option maxHeartbeats 1000000 in
theorem lifted (os : Os) (started : os.Started) (H : Type) (enc : TypeId × Value → H) :
    ReturnsInHanded {} Try.checked os 7 .any (Rows.idsOrderSpec.pre6 enc Try.prog Try.f7 Rows.idsOrderRow.domain false) (Rows.idsOrderSpec.post enc Try.prog Try.f7 false true false false) := by
  refine returnsInHanded_of_change (C := Try.checked) own started (by kernel_rfl) Try.func7
    (ChangeSpec.witness6 (enc := enc) (C := Try.checked) false ⟨#[], #[.int .i64 0, .slice none 0 0], []⟩ 8 (by kernel_rfl) (by kernel_rfl) (by kernel_rfl) (by kernel_rfl)) ?_
  intro W base args ds gs before hval0 hW hcnd _
  have hval : ∀ (j : Nat) t v, Try.f7.params[j]? = some t → args[j]? = some v → Value.okWide Try.prog W .any base t v := hval0
  have hW' := hW
  obtain ⟨p, q, hA0, hV, rfl, hfz, hnd⟩ := hW
  have hA : DataW.TrodAll enc Try.prog W 0 (fun _ => true) true Try.f7.params.toList args.toList ds p := hA0
  rw [Try.params7] at hA hval
  obtain ⟨v0, vs0, d0, ds0, p0, q0, hargs, rfl, rfl, h0, r0⟩ := trodAll_cons hA
  obtain ⟨v1, vs1, d1, ds1, p1, q1, rfl, rfl, rfl, h1, r1⟩ := trodAll_cons r0
  obtain ⟨rfl, rfl, rfl⟩ := trodAll_nil r1
  obtain rfl : args = #[v0, v1] := by cases args; simp_all
  obtain ⟨rfl, rfl⟩ := trodVars_none hV
  obtain ⟨a0, rfl, rfl, rfl, w0⟩ := open_int Try.underlying3 (hval 0 3 v0 rfl rfl) h0
  obtain ⟨s1, cap1, a1, rfl, w1⟩ := Opn.ints_of Try.underlying50 Try.underlying3 (by kernel_rfl) (hval 1 50 v1 rfl rfl) h1
  clear hA0 hval0
  refine (walk a0 a1 s1 cap1 W w0 w1).mono fun e W' ⟨he, hg⟩ => ?_
  subst he
  exact ⟨_, rfl, post_of_old hW' (fun _ _ _ => (trodAll_cons_mk (shut_bool Try.underlying4 _) trodAll_mk0)) (fun sp hsp => (trodAll_cons_mk (shut_int Try.underlying3 w0) (trodAll_cons_mk (Opn.back (by kernel_rfl) (of_decide_eq_true (by kernel_rfl)) h1 hg (fun x hx => hW'.lt x (by simp [hx])) (fun x hx => hsp x (by simp [hx]))) trodAll_mk0))) (fun _ _ => rfl)
    hg (ok_one (by kernel_rfl) rfl (okWide_bool_mk Try.underlying4 _))⟩
theorem over : Rows.idsOrderRow.holds Try.pinned (OpenSpec.ofChange Rows.idsOrderSpec) :=
  OpenClaim.holds_of_wide 7 Try.f7 rfl rfl rfl rfl rfl rfl rfl ⟨rfl, rfl, rfl, rfl, rfl⟩ rfl rfl rfl rfl rfl (by kernel_rfl) Try.func7 (by kernel_rfl)
    (of_decide_eq_true (by kernel_rfl)) (by unfold Func.isWrapper; first | (rw [if_pos (by decide +kernel)]; kernel_rfl) | (rw [if_neg (by decide +kernel)]; exact ⟨rfl, rfl⟩))
    (fun os started H enc _ => lifted os started H enc)
theorem proved : Rows.IdsOrderSaid :=
  over
#print axioms proved
end Go.Proofs.Ytaihjnonlnbhhaa.idsOrder
