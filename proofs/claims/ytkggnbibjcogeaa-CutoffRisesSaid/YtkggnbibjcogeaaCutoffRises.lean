/- CutoffRises (mizzenlaw16): for all levels, sizes, windows and two sizes the law returns true (cuts rise, each is one of the sizes; a greater size goes no sooner; of one level all go alike) and its arguments read as before. Conditions: none. -/
import Derived.Test.YtkggnbibjcogeaaRows
import Derived.Test.YtkggnbibjcogeaaEnd
import Derived.Test.YtkggnbibjcogeaaInts
import Derived.WalkKit
import Derived.ProofKit
import Derived.OpenShut
import Derived.Test.YtkggnbibjcogeaaCoAl
set_option linter.unusedVariables false
namespace Go.Proofs.Ytkggnbibjcogeaa.cutoffRises
open Go.ChangeShapes Go.WideShapes Go.ChangeAt Go.RowKit Go.Proofs.Ytkggnbibjcogeaa.Hp Go.Proofs.Ytkggnbibjcogeaa.End
open Opn CoM CoS Co NumM NumC
theorem own : ownKnob Try.prog.godebug = none := by kernel_rfl
attribute [local go_sem ↓] Go.wp_at_zero Go.wp_at_succ
set_option maxRecDepth 100000 in
set_option maxHeartbeats 4000000 in
theorem early (n : Int) (a1 : List Int) (s1 : Option Addr) (cap1 : Nat) (x a b : Int) (w : World) (h : ¬ (1 ≤ n ∧ n ≤ 8 ∧ a1.length ≤ 60 ∧ 0 ≤ x)) :
    Calls Try.prog 4 #[.int .i64 n, .slice s1 a1.length cap1, .int .i64 x, .int .i64 a, .int .i64 b] w fun e w' => e = .returned (.bool true) ∧ Old w w' := by
  have HC := Lib.hid fun w => awake_any w
  obtain ⟨p, hp⟩ : ∃ p, a1.length = p := ⟨_, rfl⟩
  rw [hp] at h ⊢
  clear hp
  have hc : n < 1 ∨ (decide (n < 1) = false ∧ 8 < n) ∨ (decide (n < 1) = false ∧ decide (8 < n) = false ∧ (60 : Int) < (p : Int)) ∨ (decide (n < 1) = false ∧ decide (8 < n) = false ∧ decide ((60 : Int) < (p : Int)) = false ∧ x < 0) := by
    simp only [decide_eq_false_iff_not]; omega
  clear h
  rcases hc with h1 | ⟨h1, h2⟩ | ⟨h1, h2, h3⟩ | ⟨h1, h2, h3, h4⟩
  all_goals
    go_enter Try.func4, Try.ntmps4
    go_wp2_with fail
    with_reducible refine Calls.mono (HC.out _) ?_
    rintro e w' ⟨rfl, ho⟩
    go_wp2_with fail
    go_ret
    exact ⟨rfl, ho⟩
theorem keeps_few {l : List Int} (h : l.length ≤ 100) : keeps 100 [] l = l.map cl := by
  rw [keeps_last (by omega) _ _ (by simp)]
  simp only [List.nil_append, List.length_nil, Nat.zero_add]
  rw [show l.length - 100 = 0 by omega]; rfl
/-- Each cut is a size's, as it is kept, or nought where there is none. -/
theorem cut_met {n : Nat} {a1 : List Int} {x y : Int} {i : Nat} (h0 : 1 ≤ n) (hl : a1.length ≤ 100) (hy : (cutsM n (keeps 100 [] a1) x)[i]? = some y) : (a1 = [] ∧ y = 0) ∨ ∃ (k : Nat) (z : Int), a1[k]? = some z ∧ y = cl z := by
  rw [keeps_few hl] at hy
  have hm := List.mem_of_getElem? hy
  by_cases he : a1 = []
  · left
    refine ⟨he, ?_⟩
    subst he
    unfold cutsM at hm
    rw [List.map_nil, List.eq_nil_of_length_eq_zero (srt_len [])] at hm
    exact cuts_nil _ _ _ hm
  · right
    unfold cutsM at hm
    have hb : ∀ y ∈ srt (a1.map cl), 0 ≤ y ∧ y ≤ 1073741824 := srt_bd (fun y hy => by obtain ⟨z, _, rfl⟩ := List.mem_map.1 hy; exact cl_bd z)
    have hs := cuts_mem h0 (cl_bd x).1 hb (fun e => by have := congrArg List.length e; rw [srt_len, List.length_map] at this; exact he (List.length_eq_zero_iff.1 this)) _ hm
    obtain ⟨z, hz, rfl⟩ := List.mem_map.1 ((srt_perm _).mem_iff.1 hs)
    obtain ⟨k, hk, rfl⟩ := List.mem_iff_getElem.1 hz
    exact ⟨k, _, List.getElem?_eq_getElem hk, rfl⟩
/-- A size that is this cut has been met, or stands from k on. -/
def MetP (a1 : List Int) (y : Int) (k : Nat) (m : Bool) : Prop := m = true ∨ ∃ (k0 : Nat) (z : Int), k ≤ k0 ∧ a1[k0]? = some z ∧ y = cl z
theorem MetP.more {a1 : List Int} {y z : Int} {k : Nat} (h : MetP a1 y k false) (hz : a1[k]? = some z) : MetP a1 y (k + 1) (y == cl z) := by
  rcases h with h | ⟨k0, u, h1, h2, h3⟩
  · cases h
  · rcases Nat.lt_or_ge k k0 with h4 | h4
    · exact Or.inr ⟨k0, u, h4, h2, h3⟩
    · obtain rfl : k0 = k := by omega
      rw [hz] at h2
      exact Or.inl (by rw [h3, Option.some.inj h2]; simp)
theorem MetP.all {a1 : List Int} {y : Int} {m : Bool} (h : MetP a1 y a1.length m) : m = true := by
  rcases h with h | ⟨k0, u, h1, h2, h3⟩
  · exact h
  · have := (List.getElem?_eq_some_iff.1 h2).1; omega
set_option maxRecDepth 100000 in
set_option maxHeartbeats 8000000 in
theorem late (n : Nat) (a1 : List Int) (s1 : Option Addr) (cap1 : Nat) (x a b : Int) (w : World) (w1 : Ints w s1 cap1 a1) (g1 : 1 ≤ n) (g2 : n ≤ 8) (g3 : a1.length ≤ 60) (g4 : 0 ≤ x) :
    Calls Try.prog 4 #[.int .i64 (n : Nat), .slice s1 a1.length cap1, .int .i64 x, .int .i64 a, .int .i64 b] w fun e w' => e = .returned (.bool true) ∧ Old w w' := by
  have HC := Lib.hid fun w => awake_any w
  have W1 := Lib.hid w1
  clear w1
  have HME := Lib.hid fun (i : Nat) (y : Int) (hy : (cutsM n (keeps 100 [] a1) x)[i]? = some y) => cut_met g1 (by omega) hy
  obtain ⟨p, hp⟩ : ∃ p, a1.length = p := ⟨_, rfl⟩
  have HP := Lib.hid hp
  rw [hp] at g3 ⊢
  clear hp
  have N := Lib.hid fun w => new_st (L := n) (M := 100) g1 g2 (by omega) (by omega) w
  have h1 : decide ((n : Int) < 1) = false := by rw [decide_eq_false_iff_not]; omega
  have h2 : decide ((8 : Int) < (n : Int)) = false := by rw [decide_eq_false_iff_not]; omega
  have h3 : decide ((60 : Int) < (p : Int)) = false := by rw [decide_eq_false_iff_not]; omega
  have h4 : decide (x < 0) = false := by rw [decide_eq_false_iff_not]; omega
  go_enter Try.func4, Try.ntmps4
  go_wp2_with fail
  with_reducible refine Calls.mono (N.out _) ?_
  rintro e w3 ⟨mb, F, rfl, hS, _⟩
  have HS := Lib.hid hS
  clear hS N
  go_wp2_with fail
  clear h1 h2 h3 h4
  go_loopg [13] p (fun kx s13 wr => ∃ (i : Nat) (F : Nat → Prop), Hid (p - i ≤ kx) ∧ i ≤ p ∧ s13 = .int .i64 (i : Nat) ∧ Hid (St w mb n 100 (keeps 100 [] (a1.take i)) F wr))
  case atStart => exact ⟨0, F, Lib.hid (by omega), by omega, rfl, HS⟩
  case round =>
    clear HS
    obtain ⟨i, F, hm, hi, rfl, hT⟩ := hrel
    rcases Nat.lt_or_ge i p with hlt | hge
    · have hin : i < a1.length := by rw [HP.out]; exact hlt
      obtain ⟨g, off, rfl, hg, hc⟩ := W1.out.at hT.out.1 (j := i) hin
      have hk : keep 100 (keeps 100 [] (a1.take i)) (cl a1[i]) = keeps 100 [] (a1.take (i + 1)) := by rw [List.take_succ_eq_append_getElem hin, keeps_snoc]
      have AD := Lib.hid (add_st hT.out a1[i])
      rw [hk] at AD
      have hlt' : (i : Int) < (p : Int) := by omega
      generalize a1[i] = y at *
      clear hk hT
      go_wp2_with fail
      with_reducible refine Calls.mono AD.out ?_
      rintro e w5 ⟨rfl, F', hT, _⟩
      have HT := Lib.hid hT
      clear hT AD
      go_wp2_with fail
      go_roundg (p - (i + 1))
      case measure => have := hm.out; omega
      case rel => exact ⟨i + 1, F', Lib.hid (Nat.le_refl _), by omega, by go_num, HT⟩
    · obtain rfl : i = p := by omega
      have hge' : decide ((i : Int) < (i : Int)) = false := by simp
      rw [← HP.out, List.take_length] at hT
      have HTB := Lib.hid hT.out.bd
      have CU := Lib.hid (cuts_st hT.out x)
      have PR := Lib.hid fun (w' : World) (k : Kept (fun _ => False) wr w') (s : Int) => prio_st (hT.out.old k) s x
      have HUP := Lib.hid (cutsM_up (window := x) hT.out.bd.1 hT.out.bd.2.2)
      have hlen := cutsM_len n (keeps 100 [] a1) x
      have HK0 := Lib.hid hT.out.1
      obtain ⟨C, hC⟩ : ∃ C, cutsM n (keeps 100 [] a1) x = C := ⟨_, rfl⟩
      rw [hC] at CU PR HUP hlen HME
      clear hT HTB hC
      go_wp2_with fail
      with_reducible refine Calls.mono CU.out ?_
      rintro e w5 ⟨v5, rfl, hR5, hk5⟩
      obtain ⟨s5, c5, rfl, hc51, hc52⟩ := hR5.slice
      unfold maxLen at hc52
      have HR5 := Lib.hid hR5
      have HK5 := Lib.hid hk5
      clear hR5 hk5 CU
      have hn1 : (n : Int) - 1 = ((n - 1 : Nat) : Int) := by omega
      obtain ⟨J, hJ⟩ : ∃ J, n - 1 = J := ⟨_, rfl⟩
      rw [hJ] at hlen hn1
      have HJ := Lib.hid hJ
      have HLE := Lib.hid hlen
      rw [hlen] at HR5 hc51 ⊢
      have hJ7 : J ≤ 7 := by omega
      clear hlen hJ
      go_wp2_with fail
      clear hge hge' hm hi hn1
      obtain ⟨wo, hwo⟩ : ∃ wo : World, wo = wr := ⟨_, rfl⟩
      rw [← hwo] at HK0 HK5 PR
      clear hwo
      go_loopg [15] J (fun kx s15 wr => ∃ (j : Nat), Hid (J - j ≤ kx) ∧ j ≤ J ∧ s15 = .int .i64 (j : Nat) ∧ Hid (Kept (fun _ => False) w5 wr))
      case atStart => exact ⟨0, Lib.hid (by omega), by omega, rfl, Lib.hid (Kept.refl _ _)⟩
      case round =>
        obtain ⟨j, hm, hj, rfl, hk⟩ := hrel
        rcases Nat.lt_or_ge j J with hlt | hge
        · obtain ⟨y, hy⟩ : ∃ y, C[j]? = some y := ⟨_, List.getElem?_eq_getElem (by rw [HLE.out]; exact hlt)⟩
          obtain ⟨g, o, rfl, hcy⟩ := row_cell (HR5.out.old hk.out) hy
          have hlt' : (j : Int) < (J : Int) := by omega
          have HY := Lib.hid hy
          have hme := HME.out j y hy
          clear hy
          obtain ⟨m0, hm0, hst⟩ : ∃ m0 : Bool, MetP a1 y 0 m0 ∧ ((((i : Int) == 0) = true ∧ (y == 0) = true ∧ m0 = true) ∨ (((i : Int) == 0) = false ∧ m0 = false)) := by
            rcases hme with ⟨e1, e2⟩ | ⟨k, z, e1, e2⟩
            · have : i = 0 := by rw [← HP.out, e1]; rfl
              exact ⟨true, Or.inl rfl, Or.inl ⟨by simp [this], by simp [e2], rfl⟩⟩
            · have hki := (List.getElem?_eq_some_iff.1 e1).1
              rw [HP.out] at hki
              exact ⟨false, Or.inr ⟨k, z, by omega, e1, e2⟩, Or.inr ⟨by simp; omega, rfl⟩⟩
          have HM0 := Lib.hid hm0
          clear hme hm0
          rcases hst with ⟨h1, h2, rfl⟩ | ⟨h1, rfl⟩
          all_goals
            go_wp2_with fail
            clear h1
            try clear h2
            have HK3 := Lib.hid hk.out
            clear hcy hk
            go_loopg [16, 17] i (fun kx s16 s17 wr => ∃ (k : Nat) (m : Bool), Hid (i - k ≤ kx) ∧ k ≤ i ∧ s17 = .int .i64 (k : Nat) ∧ s16 = .bool m ∧ Hid (MetP a1 y k m) ∧ Hid (Kept (fun _ => False) w5 wr))
            case atStart => exact ⟨0, _, Lib.hid (by omega), by omega, rfl, rfl, HM0, HK3⟩
            case round =>
              clear HM0 HK3
              obtain ⟨k, m, hmk, hk, rfl, rfl, hM, hkw⟩ := hrel
              have hcy := (row_cell (HR5.out.old hkw.out) HY.out)
              obtain ⟨g', o', e, hcy⟩ := hcy
              cases e
              rcases Nat.lt_or_ge k i with hki | hki
              · have hin : k < a1.length := by rw [HP.out]; exact hki
                obtain ⟨g2, off, rfl, hg, hc⟩ := W1.out.at ((HK0.out.trans HK5.out).trans hkw.out) (j := k) hin
                have hz : a1[k]? = some a1[k] := List.getElem?_eq_getElem hin
                have HZ := Lib.hid hz
                generalize a1[k] = z at *
                have hki' : (k : Int) < (i : Int) := by omega
                clear hz
                cases m with
                | true =>
                  go_wp2_with fail
                  go_quiet (fail)
                  have HK4 := Lib.hid (hkw.out.drewN nq)
                  clear hcy hkw hc
                  generalize wr.drewN nq = w6 at *
                  go_wp2_with fail
                  go_roundg (i - (k + 1))
                  case measure => have := hmk.out; omega
                  case rel => exact ⟨k + 1, true, Lib.hid (Nat.le_refl _), by omega, by go_num, rfl, Lib.hid (Or.inl rfl), HK4⟩
                | false =>
                  have CL := Lib.hid fun w => clampRef_any z 0 1073741824 w
                  rw [cl_is] at CL
                  have HM2 := Lib.hid (hM.out.more HZ.out)
                  obtain ⟨u, hu⟩ : ∃ u, cl z = u := ⟨_, rfl⟩
                  rw [hu] at CL HM2
                  clear hu hM
                  obtain ⟨r, hr⟩ : ∃ r, (y == u) = r := ⟨_, rfl⟩
                  rw [hr] at HM2
                  go_wp2_with fail
                  go_quiet ((go_at_call 17; exact Calls.quiet_of_same ((CL.out _).mono fun _ _ ⟨e1, e2⟩ => ⟨e1, e2.symm⟩)))
                  have HK4 := Lib.hid (hkw.out.drewN nq)
                  clear hcy hkw hc hr
                  generalize wr.drewN nq = w6 at *
                  go_wp2_with fail
                  go_roundg (i - (k + 1))
                  case measure => have := hmk.out; omega
                  case rel => exact ⟨k + 1, r, Lib.hid (Nat.le_refl _), by omega, by go_num, rfl, HM2, HK4⟩
              · obtain rfl : k = i := by omega
                have hmt : m = true := MetP.all (a1 := a1) (y := y) (by rw [HP.out]; exact hM.out)
                subst hmt
                have hki' : decide ((k : Int) < (k : Int)) = false := by simp
                have hnext : j = 0 ∨ ∃ (q : Nat) (y2 : Int), (j : Int) - 1 = (q : Int) ∧ C[q]? = some y2 ∧ y2 ≤ y := by
                  rcases Nat.eq_zero_or_pos j with h | h
                  · exact Or.inl h
                  · have hq : j - 1 < C.length := by rw [HLE.out]; omega
                    exact Or.inr ⟨j - 1, C[j - 1], by omega, List.getElem?_eq_getElem hq, up_at HUP.out (show j - 1 < j by omega) (List.getElem?_eq_getElem hq) HY.out⟩
                rcases hnext with hj0 | ⟨q, y2, hq, hy2, hle⟩
                · have hj0' : decide (0 < j) = false := by rw [decide_eq_false_iff_not]; omega
                  clear hj0
                  go_wp2_with fail
                  go_quiet (fail)
                  have HK4 := Lib.hid (hkw.out.drewN nq)
                  clear hcy hkw
                  generalize wr.drewN nq = w6 at *
                  go_wp2_with fail
                  go_roundg (J - (j + 1))
                  case measure => have := hm.out; omega
                  case rel => exact ⟨j + 1, Lib.hid (Nat.le_refl _), by omega, by go_num, HK4⟩
                · have hj0' : 0 < j := by omega
                  have hqj : q < J := by omega
                  have hcy2 := (row_cell (HR5.out.old hkw.out) hy2)
                  obtain ⟨g', o', e, hcy2⟩ := hcy2
                  cases e
                  have hle' : decide (y < y2) = false := by rw [decide_eq_false_iff_not]; omega
                  clear hle hy2
                  go_wp2_with fail
                  go_quiet (fail)
                  have HK4 := Lib.hid (hkw.out.drewN nq)
                  clear hcy hkw hcy2 hq
                  generalize wr.drewN nq = w6 at *
                  go_wp2_with fail
                  go_roundg (J - (j + 1))
                  case measure => have := hm.out; omega
                  case rel => exact ⟨j + 1, Lib.hid (Nat.le_refl _), by omega, by go_num, HK4⟩
        · obtain rfl : j = J := by omega
          have hge' : decide ((j : Int) < (j : Int)) = false := by simp
          have HK6 := Lib.hid (HK5.out.trans hk.out)
          clear hk
          obtain ⟨lo, hlo⟩ : ∃ lo, min a b = lo := ⟨_, rfl⟩
          obtain ⟨hi, hhi⟩ : ∃ hi, max a b = hi := ⟨_, rfl⟩
          have hmn : ∀ (ts : Array TypeId) (ty : TypeId) (w : World), (Builtin.min_ ts ty #[.int .i64 a, .int .i64 b]).run Try.prog w = .ok (.int .i64 lo) w := by
            intro ts ty w
            rw [← hlo, IvN.min_if]
            exact run_min_int2 ..
          have hmx : ∀ (ts : Array TypeId) (ty : TypeId) (w : World), (Builtin.max_ ts ty #[.int .i64 a, .int .i64 b]).run Try.prog w = .ok (.int .i64 hi) w := by
            intro ts ty w
            rw [← hhi, IvN.max_if]
            exact run_max_int2 ..
          have P1 := PR.out wr HK6.out lo
          have P2 := Lib.hid fun (w' : World) (k : Kept (fun _ => False) wr w') => PR.out w' (HK6.out.trans k) hi
          have hb1 := below_up (show lo ≤ hi by omega) C
          have hb2 := below_le hi C
          rw [HLE.out] at hb2
          have hjn : (n : Int) = (j : Int) + 1 := by have := HJ.out; omega
          obtain ⟨p1, hp1⟩ : ∃ p, below lo C = p := ⟨_, rfl⟩
          obtain ⟨p2, hp2⟩ : ∃ p, below hi C = p := ⟨_, rfl⟩
          rw [hp1] at P1 hb1
          rw [hp2] at P2 hb1 hb2
          clear hp1 hp2 hlo hhi
          obtain ⟨X, hX⟩ : ∃ X, (7 : Int) - (p1 : Nat) = X := ⟨_, rfl⟩
          obtain ⟨Y, hY⟩ : ∃ Y, (7 : Int) - (p2 : Nat) = Y := ⟨_, rfl⟩
          rw [hX] at P1
          rw [hY] at P2
          have z1 : Y ≤ X := by omega
          have z2 : 8 - (n : Int) ≤ Y := by omega
          have z3 : X ≤ 7 := by omega
          have z4 : 0 ≤ Y := by omega
          clear hX hY hb1 hb2 hjn
          have P1 := Lib.hid P1
          go_wp2_with fail
          with_reducible refine Calls.mono P1.out ?_
          rintro e w6 ⟨rfl, hk6⟩
          have HK7 := Lib.hid hk6
          have P3 := Lib.hid (P2.out _ hk6)
          clear hk6 P1 P2
          go_wp2_with fail
          with_reducible refine Calls.mono P3.out ?_
          rintro e w7 ⟨rfl, hk7⟩
          have HK8 := Lib.hid (HK7.out.trans hk7)
          clear hk7 P3
          go_wp2_with fail
          with_reducible refine Calls.mono (HC.out _) ?_
          rintro e w9 ⟨rfl, ho⟩
          go_wp2_with fail
          go_ret
          exact ⟨rfl, ((HK0.out.trans HK6.out).trans HK8.out).trans ho⟩
theorem walk (n : Int) (a1 : List Int) (s1 : Option Addr) (cap1 : Nat) (x a b : Int) (w : World) (w0 : (Lit.int .i64 n).wf = true) (w1 : Ints w s1 cap1 a1) (w2 : (Lit.int .i64 x).wf = true) (w3 : (Lit.int .i64 a).wf = true) (w4 : (Lit.int .i64 b).wf = true) :
    Calls Try.prog 4 #[.int .i64 n, .slice s1 a1.length cap1, .int .i64 x, .int .i64 a, .int .i64 b] w fun e w' => e = .returned (.bool true) ∧ Old w w' := by
  by_cases h : 1 ≤ n ∧ n ≤ 8 ∧ a1.length ≤ 60 ∧ 0 ≤ x
  · obtain ⟨k, rfl⟩ : ∃ k : Nat, n = k := ⟨n.toNat, by omega⟩
    exact late k a1 s1 cap1 x a b w w1 (by omega) (by omega) h.2.2.1 h.2.2.2
  · exact early n a1 s1 cap1 x a b w h
set_option maxRecDepth 100000 in
set_option maxHeartbeats 1000000 in
theorem lifted (os : Os) (started : os.Started) (H : Type) (enc : TypeId × Value → H) :
    ReturnsInHanded {} Try.checked os 4 .any (Rows.cutoffRisesSpec.pre6 enc Try.prog Try.f4 Rows.cutoffRisesRow.domain false) (Rows.cutoffRisesSpec.post enc Try.prog Try.f4 false true false false) := by
  refine returnsInHanded_of_change (C := Try.checked) own started (by kernel_rfl) Try.func4
    (ChangeSpec.witness6 (enc := enc) (C := Try.checked) false ⟨#[], #[.int .i64 0, .slice none 0 0, .int .i64 0, .int .i64 0, .int .i64 0], []⟩ 8 (by kernel_rfl) (by kernel_rfl) (by kernel_rfl) (by kernel_rfl)) ?_
  intro W base args ds gs before hval0 hW hcnd _
  have hval : ∀ (j : Nat) t v, Try.f4.params[j]? = some t → args[j]? = some v → Value.okWide Try.prog W .any base t v := hval0
  have hW' := hW
  obtain ⟨p, q, hA0, hV, rfl, hfz, hnd⟩ := hW
  have hA : DataW.TrodAll enc Try.prog W 0 (fun _ => true) true Try.f4.params.toList args.toList ds p := hA0
  rw [Try.params4] at hA hval
  obtain ⟨v0, vs0, d0, ds0, p0, q0, hargs, rfl, rfl, h0, r0⟩ := trodAll_cons hA
  obtain ⟨v1, vs1, d1, ds1, p1, q1, rfl, rfl, rfl, h1, r1⟩ := trodAll_cons r0
  obtain ⟨v2, vs2, d2, ds2, p2, q2, rfl, rfl, rfl, h2, r2⟩ := trodAll_cons r1
  obtain ⟨v3, vs3, d3, ds3, p3, q3, rfl, rfl, rfl, h3, r3⟩ := trodAll_cons r2
  obtain ⟨v4, vs4, d4, ds4, p4, q4, rfl, rfl, rfl, h4, r4⟩ := trodAll_cons r3
  obtain ⟨rfl, rfl, rfl⟩ := trodAll_nil r4
  obtain rfl : args = #[v0, v1, v2, v3, v4] := by cases args; simp_all
  obtain ⟨rfl, rfl⟩ := trodVars_none hV
  obtain ⟨a0, rfl, rfl, rfl, w0⟩ := open_int Try.underlying3 (hval 0 3 v0 rfl rfl) h0
  obtain ⟨s1, cap1, a1, rfl, w1⟩ := Opn.ints_of Try.underlying22 Try.underlying3 (by kernel_rfl) (hval 1 22 v1 rfl rfl) h1
  obtain ⟨a2, rfl, rfl, rfl, w2⟩ := open_int Try.underlying3 (hval 2 3 v2 rfl rfl) h2
  obtain ⟨a3, rfl, rfl, rfl, w3⟩ := open_int Try.underlying3 (hval 3 3 v3 rfl rfl) h3
  obtain ⟨a4, rfl, rfl, rfl, w4⟩ := open_int Try.underlying3 (hval 4 3 v4 rfl rfl) h4
  clear hA0 hval0
  refine (walk a0 a1 s1 cap1 a2 a3 a4 W w0 w1 w2 w3 w4).mono fun e W' ⟨he, hg⟩ => ?_
  subst he
  exact ⟨_, rfl, post_of_old hW' (fun _ _ _ => (trodAll_cons_mk (shut_bool Try.underlying4 _) trodAll_mk0)) (fun sp hsp => (trodAll_cons_mk (shut_int Try.underlying3 w0) (trodAll_cons_mk (Opn.back (by kernel_rfl) (of_decide_eq_true (by kernel_rfl)) h1 hg (fun x hx => hW'.lt x (by simp [hx])) (fun x hx => hsp x (by simp [hx]))) (trodAll_cons_mk (shut_int Try.underlying3 w2) (trodAll_cons_mk (shut_int Try.underlying3 w3) (trodAll_cons_mk (shut_int Try.underlying3 w4) trodAll_mk0)))))) (fun _ _ => rfl)
    hg (ok_one (by kernel_rfl) rfl (okWide_bool_mk Try.underlying4 _))⟩
theorem over : Rows.cutoffRisesRow.holds Try.pinned (OpenSpec.ofChange Rows.cutoffRisesSpec) :=
  OpenClaim.holds_of_wide 4 Try.f4 rfl rfl rfl rfl rfl rfl rfl ⟨rfl, rfl, rfl, rfl, rfl⟩ rfl rfl rfl rfl rfl (by kernel_rfl) Try.func4 (by kernel_rfl)
    (of_decide_eq_true (by kernel_rfl)) (by unfold Func.isWrapper; first | (rw [if_pos (by decide +kernel)]; kernel_rfl) | (rw [if_neg (by decide +kernel)]; exact ⟨rfl, rfl⟩))
    (fun os started H enc _ => lifted os started H enc)
theorem proved : Rows.CutoffRisesSaid :=
  over
#print axioms proved
end Go.Proofs.Ytkggnbibjcogeaa.cutoffRises
