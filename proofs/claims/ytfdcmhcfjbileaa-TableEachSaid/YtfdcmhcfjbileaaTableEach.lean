/- TableEach (mizzenlaw8): for all ids and all peers the law returns true (what Each makes of each thing stands in the order of the keys; a nil table and a nil function make nothing) and its arguments read as before. Conditions: none. -/
import Derived.Test.YtfdcmhcfjbileaaRows
import Derived.Test.YtfdcmhcfjbileaaEnd
import Derived.Test.YtfdcmhcfjbileaaInts
import Derived.WalkKit
import Derived.ProofKit
import Derived.OpenShut
import Derived.Test.YtfdcmhcfjbileaaTbAwake
import Derived.Test.YtfdcmhcfjbileaaTbSt
import Derived.Test.YtfdcmhcfjbileaaTbEach
import Derived.Test.YtfdcmhcfjbileaaTbLess
import Derived.Test.YtfdcmhcfjbileaaU64
set_option linter.unusedVariables false
namespace Go.Proofs.Ytfdcmhcfjbileaa.tableEach
open Go.ChangeShapes Go.WideShapes Go.ChangeAt Go.RowKit Go.Proofs.Ytfdcmhcfjbileaa.Hp Go.Proofs.Ytfdcmhcfjbileaa.End
open Opn TbM TbN TbR TbL TbK Tb
theorem own : ownKnob Try.prog.godebug = none := by kernel_rfl
attribute [local go_sem ↓] Go.wp_at_zero Go.wp_at_succ
set_option maxRecDepth 100000 in
set_option maxHeartbeats 2000000 in
theorem early (a0 : List Int) (s0 : Option Addr) (cap0 : Nat) (a1 : List Int) (s1 : Option Addr) (cap1 : Nat) (w : World) (h : ¬ (a0.length ≤ 60 ∧ a1.length ≤ 60)) :
    Calls Try.prog 4 #[.slice s0 a0.length cap0, .slice s1 a1.length cap1] w fun e w' => e = .returned (.bool true) ∧ Old w w' := by
  have HC := Lib.hid fun w => awake_any w
  have hc : (60 : Int) < (a0.length : Int) ∨ (decide ((60 : Int) < (a0.length : Int)) = false ∧ (60 : Int) < (a1.length : Int)) := by
    rw [decide_eq_false_iff_not]; omega
  clear h
  rcases hc with h1 | ⟨h1, h2⟩
  all_goals
    go_enter Try.func4, Try.ntmps4
    go_wp2_with (go_at_call 7; refine (HC.out _).mono ?_; rintro e w' ⟨rfl, ho⟩)
    go_ret
    exact ⟨rfl, ho⟩
/-- What stands in the table: each thing's number names its key. -/
def Inv (ids ps : List Int) (i : Nat) (m : List (Ky × Int)) : Prop := m.length ≤ i ∧ ∀ k v, (k, v) ∈ m → ∃ j : Nat, j < i ∧ v = (j : Int) ∧ ps[j]? = some k.1 ∧ ids[j]? = some k.2
theorem Inv.more {ids ps : List Int} {i : Nat} {m : List (Ky × Int)} (h : Inv ids ps i m) {p d : Int} (hp : ps[i]? = some p) (hd : ids[i]? = some d) : Inv ids ps (i + 1) (((p, d), (i : Int)) :: m) := by
  refine ⟨by rw [List.length_cons]; have := h.1; omega, fun k v hm => ?_⟩
  rcases List.mem_cons.1 hm with e | hm
  · cases e; exact ⟨i, by omega, rfl, hp, hd⟩
  · obtain ⟨j, h1, h2⟩ := h.2 k v hm
    exact ⟨j, by omega, h2⟩
theorem Inv.same {ids ps : List Int} {i : Nat} {m : List (Ky × Int)} (h : Inv ids ps i m) : Inv ids ps (i + 1) m :=
  ⟨by have := h.1; omega, fun k v hm => by obtain ⟨j, h1, h2⟩ := h.2 k v hm; exact ⟨j, by omega, h2⟩⟩
theorem wpStill_offs {P : Program} {ops : Array Oper} {w : World} {Q : Act → Prop} {g : Nat} {want : Bool} {d0 : Nat} (hg : (ops[g]?).bind (·.dst) = some d0) :
    ∀ (l : List Oper) (a : Act), (∀ o ∈ l, o.guard = some (g, want) ∧ o.dst ≠ some d0) → a.tmps[d0]? = some (.bool (!want)) → Q (l.foldl (fun a o => a.put o.dst undef) a) → wpStill P ops w Q l a
  | [], a, _, _, h => h
  | o :: l, a, hall, ht, h => by
    have ho := hall o (List.mem_cons_self ..)
    unfold wpStill
    have hy : yielded ops a.tmps g = some (!want) := by
      unfold yielded
      rw [hg]
      simp only [Option.bind_some, ht]
    have hw : Region.wanted o (yielded ops a.tmps) = false := by
      unfold Region.wanted
      rw [ho.1]
      show (yielded ops a.tmps g == some want) = false
      rw [hy]
      cases want <;> rfl
    rw [if_neg (by rw [hw]; decide)]
    refine wpStill_offs hg l _ (fun o' h' => hall o' (List.mem_cons_of_mem _ h')) ?_ h
    unfold Act.put
    split
    · rename_i d hd
      rw [Array.getElem?_setIfInBounds, if_neg (fun e => ho.2 (by rw [hd, e]))]
      exact ht
    · exact ht
set_option maxRecDepth 100000 in
set_option maxHeartbeats 16000000 in
theorem late (a0 : List Int) (s0 : Option Addr) (cap0 : Nat) (a1 : List Int) (s1 : Option Addr) (cap1 : Nat) (w : World) (w0 : Uints w s0 cap0 a0) (w1 : Ints w s1 cap1 a1) (g0 : a0.length ≤ 60) (g1 : a1.length ≤ 60) :
    Calls Try.prog 4 #[.slice s0 a0.length cap0, .slice s1 a1.length cap1] w fun e w' => e = .returned (.bool true) ∧ Old w w' := by
  have HC := Lib.hid fun w => awake_any w
  have N := Lib.hid fun w => new_st (most := 100) (by omega) (by omega) w
  have h1 : decide ((60 : Int) < (a0.length : Int)) = false := by rw [decide_eq_false_iff_not]; omega
  have h2 : decide ((60 : Int) < (a1.length : Int)) = false := by rw [decide_eq_false_iff_not]; omega
  have W0 := Lib.hid w0
  have W1 := Lib.hid w1
  clear w0 w1
  go_enter Try.func4, Try.ntmps4
  go_wp2_with fail
  with_reducible refine Calls.mono (N.out _) ?_
  rintro e w1 ⟨b, F0, rfl, hS⟩
  have HS := Lib.hid hS
  clear hS N
  go_upto_block 0 with (fail)
  clear h1 h2
  go_cut [] (fun wx => ∃ (i : Nat) (m : List (Ky × Int)) (F : Nat → Prop), i ≤ 60 ∧ Hid (St w b 100 m F wx) ∧ Hid (Inv a0 a1 i m))
  case first =>
    obtain ⟨n, hn0, hn1, hn⟩ : ∃ n : Nat, n ≤ a0.length ∧ n ≤ a1.length ∧ (n = a0.length ∨ n = a1.length) := ⟨min a0.length a1.length, Nat.min_le_left _ _, Nat.min_le_right _ _, by omega⟩
    have HN := Lib.hid hn
    clear hn
    go_wp2_with fail
    go_loopg [7] n (fun mm s7 wr => ∃ (i : Nat) (m : List (Ky × Int)) (F : Nat → Prop), Hid (mm = n - i) ∧ i ≤ n ∧ s7 = .int .i64 ((i : Nat) : Int) ∧ Hid (St w b 100 m F wr) ∧ Hid (Inv a0 a1 i m))
    case atStart => exact ⟨0, [], F0, Lib.hid rfl, by omega, rfl, HS, Lib.hid ⟨by simp, fun k v h => by simp at h⟩⟩
    case round =>
      obtain ⟨i, m, F, hm, hi, rfl, hS, hI⟩ := hrel
      clear HS
      rcases Nat.lt_or_ge i n with hlt | hge
      · have l0 : (i : Int) < (a0.length : Int) := by omega
        have l1 : (i : Int) < (a1.length : Int) := by omega
        have h0 : i < a0.length := by omega
        have h1 : i < a1.length := by omega
        obtain ⟨b0, o0, rfl, _, c0⟩ := W0.out.at hS.out.1 h0
        obtain ⟨b1, o1, rfl, _, c1⟩ := W1.out.at hS.out.1 h1
        have e0 := Lib.hid (List.getElem?_eq_getElem h0)
        have e1 := Lib.hid (List.getElem?_eq_getElem h1)
        generalize a0[i] = d at *
        generalize a1[i] = p at *
        go_wp2_with fail
        go_still_tail 11, (by kernel_rfl)
        change wpList _ _ _ _ _ wr.drew
        have HS2 := Lib.hid (hS.out.old (Kept.refl (fun _ => False) wr).drew)
        generalize wr.drew = w2 at *
        clear c0 c1
        by_cases hin : ∃ u, ((p, d), u) ∈ m
        · obtain ⟨u, hu⟩ := hin
          have P := Lib.hid (there_st HS2.out hu (i : Int))
          clear hu
          go_wp2_with fail
          with_reducible refine Calls.mono P.out ?_
          rintro e w3 ⟨rfl, hk⟩
          have HS3 := Lib.hid (HS2.out.old hk)
          clear hk P
          go_wp2_with fail
          go_roundg (n - (i + 1))
          case measure => have := hm.out; omega
          case rel => exact ⟨i + 1, m, F, Lib.hid rfl, by omega, by go_num, HS3, Lib.hid hI.out.same⟩
        · have P := Lib.hid (put_st HS2.out (fun u hu => hin ⟨u, hu⟩) (by have := hI.out.1; omega) (by have := hI.out.1; omega) (i : Int))
          clear hin
          go_wp2_with fail
          with_reducible refine Calls.mono P.out ?_
          rintro e w3 ⟨rfl, F', hS3, _⟩
          have HS3 := Lib.hid hS3
          clear hS3 P
          go_wp2_with fail
          go_roundg (n - (i + 1))
          case measure => have := hm.out; omega
          case rel => exact ⟨i + 1, _, F', Lib.hid rfl, by omega, by go_num, HS3, Lib.hid (hI.out.more e1.out e0.out)⟩
      · obtain rfl : i = n := by omega
        have hc : (¬ (i : Int) < (a0.length : Int)) ∨ ((i : Int) < (a0.length : Int) ∧ ¬ (i : Int) < (a1.length : Int)) := by have := HN.out; omega
        rcases hc with q | ⟨q1, q2⟩
        all_goals
          go_wp2_with fail
          go_meet
          exact ⟨i, m, F, by omega, hS, hI⟩
  case rest =>
  clear HS
  obtain ⟨i, m, F, hi, hS, hI⟩ := hcut
  have E := Lib.hid (each_any hS.out.2)
  go_wp2_with fail
  with_reducible refine Calls.mono E.out ?_
  rintro e w2 hE
  obtain ⟨v', l, vs, rfl, hR, hp, hs, hvl, hvm, hk⟩ := hE
  have HR := Lib.hid hR
  have HP := Lib.hid hp
  have HSo := Lib.hid hs
  have HVL := Lib.hid hvl
  have HVM := Lib.hid hvm
  have HK := Lib.hid hk
  clear hR hp hs hvl hvm hk E
  have KA := Lib.hid (keys_any (hS.out.2.old HK.out))
  go_wp2_with fail
  with_reducible refine Calls.mono KA.out ?_
  rintro e w3 ⟨g, cap, cur, l2, rfl, hL, hp2, hs2, hg, hk2⟩
  obtain rfl : l2 = l := sorted_one (hp2.trans HP.out.symm) hs2 HSo.out
  have HL := Lib.hid hL
  have HS3 := Lib.hid (hS.out.old (HK.out.trans hk2))
  have hR := HR.out.old hk2
  obtain ⟨a, c, rfl, _⟩ := hR.slice
  have HR3 := Lib.hid hR
  have hol : (outs l2 vs).length = l2.length := outs_len _ _ HVL.out
  rw [hol] at HR3 ⊢
  have hml : m.length = l2.length := by have := HP.out.length_eq; rw [List.length_map] at this; exact this.symm
  have LN := len_st HS3.out
  rw [hml] at LN
  have HLN := Lib.hid LN
  have HML := Lib.hid hml
  have hS3k := Lib.hid HS3.out.keys
  clear hL hp2 hs2 hg hk2 hR hol LN hml KA HR HK hS
  go_wp2_with fail
  with_reducible refine Calls.mono HLN.out ?_
  rintro e w4 ⟨rfl, rfl⟩
  clear HLN
  go_wp2_with fail
  go_loopg [10] l2.length (fun mm s10 wr => ∃ (j : Nat), Hid (mm = l2.length - j) ∧ j ≤ l2.length ∧ s10 = .int .i64 ((j : Nat) : Int) ∧ Hid (Kept (fun _ => False) w3 wr))
  case atStart => exact ⟨0, Lib.hid rfl, Nat.zero_le _, rfl, Lib.hid (Kept.refl _ w3)⟩
  case round =>
    obtain ⟨j, hm, hj, rfl, hk⟩ := hrel
    rcases Nat.lt_or_ge j l2.length with hlt | hge
    · obtain ⟨⟨k1, k2⟩, hx⟩ : ∃ x, l2[j]? = some x := ⟨l2[j], List.getElem?_eq_getElem hlt⟩
      obtain ⟨u, hu⟩ : ∃ x, vs[j]? = some x := ⟨vs[j]'(by rw [HVL.out]; exact hlt), List.getElem?_eq_getElem _⟩
      have hmem := HVM.out j (k1, k2) u hx hu
      obtain ⟨v, hvi, rfl, hp1, hp0⟩ := hI.out.2 _ _ hmem
      have hot := outs_at l2 vs j (k1, k2) _ hx hu
      have hLr := HL.out.kept hk.out (fun f => f)
      have q0 : wr.cell? ⟨g, j * 2, none⟩ = some (.int .i64 k1) := hLr.cell hx (j := 0) rfl
      have q1 : wr.cell? ⟨g, j * 2 + 1, none⟩ = some (.int .u64 k2) := hLr.cell hx (j := 1) rfl
      have gt := get_st (HS3.out.old hk.out) hmem
      unfold ev at gt
      have GT := Lib.hid gt
      have HX := Lib.hid hx
      have HOT := Lib.hid hot
      have HP1 := Lib.hid hp1
      have HP0 := Lib.hid hp0
      clear hx hu hmem hot hLr hp1 hp0 gt
      go_wp2_with fail
      with_reducible refine Calls.mono GT.out ?_
      rintro e w4 ⟨rfl, hk4⟩
      have HK4 := Lib.hid (hk.out.trans hk4)
      have hLr := HL.out.kept HK4.out (fun f => f)
      have hv0 : v < a0.length := (List.getElem?_eq_some_iff.1 HP0.out).1
      have hv1 : v < a1.length := (List.getElem?_eq_some_iff.1 HP1.out).1
      have gw : IntKind.u64.wrap ((v : Nat) : Int) = (v : Int) := by rw [IntKind.wrap_u64]; omega
      obtain ⟨b0, o0, rfl, _, c0⟩ := W0.out.at (HS3.out.1.trans HK4.out) hv0
      obtain ⟨b1, o1, rfl, _, c1⟩ := W1.out.at (HS3.out.1.trans HK4.out) hv1
      have e0 := (List.getElem?_eq_some_iff.1 HP0.out).2
      have e1 := (List.getElem?_eq_some_iff.1 HP1.out).2
      rw [e0] at c0
      rw [e1] at c1
      have ho := HOT.out
      unfold outF at ho
      rw [gw] at ho
      obtain ⟨tl, htl⟩ : ∃ tl, IntKind.u64.wrap (k2 + (v : Int)) = tl := ⟨_, rfl⟩
      dsimp only at ho
      rw [htl] at ho
      obtain ⟨ga, rfl, t0⟩ : ∃ ga, a = some ⟨ga, 0, none⟩ ∧ w4.cell? ⟨ga, j, none⟩ = some (.int .u64 tl) := by
        rcases HR3.out.form with ⟨_, h⟩ | ⟨ga, cap2, cur2, h, _, hT⟩
        · rw [h] at ho; simp at ho
        · injection h with h1 h2 h3
          have := (hT.kept HK4.out (fun f => f)).cell ho (j := 0) rfl
          rw [show j * uT.k + 0 = j from Nat.mul_one j] at this
          exact ⟨ga, h1, this⟩
      have r0 : w4.cell? ⟨g, j * 2, none⟩ = some (.int .i64 k1) := hLr.cell HX.out (j := 0) rfl
      have r1 : w4.cell? ⟨g, j * 2 + 1, none⟩ = some (.int .u64 k2) := hLr.cell HX.out (j := 1) rfl
      have GW := Lib.hid gw
      have HTL := Lib.hid htl
      have n0 : decide ((v : Int) < 0) = false := by rw [decide_eq_false_iff_not]; omega
      have n1 : decide ((a0.length : Int) ≤ (v : Int)) = false := by rw [decide_eq_false_iff_not]; omega
      have n2 : decide ((a1.length : Int) ≤ (v : Int)) = false := by rw [decide_eq_false_iff_not]; omega
      have n3 : (a0.length : Int) ≤ (v : Int) ↔ False := by constructor <;> (intro h; first | omega | exact h.elim)
      have n4 : (a1.length : Int) ≤ (v : Int) ↔ False := by constructor <;> (intro h; first | omega | exact h.elim)
      clear e0 e1 ho gw htl hk4 GT q0 q1
      go_upto_region 18 with (fail)
      dsimp only [List.append]
      have gw := GW.out
      have htl := HTL.out
      go_still_tail 70, (by kernel_rfl)
      clear gw htl n0 n1 n2 n3 n4 c0 c1 t0
      by_cases hj0 : 0 < j
      · obtain ⟨r, hr⟩ : ∃ r, j = r + 1 := ⟨j - 1, by omega⟩
        have hrl : r < l2.length := by omega
        obtain ⟨⟨p1, p2⟩, hy⟩ : ∃ x, l2[r]? = some x := ⟨l2[r], List.getElem?_eq_getElem hrl⟩
        have z0 : w4.cell? ⟨g, r * 2, none⟩ = some (.int .i64 p1) := hLr.cell hy (j := 0) rfl
        have z1 : w4.cell? ⟨g, r * 2 + 1, none⟩ = some (.int .u64 p2) := hLr.cell hy (j := 1) rfl
        have nd : l2.Nodup := HP.out.symm.nodup_iff.1 (hS3k.out)
        have hlt2 := sorted_lt HSo.out nd (by rw [hr]; exact Nat.lt_succ_self r) hy HX.out
        have LS := Lib.hid fun w => less_any (p1, p2) (k1, k2) w
        rw [hlt2] at LS
        have hjb : l2.length ≤ 60 := by have h1 := HML.out; have h2 := hI.out.1; omega
        have gs : IntKind.i64.wrap ((j : Int) - 1) = (r : Int) := by
          rw [IntKind.wrap_i64]
          omega
        have HR := Lib.hid hr
        clear hy nd hlt2 hLr hr
        iterate 9 still_step
        refine wpStill_nil ?_
        change wpList _ _ _ _ _ w4.drew
        generalize hw5 : w4.drew = w5
        have HK5 : Hid (Kept (fun _ => False) w3 w5) := Lib.hid (by rw [← hw5]; exact HK4.out.drew)
        clear hw5 r0 r1 z0 z1 gs
        go_wp2_with fail
        with_reducible refine Calls.mono (LS.out _) ?_
        rintro e w6 ⟨rfl, hk6⟩
        have HK6 := Lib.hid (HK5.out.trans hk6)
        clear hk6 LS
        go_wp2_with fail
        go_roundg (l2.length - (j + 1))
        case measure => have := hm.out; omega
        case rel => exact ⟨j + 1, Lib.hid rfl, by omega, by go_num, HK6⟩
      · have jz : decide (0 < j) = false := by rw [decide_eq_false_iff_not]; omega
        clear hLr
        rw [jz]
        refine wpStill_offs (g := 60) (want := true) (d0 := 150) ?_ _ _ ?_ ?_ ?_
        · go_simp
        rotate_left
        · simp
        rotate_left
        · simp only [List.forall_mem_cons, List.not_mem_nil, false_implies, implies_true, and_true, true_and]
          simp
        simp only [List.foldl_cons, List.foldl_nil]
        go_simp
        change wpList _ _ _ _ _ w4.drew
        generalize hw5 : w4.drew = w5
        have HK5 : Hid (Kept (fun _ => False) w3 w5) := Lib.hid (by rw [← hw5]; exact HK4.out.drew)
        clear hw5 r0 r1
        go_wp2_with fail
        go_roundg (l2.length - (j + 1))
        case measure => have := hm.out; omega
        case rel => exact ⟨j + 1, Lib.hid rfl, by omega, by go_num, HK5⟩
    · have hj2 : j = l2.length := by omega
      subst hj2
      clear hge hj hm
      go_wp2_with fail
      with_reducible refine Calls.mono (get_nil (0, 0) wr) ?_
      rintro e w4 ⟨rfl, k4⟩
      have K4 := Lib.hid (hk.out.trans k4)
      clear k4
      go_wp2_with fail
      with_reducible refine Calls.mono (each_nil w4) ?_
      rintro e w5 ⟨rfl, k5⟩
      have K5 := Lib.hid (K4.out.trans k5)
      clear k5
      go_wp2_with fail
      with_reducible refine Calls.mono (each_none (some ⟨b, 0, none⟩) w5) ?_
      rintro e w6 ⟨rfl, k6⟩
      have K6 := Lib.hid (K5.out.trans k6)
      clear k6
      go_wp2_with fail
      with_reducible refine Calls.mono (put_nil (0, 0) 1 w6) ?_
      rintro e w7 ⟨rfl, k7⟩
      have K7 := Lib.hid (K6.out.trans k7)
      clear k7
      go_wp2_with fail
      with_reducible refine Calls.mono (del_nil (0, 0) w7) ?_
      rintro e w8 ⟨rfl, k8⟩
      have K8 := Lib.hid (K7.out.trans k8)
      clear k8
      go_wp2_with fail
      with_reducible refine Calls.mono (set_nil (0, 0) 1 w8) ?_
      rintro e w9 ⟨rfl, k9⟩
      have K9 := Lib.hid (K8.out.trans k9)
      clear k9
      go_wp2_with fail
      with_reducible refine Calls.mono (len_nil w9) ?_
      rintro e wa ⟨rfl, rfl⟩
      go_wp2_with fail
      with_reducible refine Calls.mono (most_nil w9) ?_
      rintro e wb ⟨rfl, rfl⟩
      go_wp2_with fail
      with_reducible refine Calls.mono (keys_nil w9) ?_
      rintro e wc ⟨rfl, rfl⟩
      go_wp2_with fail
      with_reducible refine Calls.mono (HC.out w9) ?_
      rintro e wd ⟨rfl, ho⟩
      go_wp2_with fail
      go_ret
      exact ⟨rfl, (HS3.out.1.trans K9.out).trans ho⟩
theorem walk (a0 : List Int) (s0 : Option Addr) (cap0 : Nat) (a1 : List Int) (s1 : Option Addr) (cap1 : Nat) (w : World) (w0 : Uints w s0 cap0 a0) (w1 : Ints w s1 cap1 a1) :
    Calls Try.prog 4 #[.slice s0 a0.length cap0, .slice s1 a1.length cap1] w fun e w' => e = .returned (.bool true) ∧ Old w w' := by
  by_cases h : a0.length ≤ 60 ∧ a1.length ≤ 60
  · exact late a0 s0 cap0 a1 s1 cap1 w w0 w1 h.1 h.2
  · exact early a0 s0 cap0 a1 s1 cap1 w h
set_option maxRecDepth 100000 in
set_option maxHeartbeats 1000000 in
theorem lifted (os : Os) (started : os.Started) (H : Type) (enc : TypeId × Value → H) :
    ReturnsInHanded {} Try.checked os 4 .any (Rows.tableEachSpec.pre6 enc Try.prog Try.f4 Rows.tableEachRow.domain false) (Rows.tableEachSpec.post enc Try.prog Try.f4 false true false false) := by
  refine returnsInHanded_of_change (C := Try.checked) own started (by kernel_rfl) Try.func4
    (ChangeSpec.witness6 (enc := enc) (C := Try.checked) false ⟨#[], #[.slice none 0 0, .slice none 0 0], []⟩ 8 (by kernel_rfl) (by kernel_rfl) (by kernel_rfl) (by kernel_rfl)) ?_
  intro W base args ds gs before hval0 hW hcnd _
  have hval : ∀ (j : Nat) t v, Try.f4.params[j]? = some t → args[j]? = some v → Value.okWide Try.prog W .any base t v := hval0
  have hW' := hW
  obtain ⟨p, q, hA0, hV, rfl, hfz, hnd⟩ := hW
  have hA : DataW.TrodAll enc Try.prog W 0 (fun _ => true) true Try.f4.params.toList args.toList ds p := hA0
  rw [Try.params4] at hA hval
  obtain ⟨v0, vs0, d0, ds0, p0, q0, hargs, rfl, rfl, h0, r0⟩ := trodAll_cons hA
  obtain ⟨v1, vs1, d1, ds1, p1, q1, rfl, rfl, rfl, h1, r1⟩ := trodAll_cons r0
  obtain ⟨rfl, rfl, rfl⟩ := trodAll_nil r1
  obtain rfl : args = #[v0, v1] := by cases args; simp_all
  obtain ⟨rfl, rfl⟩ := trodVars_none hV
  obtain ⟨s0, cap0, a0, rfl, w0⟩ := Opn.uints_of Try.underlying47 Try.underlying24 (by kernel_rfl) (hval 0 47 v0 rfl rfl) h0
  obtain ⟨s1, cap1, a1, rfl, w1⟩ := Opn.ints_of Try.underlying48 Try.underlying3 (by kernel_rfl) (hval 1 48 v1 rfl rfl) h1
  clear hA0 hval0
  refine (walk a0 s0 cap0 a1 s1 cap1 W w0 w1).mono fun e W' ⟨he, hg⟩ => ?_
  subst he
  exact ⟨_, rfl, post_of_old hW' (fun _ _ _ => (trodAll_cons_mk (shut_bool Try.underlying4 _) trodAll_mk0)) (fun sp hsp => (trodAll_cons_mk (Opn.back (by kernel_rfl) (of_decide_eq_true (by kernel_rfl)) h0 hg (fun x hx => hW'.lt x (by simp [hx])) (fun x hx => hsp x (by simp [hx]))) (trodAll_cons_mk (Opn.back (by kernel_rfl) (of_decide_eq_true (by kernel_rfl)) h1 hg (fun x hx => hW'.lt x (by simp [hx])) (fun x hx => hsp x (by simp [hx]))) trodAll_mk0))) (fun _ _ => rfl)
    hg (ok_one (by kernel_rfl) rfl (okWide_bool_mk Try.underlying4 _))⟩
theorem over : Rows.tableEachRow.holds Try.pinned (OpenSpec.ofChange Rows.tableEachSpec) :=
  OpenClaim.holds_of_wide 4 Try.f4 rfl rfl rfl rfl rfl rfl rfl ⟨rfl, rfl, rfl, rfl, rfl⟩ rfl rfl rfl rfl rfl (by kernel_rfl) Try.func4 (by kernel_rfl)
    (of_decide_eq_true (by kernel_rfl)) (by unfold Func.isWrapper; first | (rw [if_pos (by decide +kernel)]; kernel_rfl) | (rw [if_neg (by decide +kernel)]; exact ⟨rfl, rfl⟩))
    (fun os started H enc _ => lifted os started H enc)
theorem proved : Rows.TableEachSaid :=
  over
#print axioms proved
end Go.Proofs.Ytfdcmhcfjbileaa.tableEach
