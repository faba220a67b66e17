/- SrptAsks (mizzenlaw17): for every list of messages, every k, budget and share the law returns true (who may be asked, in which order, who is the oldest, how much is ahead, what is granted: the same as the document's own) and its arguments read as before. Conditions: none. -/
import Derived.Test.YtbohigfhbjconaaRows
import Derived.Test.YtbohigfhbjconaaEnd
import Derived.Test.YtbohigfhbjconaaInts
import Derived.WalkKit
import Derived.ProofKit
import Derived.OpenShut
import Derived.Test.YtbohigfhbjconaaSrMade
import Derived.Test.YtbohigfhbjconaaSrAk
import Derived.Deep.RegionHeld3
import Derived.StillTailTactics
set_option linter.unusedVariables false
namespace Go.Proofs.Ytbohigfhbjconaa.srptAsks
open Go.ChangeShapes Go.WideShapes Go.ChangeAt Go.RowKit Go.Proofs.Ytbohigfhbjconaa.Hp Go.Proofs.Ytbohigfhbjconaa.End
open Go.RowKit Go.Proofs.Ytbohigfhbjconaa.Hp Go.Proofs.Ytbohigfhbjconaa.End Opn SrM So SoM Sr
theorem own : ownKnob Try.prog.godebug = none := by kernel_rfl
set_option maxRecDepth 100000 in
set_option maxHeartbeats 16000000 in
theorem early (s0 : Option Addr) (n cap0 : Nat) (k b s : Int) (w : World) (h : 60 < n) :
    Calls Try.prog 3 #[.slice s0 n cap0, .int .i64 k, .int .i64 b, .int .i64 s] w fun e w' => e = .returned (.bool true) ∧ Old w w' := by
  have HC := Lib.hid fun w => awake_any w
  have h0 : (60 : Int) < (n : Int) := by omega
  go_enter Try.func3, Try.ntmps3
  go_wp2_with fail
  with_reducible refine Calls.mono (HC.out _) ?_
  rintro e w7 ⟨rfl, ho⟩
  have HO := Lib.hid ho
  clear ho
  go_wp2_with fail
  go_ret
  exact ⟨rfl, HO.out⟩
set_option maxRecDepth 100000 in
set_option maxHeartbeats 16000000 in
theorem late (l : List M) (s0 : Option Addr) (cap0 : Nat) (k b s : Int) (w : World) (hrd : Rd w (.slice s0 l.length cap0) l) (hll : l.length ≤ 60) :
    Calls Try.prog 3 #[.slice s0 l.length cap0, .int .i64 k, .int .i64 b, .int .i64 s] w fun e w' => e = .returned (.bool true) ∧ Old w w' := by
  have HC := Lib.hid fun w => awake_any w
  have HRD := Lib.hid hrd
  have MD := Lib.hid (made_any hrd hll)
  have HLL := Lib.hid hll
  obtain ⟨n, hn⟩ : ∃ n, l.length = n := ⟨_, rfl⟩
  have HN := Lib.hid hn
  rw [hn] at hll MD HRD ⊢
  clear hrd hn
  have d0 : decide ((60 : Int) < (n : Int)) = false := decide_eq_false (by omega)
  go_enter Try.func3, Try.ntmps3
  go_wp2_with fail
  clear d0
  with_reducible refine Calls.mono MD.out ?_
  rintro e w1 ⟨vx, rfl, hx, hk1⟩
  have HX := Lib.hid (Rd.of_row hx)
  obtain ⟨xa, xc, rfl, _, _⟩ := hx.slice
  have HK1 := Lib.hid hk1
  have GA := Lib.hid (grA HX.out HLL.out k b s)
  rw [HN.out] at HX GA ⊢
  clear MD hx hk1
  go_wp2_with fail
  with_reducible refine Calls.mono GA.out ?_
  rintro e w2 ⟨va, er, T, rfl, hT, hra, hk2⟩
  have HT := Lib.hid hT
  have HRA := Lib.hid hra
  have HX2 := Lib.hid (HX.out.old hk2)
  have HK2 := Lib.hid (HK1.out.trans hk2)
  have GB' := Lib.hid (grB (HRD.out.old HK2.out) HLL.out k b s)
  clear GA hT hra hk2 HX HK1
  go_wp2_with fail
  with_reducible refine Calls.mono GB'.out ?_
  rintro e w3 ⟨vb, er2, T2, rfl, hT2, hrb, hk3⟩
  obtain ⟨e1, e2⟩ := HT.out.one hT2
  subst e1
  subst e2
  have HRB := Lib.hid hrb
  have HRA3 := Lib.hid (HRA.out.old hk3)
  have HX3 := Lib.hid (HX2.out.old hk3)
  have HK3 := Lib.hid (HK2.out.trans hk3)
  obtain ⟨aa, ca, rfl, q1, q2⟩ := HRA3.out.slice
  obtain ⟨ab, cb, rfl, q3, q4⟩ := HRB.out.slice
  unfold maxLen at q2 q4
  obtain ⟨t, ht⟩ : ∃ t, T.length = t := ⟨_, rfl⟩
  have HTL := Lib.hid ht
  rw [ht] at HRA3 HRB q1 q3 ⊢
  clear GB' hT2 hrb hk3 HX2 HK2 HRA HT ht
  go_wp2_with fail
  go_loopg [14] t (fun mm s14 wr => ∃ (i : Nat), Hid (t - i ≤ mm) ∧ i ≤ t ∧ s14 = .int .i64 (i : Nat) ∧ Hid (Kept (fun _ => False) w3 wr))
  case atStart => exact ⟨0, Lib.hid (by omega), Nat.zero_le _, rfl, Lib.hid (Kept.refl _ _)⟩
  case round =>
    obtain ⟨i, hmm, hi, rfl, HK⟩ := hrel
    rcases Nat.lt_or_ge i t with hlt | hge
    · have hltz : (i : Int) < (t : Int) := by omega
      obtain ⟨x, hxx⟩ : ∃ x, T[i]? = some x := ⟨_, List.getElem?_eq_getElem (by rw [HTL.out]; exact hlt)⟩
      obtain ⟨ga, oa, rfl, a0, a1, a2, a3⟩ := g4_cells (t := gT) rfl (fun _ => rfl) (HRA3.out.old HK.out) hxx
      obtain ⟨gb, ob, rfl, b0, b1, b2, b3⟩ := g4_cells (t := gR) rfl (fun _ => rfl) (HRB.out.old HK.out) hxx
      obtain ⟨tp, ti, tu, tr⟩ := x
      dsimp only at a0 a1 a2 a3 b0 b1 b2 b3
      clear hxx
      go_wp2_with fail
      go_quiet (fail)
      have HK4 := Lib.hid (HK.out.drewN nq)
      clear a0 a1 a2 a3 b0 b1 b2 b3 HK
      generalize wr.drewN nq = w4 at *
      go_wp2_with fail
      go_roundg (t - (i + 1))
      case measure => have := hmm.out; omega
      case rel => exact ⟨i + 1, Lib.hid (Nat.le_refl _), by omega, by go_num, HK4⟩
    · obtain rfl : i = t := by omega
      have hltz : ¬ (i : Int) < (i : Int) := by omega
      have HK4 := Lib.hid (HK3.out.trans HK.out)
      have HX4 := Lib.hid (HX3.out.old HK.out)
      clear HK HK3 HX3 HRA3 HRB
      obtain ⟨w4, hw4⟩ : ∃ w4 : World, w4 = wr := ⟨_, rfl⟩
      subst hw4
      go_wp2_with fail
      go_loopg [15] n (fun mm s15 wr => ∃ (i : Nat), Hid (n - i ≤ mm) ∧ i ≤ n ∧ s15 = .int .i64 (i : Nat) ∧ Hid (Kept (fun _ => False) w4 wr))
      case atStart => exact ⟨0, Lib.hid (by omega), Nat.zero_le _, rfl, Lib.hid (Kept.refl _ _)⟩
      case round =>
        obtain ⟨i, hmm, hi, rfl, HK⟩ := hrel
        rcases Nat.lt_or_ge i n with hlt | hge
        · have hltz : (i : Int) < (n : Int) := by omega
          obtain ⟨m, hm⟩ : ∃ m, l[i]? = some m := ⟨_, List.getElem?_eq_getElem (by rw [HN.out]; exact hlt)⟩
          obtain ⟨ax, cx, f1, hcx⟩ := HX4.out.old HK.out
          obtain ⟨gx, ox, ex, hgx, x0, x1, x2, x3, x4, x5⟩ := hcx i m hm
          have f2 := (Value.slice.inj f1).1
          rw [ex] at f2
          obtain ⟨al, cl, f3, hcl⟩ := (HRD.out.old HK4.out).old HK.out
          obtain ⟨gl, ol, el, hgl, y0, y1, y2, y3, y4, y5⟩ := hcl i m hm
          have f4 := (Value.slice.inj f3).1
          rw [el] at f4
          clear f1 f3 hcx hcl ex el
          subst f2
          subst f4
          have MA := Lib.hid fun w => may_any m w
          have MR := Lib.hid fun w => mayR_any m w
          obtain ⟨bm, hbm⟩ : ∃ bm, may m = bm := ⟨_, rfl⟩
          rw [hbm] at MA MR
          obtain ⟨mp, mi, mt, mh, mg, mb⟩ := m
          unfold mv at MA MR
          dsimp only at x0 x1 x2 x3 x4 x5 y0 y1 y2 y3 y4 y5 MA MR
          have KS := Lib.hid fun (w' : World) (k : Kept (fun _ => False) wr w') => (show w'.cell? ⟨gx, ox + i * 6, none⟩ = some (.int .i64 mp) ∧ w'.cell? ⟨gx, ox + i * 6 + 1, none⟩ = some (.int .u64 mi) ∧ w'.cell? ⟨gx, ox + i * 6 + 2, none⟩ = some (.int .i64 mt) ∧ w'.cell? ⟨gx, ox + i * 6 + 3, none⟩ = some (.int .i64 mh) ∧ w'.cell? ⟨gx, ox + i * 6 + 4, none⟩ = some (.int .i64 mg) ∧ w'.cell? ⟨gx, ox + i * 6 + 5, none⟩ = some (.int .i64 mb) ∧ w'.cell? ⟨gl, ol + i * 6, none⟩ = some (.int .i64 mp) ∧ w'.cell? ⟨gl, ol + i * 6 + 1, none⟩ = some (.int .u64 mi) ∧ w'.cell? ⟨gl, ol + i * 6 + 2, none⟩ = some (.int .i64 mt) ∧ w'.cell? ⟨gl, ol + i * 6 + 3, none⟩ = some (.int .i64 mh) ∧ w'.cell? ⟨gl, ol + i * 6 + 4, none⟩ = some (.int .i64 mg) ∧ w'.cell? ⟨gl, ol + i * 6 + 5, none⟩ = some (.int .i64 mb) from
            ⟨(keptCell k hgx (fun f => f) _).trans x0, (keptCell k hgx (fun f => f) _).trans x1, (keptCell k hgx (fun f => f) _).trans x2, (keptCell k hgx (fun f => f) _).trans x3, (keptCell k hgx (fun f => f) _).trans x4, (keptCell k hgx (fun f => f) _).trans x5, (keptCell k hgl (fun f => f) _).trans y0, (keptCell k hgl (fun f => f) _).trans y1, (keptCell k hgl (fun f => f) _).trans y2, (keptCell k hgl (fun f => f) _).trans y3, (keptCell k hgl (fun f => f) _).trans y4, (keptCell k hgl (fun f => f) _).trans y5⟩)
          have hG := Lib.hid (Gr.refl wr)
          clear hm hbm x0 x1 x2 x3 x4 x5 y0 y1 y2 y3 y4 y5 hgx hgl
          go_upto_region 16 with fail
          go_region_held3 (fun w' => w'.cell? ⟨gx, ox + i * 6, none⟩ = some (.int .i64 mp) ∧ w'.cell? ⟨gx, ox + i * 6 + 1, none⟩ = some (.int .u64 mi) ∧ w'.cell? ⟨gx, ox + i * 6 + 2, none⟩ = some (.int .i64 mt) ∧ w'.cell? ⟨gx, ox + i * 6 + 3, none⟩ = some (.int .i64 mh) ∧ w'.cell? ⟨gx, ox + i * 6 + 4, none⟩ = some (.int .i64 mg) ∧ w'.cell? ⟨gx, ox + i * 6 + 5, none⟩ = some (.int .i64 mb) ∧ w'.cell? ⟨gl, ol + i * 6, none⟩ = some (.int .i64 mp) ∧ w'.cell? ⟨gl, ol + i * 6 + 1, none⟩ = some (.int .u64 mi) ∧ w'.cell? ⟨gl, ol + i * 6 + 2, none⟩ = some (.int .i64 mt) ∧ w'.cell? ⟨gl, ol + i * 6 + 3, none⟩ = some (.int .i64 mh) ∧ w'.cell? ⟨gl, ol + i * 6 + 4, none⟩ = some (.int .i64 mg) ∧ w'.cell? ⟨gl, ol + i * 6 + 5, none⟩ = some (.int .i64 mb)) ((refine KS.out _ ?_; repeat (first | exact Kept.refl _ _ | (with_reducible refine Kept.drew ?_) | (with_reducible refine Kept.alloc ?_ _))))
            (first | (go_at_call 11; with_reducible refine Calls.mono (MA.out _) ?_; rintro e w' ⟨rfl, rfl⟩) | (go_at_call 12; with_reducible refine Calls.mono (MR.out _) ?_; rintro e w' ⟨rfl, rfl⟩))
          all_goals
            go_wp2_with fail
            go_roundg (n - (i + 1))
            case measure => have := hmm.out; omega
            case rel =>
              refine ⟨i + 1, Lib.hid (Nat.le_refl _), by omega, by go_num, Lib.hid ?_⟩
              refine HK.out.trans ?_
              repeat (first | exact Kept.refl _ _ | (with_reducible refine Kept.drew ?_) | (with_reducible refine Kept.alloc ?_ _))
        · obtain rfl : i = n := by omega
          have hltz : ¬ (i : Int) < (i : Int) := by omega
          have HK5 := Lib.hid (HK4.out.trans HK.out)
          have HX5 := Lib.hid (HX4.out.old HK.out)
          have OX := Lib.hid (order_any HX5.out HLL.out)
          clear HK HK4 HX4
          go_wp2_with fail
          with_reducible refine Calls.mono OX.out ?_
          rintro e w6 ⟨v6, o, rfl, hr6, ho6, hk6⟩
          have HR6 := Lib.hid (Ro.of_rw hr6)
          have HO6 := Lib.hid ho6
          have HK6 := Lib.hid (HK5.out.trans hk6)
          have HX6 := Lib.hid (HX5.out.old hk6)
          have OL := Lib.hid (orderR_any (HRD.out.old HK6.out) HLL.out)
          clear OX hr6 ho6 hk6 HK5 HX5
          go_wp2_with fail
          with_reducible refine Calls.mono OL.out ?_
          rintro e w7 ⟨v7, o2, rfl, hr7, ho7, _, hk7⟩
          obtain rfl := HO6.out.one ho7
          have HR6' := Lib.hid (HR6.out.old hk7)
          have HX7 := Lib.hid (HX6.out.old hk7)
          have HK7 := Lib.hid (HK6.out.trans hk7)
          have AL := Lib.hid (Sx.alike_any HR6'.out hr7 (by have := HO6.out.len.2; have := HLL.out; omega))
          clear OL hr7 ho7 hk7 HX6 HK6 HR6
          go_wp2_with fail
          with_reducible refine Calls.mono AL.out ?_
          rintro e w8 ⟨rfl, hk8⟩
          have HX8 := Lib.hid (HX7.out.old hk8)
          have HK8 := Lib.hid (HK7.out.trans hk8)
          have OA := Lib.hid (oldest_any HX8.out HLL.out)
          clear AL hk8 HX7 HK7
          go_wp2_with fail
          with_reducible refine Calls.mono OA.out ?_
          rintro e w9 ⟨od, rfl, hod, hk9⟩
          have HOD := Lib.hid hod
          have HX9 := Lib.hid (HX8.out.old hk9)
          have HK9 := Lib.hid (HK8.out.trans hk9)
          have OB := Lib.hid (oldestR_any (HRD.out.old HK9.out) HLL.out)
          clear OA hod hk9 HX8 HK8
          go_wp2_with fail
          with_reducible refine Calls.mono OB.out ?_
          rintro e w10 ⟨od2, rfl, hod2, hk10⟩
          obtain rfl := HOD.out.one hod2
          have HX10 := Lib.hid (HX9.out.old hk10)
          have HK10 := Lib.hid (HK9.out.trans hk10)
          have AA := Lib.hid (aheadL_any HX10.out HLL.out)
          obtain ⟨A, hA⟩ : ∃ A, ahd l (opn l l.length) = A := ⟨_, rfl⟩
          rw [hA] at AA
          have HA := Lib.hid hA
          clear OB hod2 hk10 HX9 HK9 hA
          go_wp2_with fail
          with_reducible refine Calls.mono AA.out ?_
          rintro e w11 ⟨rfl, hk11⟩
          have HK11 := Lib.hid (HK10.out.trans hk11)
          have AB := Lib.hid (aheadR_any (HRD.out.old HK11.out) HLL.out)
          rw [HA.out] at AB
          clear AA hk11 HX10 HK10
          go_wp2_with fail
          with_reducible refine Calls.mono AB.out ?_
          rintro e w12 ⟨rfl, hk12⟩
          have HK12 := Lib.hid (HK11.out.trans hk12)
          clear AB hk12 HK11
          go_wp2_with fail
          with_reducible refine Calls.mono (HC.out _) ?_
          rintro e w13 ⟨rfl, hk13⟩
          have HO := Lib.hid (HK12.out.trans hk13)
          clear hk13
          go_wp2_with fail
          go_ret
          exact ⟨rfl, HO.out⟩
theorem walk (a0 : List (List Value)) (s0 : Option Addr) (cap0 : Nat) (k b s : Int) (w : World) (w0 : Mixed w s0 cap0 QM a0) (w1 : (Lit.int .i64 k).wf = true) (w2 : (Lit.int .i64 b).wf = true) (w3 : (Lit.int .i64 s).wf = true) :
    Calls Try.prog 3 #[.slice s0 a0.length cap0, .int .i64 k, .int .i64 b, .int .i64 s] w fun e w' => e = .returned (.bool true) ∧ Old w w' := by
  by_cases h : 60 < a0.length
  · exact early s0 a0.length cap0 k b s w h
  · have hr := rd_mixed w0
    have hl : (a0.map toM).length = a0.length := List.length_map _
    have := late (a0.map toM) s0 cap0 k b s w hr (by omega)
    rw [hl] at this
    exact this
set_option maxRecDepth 100000 in
set_option maxHeartbeats 1000000 in
theorem lifted (os : Os) (started : os.Started) (H : Type) (enc : TypeId × Value → H) :
    ReturnsInHanded {} Try.checked os 3 .any (Rows.srptAsksSpec.pre6 enc Try.prog Try.f3 Rows.srptAsksRow.domain false) (Rows.srptAsksSpec.post enc Try.prog Try.f3 false true false false) := by
  refine returnsInHanded_of_change (C := Try.checked) own started (by kernel_rfl) Try.func3
    (ChangeSpec.witness6 (enc := enc) (C := Try.checked) false ⟨#[], #[.slice none 0 0, .int .i64 0, .int .i64 0, .int .i64 0], []⟩ 8 (by kernel_rfl) (by kernel_rfl) (by kernel_rfl) (by kernel_rfl)) ?_
  intro W base args ds gs before hval0 hW hcnd _
  have hval : ∀ (j : Nat) t v, Try.f3.params[j]? = some t → args[j]? = some v → Value.okWide Try.prog W .any base t v := hval0
  have hW' := hW
  obtain ⟨p, q, hA0, hV, rfl, hfz, hnd⟩ := hW
  have hA : DataW.TrodAll enc Try.prog W 0 (fun _ => true) true Try.f3.params.toList args.toList ds p := hA0
  rw [Try.params3] at hA hval
  obtain ⟨v0, vs0, d0, ds0, p0, q0, hargs, rfl, rfl, h0, r0⟩ := trodAll_cons hA
  obtain ⟨v1, vs1, d1, ds1, p1, q1, rfl, rfl, rfl, h1, r1⟩ := trodAll_cons r0
  obtain ⟨v2, vs2, d2, ds2, p2, q2, rfl, rfl, rfl, h2, r2⟩ := trodAll_cons r1
  obtain ⟨v3, vs3, d3, ds3, p3, q3, rfl, rfl, rfl, h3, r3⟩ := trodAll_cons r2
  obtain ⟨rfl, rfl, rfl⟩ := trodAll_nil r3
  obtain rfl : args = #[v0, v1, v2, v3] := by cases args; simp_all
  obtain ⟨rfl, rfl⟩ := trodVars_none hV
  obtain ⟨s0, cap0, a0, rfl, w0⟩ := Opn.mixed_of [some .i64, some .u64, some .i64, some .i64, some .i64, some .i64] Try.underlying22 Try.underlying41 (by kernel_rfl) (by kernel_rfl) rfl (by decide) (by intro j f hf; rcases j with _ | _ | _ | _ | _ | _ | j; (simp at hf; subst hf; exact ⟨some .i64, rfl, Try.underlying3⟩); (simp at hf; subst hf; exact ⟨some .u64, rfl, Try.underlying33⟩); (simp at hf; subst hf; exact ⟨some .i64, rfl, Try.underlying3⟩); (simp at hf; subst hf; exact ⟨some .i64, rfl, Try.underlying3⟩); (simp at hf; subst hf; exact ⟨some .i64, rfl, Try.underlying3⟩); (simp at hf; subst hf; exact ⟨some .i64, rfl, Try.underlying3⟩); (simp at hf)) (hval 0 22 v0 rfl rfl) h0
  obtain ⟨a1, rfl, rfl, rfl, w1⟩ := open_int Try.underlying3 (hval 1 3 v1 rfl rfl) h1
  obtain ⟨a2, rfl, rfl, rfl, w2⟩ := open_int Try.underlying3 (hval 2 3 v2 rfl rfl) h2
  obtain ⟨a3, rfl, rfl, rfl, w3⟩ := open_int Try.underlying3 (hval 3 3 v3 rfl rfl) h3
  clear hA0 hval0
  refine (walk a0 s0 cap0 a1 a2 a3 W w0 w1 w2 w3).mono fun e W' ⟨he, hg⟩ => ?_
  subst he
  exact ⟨_, rfl, post_of_old hW' (fun _ _ _ => (trodAll_cons_mk (shut_bool Try.underlying4 _) trodAll_mk0)) (fun sp hsp => (trodAll_cons_mk (Opn.back (by kernel_rfl) (of_decide_eq_true (by kernel_rfl)) h0 hg (fun x hx => hW'.lt x (by simp [hx])) (fun x hx => hsp x (by simp [hx]))) (trodAll_cons_mk (shut_int Try.underlying3 w1) (trodAll_cons_mk (shut_int Try.underlying3 w2) (trodAll_cons_mk (shut_int Try.underlying3 w3) trodAll_mk0))))) (fun _ _ => rfl)
    hg (ok_one (by kernel_rfl) rfl (okWide_bool_mk Try.underlying4 _))⟩
theorem over : Rows.srptAsksRow.holds Try.pinned (OpenSpec.ofChange Rows.srptAsksSpec) :=
  OpenClaim.holds_of_wide 3 Try.f3 rfl rfl rfl rfl rfl rfl rfl ⟨rfl, rfl, rfl, rfl, rfl⟩ rfl rfl rfl rfl rfl (by kernel_rfl) Try.func3 (by kernel_rfl)
    (of_decide_eq_true (by kernel_rfl)) (by unfold Func.isWrapper; first | (rw [if_pos (by decide +kernel)]; kernel_rfl) | (rw [if_neg (by decide +kernel)]; exact ⟨rfl, rfl⟩))
    (fun os started H enc _ => lifted os started H enc)
theorem proved : Rows.SrptAsksSaid :=
  over
#print axioms proved
end Go.Proofs.Ytbohigfhbjconaa.srptAsks
