/- QueueRoom (mizzenlaw12): for every room and every list of sizes the law returns true (no more bytes stand there than there is room for, what was refused is not there, bytes below none and too many are held) and its arguments read as before. Conditions: none. -/
import Derived.Test.YtfoonifkpplflaaRows
import Derived.Test.YtfoonifkpplflaaEnd
import Derived.Test.YtfoonifkpplflaaInts
import Derived.WalkKit
import Derived.ProofKit
import Derived.OpenShut
import Derived.Test.YtfoonifkpplflaaQuSize
import Derived.Test.YtfoonifkpplflaaRnd
set_option linter.unusedVariables false
namespace Go.Proofs.Ytfoonifkpplflaa.queueRoom
open Go.ChangeShapes Go.WideShapes Go.ChangeAt Go.RowKit Go.Proofs.Ytfoonifkpplflaa.Hp Go.Proofs.Ytfoonifkpplflaa.End
open Opn QuM Qu Rw
theorem own : ownKnob Try.prog.godebug = none := by kernel_rfl
attribute [local go_sem ↓] Go.wp_at_zero Go.wp_at_succ
set_option maxRecDepth 100000 in
set_option maxHeartbeats 4000000 in
theorem early (n : Int) (a1 : List Int) (s1 : Option Addr) (cap1 : Nat) (w : World) (h : ¬ (0 ≤ n ∧ n ≤ 1099511627776 ∧ a1.length ≤ 60)) :
    Calls Try.prog 5 #[.int .i64 n, .slice s1 a1.length cap1] w fun e w' => e = .returned (.bool true) ∧ Old w w' := by
  have HC := Lib.hid fun w => awake_any w
  have hc : n < 0 ∨ (decide (n < 0) = false ∧ 1099511627776 < n) ∨ (decide (n < 0) = false ∧ decide (1099511627776 < n) = false ∧ (60 : Int) < (a1.length : Int)) := by
    rw [decide_eq_false_iff_not, decide_eq_false_iff_not]; omega
  clear h
  rcases hc with h1 | ⟨h1, h2⟩ | ⟨h1, h2, h3⟩
  all_goals
    go_enter Try.func5, Try.ntmps5
    go_wp2_with fail
    with_reducible refine Calls.mono (HC.out _) ?_
    rintro e w' ⟨rfl, ho⟩
    go_wp2_with fail
    go_ret
    exact ⟨rfl, ho⟩
set_option maxRecDepth 100000 in
set_option maxHeartbeats 8000000 in
theorem late (room : Int) (a1 : List Int) (s1 : Option Addr) (cap1 : Nat) (w : World) (w1 : Ints w s1 cap1 a1) (g1 : 0 ≤ room) (g2 : room ≤ 1099511627776) (g3 : a1.length ≤ 60) :
    Calls Try.prog 5 #[.int .i64 room, .slice s1 a1.length cap1] w fun e w' => e = .returned (.bool true) ∧ Old w w' := by
  have HC := Lib.hid fun w => awake_any w
  have N := Lib.hid fun w => new_yes g1 g2 w
  have W1 := Lib.hid w1
  have h1 : decide (room < 0) = false := by rw [decide_eq_false_iff_not]; omega
  have h2 : decide (1099511627776 < room) = false := by rw [decide_eq_false_iff_not]; omega
  have h3 : decide ((60 : Int) < (a1.length : Int)) = false := by rw [decide_eq_false_iff_not]; omega
  clear w1
  obtain ⟨zl, hzl⟩ : ∃ zl, a1.length = zl := ⟨_, rfl⟩
  have HZ := Lib.hid hzl
  rw [hzl] at g3 h3 ⊢
  clear hzl
  go_enter Try.func5, Try.ntmps5
  go_wp2_with fail
  with_reducible refine Calls.mono (N.out _) ?_
  rintro e w2 ⟨b, F, rfl, hS, _⟩
  have HS := Lib.hid hS
  clear hS N
  go_wp2_with fail
  clear h1 h2 h3
  go_loopg [7, 8, 9] zl (fun kx s7 s8 s9 wr => ∃ (i : Nat) (ls : Nat → List Bx) (F : Nat → Prop), Hid (zl - i ≤ kx) ∧ i ≤ zl ∧ s9 = .int .i64 (i : Nat) ∧ s7 = .int .i64 (tot ls 8) ∧ s8 = .int .i64 (cnt ls 8 : Nat) ∧ Hid (cnt ls 8 ≤ i) ∧ Hid (St w b room ls F wr))
  case atStart => exact ⟨0, fun _ => [], F, Lib.hid (by omega), by omega, rfl, rfl, rfl, Lib.hid (Nat.le_refl _), HS⟩
  case round =>
    clear HS
    obtain ⟨i, ls, F, hm, hi, rfl, rfl, rfl, hcn, hS⟩ := hrel
    have hc0 := hcn.out
    have ht0 := tot_nonneg ls 8
    have htr := hS.out.2.1.2.2
    rcases Nat.lt_or_ge i zl with hlt | hge
    · obtain ⟨y, hy⟩ : ∃ y, a1[i]? = some y := ⟨_, List.getElem?_eq_getElem (by rw [HZ.out]; exact hlt)⟩
      obtain ⟨g, off, rfl, hg, hc⟩ := W1.out.at hS.out.1 (j := i) (by rw [HZ.out]; exact hlt)
      rw [(List.getElem?_eq_some_iff.1 hy).2] at hc
      clear hy
      have hpr : i % 8 < 8 := Nat.mod_lt _ (by decide)
      have hrem : ((i : Nat) : Int).tmod 8 = ((i % 8 : Nat) : Int) := by exact (Int.ofNat_tmod _ _).symm
      have hsz := szI_in y
      have hln := len_le_cnt (ls := ls) hpr
      have SZ := Lib.hid fun w => size_any y (i : Nat) w
      have hbx := Blk.new wr [.int .i64 y, .int .i64 (i : Nat)] bT.E
      have hka := (Kept.refl (fun _ => False) wr).alloc (.cells #[.int .i64 y, .int .i64 (i : Nat)] bT.E)
      have HS2 := Lib.hid (hS.out.old hka)
      have hxF : ¬ F wr.heap.size := fun e => by have := (hS.out.own _ e).2; omega
      dsimp only [List.toArray] at hbx
      have HBX := Lib.hid hbx
      clear hbx hka hS
      go_upto_region 11 with fail
      generalize wr.alloc (.cells #[.int .i64 y, .int .i64 (i : Nat)] 29) = w3 at *
      generalize wr.heap.size = x at *
      have x0 := HBX.out.cell (o := 0) rfl
      have x1 := HBX.out.cell (o := 1) rfl
      clear hc
      by_cases hfit : tot ls 8 + szI y ≤ room
      · have PU := Lib.hid (push_ok HS2.out (p := i % 8) (K := ((i % 8 : Nat) : Int)) rfl hpr (x := (y, ((i : Nat) : Int))) hfit (by omega))
        have htu : tot (upd ls (i % 8) (ls (i % 8) ++ [(y, ((i : Nat) : Int))])) 8 = tot ls 8 + szI y := by
          rw [tot_upd hpr, sumB_append]
          show tot ls 8 - sumB (ls (i % 8)) + (sumB (ls (i % 8)) + (szI y + 0)) = _
          omega
        have hcu : cnt (upd ls (i % 8) (ls (i % 8) ++ [(y, ((i : Nat) : Int))])) 8 = cnt ls 8 + 1 := by
          have := cnt_upd (ls := ls) (L := ls (i % 8) ++ [(y, ((i : Nat) : Int))]) hpr
          rw [List.length_append, List.length_singleton] at this
          omega
        generalize upd ls (i % 8) (ls (i % 8) ++ [(y, ((i : Nat) : Int))]) = ls' at *
        have HTU := Lib.hid htu
        have HCU := Lib.hid hcu
        clear htu hcu hln
        generalize i % 8 = p at *
        go_wp2_with fail
        with_reducible refine Calls.mono PU.out ?_
        rintro e w4 ⟨rfl, F', hS4, hN4⟩
        have hb4 := hN4.1.blk HBX.out hxF
        have HB4 := Lib.hid hb4
        have HS4 := Lib.hid hS4
        have UX := Lib.hid fun (w' : World) (k : Kept (fun _ => False) w4 w') => used_any (hS4.old k)
        have LX := Lib.hid fun (w' : World) (k : Kept (fun _ => False) w4 w') => len_any (hS4.old k) (by have := HCU.out; omega)
        rw [HTU.out] at UX
        rw [HCU.out] at LX
        clear x0 x1 PU hS4 hN4 HBX HS2
        have x0 := hb4.cell (o := 0) rfl
        have x1 := hb4.cell (o := 1) rfl
        clear hb4
        obtain ⟨T, hT⟩ : ∃ T, tot ls 8 = T := ⟨_, rfl⟩
        obtain ⟨C, hC⟩ : ∃ C, cnt ls 8 = C := ⟨_, rfl⟩
        rw [hT] at ht0 htr hfit UX
        rw [hC] at hc0 LX
        simp only [hT, hC]
        have HTT := Lib.hid hT
        have HCC := Lib.hid hC
        clear hT hC
        generalize hss : szI y = s at *
        have HSS := Lib.hid hss
        clear hss
        have hw1 : IntKind.i64.wrap (T + s) = T + s := by rw [IntKind.wrap_i64]; omega
        have hw2 : IntKind.i64.wrap ((C : Int) + 1) = (C : Int) + 1 := by rw [IntKind.wrap_i64]; omega
        have hcc : ((C + 1 : Nat) : Int) = (C : Int) + 1 := by omega
        rw [hcc] at LX
        go_upto_region 13 with fail
        with_reducible refine Calls.mono (SZ.out _) ?_
        rintro e w5 ⟨rfl, hk5⟩
        have HK5 := Lib.hid hk5
        clear x0 x1 hk5
        have x0 := (HK5.out.blk HB4.out (fun f => f)).cell (o := 0) rfl
        have x1 := (HK5.out.blk HB4.out (fun f => f)).cell (o := 1) rfl
        go_upto_region 16 with fail
        go_wp2_with fail
        with_reducible refine Calls.mono (SZ.out _) ?_
        rintro e w6 ⟨rfl, hk6⟩
        have HK6 := Lib.hid (HK5.out.trans hk6)
        clear x0 x1 hk6
        go_wp2_with fail
        with_reducible refine Calls.mono (UX.out _ HK6.out) ?_
        rintro e w7 ⟨rfl, rfl⟩
        go_wp2_with fail
        with_reducible refine Calls.mono (LX.out _ HK6.out) ?_
        rintro e w7 ⟨rfl, rfl⟩
        clear UX LX SZ HB4
        go_wp2_with fail
        go_roundg (zl - (i + 1))
        case measure => have := hm.out; omega
        case rel => exact ⟨i + 1, ls', F', Lib.hid (Nat.le_refl _), by omega, by go_num, by rw [HTU.out, HTT.out], by rw [HCU.out, HCC.out, hcc], Lib.hid (by rw [HCU.out, HCC.out]; omega), Lib.hid (HS4.out.old HK6.out)⟩
      · have PU := Lib.hid (push_full HS2.out (p := ((i % 8 : Nat) : Int)) (by omega) (x := (y, ((i : Nat) : Int))) (by show room < tot ls 8 + szI y; omega))
        clear hln
        generalize i % 8 = p at *
        go_wp2_with fail
        with_reducible refine Calls.mono PU.out ?_
        rintro e w4 ⟨rfl, hk4⟩
        have hb4 := hk4.blk HBX.out (fun f => f)
        have HB4 := Lib.hid hb4
        have hS4 := HS2.out.old hk4
        have HS4 := Lib.hid hS4
        have UX := Lib.hid fun (w' : World) (k : Kept (fun _ => False) w4 w') => used_any (hS4.old k)
        have LX := Lib.hid fun (w' : World) (k : Kept (fun _ => False) w4 w') => len_any (hS4.old k) (by omega)
        clear x0 x1 PU hS4 hk4 HBX HS2
        have x0 := hb4.cell (o := 0) rfl
        have x1 := hb4.cell (o := 1) rfl
        clear hb4
        obtain ⟨T, hT⟩ : ∃ T, tot ls 8 = T := ⟨_, rfl⟩
        obtain ⟨C, hC⟩ : ∃ C, cnt ls 8 = C := ⟨_, rfl⟩
        rw [hT] at ht0 htr hfit UX
        rw [hC] at hc0 LX
        simp only [hT, hC]
        have HTT := Lib.hid hT
        have HCC := Lib.hid hC
        clear hT hC
        generalize hss : szI y = s at *
        have HSS := Lib.hid hss
        clear hss
        have hw1 : IntKind.i64.wrap (T + s) = T + s := by rw [IntKind.wrap_i64]; omega
        go_upto_region 13 with fail
        with_reducible refine Calls.mono (SZ.out _) ?_
        rintro e w5 ⟨rfl, hk5⟩
        have HK5 := Lib.hid hk5
        clear x0 x1 hk5
        have hfd : decide (T + s ≤ room) = false := decide_eq_false (by omega)
        go_wp2_with fail
        with_reducible refine Calls.mono (UX.out _ HK5.out) ?_
        rintro e w7 ⟨rfl, rfl⟩
        go_wp2_with fail
        with_reducible refine Calls.mono (LX.out _ HK5.out) ?_
        rintro e w7 ⟨rfl, rfl⟩
        clear UX LX SZ HB4
        go_wp2_with fail
        go_roundg (zl - (i + 1))
        case measure => have := hm.out; omega
        case rel => exact ⟨i + 1, ls, F, Lib.hid (Nat.le_refl _), by omega, by go_num, by rw [HTT.out], by rw [HCC.out], Lib.hid (by rw [HCC.out]; omega), Lib.hid (HS4.out.old HK5.out)⟩
    · have hge' : ¬ ((i : Int) < (zl : Int)) := by omega
      have PN := Lib.hid fun w => pop_nil w
      have KN := Lib.hid fun w => peek_nil w
      have RN := Lib.hid fun w => remove_nil 0 0 w
      have P1 := Lib.hid fun w => push_nil (p := 0) (by decide) (0, 0) w
      have P2 := Lib.hid fun w => push_arg none (p := 8) (by decide) (0, 0) w
      have LN := Lib.hid fun w => len_nil w
      have UN := Lib.hid fun w => used_nil w
      have IN := Lib.hid fun w => line_no (q := none) (p := 0) (Or.inl rfl) w
      have HO : Hid (Old w wr) := Lib.hid hS.out.1
      clear hS hcn hc0 ht0 htr
      go_wp2_with fail
      with_reducible refine Calls.mono (PN.out _) ?_
      rintro e w3 ⟨rfl, hk3⟩
      have HO3 : Hid (Old w (w3.alloc (.cells #[.int .i64 0, .int .i64 0] 29))) := Lib.hid ((HO.out.trans hk3).alloc _)
      clear hk3
      go_wp2_with fail
      generalize w3.alloc (.cells #[.int .i64 0, .int .i64 0] 29) = w4 at *
      with_reducible refine Calls.mono (KN.out _) ?_
      rintro e w5 ⟨rfl, hk5⟩
      have HO5 : Hid (Old w (w5.alloc (.cells #[.int .i64 0, .int .i64 0] 29))) := Lib.hid ((HO3.out.trans hk5).alloc _)
      clear hk5
      go_wp2_with fail
      generalize w5.alloc (.cells #[.int .i64 0, .int .i64 0] 29) = w6 at *
      with_reducible refine Calls.mono (RN.out _) ?_
      rintro e w7 ⟨rfl, hk7⟩
      have HO7 : Hid (Old w (w7.alloc (.cells #[.int .i64 0, .int .i64 0] 29))) := Lib.hid ((HO5.out.trans hk7).alloc _)
      clear hk7
      go_wp2_with fail
      generalize w7.alloc (.cells #[.int .i64 0, .int .i64 0] 29) = w8 at *
      with_reducible refine Calls.mono (P1.out _) ?_
      rintro e w9 ⟨rfl, hk9⟩
      have HO9 := Lib.hid (HO7.out.trans hk9)
      clear hk9
      go_wp2_with fail
      with_reducible refine Calls.mono (P2.out _) ?_
      rintro e w10 ⟨rfl, hk10⟩
      have HO10 := Lib.hid (HO9.out.trans hk10)
      clear hk10
      go_wp2_with fail
      with_reducible refine Calls.mono (LN.out _) ?_
      rintro e w11 ⟨rfl, rfl⟩
      go_wp2_with fail
      with_reducible refine Calls.mono (UN.out _) ?_
      rintro e w11 ⟨rfl, rfl⟩
      go_wp2_with fail
      with_reducible refine Calls.mono (IN.out _) ?_
      rintro e w11 ⟨rfl, rfl⟩
      go_wp2_with fail
      with_reducible refine Calls.mono (HC.out _) ?_
      rintro e w12 ⟨rfl, ho⟩
      go_wp2_with fail
      go_ret
      exact ⟨rfl, HO10.out.trans ho⟩
theorem walk (n : Int) (a1 : List Int) (s1 : Option Addr) (cap1 : Nat) (w : World) (w0 : (Lit.int .i64 n).wf = true) (w1 : Ints w s1 cap1 a1) :
    Calls Try.prog 5 #[.int .i64 n, .slice s1 a1.length cap1] w fun e w' => e = .returned (.bool true) ∧ Old w w' := by
  by_cases h : 0 ≤ n ∧ n ≤ 1099511627776 ∧ a1.length ≤ 60
  · exact late n a1 s1 cap1 w w1 h.1 h.2.1 h.2.2
  · exact early n a1 s1 cap1 w h
set_option maxRecDepth 100000 in
set_option maxHeartbeats 1000000 in
theorem lifted (os : Os) (started : os.Started) (H : Type) (enc : TypeId × Value → H) :
    ReturnsInHanded {} Try.checked os 5 .any (Rows.queueRoomSpec.pre6 enc Try.prog Try.f5 Rows.queueRoomRow.domain false) (Rows.queueRoomSpec.post enc Try.prog Try.f5 false true false false) := by
  refine returnsInHanded_of_change (C := Try.checked) own started (by kernel_rfl) Try.func5
    (ChangeSpec.witness6 (enc := enc) (C := Try.checked) false ⟨#[], #[.int .i64 0, .slice none 0 0], []⟩ 8 (by kernel_rfl) (by kernel_rfl) (by kernel_rfl) (by kernel_rfl)) ?_
  intro W base args ds gs before hval0 hW hcnd _
  have hval : ∀ (j : Nat) t v, Try.f5.params[j]? = some t → args[j]? = some v → Value.okWide Try.prog W .any base t v := hval0
  have hW' := hW
  obtain ⟨p, q, hA0, hV, rfl, hfz, hnd⟩ := hW
  have hA : DataW.TrodAll enc Try.prog W 0 (fun _ => true) true Try.f5.params.toList args.toList ds p := hA0
  rw [Try.params5] at hA hval
  obtain ⟨v0, vs0, d0, ds0, p0, q0, hargs, rfl, rfl, h0, r0⟩ := trodAll_cons hA
  obtain ⟨v1, vs1, d1, ds1, p1, q1, rfl, rfl, rfl, h1, r1⟩ := trodAll_cons r0
  obtain ⟨rfl, rfl, rfl⟩ := trodAll_nil r1
  obtain rfl : args = #[v0, v1] := by cases args; simp_all
  obtain ⟨rfl, rfl⟩ := trodVars_none hV
  obtain ⟨a0, rfl, rfl, rfl, w0⟩ := open_int Try.underlying3 (hval 0 3 v0 rfl rfl) h0
  obtain ⟨s1, cap1, a1, rfl, w1⟩ := Opn.ints_of Try.underlying46 Try.underlying3 (by kernel_rfl) (hval 1 46 v1 rfl rfl) h1
  clear hA0 hval0
  refine (walk a0 a1 s1 cap1 W w0 w1).mono fun e W' ⟨he, hg⟩ => ?_
  subst he
  exact ⟨_, rfl, post_of_old hW' (fun _ _ _ => (trodAll_cons_mk (shut_bool Try.underlying4 _) trodAll_mk0)) (fun sp hsp => (trodAll_cons_mk (shut_int Try.underlying3 w0) (trodAll_cons_mk (Opn.back (by kernel_rfl) (of_decide_eq_true (by kernel_rfl)) h1 hg (fun x hx => hW'.lt x (by simp [hx])) (fun x hx => hsp x (by simp [hx]))) trodAll_mk0))) (fun _ _ => rfl)
    hg (ok_one (by kernel_rfl) rfl (okWide_bool_mk Try.underlying4 _))⟩
theorem over : Rows.queueRoomRow.holds Try.pinned (OpenSpec.ofChange Rows.queueRoomSpec) :=
  OpenClaim.holds_of_wide 5 Try.f5 rfl rfl rfl rfl rfl rfl rfl ⟨rfl, rfl, rfl, rfl, rfl⟩ rfl rfl rfl rfl rfl (by kernel_rfl) Try.func5 (by kernel_rfl)
    (of_decide_eq_true (by kernel_rfl)) (by unfold Func.isWrapper; first | (rw [if_pos (by decide +kernel)]; kernel_rfl) | (rw [if_neg (by decide +kernel)]; exact ⟨rfl, rfl⟩))
    (fun os started H enc _ => lifted os started H enc)
theorem proved : Rows.QueueRoomSaid :=
  over
#print axioms proved
end Go.Proofs.Ytfoonifkpplflaa.queueRoom
