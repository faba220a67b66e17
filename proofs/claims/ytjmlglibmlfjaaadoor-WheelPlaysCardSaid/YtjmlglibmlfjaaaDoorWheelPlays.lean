/- WheelPlays (mizzenlaw2): for every int and slice of steps (structs of four ints) the law returns true and its arguments read as before. Conditions: the table of math/bits holds what its text lays (tied to the program's text). -/
import Derived.Test.YtjmlglibmlfjaaaDoorRows
import Derived.Test.YtjmlglibmlfjaaaDoorCards
import Derived.Test.YtjmlglibmlfjaaaDoorTie
import Derived.Test.YtjmlglibmlfjaaaDoorTab
import Derived.Test.YtjmlglibmlfjaaaDoorEnd
import Derived.Test.YtjmlglibmlfjaaaDoorInts
import Derived.WalkKit
import Derived.ProofKit
import Derived.OpenShut
import Derived.LaidMore
import Derived.Stop.Joined
import Derived.SevenTiedAt
import Derived.Test.YtjmlglibmlfjaaaDoorDuo
import Derived.Test.YtjmlglibmlfjaaaDoorInts
import Derived.Deep.LoopGhost
import Derived.Deep.RegionHeld3
import Derived.Deep.DrawnRows
import Derived.Deep.DeepCutAuto
import Derived.Deep.CutBlock
import Derived.WalkLawsBesides
set_option linter.unusedVariables false
namespace Go.Proofs.YtjmlglibmlfjaaaDoor.wheelPlays
open Go.ChangeShapes Go.WideShapes Go.ChangeAt Go.RowKit Go.Proofs.YtjmlglibmlfjaaaDoor.Hp Go.Proofs.YtjmlglibmlfjaaaDoor.End Go.Proofs.YtjmlglibmlfjaaaDoor.TabL
open Go.Proofs.YtjmlglibmlfjaaaDoor.Awake Wk Rf Duo
theorem own : ownKnob Tryd.prog.godebug = none := by kernel_rfl
theorem door_met (os : Os) (args : Array Value) : laidMetH Tryd.prog [("math/bits.deBruijn32tab", Rows.laid_math_bits_deBruijn32tab)] ((World.doorLaid Tryd.prog 400 os).forCall (fun _ _ => 0) ⟨#[], args, []⟩).memory :=
  laidMetH_of_parts3 (fuel := 8) (laidMet_of_run' 8 (by kernel_rfl) (by kernel_rfl)) (by kernel_rfl) (by kernel_rfl)
attribute [local go_sem ↓] Go.wp_at_zero Go.wp_at_succ
/-- Both wheels alike, ahead of a step. -/
structure Pair (W : World) (b c most now last : Nat) (K : List Key) (F : Nat → Prop) (v : Value) (w : World) : Prop where
  wl : Wl w b most now last K F
  rw : RW w W.heap.size c most now last K v
  dc : ¬ F c
  dv : ∀ g, v.ownBlock = some g → ¬ F g
  fb : ∀ k, F k → W.heap.size ≤ k
  cb : W.heap.size ≤ c
  tab : Wh.Tab w
  old : Old W w
theorem Pair.duo {W : World} {b c most now last : Nat} {K : List Key} {F : Nat → Prop} {v : Value} {w : World} (h : Pair W b c most now last K F v w) (t0 : (0) < W.heap.size) (kd at_ z n : Int) :
    Duo.Duo W b c w.heap.size most kd at_ z n now last K F now last K v (w.alloc (.cells #[.int .i64 kd, .int .i64 at_, .int .i64 z, .int .i64 n] 33)) := by
  have k : Kept (fun _ => False) w (w.alloc (.cells #[.int .i64 kd, .int .i64 at_, .int .i64 z, .int .i64 n] 33)) := (Kept.refl _ w).alloc _
  have hc := h.rw.hb.lt
  exact ⟨h.wl.kept k (fun _ _ h => h), ⟨k.blk h.rw.hb (fun h => h), h.rw.row.kept k (fun _ _ h => h), h.rw.own⟩, h.dc, h.dv, h.fb, h.cb, h.tab.kept k (fun h => h),
    Blk.new w [.int .i64 kd, .int .i64 at_, .int .i64 z, .int .i64 n] 33, fun e => by have := h.wl.lt _ e; omega, by omega, fun e => by have := (h.rw.row.lt _ e).2; omega, h.old.trans k, t0⟩
theorem pair_of {W : World} {b c x most : Nat} {kd at_ z n : Int} {now last : Nat} {K : List Key} {F : Nat → Prop} {v : Value} {w : World} (h : Duo.Duo W b c x most kd at_ z n now last K F now last K v w) : Pair W b c most now last K F v w :=
  ⟨h.wl, h.rw, h.dc, h.dv, h.fb, h.cb, h.tab, h.old⟩
set_option maxRecDepth 100000 in
set_option maxHeartbeats 1000000 in
theorem early1 (most : Int) (zs : List (List Int)) (s : Option Addr) (cap : Nat) (w : World) (hT : Wh.Tab w) (h : 100 < zs.length) :
    Calls Tryd.prog 3 #[.int .i64 most, .slice s zs.length cap] w fun e w' => e = .returned (.bool true) ∧ Old w w' := by
  have HC := Lib.hid (awake_any w hT)
  go_enter Tryd.func3, Tryd.ntmps3
  go_wp2_with (go_at_call 4; refine HC.out.mono ?_; rintro e w' ⟨rfl, ho⟩)
  go_ret
  exact ⟨rfl, ho⟩
set_option maxRecDepth 100000 in
set_option maxHeartbeats 1000000 in
theorem early2 (most : Int) (zs : List (List Int)) (s : Option Addr) (cap : Nat) (w : World) (hT : Wh.Tab w) (h : ¬ 100 < zs.length) (hm : most < 1 ∨ (¬ most < 1 ∧ 100000 < most)) :
    Calls Tryd.prog 3 #[.int .i64 most, .slice s zs.length cap] w fun e w' => e = .returned (.bool true) ∧ Old w w' := by
  have HC := Lib.hid (awake_any w hT)
  have NP := Lib.hid (Wheel.new_no most (by omega) w)
  have hd : most < 1 ∨ (¬ most < 1 ∧ decide (most ≤ 100000) = false) := by
    rcases hm with hv | ⟨hv0, hv⟩
    · exact Or.inl hv
    · exact Or.inr ⟨hv0, decide_eq_false (by omega)⟩
  clear hm
  rcases hd with hv | ⟨hv0, hv⟩
  all_goals
    go_enter Tryd.func3, Tryd.ntmps3
    go_wp2_with (first | (go_at_call 4; refine HC.out.mono ?_; rintro e w' ⟨rfl, ho⟩) | (go_at_call 5; refine NP.out.mono ?_; rintro e w' ⟨rfl, rfl⟩))
    go_ret
    exact ⟨rfl, ho⟩
set_option maxRecDepth 100000 in
set_option maxHeartbeats 16000000 in
theorem late (most : Nat) (zs : List (List Int)) (s : Option Addr) (cap : Nat) (w : World) (hT : Wh.Tab w) (h : ¬ 100 < zs.length) (m0 : 1 ≤ most) (m1 : most ≤ 100000) (hZ : Opn.Structs w s cap 4 zs) :
    Calls Tryd.prog 3 #[.int .i64 most, .slice s zs.length cap] w fun e w' => e = .returned (.bool true) ∧ Old w w' := by
  have HZ := Lib.hid hZ
  clear hZ
  have t0 : Hid ((0) < w.heap.size) := World.block_lt_of_cell? w _ (hT 0 (by decide))
  have NW := Lib.hid (Wk.new_yes most m0 m1 w hT)
  go_enter Tryd.func3, Tryd.ntmps3
  go_wp2_with (go_at_call 5; refine NW.out.mono ?_; rintro e w1 ⟨b, F1, rfl, hw1, hk1, hF1⟩)
  have hP : Pair w b w1.heap.size most 0 0 [] F1 (.slice none 0 0) (w1.alloc (.cells #[.int .i64 most, .int .i64 0, .int .i64 0, .slice none 0 0] 31)) := by
    have k : Kept (fun _ => False) w1 (w1.alloc (.cells #[.int .i64 most, .int .i64 0, .int .i64 0, .slice none 0 0] 31)) := (Kept.refl _ w1).alloc _
    exact ⟨hw1.kept k (fun _ _ h => h), ⟨Blk.new w1 [.int .i64 most, .int .i64 0, .int .i64 0, .slice none 0 0] 31, ⟨rfl, Or.inl ⟨rfl, rfl⟩⟩, by simp [Value.ownBlock]⟩, fun e => by have := hw1.lt _ e; omega, fun g hg => by simp [Value.ownBlock] at hg, hF1, hk1.size, (hT.kept hk1 (fun h => h)).kept k (fun h => h), hk1.trans k⟩
  have HP := Lib.hid hP
  clear hP hw1 hF1 NW hT
  go_wp2_with fail
  generalize (w1.alloc (.cells #[.int .i64 most, .int .i64 0, .int .i64 0, .slice none 0 0] 31)) = w2 at *
  generalize w1.heap.size = c at *
  go_loopg [9] zs.length (fun k s9 wr => ∃ (i now last : Nat) (K : List Key) (F : Nat → Prop) (v : Value), Hid (k = zs.length - i) ∧ i ≤ zs.length ∧ s9 = .int .i64 ((i : Nat) : Int) ∧
    Hid (Pair w b c most now last K F v wr) ∧ Hid (Fine most now last K) ∧ Hid (last ≤ i))
  case atStart => exact ⟨0, 0, 0, [], F1, _, rfl, by omega, rfl, HP, ⟨List.Pairwise.nil, by simp, m0, m1, by omega⟩, by unfold Hid; omega⟩
  case round =>
    obtain ⟨i, now, last, K, F, v, hk, hi, rfl, HP, HF, HL⟩ := hrel
    by_cases hlt : i < zs.length
    · obtain ⟨g, off, rfl, hg, c0⟩ := HZ.out.cell HP.out.old hlt (show 0 < 4 by decide)
      obtain ⟨_, _, eg, _, c1⟩ := HZ.out.cell HP.out.old hlt (show 1 < 4 by decide)
      cases eg
      obtain ⟨_, _, eg, _, c2⟩ := HZ.out.cell HP.out.old hlt (show 2 < 4 by decide)
      cases eg
      obtain ⟨_, _, eg, _, c3⟩ := HZ.out.cell HP.out.old hlt (show 3 < 4 by decide)
      cases eg
      have b0 := HZ.out.wf hlt (show 0 < 4 by decide)
      have b1 := HZ.out.wf hlt (show 1 < 4 by decide)
      have b2 := HZ.out.wf hlt (show 2 < 4 by decide)
      have b3 := HZ.out.wf hlt (show 3 < 4 by decide)
      generalize (zs.getD i []).getD 0 0 = kd at *
      generalize (zs.getD i []).getD 1 0 = t at *
      generalize (zs.getD i []).getD 2 0 = z at *
      generalize (zs.getD i []).getD 3 0 = n at *
      rw [Nat.add_zero] at c0
      go_upto_block 2 with (fail)
      have HD := Lib.hid (HP.out.duo t0.out kd t z n)
      clear c0 c1 c2 c3 HP
      generalize wr.alloc (.cells #[.int .i64 kd, .int .i64 t, .int .i64 z, .int .i64 n] 33) = w3 at *
      generalize wr.heap.size = x at *
      go_cut [] (fun wx => ∃ (now2 last2 : Nat) (K2 : List Key) (F2 : Nat → Prop) (v2 : Value), Hid (Duo.Duo w b c x most kd t z n now2 last2 K2 F2 now2 last2 K2 v2 wx) ∧ Hid (Fine most now2 last2 K2) ∧ Hid (last2 ≤ i + 1))
      case first =>
        have HLL := HL.out
        have HFF := HF.out
        have hlen := HFF.len
        have hnow := HFF.n1
        have hlas : last ≤ 1000000000 := by omega
        have hKL : K.length ≤ 100000 := by omega
        have x0 := HD.out.cx.cell (o := 0) rfl
        by_cases k1 : kd = 1
        · subst k1
          by_cases hbad : t < 0 ∨ (¬ t < 0 ∧ 1125899906842624 < t)
          · have AP := Lib.hid (fun w => Wheel.add_arg (some ⟨b, 0, none⟩) t z (by omega) w)
            have AR := Lib.hid (fun w => Rf.add_arg (w := w) c t z hbad)
            have x1 := HD.out.cx.cell (o := 1) rfl
            have x2 := HD.out.cx.cell (o := 2) rfl
            clear hbad
            go_wp2_with (first | (go_at_call 6; refine (AP.out _).mono ?_; rintro e w' ⟨rfl, rfl⟩) | (go_at_call 7; refine (AR.out _).mono ?_; rintro e w' ⟨rfl, rfl⟩))
            go_meet
            exact ⟨now, last, K, F, v, HD, HF, by unfold Hid; omega⟩
          · obtain ⟨a, rfl⟩ : ∃ a : Nat, t = (a : Int) := ⟨t.toNat, by omega⟩
            have ha : a ≤ 1125899906842624 := by omega
            clear hbad
            by_cases hroom : K.length < most
            · have AP := Lib.hid (addP_yes HD.out a ha hroom hlas)
              have AR := Lib.hid (fun (w' : World) (F2 : Nat → Prop) (h : Duo.Duo w b c x most 1 a z n now (last + 1) (ins (max a now, last + 1, z) K) F2 now last K v w') => addR_yes h a ha hroom m1 hlas hnow HFF.srt)
              have HF2 : Hid (Fine most now (last + 1) (ins (max a now, last + 1, z) K)) := ⟨ins_sorted HFF.srt, by rw [ins_len]; omega, m0, m1, hnow⟩
              have x1 := HD.out.cx.cell (o := 1) rfl
              have x2 := HD.out.cx.cell (o := 2) rfl
              clear HFF
              go_wp2_with fail
              refine AP.out.mono ?_
              rintro e w4 ⟨rfl, F2, h4⟩
              clear x0 x1 x2
              have x1 := h4.cx.cell (o := 1) rfl
              have x2 := h4.cx.cell (o := 2) rfl
              go_wp2_with fail
              refine (AR.out w4 F2 h4).mono ?_
              rintro e w5 ⟨rfl, v5, h5⟩
              clear x1 x2 h4
              go_wp2_with fail
              go_meet
              exact ⟨now, last + 1, _, F2, v5, h5, HF2, by unfold Hid; omega⟩
            · have AP := Lib.hid (addP_full HD.out a ha (by omega))
              have AR := Lib.hid (fun (w' : World) (h : Duo.Duo w b c x most 1 a z n now last K F now last K v w') => addR_full h a ha (by omega) hKL)
              have x1 := HD.out.cx.cell (o := 1) rfl
              have x2 := HD.out.cx.cell (o := 2) rfl
              clear HFF
              go_wp2_with fail
              refine AP.out.mono ?_
              rintro e w4 ⟨rfl, h4⟩
              clear x0 x1 x2
              have x1 := h4.cx.cell (o := 1) rfl
              have x2 := h4.cx.cell (o := 2) rfl
              go_wp2_with fail
              refine (AR.out w4 h4).mono ?_
              rintro e w5 ⟨rfl, h5⟩
              clear x1 x2 h4
              go_wp2_with fail
              go_meet
              exact ⟨now, last, K, F, v, h5, HF, by unfold Hid; omega⟩
        · by_cases k2 : kd = 2
          · subst k2
            have h2 := HD.out
            have x3 := h2.cx.cell (o := 3) rfl
            by_cases hid : ∃ k ∈ K, (k.2.1 : Int) = n
            · obtain ⟨k, hk1, hk2⟩ := hid
              obtain ⟨id, rfl⟩ : ∃ id : Nat, n = (id : Int) := ⟨k.2.1, hk2.symm⟩
              have hid : ∃ k ∈ K, k.2.1 = id := ⟨k, hk1, by omega⟩
              have hnd := h2.wl.ids.2
              have GP := Lib.hid (fun (w' : World) (h : Duo.Duo w b c x most 2 t z id now last K F now last K v w') => canP_yes h id hid)
              have GR := Lib.hid (fun (w' : World) (F2 : Nat → Prop) (h : Duo.Duo w b c x most 2 t z id now last (without id K) F2 now last K v w') => canR_yes h id hKL hnd hid)
              have HF2 : Hid (Fine most now last (without id K)) := ⟨HFF.srt.filter _, Nat.le_trans (List.length_filter_le _ _) HFF.len, m0, m1, hnow⟩
              clear hid hk1 hk2 hnd HFF x0
              go_wp2_with fail
              go_region_held3 (fun w' => w'.cell? ⟨x, 3, none⟩ = some (.int .i64 id)) (first | assumption | exact Blk.cell (o := 3) (Duo.Duo.cx (by assumption)) rfl | exact Blk.cell (o := 3) (Duo.Duo.cx (Duo.Duo.drew (by assumption))) rfl)
                (first | (go_at_call 8; refine Calls.mono (GP.out _ (by first | assumption | exact Duo.Duo.drew (by assumption))) ?_; rintro e w' ⟨rfl, F2, h2⟩) | (go_at_call 9; refine Calls.mono (GR.out _ _ (by first | assumption | exact Duo.Duo.drew (by assumption))) ?_; rintro e w' ⟨rfl, v2, h2⟩))
              go_wp2_with fail
              go_meet
              exact ⟨now, last, _, F2, v2, h2, HF2, by unfold Hid; omega⟩
            · have hno : ∀ k ∈ K, (k.2.1 : Int) ≠ n := fun k hk e => hid ⟨k, hk, e⟩
              have GP := Lib.hid (fun (w' : World) (h : Duo.Duo w b c x most 2 t z n now last K F now last K v w') => canP_no h n hno)
              have GR := Lib.hid (fun (w' : World) (h : Duo.Duo w b c x most 2 t z n now last K F now last K v w') => canR_no h n hKL hno)
              clear hid hno HFF x0
              go_wp2_with fail
              go_region_held3 (fun w' => w'.cell? ⟨x, 3, none⟩ = some (.int .i64 n)) (first | assumption | exact Blk.cell (o := 3) (Duo.Duo.cx (by assumption)) rfl | exact Blk.cell (o := 3) (Duo.Duo.cx (Duo.Duo.drew (by assumption))) rfl)
                (first | (go_at_call 8; refine Calls.mono (GP.out _ (by first | assumption | exact Duo.Duo.drew (by assumption))) ?_; rintro e w' ⟨rfl, h2⟩) | (go_at_call 9; refine Calls.mono (GR.out _ (by first | assumption | exact Duo.Duo.drew (by assumption))) ?_; rintro e w' ⟨rfl, h2⟩))
              go_wp2_with fail
              go_meet
              exact ⟨now, last, K, F, v, h2, HF, by unfold Hid; omega⟩
          · by_cases k3 : kd = 3
            · subst k3
              have h2 := HD.out
              have x1 := h2.cx.cell (o := 1) rfl
              obtain ⟨n2, hn2⟩ : ∃ n2 : Nat, (n2 : Int) = max (now : Int) (min t 1125899906842624) := ⟨(max (now : Int) (min t 1125899906842624)).toNat, by omega⟩
              obtain ⟨N, hN⟩ : ∃ N, N = (upTo n2 K).length := ⟨_, rfl⟩
              have hQ : (upTo n2 K).length ≤ 100000 := Nat.le_trans (List.length_filter_le _ _) hKL
              have GP := Lib.hid (fun (w' : World) (h : Duo.Duo w b c x most 3 t z n now last K F now last K v w') => advP' h hKL n2 hn2 N hN)
              have GR := Lib.hid (fun (w' : World) (F2 : Nat → Prop) (va : Value) (h : Duo.Duo w b c x most 3 t z n n2 last (past n2 K) F2 now last K v w') (r : Row w' (c + 1) va (upTo n2 K)) => advR' h hKL hnow HFF.srt n2 hn2 N hN r)
              have GS := Lib.hid (fun (w' : World) (F2 : Nat → Prop) (v2 : Value) (s1 s2 : Option Addr) (cap1 cap2 : Nat) (h : Duo.Duo w b c x most 3 t z n n2 last (past n2 K) F2 n2 last (past n2 K) v2 w') (r1 : Row w' (c + 1) (.slice s1 (upTo n2 K).length cap1) (upTo n2 K)) (r2 : RRow w' 0 (.slice s2 (upTo n2 K).length cap2) (upTo n2 K)) => sameD' h N hN s1 s2 cap1 cap2 hQ r1 r2)
              have HF2 : Hid (Fine most n2 last (past n2 K)) := ⟨HFF.srt.filter _, Nat.le_trans (List.length_filter_le _ _) HFF.len, m0, m1, by omega⟩
              clear hN hn2 hQ HFF x0
              go_wp2_with fail
              go_region_held3 (fun w' => w'.cell? ⟨x, 1, none⟩ = some (.int .i64 t)) (first | assumption | exact Blk.cell (o := 1) (Duo.Duo.cx (by assumption)) rfl | exact Blk.cell (o := 1) (Duo.Duo.cx (Duo.Duo.drew (by assumption))) rfl)
                (first | (go_at_call 11; refine Calls.mono (GP.out _ (by first | assumption | exact Duo.Duo.drew (by assumption))) ?_; rintro e w' ⟨F2, s1, cap1, rfl, r1, h2⟩) | (go_at_call 12; refine Calls.mono (GR.out _ _ _ (by first | assumption | exact Duo.Duo.drew (by assumption)) (by first | assumption)) ?_; rintro e w' ⟨v2, s2, cap2, rfl, r2, r1, h2⟩) | (go_at_call 10; refine Calls.mono (GS.out _ _ _ _ _ _ _ (by first | assumption | exact Duo.Duo.drew (by assumption)) (by assumption) (by assumption)) ?_; rintro e w' ⟨rfl, h2⟩))
              go_wp2_with fail
              go_meet
              exact ⟨n2, last, _, F2, v2, h2, HF2, by unfold Hid; omega⟩
            · have e1 : (kd == 1) = false := by rw [beq_eq_false_iff_ne]; exact k1
              have e2 : (kd == 2) = false := by rw [beq_eq_false_iff_ne]; exact k2
              have e3 : (kd == 3) = false := by rw [beq_eq_false_iff_ne]; exact k3
              clear HFF
              go_wp2_with fail
              go_meet
              exact ⟨now, last, K, F, v, HD, HF, by unfold Hid; omega⟩
      case rest =>
        obtain ⟨now2, last2, K2, F2, v2, HD2, HF2, HL2⟩ := hcut
        have HFF := HF2.out
        have hKL : K2.length ≤ 100000 := by have := HFF.len; omega
        clear HFF
        obtain ⟨s2, cap2, ev, hcap2, hs2⟩ := HD2.out.rw.row.form
        have NX := nextD HD2.out
        by_cases hK : K2 = []
        · subst hK
          have ev : v2 = .slice s2 0 cap2 := ev
          subst ev
          have e0 : nextK [] = .tuple #[.int .i64 0, .bool false] := rfl
          rw [e0] at NX
          clear e0
          have NX := Lib.hid NX
          clear HD
          go_wp2_with fail
          refine NX.out.mono ?_
          rintro e w4 ⟨rfl, h4⟩
          clear NX
          have H4 := Lib.hid h4
          have c1 := h4.rw.hb.cell (o := 1) rfl
          have c3 := h4.rw.hb.cell (o := 3) rfl
          have LN := Lib.hid fun k => Wk.len_any (h4.keep ((Kept.refl (fun _ => False) w4).drewN k)).wl
          have NN := Lib.hid fun k => Wk.now_any (h4.keep ((Kept.refl (fun _ => False) w4).drewN k)).wl
          clear h4
          go_wp2_with fail
          go_quiet (first | (go_at_call 14; exact Calls.quiet_of_same ((LN.out _).mono fun _ _ ⟨e1, e2⟩ => ⟨e1, e2.symm⟩)) | (go_at_call 15; exact Calls.quiet_of_same ((NN.out _).mono fun _ _ ⟨e1, e2⟩ => ⟨e1, e2.symm⟩)))
          go_wp2_with fail
          go_roundg (zs.length - (i + 1))
          case measure => have := hk.out; omega
          case rel => exact ⟨i + 1, now2, last2, [], F2, _, rfl, by omega, by simp, pair_of (H4.out.keep ((Kept.refl _ w4).drewN nq)), HF2, HL2⟩
        · have hpos : 0 < K2.length := List.length_pos_iff.2 hK
          subst ev
          obtain ⟨g2, hg2⟩ : ∃ g2, s2 = some ⟨g2, 0, none⟩ := by
            rcases hs2 with ⟨_, h0, _⟩ | ⟨g2, e, _⟩
            · exact absurd h0 hK
            · exact ⟨g2, e⟩
          subst hg2
          clear hs2
          obtain ⟨a0, ha0⟩ : ∃ a0, a0 = K2[0].1 := ⟨_, rfl⟩
          have e0 : nextK K2 = .tuple #[.int .i64 (a0 : Int), .bool true] := by
            rw [ha0]
            cases K2 with
            | nil => exact absurd rfl hK
            | cons y l => rfl
          rw [e0] at NX
          clear e0 hK
          have hposi : (0 : Int) < (K2.length : Int) := by omega
          have NX := Lib.hid NX
          clear HD
          go_wp2_with fail
          refine NX.out.mono ?_
          rintro e w4 ⟨rfl, h4⟩
          clear NX
          have H4 := Lib.hid h4
          have c1 := h4.rw.hb.cell (o := 1) rfl
          have c3 := h4.rw.hb.cell (o := 3) rfl
          have r0 := (h4.rw.row.at hpos).1
          rw [← ha0, Nat.zero_mul] at r0
          clear ha0
          have LN := Lib.hid fun k => Wk.len_any (h4.keep ((Kept.refl (fun _ => False) w4).drewN k)).wl
          have NN := Lib.hid fun k => Wk.now_any (h4.keep ((Kept.refl (fun _ => False) w4).drewN k)).wl
          clear h4
          go_wp2_with fail
          go_quiet (first | (go_at_call 14; exact Calls.quiet_of_same ((LN.out _).mono fun _ _ ⟨e1, e2⟩ => ⟨e1, e2.symm⟩)) | (go_at_call 15; exact Calls.quiet_of_same ((NN.out _).mono fun _ _ ⟨e1, e2⟩ => ⟨e1, e2.symm⟩)))
          go_wp2_with fail
          go_roundg (zs.length - (i + 1))
          case measure => have := hk.out; omega
          case rel => exact ⟨i + 1, now2, last2, K2, F2, _, rfl, by omega, by simp, pair_of (H4.out.keep ((Kept.refl _ w4).drewN nq)), HF2, HL2⟩
    · have HFF := HF.out
      have hlen := HFF.len
      have hnow := HFF.n1
      have hKL : K.length ≤ 100000 := by omega
      obtain ⟨n2, hn2⟩ : ∃ n2 : Nat, (n2 : Int) = max (now : Int) (min 1125899906842624 1125899906842624) := ⟨(max (now : Int) (min 1125899906842624 1125899906842624)).toNat, by omega⟩
      have hQ : (upTo n2 K).length ≤ 100000 := Nat.le_trans (List.length_filter_le _ _) hKL
      have AP := Lib.hid (Wk.advance_any HP.out.wl HP.out.tab 1125899906842624 hKL n2 hn2)
      have HN := Lib.hid hn2
      clear hn2 HFF
      go_wp2_with fail
      refine AP.out.mono ?_
      rintro e w4 ⟨F2, va, rfl, ra, hw4, hk4, hF4⟩
      have ra : Row w4 wr.heap.size va (upTo n2 K) := ra
      obtain ⟨s1, cap1, rfl, _⟩ := ra.shape rfl
      have hr4 : RW w4 w.heap.size c most now last K v := ⟨hk4.blk HP.out.rw.hb HP.out.dc, HP.out.rw.row.kept hk4 HP.out.dv, HP.out.rw.own⟩
      have AR := Lib.hid (Rf.adv_any hr4 1125899906842624 n2 HN.out hKL hnow HF.out.srt)
      clear AP
      go_wp2_with fail
      refine AR.out.mono ?_
      rintro e w5 ⟨v1, v2, rfl, r5, hr5, hk5, _⟩
      have ra5 := ra.kept hk5 (fun g hg _ e => by have := HP.out.rw.hb.lt; omega)
      obtain ⟨s2, cap2, rfl, _, _⟩ := r5.form
      have SM := Lib.hid (same_yes s1 s2 cap1 cap2 hQ ra5 r5)
      clear AR
      go_wp2_with fail
      refine SM.out.mono ?_
      rintro e w6 ⟨rfl, hk6⟩
      have hT6 : Wh.Tab w6 := ((HP.out.tab.kept hk4 (fun e => by have := HP.out.fb _ e; have := t0.out; omega)).kept hk5 (fun e => by have := HP.out.cb; have := t0.out; omega)).kept hk6 (fun h => h)
      have hO6 : Old w w6 := ((HP.out.old.trans' hk4 (fun j hj e => by have := HP.out.fb j e; omega)).trans' hk5 (fun j hj e => by have := HP.out.cb; omega)).trans hk6
      have HC := Lib.hid (awake_any w6 hT6)
      clear SM
      go_wp2_with (go_at_call 4; refine HC.out.mono ?_; rintro e w' ⟨rfl, ho⟩)
      go_ret
      exact ⟨rfl, hO6.trans ho⟩
theorem walk (most : Int) (zs : List (List Int)) (s : Option Addr) (cap : Nat) (w : World) (w0 : (Lit.int .i64 most).wf = true) (hZ : Opn.Structs w s cap 4 zs) (hT : Wh.Tab w) :
    Calls Tryd.prog 3 #[.int .i64 most, .slice s zs.length cap] w fun e w' => e = .returned (.bool true) ∧ Old w w' := by
  by_cases h : 100 < zs.length
  · exact early1 most zs s cap w hT h
  · by_cases h1 : most < 1
    · exact early2 most zs s cap w hT h (Or.inl h1)
    · by_cases h2 : 100000 < most
      · exact early2 most zs s cap w hT h (Or.inr ⟨h1, h2⟩)
      · obtain ⟨m, rfl⟩ : ∃ m : Nat, most = (m : Int) := ⟨most.toNat, by omega⟩
        exact late m zs s cap w hT h (by omega) (by omega) hZ
set_option maxRecDepth 100000 in
set_option maxHeartbeats 1000000 in
theorem lifted (os : Os) (started : os.Started) (H : Type) (enc : TypeId × Value → H) :
    ReturnsInHanded {} Tryd.checked os 3 .any (fun w args => (Rows.wheelPlaysSpec.pre enc Tryd.prog Tryd.f3 [] false w args ∧ laidMetH Tryd.prog [("math/bits.deBruijn32tab", Rows.laid_math_bits_deBruijn32tab)] w) ∧ sizedMet enc Tryd.prog Tryd.f3 (OpenSpec.ofChange Rows.wheelPlaysSpec) false w args)
      (Rows.wheelPlaysSpec.post enc Tryd.prog Tryd.f3 false true false false) := by
  refine returnsInHanded_of_change_and (C := Tryd.checked) (X := fun w _ => laidMetH Tryd.prog [("math/bits.deBruijn32tab", Rows.laid_math_bits_deBruijn32tab)] w) (fun _ _ _ hh h => h.of_heap hh) own started (by kernel_rfl) Tryd.func3
    (ChangeSpec.witness_shaped (enc := enc) (C := Tryd.checked) (os := os) (X := fun w _ => laidMetH Tryd.prog [("math/bits.deBruijn32tab", Rows.laid_math_bits_deBruijn32tab)] w) false (World.doorLaid Tryd.prog 400 os) #[.int .i64 0, .slice none 0 0] 8 rfl (World.shaped_of_RefB (by kernel_rfl) (by kernel_rfl)) (by kernel_rfl) (by kernel_rfl) (by kernel_rfl) (door_met os _)) ?_
  intro W base args ds gs before hval0 hW _ _ hL _
  have hval : ∀ (j : Nat) t v, Tryd.f3.params[j]? = some t → args[j]? = some v → Value.okWide Tryd.prog W .any base t v := hval0
  have hW' := hW
  obtain ⟨p, q, hA0, hV, rfl, hfz, hnd⟩ := hW
  have hA : DataW.TrodAll enc Tryd.prog W 0 (fun _ => true) true Tryd.f3.params.toList args.toList ds p := hA0
  rw [Tryd.params3] at hA hval
  obtain ⟨v0, vs0, d0, ds0, p0, q0, hargs, rfl, rfl, h0, r0⟩ := trodAll_cons hA
  obtain ⟨v1, vs1, d1, ds1, p1, q1, rfl, rfl, rfl, h1, r1⟩ := trodAll_cons r0
  obtain ⟨rfl, rfl, rfl⟩ := trodAll_nil r1
  obtain rfl : args = #[v0, v1] := by cases args; simp_all
  obtain ⟨rfl, rfl⟩ := trodVars_none hV
  obtain ⟨a0, rfl, rfl, rfl, w0⟩ := open_int Tryd.underlying3 (hval 0 3 v0 rfl rfl) h0
  obtain ⟨s1, cap1, a1, rfl, w1⟩ := Opn.structs_of Tryd.underlying22 Tryd.underlying33 (by kernel_rfl) (by kernel_rfl) (by decide) (by intro j f hf; rcases j with _ | _ | _ | _ | j <;> simp at hf <;> (try subst hf) <;> exact Tryd.underlying3) (hval 1 22 v1 rfl rfl) h1
  clear hA0 hval0
  refine (walk a0 a1 s1 cap1 W w0 w1 (tab_of_laid hL)).mono fun e W' ⟨he, hg⟩ => ?_
  subst he
  exact ⟨_, rfl, post_of_old hW' (fun _ _ _ => (trodAll_cons_mk (shut_bool Tryd.underlying4 _) trodAll_mk0)) (fun sp hsp => (trodAll_cons_mk (shut_int Tryd.underlying3 w0) (trodAll_cons_mk (Opn.back (by kernel_rfl) (of_decide_eq_true (by kernel_rfl)) h1 hg (fun x hx => hW'.lt x (by simp [hx])) (fun x hx => hsp x (by simp [hx]))) trodAll_mk0))) (fun _ _ => rfl)
    hg (ok_one (by kernel_rfl) rfl (okWide_bool_mk Tryd.underlying4 _))⟩
theorem over : Rows.wheelPlaysRow.holds Tryd.pinned (OpenSpec.ofChange Rows.wheelPlaysSpec) :=
  OpenClaim.holds_of_wide 3 Tryd.f3 rfl rfl rfl rfl rfl rfl rfl ⟨rfl, rfl, rfl, rfl, rfl⟩ rfl rfl rfl rfl rfl (by kernel_rfl) Tryd.func3 (by kernel_rfl)
    (of_decide_eq_true (by kernel_rfl)) (by unfold Func.isWrapper; first | (rw [if_pos (by decide +kernel)]; kernel_rfl) | (rw [if_neg (by decide +kernel)]; exact ⟨rfl, rfl⟩))
    (fun os started H enc _ => lifted os started H enc)
theorem proved : Rows.WheelPlaysCardSaid :=
  Claim7.holds_tied_plain_at .later [] [.data] true (true, "5278cd716c76d7e69f5f48e49d8713189ef1fb56072737e38b58a333e2725548") false
    over (fun _ h => by cases h) (by kernel_rfl) (fun _ h => by cases h) wheelPlays_row_tie rfl ⟨rfl, rfl⟩ (by kernel_rfl) rfl
    (fun f fn hf hfn => by
      obtain rfl : f = 3 := Option.some.inj ((show Tryd.prog.funcNamed "mizzen/mizzenlaw2.WheelPlays" = some 3 by kernel_rfl).symm.trans hf) |>.symm
      obtain rfl : fn = Tryd.f3 := (Option.some.inj (Tryd.func3.symm.trans hfn)).symm
      exact ⟨by kernel_rfl, fun j t ht => by
        rw [Tryd.params3] at ht
        have hm : t ∈ [3, 22] := by simpa using Array.mem_of_getElem? ht
        have hall : ([3, 22].all fun u => !Tryd.prog.wantsStandIn u) = true := by kernel_rfl
        exact (show Tryd.prog.wantsStandIn t = false by simpa using List.all_eq_true.1 hall t hm)⟩)
    (by kernel_rfl)
#print axioms proved
end Go.Proofs.YtjmlglibmlfjaaaDoor.wheelPlays
