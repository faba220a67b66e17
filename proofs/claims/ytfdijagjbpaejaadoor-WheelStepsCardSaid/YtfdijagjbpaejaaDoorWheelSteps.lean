/- WheelSteps (mizzenlaw2): for every two slices of ints the law returns true and its arguments read as before. Conditions: the table of math/bits holds what its text lays (tied to the program's text). -/
import Derived.Test.YtfdijagjbpaejaaDoorRows
import Derived.Test.YtfdijagjbpaejaaDoorCards
import Derived.Test.YtfdijagjbpaejaaDoorTie
import Derived.Test.YtfdijagjbpaejaaDoorTab
import Derived.Test.YtfdijagjbpaejaaDoorEnd
import Derived.WalkKit
import Derived.ProofKit
import Derived.OpenShut
import Derived.LaidMore
import Derived.Stop.Joined
import Derived.SevenTiedAt
import Derived.Test.YtfdijagjbpaejaaDoorOpen
import Derived.Test.YtfdijagjbpaejaaDoorWk2
import Derived.Test.YtfdijagjbpaejaaDoorSteps26
import Derived.Deep.DeepCutAuto
set_option linter.unusedVariables false
namespace Go.Proofs.YtfdijagjbpaejaaDoor.wheelSteps
open Go.ChangeShapes Go.WideShapes Go.ChangeAt Go.RowKit Go.Proofs.YtfdijagjbpaejaaDoor.Hp Go.Proofs.YtfdijagjbpaejaaDoor.End Go.Proofs.YtfdijagjbpaejaaDoor.TabL
open Go.Proofs.YtfdijagjbpaejaaDoor.Awake Wk
theorem own : ownKnob Tryd.prog.godebug = none := by kernel_rfl
theorem door_met (os : Os) (args : Array Value) : laidMetH Tryd.prog [("math/bits.deBruijn32tab", Rows.laid_math_bits_deBruijn32tab)] ((World.doorLaid Tryd.prog 400 os).forCall (fun _ _ => 0) ⟨#[], args, []⟩).memory :=
  laidMetH_of_parts3 (fuel := 8) (laidMet_of_run' 8 (by kernel_rfl) (by kernel_rfl)) (by kernel_rfl) (by kernel_rfl)
set_option maxRecDepth 100000 in
set_option maxHeartbeats 1000000 in
theorem early (zs ys : List Int) (s0 s1 : Option Addr) (cap0 cap1 : Nat) (w : World) (hT : Wh.Tab w) (h : 60 < zs.length ∨ 30 < ys.length) :
    Calls Tryd.prog 4 #[.slice s0 zs.length cap0, .slice s1 ys.length cap1] w fun e w' => e = .returned (.bool true) ∧ Old w w' := by
  have HC := Lib.hid (awake_any w hT)
  by_cases h1 : 60 < zs.length
  · clear h
    go_enter Tryd.func4, Tryd.ntmps4
    go_wp2_with (go_at_call 8; refine HC.out.mono ?_; rintro e w' ⟨rfl, ho⟩)
    go_ret
    exact ⟨rfl, ho⟩
  · have h2 : 30 < ys.length := by omega
    clear h
    go_enter Tryd.func4, Tryd.ntmps4
    go_wp2_with (go_at_call 8; refine HC.out.mono ?_; rintro e w' ⟨rfl, ho⟩)
    go_ret
    exact ⟨rfl, ho⟩
set_option maxRecDepth 100000 in
set_option maxHeartbeats 16000000 in
theorem late (zs ys : List Int) (s0 s1 : Option Addr) (cap0 cap1 : Nat) (w : World) (hT : Wh.Tab w) (hz : zs.length ≤ 60) (hy : ys.length ≤ 30) (hZ : Ints w s0 cap0 zs) (hY : Ints w s1 cap1 ys) :
    Calls Tryd.prog 4 #[.slice s0 zs.length cap0, .slice s1 ys.length cap1] w fun e w' => e = .returned (.bool true) ∧ Old w w' := by
  have HZ := Lib.hid hZ
  have HY := Lib.hid hY
  clear hZ hY
  go_enter Tryd.func4, Tryd.ntmps4
  go_wp2_with fail
  refine (new_yes 100 (by omega) (by omega) w hT).mono ?_
  rintro e w1 ⟨b1, F1, rfl, hw1, hk1, hF1⟩
  have hT1 : Wh.Tab w1 := hT.kept hk1 (fun h => h)
  go_wp2_with fail
  refine (new_yes 100 (by omega) (by omega) w1 hT1).mono ?_
  rintro e w2 ⟨b2, F2, rfl, hw2, hk2, hF2⟩
  have hT2 : Wh.Tab w2 := hT1.kept hk2 (fun h => h)
  have hlt1 := hw1.lt
  have hw1 := hw1.kept hk2 (fun _ _ h => h)
  have hO2 : Old w w2 := hk1.trans hk2
  have hD : Hid (∀ k, F1 k → ¬ F2 k) := fun k h1 h2 => by have := hlt1 k h1; have := hF2 k h2; omega
  have hG : Hid (∀ k, F1 k ∨ F2 k → w.heap.size ≤ k) := fun k h => by
    rcases h with h | h
    · exact hF1 k h
    · exact Nat.le_trans hk1.size (hF2 k h)
  clear hF1 hF2 hk1 hk2 hT1 hlt1
  go_wp2_with fail
  go_loopg [9] zs.length (fun k s9 wr => ∃ (i : Nat) (F1 F2 : Nat → Prop), Hid (k = zs.length - i) ∧ i ≤ zs.length ∧ s9 = .int .i64 ((i : Nat) : Int) ∧ Hid (∀ k ∈ built zs i, k.1 ≤ 1125899906842624) ∧ Hid (∀ j, j < i → 0 ≤ zs.getD j 0) ∧
    Wl wr b1 100 0 i (built zs i) F1 ∧ Wl wr b2 100 0 i (built zs i) F2 ∧ Hid (∀ k, F1 k → ¬ F2 k) ∧ Hid (∀ k, F1 k ∨ F2 k → w.heap.size ≤ k) ∧ Wh.Tab wr ∧ Old w wr)
  case atStart =>
    exact ⟨0, F1, F2, rfl, by omega, rfl, fun k hk => by simp [built] at hk, fun j hj => by omega, hw1, hw2, hD, hG, hT2, hO2⟩
  case round =>
    obtain ⟨i, G1, G2, hk, hi, rfl, hle, hnn, hv, hw, hDD, hGG, hTr, hO⟩ := hrel
    clear hw1 hw2 hD hG hT2 hO2
    by_cases hlt : i < zs.length
    · obtain ⟨b, off, rfl, hb, hc⟩ := HZ.out.at hO hlt
      have hwf := HZ.out.wf hlt
      have HC := Lib.hid (awake_any wr hTr)
      obtain ⟨z, hzz⟩ : ∃ z, z = zs[i] := ⟨_, rfl⟩
      rw [← hzz] at hc hwf
      have HQ := Lib.hid hzz
      clear hzz
      by_cases hneg : z < 0
      · go_wp2_with (go_at_call 8; refine HC.out.mono ?_; rintro e w' ⟨rfl, ho⟩)
        go_ret
        exact ⟨rfl, hO.trans ho⟩
      · by_cases hbig : 1125899906842624 < z
        · go_wp2_with (go_at_call 8; refine HC.out.mono ?_; rintro e w' ⟨rfl, ho⟩)
          go_ret
          exact ⟨rfl, hO.trans ho⟩
        · obtain ⟨n, rfl⟩ : ∃ n : Nat, z = (n : Int) := ⟨z.toNat, by omega⟩
          have A1 := Lib.hid (add_ok hv n (i : Int) (by omega) (by rw [built_len]; omega) (by omega))
          clear HC
          go_wp2_with fail
          refine A1.out.mono ?_
          rintro e w3 ⟨H1, rfl, hv3, hk3, hH1⟩
          have hw3 := hw.kept hk3 (fun k h2 h1 => hDD.out k h1 h2)
          have hT3 := hTr.kept hk3 hv.off
          have hO3 : Old w w3 := hO.trans' hk3 (fun j hj e => by have := hGG.out j (Or.inl e); omega)
          have hD3 : Hid (∀ k, H1 k → ¬ G2 k) := fun k h1 h2 => by
            rcases hH1 k h1 with h | h
            · exact hDD.out k h h2
            · have := hw.lt k h2; omega
          have hG3 : Hid (∀ k, H1 k → w.heap.size ≤ k) := fun k h1 => by
            rcases hH1 k h1 with h | h
            · exact hGG.out k (Or.inl h)
            · exact Nat.le_trans hO.size h
          obtain ⟨b', off', e', _, hc3⟩ := HZ.out.at hO3 hlt
          rw [← HQ.out] at hc3
          cases e'
          have A2 := Lib.hid (add_ok hw3 n (i : Int) (by omega) (by rw [built_len]; omega) (by omega))
          clear A1 hc hv hw hk3 hTr
          go_wp2_with fail
          refine A2.out.mono ?_
          rintro e w4 ⟨H2, rfl, hw4, hk4, hH2⟩
          have hv4 := hv3.kept hk4 (fun k h1 h2 => hD3.out k h1 h2)
          have hT4 := hT3.kept hk4 hw3.off
          have hO4 : Old w w4 := hO3.trans' hk4 (fun j hj e => by have := hGG.out j (Or.inr e); omega)
          clear A2 hc3
          go_wp2_with fail
          go_roundg (zs.length - (i + 1))
          case measure => have := hk.out; omega
          case rel =>
            have eb : built zs (i + 1) = ins (max n 0, i + 1, (i : Int)) (built zs i) := by
              have : zs.getD i 0 = (n : Int) := by rw [HQ.out]; simp [List.getD, List.getElem?_eq_getElem hlt]
              rw [built, this]
              simp
            refine ⟨i + 1, H1, H2, rfl, by omega, by simp, ?_, ?_, by rw [eb]; exact hv4, by rw [eb]; exact hw4, ?_, ?_, hT4, hO4⟩
            · intro k hk
              rw [eb] at hk
              rcases mem_ins hk with rfl | hk
              · show max n 0 ≤ _
                omega
              · exact hle.out k hk
            · intro j hj
              rcases Nat.lt_succ_iff_lt_or_eq.1 hj with hj | rfl
              · exact hnn.out j hj
              · have : zs.getD j 0 = (n : Int) := by rw [HQ.out]; simp [List.getD, List.getElem?_eq_getElem hlt]
                omega
            · intro k h1 h2
              rcases hH2 k h2 with h | h
              · exact hD3.out k h1 h
              · have := hv3.lt k h1; omega
            · intro k h
              rcases h with h | h
              · exact hG3.out k h
              · rcases hH2 k h with h | h
                · exact hGG.out k (Or.inr h)
                · exact Nat.le_trans hO3.size h
    · obtain rfl : i = zs.length := by omega
      obtain ⟨K, hK⟩ : ∃ K, K = built zs zs.length := ⟨_, rfl⟩
      have hKl : K.length = zs.length := by rw [hK, built_len]
      have KM : Hid (∀ k ∈ K, ∃ v : Nat, v < zs.length ∧ k = ((zs.getD v 0).toNat, v + 1, (v : Int))) := by rw [hK]; exact built_mem zs zs.length
      have KR : Hid (K.Pairwise Rises) := by rw [hK]; exact built_rises zs zs.length
      rw [← hK] at hv hw hle
      have AV := advance_any hv hTr 1125899906842624 (by omega) 1125899906842624 (by omega)
      unfold AdvK at AV
      rw [upTo_all hle.out, past_all hle.out] at AV
      have AV := Lib.hid AV
      have HKl := Lib.hid hKl
      clear hKl hK
      go_wp2_with fail
      refine AV.out.mono ?_
      rintro e w5 ⟨H1, va, rfl, ra, _, hk5, _⟩
      have ra : Row w5 wr.heap.size va K := ra
      obtain ⟨sa, capa, rfl, hcapa⟩ := ra.shape HKl.out
      have ga : Hid (∀ g, (Value.slice sa zs.length capa).ownBlock = some g → g < w5.heap.size) := fun g hg => (ra.lt g hg).2
      have g2 : Hid (∀ k, G2 k → k < wr.heap.size) := fun k hk => hw.lt k hk
      have hw5 := hw.kept hk5 (fun k h2 h1 => hDD.out k h1 h2)
      have hT5 := hTr.kept hk5 hv.off
      have hO5 : Old w w5 := hO.trans' hk5 (fun j hj e => by have := hGG.out j (Or.inl e); omega)
      have hsz5 := hk5.size
      have hsz0 := hO.size
      clear AV hv hw hTr hO hk5
      generalize wr.heap.size = B at *
      go_wp2_with fail
      go_loopg [11, 12] ys.length (fun k s11 s12 wq => ∃ (j now : Nat) (D R : List Key) (F : Nat → Prop) (sb : Option Addr) (capb : Nat), Hid (k = ys.length - j) ∧ j ≤ ys.length ∧ s11 = .slice sb D.length capb ∧ s12 = .int .i64 ((j : Nat) : Int) ∧
        Hid (K = D ++ R) ∧ Row wq w5.heap.size (.slice sb D.length capb) D ∧ Row wq B (.slice sa zs.length capa) K ∧ Wl wq b2 100 now zs.length R F ∧ Hid (∀ k, F k → G2 k) ∧ Wh.Tab wq ∧ Old w wq ∧ w5.heap.size ≤ wq.heap.size)
      case atStart =>
        exact ⟨0, 0, [], K, G2, none, 0, rfl, by omega, rfl, rfl, rfl, World.ownsRow_nil _ _ _ _, ra, hw5, fun _ h => h, hT5, hO5, Nat.le_refl _⟩
      case round =>
        obtain ⟨j, now, D, R, F, sb, capb, hk, hj, rfl, rfl, hKD, rb, ra, hw, hF, hTx, hOx, hszx⟩ := hrel
        clear hw5 hT5 hO5
        have hlen : Hid (D.length + R.length = zs.length) := by
          have h1 := hKD.out
          have h2 := HKl.out
          rw [h1, List.length_append] at h2
          exact h2
        have hRR : Hid (R.Pairwise Rises) := by
          have h1 := KR.out
          rw [hKD.out, List.pairwise_append] at h1
          exact h1.2.1
        have hnow := hw.now1
        by_cases hlt : j < ys.length
        · obtain ⟨b, off, rfl, hb, hc⟩ := HY.out.at hOx hlt
          have hwf := HY.out.wf hlt
          obtain ⟨z, hzz⟩ : ∃ z, z = ys[j] := ⟨_, rfl⟩
          rw [← hzz] at hc hwf
          clear hzz
          obtain ⟨n2, hn2⟩ : ∃ n2 : Nat, (n2 : Int) = max (now : Int) (min z 1125899906842624) := ⟨(max (now : Int) (min z 1125899906842624)).toNat, by omega⟩
          have AV := Lib.hid (advance_any hw hTx z (by have := hlen.out; omega) n2 hn2)
          clear hn2
          go_wp2_with fail
          refine AV.out.mono ?_
          rintro e w6 ⟨F', v6, rfl, r6, hw6, hk6, hF6⟩
          have r6 : Row w6 wr.heap.size v6 (upTo n2 R) := r6
          have rb6 := rb.kept hk6 (fun g hg _ e => by have := g2.out g (hF.out g e); omega)
          have ra6 := ra.kept hk6 (fun g hg _ e => by have := g2.out g (hF.out g e); omega)
          have hT6 := hTx.kept hk6 hw.off
          have hO6 : Old w w6 := hOx.trans' hk6 (fun i hi e => by have := hGG.out i (Or.inr (hF.out i e)); omega)
          have hsz6 := hk6.size
          have hup : Hid ((upTo n2 R).length ≤ R.length) := List.length_filter_le _ _
          clear AV hc hw rb ra hTx hk6
          go_wp2_with (at_builtin; refine wp_append_rows rfl (.tmp 86) (.tmp 92) rfl w5.heap.size wr.heap.size rfl rb6 rfl r6 ?c1 ?c2 ?_)
          case c1 => have := hlen.out; have := hup.out; omega
          case c2 => omega
          intro v7 w7 r7 hk7
          obtain ⟨sb7, cap7, rfl, hcap7⟩ := r7.shape rfl
          have hb7 : ∀ g, (Value.slice sb D.length capb).ownBlock = some g → w5.heap.size ≤ g := fun g hg => (rb6.lt g hg).1
          have hw7 := hw6.kept hk7 (fun k h e => by have := hb7 k e; have := g2.out k (hF.out k (hF6 k h)); omega)
          have ra7 := ra6.kept' hk7 (fun g hg e => by have := hb7 g e; have := ga.out g hg; omega)
          have hT7 := hT6.kept hk7 (fun e => by have := hb7 _ e; have := World.block_lt_of_cell? w _ (hT 0 (by decide)); omega)
          have hO7 : Old w w7 := hO6.trans' hk7 (fun i hi e => by have := hb7 i e; omega)
          have hsz7 := hk7.size
          clear hb7 hw6 ra6 hT6 hO6 rb6 r6 hk7
          go_wp2_with fail
          go_roundg (ys.length - (j + 1))
          case measure => have := hk.out; omega
          case rel =>
            exact ⟨j + 1, n2, D ++ upTo n2 R, past n2 R, F', sb7, cap7, rfl, by omega, rfl, by simp, by unfold Hid; rw [List.append_assoc, cut_rises n2 hRR.out]; exact hKD.out, r7, ra7, hw7, fun k h => hF.out k (hF6 k h), hT7, hO7, by omega⟩
        · have hR : Hid (∀ k ∈ R, k.1 ≤ 1125899906842624) := fun k hk => hle.out k (by rw [hKD.out]; simp [hk])
          have AV := advance_any hw hTx 1125899906842624 (by have := hlen.out; omega) 1125899906842624 (by omega)
          unfold AdvK at AV
          rw [upTo_all hR.out, past_all hR.out] at AV
          have AV := Lib.hid AV
          go_wp2_with fail
          refine AV.out.mono ?_
          rintro e w6 ⟨F', v6, rfl, r6, hw6, hk6, hF6⟩
          have r6 : Row w6 wr.heap.size v6 R := r6
          have rb6 := rb.kept hk6 (fun g hg _ e => by have := g2.out g (hF.out g e); omega)
          have ra6 := ra.kept hk6 (fun g hg _ e => by have := g2.out g (hF.out g e); omega)
          have hT6 := hTx.kept hk6 hw.off
          have hO6 : Old w w6 := hOx.trans' hk6 (fun i hi e => by have := hGG.out i (Or.inr (hF.out i e)); omega)
          have hsz6 := hk6.size
          clear AV hw rb ra hTx hk6 hw6
          go_wp2_with (at_builtin; refine wp_append_rows rfl (.tmp 94) (.tmp 96) rfl w5.heap.size wr.heap.size rfl rb6 rfl r6 ?c1 ?c2 ?_)
          case c1 => have := hlen.out; omega
          case c2 => omega
          intro v7 w7 r7 hk7
          rw [← hKD.out] at r7
          obtain ⟨sb7, cap7, rfl, hcap7⟩ := r7.shape HKl.out
          have hb7 : ∀ g, (Value.slice sb D.length capb).ownBlock = some g → w5.heap.size ≤ g := fun g hg => (rb6.lt g hg).1
          have ra7 := ra6.kept' hk7 (fun g hg e => by have := hb7 g e; have := ga.out g hg; omega)
          have hT7 := hT6.kept hk7 (fun e => by have := hb7 _ e; have := World.block_lt_of_cell? w _ (hT 0 (by decide)); omega)
          have hO7 : Old w w7 := hO6.trans' hk7 (fun i hi e => by have := hb7 i e; omega)
          clear hb7 ra6 hT6 hO6 rb6 r6 hk7 hk hlen hRR hnow hKD hF hsz6 hszx hOx
          have RA : Hid (Row w7 B (.slice (sa) zs.length capa) K) := ra7
          have RB : Hid (Row w7 w5.heap.size (.slice (sb7) zs.length cap7) K) := r7
          clear ra7 r7
          go_wp2_with fail
          go_loopg [13] zs.length (fun k s13 wq => ∃ i : Nat, Hid (k = zs.length - i) ∧ i ≤ zs.length ∧ s13 = .int .i64 ((i : Nat) : Int) ∧ Hid (Row wq B (.slice (sa) zs.length capa) K) ∧ Hid (Row wq w5.heap.size (.slice (sb7) zs.length cap7) K) ∧ Wh.Tab wq ∧ Old w wq)
          case atStart => exact ⟨0, rfl, by omega, rfl, RA, RB, hT7, hO7⟩
          case round =>
            clear RA RB hT7 hO7
            obtain ⟨i, hk, hi, rfl, RA, RB, hT7, hO7⟩ := hrel
            by_cases hlt : i < zs.length
            · have hltK : i < K.length := by rw [HKl.out]; exact hlt
              obtain ⟨v, hv, ev⟩ := KM.out K[i] (List.getElem_mem hltK)
              obtain ⟨t, ht⟩ : ∃ t : Nat, t = (zs.getD v 0).toNat := ⟨_, rfl⟩
              have hzv : zs[v] = (t : Int) := by
                have h1 := hnn.out v hv
                rw [ht]
                simp only [List.getD, List.getElem?_eq_getElem hv, Option.getD_some] at h1 ⊢
                omega
              rw [← ht] at ev
              have ec : ((v + 1 : Nat) : Int) = (v : Int) + 1 := by omega
              obtain ⟨g, rfl, hg, c0, c1, c2⟩ := RA.out.at hltK
              obtain ⟨g', rfl, hg', d0, d1, d2⟩ := RB.out.at hltK
              obtain ⟨b, off, rfl, hb, hc⟩ := HZ.out.at hO7 hv
              rw [ev] at c0 c1 c2 d0 d1 d2
              rw [hzv] at hc
              simp only [ec] at c0 c1 c2 d0 d1 d2
              have EV := Lib.hid ev
              clear ht hzv ec ev
              have hv60 : v ≤ 60 := by omega
              by_cases hi0 : i = 0
              · subst hi0
                simp only [Nat.zero_mul, Nat.zero_add] at c0 c1 c2 d0 d1 d2
                go_wp2_with fail
                refine Steps26.q_zero _ _ _ _ _ _ _ _ _ _ _ _ _ _ _ _ _ _ _ _ _ _ _ _ _ _ _ _ _ _ _ _ _ _ _ _ _ _ _ _ _ _ _ _ _ _ _ _ _ _ _ _ _ _ _ _ _ _ _ _ _ _ _ _ _ _ _ _ _ _ _ _ _ _ _ _ _ _ _ _ _ _ _ _ _ _ _ _ _ _ _ _ _ _ _ _ _ _ _ _ _ _ _ _ _ _ _ _ _ _ _ _ _ _ _ _ _ _ _ _ _ _ _ _ _ _ _ _ _ _ _ _ _ _ _ _ _ _ _ _ _ _ _ _ _ _ _ _ _ _ _ _ _ _ _ _ _ _ _ _ _ _ _ _ _ _ _ _ _ _ _ _ _ _ _ _ _ _ _ _ _ _ _ _ _ _ _ _ _ _ _ _ _ _ _ _ _ _ _ _ _ _ _ _ _ _ _ _ _ _ hz hcapa hcap7 hv hc hlt c0 c1 c2 d0 d1 d2 ?_
                intro v116 v117 v118 v119 v120 v121 v122 v123 v124 v125 v126 v127 v128 v129 v130 v131 v132 v133 v134 v135 v136 v137 v138 v139 v140 v141 v142 v143 v144 v145 v146 v147 v148 v149 v150 v151 v152 v153 v154 v155 v156 v157 v158 v159 v160 v161 v162 v163 v164 v165 v166 v167 v168 v169 v170 v171 v172 v173 v174 v175 v176 v177 v178 v179 v180 v181 v182 v183 v184 v185 v186 v187 v188 v189 v190 v191 v192 v193 v194 v195 v196 v197 v198 v199 nq
                go_wp2_with fail
                go_roundg (zs.length - 1)
                case measure => have := hk.out; omega
                case rel => exact ⟨1, rfl, by omega, rfl, RA, RB, hT7, hO7.drewN nq⟩
              · have hi60 : i ≤ 60 := by omega
                have hpos : 0 < i := by omega
                obtain ⟨m, hm⟩ : ∃ m, m = i - 1 := ⟨_, rfl⟩
                have hmK : m < K.length := by omega
                have hmz : m < zs.length := by omega
                have hmi : (i : Int) - 1 = (m : Int) := by omega
                obtain ⟨v', hv', ev'⟩ := KM.out K[m] (List.getElem_mem hmK)
                obtain ⟨t', ht'⟩ : ∃ t' : Nat, t' = (zs.getD v' 0).toNat := ⟨_, rfl⟩
                rw [← ht'] at ev'
                have hris := List.pairwise_iff_getElem.1 KR.out m i hmK hltK (by omega)
                rw [ev', EV.out] at hris
                have hris : t' < t ∨ (t' = t ∧ v' + 1 < v + 1) := hris
                obtain ⟨g2, eg, _, p0, p1, _⟩ := RA.out.at hmK
                cases eg
                rw [ev'] at p0 p1
                have ec : ((v' + 1 : Nat) : Int) = (v' : Int) + 1 := by omega
                simp only [ec] at p0 p1
                clear ht' ev' ec hm hi0
                rcases hris with hris | hris
                · go_wp2_with fail
                  refine Steps26.q_lt _ _ _ _ _ _ _ _ _ _ _ _ _ _ _ _ _ _ _ _ _ _ _ _ _ _ _ _ _ _ _ _ _ _ _ _ _ _ _ _ _ _ _ _ _ _ _ _ _ _ _ _ _ _ _ _ _ _ _ _ _ _ _ _ _ _ _ _ _ _ _ _ _ _ _ _ _ _ _ _ _ _ _ _ _ _ _ _ _ _ _ _ _ _ _ _ _ _ _ _ _ _ _ _ _ _ _ _ _ _ _ _ _ _ _ _ _ _ _ _ _ _ _ _ _ _ _ _ _ _ _ _ _ _ _ _ _ _ _ _ _ _ _ _ _ _ _ _ _ _ _ _ _ _ _ _ _ _ _ _ _ _ _ _ _ _ _ _ _ _ _ _ _ _ _ _ _ _ _ _ _ _ _ _ _ _ _ _ _ _ _ _ _ _ _ _ _ _ _ _ _ _ _ _ _ _ _ _ _ _ _ _ _ _ hz hcapa hcap7 hv hc hlt hpos hmz hmi c0 c1 c2 d0 d1 d2 p0 p1 hris ?_
                  intro v116 v117 v118 v119 v120 v121 v122 v123 v124 v125 v126 v127 v128 v129 v130 v131 v132 v133 v134 v135 v136 v137 v138 v139 v140 v141 v142 v143 v144 v145 v146 v147 v148 v149 v150 v151 v152 v153 v154 v155 v156 v157 v158 v159 v160 v161 v162 v163 v164 v165 v166 v167 v168 v169 v170 v171 v172 v173 v174 v175 v176 v177 v178 v179 v180 v181 v182 v183 v184 v185 v186 v187 v188 v189 v190 v191 v192 v193 v194 v195 v196 v197 v198 v199 nq
                  go_wp2_with fail
                  go_roundg (zs.length - (i + 1))
                  case measure => have := hk.out; omega
                  case rel => exact ⟨i + 1, rfl, by omega, by simp, RA, RB, hT7, hO7.drewN nq⟩
                · go_wp2_with fail
                  refine Steps26.q_eq _ _ _ _ _ _ _ _ _ _ _ _ _ _ _ _ _ _ _ _ _ _ _ _ _ _ _ _ _ _ _ _ _ _ _ _ _ _ _ _ _ _ _ _ _ _ _ _ _ _ _ _ _ _ _ _ _ _ _ _ _ _ _ _ _ _ _ _ _ _ _ _ _ _ _ _ _ _ _ _ _ _ _ _ _ _ _ _ _ _ _ _ _ _ _ _ _ _ _ _ _ _ _ _ _ _ _ _ _ _ _ _ _ _ _ _ _ _ _ _ _ _ _ _ _ _ _ _ _ _ _ _ _ _ _ _ _ _ _ _ _ _ _ _ _ _ _ _ _ _ _ _ _ _ _ _ _ _ _ _ _ _ _ _ _ _ _ _ _ _ _ _ _ _ _ _ _ _ _ _ _ _ _ _ _ _ _ _ _ _ _ _ _ _ _ _ _ _ _ _ _ _ _ _ _ _ _ _ _ _ _ _ _ _ hz hcapa hcap7 hv hc hlt hpos hmz hmi c0 c1 c2 d0 d1 d2 p0 p1 hris.1 (by omega) ?_
                  intro v116 v117 v118 v119 v120 v121 v122 v123 v124 v125 v126 v127 v128 v129 v130 v131 v132 v133 v134 v135 v136 v137 v138 v139 v140 v141 v142 v143 v144 v145 v146 v147 v148 v149 v150 v151 v152 v153 v154 v155 v156 v157 v158 v159 v160 v161 v162 v163 v164 v165 v166 v167 v168 v169 v170 v171 v172 v173 v174 v175 v176 v177 v178 v179 v180 v181 v182 v183 v184 v185 v186 v187 v188 v189 v190 v191 v192 v193 v194 v195 v196 v197 v198 v199 nq
                  go_wp2_with fail
                  go_roundg (zs.length - (i + 1))
                  case measure => have := hk.out; omega
                  case rel => exact ⟨i + 1, rfl, by omega, by simp, RA, RB, hT7, hO7.drewN nq⟩
            · have HC := Lib.hid (awake_any wr hT7)
              go_wp2_with (go_at_call 8; refine HC.out.mono ?_; rintro e w' ⟨rfl, ho⟩)
              go_ret
              exact ⟨rfl, hO7.trans ho⟩
theorem walk (zs : List Int) (s0 : Option Addr) (cap0 : Nat) (ys : List Int) (s1 : Option Addr) (cap1 : Nat) (w : World) (hZ : Ints w s0 cap0 zs) (hY : Ints w s1 cap1 ys) (hT : Wh.Tab w) :
    Calls Tryd.prog 4 #[.slice s0 zs.length cap0, .slice s1 ys.length cap1] w fun e w' => e = .returned (.bool true) ∧ Old w w' := by
  by_cases h : 60 < zs.length ∨ 30 < ys.length
  · exact early zs ys s0 s1 cap0 cap1 w hT h
  · exact late zs ys s0 s1 cap0 cap1 w hT (by omega) (by omega) hZ hY
set_option maxRecDepth 100000 in
set_option maxHeartbeats 1000000 in
theorem lifted (os : Os) (started : os.Started) (H : Type) (enc : TypeId × Value → H) :
    ReturnsInHanded {} Tryd.checked os 4 .any (fun w args => (Rows.wheelStepsSpec.pre enc Tryd.prog Tryd.f4 [] false w args ∧ laidMetH Tryd.prog [("math/bits.deBruijn32tab", Rows.laid_math_bits_deBruijn32tab)] w) ∧ sizedMet enc Tryd.prog Tryd.f4 (OpenSpec.ofChange Rows.wheelStepsSpec) false w args)
      (Rows.wheelStepsSpec.post enc Tryd.prog Tryd.f4 false true false false) := by
  refine returnsInHanded_of_change_and (C := Tryd.checked) (X := fun w _ => laidMetH Tryd.prog [("math/bits.deBruijn32tab", Rows.laid_math_bits_deBruijn32tab)] w) (fun _ _ _ hh h => h.of_heap hh) own started (by kernel_rfl) Tryd.func4
    (ChangeSpec.witness_shaped (enc := enc) (C := Tryd.checked) (os := os) (X := fun w _ => laidMetH Tryd.prog [("math/bits.deBruijn32tab", Rows.laid_math_bits_deBruijn32tab)] w) false (World.doorLaid Tryd.prog 400 os) #[.slice none 0 0, .slice none 0 0] 8 rfl (World.shaped_of_RefB (by kernel_rfl) (by kernel_rfl)) (by kernel_rfl) (by kernel_rfl) (by kernel_rfl) (door_met os _)) ?_
  intro W base args ds gs before hval0 hW _ _ hL _
  have hval : ∀ (j : Nat) t v, Tryd.f4.params[j]? = some t → args[j]? = some v → Value.okWide Tryd.prog W .any base t v := hval0
  have hW' := hW
  obtain ⟨p, q, hA0, hV, rfl, hfz, hnd⟩ := hW
  have hA : DataW.TrodAll enc Tryd.prog W 0 (fun _ => true) true Tryd.f4.params.toList args.toList ds p := hA0
  rw [Tryd.params4] at hA hval
  obtain ⟨v0, vs0, d0, ds0, p0, q0, hargs, rfl, rfl, h0, r0⟩ := trodAll_cons hA
  obtain ⟨v1, vs1, d1, ds1, p1, q1, rfl, rfl, rfl, h1, r1⟩ := trodAll_cons r0
  obtain ⟨rfl, rfl, rfl⟩ := trodAll_nil r1
  obtain rfl : args = #[v0, v1] := by cases args; simp_all
  obtain ⟨rfl, rfl⟩ := trodVars_none hV
  obtain ⟨s0, cap0, a0, rfl, w0⟩ := Opn.ints_of (hval 0 50 v0 rfl rfl) h0
  obtain ⟨s1, cap1, a1, rfl, w1⟩ := Opn.ints_of (hval 1 50 v1 rfl rfl) h1
  clear hA0 hval0
  refine (walk a0 s0 cap0 a1 s1 cap1 W w0 w1 (tab_of_laid hL)).mono fun e W' ⟨he, hg⟩ => ?_
  subst he
  exact ⟨_, rfl, post_of_old hW' (fun _ _ _ => (trodAll_cons_mk (shut_bool Tryd.underlying4 _) trodAll_mk0)) (fun sp hsp => (trodAll_cons_mk (Opn.ints_back h0 hg (fun x hx => hW'.lt x (by simp [hx])) (fun x hx => hsp x (by simp [hx]))) (trodAll_cons_mk (Opn.ints_back h1 hg (fun x hx => hW'.lt x (by simp [hx])) (fun x hx => hsp x (by simp [hx]))) trodAll_mk0))) (fun _ _ => rfl)
    hg (ok_one (by kernel_rfl) rfl (okWide_bool_mk Tryd.underlying4 _))⟩
theorem over : Rows.wheelStepsRow.holds Tryd.pinned (OpenSpec.ofChange Rows.wheelStepsSpec) :=
  OpenClaim.holds_of_wide 4 Tryd.f4 rfl rfl rfl rfl rfl rfl rfl ⟨rfl, rfl, rfl, rfl, rfl⟩ rfl rfl rfl rfl rfl (by kernel_rfl) Tryd.func4 (by kernel_rfl)
    (of_decide_eq_true (by kernel_rfl)) (by unfold Func.isWrapper; first | (rw [if_pos (by decide +kernel)]; kernel_rfl) | (rw [if_neg (by decide +kernel)]; exact ⟨rfl, rfl⟩))
    (fun os started H enc _ => lifted os started H enc)
theorem proved : Rows.WheelStepsCardSaid :=
  Claim7.holds_tied_plain_at .later [] [.data] true (true, "ce86fcedcdc64014d2e7c91b841eb26c422d78267a3e6ffc9f3ccadf34e99134") false
    over (fun _ h => by cases h) (by kernel_rfl) (fun _ h => by cases h) wheelSteps_row_tie rfl ⟨rfl, rfl⟩ (by kernel_rfl) rfl
    (fun f fn hf hfn => by
      obtain rfl : f = 4 := Option.some.inj ((show Tryd.prog.funcNamed "mizzen/mizzenlaw2.WheelSteps" = some 4 by kernel_rfl).symm.trans hf) |>.symm
      obtain rfl : fn = Tryd.f4 := (Option.some.inj (Tryd.func4.symm.trans hfn)).symm
      exact ⟨by kernel_rfl, fun j t ht => by
        rw [Tryd.params4] at ht
        have hm : t ∈ [50, 50] := by simpa using Array.mem_of_getElem? ht
        have hall : ([50, 50].all fun u => !Tryd.prog.wantsStandIn u) = true := by kernel_rfl
        exact (show Tryd.prog.wantsStandIn t = false by simpa using List.all_eq_true.1 hall t hm)⟩)
    (by kernel_rfl)
#print axioms proved
end Go.Proofs.YtfdijagjbpaejaaDoor.wheelSteps
