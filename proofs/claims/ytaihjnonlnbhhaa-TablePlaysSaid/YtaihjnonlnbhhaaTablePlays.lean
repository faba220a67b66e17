/- TablePlays (mizzenlaw8): for every most and every list of steps the law returns true (whatever is put, set, got and deleted, each call answers as the document says, and the keys stand in order) and its arguments read as before. Conditions: none. -/
import Derived.Test.YtaihjnonlnbhhaaRows
import Derived.Test.YtaihjnonlnbhhaaEnd
import Derived.Test.YtaihjnonlnbhhaaInts
import Derived.WalkKit
import Derived.ProofKit
import Derived.OpenShut
import Derived.Test.YtaihjnonlnbhhaaTbR31
import Derived.Test.YtaihjnonlnbhhaaTbPm
set_option linter.unusedVariables false
namespace Go.Proofs.Ytaihjnonlnbhhaa.tablePlays
open Go.ChangeShapes Go.WideShapes Go.ChangeAt Go.RowKit Go.Proofs.Ytaihjnonlnbhhaa.Hp Go.Proofs.Ytaihjnonlnbhhaa.End
open Opn TbM TbN TbR TbK TbL TbC
theorem own : ownKnob Try.prog.godebug = none := by kernel_rfl
attribute [local go_sem ↓] Go.wp_at_zero Go.wp_at_succ
set_option maxRecDepth 100000 in
set_option maxHeartbeats 16000000 in
theorem walk (a0 : Int) (a1 : List (List Value)) (s1 : Option Addr) (cap1 : Nat) (w : World) (w0 : (Lit.int .i64 a0).wf = true) (w1 : Mixed w s1 cap1 [some .i64, some .i64, some .u64, none] a1) :
    Calls Try.prog 9 #[.int .i64 a0, .slice s1 a1.length cap1] w fun e w' => e = .returned (.bool true) ∧ Old w w' := by
  have HC := Lib.hid fun w => awake_any w
  have W1 := Lib.hid w1
  have hb := bounds_i64 w0
  clear w0 w1
  obtain ⟨z1, hz1⟩ : ∃ z, a1.length = z := ⟨_, rfl⟩
  have HZ1 := Lib.hid hz1
  rw [hz1]
  clear hz1
  go_enter Try.func9, Try.ntmps9
  go_upto_block 0 with (fail)
  go_cut [5] (fun s5 wx => ∃ n : Int, s5 = .int .i64 n ∧ 0 ≤ n ∧ (n ≤ 1000 → z1 ≤ 1000) ∧ Hid (Old w wx))
  case first =>
    go_wp2_with fail
    go_loopg [5, 6] z1 (fun kx s5 s6 wr => ∃ (i : Nat) (n : Int), Hid (z1 - i ≤ kx) ∧ i ≤ z1 ∧ s5 = .int .i64 n ∧ s6 = .int .i64 (i : Nat) ∧ 0 ≤ n ∧ (n ≤ 1000 → (i : Int) ≤ n) ∧ Hid (Old w wr))
    case atStart => exact ⟨0, 0, Lib.hid (by omega), by omega, rfl, rfl, by omega, by omega, Lib.hid (Old.refl w)⟩
    case round =>
      obtain ⟨i, n, hkx, hi, rfl, rfl, hn0, hin, hO⟩ := hrel
      rcases Nat.lt_or_ge i z1 with hlt | hge
      · by_cases hn : n ≤ 1000
        · obtain ⟨r, g, off, hr, hrl, hfit, rfl, hg, hcell⟩ := W1.out.row (i := i) (by rw [HZ1.out]; exact hlt)
          obtain ⟨kd, pe, id, vv, rfl, hid, hv⟩ : ∃ (kd pe id : Int) (vv : ByteArray), r = [.int .i64 kd, .int .i64 pe, .int .u64 id, .string vv] ∧ 0 ≤ id ∧ vv.size ≤ maxLen := by
            rcases r with _ | ⟨r0, _ | ⟨r1, _ | ⟨r2, _ | ⟨r3, _ | ⟨_, _⟩⟩⟩⟩⟩
            · simp at hrl
            · simp at hrl
            · simp at hrl
            · simp at hrl
            · obtain ⟨kd, rfl, _⟩ := hfit 0 (some .i64) r0 rfl rfl
              obtain ⟨pe, rfl, _⟩ := hfit 1 (some .i64) r1 rfl rfl
              obtain ⟨id, rfl, hw⟩ := hfit 2 (some .u64) r2 rfl rfl
              obtain ⟨vv, rfl, hs⟩ := hfit 3 none r3 rfl rfl
              exact ⟨kd, pe, id, vv, rfl, (bounds_u64 hw).1, hs⟩
            · simp at hrl
          have q3 : wr.cell? ⟨g, off + i * 4 + 3, none⟩ = some (.string vv) := hcell wr hO.out 3 _ rfl
          unfold maxLen at hv
          clear hr hrl hfit hcell
          have hka := (Kept.refl (fun _ => False) wr).alloc (.cells #[.int .i64 (vv.size : Nat), .int .i64 1] 3)
          have S2 := Lib.hid (sum_two n (vv.size : Int) wr.heap.size _ (Blk.new wr [.int .i64 (vv.size : Nat), .int .i64 1] 3) hn0 hn (by omega) (by omega))
          have HKA := Lib.hid hka
          clear hka
          go_wp2_with fail
          with_reducible refine Calls.mono S2.out ?_
          rintro e w' ⟨⟨r, rfl, r0, r1, r2⟩, rfl⟩
          go_wp2_with fail
          go_roundg (z1 - (i + 1))
          case measure => have := hkx.out; omega
          case rel =>
            refine ⟨i + 1, r, Lib.hid (Nat.le_refl _), by omega, rfl, by go_num, r0, fun hr => ?_, Lib.hid (hO.out.trans HKA.out)⟩
            have := hin hn
            rcases Int.lt_or_le 1000 (n + (vv.size : Int) + 1) with h | h
            · have := r2 h; omega
            · have := r1 h; omega
        · have hn' : decide (n ≤ 1000) = false := by rw [decide_eq_false_iff_not]; exact hn
          go_wp2_with fail
          go_meet
          exact ⟨n, rfl, hn0, fun h => by omega, hO⟩
      · have hge' : ¬ ((i : Int) < (z1 : Int)) := by omega
        go_wp2_with fail
        go_meet
        exact ⟨n, rfl, hn0, fun h => by have := hin h; omega, hO⟩
  case rest =>
  obtain ⟨n, rfl, hn0, hz, hO⟩ := hcut
  by_cases hn : n ≤ 1000
  · have hzl := hz hn
    have hn' : decide ((1000 : Int) < n) = false := by rw [decide_eq_false_iff_not]; omega
    clear hz
    by_cases hm : 1 ≤ a0 ∧ a0 ≤ 100000
    · obtain ⟨most, rfl⟩ : ∃ most : Nat, a0 = most := ⟨a0.toNat, by omega⟩
      have g1 : 1 ≤ most := by omega
      have g2 : most ≤ 100000 := by omega
      have g3 : (1 : Int) ≤ (most : Int) := by omega
      have g4 : (most : Int) ≤ 100000 := by omega
      have N := Lib.hid fun w => TbS.new_st g1 g2 w
      clear hm hb hn hn0
      go_wp2_with fail
      with_reducible refine Calls.mono (N.out _) ?_
      rintro e w2 ⟨b, F, rfl, hS⟩
      have HP : Hid (P0 w b most [] [] F (.slice none 0 0) w2) := Lib.hid ⟨⟨hO.out.trans hS.1, by
        obtain ⟨S, v, t⟩ := hS.2
        exact ⟨S, v, ⟨t.blk, t.lies, t.room, t.perm, t.keys, t.fb, t.fv, fun k hk => ⟨Nat.le_trans hO.out.size (t.own k hk).1, (t.own k hk).2⟩, t.few, t.most1⟩⟩⟩, Rw.Row.none cT _ _, fun g hg => (by cases hg), List.Pairwise.nil⟩
      clear hS N
      go_wp2_with fail
      clear hn' g3 g4
      go_loopg [10, 11] z1 (fun kx s10 s11 wr => ∃ (i : Nat) (m : List Ce) (F : Nat → Prop), Hid (z1 - i ≤ kx) ∧ i ≤ z1 ∧ s11 = .int .i64 (i : Nat) ∧ Hid (m.length ≤ i) ∧ Hid (P0 w b most m m F s10 wr))
      case atStart => exact ⟨0, [], F, Lib.hid (by omega), by omega, rfl, Lib.hid (by simp), HP⟩
      case round =>
        clear HP hO
        obtain ⟨i, m, F, hkx, hi, rfl, hml, hP⟩ := hrel
        rcases Nat.lt_or_ge i z1 with hlt | hge
        · obtain ⟨r, g, off, hr, hrl, hfit, rfl, hg, hcell⟩ := W1.out.row (i := i) (by rw [HZ1.out]; exact hlt)
          obtain ⟨kd, pe, id, vv, rfl, hid, hv⟩ : ∃ (kd pe id : Int) (vv : ByteArray), r = [.int .i64 kd, .int .i64 pe, .int .u64 id, .string vv] ∧ 0 ≤ id ∧ vv.size ≤ maxLen := by
            rcases r with _ | ⟨r0, _ | ⟨r1, _ | ⟨r2, _ | ⟨r3, _ | ⟨_, _⟩⟩⟩⟩⟩
            · simp at hrl
            · simp at hrl
            · simp at hrl
            · simp at hrl
            · obtain ⟨kd, rfl, _⟩ := hfit 0 (some .i64) r0 rfl rfl
              obtain ⟨pe, rfl, _⟩ := hfit 1 (some .i64) r1 rfl rfl
              obtain ⟨id, rfl, hw⟩ := hfit 2 (some .u64) r2 rfl rfl
              obtain ⟨vv, rfl, hs⟩ := hfit 3 none r3 rfl rfl
              exact ⟨kd, pe, id, vv, rfl, (bounds_u64 hw).1, hs⟩
            · simp at hrl
          have q0 : wr.cell? ⟨g, off + i * 4, none⟩ = some (.int .i64 kd) := hcell wr hP.out.st.1 0 _ rfl
          have q1 : wr.cell? ⟨g, off + i * 4 + 1, none⟩ = some (.int .i64 pe) := hcell wr hP.out.st.1 1 _ rfl
          have q2 : wr.cell? ⟨g, off + i * 4 + 2, none⟩ = some (.int .u64 id) := hcell wr hP.out.st.1 2 _ rfl
          have q3 : wr.cell? ⟨g, off + i * 4 + 3, none⟩ = some (.string vv) := hcell wr hP.out.st.1 3 _ rfl
          clear hr hrl hfit hcell
          go_upto_region 19 with (fail)
          have hX := hP.out.st.off_new [.int .i64 kd, .int .i64 pe, .int .u64 id, .string vv] 56
          have hka := (Kept.refl (fun _ => False) wr).alloc (.cells #[.int .i64 kd, .int .i64 pe, .int .u64 id, .string vv] 56)
          have hP1 := hP.out.keep hka
          have hxv : u10.ownBlock ≠ some wr.heap.size := fun e => by have := (hP.out.row.lt _ e).2; omega
          have HX := Lib.hid hX
          have HP1 := Lib.hid hP1
          have HXV := Lib.hid hxv
          clear hX hka hP1 hxv q0 q1 q2 q3 hP
          generalize wr.alloc (.cells #[.int .i64 kd, .int .i64 pe, .int .u64 id, .string vv] 56) = wx at *
          generalize wr.heap.size = bx at *
          have q1 := HX.out.1.cell (o := 1) rfl
          have q2 := HX.out.1.cell (o := 2) rfl
          go_upto_region 20 with (fail)
          have hK := HP1.out.st.off_new [.int .i64 pe, .int .u64 id] 62
          have hka := (Kept.refl (fun _ => False) wx).alloc (.cells #[.int .i64 pe, .int .u64 id] 62)
          have HL : Hid (Pl w b most m m F u10 bx wx.heap.size kd pe id vv (wx.alloc (.cells #[.int .i64 pe, .int .u64 id] 62))) :=
            Lib.hid ⟨HP1.out.keep hka, HX.out.old hka, hK, HXV.out, fun e => (by have := (HP1.out.row.lt _ e).2; omega)⟩
          clear hK hka q1 q2 HP1 HX HXV
          generalize wx.alloc (.cells #[.int .i64 pe, .int .u64 id] 62) = wk at *
          generalize wx.heap.size = bk at *
          have hmz : m.length ≤ 1000 := by have := hml.out; omega
          have FA := Lib.hid (find_any HL.out.p.row (by omega) (pe, id))
          have k0 := HL.out.k.1.cell (o := 0) rfl
          have k1 := HL.out.k.1.cell (o := 1) rfl
          go_wp2_with fail
          with_reducible refine Calls.mono FA.out ?_
          rintro e w3 ⟨rfl, k3⟩
          have HL3 := Lib.hid (HL.out.keep k3)
          clear k3 FA k0 k1 HL
          have x0 := HL3.out.x.1.cell (o := 0) rfl
          go_upto_block 4 with (fail)
          go_cut [10, 15] (fun v s15 wx => ∃ (m2 : List Ce) (F2 : Nat → Prop), Hid (m2.length ≤ i + 1) ∧ Hid (Pl w b most m2 m2 F2 v bx bk kd pe id vv wx))
          case first =>
            have STAY : Hid (∀ w', Kept (fun _ => False) w3 w' → ∃ (m2 : List Ce) (F2 : Nat → Prop), Hid (m2.length ≤ i + 1) ∧ Hid (Pl w b most m2 m2 F2 u10 bx bk kd pe id vv w')) := Lib.hid fun w' k => ⟨m, F, Lib.hid (by have := hml.out; omega), Lib.hid (HL3.out.keep k)⟩
            have x3 := HL3.out.x.1.cell (o := 3) rfl
            have k0 := HL3.out.k.1.cell (o := 0) rfl
            have k1 := HL3.out.k.1.cell (o := 1) rfl
            have hsr := HL3.out.p.srt
            by_cases kd1 : kd = 1
            · subst kd1
              cases hh : has (pe, id) m
              · have hno := has_no hsr hh
                obtain ⟨a, cc, hu10, hlc, hcm⟩ := HL3.out.p.row.slice
                by_cases hf : most ≤ m.length
                · have P := Lib.hid (TbS.full_st HL3.out.p.st hno hf vv)
                  clear hh hno hsr
                  subst hu10
                  go_wp2_with fail
                  with_reducible refine Calls.mono P.out ?_
                  rintro e w4 ⟨rfl, k4⟩
                  have HK4 := Lib.hid k4
                  clear k4 P
                  go_wp2_with fail
                  go_meet
                  exact STAY.out _ HK4.out
                · have P := Lib.hid (TbS.put_st HL3.out.p.st hno (by omega) (by have := hml.out; omega) vv)
                  have HS := Lib.hid (put_srt hsr hh vv)
                  have HPM := Lib.hid (put_perm (pe, id) vv m)
                  clear hh hno hsr
                  subst hu10
                  go_wp2_with fail
                  with_reducible refine Calls.mono P.out ?_
                  rintro e w4 ⟨rfl, F4, hS4, hn4⟩
                  have HL4 := Lib.hid (HL3.out.turn hS4 hn4)
                  clear hS4 hn4 P STAY x0 x3 k0 k1
                  have x3 := HL4.out.x.1.cell (o := 3) rfl
                  have k0 := HL4.out.k.1.cell (o := 0) rfl
                  have k1 := HL4.out.k.1.cell (o := 1) rfl
                  go_upto_region 31 with (fail)
                  refine r31 _ _ _ _ _ _ _ _ _ _ _ _ _ _ _ _ _ _ _ _ _ _ _ _ _ _ _ _ _ _ _ _ _ _ _ _ _ _ _ _ _ _ _ _ _ _ _ _ _ _ _ _ _ _ _ _ _ _ _ _ _ _ _ _ _ _ _ _ _ _ _ _ _ _ _ _ _ _ _ _ _ _ _ _ _ _ _ _ _ _ _ _ _ _ _ _ _ _ _ _ _ _ _ _ _ _ _ _ _ _ _ _ _ _ _ _ _ _ _ _ _ _ _ _ _ _ _ _ _ _ _ _ _ _ _ _ _ _ _ _ _ _ _ _ _ _ _ _ _ _ _ _ _ _ _ _ _ _ _ _ _ _ _ _ _ _ _ _ _ _ _ _ _ _ _ _ _ _ _ _ _ _ _ _ _ _ _ _ _ _ _ _ _ _ _ _ _ _ _ _ _ _ _ _ _ _ _ _ _ _ _ _ _ _ _ _ _ _ _ _ _ _ _ _ _ _ _ _ _ _ _ _ HL4.out.p.row HL4.out.p.st.1.size hmz hlc (place_le _ _) x3 k0 k1 HL4.out.x.1.lt HL4.out.k.1.lt ?_
                  intro v118 v119 v120 v121 v122 v123 v124 v125 v126 v127 v128 v129 v130 v131 v132 mv5 w5 hr5 hk5 ho5
                  have HL5 := Lib.hid (HL4.out.laid hk5 hr5 ho5 HS.out HPM.out.symm)
                  clear x3 k0 k1 hr5 hk5 ho5 HL4 HS HPM
                  go_wp2_with fail
                  go_meet
                  exact ⟨_, F4, Lib.hid (by rw [List.length_append, List.length_append, List.length_take, List.length_drop]; have := hml.out; have := place_le (pe, id) m; simp; omega), HL5⟩
              · obtain ⟨u, hu⟩ := has_yes hh
                have P := Lib.hid (TbS.there_st HL3.out.p.st (List.mem_of_getElem? hu) vv)
                clear hh hu hsr
                go_wp2_with fail
                with_reducible refine Calls.mono P.out ?_
                rintro e w4 ⟨rfl, k4⟩
                have HK4 := Lib.hid k4
                clear k4 P
                go_wp2_with fail
                go_meet
                exact STAY.out _ HK4.out
            · by_cases kd2 : kd = 2
              · subst kd2
                cases hh : has (pe, id) m
                · have P := Lib.hid (TbS.unset_st HL3.out.p.st (has_no hsr hh) vv)
                  clear hh hsr
                  go_wp2_with fail
                  with_reducible refine Calls.mono P.out ?_
                  rintro e w4 ⟨rfl, k4⟩
                  have HK4 := Lib.hid k4
                  clear k4 P
                  go_wp2_with fail
                  go_meet
                  exact STAY.out _ HK4.out
                · obtain ⟨u, hu⟩ := has_yes hh
                  obtain ⟨g4, cap, cur, hu10, hgW, hL⟩ : ∃ g cap cur, u10 = .slice (some ⟨g, 0, none⟩) m.length cap ∧ w.heap.size ≤ g ∧ Rw.Lies cT w3 g cap cur m := by
                    rcases HL3.out.p.row.form with ⟨_, e⟩ | ⟨g, cap, cur, e, h1, h2⟩
                    · rw [e] at hu; simp at hu
                    · exact ⟨g, cap, cur, e, h1, h2⟩
                  have hpl := (List.getElem?_eq_some_iff.1 hu).1
                  have P := Lib.hid (TbS.set_st HL3.out.p.st (out_perm hu) vv)
                  have HU := Lib.hid hu
                  have HSP := Lib.hid (set_perm hpl ((pe, id), vv))
                  clear hh hsr hu hL
                  subst hu10
                  generalize hplace : place (pe, id) m = pl at *
                  clear hplace
                  go_wp2_with fail
                  with_reducible refine Calls.mono P.out ?_
                  rintro e w4 ⟨rfl, F4, hS4, hn4⟩
                  have HL4 := Lib.hid (HL3.out.turn hS4 hn4)
                  clear hS4 hn4 P STAY x0 x3 k0 k1
                  have x3 := HL4.out.x.1.cell (o := 3) rfl
                  have fr := Lib.hid (HL4.out.stored HU.out vv HSP.out.symm)
                  obtain ⟨cur4, hL4⟩ : ∃ cur, Rw.Lies cT w4 g4 cap cur m := by
                    rcases HL4.out.p.row.form with ⟨e, _⟩ | ⟨g, cap, cur, e, h1, h2⟩
                    · cases e
                    · cases e; exact ⟨cur, h2⟩
                  have q := hL4.cell HU.out (j := 2) rfl
                  have f := hL4.blk.frozen (pl * 3 + 2)
                  have gl := hL4.blk.lt
                  clear hL4
                  go_wp2_with fail
                  go_meet
                  exact ⟨_, F4, Lib.hid (by rw [List.length_set]; have := hml.out; omega), fr⟩
              · by_cases kd4 : kd = 4
                · subst kd4
                  cases hh : has (pe, id) m
                  · have P := Lib.hid (TbS.gone_st HL3.out.p.st (has_no hsr hh))
                    clear hh hsr
                    go_wp2_with fail
                    with_reducible refine Calls.mono P.out ?_
                    rintro e w4 ⟨rfl, k4⟩
                    have HK4 := Lib.hid k4
                    clear k4 P
                    go_wp2_with fail
                    go_meet
                    exact STAY.out _ HK4.out
                  · obtain ⟨u, hu⟩ := has_yes hh
                    obtain ⟨a, cc, hu10, hlc, hcm⟩ := HL3.out.p.row.slice
                    have P := Lib.hid (TbS.del_st HL3.out.p.st (out_perm hu))
                    have HS := Lib.hid (out_srt hsr (place (pe, id) m))
                    have hpl := (List.getElem?_eq_some_iff.1 hu).1
                    clear hh hu hsr
                    subst hu10
                    go_wp2_with fail
                    with_reducible refine Calls.mono P.out ?_
                    rintro e w4 ⟨rfl, F4, hS4, hn4⟩
                    have HL4 := Lib.hid (HL3.out.turn hS4 hn4)
                    clear hS4 hn4 P STAY x0 x3 k0 k1
                    go_upto_region 42 with (fail)
                    refine r42 _ _ _ _ _ _ _ _ _ _ _ _ _ _ _ _ _ _ _ _ _ _ _ _ _ _ _ _ _ _ _ _ _ _ _ _ _ _ _ _ _ _ _ _ _ _ _ _ _ _ _ _ _ _ _ _ _ _ _ _ _ _ _ _ _ _ _ _ _ _ _ _ _ _ _ _ _ _ _ _ _ _ _ _ _ _ _ _ _ _ _ _ _ _ _ _ _ _ _ _ _ _ _ _ _ _ _ _ _ _ _ _ _ _ _ _ _ _ _ _ _ _ _ _ _ _ _ _ _ _ _ _ _ _ _ _ _ _ _ _ _ _ _ _ _ _ _ _ _ _ _ _ _ _ _ _ _ _ _ _ _ _ _ _ _ _ _ _ _ _ _ _ _ _ _ _ _ _ _ _ _ _ _ _ _ _ _ _ _ _ _ _ _ _ _ _ _ _ _ _ _ _ _ _ _ _ _ _ _ _ _ _ _ _ _ _ _ _ _ _ _ _ _ _ _ _ _ _ _ _ _ _ HL4.out.p.row HL4.out.p.st.1.size hmz hlc hpl ?_
                    intro v168 v169 v170 v171 v172 v173 v174 v175 v176 v177 mv5 w5 hr5 hk5 ho5
                    have HL5 := Lib.hid (HL4.out.laid hk5 hr5 ho5 HS.out (List.Perm.refl _))
                    clear hr5 hk5 ho5 HL4 HS
                    go_wp2_with fail
                    go_meet
                    exact ⟨_, F4, Lib.hid (by rw [List.length_append, List.length_take, List.length_drop]; have := hml.out; omega), HL5⟩
                · have e1 : (kd == 1) = false := by simpa using kd1
                  have e2 : (kd == 2) = false := by simpa using kd2
                  have e4 : (kd == 4) = false := by simpa using kd4
                  go_wp2_with fail
                  go_meet
                  exact STAY.out _ (Kept.refl _ _)
          case rest =>
            obtain ⟨m2, F2, hm2, hL2⟩ := hcut
            clear HL3 x0 hmz
            have hm2' : m2.length ≤ 1000 := by have := hm2.out; omega
            have FA2 := Lib.hid (find_any hL2.out.p.row (by omega) (pe, id))
            have k0 := hL2.out.k.1.cell (o := 0) rfl
            have k1 := hL2.out.k.1.cell (o := 1) rfl
            have hsr := hL2.out.p.srt
            obtain ⟨a2, c2, hu2, hlc2, hcm2⟩ := hL2.out.p.row.slice
            subst hu2
            cases hh : has (pe, id) m2
            · have hno := has_no hsr hh
              rw [hh] at FA2
              clear hh hsr
              generalize place (pe, id) m2 = pl at *
              go_wp2_with fail
              with_reducible refine Calls.mono FA2.out ?_
              rintro e w5 ⟨rfl, k5⟩
              have HL5 := Lib.hid (hL2.out.keep k5)
              clear k5 FA2 k0 k1
              have k0 := HL5.out.k.1.cell (o := 0) rfl
              have k1 := HL5.out.k.1.cell (o := 1) rfl
              have GT := Lib.hid (TbS.got_st HL5.out.p.st hno)
              go_wp2_with fail
              with_reducible refine Calls.mono GT.out ?_
              rintro e w6 ⟨rfl, k6⟩
              have HL6 := Lib.hid (HL5.out.keep k6)
              have LN := Lib.hid (TbS.len_st HL6.out.p.st)
              clear k6 GT k0 k1
              go_wp2_with fail
              with_reducible refine Calls.mono LN.out ?_
              rintro e w7 ⟨rfl, rfl⟩
              go_wp2_with fail
              go_roundg (z1 - (i + 1))
              case measure => have := hkx.out; omega
              case rel => exact ⟨i + 1, m2, F2, Lib.hid (Nat.le_refl _), by omega, by go_num, hm2, Lib.hid HL6.out.p⟩
            · obtain ⟨u, hu⟩ := has_yes hh
              rw [hh] at FA2
              have hmem := List.mem_of_getElem? hu
              have hpl := (List.getElem?_eq_some_iff.1 hu).1
              have HU := Lib.hid hu
              clear hh hsr hu
              generalize place (pe, id) m2 = pl at *
              go_wp2_with fail
              with_reducible refine Calls.mono FA2.out ?_
              rintro e w5 ⟨rfl, k5⟩
              have HL5 := Lib.hid (hL2.out.keep k5)
              clear k5 FA2 k0 k1
              have k0 := HL5.out.k.1.cell (o := 0) rfl
              have k1 := HL5.out.k.1.cell (o := 1) rfl
              obtain ⟨g5, rfl, cur, hLi⟩ : ∃ g5, a2 = some ⟨g5, 0, none⟩ ∧ ∃ cur, Rw.Lies cT w5 g5 c2 cur m2 := by
                rcases HL5.out.p.row.form with ⟨_, e⟩ | ⟨g, cap, cur, e, h1, h2⟩
                · rw [e] at hpl; simp at hpl
                · cases e; exact ⟨g, rfl, cur, h2⟩
              have q := hLi.cell HU.out (j := 2) rfl
              have GT := Lib.hid (TbS.get_st HL5.out.p.st hmem)
              clear hLi
              go_wp2_with fail
              with_reducible refine Calls.mono GT.out ?_
              rintro e w6 ⟨rfl, k6⟩
              have HL6 := Lib.hid (HL5.out.keep k6)
              have LN := Lib.hid (TbS.len_st HL6.out.p.st)
              clear k6 GT k0 k1 q
              go_wp2_with fail
              with_reducible refine Calls.mono LN.out ?_
              rintro e w7 ⟨rfl, rfl⟩
              go_wp2_with fail
              go_roundg (z1 - (i + 1))
              case measure => have := hkx.out; omega
              case rel => exact ⟨i + 1, m2, F2, Lib.hid (Nat.le_refl _), by omega, by go_num, hm2, Lib.hid HL6.out.p⟩
        · have hge' : ¬ ((i : Int) < (z1 : Int)) := by omega
          have hmz : m.length ≤ 1000 := by have := hml.out; omega
          obtain ⟨a2, c2, hu2, hlc2, hcm2⟩ := hP.out.row.slice
          subst hu2
          have KY := Lib.hid (TbS.keys_any hP.out.st.2)
          go_wp2_with fail
          with_reducible refine Calls.mono KY.out ?_
          rintro e w5 ⟨g5, cap5, cur5, kl, rfl, hL5, hpm, hsd, hg5, hk5⟩
          have hke : kl = m.map Prod.fst := sorted_one hpm hsd (srt_keys hP.out.srt)
          have hkl : kl.length = m.length := by rw [hke, List.length_map]
          have HKE := Lib.hid hke
          have HP5 := Lib.hid (hP.out.keep hk5)
          have HL5 := Lib.hid hL5
          rw [hkl]
          clear hke hkl hpm hsd hg5 hk5 hL5 hge hge' hkx hi hP KY
          generalize hml2 : m.length = ml at *
          have HML := Lib.hid hml2
          clear hml2
          go_wp2_with fail
          go_loopg [22] ml (fun kx s22 wr => ∃ (j : Nat), Hid (ml - j ≤ kx) ∧ j ≤ ml ∧ s22 = .int .i64 (j : Nat) ∧ Hid (Kept (fun _ => False) w5 wr))
          case atStart => exact ⟨0, Lib.hid (by omega), by omega, rfl, Lib.hid (Kept.refl _ w5)⟩
          case round =>
            obtain ⟨j, hkx, hj, rfl, hk⟩ := hrel
            rcases Nat.lt_or_ge j ml with hlt | hge
            · obtain ⟨⟨⟨p1, p2⟩, pv⟩, hx⟩ : ∃ x, m[j]? = some x := ⟨_, List.getElem?_eq_getElem (by rw [HML.out]; exact hlt)⟩
              have hx2 : kl[j]? = some (p1, p2) := by rw [HKE.out, List.getElem?_map, hx]; rfl
              have hLk := HL5.out.kept hk.out (fun f => f)
              have e0 : wr.cell? ⟨g5, j * 2, none⟩ = some (.int .i64 p1) := hLk.cell hx2 (j := 0) rfl
              have e1 : wr.cell? ⟨g5, j * 2 + 1, none⟩ = some (.int .u64 p2) := hLk.cell hx2 (j := 1) rfl
              obtain ⟨g6, rfl, cur6, hLi⟩ : ∃ g6, a2 = some ⟨g6, 0, none⟩ ∧ ∃ cur, Rw.Lies cT wr g6 c2 cur m := by
                rcases (HP5.out.row.old hk.out).form with ⟨_, e⟩ | ⟨g, cap, cur, e, h1, h2⟩
                · rw [e] at hx; simp at hx
                · cases e; exact ⟨g, rfl, cur, h2⟩
              have q0 : wr.cell? ⟨g6, j * 3, none⟩ = some (.int .i64 p1) := hLi.cell hx (j := 0) rfl
              have q1 : wr.cell? ⟨g6, j * 3 + 1, none⟩ = some (.int .u64 p2) := hLi.cell hx (j := 1) rfl
              have hc5 : ml ≤ cap5 := by have := HL5.out.le; rw [HKE.out, List.length_map, HML.out] at this; exact this
              have nk := neq_key p1 p2
              clear hx hx2 hLk hLi
              go_upto_region 56 with (fail)
              go_quiet (fail)
              have HK2 := Lib.hid (hk.out.drewN nq)
              clear e0 e1 q0 q1 nk hk
              go_wp2_with fail
              go_roundg (ml - (j + 1))
              case measure => have := hkx.out; omega
              case rel => exact ⟨j + 1, Lib.hid (Nat.le_refl _), by omega, by go_num, HK2⟩
            · have hge' : ¬ ((j : Int) < (ml : Int)) := by omega
              go_wp2_with fail
              with_reducible refine Calls.mono (HC.out _) ?_
              rintro e w6 ⟨rfl, ho⟩
              go_wp2_with fail
              go_ret
              exact ⟨rfl, (HP5.out.st.1.trans hk.out).trans ho⟩
    · have NO := Lib.hid fun w => TbS.new_no hm w
      have hc : decide (1 ≤ a0) = false ∨ (1 ≤ a0 ∧ decide (a0 ≤ 100000) = false) := by rw [decide_eq_false_iff_not, decide_eq_false_iff_not]; omega
      clear hm hb
      rcases hc with h3 | ⟨h3, h4⟩
      all_goals
        go_wp2_with fail
        with_reducible refine Calls.mono (NO.out _) ?_
        rintro e w1 ⟨rfl, rfl⟩
        go_wp2_with fail
        with_reducible refine Calls.mono (HC.out _) ?_
        rintro e w' ⟨rfl, ho⟩
        go_wp2_with fail
        go_ret
        exact ⟨rfl, hO.out.trans ho⟩
  · have hn' : (1000 : Int) < n := by omega
    clear hz hb hn
    go_wp2_with fail
    with_reducible refine Calls.mono (HC.out _) ?_
    rintro e w' ⟨rfl, ho⟩
    go_wp2_with fail
    go_ret
    exact ⟨rfl, hO.out.trans ho⟩
set_option maxRecDepth 100000 in
set_option maxHeartbeats 1000000 in
theorem lifted (os : Os) (started : os.Started) (H : Type) (enc : TypeId × Value → H) :
    ReturnsInHanded {} Try.checked os 9 .any (Rows.tablePlaysSpec.pre6 enc Try.prog Try.f9 Rows.tablePlaysRow.domain false) (Rows.tablePlaysSpec.post enc Try.prog Try.f9 false true false false) := by
  refine returnsInHanded_of_change (C := Try.checked) own started (by kernel_rfl) Try.func9
    (ChangeSpec.witness6 (enc := enc) (C := Try.checked) false ⟨#[], #[.int .i64 0, .slice none 0 0], []⟩ 8 (by kernel_rfl) (by kernel_rfl) (by kernel_rfl) (by kernel_rfl)) ?_
  intro W base args ds gs before hval0 hW hcnd _
  have hval : ∀ (j : Nat) t v, Try.f9.params[j]? = some t → args[j]? = some v → Value.okWide Try.prog W .any base t v := hval0
  have hW' := hW
  obtain ⟨p, q, hA0, hV, rfl, hfz, hnd⟩ := hW
  have hA : DataW.TrodAll enc Try.prog W 0 (fun _ => true) true Try.f9.params.toList args.toList ds p := hA0
  rw [Try.params9] at hA hval
  obtain ⟨v0, vs0, d0, ds0, p0, q0, hargs, rfl, rfl, h0, r0⟩ := trodAll_cons hA
  obtain ⟨v1, vs1, d1, ds1, p1, q1, rfl, rfl, rfl, h1, r1⟩ := trodAll_cons r0
  obtain ⟨rfl, rfl, rfl⟩ := trodAll_nil r1
  obtain rfl : args = #[v0, v1] := by cases args; simp_all
  obtain ⟨rfl, rfl⟩ := trodVars_none hV
  obtain ⟨a0, rfl, rfl, rfl, w0⟩ := open_int Try.underlying3 (hval 0 3 v0 rfl rfl) h0
  obtain ⟨s1, cap1, a1, rfl, w1⟩ := Opn.mixed_of [some .i64, some .i64, some .u64, none] Try.underlying53 Try.underlying56 (by kernel_rfl) (by kernel_rfl) rfl (by decide) (by intro j f hf; rcases j with _ | _ | _ | _ | j; (simp at hf; subst hf; exact ⟨some .i64, rfl, Try.underlying3⟩); (simp at hf; subst hf; exact ⟨some .i64, rfl, Try.underlying3⟩); (simp at hf; subst hf; exact ⟨some .u64, rfl, Try.underlying30⟩); (simp at hf; subst hf; exact ⟨none, rfl, Try.underlying9⟩); (simp at hf)) (hval 1 53 v1 rfl rfl) h1
  clear hA0 hval0
  refine (walk a0 a1 s1 cap1 W w0 w1).mono fun e W' ⟨he, hg⟩ => ?_
  subst he
  exact ⟨_, rfl, post_of_old hW' (fun _ _ _ => (trodAll_cons_mk (shut_bool Try.underlying4 _) trodAll_mk0)) (fun sp hsp => (trodAll_cons_mk (shut_int Try.underlying3 w0) (trodAll_cons_mk (Opn.back (by kernel_rfl) (of_decide_eq_true (by kernel_rfl)) h1 hg (fun x hx => hW'.lt x (by simp [hx])) (fun x hx => hsp x (by simp [hx]))) trodAll_mk0))) (fun _ _ => rfl)
    hg (ok_one (by kernel_rfl) rfl (okWide_bool_mk Try.underlying4 _))⟩
theorem over : Rows.tablePlaysRow.holds Try.pinned (OpenSpec.ofChange Rows.tablePlaysSpec) :=
  OpenClaim.holds_of_wide 9 Try.f9 rfl rfl rfl rfl rfl rfl rfl ⟨rfl, rfl, rfl, rfl, rfl⟩ rfl rfl rfl rfl rfl (by kernel_rfl) Try.func9 (by kernel_rfl)
    (of_decide_eq_true (by kernel_rfl)) (by unfold Func.isWrapper; first | (rw [if_pos (by decide +kernel)]; kernel_rfl) | (rw [if_neg (by decide +kernel)]; exact ⟨rfl, rfl⟩))
    (fun os started H enc _ => lifted os started H enc)
theorem proved : Rows.TablePlaysSaid :=
  over
#print axioms proved
end Go.Proofs.Ytaihjnonlnbhhaa.tablePlays
