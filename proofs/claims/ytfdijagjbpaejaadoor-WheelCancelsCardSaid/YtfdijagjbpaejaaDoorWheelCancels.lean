/- WheelCancels (mizzenlaw2): for every two ints and slice of ints the law returns true and its arguments read as before. Conditions: the table of math/bits holds what its text lays (tied to the program's text). -/
import Derived.Test.YtfdijagjbpaejaaDoorRows
import Derived.Test.YtfdijagjbpaejaaDoorCards
import Derived.Test.YtfdijagjbpaejaaDoorTie
import Derived.Test.YtfdijagjbpaejaaDoorTab
import Derived.Test.YtfdijagjbpaejaaDoorEnd
import Derived.WalkKit
import Derived.ProofKit
import Derived.OpenShut
import Derived.LaidMore
import Derived.Stop.Joined
import Derived.SevenTiedAt
import Derived.Test.YtfdijagjbpaejaaDoorOpen
import Derived.Test.YtfdijagjbpaejaaDoorWk2
import Derived.Laws.OwnMore
import Derived.Deep.DeepCutAuto
set_option linter.unusedVariables false
namespace Go.Proofs.YtfdijagjbpaejaaDoor.wheelCancels
open Go.ChangeShapes Go.WideShapes Go.ChangeAt Go.RowKit Go.Proofs.YtfdijagjbpaejaaDoor.Hp Go.Proofs.YtfdijagjbpaejaaDoor.End Go.Proofs.YtfdijagjbpaejaaDoor.TabL
open Go.Proofs.YtfdijagjbpaejaaDoor.Awake Wk
theorem own : ownKnob Tryd.prog.godebug = none := by kernel_rfl
theorem door_met (os : Os) (args : Array Value) : laidMetH Tryd.prog [("math/bits.deBruijn32tab", Rows.laid_math_bits_deBruijn32tab)] ((World.doorLaid Tryd.prog 400 os).forCall (fun _ _ => 0) ⟨#[], args, []⟩).memory :=
  laidMetH_of_parts3 (fuel := 8) (laidMet_of_run' 8 (by kernel_rfl) (by kernel_rfl)) (by kernel_rfl) (by kernel_rfl)
set_option maxRecDepth 100000 in
set_option maxHeartbeats 2000000 in
theorem early (a0 a2 : Int) (ys : List Int) (s1 : Option Addr) (cap1 : Nat) (w : World) (hT : Wh.Tab w) (h : a0 < 0 ∨ 50 < a0 ∨ 50 < ys.length ∨ a2 < 0 ∨ 1000 < a2) :
    Calls Tryd.prog 5 #[.int .i64 a0, .slice s1 ys.length cap1, .int .i64 a2] w fun e w' => e = .returned (.bool true) ∧ Old w w' := by
  have HC := Lib.hid (awake_any w hT)
  by_cases h1 : a0 < 0
  · clear h
    go_enter Tryd.func5, Tryd.ntmps5
    go_wp2_with (go_at_call 8; refine HC.out.mono ?_; rintro e w' ⟨rfl, ho⟩)
    go_ret
    exact ⟨rfl, ho⟩
  · by_cases h2 : 50 < a0
    · clear h
      go_enter Tryd.func5, Tryd.ntmps5
      go_wp2_with (go_at_call 8; refine HC.out.mono ?_; rintro e w' ⟨rfl, ho⟩)
      go_ret
      exact ⟨rfl, ho⟩
    · by_cases h3 : 50 < ys.length
      · clear h
        go_enter Tryd.func5, Tryd.ntmps5
        go_wp2_with (go_at_call 8; refine HC.out.mono ?_; rintro e w' ⟨rfl, ho⟩)
        go_ret
        exact ⟨rfl, ho⟩
      · by_cases h4 : a2 < 0
        · clear h
          go_enter Tryd.func5, Tryd.ntmps5
          go_wp2_with (go_at_call 8; refine HC.out.mono ?_; rintro e w' ⟨rfl, ho⟩)
          go_ret
          exact ⟨rfl, ho⟩
        · have h5 : 1000 < a2 := by omega
          clear h
          go_enter Tryd.func5, Tryd.ntmps5
          go_wp2_with (go_at_call 8; refine HC.out.mono ?_; rintro e w' ⟨rfl, ho⟩)
          go_ret
          exact ⟨rfl, ho⟩
/-- The times of the Adds. -/
def pat (n : Nat) : List Int := (List.range n).map fun i => ((i * 7 % 100 : Nat) : Int)
theorem pat_at {n i : Nat} (h : i < n) : (pat n).getD i 0 = ((i * 7 % 100 : Nat) : Int) := by
  simp [pat, List.getD, h]
theorem built_has (zs : List Int) : ∀ i m, 1 ≤ m → m ≤ i → ∃ k ∈ built zs i, k.2.1 = m
  | 0, m, h1, h2 => by omega
  | i + 1, m, h1, h2 => by
    have hin : ∀ {x : Key} {K : List Key} {k : Key}, k = x ∨ k ∈ K → k ∈ ins x K := by
      intro x K k h
      unfold ins
      rcases h with rfl | h
      · simp
      · by_cases hk : k.1 ≤ x.1
        · exact List.mem_append_left _ (List.mem_filter.2 ⟨h, decide_eq_true hk⟩)
        · exact List.mem_append_right _ (List.mem_cons_of_mem _ (List.mem_filter.2 ⟨h, decide_eq_true (by omega)⟩))
    by_cases h : m = i + 1
    · exact ⟨_, hin (Or.inl rfl), h.symm⟩
    · obtain ⟨k, hk, e⟩ := built_has zs i m h1 (by omega)
      exact ⟨k, hin (Or.inr hk), e⟩
/-- Those not taken back. -/
def alive (gl : List Bool) (K : List Key) : List Key := K.filter (fun k => !gl.getD k.2.1 false)
theorem alive_set {gl : List Bool} {K : List Key} {m : Nat} (hm : m < gl.length) : without m (alive gl K) = alive (gl.set m true) K := by
  unfold without alive
  rw [List.filter_filter]
  refine List.filter_congr fun k _ => ?_
  by_cases h : k.2.1 = m
  · rw [h]; simp [List.getD, hm]
  · have h' : ¬ m = k.2.1 := fun e => h e.symm
    simp [List.getD, h, h']
theorem alive_new (n : Nat) (K : List Key) : alive (List.replicate n false) K = K :=
  filter_all (fun k _ => by simp only [List.getD, List.getElem?_replicate]; split <;> rfl)
theorem mem_alive {gl : List Bool} {K : List Key} {k : Key} : k ∈ alive gl K ↔ k ∈ K ∧ gl.getD k.2.1 false = false := by
  unfold alive
  rw [List.mem_filter]
  simp
theorem cnt_step : ∀ (R : List Key), (R.map (·.2.1)).Nodup → ∀ i, (R.filter (fun k => decide (k.2.1 < i + 1))).length = (R.filter (fun k => decide (k.2.1 < i))).length + (if R.any (fun k => k.2.1 == i) then 1 else 0)
  | [], _, i => by simp
  | k :: R, h, i => by
    rw [List.map_cons, List.nodup_cons] at h
    have ih := cnt_step R h.2 i
    rw [List.filter_cons, List.filter_cons, List.any_cons]
    by_cases hk : k.2.1 = i
    · have hno : R.any (fun k => k.2.1 == i) = false := by
        rw [List.any_eq_false]
        intro x hx e
        exact h.1 (by rw [hk, ← (beq_iff_eq.1 e)]; exact List.mem_map_of_mem hx)
      rw [hno] at ih
      rw [if_pos (by simp; omega), if_neg (by simp; omega), hno]
      simp [hk] at ih ⊢
      omega
    · have e : (k.2.1 == i) = false := beq_eq_false_iff_ne.2 hk
      rw [e, Bool.false_or]
      by_cases hlt : k.2.1 < i
      · rw [if_pos (by simp; omega), if_pos (by simpa using hlt), List.length_cons, List.length_cons, ih]
        omega
      · rw [if_neg (by simp; omega), if_neg (by simpa using hlt), ih]
theorem any_take {D : List Key} {i : Nat} (h : i < D.length) (x : Nat) : (D.take (i + 1)).any (fun k => k.2.1 == x) = ((D.take i).any (fun k => k.2.1 == x) || D[i].2.1 == x) := by
  rw [List.take_add_one, List.any_append]
  simp [List.getElem?_eq_getElem h]
theorem id_inj : ∀ {K : List Key}, (K.map (·.2.1)).Nodup → ∀ {a b : Key}, a ∈ K → b ∈ K → a.2.1 = b.2.1 → a = b
  | [], _, a, b, ha, _, _ => by simp at ha
  | k :: K, h, a, b, ha, hb, e => by
    rw [List.map_cons, List.nodup_cons] at h
    rcases List.mem_cons.1 ha with ea | ha'
    · rcases List.mem_cons.1 hb with eb | hb'
      · rw [ea, eb]
      · exact absurd (by rw [← ea, e]; exact List.mem_map_of_mem hb') h.1
    · rcases List.mem_cons.1 hb with eb | hb'
      · exact absurd (by rw [← eb, ← e]; exact List.mem_map_of_mem ha') h.1
      · exact id_inj h.2 ha' hb' e
theorem infoBool : (Tryd.prog.info? 4).map (fun i => (i.zero, i.size, i.bytes)) = some (some (.bool false), 1, 1) := by kernel_rfl
theorem make_bools (m : Nat) (c : Int) (hc : c = (m : Int)) (hm : m ≤ 1000) (w : World) : (Instr.makeSlice 53 (.int .i64 c) (.int .i64 c)).run Tryd.prog w = .ok (.slice (some ⟨w.heap.size, 0, none⟩) m m) (w.alloc (.cells (Array.replicate m (.bool false)) 4)) := by
  subst hc
  obtain ⟨ti, hti, hz0, hz1, hz2⟩ := info_parts infoBool
  have h := run_make (P := Tryd.prog) w 53 4 ti (.bool false) Tryd.underlying53 hti hz0 .i64 .i64 m m (by omega) (by omega) (by rw [hz2]; omega) (by omega)
  rw [h, hz1]
  have e : madeCells (Value.bool false).cells ((m : Int).toNat * 1) = Array.replicate m (.bool false) := by
    have := toList_madeCells_one (.bool false) m
    apply Array.toList_inj.1
    simpa [Value.cells] using this
  rw [e]
  simp
set_option maxRecDepth 100000 in
set_option maxHeartbeats 8000000 in
theorem late (n tt : Nat) (ys : List Int) (s1 : Option Addr) (cap1 : Nat) (w : World) (hT : Wh.Tab w) (hn : n ≤ 50) (ht : tt ≤ 1000) (hy : ys.length ≤ 50) (hY : Ints w s1 cap1 ys) :
    Calls Tryd.prog 5 #[.int .i64 n, .slice s1 ys.length cap1, .int .i64 tt] w fun e w' => e = .returned (.bool true) ∧ Old w w' := by
  have HY := Lib.hid hY
  clear hY
  go_enter Tryd.func5, Tryd.ntmps5
  go_wp2_with fail
  refine (new_yes 50 (by omega) (by omega) w hT).mono ?_
  rintro e w1 ⟨b1, F1, rfl, hw1, hk1, hF1⟩
  have hT1 : Wh.Tab w1 := hT.kept hk1 (fun h => h)
  have hF1 : Hid (∀ k, F1 k → w.heap.size ≤ k) := hF1
  go_wp2_with fail
  go_loopg [9, 10, 11] n (fun k s9 s10 s11 wq => ∃ (i : Nat) (F : Nat → Prop), Hid (k = n - i) ∧ i ≤ n ∧ s9 = .int .i64 ((i : Nat) : Int) ∧
    Wl wq b1 50 0 i (built (pat n) i) F ∧ Hid (∀ k, F k → w.heap.size ≤ k) ∧ Wh.Tab wq ∧ Old w wq)
  case atStart =>
    exact ⟨0, F1, rfl, by omega, rfl, hw1, hF1, hT1, hk1⟩
  case round =>
    obtain ⟨i, F, hk, hi, rfl, hw, hF, hTr, hO⟩ := hrel
    clear hw1 hF1 hT1 hk1
    by_cases hlt : i < n
    · have AD := add_ok hw (i * 7 % 100) (i : Int) (by omega) (by rw [built_len]; omega) (by omega)
      have ea : ((i * 7 % 100 : Nat) : Int) = ((i : Int) * 7) % 100 := by omega
      rw [ea] at AD
      have AD := Lib.hid AD
      clear ea
      go_wp2_with fail
      refine AD.out.mono ?_
      rintro e w2 ⟨F2, rfl, hw2, hk2, hF2⟩
      go_wp2_with fail
      go_roundg (n - (i + 1))
      case measure => have := hk.out; omega
      case rel =>
        have eb : built (pat n) (i + 1) = ins (max (i * 7 % 100) 0, i + 1, (i : Int)) (built (pat n) i) := by
          rw [built, pat_at hlt, Int.toNat_natCast, Nat.max_zero]
        refine ⟨i + 1, F2, rfl, by omega, by simp, by rw [eb]; exact hw2, fun j e => ?_, hTr.kept hk2 hw.off, hO.trans' hk2 (fun j hj e => ?_)⟩
        · rcases hF2 j e with e | e
          · exact hF.out j e
          · exact Nat.le_trans hO.size e
        · have := hF.out j e; omega
    · obtain rfl : n = i := by omega
      have hmk := fun w' => make_bools (n + 1) ((n : Int) + 1) (by omega) (by omega) w'
      go_wp2_with fail
      have hgb := Blk.new wr ((List.replicate (n + 1) false).map Value.bool) 4
      have e : ((List.replicate (n + 1) false).map Value.bool).toArray = Array.replicate (n + 1) (Value.bool false) := by simp
      rw [e] at hgb
      clear e
      have K1 : Kept (fun _ => False) wr (wr.alloc (.cells (Array.replicate (n + 1) (.bool false)) 4)) := (Kept.refl _ wr).alloc _
      have hw2 := hw.kept K1 (fun _ _ h => h)
      have hT2 := hTr.kept K1 (fun h => h)
      have hO2 : Old w (wr.alloc (.cells (Array.replicate (n + 1) (.bool false)) 4)) := hO.trans K1
      have hF2 : Hid (∀ k, F k → w.heap.size ≤ k ∧ k < wr.heap.size) := fun k h => ⟨hF.out k h, hw.lt k h⟩
      have hB0 : w.heap.size ≤ wr.heap.size := hO.size
      clear hmk K1 hw hTr hO hF
      generalize (wr.alloc (.cells (Array.replicate (n + 1) (.bool false)) 4)) = w2 at *
      generalize wr.heap.size = gb at *
      obtain ⟨K0, hK0⟩ : ∃ K0, K0 = built (pat n) n := ⟨_, rfl⟩
      have KM : Hid (∀ k ∈ K0, ∃ v : Nat, v < n ∧ k = (((pat n).getD v 0).toNat, v + 1, (v : Int))) := by rw [hK0]; exact built_mem (pat n) n
      have KH : Hid (∀ m, 1 ≤ m → m ≤ n → ∃ k ∈ K0, k.2.1 = m) := by rw [hK0]; exact built_has (pat n) n
      rw [← hK0] at hw2
      have hKl : Hid (K0.length = n) := by rw [hK0]; exact built_len _ n
      clear hK0
      go_wp2_with fail
      go_loopg [13, 14, 15] ys.length (fun k s13 s14 s15 wq => ∃ (j : Nat) (gl : List Bool) (F : Nat → Prop), Hid (k = ys.length - j) ∧ j ≤ ys.length ∧ s13 = .int .i64 ((j : Nat) : Int) ∧ Hid (gl.length = n + 1) ∧
        Blk wq gb (gl.map Value.bool) 4 ∧ Wl wq b1 50 0 n (alive gl K0) F ∧ Hid (∀ k, F k → w.heap.size ≤ k ∧ k < gb) ∧ Wh.Tab wq ∧ Old w wq)
      case atStart =>
        exact ⟨0, List.replicate (n + 1) false, F, rfl, by omega, rfl, by simp [Hid], hgb, by rw [alive_new]; exact hw2, hF2, hT2, hO2⟩
      case round =>
        clear hgb hw2 hT2 hO2 hF2
        obtain ⟨j, gl, F, hk, hj, rfl, hgl, hgb, hw, hF, hTx, hOx⟩ := hrel
        by_cases hlt : j < ys.length
        · obtain ⟨b, off, rfl, hb, hc⟩ := HY.out.at hOx hlt
          have hwf := HY.out.wf hlt
          obtain ⟨z, hzz⟩ : ∃ z, z = ys[j] := ⟨_, rfl⟩
          rw [← hzz] at hc hwf
          clear hzz
          by_cases hz : z < 1 ∨ (n : Int) < z
          · have CN := cancel_no hw z (fun k hk => by
              obtain ⟨v, hv, e⟩ := KM.out k (mem_alive.1 hk).1
              rw [e]; show ((v + 1 : Nat) : Int) ≠ z; omega)
            have CN := Lib.hid CN
            rcases hz with hz | hz
            · go_wp2_with (go_at_call 12; refine CN.out.mono ?_; rintro e w' ⟨rfl, rfl⟩)
              go_roundg (ys.length - (j + 1))
              case measure => have := hk.out; omega
              case rel => exact ⟨j + 1, gl, F, rfl, by omega, by simp, hgl, hgb, hw, hF, hTx, hOx⟩
            · have hz1 : ¬ z < 1 := by omega
              go_wp2_with (go_at_call 12; refine CN.out.mono ?_; rintro e w' ⟨rfl, rfl⟩)
              go_roundg (ys.length - (j + 1))
              case measure => have := hk.out; omega
              case rel => exact ⟨j + 1, gl, F, rfl, by omega, by simp, hgl, hgb, hw, hF, hTx, hOx⟩
          · obtain ⟨m, rfl⟩ : ∃ m : Nat, z = (m : Int) := ⟨z.toNat, by omega⟩
            have hm1 : 1 ≤ m := by omega
            have hmn : m ≤ n := by omega
            have hmg : m < gl.length := by have := hgl.out; omega
            clear hz
            have hgc : wr.cell? ⟨gb, m, none⟩ = some (.bool gl[m]) := hgb.cell (by simp [hmg])
            by_cases hg : gl[m] = true
            · rw [hg] at hgc
              have CN := cancel_no hw (m : Int) (fun k hk => by
                have := (mem_alive.1 hk).2
                intro e
                have e : k.2.1 = m := by omega
                rw [e] at this
                simp [List.getD, List.getElem?_eq_getElem hmg, hg] at this)
              have CN := Lib.hid CN
              have HG := Lib.hid hg
              clear hg
              go_wp2_with (go_at_call 12; refine CN.out.mono ?_; rintro e w' ⟨rfl, rfl⟩)
              go_roundg (ys.length - (j + 1))
              case measure => have := hk.out; omega
              case rel => exact ⟨j + 1, gl, F, rfl, by omega, by simp, hgl, hgb, hw, hF, hTx, hOx⟩
            · have hg : gl[m] = false := by simpa using hg
              rw [hg] at hgc
              have CY := cancel_yes hw hTx m (by
                obtain ⟨k, hk, e⟩ := KH.out m hm1 hmn
                refine ⟨k, mem_alive.2 ⟨hk, ?_⟩, e⟩
                rw [e]
                simp [List.getD, List.getElem?_eq_getElem hmg, hg])
              unfold CancelK at CY
              rw [alive_set hmg] at CY
              have CY := Lib.hid CY
              have HG := Lib.hid hg
              clear hg
              go_wp2_with fail
              refine CY.out.mono ?_
              rintro e w3 ⟨F3, rfl, hw3, hk3, hF3⟩
              have hgb3 := hk3.blk hgb (fun e => by have := (hF.out gb e).2; omega)
              have hgc3 : w3.cell? ⟨gb, m, none⟩ = some (.bool false) := by
                have : w3.cell? ⟨gb, m, none⟩ = some (.bool gl[m]) := hgb3.cell (by simp [hmg])
                rw [HG.out] at this
                exact this
              have hgf3 := hgb3.frozen m
              have hT3 := hTx.kept hk3 hw.off
              have hO3 : Old w w3 := hOx.trans' hk3 (fun i hi e => by have := (hF.out i e).1; omega)
              obtain ⟨b', off', e', _, hc3⟩ := HY.out.at hO3 hlt
              cases e'
              have hyz : ys[j] = (m : Int) := by
                have h1 := kept_cell hk3 (World.block_lt_of_cell? wr _ hc) (fun e => by have := (hF.out b e).1; omega) (off + j)
                rw [h1, hc] at hc3
                simp only [Option.some.injEq, Value.int.injEq, true_and] at hc3
                exact hc3.symm
              rw [hyz] at hc3
              clear CY hc hgc hw hgb hTx hOx hyz
              go_wp2_with fail
              have hK4 := Kept.one w3 gb m (.bool true)
              have hgb4 := hgb3.set m (.bool true)
              have e4 : (gl.map Value.bool).set m (.bool true) = (gl.set m true).map Value.bool := by rw [List.map_set]
              rw [e4] at hgb4
              have hw4 := hw3.kept hK4 (fun k h e => by have := (hF.out k (hF3 k h)).2; omega)
              have hT4 := hT3.kept hK4 (fun e => by have := World.block_lt_of_cell? w _ (hT 0 (by decide)); omega)
              have hO4 : Old w (w3.setCell ⟨gb, m, none⟩ (.bool true)) := hO3.trans' hK4 (fun i hi e => by omega)
              clear hk3 hgc3 hgf3 hT3 hO3 hc3 hgb3 hw3 hK4 e4
              generalize w3.setCell ⟨gb, m, none⟩ (.bool true) = w4 at *
              go_wp2_with fail
              go_roundg (ys.length - (j + 1))
              case measure => have := hk.out; omega
              case rel => exact ⟨j + 1, gl.set m true, F3, rfl, by omega, by simp, by have := hgl.out; unfold Hid; rw [List.length_set]; exact this, hgb4, hw4, fun k h => hF.out k (hF3 k h), hT4, hO4⟩
        · obtain ⟨K1, hK1⟩ : ∃ K1, K1 = alive gl K0 := ⟨_, rfl⟩
          rw [← hK1] at hw
          have hids := hw.ids
          have hK1l : K1.length ≤ 50 := by
            have := List.length_filter_le (fun k : Key => !gl.getD k.2.1 false) K0
            have h2 := hKl.out
            rw [hK1]; unfold alive; omega
          have AV := advance_any hw hTx (tt : Int) (by omega) tt (by omega)
          unfold AdvK at AV
          obtain ⟨D, hD⟩ : ∃ D, D = upTo tt K1 := ⟨_, rfl⟩
          obtain ⟨R, hR⟩ : ∃ R, R = past tt K1 := ⟨_, rfl⟩
          rw [← hD, ← hR] at AV
          have hDs : D.Sublist K1 := by rw [hD]; exact List.filter_sublist
          have hRs : R.Sublist K1 := by rw [hR]; exact List.filter_sublist
          have HDn : Hid ((D.map (·.2.1)).Nodup) := hids.2.sublist (hDs.map _)
          have HRn : Hid ((R.map (·.2.1)).Nodup) := hids.2.sublist (hRs.map _)
          have HDm : Hid (∀ k ∈ D, 1 ≤ k.2.1 ∧ k.2.1 ≤ n ∧ k.1 ≤ tt ∧ gl.getD k.2.1 false = false) := fun k hk => by
            have h1 := hids.1 k (hDs.subset hk)
            have h2 := hDs.subset hk
            rw [hK1] at h2
            rw [hD] at hk
            exact ⟨h1.1, h1.2, of_decide_eq_true (List.mem_filter.1 hk).2, (mem_alive.1 h2).2⟩
          have HRm : Hid (∀ k ∈ R, 1 ≤ k.2.1 ∧ k.2.1 ≤ n) := fun k hk => hids.1 k (hRs.subset hk)
          have hRl50 : R.length ≤ 50 := Nat.le_trans hRs.length_le hK1l
          have HRa : Hid (∀ m, 1 ≤ m → m ≤ n → gl.getD m false = false → D.any (fun k => k.2.1 == m) = false → R.any (fun k => k.2.1 == m) = true ∧ tt < (m - 1) * 7 % 100) := fun m h1 h2 h3 h4 => by
            obtain ⟨k, hk, e⟩ := KH.out m h1 h2
            have hk1 : k ∈ K1 := by rw [hK1]; exact mem_alive.2 ⟨hk, by rw [e]; exact h3⟩
            have hnD : ¬ k.1 ≤ tt := fun h => by
              have : k ∈ D := by rw [hD]; exact List.mem_filter.2 ⟨hk1, decide_eq_true h⟩
              have := List.any_eq_false.1 h4 k this
              exact this (by simpa using e)
            have hkR : k ∈ R := by rw [hR]; exact List.mem_filter.2 ⟨hk1, decide_eq_true (by omega)⟩
            refine ⟨List.any_eq_true.2 ⟨k, hkR, by simpa using e⟩, ?_⟩
            obtain ⟨v, hv, ek⟩ := KM.out k hk
            rw [ek] at e hnD
            have e : v + 1 = m := e
            have hnD : ¬ ((pat n).getD v 0).toNat ≤ tt := hnD
            rw [pat_at hv, Int.toNat_natCast] at hnD
            rw [← e]
            simpa using hnD
          have HRd : Hid (∀ m, gl.getD m false = true ∨ D.any (fun k => k.2.1 == m) = true → R.any (fun k => k.2.1 == m) = false) := fun m h => by
            rw [List.any_eq_false]
            intro k hk e
            have e : k.2.1 = m := by simpa using e
            have hk1 := hRs.subset hk
            rcases h with h | h
            · rw [hK1] at hk1
              have := (mem_alive.1 hk1).2
              rw [e, h] at this
              cases this
            · obtain ⟨d, hd, e2⟩ := List.any_eq_true.1 h
              have e2 : d.2.1 = m := by simpa using e2
              have hd1 := hDs.subset hd
              have : d = k := id_inj hids.2 hd1 hk1 (e2.trans e.symm)
              subst this
              rw [hD] at hd
              rw [hR] at hk
              have h1 := of_decide_eq_true (List.mem_filter.1 hd).2
              have h2 := of_decide_eq_true (List.mem_filter.1 hk).2
              omega
          have HRl : Hid ((R.filter (fun k => decide (k.2.1 < n + 1))).length = R.length) := by
            unfold Hid
            rw [filter_all (fun k hk => decide_eq_true (by have := (HRm.out k hk).2; omega))]
          have hDl : D.length ≤ 50 := Nat.le_trans hDs.length_le hK1l
          have AV := Lib.hid AV
          clear hD hR hDs hRs hids hK1
          go_wp2_with fail
          refine AV.out.mono ?_
          rintro e w5 ⟨F5, vl, rfl, r5, hw5, hk5, hF5⟩
          have r5 : Row w5 wr.heap.size vl D := r5
          obtain ⟨sl, capl, rfl, hcapl⟩ := r5.shape rfl
          have hgb5 := hk5.blk hgb (fun e => by have := (hF.out gb e).2; omega)
          have hT5 := hTx.kept hk5 hw.off
          have hO5 : Old w w5 := hOx.trans' hk5 (fun i hi e => by have := (hF.out i e).1; omega)
          have hF5 : Hid (∀ k, F5 k → w.heap.size ≤ k ∧ k < gb) := fun k h => hF.out k (hF5 k h)
          have hgB : gb < wr.heap.size := hgb.lt
          have HGL := hgl
          have hg0 : (0) < w.heap.size := World.block_lt_of_cell? w _ (hT 0 (by decide))
          clear AV hgb hw hTx hOx hk5 hF hk hgl
          generalize wr.heap.size = B at *
          go_wp2_with fail
          go_loopg [17] D.length (fun k s17 wq => ∃ (i : Nat) (g3 : List Bool), Hid (k = D.length - i) ∧ i ≤ D.length ∧ s17 = .int .i64 ((i : Nat) : Int) ∧ Hid (g3.length = n + 1) ∧ Hid (∀ x, g3.getD x false = (gl.getD x false || (D.take i).any (fun k => k.2.1 == x))) ∧
            Blk wq gb (g3.map Value.bool) 4 ∧ Row wq B (.slice sl D.length capl) D ∧ Wl wq b1 50 tt n R F5 ∧ Wh.Tab wq ∧ Old w wq)
          case atStart =>
            exact ⟨0, gl, rfl, by omega, rfl, HGL, by simp [Hid], hgb5, r5, hw5, hT5, hO5⟩
          case round =>
            clear hgb5 r5 hw5 hT5 hO5
            obtain ⟨i, g3, hk, hi, rfl, hgl, hany, hgb, hr, hw, hTx, hOx⟩ := hrel
            by_cases hlt : i < D.length
            · obtain ⟨g, rfl, hg, c0, c1, c2⟩ := hr.at hlt
              obtain ⟨hd1, hd2, hd3, hd4⟩ := HDm.out D[i] (List.getElem_mem hlt)
              obtain ⟨d, hd⟩ : ∃ d, d = D[i].2.1 := ⟨_, rfl⟩
              obtain ⟨t, ht'⟩ : ∃ t, t = D[i].1 := ⟨_, rfl⟩
              rw [← hd] at hd1 hd2 hd4 c1
              rw [← ht'] at hd3 c0
              have hdg : d < g3.length := by have := hgl.out; omega
              have hfree : g3[d] = false := by
                have h1 := hany.out d
                rw [hd4, Bool.false_or] at h1
                have h2 : (D.take i).any (fun k => k.2.1 == d) = false := by
                  rw [List.any_eq_false]
                  intro k hk e
                  have e : k.2.1 = d := by simpa using e
                  obtain ⟨q, hq, rfl⟩ := List.getElem_of_mem hk
                  rw [List.getElem_take] at e
                  have hqi : q < i := by rw [List.length_take] at hq; omega
                  have hn := HDn.out
                  rw [List.Nodup, List.pairwise_map] at hn
                  exact List.pairwise_iff_getElem.1 hn q i (by omega) hlt hqi (by rw [e, hd])
                rw [h2] at h1
                simpa [List.getD, List.getElem?_eq_getElem hdg] using h1
              have hgc : wr.cell? ⟨gb, d, none⟩ = some (.bool false) := by
                have : wr.cell? ⟨gb, d, none⟩ = some (.bool g3[d]) := hgb.cell (by simp [hdg])
                rw [hfree] at this
                exact this
              have hgf := hgb.frozen d
              have HD := Lib.hid hd
              have q1 : ¬ ((d : Int) < 1) := by omega
              have q2 : ¬ ((n : Int) < (d : Int)) := by omega
              have q3 : ¬ ((tt : Int) < (t : Int)) := by omega
              have q4 : ¬ n < d := by omega
              have q5 : ¬ tt < t := by omega
              have q6 : d < n + 1 := by omega
              have HFR := Lib.hid hfree
              have gne : g ≠ gb := by omega
              clear hd ht' hfree c2
              go_wp2_with fail
              have hK4 := Kept.one wr gb d (.bool true)
              have hgb4 := hgb.set d (.bool true)
              have e4 : (g3.map Value.bool).set d (.bool true) = (g3.set d true).map Value.bool := by rw [List.map_set]
              rw [e4] at hgb4
              have hw4 := hw.kept hK4 (fun k h e => by have := (hF5.out k h).2; omega)
              have hr4 := hr.kept hK4 (fun k h _ e => by omega)
              have hT4 := hTx.kept hK4 (fun e => by omega)
              have hO4 : Old w (wr.setCell ⟨gb, d, none⟩ (.bool true)) := hOx.trans' hK4 (fun i hi e => by omega)
              go_roundg (D.length - (i + 1))
              case measure => have := hk.out; omega
              case rel =>
                refine ⟨i + 1, g3.set d true, rfl, by omega, by simp, by have := hgl.out; unfold Hid; rw [List.length_set]; exact this, fun x => ?_, hgb4, hr4, hw4, hT4, hO4⟩
                rw [any_take hlt, ← HD.out, ← Bool.or_assoc, ← hany.out x]
                by_cases hx : d = x
                · subst hx
                  simp [List.getD, hdg]
                · have hx' : (d == x) = false := beq_eq_false_iff_ne.2 hx
                  simp [List.getD, hx, hx']
            · obtain rfl : i = D.length := by omega
              rw [List.take_length] at hany
              have LEN := Lib.hid (len_any hw)
              have HC := Lib.hid (awake_any wr hTx)
              clear hr hw hTx
              go_wp2_with fail
              go_loopg [18, 19] n (fun k s18 s19 wq => ∃ (i c : Nat), Hid (k = n + 1 - i) ∧ 1 ≤ i ∧ i ≤ n + 1 ∧ c ≤ 100 ∧ s18 = .int .i64 ((c : Nat) : Int) ∧ s19 = .int .i64 ((i : Nat) : Int) ∧ Hid ((R.filter (fun k => decide (k.2.1 < i))).length = c) ∧ wq = wr)
              case atStart =>
                refine ⟨1, 0, by unfold Hid; omega, by omega, by omega, by omega, rfl, rfl, ?_, rfl⟩
                unfold Hid
                rw [filter_none (fun k hk => by have := (HRm.out k hk).1; simp; omega)]
                rfl
              case round =>
                clear hk
                obtain ⟨i, c, hk, hi1, hi, hc, rfl, rfl, hcnt, rfl⟩ := hrel
                by_cases hlt : i ≤ n
                · have hig : i < g3.length := by have := hgl.out; omega
                  have hgc : wr.cell? ⟨gb, i, none⟩ = some (.bool g3[i]) := hgb.cell (by simp [hig])
                  have hst := cnt_step R HRn.out i
                  have hle := List.length_filter_le (fun k : Key => decide (k.2.1 < i + 1)) R
                  by_cases hg : g3[i] = true
                  · have h1 := hany.out i
                    have hno : R.any (fun k => k.2.1 == i) = false := HRd.out i (by
                      simp only [List.getD, List.getElem?_eq_getElem hig, Option.getD_some, hg] at h1
                      have := h1.symm
                      simpa using this)
                    rw [hno, hcnt.out] at hst
                    rw [hg] at hgc
                    have HST := Lib.hid hst
                    clear hst hle h1 hno hg
                    go_wp2_with fail
                    go_roundg (n + 1 - (i + 1))
                    case measure => have := hk.out; omega
                    case rel => exact ⟨i + 1, c, rfl, by omega, by omega, hc, rfl, by simp, by have := HST.out; unfold Hid; simpa using this, rfl⟩
                  · have hg : g3[i] = false := by simpa using hg
                    have h1 := hany.out i
                    simp only [List.getD, List.getElem?_eq_getElem hig, Option.getD_some, hg] at h1
                    have h2 := (Bool.or_eq_false_iff.1 h1.symm)
                    clear h1
                    obtain ⟨hyes, htt⟩ := HRa.out i hi1 hlt (by simpa [List.getD] using h2.1) h2.2
                    rw [hyes, hcnt.out] at hst
                    rw [hg] at hgc
                    obtain ⟨q, hq⟩ : ∃ q, q = i - 1 := ⟨_, rfl⟩
                    rw [← hq] at htt
                    have hqi : (i : Int) - 1 = (q : Int) := by omega
                    have hwq : IntKind.i64.wrap (q : Int) = (q : Int) := by rw [IntKind.wrap_i64]; omega
                    have hwq7 : IntKind.i64.wrap ((q : Int) * 7) = (q : Int) * 7 := by rw [IntKind.wrap_i64]; omega
                    have n1 : ¬ ((q : Int) * 7 % 100 ≤ (tt : Int)) := by omega
                    have n2 : ¬ (q * 7 % 100 ≤ tt) := by omega
                    have hq50 : q ≤ 50 := by omega
                    have hc1 : c + 1 ≤ 100 := by
                      rw [if_pos rfl] at hst
                      omega
                    have HST := Lib.hid hst
                    clear hst hle h2 hyes hg hq htt
                    go_wp2_with fail
                    go_roundg (n + 1 - (i + 1))
                    case measure => have := hk.out; omega
                    case rel => exact ⟨i + 1, c + 1, rfl, by omega, by omega, hc1, by simp, by simp, by have := HST.out; unfold Hid; simpa using this, rfl⟩
                · obtain rfl : i = n + 1 := by omega
                  obtain rfl : c = R.length := by have h1 := hcnt.out; have h2 := HRl.out; omega
                  go_wp2_with (first | (go_at_call 18; refine LEN.out.mono ?_; rintro e w' ⟨rfl, rfl⟩) | (go_at_call 8; refine HC.out.mono ?_; rintro e w' ⟨rfl, ho⟩))
                  go_ret
                  exact ⟨rfl, hOx.trans ho⟩
theorem walk (a0 : Int) (ys : List Int) (s1 : Option Addr) (cap1 : Nat) (a2 : Int) (w : World) (w0 : (Lit.int .i64 a0).wf = true) (hY : Ints w s1 cap1 ys) (w2 : (Lit.int .i64 a2).wf = true) (hT : Wh.Tab w) :
    Calls Tryd.prog 5 #[.int .i64 a0, .slice s1 ys.length cap1, .int .i64 a2] w fun e w' => e = .returned (.bool true) ∧ Old w w' := by
  by_cases h : a0 < 0 ∨ 50 < a0 ∨ 50 < ys.length ∨ a2 < 0 ∨ 1000 < a2
  · exact early a0 a2 ys s1 cap1 w hT h
  · obtain ⟨n, rfl⟩ : ∃ n : Nat, a0 = n := ⟨a0.toNat, by omega⟩
    obtain ⟨tt, rfl⟩ : ∃ n : Nat, a2 = n := ⟨a2.toNat, by omega⟩
    exact late n tt ys s1 cap1 w hT (by omega) (by omega) (by omega) hY
set_option maxRecDepth 100000 in
set_option maxHeartbeats 1000000 in
theorem lifted (os : Os) (started : os.Started) (H : Type) (enc : TypeId × Value → H) :
    ReturnsInHanded {} Tryd.checked os 5 .any (fun w args => (Rows.wheelCancelsSpec.pre enc Tryd.prog Tryd.f5 [] false w args ∧ laidMetH Tryd.prog [("math/bits.deBruijn32tab", Rows.laid_math_bits_deBruijn32tab)] w) ∧ sizedMet enc Tryd.prog Tryd.f5 (OpenSpec.ofChange Rows.wheelCancelsSpec) false w args)
      (Rows.wheelCancelsSpec.post enc Tryd.prog Tryd.f5 false true false false) := by
  refine returnsInHanded_of_change_and (C := Tryd.checked) (X := fun w _ => laidMetH Tryd.prog [("math/bits.deBruijn32tab", Rows.laid_math_bits_deBruijn32tab)] w) (fun _ _ _ hh h => h.of_heap hh) own started (by kernel_rfl) Tryd.func5
    (ChangeSpec.witness_shaped (enc := enc) (C := Tryd.checked) (os := os) (X := fun w _ => laidMetH Tryd.prog [("math/bits.deBruijn32tab", Rows.laid_math_bits_deBruijn32tab)] w) false (World.doorLaid Tryd.prog 400 os) #[.int .i64 0, .slice none 0 0, .int .i64 0] 8 rfl (World.shaped_of_RefB (by kernel_rfl) (by kernel_rfl)) (by kernel_rfl) (by kernel_rfl) (by kernel_rfl) (door_met os _)) ?_
  intro W base args ds gs before hval0 hW _ _ hL _
  have hval : ∀ (j : Nat) t v, Tryd.f5.params[j]? = some t → args[j]? = some v → Value.okWide Tryd.prog W .any base t v := hval0
  have hW' := hW
  obtain ⟨p, q, hA0, hV, rfl, hfz, hnd⟩ := hW
  have hA : DataW.TrodAll enc Tryd.prog W 0 (fun _ => true) true Tryd.f5.params.toList args.toList ds p := hA0
  rw [Tryd.params5] at hA hval
  obtain ⟨v0, vs0, d0, ds0, p0, q0, hargs, rfl, rfl, h0, r0⟩ := trodAll_cons hA
  obtain ⟨v1, vs1, d1, ds1, p1, q1, rfl, rfl, rfl, h1, r1⟩ := trodAll_cons r0
  obtain ⟨v2, vs2, d2, ds2, p2, q2, rfl, rfl, rfl, h2, r2⟩ := trodAll_cons r1
  obtain ⟨rfl, rfl, rfl⟩ := trodAll_nil r2
  obtain rfl : args = #[v0, v1, v2] := by cases args; simp_all
  obtain ⟨rfl, rfl⟩ := trodVars_none hV
  obtain ⟨a0, rfl, rfl, rfl, w0⟩ := open_int Tryd.underlying3 (hval 0 3 v0 rfl rfl) h0
  obtain ⟨s1, cap1, a1, rfl, w1⟩ := Opn.ints_of (hval 1 50 v1 rfl rfl) h1
  obtain ⟨a2, rfl, rfl, rfl, w2⟩ := open_int Tryd.underlying3 (hval 2 3 v2 rfl rfl) h2
  clear hA0 hval0
  refine (walk a0 a1 s1 cap1 a2 W w0 w1 w2 (tab_of_laid hL)).mono fun e W' ⟨he, hg⟩ => ?_
  subst he
  exact ⟨_, rfl, post_of_old hW' (fun _ _ _ => (trodAll_cons_mk (shut_bool Tryd.underlying4 _) trodAll_mk0)) (fun sp hsp => (trodAll_cons_mk (shut_int Tryd.underlying3 w0) (trodAll_cons_mk (Opn.ints_back h1 hg (fun x hx => hW'.lt x (by simp [hx])) (fun x hx => hsp x (by simp [hx]))) (trodAll_cons_mk (shut_int Tryd.underlying3 w2) trodAll_mk0)))) (fun _ _ => rfl)
    hg (ok_one (by kernel_rfl) rfl (okWide_bool_mk Tryd.underlying4 _))⟩
theorem over : Rows.wheelCancelsRow.holds Tryd.pinned (OpenSpec.ofChange Rows.wheelCancelsSpec) :=
  OpenClaim.holds_of_wide 5 Tryd.f5 rfl rfl rfl rfl rfl rfl rfl ⟨rfl, rfl, rfl, rfl, rfl⟩ rfl rfl rfl rfl rfl (by kernel_rfl) Tryd.func5 (by kernel_rfl)
    (of_decide_eq_true (by kernel_rfl)) (by unfold Func.isWrapper; first | (rw [if_pos (by decide +kernel)]; kernel_rfl) | (rw [if_neg (by decide +kernel)]; exact ⟨rfl, rfl⟩))
    (fun os started H enc _ => lifted os started H enc)
theorem proved : Rows.WheelCancelsCardSaid :=
  Claim7.holds_tied_plain_at .later [] [.data] true (true, "ce86fcedcdc64014d2e7c91b841eb26c422d78267a3e6ffc9f3ccadf34e99134") false
    over (fun _ h => by cases h) (by kernel_rfl) (fun _ h => by cases h) wheelCancels_row_tie rfl ⟨rfl, rfl⟩ (by kernel_rfl) rfl
    (fun f fn hf hfn => by
      obtain rfl : f = 5 := Option.some.inj ((show Tryd.prog.funcNamed "mizzen/mizzenlaw2.WheelCancels" = some 5 by kernel_rfl).symm.trans hf) |>.symm
      obtain rfl : fn = Tryd.f5 := (Option.some.inj (Tryd.func5.symm.trans hfn)).symm
      exact ⟨by kernel_rfl, fun j t ht => by
        rw [Tryd.params5] at ht
        have hm : t ∈ [3, 50, 3] := by simpa using Array.mem_of_getElem? ht
        have hall : ([3, 50, 3].all fun u => !Tryd.prog.wantsStandIn u) = true := by kernel_rfl
        exact (show Tryd.prog.wantsStandIn t = false by simpa using List.all_eq_true.1 hall t hm)⟩)
    (by kernel_rfl)
#print axioms proved
end Go.Proofs.YtfdijagjbpaejaaDoor.wheelCancels
