/- FabricArrives (mizzenlaw15): for every four ints the law returns true. Conditions: none beyond the model's. -/
import Derived.Test.YtompbpiaapenaaaRows
import Derived.Test.YtompbpiaapenaaaFbK1
import Derived.WalkKit
import Derived.ProofKit
import Derived.OpenShut
import Derived.Test.YtompbpiaapenaaaFbK28
import Derived.Deep.RegionLaw
import Derived.Deep.RegionHeld3
set_option linter.unusedVariables false
namespace Go.Proofs.Ytompbpiaapenaaa.fabricArrives
open Go.ChangeShapes Go.WideShapes Go.ChangeAt Go.RowKit Go.Proofs.Ytompbpiaapenaaa.Hp Go.Proofs.Ytompbpiaapenaaa.End
open Go.Proofs.Ytompbpiaapenaaa.Po Go.Proofs.Ytompbpiaapenaaa.Fo Go.Proofs.Ytompbpiaapenaaa.FbM Go.Proofs.Ytompbpiaapenaaa.Fb Go.Proofs.Ytompbpiaapenaaa.Tp Go.Proofs.Ytompbpiaapenaaa.TpM QuM Rw WrM
theorem own : ownKnob Try.prog.godebug = none := by kernel_rfl
attribute [local go_sem ↓] Go.wp_at_zero Go.wp_at_succ
set_option maxRecDepth 100000 in
set_option maxHeartbeats 16000000 in
theorem early (H S n m : Int) (w : World) (h : H < 2 ∨ (decide (H < 2) = false ∧ 8 < H) ∨ (decide (H < 2) = false ∧ decide (8 < H) = false ∧ S < 1) ∨ (decide (H < 2) = false ∧ decide (8 < H) = false ∧ decide (S < 1) = false ∧ 4 < S) ∨ (decide (H < 2) = false ∧ decide (8 < H) = false ∧ decide (S < 1) = false ∧ decide (4 < S) = false ∧ n < 0) ∨ (decide (H < 2) = false ∧ decide (8 < H) = false ∧ decide (S < 1) = false ∧ decide (4 < S) = false ∧ decide (n < 0) = false ∧ 40 < n)) :
    Calls Try.prog 4 #[.int .i64 H, .int .i64 S, .int .i64 n, .int .i64 m] w fun e w' => e = .returned (.bool true) ∧ Old w w' := by
  have HC := Lib.hid fun w => Fb.awake_any w
  go_enter Try.func4, Try.ntmps4
  rcases h with h | ⟨d1, h⟩ | ⟨d1, d2, h⟩ | ⟨d1, d2, d3, h⟩ | ⟨d1, d2, d3, d4, h⟩ | ⟨d1, d2, d3, d4, d5, h⟩
  all_goals
    go_wp2_with fail
    with_reducible refine Calls.mono (HC.out _) ?_
    rintro e w7 ⟨rfl, ho⟩
    have HO : Hid (Old w w7) := Lib.hid ho
    clear ho
    go_wp2_with fail
    go_ret
    exact ⟨rfl, HO.out⟩
theorem infoI : (Try.prog.info? 3).map (fun i => (i.zero, i.size, i.bytes)) = some (some (.int .i64 0), 1, 8) := by kernel_rfl
theorem infoB : (Try.prog.info? 4).map (fun i => (i.zero, i.size, i.bytes)) = some (some (.bool false), 1, 1) := by kernel_rfl
theorem madeI (w : World) : (Instr.makeSlice 57 (.int .i64 8) (.int .i64 8)).run Try.prog w = .ok (.slice (some ⟨w.heap.size, 0, none⟩) 8 8) (w.alloc (.cells (List.replicate 8 (Value.int .i64 0)).toArray 3)) := by
  obtain ⟨ti, hti, hz0, hz1, hz2⟩ := info_parts infoI
  have := run_make (P := Try.prog) (w := w) 57 3 ti (.int .i64 0) Try.underlying57 hti hz0 .i64 .i64 ((8 : Nat) : Int) ((8 : Nat) : Int) (by omega) (by omega) (by rw [hz2]; omega) (by omega)
  rw [Int.toNat_natCast, hz1, Nat.mul_one] at this
  have e : madeCells (Value.int .i64 0).cells 8 = (List.replicate 8 (Value.int .i64 0)).toArray := by
    apply Array.toList_inj.1
    have := toList_madeCells_one (.int .i64 0) 8
    rw [show (Value.int .i64 0).cells = #[.int .i64 0] from rfl, this]
  rw [e] at this
  exact this
theorem madeB (N : Nat) (hN : N ≤ 1000) (w : World) : (Instr.makeSlice 63 (.int .i64 (N : Int)) (.int .i64 (N : Int))).run Try.prog w = .ok (.slice (some ⟨w.heap.size, 0, none⟩) N N) (w.alloc (.cells ((List.replicate N false).map Value.bool).toArray 4)) := by
  obtain ⟨ti, hti, hz0, hz1, hz2⟩ := info_parts infoB
  have := run_make (P := Try.prog) (w := w) 63 4 ti (.bool false) Try.underlying63 hti hz0 .i64 .i64 (N : Int) (N : Int) (by omega) (by omega) (by rw [hz2]; omega) (by omega)
  rw [Int.toNat_natCast, hz1, Nat.mul_one] at this
  rw [this]
  have e : madeCells (Value.bool false).cells N = ((List.replicate N false).map Value.bool).toArray := by
    apply Array.toList_inj.1
    have := toList_madeCells_one (.bool false) N
    rw [show (Value.bool false).cells = #[.bool false] from rfl, this]
    simp
  rw [e]
/-- What the law counts for each host. -/
def WL (H m i : Nat) : List Value := (List.range 8).map fun d => Value.int .i64 (cntA H m i d : Nat)
theorem WL_get {H m i d : Nat} (h : d < 8) : (WL H m i)[d]? = some (.int .i64 (cntA H m i d : Nat)) := by
  unfold WL; rw [List.getElem?_map, List.getElem?_range h]; rfl
theorem WL_zero (H m : Nat) : List.replicate 8 (Value.int .i64 0) = WL H m 0 := by
  unfold WL
  have : (fun d : Nat => Value.int .i64 ((cntA H m 0 d : Nat) : Int)) = fun _ => Value.int .i64 0 := by
    funext d
    have := cnt_le H m 0 d
    have e : cntA H m 0 d = 0 := by omega
    rw [e]; rfl
  rw [this]; rfl
theorem WL_set (H m i : Nat) : (WL H m i).set (dA H m i) (.int .i64 ((cntA H m i (dA H m i) : Nat) + 1 : Int)) = WL H m (i + 1) := by
  apply List.ext_getElem?
  intro d
  rw [List.getElem?_set]
  by_cases h8 : d < 8
  · rw [WL_get h8, WL_get h8, cnt_succ]
    by_cases e : dA H m i = d
    · subst e
      rw [if_pos rfl, if_pos rfl, if_pos (by unfold WL; simpa using h8)]
      congr 2
    · rw [if_neg e, if_neg (fun e2 => e e2.symm), Nat.add_zero]
  · have h1 : (WL H m i)[d]? = none := by rw [List.getElem?_eq_none_iff]; unfold WL; simp; omega
    have h2 : (WL H m (i + 1))[d]? = none := by rw [List.getElem?_eq_none_iff]; unfold WL; simp; omega
    rw [h1, h2]
    by_cases e : dA H m i = d
    · subst e; rw [if_pos rfl, if_neg (by unfold WL; simp; omega)]
    · rw [if_neg e]
theorem okA {H m i : Nat} (h1 : 2 ≤ H) (h2 : H ≤ 8) (hi : i ≤ 40) : WrM.Ok (fA H m i) := by
  have a := sA_lt (m := m) (i := i) h1
  have b := dA_lt (m := m) (i := i) h1
  refine ⟨?_, fun _ => ?_, ?_⟩
  · unfold WrM.Fit fA
    dsimp only
    omega
  · show (0 : Int) + 3 ≤ 3; decide
  · unfold WrM.Dat fA
    simp
/-- One Send of the law. -/
theorem sends {H mu n i fb wb : Nat} {S : Int} {M : Mo} {w wr : World} (h1 : 2 ≤ H) (h2 : H ≤ 8) (hi : i < 40) (hF : FX w (KA H S H n) M i [wb] fb wr) (hA : Ar (KA H S H n) (FA H mu i) M) (hP : Phi (KA H S H n) M ≤ 4 * i) (hW : Blk wr wb (WL H mu i) 3) :
    Calls Try.prog 24 #[ptr fb, .int .i64 (sA H mu i : Nat), .agg #[.int .i64 1, .int .i64 (sA H mu i : Nat), .int .i64 (dA H mu i : Nat), .int .i64 0, .int .u64 (i : Nat), .int .i64 0, .int .i64 3, .int .i64 3, .int .i64 0, .slice (some ⟨wr.heap.size, 0, none⟩) 3 3], .int .i64 0] (wr.alloc (.cells #[.int .u8 (i : Nat), .int .u8 1, .int .u8 2] 5)) fun e w' => e = .returned (.tuple #[.int .i64 1, .int .i64 0]) ∧ ∃ M', FX w (KA H S H n) M' ((i + 1 : Nat) : Int) [wb] fb w' ∧ Ar (KA H S H n) (FA H mu (i + 1)) M' ∧ Phi (KA H S H n) M' ≤ 4 * (i + 1) ∧ Blk w' wb (WL H mu i) 3 := by
  have hkD := (Kept.refl (fun _ => False) wr).alloc (.cells [Value.int .u8 (i : Nat), .int .u8 1, .int .u8 2].toArray 5)
  have hBD := Blk.new wr [Value.int .u8 (i : Nat), .int .u8 1, .int .u8 2] 5
  dsimp only [List.toArray] at hkD hBD
  have a := sA_lt (m := mu) (i := i) h1
  have b := dA_lt (m := mu) (i := i) h1
  have ne := dA_ne (m := mu) (i := i) h1
  have hr : Rd (wr.alloc (.cells #[.int .u8 (i : Nat), .int .u8 1, .int .u8 2] 5)) ⟨fA H mu i, some ⟨wr.heap.size, 0, none⟩, 3, 0⟩ := by
    refine ⟨⟨some ⟨wr.heap.size, 0, none⟩, 3, rfl, Nat.le_refl _, Or.inr ⟨wr.heap.size, 0, rfl, hBD.lt, fun j hj => ?_⟩, fun h => by cases h⟩, by show (3 : Nat) ≤ _; decide⟩
    have hj2 : j < 3 := hj
    have hj3 : j = 0 ∨ j = 1 ∨ j = 2 := by omega
    have hu : Byt.bv (UInt8.ofNat i) = .int .u8 (i : Nat) := by
      unfold Byt.bv
      rw [UInt8.toNat_ofNat', Nat.mod_eq_of_lt (by omega)]
    rcases hj3 with rfl | rfl | rfl
    · rw [hBD.cell (o := 0) (v := .int .u8 (i : Nat)) rfl]; exact congrArg some hu.symm
    · exact hBD.cell (o := 1) rfl
    · exact hBD.cell (o := 2) rfl
  have hF' := hF.old hkD
  have hdd : dD (KA H S H n) M (sA H mu i) ⟨fA H mu i, some ⟨wr.heap.size, 0, none⟩, 3, 0⟩ = (1, 0) := by
    have hle := hF.iv.ok
    have hp : sA H mu i < n := by have h9 := hle.n; have h8 := mm_in hle.net; unfold pts at h9; dsimp only at h9 h8; omega
    exact hA.dd hF.iv (by omega) rfl hp (fk_A h1)
  have := fx_send_yes hF' (by omega) (J := (sA H mu i : Nat)) (q := 0) hr ⟨⟨by omega, by show ((sA H mu i : Nat) : Int) < (H : Int); omega⟩, okA h1 h2 (by omega), ⟨by show (0 : Int) ≤ (dA H mu i : Nat); omega, by show ((dA H mu i : Nat) : Int) < (H : Int); omega⟩, by show ¬ ((dA H mu i : Nat) : Int) = (sA H mu i : Nat); omega⟩
  rw [Int.toNat_natCast] at this
  refine this.mono ?_
  rintro e w' ⟨rfl, s, cc, h5, h6⟩
  dsimp only at h5 ⊢
  rw [hdd]
  obtain ⟨g1, g2⟩ := hA.put hF.iv.ok (p := sA H mu i) (x := ⟨fA H mu i, some ⟨wr.heap.size, 0, none⟩, 3, 0⟩) (fk_A h1) rfl rfl hdd s cc
  refine ⟨rfl, _, h5, ?_, by omega, h6.blk (hkD.blk hW (fun f => f)) (fun hn => hn List.mem_cons_self)⟩
  rw [FA_succ]; exact g1
theorem src3 {m0 : Nat} (w : World) (h : m0 < 256) : Byt.Src (w.alloc (.cells #[.int .u8 (m0 : Nat), .int .u8 1, .int .u8 2] 5)) (.slice (some ⟨w.heap.size, 0, none⟩) 3 3) [UInt8.ofNat m0, 1, 2] := by
  have hBD := Blk.new w [Value.int .u8 (m0 : Nat), .int .u8 1, .int .u8 2] 5
  dsimp only [List.toArray] at hBD
  refine ⟨some ⟨w.heap.size, 0, none⟩, 3, rfl, Nat.le_refl _, Or.inr ⟨w.heap.size, 0, rfl, hBD.lt, fun j hj => ?_⟩, fun h => by cases h⟩
  have hj2 : j < 3 := hj
  have hj3 : j = 0 ∨ j = 1 ∨ j = 2 := by omega
  have hu : Byt.bv (UInt8.ofNat m0) = .int .u8 (m0 : Nat) := by
    unfold Byt.bv
    rw [UInt8.toNat_ofNat', Nat.mod_eq_of_lt (by omega)]
  rcases hj3 with rfl | rfl | rfl
  · rw [hBD.cell (o := 0) (v := .int .u8 (m0 : Nat)) rfl]; exact congrArg some hu.symm
  · exact hBD.cell (o := 1) rfl
  · exact hBD.cell (o := 2) rfl
/-- One Take of the law. -/
theorem takes {H mu n N h j fb : Nat} {S c : Int} {M : Mo} {ex : List Nat} {w wr : World} (hF : FX w (KA H S H n) { M with I := Ik M.I h j } c ex fb wr) (hc : c ≤ 40) (hh : h < H) (hJ : ∀ x ∈ M.I h, x.f ∈ FA H mu N ∧ x.f.dst = (h : Int)) (hj : j < (M.I h).length) :
    ∃ m0, m0 < N ∧ ((M.I h).map (·.f))[j]? = some (fA H mu m0) ∧ dA H mu m0 = h ∧ Calls Try.prog 27 #[ptr fb, .int .i64 (h : Nat)] wr fun e w' => ∃ s c', e = .returned (.tuple #[.agg #[.int .i64 1, .int .i64 (sA H mu m0 : Nat), .int .i64 (h : Nat), .int .i64 0, .int .u64 (m0 : Nat), .int .i64 0, .int .i64 3, .int .i64 3, .int .i64 0, .slice s 3 c'], .bool true]) ∧ Byt.Src w' (.slice s 3 c') [UInt8.ofNat m0, 1, 2] ∧ FX w (KA H S H n) { M with I := Ik M.I h (j + 1) } (c - 1) ex fb w' ∧ Kept (KX ex) wr w' := by
  have hx : (M.I h)[j]? = some (M.I h)[j] := List.getElem?_eq_getElem hj
  have hI : ({ M with I := Ik M.I h j } : Mo).I h = (M.I h)[j] :: (M.I h).drop (j + 1) := by
    show Ik M.I h j h = _
    rw [Ik_at, List.drop_eq_getElem_cons hj]
  generalize (M.I h)[j] = x at *
  obtain ⟨hxF, hxd⟩ := hJ x (List.mem_of_getElem? hx)
  obtain ⟨m0, hm0, hxe⟩ := mem_FA hxF
  have hdA : dA H mu m0 = h := by
    rw [hxe] at hxd
    have : ((dA H mu m0 : Nat) : Int) = (h : Int) := hxd
    omega
  refine ⟨m0, hm0, by rw [List.getElem?_map, hx]; exact congrArg some hxe, hdA, ?_⟩
  refine (fx_take_some hF (by omega) (j := h) (by show h < H; exact hh) hI).mono ?_
  rintro e w' ⟨rfl, hd, g1, g2⟩
  obtain ⟨f, s, cc, q⟩ := x
  dsimp only at hxe
  subst hxe
  have e1 : fv ⟨fA H mu m0, s, cc, q⟩ = .agg #[.int .i64 1, .int .i64 (sA H mu m0 : Nat), .int .i64 (dA H mu m0 : Nat), .int .i64 0, .int .u64 (m0 : Nat), .int .i64 0, .int .i64 3, .int .i64 3, .int .i64 0, .slice s 3 cc] := rfl
  refine ⟨s, cc, by rw [e1, hdA], hd.1.src, ?_, g2⟩
  have e2 := Ik_succ M.I h j
  dsimp only at g1
  rw [e2] at g1
  exact g1
set_option maxRecDepth 100000 in
set_option maxHeartbeats 16000000 in
theorem late (H N : Nat) (S m : Int) (w : World) (h1 : 2 ≤ H) (h2 : H ≤ 8) (s1 : 1 ≤ S) (s2 : S ≤ 4) (hN : N ≤ 40) (m1 : -9223372036854775808 ≤ m) (m2 : m ≤ 9223372036854775807) :
    Calls Try.prog 4 #[.int .i64 (H : Nat), .int .i64 S, .int .i64 (N : Nat), .int .i64 m] w fun e w' => e = .returned (.bool true) ∧ Old w w' := by
  have HC := Lib.hid fun w => Fb.awake_any w
  have net : Net (H : Int) S := ⟨by omega, by omega, s1, s2⟩
  have hmm0 := mm_in net
  obtain ⟨n, hn⟩ : ∃ n : Nat, (n : Int) = pts H S := ⟨(pts H S).toNat, by unfold pts; omega⟩
  have hn48 : n ≤ 48 := by unfold pts at hn; omega
  have HK : Hid (KA H S H n).Ok := Lib.hid ⟨net, rfl, hn⟩
  have NW : Hid (∀ w, Calls Try.prog 22 #[.int .i64 (H : Nat), .int .i64 S, .int .i64 1048576, .int .i64 50, .bool true] w fun e w' => ∃ fb, e = .returned (.tuple #[ptr fb, .int .i64 0]) ∧ FX w (KA H S H n) M0 0 [] fb w') := Lib.hid fun w => fx_new (K := KA H S H n) HK.out (by show (0 : Int) ≤ 1048576; decide) (by show (1048576 : Int) ≤ _; decide) (by show (0 : Int) ≤ 50; decide) (by show (50 : Int) ≤ _; decide) w
  obtain ⟨mu, hmu⟩ : ∃ mu : Nat, m % 1000 = (mu : Nat) := ⟨(m % 1000).toNat, by omega⟩
  have hmul : mu < 1000 := by omega
  have RD : Hid (∀ w, Calls Try.prog 23 #[.int .i64 m, .int .i64 1000] w fun e w' => e = .returned (.int .i64 (mu : Nat)) ∧ w = w') := by
    rw [← hmu]
    exact Lib.hid fun w => Rnd.round_pos (by omega) (by omega) m1 m2 w
  have MKI := fun w => madeI w
  have d1 : decide ((H : Int) < 2) = false := by rw [decide_eq_false_iff_not]; omega
  have d2 : decide (8 < (H : Int)) = false := by rw [decide_eq_false_iff_not]; omega
  have d3 : decide (S < 1) = false := by rw [decide_eq_false_iff_not]; omega
  have d4 : decide (4 < S) = false := by rw [decide_eq_false_iff_not]; omega
  have d5 : decide ((N : Int) < 0) = false := by rw [decide_eq_false_iff_not]; omega
  have d6 : decide (40 < (N : Int)) = false := by rw [decide_eq_false_iff_not]; omega
  have HB : Hid ((2 ≤ H ∧ H ≤ 8) ∧ N ≤ 40 ∧ mu < 1000 ∧ n ≤ 48) := Lib.hid ⟨⟨h1, h2⟩, hN, hmul, hn48⟩
  clear hmm0 hn hmu net s1 s2 m1 m2
  go_enter Try.func4, Try.ntmps4
  go_wp2_with fail
  with_reducible refine Calls.mono (NW.out _) ?_
  rintro e w1 ⟨fb, rfl, hF1⟩
  have F1 := Lib.hid hF1
  clear NW hF1 d1 d2 d3 d4 d5 d6
  go_wp2_with fail
  with_reducible refine Calls.mono (RD.out _) ?_
  rintro e w2 ⟨rfl, rfl⟩
  clear RD
  go_upto_region 8 with fail
  have eZ : (#[.int .i64 0, .int .i64 0, .int .i64 0, .int .i64 0, .int .i64 0, .int .i64 0, .int .i64 0, .int .i64 0] : Array Value) = (WL H mu 0).toArray := by rw [← WL_zero]; rfl
  rw [eZ]
  have hk2 := (Kept.refl (fun _ => False) w1).alloc (.cells (WL H mu 0).toArray 3)
  have hB2 := Blk.new w1 (WL H mu 0) 3
  have F2 := Lib.hid (F1.out.add (Nat.le_refl _) hk2 hB2.lt)
  have HW := Lib.hid hB2
  generalize w1.alloc (.cells (WL H mu 0).toArray 3) = w2 at *
  generalize w1.heap.size = wb at *
  clear F1 hk2 hB2 eZ
  go_wp2_with fail
  go_loopg [12] N (fun mm s12 wr => ∃ (i : Nat) (M : Mo), Hid (N - i ≤ mm) ∧ i ≤ N ∧ s12 = .int .i64 (i : Nat) ∧ Hid (FX w (KA H S H n) M i [wb] fb wr) ∧ Hid (Ar (KA H S H n) (FA H mu i) M) ∧ Hid (Phi (KA H S H n) M ≤ 4 * i) ∧ Hid (Blk wr wb (WL H mu i) 3))
  case atStart => exact ⟨0, M0, Lib.hid (by omega), Nat.zero_le _, rfl, F2, Lib.hid (ar_zero HK.out), Lib.hid (Nat.le_of_eq (phi_all fun p hp => rfl)), HW⟩
  case round =>
    obtain ⟨i, M, hmm, hi, rfl, hF, hA, hP, hW⟩ := hrel
    clear F2 HW
    rcases Nat.lt_or_ge i N with hlt | hge
    · have hlt' : (i : Int) < (N : Int) := by omega
      have e0 : ((H : Int) == 0) = false := by rw [beq_eq_false_iff_ne]; omega
      have e1 : (((H : Int) - 1) == 0) = false := by rw [beq_eq_false_iff_ne]; omega
      have b1 := HB.out
      have SN := Lib.hid (sends b1.1.1 b1.1.2 (by omega) hF.out hA.out hP.out hW.out)
      have a := sA_lt (m := mu) (i := i) b1.1.1
      have b := dA_lt (m := mu) (i := i) b1.1.1
      have hp0 : 0 ≤ (i : Int) * (mu : Int) := Int.mul_nonneg (by omega) (by omega)
      have hp1 : (i : Int) * (mu : Int) ≤ 40000 := by
        have h3 : i * mu ≤ 40 * 1000 := Nat.mul_le_mul (by omega) (by omega)
        have h4 : ((i * mu : Nat) : Int) = (i : Int) * (mu : Int) := Int.natCast_mul ..
        omega
      have hsI : ((i : Int) + (mu : Int)) % (H : Int) = ((sA H mu i : Nat) : Int) := by
        unfold sA; rw [Int.natCast_emod, Int.natCast_add]
      obtain ⟨r, hr⟩ : ∃ r, i * mu % (H - 1) = r := ⟨_, rfl⟩
      have hr1 : r < H := by have : i * mu % (H - 1) < H - 1 := Nat.mod_lt _ (by omega); omega
      have hrI : ((i : Int) * (mu : Int)) % ((H : Int) - 1) = (r : Int) := by
        rw [← hr, Int.natCast_emod, Int.natCast_mul, Int.natCast_sub (by omega)]; rfl
      have hrT : ((i : Int) * (mu : Int)).tmod ((H : Int) - 1) = (r : Int) := by rw [Int.tmod_eq_emod_of_nonneg hp0]; exact hrI
      have hdI : (((sA H mu i : Nat) : Int) + 1 + (r : Int)) % (H : Int) = ((dA H mu i : Nat) : Int) := by
        unfold dA; rw [hr, Int.natCast_emod, Int.natCast_add, Int.natCast_add]; rfl
      have hdT : (((sA H mu i : Nat) : Int) + 1 + (r : Int)).tmod (H : Int) = ((dA H mu i : Nat) : Int) := by rw [Int.tmod_eq_emod_of_nonneg (by omega)]; exact hdI
      have hws := WL_set H mu i
      obtain ⟨cn, hcn⟩ : ∃ cn, cntA H mu i (dA H mu i) = cn := ⟨_, rfl⟩
      have hcl := cnt_le H mu i (dA H mu i)
      rw [hcn] at hcl hws
      have hwg := WL_get (H := H) (m := mu) (i := i) (d := dA H mu i) (by omega)
      rw [hcn] at hwg
      have HWS := Lib.hid hws
      have HWG := Lib.hid hwg
      clear hws hwg hcn
      generalize sA H mu i = s at *
      generalize dA H mu i = d at *
      have w1' : IntKind.i64.wrap ((i : Int) + (mu : Int)) = (i : Int) + (mu : Int) := by rw [IntKind.wrap_i64]; omega
      have w2' : IntKind.i64.wrap ((s : Int) + 1) = (s : Int) + 1 := by rw [IntKind.wrap_i64]; omega
      have w3' : IntKind.i64.wrap ((i : Int) * (mu : Int)) = (i : Int) * (mu : Int) := by rw [IntKind.wrap_i64]; omega
      have w4' : IntKind.i64.wrap ((s : Int) + 1 + (r : Int)) = (s : Int) + 1 + (r : Int) := by rw [IntKind.wrap_i64]; omega
      have w5' : IntKind.i64.wrap ((H : Int) - 1) = (H : Int) - 1 := by rw [IntKind.wrap_i64]; omega
      have w6' : IntKind.u8.wrap (i : Int) = (i : Int) := by rw [IntKind.wrap_u8]; omega
      have w7' : IntKind.u64.wrap (i : Int) = (i : Int) := by rw [IntKind.wrap_u64]; omega
      clear hr hF hA hP hW b1
      have w8' : IntKind.i64.wrap ((cn : Int) + 1) = (cn : Int) + 1 := by rw [IntKind.wrap_i64]; omega
      have hd8 : d < 8 := by omega
      have hd8' : (d : Int) < 8 := by omega
      go_wp2_with fail
      with_reducible refine Calls.mono SN.out ?_
      rintro e w5 ⟨rfl, M', f5, a5, p5, b5⟩
      have c5 := b5.cell HWG.out
      have z5 := b5.frozen d
      have k6 := Kept.one w5 wb d (.int .i64 ((cn : Int) + 1))
      have b6 := b5.set d (.int .i64 ((cn : Int) + 1))
      rw [HWS.out] at b6
      have F6 := Lib.hid (f5.store List.mem_cons_self b5 (by decide) k6)
      have A5 := Lib.hid a5
      have P5 := Lib.hid p5
      have B6 := Lib.hid b6
      clear SN f5 a5 p5 b5 b6 k6 w1' w2' w3' w4' w5' w6' w7' hsI hrI hrT hdI hdT e0 e1 hp0 hp1
      go_upto_region 10 with fail
      generalize w5.setCell ⟨wb, d, none⟩ (.int .i64 ((cn : Int) + 1)) = w6 at *
      clear c5 z5
      go_wp2_with fail
      go_roundg (N - (i + 1))
      case measure => have := hmm.out; omega
      case rel => exact ⟨i + 1, M', Lib.hid (Nat.le_refl _), hlt, by go_num, F6, A5, P5, B6⟩
    · have hge' : ¬ ((i : Int) < (N : Int)) := by omega
      obtain rfl : i = N := by omega
      clear hmm hge hi
      have x1 : IntKind.i64.wrap (4 * (i : Int)) = 4 * (i : Int) := by rw [IntKind.wrap_i64]; omega
      have x2 : IntKind.i64.wrap (4 * (i : Int) + 8) = 4 * (i : Int) + 8 := by rw [IntKind.wrap_i64]; omega
      go_wp2_with fail
      go_loopg [17] (4 * i + 8) (fun mm s17 wr => ∃ (k : Nat) (M : Mo), Hid (4 * i + 8 - k ≤ mm) ∧ k ≤ 4 * i + 8 ∧ s17 = .int .i64 (k : Nat) ∧ Hid (FX w (KA H S H n) M i [wb] fb wr) ∧ Hid (Ar (KA H S H n) (FA H mu i) M) ∧ Hid (Phi (KA H S H n) M ≤ 4 * i - k) ∧ Hid (Blk wr wb (WL H mu i) 3))
      case atStart => exact ⟨0, M, Lib.hid (by omega), Nat.zero_le _, rfl, hF, hA, hP, hW⟩
      case round =>
        obtain ⟨k, M1, hmm, hk, rfl, hF1, hA1, hP1, hW1⟩ := hrel
        clear hF hA hP hW
        rcases Nat.lt_or_ge k (4 * i + 8) with hkl | hkg
        · have hkl' : (k : Int) < 4 * (i : Int) + 8 := by omega
          go_wp2_with fail
          go_loopg [18] n (fun mm s18 wr => ∃ (p : Nat) (M2 : Mo), Hid (n - p ≤ mm) ∧ p ≤ n ∧ s18 = .int .i64 (p : Nat) ∧ Hid (FX w (KA H S H n) M2 i [wb] fb wr) ∧ Hid (Ar (KA H S H n) (FA H mu i) M2) ∧ Hid (Phi (KA H S H n) M2 ≤ Phi (KA H S H n) M1 ∧ (Phi (KA H S H n) M2 < Phi (KA H S H n) M1 ∨ ∀ q, q < p → (M2.P q).ls 0 = [])) ∧ Hid (Blk wr wb (WL H mu i) 3))
          case atStart => exact ⟨0, M1, Lib.hid (by omega), Nat.zero_le _, rfl, hF1, hA1, Lib.hid ⟨Nat.le_refl _, Or.inr fun q hq => by omega⟩, hW1⟩
          case round =>
            obtain ⟨p, M2, hmm2, hp, rfl, hF2, hA2, hP2, hW2⟩ := hrel
            clear hF1 hA1 hW1
            have PT : Hid (Calls Try.prog 25 #[ptr fb] wr fun e w' => e = .returned (.int .i64 (n : Nat)) ∧ wr = w') := Lib.hid (fv_ports hF2.out.fv)
            rcases Nat.lt_or_ge p n with hpl | hpg
            · have hpl' : (p : Int) < (n : Int) := by omega
              have SV := Lib.hid (fx_serve hF2.out hA2.out (by omega) rfl (p := p) hpl (k : Nat))
              go_wp2_with fail
              with_reducible refine Calls.mono PT.out ?_
              rintro e w7 ⟨rfl, rfl⟩
              clear PT
              go_wp2_with fail
              with_reducible refine Calls.mono SV.out ?_
              rintro e w7 ⟨bb, rfl, M3, f3, k3, a3, o3⟩
              have F3 := Lib.hid f3
              have A3 := Lib.hid a3
              have B3 := Lib.hid (k3.blk hW2.out (fun hn => hn List.mem_cons_self))
              have P3 : Hid (Phi (KA H S H n) M3 ≤ Phi (KA H S H n) M1 ∧ (Phi (KA H S H n) M3 < Phi (KA H S H n) M1 ∨ ∀ q, q < p + 1 → (M3.P q).ls 0 = [])) := by
                have g := hP2.out
                rcases o3 with o | ⟨o1, o2, o4⟩
                · exact Lib.hid ⟨by omega, Or.inl (by omega)⟩
                · refine Lib.hid ⟨by omega, ?_⟩
                  rcases g.2 with g2 | g2
                  · exact Or.inl (by omega)
                  · refine Or.inr fun q hq => ?_
                    rw [o2 q]
                    by_cases e : q = p
                    · subst e; exact o4
                    · exact g2 q (by omega)
              clear SV f3 a3 k3 o3 hF2 hA2 hP2 hW2
              go_wp2_with fail
              go_roundg (n - (p + 1))
              case measure => have := hmm2.out; omega
              case rel => exact ⟨p + 1, M3, Lib.hid (Nat.le_refl _), hpl, by go_num, F3, A3, P3, B3⟩
            · have hpg' : ¬ ((p : Int) < (n : Int)) := by omega
              obtain rfl : p = n := by omega
              have P4 : Hid (Phi (KA H S H p) M2 ≤ 4 * i - (k + 1)) := by
                have g := hP2.out
                have g1 := hP1.out
                rcases g.2 with g2 | g2
                · exact Lib.hid (by omega)
                · have : Phi (KA H S H p) M2 = 0 := phi_all (g := fun q => rk (H : Int) S q) (P := M2.P) (n := p) g2
                  exact Lib.hid (by omega)
              clear hmm2 hp hpg hP2 hP1
              go_wp2_with fail
              with_reducible refine Calls.mono PT.out ?_
              rintro e w7 ⟨rfl, rfl⟩
              clear PT
              go_wp2_with fail
              go_roundg (4 * i + 8 - (k + 1))
              case measure => have := hmm.out; omega
              case rel => exact ⟨k + 1, M2, Lib.hid (Nat.le_refl _), hkl, by go_num, hF2, hA2, P4, hW2⟩
        · have hkg' : ¬ ((k : Int) < 4 * (i : Int) + 8) := by omega
          have hP0 : Phi (KA H S H n) M1 = 0 := by have := hP1.out; omega
          have MKB := fun w => madeB i (by omega) w
          clear hP1 hmm hk hkg
          obtain ⟨hem, hJ⟩ := Ar.done HB.out.1.1 rfl HK.out hA1.out hP0
          have L0 := Lib.hid hA1.out.l0
          have HEM := Lib.hid hem
          have HJ := Lib.hid hJ
          clear hem hJ hA1 hP0
          go_upto_region 25 with fail
          have hkS := (Kept.refl (fun _ => False) wr).alloc (.cells (Array.replicate i (Value.bool false)) 4)
          have hBS := Blk.new wr ((List.replicate i false).map Value.bool) 4
          have eS : ((List.replicate i false).map Value.bool).toArray = Array.replicate i (Value.bool false) := by simp
          rw [eS] at hBS
          have FS := Lib.hid (hF1.out.add (Nat.le_refl _) hkS hBS.lt)
          have WS := Lib.hid (hkS.blk hW1.out (fun f => f))
          have BS := Lib.hid hBS
          generalize wr.alloc (.cells (Array.replicate i (Value.bool false)) 4) = ws at *
          generalize wr.heap.size = sb at *
          have FS' : Hid (FX w (KA H S H n) { M1 with I := Ik M1.I 0 0 } (i : Nat) [sb, wb] fb ws) := by
            rw [Ik_zero]; exact FS
          clear hkS hBS eS FS hF1 hW1 MKB
          go_wp2_with fail
          go_loopg [20] H (fun mm s20 wr => ∃ (h : Nat) (u : List Bool) (c' : Int), Hid (H - h ≤ mm) ∧ h ≤ H ∧ s20 = .int .i64 (h : Nat) ∧ Hid (FX w (KA H S H n) { M1 with I := Ik M1.I h 0 } c' [sb, wb] fb wr) ∧ Hid (c' ≤ 40) ∧ Hid (u.length = i) ∧ Hid (Blk wr wb (WL H mu i) 3) ∧ Hid (Blk wr sb (u.map Value.bool) 4) ∧ Hid (Seen (FA H mu i) [] h 0 u))
          case atStart => exact ⟨0, List.replicate i false, (i : Nat), Lib.hid (by omega), Nat.zero_le _, rfl, FS', Lib.hid (by omega), Lib.hid List.length_replicate, WS, BS, Lib.hid (seen_zero _ _ _)⟩
          case round =>
            obtain ⟨h, u, c', hmm, hh, rfl, hF, hc', hul, hW, hS, hSn⟩ := hrel
            clear FS' WS BS
            rcases Nat.lt_or_ge h H with hlt | hge
            · have hlt' : (h : Int) < (H : Int) := by omega
              obtain ⟨q, hq⟩ : ∃ q, cntA H mu i h = q := ⟨_, rfl⟩
              obtain ⟨j1, j2, j3⟩ := HJ.out h hlt
              have hql := cnt_le H mu i h
              rw [hq] at j1 hql
              have HQ := Lib.hid j1
              have HJ2 := Lib.hid j2
              have HR : Hid (Rise ((M1.I h).map (·.f))) := Lib.hid j3
              have hwg := WL_get (H := H) (m := mu) (i := i) (d := h) (by omega)
              rw [hq] at hwg
              have HWG := Lib.hid hwg
              clear j1 j2 j3 hwg
              go_upto_region 29 with fail
              have eZ : (#[.int .i64 0, .int .i64 0, .int .i64 0, .int .i64 0, .int .i64 0, .int .i64 0, .int .i64 0, .int .i64 0] : Array Value) = ((List.replicate 8 (0 : Int)).map (Value.int .i64)).toArray := rfl
              rw [eZ]
              have hkL := (Kept.refl (fun _ => False) wr).alloc (.cells ((List.replicate 8 (0 : Int)).map (Value.int .i64)).toArray 3)
              have hBL := Blk.new wr ((List.replicate 8 (0 : Int)).map (Value.int .i64)) 3
              have FL := Lib.hid (hF.out.add (Nat.le_refl _) hkL hBL.lt)
              have WL' := Lib.hid (hkL.blk hW.out (fun f => f))
              have SL := Lib.hid (hkL.blk hS.out (fun f => f))
              have BL := Lib.hid hBL
              have hne1 : wr.heap.size ≠ sb := by have := hS.out.lt; omega
              have hne2 : wr.heap.size ≠ wb := by have := hW.out.lt; omega
              have hne3 : sb ≠ wb := ne_blk hS.out hW.out (by decide)
              generalize wr.alloc (.cells ((List.replicate 8 (0 : Int)).map (Value.int .i64)).toArray 3) = wl at *
              generalize wr.heap.size = lb at *
              clear eZ hkL hBL hF hW hS
              have SN0 : Hid (Seen (FA H mu i) ((M1.I h).map (·.f)) h 0 u) := Lib.hid hSn.out.rest
              clear hSn
              go_wp2_with fail
              go_loopg [22] q (fun mm s22 wr => ∃ (j : Nat) (u : List Bool) (v : List Int) (c' : Int), Hid (q - j ≤ mm) ∧ j ≤ q ∧ s22 = .int .i64 (j : Nat) ∧ Hid (FX w (KA H S H n) { M1 with I := Ik M1.I h j } c' [lb, sb, wb] fb wr) ∧ Hid (c' ≤ 40) ∧ Hid (u.length = i ∧ v.length = 8) ∧ Hid (Blk wr wb (WL H mu i) 3) ∧ Hid (Blk wr sb (u.map Value.bool) 4) ∧ Hid (Blk wr lb (v.map (Value.int .i64)) 3) ∧ Hid (Seen (FA H mu i) ((M1.I h).map (·.f)) h j u) ∧ Hid (Last ((M1.I h).map (·.f)) j v))
              case atStart => exact ⟨0, u, List.replicate 8 0, c', Lib.hid (by omega), Nat.zero_le _, rfl, FL, hc', Lib.hid ⟨hul.out, List.length_replicate⟩, WL', SL, BL, SN0, Lib.hid (last_zero _ _)⟩
              case round =>
                obtain ⟨j, u, v, c', hmm2, hj, rfl, hF, hc', huv, hW, hS, hL, hSn, hLa⟩ := hrel
                clear FL WL' SL BL SN0
                have cw := hW.out.cell HWG.out
                rcases Nat.lt_or_ge j q with hjq | hjg
                · have hjq' : (j : Int) < (q : Int) := by omega
                  obtain ⟨m0, hm0, hLj, hdA, tk⟩ := takes hF.out hc'.out hlt HJ2.out (by rw [HQ.out]; exact hjq)
                  have TK := Lib.hid tk
                  have HLJ := Lib.hid hLj
                  have b1 := HB.out
                  have hs0 := sA_lt (m := mu) (i := m0) b1.1.1
                  have hsn := hSn.out.no HR.out hLj (by show ((dA H mu m0 : Nat) : Int) = (h : Int); omega) (by rw [huv.out.1]; exact hm0)
                  obtain ⟨s0, hs0e⟩ : ∃ s0, sA H mu m0 = s0 := ⟨_, rfl⟩
                  rw [hs0e] at hs0
                  obtain ⟨y, hy⟩ : ∃ y, v[s0]? = some y := ⟨_, List.getElem?_eq_getElem (by rw [huv.out.2]; omega)⟩
                  have hyl := hLa.out.lt HR.out hLj (s := s0) (y := y) (by show ((sA H mu m0 : Nat) : Int) = (s0 : Int); omega) hy
                  have hyl2 : y ≤ (m0 : Int) := hyl.2
                  rw [hs0e] at TK
                  have HSN := Lib.hid hsn
                  have HY := Lib.hid hy
                  have HSE := Lib.hid hs0e
                  clear tk hLj hsn hy hyl b1 hs0e hdA
                  go_wp2_with fail
                  with_reducible refine Calls.mono TK.out ?_
                  rintro e w5 ⟨sa, ca, rfl, hsrc, h5, k5⟩
                  clear TK
                  go_upto_region 33 with fail
                  have hO := Blk.new w5 [.int .i64 1, .int .i64 (s0 : Nat), .int .i64 (h : Nat), .int .i64 0, .int .u64 (m0 : Nat), .int .i64 0, .int .i64 3, .int .i64 3, .int .i64 0, .slice sa 3 ca] 35
                  have hk := (Kept.refl (fun _ => False) w5).alloc (.cells [.int .i64 1, .int .i64 (s0 : Nat), .int .i64 (h : Nat), .int .i64 0, .int .u64 (m0 : Nat), .int .i64 0, .int .i64 3, .int .i64 3, .int .i64 0, .slice sa 3 ca].toArray 35)
                  dsimp only [List.toArray] at hO hk
                  have F6 := Lib.hid (h5.old hk)
                  have W6 := Lib.hid (hk.blk (k5.blk hW.out (fun hn => hn (List.mem_cons_of_mem _ (List.mem_cons_of_mem _ List.mem_cons_self)))) (fun f => f))
                  have S6 := Lib.hid (hk.blk (k5.blk hS.out (fun hn => hn (List.mem_cons_of_mem _ List.mem_cons_self))) (fun f => f))
                  have L6 := Lib.hid (hk.blk (k5.blk hL.out (fun hn => hn List.mem_cons_self)) (fun f => f))
                  have R6 := Lib.hid (hsrc.kept hk)
                  generalize w5.alloc (.cells #[.int .i64 1, .int .i64 (s0 : Nat), .int .i64 (h : Nat), .int .i64 0, .int .u64 (m0 : Nat), .int .i64 0, .int .i64 3, .int .i64 3, .int .i64 0, .slice sa 3 ca] 35) = w6 at *
                  generalize w5.heap.size = ob at *
                  clear hk h5 k5 hsrc hF hW hS hL cw
                  have HO := Lib.hid hO.drew
                  clear hO
                  have kd : Kept (fun _ => False) w6 w6.drew := (Kept.refl (fun _ => False) w6).drew
                  have F6 := Lib.hid (F6.out.old kd)
                  have W6 := Lib.hid (kd.blk W6.out (fun f => f))
                  have S6 := Lib.hid (kd.blk S6.out (fun f => f))
                  have L6 := Lib.hid (kd.blk L6.out (fun f => f))
                  have R6 := Lib.hid (R6.out.kept kd)
                  clear kd
                  have y1 : IntKind.i64.wrap (m0 : Int) = (m0 : Int) := by rw [IntKind.wrap_i64]; omega
                  have y2 : IntKind.i64.wrap ((m0 : Int) + 1) = (m0 : Int) + 1 := by rw [IntKind.wrap_i64]; omega
                  have y3 : IntKind.u64.wrap (i : Int) = (i : Int) := by rw [IntKind.wrap_u64]; omega
                  have y4 : IntKind.u8.wrap (m0 : Int) = (m0 : Int) := by rw [IntKind.wrap_u8]; omega
                  have z1 : decide ((i : Int) ≤ (m0 : Int)) = false := by rw [decide_eq_false_iff_not]; omega
                  have z1n : decide (i ≤ m0) = false := by rw [decide_eq_false_iff_not]; omega
                  have z1m : ¬ i ≤ m0 := by omega
                  have z4n : decide (7 < s0) = false := by rw [decide_eq_false_iff_not]; omega
                  have z4m : ¬ 7 < s0 := by omega
                  have z2 : ((h : Int) == (h : Int)) = true := by simp
                  have z3 : decide ((s0 : Int) < 0) = false := by rw [decide_eq_false_iff_not]; omega
                  have z4 : decide (7 < (s0 : Int)) = false := by rw [decide_eq_false_iff_not]; omega
                  have z5 : decide ((m0 : Int) + 1 ≤ y) = false := by rw [decide_eq_false_iff_not]; omega
                  have hm0' : (m0 : Int) < (i : Int) := by omega
                  have hs0' : (s0 : Int) < 8 := by omega
                  have hs08 : s0 < 8 := by omega
                  try dsimp only [List.append]
                  have KS := Lib.hid fun (w' : World) (k : Kept (fun _ => False) w6.drew w') => (show w'.cell? ⟨ob, 1, none⟩ = some (.int .i64 (s0 : Nat)) ∧ w'.cell? ⟨ob, 2, none⟩ = some (.int .i64 (h : Nat)) ∧ w'.cell? ⟨ob, 4, none⟩ = some (.int .u64 (m0 : Nat)) ∧ w'.cell? ⟨ob, 9, none⟩ = some (.slice sa 3 ca) ∧ w'.cell? ⟨sb, m0, none⟩ = some (.bool false) ∧ w'.cell? ⟨lb, s0, none⟩ = some (.int .i64 y) ∧ (convert 33 9 (.slice sa 3 ca)).run Try.prog w' = .ok (.string ⟨[UInt8.ofNat m0, 1, 2].toArray⟩) w' from ⟨(k.blk HO.out (fun f => f)).cell (o := 1) rfl, ⟨(k.blk HO.out (fun f => f)).cell (o := 2) rfl, ⟨(k.blk HO.out (fun f => f)).cell (o := 4) rfl, ⟨(k.blk HO.out (fun f => f)).cell (o := 9) rfl, ⟨(k.blk S6.out (fun f => f)).cell (by rw [List.getElem?_map, HSN.out]; rfl), ⟨(k.blk L6.out (fun f => f)).cell (by rw [List.getElem?_map, HY.out]; rfl), Byt.run_str (R6.out.kept k)⟩⟩⟩⟩⟩⟩)
                  refine wp_region_held_drew (S := fun w' => w'.cell? ⟨ob, 1, none⟩ = some (.int .i64 (s0 : Nat)) ∧ w'.cell? ⟨ob, 2, none⟩ = some (.int .i64 (h : Nat)) ∧ w'.cell? ⟨ob, 4, none⟩ = some (.int .u64 (m0 : Nat)) ∧ w'.cell? ⟨ob, 9, none⟩ = some (.slice sa 3 ca) ∧ w'.cell? ⟨sb, m0, none⟩ = some (.bool false) ∧ w'.cell? ⟨lb, s0, none⟩ = some (.int .i64 y) ∧ (convert 33 9 (.slice sa 3 ca)).run Try.prog w' = .ok (.string ⟨[UInt8.ofNat m0, 1, 2].toArray⟩) w') (by kernel_rfl) (KS.out _ (Kept.refl _ _)) (fun hHeld => ?_)
                  generalize w6.drew = z0 at *
                  refine wpAnyH_take (i := 0) (oi := { dst := some 151, op := Go.Op.move (Go.Operand.tmp 24), type := 4, pos := "law.go:146", after := #[], guard := none }) (v := ?_) rfl (by kernel_rfl) (by kernel_rfl) (by kernel_rfl) (fun _ _ _ h => h) (Or.inl ⟨by rfl, ?_⟩) (by assumption) ?_
                  rotate_left 1
                  focus (intro w hSw; (try dsimp only at hSw); go_simp; try with_reducible rfl)
                  try simp only [Act.put, List.setIfInBounds_toArray, List.set_cons_zero, List.set_cons_succ]
                  refine wpAnyH_take (i := 1) (oi := { dst := some 152, op := Go.Op.unOp Go.UnOp.not 4 (Go.Operand.tmp 151), type := 4, pos := "law.go:146", after := #[{ on := 0, ground := Go.Ground.data }], guard := none }) (v := ?_) rfl (by kernel_rfl) (by kernel_rfl) (by kernel_rfl) (fun _ _ _ h => h) (Or.inl ⟨by rfl, ?_⟩) (by assumption) ?_
                  rotate_left 1
                  focus (intro w hSw; (try dsimp only at hSw); go_simp; try with_reducible rfl)
                  try simp only [Act.put, List.setIfInBounds_toArray, List.set_cons_zero, List.set_cons_succ]
                  refine wpAnyH_take (i := 2) (oi := { dst := some 153, op := Go.Op.move (Go.Operand.tmp 152), type := 4, pos := "law.go:146", after := #[{ on := 1, ground := Go.Ground.data }], guard := none }) (v := ?_) rfl (by kernel_rfl) (by kernel_rfl) (by kernel_rfl) (fun _ _ _ h => h) (Or.inl ⟨by rfl, ?_⟩) (by assumption) ?_
                  rotate_left 1
                  focus (intro w hSw; (try dsimp only at hSw); go_simp; try with_reducible rfl)
                  try simp only [Act.put, List.setIfInBounds_toArray, List.set_cons_zero, List.set_cons_succ]
                  refine wpAnyH_take (i := 3) (oi := { dst := some 154, op := Go.Op.fieldAddr 35 (Go.Operand.tmp 23) 2, type := 0, pos := "law.go:146", after := #[{ on := 2, ground := Go.Ground.guard }], guard := some (2, false) }) (v := ?_) rfl (by kernel_rfl) (by kernel_rfl) (by kernel_rfl) (fun _ _ _ h => h) (Or.inl ⟨by rfl, ?_⟩) (by assumption) ?_
                  rotate_left 1
                  focus (intro w hSw; (try dsimp only at hSw); go_simp; try with_reducible rfl)
                  try simp only [Act.put, List.setIfInBounds_toArray, List.set_cons_zero, List.set_cons_succ]
                  refine wpAnyH_take (i := 4) (oi := { dst := some 155, op := Go.Op.load 3 (Go.Operand.tmp 154), type := 3, pos := "law.go:146", after := #[{ on := 3, ground := Go.Ground.data }, { on := 2, ground := Go.Ground.guard }], guard := some (2, false) }) (v := ?_) rfl (by kernel_rfl) (by kernel_rfl) (by kernel_rfl) (fun _ _ _ h => h) (Or.inl ⟨by rfl, ?_⟩) (by assumption) ?_
                  rotate_left 1
                  focus (intro w hSw; (try dsimp only at hSw); go_simp; try with_reducible rfl)
                  try simp only [Act.put, List.setIfInBounds_toArray, List.set_cons_zero, List.set_cons_succ]
                  refine wpAnyH_take (i := 5) (oi := { dst := some 156, op := Go.Op.move (Go.Operand.tmp 20), type := 3, pos := "law.go:146", after := #[{ on := 2, ground := Go.Ground.guard }], guard := some (2, false) }) (v := ?_) rfl (by kernel_rfl) (by kernel_rfl) (by kernel_rfl) (fun _ _ _ h => h) (Or.inl ⟨by rfl, ?_⟩) (by assumption) ?_
                  rotate_left 1
                  focus (intro w hSw; (try dsimp only at hSw); go_simp; try with_reducible rfl)
                  try simp only [Act.put, List.setIfInBounds_toArray, List.set_cons_zero, List.set_cons_succ]
                  refine wpAnyH_take (i := 6) (oi := { dst := some 157, op := Go.Op.binOp Go.BinOp.neq 3 (Go.Operand.tmp 155) (Go.Operand.tmp 156) 3, type := 4, pos := "law.go:146", after := #[{ on := 4, ground := Go.Ground.data }, { on := 5, ground := Go.Ground.data }, { on := 2, ground := Go.Ground.guard }], guard := some (2, false) }) (v := ?_) rfl (by kernel_rfl) (by kernel_rfl) (by kernel_rfl) (fun _ _ _ h => h) (Or.inl ⟨by rfl, ?_⟩) (by assumption) ?_
                  rotate_left 1
                  focus (intro w hSw; (try dsimp only at hSw); go_simp; try with_reducible rfl)
                  try simp only [Act.put, List.setIfInBounds_toArray, List.set_cons_zero, List.set_cons_succ]
                  refine wpAnyH_take (i := 7) (oi := { dst := some 158, op := Go.Op.pick (Go.Operand.tmp 153) (Go.Operand.const (Go.Value.bool true)) (Go.Operand.tmp 157), type := 4, pos := "law.go:146", after := #[{ on := 2, ground := Go.Ground.data }, { on := 6, ground := Go.Ground.data }], guard := none }) (v := ?_) rfl (by kernel_rfl) (by kernel_rfl) (by kernel_rfl) (fun _ _ _ h => h) (Or.inl ⟨by rfl, ?_⟩) (by assumption) ?_
                  rotate_left 1
                  focus (intro w hSw; (try dsimp only at hSw); go_simp; try with_reducible rfl)
                  try simp only [Act.put, List.setIfInBounds_toArray, List.set_cons_zero, List.set_cons_succ]
                  refine wpAnyH_take (i := 8) (oi := { dst := some 159, op := Go.Op.move (Go.Operand.tmp 158), type := 4, pos := "law.go:146", after := #[{ on := 7, ground := Go.Ground.data }, { on := 2, ground := Go.Ground.chain }], guard := none }) (v := ?_) rfl (by kernel_rfl) (by kernel_rfl) (by kernel_rfl) (fun _ _ _ h => h) (Or.inl ⟨by rfl, ?_⟩) (by assumption) ?_
                  rotate_left 1
                  focus (intro w hSw; (try dsimp only at hSw); go_simp; try with_reducible rfl)
                  try simp only [Act.put, List.setIfInBounds_toArray, List.set_cons_zero, List.set_cons_succ]
                  refine wpAnyH_take (i := 9) (oi := { dst := some 160, op := Go.Op.fieldAddr 35 (Go.Operand.tmp 23) 4, type := 0, pos := "law.go:146", after := #[{ on := 8, ground := Go.Ground.guard }], guard := some (8, false) }) (v := ?_) rfl (by kernel_rfl) (by kernel_rfl) (by kernel_rfl) (fun _ _ _ h => h) (Or.inl ⟨by rfl, ?_⟩) (by assumption) ?_
                  rotate_left 1
                  focus (intro w hSw; (try dsimp only at hSw); go_simp; try with_reducible rfl)
                  try simp only [Act.put, List.setIfInBounds_toArray, List.set_cons_zero, List.set_cons_succ]
                  refine wpAnyH_take (i := 10) (oi := { dst := some 161, op := Go.Op.load 32 (Go.Operand.tmp 160), type := 32, pos := "law.go:146", after := #[{ on := 9, ground := Go.Ground.data }, { on := 8, ground := Go.Ground.guard }], guard := some (8, false) }) (v := ?_) rfl (by kernel_rfl) (by kernel_rfl) (by kernel_rfl) (fun _ _ _ h => h) (Or.inl ⟨by rfl, ?_⟩) (by assumption) ?_
                  rotate_left 1
                  focus (intro w hSw; (try dsimp only at hSw); go_simp; try with_reducible rfl)
                  try simp only [Act.put, List.setIfInBounds_toArray, List.set_cons_zero, List.set_cons_succ]
                  refine wpAnyH_take (i := 11) (oi := { dst := some 162, op := Go.Op.move (Go.Operand.tmp 2), type := 3, pos := "law.go:146", after := #[{ on := 8, ground := Go.Ground.guard }], guard := some (8, false) }) (v := ?_) rfl (by kernel_rfl) (by kernel_rfl) (by kernel_rfl) (fun _ _ _ h => h) (Or.inl ⟨by rfl, ?_⟩) (by assumption) ?_
                  rotate_left 1
                  focus (intro w hSw; (try dsimp only at hSw); go_simp; try with_reducible rfl)
                  try simp only [Act.put, List.setIfInBounds_toArray, List.set_cons_zero, List.set_cons_succ]
                  refine wpAnyH_take (i := 12) (oi := { dst := some 163, op := Go.Op.convert 3 32 (Go.Operand.tmp 162), type := 32, pos := "law.go:146", after := #[{ on := 11, ground := Go.Ground.data }, { on := 8, ground := Go.Ground.guard }], guard := some (8, false) }) (v := ?_) rfl (by kernel_rfl) (by kernel_rfl) (by kernel_rfl) (fun _ _ _ h => h) (Or.inl ⟨by rfl, ?_⟩) (by assumption) ?_
                  rotate_left 1
                  focus (intro w hSw; (try dsimp only at hSw); go_simp; try with_reducible rfl)
                  try simp only [Act.put, List.setIfInBounds_toArray, List.set_cons_zero, List.set_cons_succ]
                  refine wpAnyH_take (i := 13) (oi := { dst := some 164, op := Go.Op.binOp Go.BinOp.geq 32 (Go.Operand.tmp 161) (Go.Operand.tmp 163) 32, type := 4, pos := "law.go:146", after := #[{ on := 10, ground := Go.Ground.data }, { on := 12, ground := Go.Ground.data }, { on := 8, ground := Go.Ground.guard }], guard := some (8, false) }) (v := ?_) rfl (by kernel_rfl) (by kernel_rfl) (by kernel_rfl) (fun _ _ _ h => h) (Or.inl ⟨by rfl, ?_⟩) (by assumption) ?_
                  rotate_left 1
                  focus (intro w hSw; (try dsimp only at hSw); go_simp; try with_reducible rfl)
                  try simp only [Act.put, List.setIfInBounds_toArray, List.set_cons_zero, List.set_cons_succ]
                  refine wpAnyH_take (i := 14) (oi := { dst := some 165, op := Go.Op.pick (Go.Operand.tmp 159) (Go.Operand.const (Go.Value.bool true)) (Go.Operand.tmp 164), type := 4, pos := "law.go:146", after := #[{ on := 8, ground := Go.Ground.data }, { on := 13, ground := Go.Ground.data }], guard := none }) (v := ?_) rfl (by kernel_rfl) (by kernel_rfl) (by kernel_rfl) (fun _ _ _ h => h) (Or.inl ⟨by rfl, ?_⟩) (by assumption) ?_
                  rotate_left 1
                  focus (intro w hSw; (try dsimp only at hSw); go_simp; try with_reducible rfl)
                  try simp only [Act.put, List.setIfInBounds_toArray, List.set_cons_zero, List.set_cons_succ]
                  refine wpAnyH_take (i := 15) (oi := { dst := some 166, op := Go.Op.move (Go.Operand.tmp 165), type := 4, pos := "law.go:146", after := #[{ on := 14, ground := Go.Ground.data }, { on := 8, ground := Go.Ground.chain }], guard := none }) (v := ?_) rfl (by kernel_rfl) (by kernel_rfl) (by kernel_rfl) (fun _ _ _ h => h) (Or.inl ⟨by rfl, ?_⟩) (by assumption) ?_
                  rotate_left 1
                  focus (intro w hSw; (try dsimp only at hSw); go_simp; try with_reducible rfl)
                  try simp only [Act.put, List.setIfInBounds_toArray, List.set_cons_zero, List.set_cons_succ]
                  refine wpAnyH_take (i := 16) (oi := { dst := some 167, op := Go.Op.move (Go.Operand.tmp 19), type := 63, pos := "law.go:146", after := #[{ on := 15, ground := Go.Ground.guard }], guard := some (15, false) }) (v := ?_) rfl (by kernel_rfl) (by kernel_rfl) (by kernel_rfl) (fun _ _ _ h => h) (Or.inl ⟨by rfl, ?_⟩) (by assumption) ?_
                  rotate_left 1
                  focus (intro w hSw; (try dsimp only at hSw); go_simp; try with_reducible rfl)
                  try simp only [Act.put, List.setIfInBounds_toArray, List.set_cons_zero, List.set_cons_succ]
                  refine wpAnyH_take (i := 17) (oi := { dst := some 168, op := Go.Op.fieldAddr 35 (Go.Operand.tmp 23) 4, type := 0, pos := "law.go:146", after := #[{ on := 15, ground := Go.Ground.guard }], guard := some (15, false) }) (v := ?_) rfl (by kernel_rfl) (by kernel_rfl) (by kernel_rfl) (fun _ _ _ h => h) (Or.inl ⟨by rfl, ?_⟩) (by assumption) ?_
                  rotate_left 1
                  focus (intro w hSw; (try dsimp only at hSw); go_simp; try with_reducible rfl)
                  try simp only [Act.put, List.setIfInBounds_toArray, List.set_cons_zero, List.set_cons_succ]
                  refine wpAnyH_take (i := 18) (oi := { dst := some 169, op := Go.Op.load 32 (Go.Operand.tmp 168), type := 32, pos := "law.go:146", after := #[{ on := 17, ground := Go.Ground.data }, { on := 15, ground := Go.Ground.guard }], guard := some (15, false) }) (v := ?_) rfl (by kernel_rfl) (by kernel_rfl) (by kernel_rfl) (fun _ _ _ h => h) (Or.inl ⟨by rfl, ?_⟩) (by assumption) ?_
                  rotate_left 1
                  focus (intro w hSw; (try dsimp only at hSw); go_simp; try with_reducible rfl)
                  try simp only [Act.put, List.setIfInBounds_toArray, List.set_cons_zero, List.set_cons_succ]
                  refine wpAnyH_take (i := 19) (oi := { dst := some 170, op := Go.Op.indexAddr 63 (Go.Operand.tmp 167) (Go.Operand.tmp 169), type := 0, pos := "law.go:146", after := #[{ on := 16, ground := Go.Ground.data }, { on := 18, ground := Go.Ground.data }, { on := 15, ground := Go.Ground.guard }], guard := some (15, false) }) (v := ?_) rfl (by kernel_rfl) (by kernel_rfl) (by kernel_rfl) (fun _ _ _ h => h) (Or.inl ⟨by rfl, ?_⟩) (by assumption) ?_
                  rotate_left 1
                  focus (intro w hSw; (try dsimp only at hSw); go_simp; try with_reducible rfl)
                  try simp only [Act.put, List.setIfInBounds_toArray, List.set_cons_zero, List.set_cons_succ]
                  refine wpAnyH_take (i := 20) (oi := { dst := some 171, op := Go.Op.load 4 (Go.Operand.tmp 170), type := 4, pos := "law.go:146", after := #[{ on := 19, ground := Go.Ground.data }, { on := 15, ground := Go.Ground.guard }], guard := some (15, false) }) (v := ?_) rfl (by kernel_rfl) (by kernel_rfl) (by kernel_rfl) (fun _ _ _ h => h) (Or.inl ⟨by rfl, ?_⟩) (by assumption) ?_
                  rotate_left 1
                  focus (intro w hSw; (try dsimp only at hSw); go_simp; try with_reducible rfl)
                  try simp only [Act.put, List.setIfInBounds_toArray, List.set_cons_zero, List.set_cons_succ]
                  refine wpAnyH_take (i := 21) (oi := { dst := some 172, op := Go.Op.pick (Go.Operand.tmp 166) (Go.Operand.const (Go.Value.bool true)) (Go.Operand.tmp 171), type := 4, pos := "law.go:146", after := #[{ on := 15, ground := Go.Ground.data }, { on := 20, ground := Go.Ground.data }], guard := none }) (v := ?_) rfl (by kernel_rfl) (by kernel_rfl) (by kernel_rfl) (fun _ _ _ h => h) (Or.inl ⟨by rfl, ?_⟩) (by assumption) ?_
                  rotate_left 1
                  focus (intro w hSw; (try dsimp only at hSw); go_simp; try with_reducible rfl)
                  try simp only [Act.put, List.setIfInBounds_toArray, List.set_cons_zero, List.set_cons_succ]
                  refine wpAnyH_take (i := 22) (oi := { dst := some 173, op := Go.Op.move (Go.Operand.tmp 172), type := 4, pos := "law.go:146", after := #[{ on := 21, ground := Go.Ground.data }, { on := 15, ground := Go.Ground.chain }], guard := none }) (v := ?_) rfl (by kernel_rfl) (by kernel_rfl) (by kernel_rfl) (fun _ _ _ h => h) (Or.inl ⟨by rfl, ?_⟩) (by assumption) ?_
                  rotate_left 1
                  focus (intro w hSw; (try dsimp only at hSw); go_simp; try with_reducible rfl)
                  try simp only [Act.put, List.setIfInBounds_toArray, List.set_cons_zero, List.set_cons_succ]
                  refine wpAnyH_take (i := 23) (oi := { dst := some 174, op := Go.Op.fieldAddr 35 (Go.Operand.tmp 23) 1, type := 0, pos := "law.go:146", after := #[{ on := 22, ground := Go.Ground.guard }], guard := some (22, false) }) (v := ?_) rfl (by kernel_rfl) (by kernel_rfl) (by kernel_rfl) (fun _ _ _ h => h) (Or.inl ⟨by rfl, ?_⟩) (by assumption) ?_
                  rotate_left 1
                  focus (intro w hSw; (try dsimp only at hSw); go_simp; try with_reducible rfl)
                  try simp only [Act.put, List.setIfInBounds_toArray, List.set_cons_zero, List.set_cons_succ]
                  refine wpAnyH_take (i := 24) (oi := { dst := some 175, op := Go.Op.load 3 (Go.Operand.tmp 174), type := 3, pos := "law.go:146", after := #[{ on := 23, ground := Go.Ground.data }, { on := 22, ground := Go.Ground.guard }], guard := some (22, false) }) (v := ?_) rfl (by kernel_rfl) (by kernel_rfl) (by kernel_rfl) (fun _ _ _ h => h) (Or.inl ⟨by rfl, ?_⟩) (by assumption) ?_
                  rotate_left 1
                  focus (intro w hSw; (try dsimp only at hSw); go_simp; try with_reducible rfl)
                  try simp only [Act.put, List.setIfInBounds_toArray, List.set_cons_zero, List.set_cons_succ]
                  refine wpAnyH_take (i := 25) (oi := { dst := some 176, op := Go.Op.binOp Go.BinOp.lss 3 (Go.Operand.tmp 175) (Go.Operand.const (Go.Value.int Go.IntKind.i64 0)) 3, type := 4, pos := "law.go:146", after := #[{ on := 24, ground := Go.Ground.data }, { on := 22, ground := Go.Ground.guard }], guard := some (22, false) }) (v := ?_) rfl (by kernel_rfl) (by kernel_rfl) (by kernel_rfl) (fun _ _ _ h => h) (Or.inl ⟨by rfl, ?_⟩) (by assumption) ?_
                  rotate_left 1
                  focus (intro w hSw; (try dsimp only at hSw); go_simp; try with_reducible rfl)
                  try simp only [Act.put, List.setIfInBounds_toArray, List.set_cons_zero, List.set_cons_succ]
                  refine wpAnyH_take (i := 26) (oi := { dst := some 177, op := Go.Op.pick (Go.Operand.tmp 173) (Go.Operand.const (Go.Value.bool true)) (Go.Operand.tmp 176), type := 4, pos := "law.go:146", after := #[{ on := 22, ground := Go.Ground.data }, { on := 25, ground := Go.Ground.data }], guard := none }) (v := ?_) rfl (by kernel_rfl) (by kernel_rfl) (by kernel_rfl) (fun _ _ _ h => h) (Or.inl ⟨by rfl, ?_⟩) (by assumption) ?_
                  rotate_left 1
                  focus (intro w hSw; (try dsimp only at hSw); go_simp; try with_reducible rfl)
                  try simp only [Act.put, List.setIfInBounds_toArray, List.set_cons_zero, List.set_cons_succ]
                  refine wpAnyH_take (i := 27) (oi := { dst := some 178, op := Go.Op.move (Go.Operand.tmp 177), type := 4, pos := "law.go:146", after := #[{ on := 26, ground := Go.Ground.data }, { on := 22, ground := Go.Ground.chain }], guard := none }) (v := ?_) rfl (by kernel_rfl) (by kernel_rfl) (by kernel_rfl) (fun _ _ _ h => h) (Or.inl ⟨by rfl, ?_⟩) (by assumption) ?_
                  rotate_left 1
                  focus (intro w hSw; (try dsimp only at hSw); go_simp; try with_reducible rfl)
                  try simp only [Act.put, List.setIfInBounds_toArray, List.set_cons_zero, List.set_cons_succ]
                  refine wpAnyH_take (i := 28) (oi := { dst := some 179, op := Go.Op.fieldAddr 35 (Go.Operand.tmp 23) 1, type := 0, pos := "law.go:146", after := #[{ on := 27, ground := Go.Ground.guard }], guard := some (27, false) }) (v := ?_) rfl (by kernel_rfl) (by kernel_rfl) (by kernel_rfl) (fun _ _ _ h => h) (Or.inl ⟨by rfl, ?_⟩) (by assumption) ?_
                  rotate_left 1
                  focus (intro w hSw; (try dsimp only at hSw); go_simp; try with_reducible rfl)
                  try simp only [Act.put, List.setIfInBounds_toArray, List.set_cons_zero, List.set_cons_succ]
                  refine wpAnyH_take (i := 29) (oi := { dst := some 180, op := Go.Op.load 3 (Go.Operand.tmp 179), type := 3, pos := "law.go:146", after := #[{ on := 28, ground := Go.Ground.data }, { on := 27, ground := Go.Ground.guard }], guard := some (27, false) }) (v := ?_) rfl (by kernel_rfl) (by kernel_rfl) (by kernel_rfl) (fun _ _ _ h => h) (Or.inl ⟨by rfl, ?_⟩) (by assumption) ?_
                  rotate_left 1
                  focus (intro w hSw; (try dsimp only at hSw); go_simp; try with_reducible rfl)
                  try simp only [Act.put, List.setIfInBounds_toArray, List.set_cons_zero, List.set_cons_succ]
                  refine wpAnyH_take (i := 30) (oi := { dst := some 181, op := Go.Op.binOp Go.BinOp.gtr 3 (Go.Operand.tmp 180) (Go.Operand.const (Go.Value.int Go.IntKind.i64 7)) 3, type := 4, pos := "law.go:146", after := #[{ on := 29, ground := Go.Ground.data }, { on := 27, ground := Go.Ground.guard }], guard := some (27, false) }) (v := ?_) rfl (by kernel_rfl) (by kernel_rfl) (by kernel_rfl) (fun _ _ _ h => h) (Or.inl ⟨by rfl, ?_⟩) (by assumption) ?_
                  rotate_left 1
                  focus (intro w hSw; (try dsimp only at hSw); go_simp; try with_reducible rfl)
                  try simp only [Act.put, List.setIfInBounds_toArray, List.set_cons_zero, List.set_cons_succ]
                  refine wpAnyH_take (i := 31) (oi := { dst := some 182, op := Go.Op.pick (Go.Operand.tmp 178) (Go.Operand.const (Go.Value.bool true)) (Go.Operand.tmp 181), type := 4, pos := "law.go:146", after := #[{ on := 27, ground := Go.Ground.data }, { on := 30, ground := Go.Ground.data }], guard := none }) (v := ?_) rfl (by kernel_rfl) (by kernel_rfl) (by kernel_rfl) (fun _ _ _ h => h) (Or.inl ⟨by rfl, ?_⟩) (by assumption) ?_
                  rotate_left 1
                  focus (intro w hSw; (try dsimp only at hSw); go_simp; try with_reducible rfl)
                  try simp only [Act.put, List.setIfInBounds_toArray, List.set_cons_zero, List.set_cons_succ]
                  refine wpAnyH_take (i := 32) (oi := { dst := some 183, op := Go.Op.move (Go.Operand.tmp 182), type := 4, pos := "law.go:146", after := #[{ on := 31, ground := Go.Ground.data }, { on := 27, ground := Go.Ground.chain }], guard := none }) (v := ?_) rfl (by kernel_rfl) (by kernel_rfl) (by kernel_rfl) (fun _ _ _ h => h) (Or.inl ⟨by rfl, ?_⟩) (by assumption) ?_
                  rotate_left 1
                  focus (intro w hSw; (try dsimp only at hSw); go_simp; try with_reducible rfl)
                  try simp only [Act.put, List.setIfInBounds_toArray, List.set_cons_zero, List.set_cons_succ]
                  refine wpAnyH_take (i := 33) (oi := { dst := some 184, op := Go.Op.fieldAddr 35 (Go.Operand.tmp 23) 4, type := 0, pos := "law.go:146", after := #[{ on := 32, ground := Go.Ground.guard }], guard := some (32, false) }) (v := ?_) rfl (by kernel_rfl) (by kernel_rfl) (by kernel_rfl) (fun _ _ _ h => h) (Or.inl ⟨by rfl, ?_⟩) (by assumption) ?_
                  rotate_left 1
                  focus (intro w hSw; (try dsimp only at hSw); go_simp; try with_reducible rfl)
                  try simp only [Act.put, List.setIfInBounds_toArray, List.set_cons_zero, List.set_cons_succ]
                  refine wpAnyH_take (i := 34) (oi := { dst := some 185, op := Go.Op.load 32 (Go.Operand.tmp 184), type := 32, pos := "law.go:146", after := #[{ on := 33, ground := Go.Ground.data }, { on := 32, ground := Go.Ground.guard }], guard := some (32, false) }) (v := ?_) rfl (by kernel_rfl) (by kernel_rfl) (by kernel_rfl) (fun _ _ _ h => h) (Or.inl ⟨by rfl, ?_⟩) (by assumption) ?_
                  rotate_left 1
                  focus (intro w hSw; (try dsimp only at hSw); go_simp; try with_reducible rfl)
                  try simp only [Act.put, List.setIfInBounds_toArray, List.set_cons_zero, List.set_cons_succ]
                  refine wpAnyH_take (i := 35) (oi := { dst := some 186, op := Go.Op.convert 32 3 (Go.Operand.tmp 185), type := 3, pos := "law.go:146", after := #[{ on := 34, ground := Go.Ground.data }, { on := 32, ground := Go.Ground.guard }], guard := some (32, false) }) (v := ?_) rfl (by kernel_rfl) (by kernel_rfl) (by kernel_rfl) (fun _ _ _ h => h) (Or.inl ⟨by rfl, ?_⟩) (by assumption) ?_
                  rotate_left 1
                  focus (intro w hSw; (try dsimp only at hSw); go_simp; try with_reducible rfl)
                  try simp only [Act.put, List.setIfInBounds_toArray, List.set_cons_zero, List.set_cons_succ]
                  refine wpAnyH_take (i := 36) (oi := { dst := some 187, op := Go.Op.binOp Go.BinOp.add 3 (Go.Operand.tmp 186) (Go.Operand.const (Go.Value.int Go.IntKind.i64 1)) 3, type := 3, pos := "law.go:146", after := #[{ on := 35, ground := Go.Ground.data }, { on := 32, ground := Go.Ground.guard }], guard := some (32, false) }) (v := ?_) rfl (by kernel_rfl) (by kernel_rfl) (by kernel_rfl) (fun _ _ _ h => h) (Or.inl ⟨by rfl, ?_⟩) (by assumption) ?_
                  rotate_left 1
                  focus (intro w hSw; (try dsimp only at hSw); go_simp; try with_reducible rfl)
                  try simp only [Act.put, List.setIfInBounds_toArray, List.set_cons_zero, List.set_cons_succ]
                  refine wpAnyH_take (i := 37) (oi := { dst := some 188, op := Go.Op.move (Go.Operand.tmp 21), type := 57, pos := "law.go:146", after := #[{ on := 32, ground := Go.Ground.guard }], guard := some (32, false) }) (v := ?_) rfl (by kernel_rfl) (by kernel_rfl) (by kernel_rfl) (fun _ _ _ h => h) (Or.inl ⟨by rfl, ?_⟩) (by assumption) ?_
                  rotate_left 1
                  focus (intro w hSw; (try dsimp only at hSw); go_simp; try with_reducible rfl)
                  try simp only [Act.put, List.setIfInBounds_toArray, List.set_cons_zero, List.set_cons_succ]
                  refine wpAnyH_take (i := 38) (oi := { dst := some 189, op := Go.Op.fieldAddr 35 (Go.Operand.tmp 23) 1, type := 0, pos := "law.go:146", after := #[{ on := 32, ground := Go.Ground.guard }], guard := some (32, false) }) (v := ?_) rfl (by kernel_rfl) (by kernel_rfl) (by kernel_rfl) (fun _ _ _ h => h) (Or.inl ⟨by rfl, ?_⟩) (by assumption) ?_
                  rotate_left 1
                  focus (intro w hSw; (try dsimp only at hSw); go_simp; try with_reducible rfl)
                  try simp only [Act.put, List.setIfInBounds_toArray, List.set_cons_zero, List.set_cons_succ]
                  refine wpAnyH_take (i := 39) (oi := { dst := some 190, op := Go.Op.load 3 (Go.Operand.tmp 189), type := 3, pos := "law.go:146", after := #[{ on := 38, ground := Go.Ground.data }, { on := 32, ground := Go.Ground.guard }], guard := some (32, false) }) (v := ?_) rfl (by kernel_rfl) (by kernel_rfl) (by kernel_rfl) (fun _ _ _ h => h) (Or.inl ⟨by rfl, ?_⟩) (by assumption) ?_
                  rotate_left 1
                  focus (intro w hSw; (try dsimp only at hSw); go_simp; try with_reducible rfl)
                  try simp only [Act.put, List.setIfInBounds_toArray, List.set_cons_zero, List.set_cons_succ]
                  refine wpAnyH_take (i := 40) (oi := { dst := some 191, op := Go.Op.indexAddr 57 (Go.Operand.tmp 188) (Go.Operand.tmp 190), type := 0, pos := "law.go:146", after := #[{ on := 37, ground := Go.Ground.data }, { on := 39, ground := Go.Ground.data }, { on := 32, ground := Go.Ground.guard }], guard := some (32, false) }) (v := ?_) rfl (by kernel_rfl) (by kernel_rfl) (by kernel_rfl) (fun _ _ _ h => h) (Or.inl ⟨by rfl, ?_⟩) (by assumption) ?_
                  rotate_left 1
                  focus (intro w hSw; (try dsimp only at hSw); go_simp; try with_reducible rfl)
                  try simp only [Act.put, List.setIfInBounds_toArray, List.set_cons_zero, List.set_cons_succ]
                  refine wpAnyH_take (i := 41) (oi := { dst := some 192, op := Go.Op.load 3 (Go.Operand.tmp 191), type := 3, pos := "law.go:146", after := #[{ on := 40, ground := Go.Ground.data }, { on := 32, ground := Go.Ground.guard }], guard := some (32, false) }) (v := ?_) rfl (by kernel_rfl) (by kernel_rfl) (by kernel_rfl) (fun _ _ _ h => h) (Or.inl ⟨by rfl, ?_⟩) (by assumption) ?_
                  rotate_left 1
                  focus (intro w hSw; (try dsimp only at hSw); go_simp; try with_reducible rfl)
                  try simp only [Act.put, List.setIfInBounds_toArray, List.set_cons_zero, List.set_cons_succ]
                  refine wpAnyH_take (i := 42) (oi := { dst := some 193, op := Go.Op.binOp Go.BinOp.leq 3 (Go.Operand.tmp 187) (Go.Operand.tmp 192) 3, type := 4, pos := "law.go:146", after := #[{ on := 36, ground := Go.Ground.data }, { on := 41, ground := Go.Ground.data }, { on := 32, ground := Go.Ground.guard }], guard := some (32, false) }) (v := ?_) rfl (by kernel_rfl) (by kernel_rfl) (by kernel_rfl) (fun _ _ _ h => h) (Or.inl ⟨by rfl, ?_⟩) (by assumption) ?_
                  rotate_left 1
                  focus (intro w hSw; (try dsimp only at hSw); go_simp; try with_reducible rfl)
                  try simp only [Act.put, List.setIfInBounds_toArray, List.set_cons_zero, List.set_cons_succ]
                  refine wpAnyH_take (i := 43) (oi := { dst := some 194, op := Go.Op.pick (Go.Operand.tmp 183) (Go.Operand.const (Go.Value.bool true)) (Go.Operand.tmp 193), type := 4, pos := "law.go:146", after := #[{ on := 32, ground := Go.Ground.data }, { on := 42, ground := Go.Ground.data }], guard := none }) (v := ?_) rfl (by kernel_rfl) (by kernel_rfl) (by kernel_rfl) (fun _ _ _ h => h) (Or.inl ⟨by rfl, ?_⟩) (by assumption) ?_
                  rotate_left 1
                  focus (intro w hSw; (try dsimp only at hSw); go_simp; try with_reducible rfl)
                  try simp only [Act.put, List.setIfInBounds_toArray, List.set_cons_zero, List.set_cons_succ]
                  refine wpAnyH_take (i := 44) (oi := { dst := some 195, op := Go.Op.move (Go.Operand.tmp 194), type := 4, pos := "law.go:146", after := #[{ on := 43, ground := Go.Ground.data }, { on := 32, ground := Go.Ground.chain }], guard := none }) (v := ?_) rfl (by kernel_rfl) (by kernel_rfl) (by kernel_rfl) (fun _ _ _ h => h) (Or.inl ⟨by rfl, ?_⟩) (by assumption) ?_
                  rotate_left 1
                  focus (intro w hSw; (try dsimp only at hSw); go_simp; try with_reducible rfl)
                  try simp only [Act.put, List.setIfInBounds_toArray, List.set_cons_zero, List.set_cons_succ]
                  refine wpAnyH_take (i := 45) (oi := { dst := some 196, op := Go.Op.fieldAddr 35 (Go.Operand.tmp 23) 9, type := 0, pos := "law.go:146", after := #[{ on := 44, ground := Go.Ground.guard }], guard := some (44, false) }) (v := ?_) rfl (by kernel_rfl) (by kernel_rfl) (by kernel_rfl) (fun _ _ _ h => h) (Or.inl ⟨by rfl, ?_⟩) (by assumption) ?_
                  rotate_left 1
                  focus (intro w hSw; (try dsimp only at hSw); go_simp; try with_reducible rfl)
                  try simp only [Act.put, List.setIfInBounds_toArray, List.set_cons_zero, List.set_cons_succ]
                  refine wpAnyH_take (i := 46) (oi := { dst := some 197, op := Go.Op.load 33 (Go.Operand.tmp 196), type := 33, pos := "law.go:146", after := #[{ on := 45, ground := Go.Ground.data }, { on := 44, ground := Go.Ground.guard }], guard := some (44, false) }) (v := ?_) rfl (by kernel_rfl) (by kernel_rfl) (by kernel_rfl) (fun _ _ _ h => h) (Or.inl ⟨by rfl, ?_⟩) (by assumption) ?_
                  rotate_left 1
                  focus (intro w hSw; (try dsimp only at hSw); go_simp; try with_reducible rfl)
                  try simp only [Act.put, List.setIfInBounds_toArray, List.set_cons_zero, List.set_cons_succ]
                  refine wpAnyH_take (i := 47) (oi := { dst := some 198, op := Go.Op.convert 33 9 (Go.Operand.tmp 197), type := 9, pos := "law.go:146", after := #[{ on := 46, ground := Go.Ground.data }, { on := 44, ground := Go.Ground.guard }], guard := some (44, false) }) (v := ?_) rfl (by kernel_rfl) (by kernel_rfl) (by kernel_rfl) (fun _ _ _ h => h) (Or.inl ⟨by rfl, ?_⟩) (by assumption) ?_
                  rotate_left 1
                  focus (intro w hSw; (try dsimp only at hSw); go_simp; try with_reducible rfl)
                  try simp only [Act.put, List.setIfInBounds_toArray, List.set_cons_zero, List.set_cons_succ]
                  refine wpAnyH_take (i := 48) (oi := { dst := some 199, op := Go.Op.fieldAddr 35 (Go.Operand.tmp 23) 4, type := 0, pos := "law.go:146", after := #[{ on := 44, ground := Go.Ground.guard }], guard := some (44, false) }) (v := ?_) rfl (by kernel_rfl) (by kernel_rfl) (by kernel_rfl) (fun _ _ _ h => h) (Or.inl ⟨by rfl, ?_⟩) (by assumption) ?_
                  rotate_left 1
                  focus (intro w hSw; (try dsimp only at hSw); go_simp; try with_reducible rfl)
                  try simp only [Act.put, List.setIfInBounds_toArray, List.set_cons_zero, List.set_cons_succ]
                  refine wpAnyH_take (i := 49) (oi := { dst := some 200, op := Go.Op.load 32 (Go.Operand.tmp 199), type := 32, pos := "law.go:146", after := #[{ on := 48, ground := Go.Ground.data }, { on := 44, ground := Go.Ground.guard }], guard := some (44, false) }) (v := ?_) rfl (by kernel_rfl) (by kernel_rfl) (by kernel_rfl) (fun _ _ _ h => h) (Or.inl ⟨by rfl, ?_⟩) (by assumption) ?_
                  rotate_left 1
                  focus (intro w hSw; (try dsimp only at hSw); go_simp; try with_reducible rfl)
                  try simp only [Act.put, List.setIfInBounds_toArray, List.set_cons_zero, List.set_cons_succ]
                  refine wpAnyH_take (i := 50) (oi := { dst := some 201, op := Go.Op.convert 32 5 (Go.Operand.tmp 200), type := 5, pos := "law.go:146", after := #[{ on := 49, ground := Go.Ground.data }, { on := 44, ground := Go.Ground.guard }], guard := some (44, false) }) (v := ?_) rfl (by kernel_rfl) (by kernel_rfl) (by kernel_rfl) (fun _ _ _ h => h) (Or.inl ⟨by rfl, ?_⟩) (by assumption) ?_
                  rotate_left 1
                  focus (intro w hSw; (try dsimp only at hSw); go_simp; try with_reducible rfl)
                  try simp only [Act.put, List.setIfInBounds_toArray, List.set_cons_zero, List.set_cons_succ]
                  have hk9 : Kept (fun _ => False) z0 (z0.alloc (.cells #[.int .u8 (m0 : Nat), .int .u8 1, .int .u8 2] 5)) := (Kept.refl _ z0).alloc _
                  have t2 := Byt.run_str (l := [UInt8.ofNat m0, 1, 2]) (src3 (m0 := m0) z0 (by omega))
                  refine wpAnyH_ready (rs := [51]) (by kernel_rfl) (by simp) ?_
                  refine AllReadyH.cons (o := { dst := some 202, op := Go.Op.buildSlice 33 3 #[(0, Go.Operand.tmp 201), (1, Go.Operand.const (Go.Value.int Go.IntKind.u8 1)), (2, Go.Operand.const (Go.Value.int Go.IntKind.u8 2))], type := 33, pos := "law.go:146", after := #[{ on := 50, ground := Go.Ground.data }, { on := 44, ground := Go.Ground.guard }], guard := some (44, false) }) rfl (fun K hK => ?_) AllReadyH.nil
                  go_simp
                  refine hK.out _ _ (KS.out _ hk9) (fun hHeld => ?_)
                  clear hK K
                  try simp only [Act.put, List.setIfInBounds_toArray, List.set_cons_zero, List.set_cons_succ]
                  refine wpAnyH_ready (rs := [52]) (by kernel_rfl) (by simp) ?_
                  refine AllReadyH.cons (o := { dst := some 203, op := Go.Op.convert 33 9 (Go.Operand.tmp 202), type := 9, pos := "law.go:146", after := #[{ on := 51, ground := Go.Ground.data }, { on := 44, ground := Go.Ground.guard }], guard := some (44, false) }) rfl (fun K hK => ?_) AllReadyH.nil
                  go_simp
                  refine hK.out _ _ (KS.out _ hk9) (fun hHeld => ?_)
                  clear hK K
                  try simp only [Act.put, List.setIfInBounds_toArray, List.set_cons_zero, List.set_cons_succ]
                  clear t2
                  refine wpAnyH_take (i := 53) (oi := { dst := some 204, op := Go.Op.binOp Go.BinOp.neq 9 (Go.Operand.tmp 198) (Go.Operand.tmp 203) 9, type := 4, pos := "law.go:146", after := #[{ on := 47, ground := Go.Ground.data }, { on := 52, ground := Go.Ground.data }, { on := 44, ground := Go.Ground.guard }], guard := some (44, false) }) (v := ?_) rfl (by kernel_rfl) (by kernel_rfl) (by kernel_rfl) (fun _ _ _ h => h) (Or.inl ⟨by rfl, ?_⟩) (by assumption) ?_
                  rotate_left 1
                  focus (intro w hSw; (try dsimp only at hSw); go_simp; try with_reducible rfl)
                  try simp only [Act.put, List.setIfInBounds_toArray, List.set_cons_zero, List.set_cons_succ]
                  refine wpAnyH_take (i := 54) (oi := { dst := some 205, op := Go.Op.pick (Go.Operand.tmp 195) (Go.Operand.const (Go.Value.bool true)) (Go.Operand.tmp 204), type := 4, pos := "law.go:146", after := #[{ on := 44, ground := Go.Ground.data }, { on := 53, ground := Go.Ground.data }], guard := none }) (v := ?_) rfl (by kernel_rfl) (by kernel_rfl) (by kernel_rfl) (fun _ _ _ h => h) (Or.inl ⟨by rfl, ?_⟩) (by assumption) ?_
                  rotate_left 1
                  focus (intro w hSw; (try dsimp only at hSw); go_simp; try with_reducible rfl)
                  try simp only [Act.put, List.setIfInBounds_toArray, List.set_cons_zero, List.set_cons_succ]
                  refine wpAnyH_done (by kernel_rfl) ?_ _
                  have F9 := Lib.hid (F6.out.old hk9)
                  have W9 := Lib.hid (hk9.blk W6.out (fun f => f))
                  have S9 := Lib.hid (hk9.blk S6.out (fun f => f))
                  have L9 := Lib.hid (hk9.blk L6.out (fun f => f))
                  have O9 := Lib.hid (hk9.blk HO.out (fun f => f))
                  generalize z0.alloc (.cells #[.int .u8 (m0 : Nat), .int .u8 1, .int .u8 2] 5) = z9 at *
                  clear hk9 F6 W6 S6 L6 R6 HO KS hHeld
                  have gs := S9.out.cell (o := m0) (v := .bool false) (by rw [List.getElem?_map, HSN.out]; rfl)
                  have fs := S9.out.frozen m0
                  have g4 := O9.out.cell (o := 4) rfl
                  go_upto_region 36 with fail
                  have k10 := Kept.one z9 sb m0 (.bool true)
                  have hbo : ob ≠ sb := ne_blk O9.out S9.out (by decide)
                  have hbl : ob ≠ lb := ne_blk O9.out L9.out (by decide)
                  have S10 := Lib.hid (S9.out.set m0 (.bool true))
                  rw [← List.map_set] at S10
                  have F10 := Lib.hid (F9.out.store (List.mem_cons_of_mem _ List.mem_cons_self) S9.out (by decide) k10)
                  have W10 := Lib.hid (k10.blk W9.out (fun e => hne3 e.symm))
                  have L10 := Lib.hid (k10.blk L9.out (fun e => hne1 e))
                  have O10 := Lib.hid (k10.blk O9.out (fun e => hbo e))
                  generalize z9.setCell ⟨sb, m0, none⟩ (.bool true) = z10 at *
                  clear k10 gs fs g4 F9 W9 S9 L9 O9
                  have gl := L10.out.cell (o := s0) (v := .int .i64 y) (by rw [List.getElem?_map, HY.out]; rfl)
                  have fl := L10.out.frozen s0
                  have g1 := O10.out.cell (o := 1) rfl
                  have g4 := O10.out.cell (o := 4) rfl
                  go_upto_region 31 with fail
                  have k11 := Kept.one z10 lb s0 (.int .i64 ((m0 : Int) + 1))
                  have L11 := Lib.hid (L10.out.set s0 (.int .i64 ((m0 : Int) + 1)))
                  rw [← List.map_set] at L11
                  have F11 := Lib.hid (F10.out.store List.mem_cons_self L10.out (by decide) k11)
                  have W11 := Lib.hid (k11.blk W10.out (fun e => hne2 e.symm))
                  have S11 := Lib.hid (k11.blk S10.out (fun e => hne1 e.symm))
                  generalize z10.setCell ⟨lb, s0, none⟩ (.int .i64 ((m0 : Int) + 1)) = z11 at *
                  clear k11 gl fl g1 g4 F10 W10 S10 L10 O10
                  go_wp2_with fail
                  go_roundg (q - (j + 1))
                  case measure => have := hmm2.out; omega
                  case rel =>
                    refine ⟨j + 1, u.set m0 true, v.set s0 ((m0 : Int) + 1), c' - 1, Lib.hid (Nat.le_refl _), hjq, by go_num, F11, Lib.hid (by have := hc'.out; omega), Lib.hid ⟨by rw [List.length_set]; exact huv.out.1, by rw [List.length_set]; exact huv.out.2⟩, W11, S11, L11, ?_, ?_⟩
                    · exact Lib.hid (hSn.out.next HLJ.out (by have := (HJ2.out _ (List.mem_of_getElem? (l := M1.I h) (i := j) (List.getElem?_eq_getElem (by rw [HQ.out]; exact hjq)))).1; have e := HLJ.out; rw [List.getElem?_map, List.getElem?_eq_getElem (by rw [HQ.out]; exact hjq)] at e; rw [← Option.some.inj e]; exact this) (by have := (HJ2.out _ (List.mem_of_getElem? (l := M1.I h) (i := j) (List.getElem?_eq_getElem (by rw [HQ.out]; exact hjq)))).2; have e := HLJ.out; rw [List.getElem?_map, List.getElem?_eq_getElem (by rw [HQ.out]; exact hjq)] at e; rw [← Option.some.inj e]; exact this))
                    · exact Lib.hid (hLa.out.next (s := s0) HLJ.out (by show ((sA H mu m0 : Nat) : Int) = (s0 : Int); rw [HSE.out]))
                · have hjg' : ¬ ((j : Int) < (q : Int)) := by omega
                  obtain rfl : j = q := by omega
                  have hI0 : ({ M1 with I := Ik M1.I h j } : Mo).I h = [] := by
                    show Ik M1.I h j h = []
                    rw [Ik_at, ← HQ.out, List.drop_length]
                  have TK : Hid (Calls Try.prog 27 #[ptr fb, .int .i64 (h : Nat)] wr fun e w' => e = .returned (.tuple #[.agg #[.int .i64 0, .int .i64 0, .int .i64 0, .int .i64 0, .int .u64 0, .int .i64 0, .int .i64 0, .int .i64 0, .int .i64 0, .slice none 0 0], .bool false]) ∧ FX w (KA H S H n) { M1 with I := Ik M1.I h j } c' [lb, sb, wb] fb w' ∧ Kept (fun _ => False) wr w') := Lib.hid (fx_take_none hF.out (j := h) (by show h < H; exact hlt) hI0)
                  clear hI0 hmm2 hj hjg
                  go_wp2_with fail
                  with_reducible refine Calls.mono TK.out ?_
                  rintro e w5 ⟨rfl, f5, k5⟩
                  go_upto_region 38 with fail
                  have k6 := (Kept.refl (fun _ => False) w5).alloc (.cells #[.int .i64 0, .int .i64 0, .int .i64 0, .int .i64 0, .int .u64 0, .int .i64 0, .int .i64 0, .int .i64 0, .int .i64 0, .slice none 0 0] 35)
                  have F6 := Lib.hid (f5.old k6)
                  have W6 := Lib.hid (k6.blk (k5.blk hW.out (fun f => f)) (fun f => f))
                  have S6 := Lib.hid (k6.blk (k5.blk hS.out (fun f => f)) (fun f => f))
                  generalize w5.alloc (.cells #[.int .i64 0, .int .i64 0, .int .i64 0, .int .i64 0, .int .u64 0, .int .i64 0, .int .i64 0, .int .i64 0, .int .i64 0, .slice none 0 0] 35) = w6 at *
                  clear TK f5 k5 k6 hF hW hS hL cw
                  go_wp2_with fail
                  go_roundg (H - (h + 1))
                  case measure => have := hmm.out; omega
                  case rel =>
                    refine ⟨h + 1, u, c', Lib.hid (Nat.le_refl _), hlt, by go_num, ?_, hc', Lib.hid huv.out.1, W6, S6, Lib.hid hSn.out.up⟩
                    have := F6.out.less (ex' := [sb, wb]) (fun b hb => List.mem_cons_of_mem _ hb)
                    rw [← HQ.out, Ik_next] at this
                    exact Lib.hid this
            · have hge' : ¬ ((h : Int) < (H : Int)) := by omega
              obtain rfl : h = H := by omega
              have hnone : None_ (KA h S h n) { M1 with I := Ik M1.I h 0 } := ⟨HEM.out, fun j hj => by
                show Ik M1.I h 0 j = []
                unfold Ik
                exact if_pos hj⟩
              have EM := Lib.hid (fv_empty hF.out.fv (by have := hc'.out; omega))
              have HN := Lib.hid hnone
              clear hnone hmm hh hge hW hS hSn
              go_wp2_with fail
              with_reducible refine Calls.mono EM.out ?_
              rintro e w5 ⟨r, rfl, hr, hk5⟩
              obtain rfl : r = true := hr.2 HN.out
              have F5 := Lib.hid (hF.out.old hk5)
              have LS : Hid (Calls Try.prog 29 #[ptr fb] w5 fun e w'' => e = .returned (.int .i64 0) ∧ w5 = w'') := by
                have := fv_lost F5.out.fv
                dsimp only at this
                rw [L0.out] at this
                exact Lib.hid this
              have HK5 : Hid (Old w w5) := Lib.hid F5.out.since
              clear EM hr hk5 hF F5
              go_wp2_with fail
              with_reducible refine Calls.mono LS.out ?_
              rintro e w7 ⟨rfl, rfl⟩
              clear LS
              go_wp2_with fail
              with_reducible refine Calls.mono (HC.out _) ?_
              rintro e w8 ⟨rfl, ho⟩
              have HO : Hid (Old w w8) := Lib.hid (HK5.out.trans ho)
              clear ho
              go_wp2_with fail
              go_ret
              exact ⟨rfl, HO.out⟩
theorem walk (H S n m : Int) (w : World) (w0 : (Lit.int .i64 H).wf = true) (w1 : (Lit.int .i64 S).wf = true) (w2 : (Lit.int .i64 n).wf = true) (w3 : (Lit.int .i64 m).wf = true) :
    Calls Try.prog 4 #[.int .i64 H, .int .i64 S, .int .i64 n, .int .i64 m] w fun e w' => e = .returned (.bool true) ∧ Old w w' := by
  have hm := bounds_i64 w3
  by_cases a1 : H < 2
  · exact early H S n m w (Or.inl a1)
  have d1 : decide (H < 2) = false := by rw [decide_eq_false_iff_not]; exact a1
  by_cases a2 : 8 < H
  · exact early H S n m w (Or.inr (Or.inl ⟨d1, a2⟩))
  have d2 : decide (8 < H) = false := by rw [decide_eq_false_iff_not]; exact a2
  by_cases a3 : S < 1
  · exact early H S n m w (Or.inr (Or.inr (Or.inl ⟨d1, d2, a3⟩)))
  have d3 : decide (S < 1) = false := by rw [decide_eq_false_iff_not]; exact a3
  by_cases a4 : 4 < S
  · exact early H S n m w (Or.inr (Or.inr (Or.inr (Or.inl ⟨d1, d2, d3, a4⟩))))
  have d4 : decide (4 < S) = false := by rw [decide_eq_false_iff_not]; exact a4
  by_cases a5 : n < 0
  · exact early H S n m w (Or.inr (Or.inr (Or.inr (Or.inr (Or.inl ⟨d1, d2, d3, d4, a5⟩)))))
  have d5 : decide (n < 0) = false := by rw [decide_eq_false_iff_not]; exact a5
  by_cases a6 : 40 < n
  · exact early H S n m w (Or.inr (Or.inr (Or.inr (Or.inr (Or.inr ⟨d1, d2, d3, d4, d5, a6⟩)))))
  obtain ⟨H', rfl⟩ := Int.eq_ofNat_of_zero_le (show 0 ≤ H by omega)
  obtain ⟨n', rfl⟩ := Int.eq_ofNat_of_zero_le (show 0 ≤ n by omega)
  exact late H' n' S m w (by omega) (by omega) (by omega) (by omega) (by omega) hm.1 hm.2
set_option maxRecDepth 100000 in
set_option maxHeartbeats 1000000 in
theorem lifted (os : Os) (started : os.Started) (H : Type) (enc : TypeId × Value → H) :
    ReturnsInHanded {} Try.checked os 4 .any (Rows.fabricArrivesSpec.pre6 enc Try.prog Try.f4 Rows.fabricArrivesRow.domain false) (Rows.fabricArrivesSpec.post enc Try.prog Try.f4 false true false false) := by
  refine returnsInHanded_of_change (C := Try.checked) own started (by kernel_rfl) Try.func4
    (ChangeSpec.witness6 (enc := enc) (C := Try.checked) false ⟨#[], #[.int .i64 0, .int .i64 0, .int .i64 0, .int .i64 0], []⟩ 8 (by kernel_rfl) (by kernel_rfl) (by kernel_rfl) (by kernel_rfl)) ?_
  intro W base args ds gs before hval0 hW hcnd _
  have hval : ∀ (j : Nat) t v, Try.f4.params[j]? = some t → args[j]? = some v → Value.okWide Try.prog W .any base t v := hval0
  have hW' := hW
  obtain ⟨p, q, hA0, hV, rfl, hfz, hnd⟩ := hW
  have hA : DataW.TrodAll enc Try.prog W 0 (fun _ => true) true Try.f4.params.toList args.toList ds p := hA0
  rw [Try.params4] at hA hval
  obtain ⟨v0, vs0, d0, ds0, p0, q0, hargs, rfl, rfl, h0, r0⟩ := trodAll_cons hA
  obtain ⟨v1, vs1, d1, ds1, p1, q1, rfl, rfl, rfl, h1, r1⟩ := trodAll_cons r0
  obtain ⟨v2, vs2, d2, ds2, p2, q2, rfl, rfl, rfl, h2, r2⟩ := trodAll_cons r1
  obtain ⟨v3, vs3, d3, ds3, p3, q3, rfl, rfl, rfl, h3, r3⟩ := trodAll_cons r2
  obtain ⟨rfl, rfl, rfl⟩ := trodAll_nil r3
  obtain rfl : args = #[v0, v1, v2, v3] := by cases args; simp_all
  obtain ⟨rfl, rfl⟩ := trodVars_none hV
  obtain ⟨a0, rfl, rfl, rfl, w0⟩ := open_int Try.underlying3 (hval 0 3 v0 rfl rfl) h0
  obtain ⟨a1, rfl, rfl, rfl, w1⟩ := open_int Try.underlying3 (hval 1 3 v1 rfl rfl) h1
  obtain ⟨a2, rfl, rfl, rfl, w2⟩ := open_int Try.underlying3 (hval 2 3 v2 rfl rfl) h2
  obtain ⟨a3, rfl, rfl, rfl, w3⟩ := open_int Try.underlying3 (hval 3 3 v3 rfl rfl) h3
  clear hA0 hval0
  simp only [List.append_nil] at hW'
  refine (walk a0 a1 a2 a3 W w0 w1 w2 w3).mono fun e W' ⟨he, hg⟩ => ?_
  subst he
  exact ⟨_, rfl, post_of_old (pa := []) (pv := []) hW' (fun _ _ _ => (trodAll_cons_mk (shut_bool Try.underlying4 _) trodAll_mk0)) (fun sp _ => (trodAll_cons_mk (shut_int Try.underlying3 w0) (trodAll_cons_mk (shut_int Try.underlying3 w1) (trodAll_cons_mk (shut_int Try.underlying3 w2) (trodAll_cons_mk (shut_int Try.underlying3 w3) trodAll_mk0))))) (fun _ _ => rfl)
    hg (ok_one (by kernel_rfl) rfl (okWide_bool_mk Try.underlying4 _))⟩
theorem over : Rows.fabricArrivesRow.holds Try.pinned (OpenSpec.ofChange Rows.fabricArrivesSpec) :=
  OpenClaim.holds_of_wide 4 Try.f4 rfl rfl rfl rfl rfl rfl rfl ⟨rfl, rfl, rfl, rfl, rfl⟩ rfl rfl rfl rfl rfl (by kernel_rfl) Try.func4 (by kernel_rfl)
    (of_decide_eq_true (by kernel_rfl)) (by unfold Func.isWrapper; first | (rw [if_pos (by decide +kernel)]; kernel_rfl) | (rw [if_neg (by decide +kernel)]; exact ⟨rfl, rfl⟩))
    (fun os started H enc _ => lifted os started H enc)
theorem proved : Rows.FabricArrivesSaid :=
  over
#print axioms proved
end Go.Proofs.Ytompbpiaapenaaa.fabricArrives
