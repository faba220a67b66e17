/- An argument of steps: opened, read. Conditions: each theorem's own. -/
import Derived.Test.YtompbpiaapenaaaRg5
import Derived.Test.YtompbpiaapenaaaOpm
import Derived.Test.YtompbpiaapenaaaPqSz
import Derived.Test.YtompbpiaapenaaaRg6
set_option linter.unusedVariables false
namespace Go.Proofs.Ytompbpiaapenaaa.Opn
open Go.ChangeShapes Go.WideShapes Go.RowKit Go.Deep Hp Go.Proofs.Ytompbpiaapenaaa.End Byt WrM Qu Po QuM
set_option maxRecDepth 100000 in
theorem bytes_cell {H : Type} {enc : TypeId × Value → H} {W : World} {n : Nat} {v : Value} {y : DataW H × List MemPlace}
    (hf : DataW.trod enc Try.prog W 0 (fun _ => true) true n 33 [v] = some y) : ∃ s cap l, v = .slice s (List.length l) cap ∧ Byts W s cap l := by
  rcases open_ints Try.underlying33 Try.underlying5 (by kernel_rfl) hf with ⟨hcs, hx⟩ | ⟨a', len', cap', zs, hcs, _, hl, hm, hz, hx, hcell, hwz⟩
  · simp at hcs
    subst hcs
    exact ⟨none, 0, [], rfl, ⟨none, 0, rfl, Nat.le_refl _, Or.inl rfl, fun _ => rfl⟩, by omega⟩
  · simp at hcs
    subst hcs
    simp only [if_true] at hz
    unfold maxLen at hm
    have hlen : ((zs.take len').map fun n => UInt8.ofNat n.toNat).length = len' := by rw [List.length_map, List.length_take]; omega
    refine ⟨some a', cap', (zs.take len').map fun n => UInt8.ofNat n.toNat, by rw [hlen], ⟨_, _, rfl, by omega, ?_, fun h => by cases h⟩, by omega⟩
    by_cases h0 : len' = 0
    · left; rw [h0]; rfl
    · right
      obtain ⟨b, off, rfl, hc⟩ := ints_at hcell (by omega)
      refine ⟨b, off, rfl, World.block_lt_of_cell? W _ (hc 0 (by omega)), fun j hj => ?_⟩
      rw [hlen] at hj
      rw [hc j (by omega)]
      have hb := range_u8 hwz j
      have e : zs.getD j 0 = zs[j]'(by omega) := by simp [List.getD, List.getElem?_eq_getElem (show j < zs.length by omega)]
      rw [e]
      rw [List.getD_eq_getElem?_getD] at e
      rw [e] at hb
      unfold Byt.bv
      simp only [List.getElem_map, List.getElem_take, UInt8.toNat_ofNat']
      congr 2
      omega
theorem take_one {cs : List Value} {j : Nat} {c : Value} (hj : cs[j]? = some c) : (cs.drop j).take 1 = [c] := by
  obtain ⟨h, rfl⟩ := List.getElem?_eq_some_iff.1 hj
  rw [List.drop_eq_getElem_cons h, List.take_succ_cons, List.take_zero]
theorem bytes_at {H : Type} {enc : TypeId × Value → H} {W : World} {n o j : Nat} {cs : List Value} {ys : List (DataW H × List MemPlace)} {c : Value}
    (hj : cs[o]? = some c) (hy : j < ys.length) (h : DataW.trod enc Try.prog W 0 (fun _ => true) true n 33 ((cs.drop o).take (Try.prog.cellsOf 33)) = ys[j]?) : ∃ s cap l, c = .slice s (List.length l) cap ∧ Byts W s cap l := by
  rw [show Try.prog.cellsOf 33 = 1 by kernel_rfl, take_one hj, List.getElem?_eq_getElem hy] at h
  exact bytes_cell h
theorem int_cell {H : Type} {enc : TypeId × Value → H} {W : World} {n o j : Nat} {k : IntKind} {T : TypeId} {cs : List Value} {ys : List (DataW H × List MemPlace)} {c : Value} (ht : Try.prog.underlying T = some (.int k)) (hc : Try.prog.cellsOf T = 1)
    (hj : cs[o]? = some c) (hy : j < ys.length) (h : DataW.trod enc Try.prog W 0 (fun _ => true) true n T ((cs.drop o).take (Try.prog.cellsOf T)) = ys[j]?) : ∃ m, c = .int k m ∧ (Lit.int k m).wf = true := by
  rw [hc, take_one hj, List.getElem?_eq_getElem hy] at h
  obtain ⟨m, e1, _, e3⟩ := DataW.trod_int ht h
  exact ⟨m, by simpa using e1, e3⟩
/-- A step's cells. -/
def scs (z : Int × Bx) : List Value := .int .i64 z.1 :: bT.enc z.2
theorem scs_len (z : Int × Bx) : (scs z).length = 12 := rfl
/-- A step's bytes, its numbers. -/
def SOk (w : World) (z : Int × Bx) : Prop := Byts w z.2.s z.2.c z.2.f.data ∧ (Lit.int .i64 z.2.q).wf = true
/-- A slice of steps that was there at the call. -/
def StIn (w : World) (s : Option Addr) (cap : Nat) (l : List (Int × Bx)) : Prop :=
  l.length ≤ cap ∧ cap ≤ 9223372036854775807 ∧ (∀ z ∈ l, SOk w z) ∧
  (l = [] ∨ ∃ b off, s = some ⟨b, off, none⟩ ∧ b < w.heap.size ∧ ∀ i z, l[i]? = some z → ∀ (j : Nat) v, (scs z)[j]? = some v → w.cell? ⟨b, off + i * 12 + j, none⟩ = some v)
set_option maxRecDepth 100000 in
set_option maxHeartbeats 4000000 in
theorem step_of {H : Type} {enc : TypeId × Value → H} {W : World} {n : Nat} {cs : List Value} {y : DataW H × List MemPlace} (hl : cs.length = 12)
    (h : DataW.trod enc Try.prog W 0 (fun _ => true) true n 37 cs = some y) : ∃ z, cs = scs z ∧ SOk W z := by
  obtain ⟨c0, c1, c2, c3, c4, c5, c6, c7, c8, c9, c10, c11, rfl⟩ : ∃ c0 c1 c2 c3 c4 c5 c6 c7 c8 c9 c10 c11, cs = [c0, c1, c2, c3, c4, c5, c6, c7, c8, c9, c10, c11] := by
    rcases cs with _ | ⟨c0, _ | ⟨c1, _ | ⟨c2, _ | ⟨c3, _ | ⟨c4, _ | ⟨c5, _ | ⟨c6, _ | ⟨c7, _ | ⟨c8, _ | ⟨c9, _ | ⟨c10, _ | ⟨c11, _ | ⟨c12, l⟩⟩⟩⟩⟩⟩⟩⟩⟩⟩⟩⟩⟩ <;> first | exact ⟨_, _, _, _, _, _, _, _, _, _, _, _, rfl⟩ | (simp at hl)
  obtain ⟨ys, n', _, _, hlen, hyl, hf⟩ := DataW.trod_struct Try.underlying37 h
  have hy3 : ys.length = 3 := by simpa using hyl
  obtain ⟨k0, rfl, b0⟩ := int_cell Try.underlying3 (by kernel_rfl) (o := 0) (j := 0) rfl (by omega) (hf 0 _ rfl)
  obtain ⟨k2, rfl, b2⟩ := int_cell Try.underlying3 (by kernel_rfl) (o := 11) (j := 2) rfl (by omega) (hf 2 _ rfl)
  have hF := hf 1 _ rfl
  rw [List.getElem?_eq_getElem (show 1 < ys.length by omega)] at hF
  have hF2 : DataW.trod enc Try.prog W 0 (fun _ => true) true n' 35 [c1, c2, c3, c4, c5, c6, c7, c8, c9, c10] = some ys[1] := hF
  obtain ⟨zs, n'', _, _, hlen2, hzl, hg⟩ := DataW.trod_struct Try.underlying35 hF2
  have hz10 : zs.length = 10 := by simpa using hzl
  obtain ⟨m0, rfl, d0⟩ := int_cell Try.underlying3 (by kernel_rfl) (o := 0) (j := 0) rfl (by omega) (hg 0 _ rfl)
  obtain ⟨m1, rfl, d1⟩ := int_cell Try.underlying3 (by kernel_rfl) (o := 1) (j := 1) rfl (by omega) (hg 1 _ rfl)
  obtain ⟨m2, rfl, d2⟩ := int_cell Try.underlying3 (by kernel_rfl) (o := 2) (j := 2) rfl (by omega) (hg 2 _ rfl)
  obtain ⟨m3, rfl, d3⟩ := int_cell Try.underlying3 (by kernel_rfl) (o := 3) (j := 3) rfl (by omega) (hg 3 _ rfl)
  obtain ⟨m4, rfl, d4⟩ := int_cell Try.underlying32 (by kernel_rfl) (o := 4) (j := 4) rfl (by omega) (hg 4 _ rfl)
  obtain ⟨m5, rfl, d5⟩ := int_cell Try.underlying3 (by kernel_rfl) (o := 5) (j := 5) rfl (by omega) (hg 5 _ rfl)
  obtain ⟨m6, rfl, d6⟩ := int_cell Try.underlying3 (by kernel_rfl) (o := 6) (j := 6) rfl (by omega) (hg 6 _ rfl)
  obtain ⟨m7, rfl, d7⟩ := int_cell Try.underlying3 (by kernel_rfl) (o := 7) (j := 7) rfl (by omega) (hg 7 _ rfl)
  obtain ⟨m8, rfl, d8⟩ := int_cell Try.underlying3 (by kernel_rfl) (o := 8) (j := 8) rfl (by omega) (hg 8 _ rfl)
  obtain ⟨s, cap, l, rfl, hB⟩ := bytes_at (o := 9) (j := 9) rfl (by omega) (hg 9 _ rfl)
  have b4' := bounds_u64 d4
  obtain ⟨q, rfl⟩ : ∃ q : Nat, m4 = q := ⟨m4.toNat, by omega⟩
  exact ⟨(k0, ⟨⟨m0, m1, m2, m3, q, m5, m6, m7, m8, l⟩, s, cap, k2⟩), rfl, hB, b2⟩
set_option maxRecDepth 100000 in
set_option maxHeartbeats 4000000 in
theorem steps_of {H : Type} {enc : TypeId × Value → H} {W : World} {base : Nat} {v : Value} {d : DataW H} {p : List MemPlace}
    (hv : Value.okWide Try.prog W .any base 22 v) (h : DataW.Trod enc Try.prog W 0 (fun _ => true) true 22 v d p) : ∃ s cap l, v = .slice s (List.length l) cap ∧ StIn W s cap l := by
  obtain ⟨a, len, cap, rfl⟩ := okWide_slice Try.underlying22 hv
  obtain ⟨_, hf⟩ := h
  have hC : Try.prog.cellsOf 37 = 12 := by kernel_rfl
  rcases open_slice Try.underlying22 hf with ⟨hcs, hx⟩ | ⟨a', len', cap', m, n, D, Pl, hcs, _, hl, _, hm, hm2, hi⟩
  · simp [Value.cells] at hcs
    obtain ⟨rfl, rfl, rfl⟩ := hcs
    exact ⟨none, 0, [], rfl, Nat.le_refl _, by omega, by simp, Or.inl rfl⟩
  · simp [Value.cells] at hcs
    obtain ⟨rfl, rfl, rfl⟩ := hcs
    simp only [if_true] at hm
    have each : ∀ i, i < len → ∃ z : Int × Bx, SOk W z ∧ ∀ (j : Nat) v, (scs z)[j]? = some v → W.cell? ((a'.add (i * 12)).add j) = some v := by
      intro i hil
      obtain ⟨cs', hc, ht'⟩ := hi i (by omega)
      rw [hC] at hc
      obtain ⟨_, hcl, hat⟩ := World.cells?_some hc
      obtain ⟨z, rfl, hz⟩ := step_of (by omega) ht'
      refine ⟨z, hz, fun j v hj => ?_⟩
      rw [hat j (by have := (List.getElem?_eq_some_iff.1 hj).1; rw [scs_len] at this; exact this), hj]
    have ex : ∃ Z : Nat → Int × Bx, ∀ i, i < len → SOk W (Z i) ∧ ∀ (j : Nat) v, (scs (Z i))[j]? = some v → W.cell? ((a'.add (i * 12)).add j) = some v := by
      classical
      exact ⟨fun i => if h : i < len then (each i h).choose else (0, zB), fun i h => by simp only [dif_pos h]; exact (each i h).choose_spec⟩
    obtain ⟨Z, hZ⟩ := ex
    have hlen : ((List.range len).map Z).length = len := by simp
    refine ⟨some a', cap, (List.range len).map Z, by rw [hlen], by omega, ?_, ?_, ?_⟩
    · unfold maxLen at *; omega
    · intro r hr
      obtain ⟨i, hi, rfl⟩ := List.mem_map.1 hr
      exact (hZ i (List.mem_range.1 hi)).1
    · by_cases hz : len = 0
      · left; rw [hz]; rfl
      · right
        have hp : 0 < len := by omega
        have c0 := (hZ 0 hp).2 0 _ rfl
        obtain ⟨b, off, rfl⟩ : ∃ b off, a' = ⟨b, off, none⟩ := by
          obtain ⟨b, off, mm⟩ := a'
          have hspot : mm = none := by simpa [Addr.add] using World.cell?_spot c0
          subst hspot
          exact ⟨b, off, rfl⟩
        refine ⟨b, off, rfl, ?_, fun i z hiz j v hv => ?_⟩
        · rw [Go.WideShapes.add_plain, Go.WideShapes.add_plain] at c0
          exact World.block_lt_of_cell? W _ c0
        · have hil : i < len := by have := (List.getElem?_eq_some_iff.1 hiz).1; rwa [hlen] at this
          rw [List.getElem?_map, List.getElem?_range hil] at hiz
          obtain rfl : Z i = z := Option.some.inj hiz
          have := (hZ i hil).2 j v hv
          rw [Go.WideShapes.add_plain, Go.WideShapes.add_plain] at this
          exact this
end Go.Proofs.Ytompbpiaapenaaa.Opn

/- Frames: the reference's Check. Conditions: each theorem's own. -/
namespace Go.Proofs.Ytompbpiaapenaaa.Wr
open Classical
open Go.RowKit Hp WrM
attribute [local go_sem ↓] Go.wp_at_zero Go.wp_at_succ
set_option maxHeartbeats 4000000 in
set_option maxRecDepth 100000 in
theorem checkR_fit {f : Frm} (h : ¬ Fit f) (s : Option Addr) (c : Nat) (w : World) : Calls Try.prog 37 #[fv f s c] w (Ans w (.int .i64 1)) := by
  obtain ⟨kind, src, dst, prio, msg, off, len, total, num, data⟩ := f
  unfold Fit at h
  dsimp only at h
  unfold fv fcs
  dsimp only
  by_cases g0 : (1 ≤ kind ∧ kind ≤ 12)
  rotate_left
  · clear h
    by_cases u : kind < 1
    · have ua : decide (kind < (1 : Int)) = true := by exact decide_eq_true (by omega)
      clear g0
      go_enter Try.func37, Try.ntmps37
      go_upto_region 1 with fail
      have hB : Blk (w.alloc (.cells #[.int .i64 kind, .int .i64 src, .int .i64 dst, .int .i64 prio, .int .u64 (msg : Int), .int .i64 off, .int .i64 len, .int .i64 total, .int .i64 num, .slice s data.length c] 35)) w.heap.size [.int .i64 kind, .int .i64 src, .int .i64 dst, .int .i64 prio, .int .u64 (msg : Int), .int .i64 off, .int .i64 len, .int .i64 total, .int .i64 num, .slice s data.length c] 35 := Blk.new w _ _
      have hk1 : Kept (fun _ => False) w (w.alloc (.cells #[.int .i64 kind, .int .i64 src, .int .i64 dst, .int .i64 prio, .int .u64 (msg : Int), .int .i64 off, .int .i64 len, .int .i64 total, .int .i64 num, .slice s data.length c] 35)) := (Kept.refl _ w).alloc _
      generalize w.alloc (.cells #[.int .i64 kind, .int .i64 src, .int .i64 dst, .int .i64 prio, .int .u64 (msg : Int), .int .i64 off, .int .i64 len, .int .i64 total, .int .i64 num, .slice s data.length c] 35) = w1 at *
      generalize w.heap.size = vb at *
      have e0 := hB.cell (o := 0) rfl
      have e1 := hB.cell (o := 1) rfl
      have e2 := hB.cell (o := 2) rfl
      have e3 := hB.cell (o := 3) rfl
      have e4 := hB.cell (o := 4) rfl
      have e5 := hB.cell (o := 5) rfl
      have e6 := hB.cell (o := 6) rfl
      have e7 := hB.cell (o := 7) rfl
      have e8 := hB.cell (o := 8) rfl
      clear hB
      go_wp2_with fail
      go_ret
      exact ⟨rfl, hk1⟩
    · have ua : decide (kind < (1 : Int)) = false := by rw [decide_eq_false_iff_not]; omega
      have ub : decide ((12 : Int) < kind) = true := by exact decide_eq_true (by omega)
      clear g0
      go_enter Try.func37, Try.ntmps37
      go_upto_region 1 with fail
      have hB : Blk (w.alloc (.cells #[.int .i64 kind, .int .i64 src, .int .i64 dst, .int .i64 prio, .int .u64 (msg : Int), .int .i64 off, .int .i64 len, .int .i64 total, .int .i64 num, .slice s data.length c] 35)) w.heap.size [.int .i64 kind, .int .i64 src, .int .i64 dst, .int .i64 prio, .int .u64 (msg : Int), .int .i64 off, .int .i64 len, .int .i64 total, .int .i64 num, .slice s data.length c] 35 := Blk.new w _ _
      have hk1 : Kept (fun _ => False) w (w.alloc (.cells #[.int .i64 kind, .int .i64 src, .int .i64 dst, .int .i64 prio, .int .u64 (msg : Int), .int .i64 off, .int .i64 len, .int .i64 total, .int .i64 num, .slice s data.length c] 35)) := (Kept.refl _ w).alloc _
      generalize w.alloc (.cells #[.int .i64 kind, .int .i64 src, .int .i64 dst, .int .i64 prio, .int .u64 (msg : Int), .int .i64 off, .int .i64 len, .int .i64 total, .int .i64 num, .slice s data.length c] 35) = w1 at *
      generalize w.heap.size = vb at *
      have e0 := hB.cell (o := 0) rfl
      have e1 := hB.cell (o := 1) rfl
      have e2 := hB.cell (o := 2) rfl
      have e3 := hB.cell (o := 3) rfl
      have e4 := hB.cell (o := 4) rfl
      have e5 := hB.cell (o := 5) rfl
      have e6 := hB.cell (o := 6) rfl
      have e7 := hB.cell (o := 7) rfl
      have e8 := hB.cell (o := 8) rfl
      clear hB
      go_wp2_with fail
      go_ret
      exact ⟨rfl, hk1⟩
  by_cases g1 : (0 ≤ src ∧ src ≤ 7)
  rotate_left
  · clear h
    by_cases u : src < 0
    · have q0a : decide (kind < (1 : Int)) = false := by rw [decide_eq_false_iff_not]; omega
      have q0b : decide ((12 : Int) < kind) = false := by rw [decide_eq_false_iff_not]; omega
      have ua : decide (src < (0 : Int)) = true := by exact decide_eq_true (by omega)
      clear g0 g1
      go_enter Try.func37, Try.ntmps37
      go_upto_region 1 with fail
      have hB : Blk (w.alloc (.cells #[.int .i64 kind, .int .i64 src, .int .i64 dst, .int .i64 prio, .int .u64 (msg : Int), .int .i64 off, .int .i64 len, .int .i64 total, .int .i64 num, .slice s data.length c] 35)) w.heap.size [.int .i64 kind, .int .i64 src, .int .i64 dst, .int .i64 prio, .int .u64 (msg : Int), .int .i64 off, .int .i64 len, .int .i64 total, .int .i64 num, .slice s data.length c] 35 := Blk.new w _ _
      have hk1 : Kept (fun _ => False) w (w.alloc (.cells #[.int .i64 kind, .int .i64 src, .int .i64 dst, .int .i64 prio, .int .u64 (msg : Int), .int .i64 off, .int .i64 len, .int .i64 total, .int .i64 num, .slice s data.length c] 35)) := (Kept.refl _ w).alloc _
      generalize w.alloc (.cells #[.int .i64 kind, .int .i64 src, .int .i64 dst, .int .i64 prio, .int .u64 (msg : Int), .int .i64 off, .int .i64 len, .int .i64 total, .int .i64 num, .slice s data.length c] 35) = w1 at *
      generalize w.heap.size = vb at *
      have e0 := hB.cell (o := 0) rfl
      have e1 := hB.cell (o := 1) rfl
      have e2 := hB.cell (o := 2) rfl
      have e3 := hB.cell (o := 3) rfl
      have e4 := hB.cell (o := 4) rfl
      have e5 := hB.cell (o := 5) rfl
      have e6 := hB.cell (o := 6) rfl
      have e7 := hB.cell (o := 7) rfl
      have e8 := hB.cell (o := 8) rfl
      clear hB
      go_wp2_with fail
      go_ret
      exact ⟨rfl, hk1⟩
    · have q0a : decide (kind < (1 : Int)) = false := by rw [decide_eq_false_iff_not]; omega
      have q0b : decide ((12 : Int) < kind) = false := by rw [decide_eq_false_iff_not]; omega
      have ua : decide (src < (0 : Int)) = false := by rw [decide_eq_false_iff_not]; omega
      have ub : decide ((7 : Int) < src) = true := by exact decide_eq_true (by omega)
      clear g0 g1
      go_enter Try.func37, Try.ntmps37
      go_upto_region 1 with fail
      have hB : Blk (w.alloc (.cells #[.int .i64 kind, .int .i64 src, .int .i64 dst, .int .i64 prio, .int .u64 (msg : Int), .int .i64 off, .int .i64 len, .int .i64 total, .int .i64 num, .slice s data.length c] 35)) w.heap.size [.int .i64 kind, .int .i64 src, .int .i64 dst, .int .i64 prio, .int .u64 (msg : Int), .int .i64 off, .int .i64 len, .int .i64 total, .int .i64 num, .slice s data.length c] 35 := Blk.new w _ _
      have hk1 : Kept (fun _ => False) w (w.alloc (.cells #[.int .i64 kind, .int .i64 src, .int .i64 dst, .int .i64 prio, .int .u64 (msg : Int), .int .i64 off, .int .i64 len, .int .i64 total, .int .i64 num, .slice s data.length c] 35)) := (Kept.refl _ w).alloc _
      generalize w.alloc (.cells #[.int .i64 kind, .int .i64 src, .int .i64 dst, .int .i64 prio, .int .u64 (msg : Int), .int .i64 off, .int .i64 len, .int .i64 total, .int .i64 num, .slice s data.length c] 35) = w1 at *
      generalize w.heap.size = vb at *
      have e0 := hB.cell (o := 0) rfl
      have e1 := hB.cell (o := 1) rfl
      have e2 := hB.cell (o := 2) rfl
      have e3 := hB.cell (o := 3) rfl
      have e4 := hB.cell (o := 4) rfl
      have e5 := hB.cell (o := 5) rfl
      have e6 := hB.cell (o := 6) rfl
      have e7 := hB.cell (o := 7) rfl
      have e8 := hB.cell (o := 8) rfl
      clear hB
      go_wp2_with fail
      go_ret
      exact ⟨rfl, hk1⟩
  by_cases g2 : (0 ≤ dst ∧ dst ≤ 7)
  rotate_left
  · clear h
    by_cases u : dst < 0
    · have q0a : decide (kind < (1 : Int)) = false := by rw [decide_eq_false_iff_not]; omega
      have q0b : decide ((12 : Int) < kind) = false := by rw [decide_eq_false_iff_not]; omega
      have q1a : decide (src < (0 : Int)) = false := by rw [decide_eq_false_iff_not]; omega
      have q1b : decide ((7 : Int) < src) = false := by rw [decide_eq_false_iff_not]; omega
      have ua : decide (dst < (0 : Int)) = true := by exact decide_eq_true (by omega)
      clear g0 g1 g2
      go_enter Try.func37, Try.ntmps37
      go_upto_region 1 with fail
      have hB : Blk (w.alloc (.cells #[.int .i64 kind, .int .i64 src, .int .i64 dst, .int .i64 prio, .int .u64 (msg : Int), .int .i64 off, .int .i64 len, .int .i64 total, .int .i64 num, .slice s data.length c] 35)) w.heap.size [.int .i64 kind, .int .i64 src, .int .i64 dst, .int .i64 prio, .int .u64 (msg : Int), .int .i64 off, .int .i64 len, .int .i64 total, .int .i64 num, .slice s data.length c] 35 := Blk.new w _ _
      have hk1 : Kept (fun _ => False) w (w.alloc (.cells #[.int .i64 kind, .int .i64 src, .int .i64 dst, .int .i64 prio, .int .u64 (msg : Int), .int .i64 off, .int .i64 len, .int .i64 total, .int .i64 num, .slice s data.length c] 35)) := (Kept.refl _ w).alloc _
      generalize w.alloc (.cells #[.int .i64 kind, .int .i64 src, .int .i64 dst, .int .i64 prio, .int .u64 (msg : Int), .int .i64 off, .int .i64 len, .int .i64 total, .int .i64 num, .slice s data.length c] 35) = w1 at *
      generalize w.heap.size = vb at *
      have e0 := hB.cell (o := 0) rfl
      have e1 := hB.cell (o := 1) rfl
      have e2 := hB.cell (o := 2) rfl
      have e3 := hB.cell (o := 3) rfl
      have e4 := hB.cell (o := 4) rfl
      have e5 := hB.cell (o := 5) rfl
      have e6 := hB.cell (o := 6) rfl
      have e7 := hB.cell (o := 7) rfl
      have e8 := hB.cell (o := 8) rfl
      clear hB
      go_wp2_with fail
      go_ret
      exact ⟨rfl, hk1⟩
    · have q0a : decide (kind < (1 : Int)) = false := by rw [decide_eq_false_iff_not]; omega
      have q0b : decide ((12 : Int) < kind) = false := by rw [decide_eq_false_iff_not]; omega
      have q1a : decide (src < (0 : Int)) = false := by rw [decide_eq_false_iff_not]; omega
      have q1b : decide ((7 : Int) < src) = false := by rw [decide_eq_false_iff_not]; omega
      have ua : decide (dst < (0 : Int)) = false := by rw [decide_eq_false_iff_not]; omega
      have ub : decide ((7 : Int) < dst) = true := by exact decide_eq_true (by omega)
      clear g0 g1 g2
      go_enter Try.func37, Try.ntmps37
      go_upto_region 1 with fail
      have hB : Blk (w.alloc (.cells #[.int .i64 kind, .int .i64 src, .int .i64 dst, .int .i64 prio, .int .u64 (msg : Int), .int .i64 off, .int .i64 len, .int .i64 total, .int .i64 num, .slice s data.length c] 35)) w.heap.size [.int .i64 kind, .int .i64 src, .int .i64 dst, .int .i64 prio, .int .u64 (msg : Int), .int .i64 off, .int .i64 len, .int .i64 total, .int .i64 num, .slice s data.length c] 35 := Blk.new w _ _
      have hk1 : Kept (fun _ => False) w (w.alloc (.cells #[.int .i64 kind, .int .i64 src, .int .i64 dst, .int .i64 prio, .int .u64 (msg : Int), .int .i64 off, .int .i64 len, .int .i64 total, .int .i64 num, .slice s data.length c] 35)) := (Kept.refl _ w).alloc _
      generalize w.alloc (.cells #[.int .i64 kind, .int .i64 src, .int .i64 dst, .int .i64 prio, .int .u64 (msg : Int), .int .i64 off, .int .i64 len, .int .i64 total, .int .i64 num, .slice s data.length c] 35) = w1 at *
      generalize w.heap.size = vb at *
      have e0 := hB.cell (o := 0) rfl
      have e1 := hB.cell (o := 1) rfl
      have e2 := hB.cell (o := 2) rfl
      have e3 := hB.cell (o := 3) rfl
      have e4 := hB.cell (o := 4) rfl
      have e5 := hB.cell (o := 5) rfl
      have e6 := hB.cell (o := 6) rfl
      have e7 := hB.cell (o := 7) rfl
      have e8 := hB.cell (o := 8) rfl
      clear hB
      go_wp2_with fail
      go_ret
      exact ⟨rfl, hk1⟩
  by_cases g3 : (0 ≤ prio ∧ prio ≤ 7)
  rotate_left
  · clear h
    by_cases u : prio < 0
    · have q0a : decide (kind < (1 : Int)) = false := by rw [decide_eq_false_iff_not]; omega
      have q0b : decide ((12 : Int) < kind) = false := by rw [decide_eq_false_iff_not]; omega
      have q1a : decide (src < (0 : Int)) = false := by rw [decide_eq_false_iff_not]; omega
      have q1b : decide ((7 : Int) < src) = false := by rw [decide_eq_false_iff_not]; omega
      have q2a : decide (dst < (0 : Int)) = false := by rw [decide_eq_false_iff_not]; omega
      have q2b : decide ((7 : Int) < dst) = false := by rw [decide_eq_false_iff_not]; omega
      have ua : decide (prio < (0 : Int)) = true := by exact decide_eq_true (by omega)
      clear g0 g1 g2 g3
      go_enter Try.func37, Try.ntmps37
      go_upto_region 1 with fail
      have hB : Blk (w.alloc (.cells #[.int .i64 kind, .int .i64 src, .int .i64 dst, .int .i64 prio, .int .u64 (msg : Int), .int .i64 off, .int .i64 len, .int .i64 total, .int .i64 num, .slice s data.length c] 35)) w.heap.size [.int .i64 kind, .int .i64 src, .int .i64 dst, .int .i64 prio, .int .u64 (msg : Int), .int .i64 off, .int .i64 len, .int .i64 total, .int .i64 num, .slice s data.length c] 35 := Blk.new w _ _
      have hk1 : Kept (fun _ => False) w (w.alloc (.cells #[.int .i64 kind, .int .i64 src, .int .i64 dst, .int .i64 prio, .int .u64 (msg : Int), .int .i64 off, .int .i64 len, .int .i64 total, .int .i64 num, .slice s data.length c] 35)) := (Kept.refl _ w).alloc _
      generalize w.alloc (.cells #[.int .i64 kind, .int .i64 src, .int .i64 dst, .int .i64 prio, .int .u64 (msg : Int), .int .i64 off, .int .i64 len, .int .i64 total, .int .i64 num, .slice s data.length c] 35) = w1 at *
      generalize w.heap.size = vb at *
      have e0 := hB.cell (o := 0) rfl
      have e1 := hB.cell (o := 1) rfl
      have e2 := hB.cell (o := 2) rfl
      have e3 := hB.cell (o := 3) rfl
      have e4 := hB.cell (o := 4) rfl
      have e5 := hB.cell (o := 5) rfl
      have e6 := hB.cell (o := 6) rfl
      have e7 := hB.cell (o := 7) rfl
      have e8 := hB.cell (o := 8) rfl
      clear hB
      go_wp2_with fail
      go_ret
      exact ⟨rfl, hk1⟩
    · have q0a : decide (kind < (1 : Int)) = false := by rw [decide_eq_false_iff_not]; omega
      have q0b : decide ((12 : Int) < kind) = false := by rw [decide_eq_false_iff_not]; omega
      have q1a : decide (src < (0 : Int)) = false := by rw [decide_eq_false_iff_not]; omega
      have q1b : decide ((7 : Int) < src) = false := by rw [decide_eq_false_iff_not]; omega
      have q2a : decide (dst < (0 : Int)) = false := by rw [decide_eq_false_iff_not]; omega
      have q2b : decide ((7 : Int) < dst) = false := by rw [decide_eq_false_iff_not]; omega
      have ua : decide (prio < (0 : Int)) = false := by rw [decide_eq_false_iff_not]; omega
      have ub : decide ((7 : Int) < prio) = true := by exact decide_eq_true (by omega)
      clear g0 g1 g2 g3
      go_enter Try.func37, Try.ntmps37
      go_upto_region 1 with fail
      have hB : Blk (w.alloc (.cells #[.int .i64 kind, .int .i64 src, .int .i64 dst, .int .i64 prio, .int .u64 (msg : Int), .int .i64 off, .int .i64 len, .int .i64 total, .int .i64 num, .slice s data.length c] 35)) w.heap.size [.int .i64 kind, .int .i64 src, .int .i64 dst, .int .i64 prio, .int .u64 (msg : Int), .int .i64 off, .int .i64 len, .int .i64 total, .int .i64 num, .slice s data.length c] 35 := Blk.new w _ _
      have hk1 : Kept (fun _ => False) w (w.alloc (.cells #[.int .i64 kind, .int .i64 src, .int .i64 dst, .int .i64 prio, .int .u64 (msg : Int), .int .i64 off, .int .i64 len, .int .i64 total, .int .i64 num, .slice s data.length c] 35)) := (Kept.refl _ w).alloc _
      generalize w.alloc (.cells #[.int .i64 kind, .int .i64 src, .int .i64 dst, .int .i64 prio, .int .u64 (msg : Int), .int .i64 off, .int .i64 len, .int .i64 total, .int .i64 num, .slice s data.length c] 35) = w1 at *
      generalize w.heap.size = vb at *
      have e0 := hB.cell (o := 0) rfl
      have e1 := hB.cell (o := 1) rfl
      have e2 := hB.cell (o := 2) rfl
      have e3 := hB.cell (o := 3) rfl
      have e4 := hB.cell (o := 4) rfl
      have e5 := hB.cell (o := 5) rfl
      have e6 := hB.cell (o := 6) rfl
      have e7 := hB.cell (o := 7) rfl
      have e8 := hB.cell (o := 8) rfl
      clear hB
      go_wp2_with fail
      go_ret
      exact ⟨rfl, hk1⟩
  by_cases g4 : msg ≤ 1152921504606846976
  rotate_left
  · clear h
    have q0a : decide (kind < (1 : Int)) = false := by rw [decide_eq_false_iff_not]; omega
    have q0b : decide ((12 : Int) < kind) = false := by rw [decide_eq_false_iff_not]; omega
    have q1a : decide (src < (0 : Int)) = false := by rw [decide_eq_false_iff_not]; omega
    have q1b : decide ((7 : Int) < src) = false := by rw [decide_eq_false_iff_not]; omega
    have q2a : decide (dst < (0 : Int)) = false := by rw [decide_eq_false_iff_not]; omega
    have q2b : decide ((7 : Int) < dst) = false := by rw [decide_eq_false_iff_not]; omega
    have q3a : decide (prio < (0 : Int)) = false := by rw [decide_eq_false_iff_not]; omega
    have q3b : decide ((7 : Int) < prio) = false := by rw [decide_eq_false_iff_not]; omega
    have ub : decide ((1152921504606846976 : Int) < (msg : Int)) = true := by exact decide_eq_true (by omega)
    clear g0 g1 g2 g3 g4
    go_enter Try.func37, Try.ntmps37
    go_upto_region 1 with fail
    have hB : Blk (w.alloc (.cells #[.int .i64 kind, .int .i64 src, .int .i64 dst, .int .i64 prio, .int .u64 (msg : Int), .int .i64 off, .int .i64 len, .int .i64 total, .int .i64 num, .slice s data.length c] 35)) w.heap.size [.int .i64 kind, .int .i64 src, .int .i64 dst, .int .i64 prio, .int .u64 (msg : Int), .int .i64 off, .int .i64 len, .int .i64 total, .int .i64 num, .slice s data.length c] 35 := Blk.new w _ _
    have hk1 : Kept (fun _ => False) w (w.alloc (.cells #[.int .i64 kind, .int .i64 src, .int .i64 dst, .int .i64 prio, .int .u64 (msg : Int), .int .i64 off, .int .i64 len, .int .i64 total, .int .i64 num, .slice s data.length c] 35)) := (Kept.refl _ w).alloc _
    generalize w.alloc (.cells #[.int .i64 kind, .int .i64 src, .int .i64 dst, .int .i64 prio, .int .u64 (msg : Int), .int .i64 off, .int .i64 len, .int .i64 total, .int .i64 num, .slice s data.length c] 35) = w1 at *
    generalize w.heap.size = vb at *
    have e0 := hB.cell (o := 0) rfl
    have e1 := hB.cell (o := 1) rfl
    have e2 := hB.cell (o := 2) rfl
    have e3 := hB.cell (o := 3) rfl
    have e4 := hB.cell (o := 4) rfl
    have e5 := hB.cell (o := 5) rfl
    have e6 := hB.cell (o := 6) rfl
    have e7 := hB.cell (o := 7) rfl
    have e8 := hB.cell (o := 8) rfl
    clear hB
    go_wp2_with fail
    go_ret
    exact ⟨rfl, hk1⟩
  by_cases g5 : (0 ≤ off ∧ off ≤ 1073741824)
  rotate_left
  · clear h
    by_cases u : off < 0
    · have q0a : decide (kind < (1 : Int)) = false := by rw [decide_eq_false_iff_not]; omega
      have q0b : decide ((12 : Int) < kind) = false := by rw [decide_eq_false_iff_not]; omega
      have q1a : decide (src < (0 : Int)) = false := by rw [decide_eq_false_iff_not]; omega
      have q1b : decide ((7 : Int) < src) = false := by rw [decide_eq_false_iff_not]; omega
      have q2a : decide (dst < (0 : Int)) = false := by rw [decide_eq_false_iff_not]; omega
      have q2b : decide ((7 : Int) < dst) = false := by rw [decide_eq_false_iff_not]; omega
      have q3a : decide (prio < (0 : Int)) = false := by rw [decide_eq_false_iff_not]; omega
      have q3b : decide ((7 : Int) < prio) = false := by rw [decide_eq_false_iff_not]; omega
      have q4b : decide ((1152921504606846976 : Int) < (msg : Int)) = false := by rw [decide_eq_false_iff_not]; omega
      have ua : decide (off < (0 : Int)) = true := by exact decide_eq_true (by omega)
      clear g0 g1 g2 g3 g4 g5
      go_enter Try.func37, Try.ntmps37
      go_upto_region 1 with fail
      have hB : Blk (w.alloc (.cells #[.int .i64 kind, .int .i64 src, .int .i64 dst, .int .i64 prio, .int .u64 (msg : Int), .int .i64 off, .int .i64 len, .int .i64 total, .int .i64 num, .slice s data.length c] 35)) w.heap.size [.int .i64 kind, .int .i64 src, .int .i64 dst, .int .i64 prio, .int .u64 (msg : Int), .int .i64 off, .int .i64 len, .int .i64 total, .int .i64 num, .slice s data.length c] 35 := Blk.new w _ _
      have hk1 : Kept (fun _ => False) w (w.alloc (.cells #[.int .i64 kind, .int .i64 src, .int .i64 dst, .int .i64 prio, .int .u64 (msg : Int), .int .i64 off, .int .i64 len, .int .i64 total, .int .i64 num, .slice s data.length c] 35)) := (Kept.refl _ w).alloc _
      generalize w.alloc (.cells #[.int .i64 kind, .int .i64 src, .int .i64 dst, .int .i64 prio, .int .u64 (msg : Int), .int .i64 off, .int .i64 len, .int .i64 total, .int .i64 num, .slice s data.length c] 35) = w1 at *
      generalize w.heap.size = vb at *
      have e0 := hB.cell (o := 0) rfl
      have e1 := hB.cell (o := 1) rfl
      have e2 := hB.cell (o := 2) rfl
      have e3 := hB.cell (o := 3) rfl
      have e4 := hB.cell (o := 4) rfl
      have e5 := hB.cell (o := 5) rfl
      have e6 := hB.cell (o := 6) rfl
      have e7 := hB.cell (o := 7) rfl
      have e8 := hB.cell (o := 8) rfl
      clear hB
      go_wp2_with fail
      go_ret
      exact ⟨rfl, hk1⟩
    · have q0a : decide (kind < (1 : Int)) = false := by rw [decide_eq_false_iff_not]; omega
      have q0b : decide ((12 : Int) < kind) = false := by rw [decide_eq_false_iff_not]; omega
      have q1a : decide (src < (0 : Int)) = false := by rw [decide_eq_false_iff_not]; omega
      have q1b : decide ((7 : Int) < src) = false := by rw [decide_eq_false_iff_not]; omega
      have q2a : decide (dst < (0 : Int)) = false := by rw [decide_eq_false_iff_not]; omega
      have q2b : decide ((7 : Int) < dst) = false := by rw [decide_eq_false_iff_not]; omega
      have q3a : decide (prio < (0 : Int)) = false := by rw [decide_eq_false_iff_not]; omega
      have q3b : decide ((7 : Int) < prio) = false := by rw [decide_eq_false_iff_not]; omega
      have q4b : decide ((1152921504606846976 : Int) < (msg : Int)) = false := by rw [decide_eq_false_iff_not]; omega
      have ua : decide (off < (0 : Int)) = false := by rw [decide_eq_false_iff_not]; omega
      have ub : decide ((1073741824 : Int) < off) = true := by exact decide_eq_true (by omega)
      clear g0 g1 g2 g3 g4 g5
      go_enter Try.func37, Try.ntmps37
      go_upto_region 1 with fail
      have hB : Blk (w.alloc (.cells #[.int .i64 kind, .int .i64 src, .int .i64 dst, .int .i64 prio, .int .u64 (msg : Int), .int .i64 off, .int .i64 len, .int .i64 total, .int .i64 num, .slice s data.length c] 35)) w.heap.size [.int .i64 kind, .int .i64 src, .int .i64 dst, .int .i64 prio, .int .u64 (msg : Int), .int .i64 off, .int .i64 len, .int .i64 total, .int .i64 num, .slice s data.length c] 35 := Blk.new w _ _
      have hk1 : Kept (fun _ => False) w (w.alloc (.cells #[.int .i64 kind, .int .i64 src, .int .i64 dst, .int .i64 prio, .int .u64 (msg : Int), .int .i64 off, .int .i64 len, .int .i64 total, .int .i64 num, .slice s data.length c] 35)) := (Kept.refl _ w).alloc _
      generalize w.alloc (.cells #[.int .i64 kind, .int .i64 src, .int .i64 dst, .int .i64 prio, .int .u64 (msg : Int), .int .i64 off, .int .i64 len, .int .i64 total, .int .i64 num, .slice s data.length c] 35) = w1 at *
      generalize w.heap.size = vb at *
      have e0 := hB.cell (o := 0) rfl
      have e1 := hB.cell (o := 1) rfl
      have e2 := hB.cell (o := 2) rfl
      have e3 := hB.cell (o := 3) rfl
      have e4 := hB.cell (o := 4) rfl
      have e5 := hB.cell (o := 5) rfl
      have e6 := hB.cell (o := 6) rfl
      have e7 := hB.cell (o := 7) rfl
      have e8 := hB.cell (o := 8) rfl
      clear hB
      go_wp2_with fail
      go_ret
      exact ⟨rfl, hk1⟩
  by_cases g6 : (0 ≤ total ∧ total ≤ 1073741824)
  rotate_left
  · clear h
    by_cases u : total < 0
    · have q0a : decide (kind < (1 : Int)) = false := by rw [decide_eq_false_iff_not]; omega
      have q0b : decide ((12 : Int) < kind) = false := by rw [decide_eq_false_iff_not]; omega
      have q1a : decide (src < (0 : Int)) = false := by rw [decide_eq_false_iff_not]; omega
      have q1b : decide ((7 : Int) < src) = false := by rw [decide_eq_false_iff_not]; omega
      have q2a : decide (dst < (0 : Int)) = false := by rw [decide_eq_false_iff_not]; omega
      have q2b : decide ((7 : Int) < dst) = false := by rw [decide_eq_false_iff_not]; omega
      have q3a : decide (prio < (0 : Int)) = false := by rw [decide_eq_false_iff_not]; omega
      have q3b : decide ((7 : Int) < prio) = false := by rw [decide_eq_false_iff_not]; omega
      have q4b : decide ((1152921504606846976 : Int) < (msg : Int)) = false := by rw [decide_eq_false_iff_not]; omega
      have q5a : decide (off < (0 : Int)) = false := by rw [decide_eq_false_iff_not]; omega
      have q5b : decide ((1073741824 : Int) < off) = false := by rw [decide_eq_false_iff_not]; omega
      have ua : decide (total < (0 : Int)) = true := by exact decide_eq_true (by omega)
      clear g0 g1 g2 g3 g4 g5 g6
      go_enter Try.func37, Try.ntmps37
      go_upto_region 1 with fail
      have hB : Blk (w.alloc (.cells #[.int .i64 kind, .int .i64 src, .int .i64 dst, .int .i64 prio, .int .u64 (msg : Int), .int .i64 off, .int .i64 len, .int .i64 total, .int .i64 num, .slice s data.length c] 35)) w.heap.size [.int .i64 kind, .int .i64 src, .int .i64 dst, .int .i64 prio, .int .u64 (msg : Int), .int .i64 off, .int .i64 len, .int .i64 total, .int .i64 num, .slice s data.length c] 35 := Blk.new w _ _
      have hk1 : Kept (fun _ => False) w (w.alloc (.cells #[.int .i64 kind, .int .i64 src, .int .i64 dst, .int .i64 prio, .int .u64 (msg : Int), .int .i64 off, .int .i64 len, .int .i64 total, .int .i64 num, .slice s data.length c] 35)) := (Kept.refl _ w).alloc _
      generalize w.alloc (.cells #[.int .i64 kind, .int .i64 src, .int .i64 dst, .int .i64 prio, .int .u64 (msg : Int), .int .i64 off, .int .i64 len, .int .i64 total, .int .i64 num, .slice s data.length c] 35) = w1 at *
      generalize w.heap.size = vb at *
      have e0 := hB.cell (o := 0) rfl
      have e1 := hB.cell (o := 1) rfl
      have e2 := hB.cell (o := 2) rfl
      have e3 := hB.cell (o := 3) rfl
      have e4 := hB.cell (o := 4) rfl
      have e5 := hB.cell (o := 5) rfl
      have e6 := hB.cell (o := 6) rfl
      have e7 := hB.cell (o := 7) rfl
      have e8 := hB.cell (o := 8) rfl
      clear hB
      go_wp2_with fail
      go_ret
      exact ⟨rfl, hk1⟩
    · have q0a : decide (kind < (1 : Int)) = false := by rw [decide_eq_false_iff_not]; omega
      have q0b : decide ((12 : Int) < kind) = false := by rw [decide_eq_false_iff_not]; omega
      have q1a : decide (src < (0 : Int)) = false := by rw [decide_eq_false_iff_not]; omega
      have q1b : decide ((7 : Int) < src) = false := by rw [decide_eq_false_iff_not]; omega
      have q2a : decide (dst < (0 : Int)) = false := by rw [decide_eq_false_iff_not]; omega
      have q2b : decide ((7 : Int) < dst) = false := by rw [decide_eq_false_iff_not]; omega
      have q3a : decide (prio < (0 : Int)) = false := by rw [decide_eq_false_iff_not]; omega
      have q3b : decide ((7 : Int) < prio) = false := by rw [decide_eq_false_iff_not]; omega
      have q4b : decide ((1152921504606846976 : Int) < (msg : Int)) = false := by rw [decide_eq_false_iff_not]; omega
      have q5a : decide (off < (0 : Int)) = false := by rw [decide_eq_false_iff_not]; omega
      have q5b : decide ((1073741824 : Int) < off) = false := by rw [decide_eq_false_iff_not]; omega
      have ua : decide (total < (0 : Int)) = false := by rw [decide_eq_false_iff_not]; omega
      have ub : decide ((1073741824 : Int) < total) = true := by exact decide_eq_true (by omega)
      clear g0 g1 g2 g3 g4 g5 g6
      go_enter Try.func37, Try.ntmps37
      go_upto_region 1 with fail
      have hB : Blk (w.alloc (.cells #[.int .i64 kind, .int .i64 src, .int .i64 dst, .int .i64 prio, .int .u64 (msg : Int), .int .i64 off, .int .i64 len, .int .i64 total, .int .i64 num, .slice s data.length c] 35)) w.heap.size [.int .i64 kind, .int .i64 src, .int .i64 dst, .int .i64 prio, .int .u64 (msg : Int), .int .i64 off, .int .i64 len, .int .i64 total, .int .i64 num, .slice s data.length c] 35 := Blk.new w _ _
      have hk1 : Kept (fun _ => False) w (w.alloc (.cells #[.int .i64 kind, .int .i64 src, .int .i64 dst, .int .i64 prio, .int .u64 (msg : Int), .int .i64 off, .int .i64 len, .int .i64 total, .int .i64 num, .slice s data.length c] 35)) := (Kept.refl _ w).alloc _
      generalize w.alloc (.cells #[.int .i64 kind, .int .i64 src, .int .i64 dst, .int .i64 prio, .int .u64 (msg : Int), .int .i64 off, .int .i64 len, .int .i64 total, .int .i64 num, .slice s data.length c] 35) = w1 at *
      generalize w.heap.size = vb at *
      have e0 := hB.cell (o := 0) rfl
      have e1 := hB.cell (o := 1) rfl
      have e2 := hB.cell (o := 2) rfl
      have e3 := hB.cell (o := 3) rfl
      have e4 := hB.cell (o := 4) rfl
      have e5 := hB.cell (o := 5) rfl
      have e6 := hB.cell (o := 6) rfl
      have e7 := hB.cell (o := 7) rfl
      have e8 := hB.cell (o := 8) rfl
      clear hB
      go_wp2_with fail
      go_ret
      exact ⟨rfl, hk1⟩
  by_cases g7 : (0 ≤ len ∧ len ≤ 1500)
  rotate_left
  · clear h
    by_cases u : len < 0
    · have q0a : decide (kind < (1 : Int)) = false := by rw [decide_eq_false_iff_not]; omega
      have q0b : decide ((12 : Int) < kind) = false := by rw [decide_eq_false_iff_not]; omega
      have q1a : decide (src < (0 : Int)) = false := by rw [decide_eq_false_iff_not]; omega
      have q1b : decide ((7 : Int) < src) = false := by rw [decide_eq_false_iff_not]; omega
      have q2a : decide (dst < (0 : Int)) = false := by rw [decide_eq_false_iff_not]; omega
      have q2b : decide ((7 : Int) < dst) = false := by rw [decide_eq_false_iff_not]; omega
      have q3a : decide (prio < (0 : Int)) = false := by rw [decide_eq_false_iff_not]; omega
      have q3b : decide ((7 : Int) < prio) = false := by rw [decide_eq_false_iff_not]; omega
      have q4b : decide ((1152921504606846976 : Int) < (msg : Int)) = false := by rw [decide_eq_false_iff_not]; omega
      have q5a : decide (off < (0 : Int)) = false := by rw [decide_eq_false_iff_not]; omega
      have q5b : decide ((1073741824 : Int) < off) = false := by rw [decide_eq_false_iff_not]; omega
      have q6a : decide (total < (0 : Int)) = false := by rw [decide_eq_false_iff_not]; omega
      have q6b : decide ((1073741824 : Int) < total) = false := by rw [decide_eq_false_iff_not]; omega
      have ua : decide (len < (0 : Int)) = true := by exact decide_eq_true (by omega)
      clear g0 g1 g2 g3 g4 g5 g6 g7
      go_enter Try.func37, Try.ntmps37
      go_upto_region 1 with fail
      have hB : Blk (w.alloc (.cells #[.int .i64 kind, .int .i64 src, .int .i64 dst, .int .i64 prio, .int .u64 (msg : Int), .int .i64 off, .int .i64 len, .int .i64 total, .int .i64 num, .slice s data.length c] 35)) w.heap.size [.int .i64 kind, .int .i64 src, .int .i64 dst, .int .i64 prio, .int .u64 (msg : Int), .int .i64 off, .int .i64 len, .int .i64 total, .int .i64 num, .slice s data.length c] 35 := Blk.new w _ _
      have hk1 : Kept (fun _ => False) w (w.alloc (.cells #[.int .i64 kind, .int .i64 src, .int .i64 dst, .int .i64 prio, .int .u64 (msg : Int), .int .i64 off, .int .i64 len, .int .i64 total, .int .i64 num, .slice s data.length c] 35)) := (Kept.refl _ w).alloc _
      generalize w.alloc (.cells #[.int .i64 kind, .int .i64 src, .int .i64 dst, .int .i64 prio, .int .u64 (msg : Int), .int .i64 off, .int .i64 len, .int .i64 total, .int .i64 num, .slice s data.length c] 35) = w1 at *
      generalize w.heap.size = vb at *
      have e0 := hB.cell (o := 0) rfl
      have e1 := hB.cell (o := 1) rfl
      have e2 := hB.cell (o := 2) rfl
      have e3 := hB.cell (o := 3) rfl
      have e4 := hB.cell (o := 4) rfl
      have e5 := hB.cell (o := 5) rfl
      have e6 := hB.cell (o := 6) rfl
      have e7 := hB.cell (o := 7) rfl
      have e8 := hB.cell (o := 8) rfl
      clear hB
      go_wp2_with fail
      go_ret
      exact ⟨rfl, hk1⟩
    · have q0a : decide (kind < (1 : Int)) = false := by rw [decide_eq_false_iff_not]; omega
      have q0b : decide ((12 : Int) < kind) = false := by rw [decide_eq_false_iff_not]; omega
      have q1a : decide (src < (0 : Int)) = false := by rw [decide_eq_false_iff_not]; omega
      have q1b : decide ((7 : Int) < src) = false := by rw [decide_eq_false_iff_not]; omega
      have q2a : decide (dst < (0 : Int)) = false := by rw [decide_eq_false_iff_not]; omega
      have q2b : decide ((7 : Int) < dst) = false := by rw [decide_eq_false_iff_not]; omega
      have q3a : decide (prio < (0 : Int)) = false := by rw [decide_eq_false_iff_not]; omega
      have q3b : decide ((7 : Int) < prio) = false := by rw [decide_eq_false_iff_not]; omega
      have q4b : decide ((1152921504606846976 : Int) < (msg : Int)) = false := by rw [decide_eq_false_iff_not]; omega
      have q5a : decide (off < (0 : Int)) = false := by rw [decide_eq_false_iff_not]; omega
      have q5b : decide ((1073741824 : Int) < off) = false := by rw [decide_eq_false_iff_not]; omega
      have q6a : decide (total < (0 : Int)) = false := by rw [decide_eq_false_iff_not]; omega
      have q6b : decide ((1073741824 : Int) < total) = false := by rw [decide_eq_false_iff_not]; omega
      have ua : decide (len < (0 : Int)) = false := by rw [decide_eq_false_iff_not]; omega
      have ub : decide ((1500 : Int) < len) = true := by exact decide_eq_true (by omega)
      clear g0 g1 g2 g3 g4 g5 g6 g7
      go_enter Try.func37, Try.ntmps37
      go_upto_region 1 with fail
      have hB : Blk (w.alloc (.cells #[.int .i64 kind, .int .i64 src, .int .i64 dst, .int .i64 prio, .int .u64 (msg : Int), .int .i64 off, .int .i64 len, .int .i64 total, .int .i64 num, .slice s data.length c] 35)) w.heap.size [.int .i64 kind, .int .i64 src, .int .i64 dst, .int .i64 prio, .int .u64 (msg : Int), .int .i64 off, .int .i64 len, .int .i64 total, .int .i64 num, .slice s data.length c] 35 := Blk.new w _ _
      have hk1 : Kept (fun _ => False) w (w.alloc (.cells #[.int .i64 kind, .int .i64 src, .int .i64 dst, .int .i64 prio, .int .u64 (msg : Int), .int .i64 off, .int .i64 len, .int .i64 total, .int .i64 num, .slice s data.length c] 35)) := (Kept.refl _ w).alloc _
      generalize w.alloc (.cells #[.int .i64 kind, .int .i64 src, .int .i64 dst, .int .i64 prio, .int .u64 (msg : Int), .int .i64 off, .int .i64 len, .int .i64 total, .int .i64 num, .slice s data.length c] 35) = w1 at *
      generalize w.heap.size = vb at *
      have e0 := hB.cell (o := 0) rfl
      have e1 := hB.cell (o := 1) rfl
      have e2 := hB.cell (o := 2) rfl
      have e3 := hB.cell (o := 3) rfl
      have e4 := hB.cell (o := 4) rfl
      have e5 := hB.cell (o := 5) rfl
      have e6 := hB.cell (o := 6) rfl
      have e7 := hB.cell (o := 7) rfl
      have e8 := hB.cell (o := 8) rfl
      clear hB
      go_wp2_with fail
      go_ret
      exact ⟨rfl, hk1⟩
  by_cases g8 : (0 ≤ num ∧ num ≤ 1073741824)
  rotate_left
  · clear h
    by_cases u : num < 0
    · have q0a : decide (kind < (1 : Int)) = false := by rw [decide_eq_false_iff_not]; omega
      have q0b : decide ((12 : Int) < kind) = false := by rw [decide_eq_false_iff_not]; omega
      have q1a : decide (src < (0 : Int)) = false := by rw [decide_eq_false_iff_not]; omega
      have q1b : decide ((7 : Int) < src) = false := by rw [decide_eq_false_iff_not]; omega
      have q2a : decide (dst < (0 : Int)) = false := by rw [decide_eq_false_iff_not]; omega
      have q2b : decide ((7 : Int) < dst) = false := by rw [decide_eq_false_iff_not]; omega
      have q3a : decide (prio < (0 : Int)) = false := by rw [decide_eq_false_iff_not]; omega
      have q3b : decide ((7 : Int) < prio) = false := by rw [decide_eq_false_iff_not]; omega
      have q4b : decide ((1152921504606846976 : Int) < (msg : Int)) = false := by rw [decide_eq_false_iff_not]; omega
      have q5a : decide (off < (0 : Int)) = false := by rw [decide_eq_false_iff_not]; omega
      have q5b : decide ((1073741824 : Int) < off) = false := by rw [decide_eq_false_iff_not]; omega
      have q6a : decide (total < (0 : Int)) = false := by rw [decide_eq_false_iff_not]; omega
      have q6b : decide ((1073741824 : Int) < total) = false := by rw [decide_eq_false_iff_not]; omega
      have q7a : decide (len < (0 : Int)) = false := by rw [decide_eq_false_iff_not]; omega
      have q7b : decide ((1500 : Int) < len) = false := by rw [decide_eq_false_iff_not]; omega
      have ua : decide (num < (0 : Int)) = true := by exact decide_eq_true (by omega)
      clear g0 g1 g2 g3 g4 g5 g6 g7 g8
      go_enter Try.func37, Try.ntmps37
      go_upto_region 1 with fail
      have hB : Blk (w.alloc (.cells #[.int .i64 kind, .int .i64 src, .int .i64 dst, .int .i64 prio, .int .u64 (msg : Int), .int .i64 off, .int .i64 len, .int .i64 total, .int .i64 num, .slice s data.length c] 35)) w.heap.size [.int .i64 kind, .int .i64 src, .int .i64 dst, .int .i64 prio, .int .u64 (msg : Int), .int .i64 off, .int .i64 len, .int .i64 total, .int .i64 num, .slice s data.length c] 35 := Blk.new w _ _
      have hk1 : Kept (fun _ => False) w (w.alloc (.cells #[.int .i64 kind, .int .i64 src, .int .i64 dst, .int .i64 prio, .int .u64 (msg : Int), .int .i64 off, .int .i64 len, .int .i64 total, .int .i64 num, .slice s data.length c] 35)) := (Kept.refl _ w).alloc _
      generalize w.alloc (.cells #[.int .i64 kind, .int .i64 src, .int .i64 dst, .int .i64 prio, .int .u64 (msg : Int), .int .i64 off, .int .i64 len, .int .i64 total, .int .i64 num, .slice s data.length c] 35) = w1 at *
      generalize w.heap.size = vb at *
      have e0 := hB.cell (o := 0) rfl
      have e1 := hB.cell (o := 1) rfl
      have e2 := hB.cell (o := 2) rfl
      have e3 := hB.cell (o := 3) rfl
      have e4 := hB.cell (o := 4) rfl
      have e5 := hB.cell (o := 5) rfl
      have e6 := hB.cell (o := 6) rfl
      have e7 := hB.cell (o := 7) rfl
      have e8 := hB.cell (o := 8) rfl
      clear hB
      go_wp2_with fail
      go_ret
      exact ⟨rfl, hk1⟩
    · have q0a : decide (kind < (1 : Int)) = false := by rw [decide_eq_false_iff_not]; omega
      have q0b : decide ((12 : Int) < kind) = false := by rw [decide_eq_false_iff_not]; omega
      have q1a : decide (src < (0 : Int)) = false := by rw [decide_eq_false_iff_not]; omega
      have q1b : decide ((7 : Int) < src) = false := by rw [decide_eq_false_iff_not]; omega
      have q2a : decide (dst < (0 : Int)) = false := by rw [decide_eq_false_iff_not]; omega
      have q2b : decide ((7 : Int) < dst) = false := by rw [decide_eq_false_iff_not]; omega
      have q3a : decide (prio < (0 : Int)) = false := by rw [decide_eq_false_iff_not]; omega
      have q3b : decide ((7 : Int) < prio) = false := by rw [decide_eq_false_iff_not]; omega
      have q4b : decide ((1152921504606846976 : Int) < (msg : Int)) = false := by rw [decide_eq_false_iff_not]; omega
      have q5a : decide (off < (0 : Int)) = false := by rw [decide_eq_false_iff_not]; omega
      have q5b : decide ((1073741824 : Int) < off) = false := by rw [decide_eq_false_iff_not]; omega
      have q6a : decide (total < (0 : Int)) = false := by rw [decide_eq_false_iff_not]; omega
      have q6b : decide ((1073741824 : Int) < total) = false := by rw [decide_eq_false_iff_not]; omega
      have q7a : decide (len < (0 : Int)) = false := by rw [decide_eq_false_iff_not]; omega
      have q7b : decide ((1500 : Int) < len) = false := by rw [decide_eq_false_iff_not]; omega
      have ua : decide (num < (0 : Int)) = false := by rw [decide_eq_false_iff_not]; omega
      have ub : decide ((1073741824 : Int) < num) = true := by exact decide_eq_true (by omega)
      clear g0 g1 g2 g3 g4 g5 g6 g7 g8
      go_enter Try.func37, Try.ntmps37
      go_upto_region 1 with fail
      have hB : Blk (w.alloc (.cells #[.int .i64 kind, .int .i64 src, .int .i64 dst, .int .i64 prio, .int .u64 (msg : Int), .int .i64 off, .int .i64 len, .int .i64 total, .int .i64 num, .slice s data.length c] 35)) w.heap.size [.int .i64 kind, .int .i64 src, .int .i64 dst, .int .i64 prio, .int .u64 (msg : Int), .int .i64 off, .int .i64 len, .int .i64 total, .int .i64 num, .slice s data.length c] 35 := Blk.new w _ _
      have hk1 : Kept (fun _ => False) w (w.alloc (.cells #[.int .i64 kind, .int .i64 src, .int .i64 dst, .int .i64 prio, .int .u64 (msg : Int), .int .i64 off, .int .i64 len, .int .i64 total, .int .i64 num, .slice s data.length c] 35)) := (Kept.refl _ w).alloc _
      generalize w.alloc (.cells #[.int .i64 kind, .int .i64 src, .int .i64 dst, .int .i64 prio, .int .u64 (msg : Int), .int .i64 off, .int .i64 len, .int .i64 total, .int .i64 num, .slice s data.length c] 35) = w1 at *
      generalize w.heap.size = vb at *
      have e0 := hB.cell (o := 0) rfl
      have e1 := hB.cell (o := 1) rfl
      have e2 := hB.cell (o := 2) rfl
      have e3 := hB.cell (o := 3) rfl
      have e4 := hB.cell (o := 4) rfl
      have e5 := hB.cell (o := 5) rfl
      have e6 := hB.cell (o := 6) rfl
      have e7 := hB.cell (o := 7) rfl
      have e8 := hB.cell (o := 8) rfl
      clear hB
      go_wp2_with fail
      go_ret
      exact ⟨rfl, hk1⟩
  exact absurd ⟨g0, g1, g2, g3, g4, g5, g6, g7, g8⟩ h
set_option maxHeartbeats 4000000 in
set_option maxRecDepth 100000 in
theorem checkR_rest {f : Frm} (h1 : Fit f) (x : Int) (hx : x = if Rng f ∧ Dat f then 0 else 1) (s : Option Addr) (c : Nat) (w : World) : Calls Try.prog 37 #[fv f s c] w (Ans w (.int .i64 x)) := by
  obtain ⟨kind, src, dst, prio, msg, off, len, total, num, data⟩ := f
  obtain ⟨⟨k1, k2⟩, ⟨s1, s2⟩, ⟨d1, d2⟩, ⟨p1, p2⟩, m2, ⟨o1, o2⟩, ⟨t1, t2⟩, ⟨l1, l2⟩, ⟨n1, n2⟩⟩ := h1
  unfold Rng Dat at hx
  dsimp only at *
  unfold fv fcs
  dsimp only
  have q0a : decide (kind < (1 : Int)) = false := by rw [decide_eq_false_iff_not]; omega
  have q0b : decide ((12 : Int) < kind) = false := by rw [decide_eq_false_iff_not]; omega
  have q1a : decide (src < (0 : Int)) = false := by rw [decide_eq_false_iff_not]; omega
  have q1b : decide ((7 : Int) < src) = false := by rw [decide_eq_false_iff_not]; omega
  have q2a : decide (dst < (0 : Int)) = false := by rw [decide_eq_false_iff_not]; omega
  have q2b : decide ((7 : Int) < dst) = false := by rw [decide_eq_false_iff_not]; omega
  have q3a : decide (prio < (0 : Int)) = false := by rw [decide_eq_false_iff_not]; omega
  have q3b : decide ((7 : Int) < prio) = false := by rw [decide_eq_false_iff_not]; omega
  have q4b : decide ((1152921504606846976 : Int) < (msg : Int)) = false := by rw [decide_eq_false_iff_not]; omega
  have q5a : decide (off < (0 : Int)) = false := by rw [decide_eq_false_iff_not]; omega
  have q5b : decide ((1073741824 : Int) < off) = false := by rw [decide_eq_false_iff_not]; omega
  have q6a : decide (total < (0 : Int)) = false := by rw [decide_eq_false_iff_not]; omega
  have q6b : decide ((1073741824 : Int) < total) = false := by rw [decide_eq_false_iff_not]; omega
  have q7a : decide (len < (0 : Int)) = false := by rw [decide_eq_false_iff_not]; omega
  have q7b : decide ((1500 : Int) < len) = false := by rw [decide_eq_false_iff_not]; omega
  have q8a : decide (num < (0 : Int)) = false := by rw [decide_eq_false_iff_not]; omega
  have q8b : decide ((1073741824 : Int) < num) = false := by rw [decide_eq_false_iff_not]; omega
  have hw : IntKind.i64.wrap (off + len) = off + len := by rw [IntKind.wrap_i64]; omega
  by_cases e1 : kind = 1
  · subst e1
    by_cases u : off + len ≤ total
    · by_cases v : (data.length : Int) = len
      · have hxv : x = 0 := by rw [hx]; exact if_pos ⟨fun _ => u, by rw [if_pos rfl]; exact v⟩
        subst hxv
        have r1 : decide (total < off + len) = false := by rw [decide_eq_false_iff_not]; omega
        have r2 : ((data.length : Int) != len) = false := by rw [bne_eq_false_iff_eq]; omega
        clear hx k1 k2 s1 s2 d1 d2 p1 p2 m2 o1 o2 t1 t2 l1 l2 n1 n2 u v
        go_enter Try.func37, Try.ntmps37
        go_upto_region 1 with fail
        have hB : Blk (w.alloc (.cells #[.int .i64 1, .int .i64 src, .int .i64 dst, .int .i64 prio, .int .u64 (msg : Int), .int .i64 off, .int .i64 len, .int .i64 total, .int .i64 num, .slice s data.length c] 35)) w.heap.size [.int .i64 1, .int .i64 src, .int .i64 dst, .int .i64 prio, .int .u64 (msg : Int), .int .i64 off, .int .i64 len, .int .i64 total, .int .i64 num, .slice s data.length c] 35 := Blk.new w _ _
        have hk1 : Kept (fun _ => False) w (w.alloc (.cells #[.int .i64 1, .int .i64 src, .int .i64 dst, .int .i64 prio, .int .u64 (msg : Int), .int .i64 off, .int .i64 len, .int .i64 total, .int .i64 num, .slice s data.length c] 35)) := (Kept.refl _ w).alloc _
        generalize w.alloc (.cells #[.int .i64 1, .int .i64 src, .int .i64 dst, .int .i64 prio, .int .u64 (msg : Int), .int .i64 off, .int .i64 len, .int .i64 total, .int .i64 num, .slice s data.length c] 35) = w1 at *
        generalize w.heap.size = vb at *
        have e0 := hB.cell (o := 0) rfl
        have e1 := hB.cell (o := 1) rfl
        have e2 := hB.cell (o := 2) rfl
        have e3 := hB.cell (o := 3) rfl
        have e4 := hB.cell (o := 4) rfl
        have e5 := hB.cell (o := 5) rfl
        have e6 := hB.cell (o := 6) rfl
        have e7 := hB.cell (o := 7) rfl
        have e8 := hB.cell (o := 8) rfl
        have e9 := hB.cell (o := 9) rfl
        clear hB
        go_wp2_with fail
        go_ret
        exact ⟨rfl, hk1⟩
      · have hxv : x = 1 := by rw [hx]; exact if_neg fun e => by have := e.2; rw [if_pos rfl] at this; omega
        subst hxv
        have r1 : decide (total < off + len) = false := by rw [decide_eq_false_iff_not]; omega
        have r2 : ((data.length : Int) != len) = true := by rw [bne_iff_ne]; omega
        clear hx k1 k2 s1 s2 d1 d2 p1 p2 m2 o1 o2 t1 t2 l1 l2 n1 n2 u v
        go_enter Try.func37, Try.ntmps37
        go_upto_region 1 with fail
        have hB : Blk (w.alloc (.cells #[.int .i64 1, .int .i64 src, .int .i64 dst, .int .i64 prio, .int .u64 (msg : Int), .int .i64 off, .int .i64 len, .int .i64 total, .int .i64 num, .slice s data.length c] 35)) w.heap.size [.int .i64 1, .int .i64 src, .int .i64 dst, .int .i64 prio, .int .u64 (msg : Int), .int .i64 off, .int .i64 len, .int .i64 total, .int .i64 num, .slice s data.length c] 35 := Blk.new w _ _
        have hk1 : Kept (fun _ => False) w (w.alloc (.cells #[.int .i64 1, .int .i64 src, .int .i64 dst, .int .i64 prio, .int .u64 (msg : Int), .int .i64 off, .int .i64 len, .int .i64 total, .int .i64 num, .slice s data.length c] 35)) := (Kept.refl _ w).alloc _
        generalize w.alloc (.cells #[.int .i64 1, .int .i64 src, .int .i64 dst, .int .i64 prio, .int .u64 (msg : Int), .int .i64 off, .int .i64 len, .int .i64 total, .int .i64 num, .slice s data.length c] 35) = w1 at *
        generalize w.heap.size = vb at *
        have e0 := hB.cell (o := 0) rfl
        have e1 := hB.cell (o := 1) rfl
        have e2 := hB.cell (o := 2) rfl
        have e3 := hB.cell (o := 3) rfl
        have e4 := hB.cell (o := 4) rfl
        have e5 := hB.cell (o := 5) rfl
        have e6 := hB.cell (o := 6) rfl
        have e7 := hB.cell (o := 7) rfl
        have e8 := hB.cell (o := 8) rfl
        have e9 := hB.cell (o := 9) rfl
        clear hB
        go_wp2_with fail
        go_ret
        exact ⟨rfl, hk1⟩
    · have v : True := trivial
      have hxv : x = 1 := by rw [hx]; exact if_neg fun e => u (e.1 (by omega))
      subst hxv
      have r1 : decide (total < off + len) = true := by exact decide_eq_true (by omega)
      clear hx k1 k2 s1 s2 d1 d2 p1 p2 m2 o1 o2 t1 t2 l1 l2 n1 n2 u v
      go_enter Try.func37, Try.ntmps37
      go_upto_region 1 with fail
      have hB : Blk (w.alloc (.cells #[.int .i64 1, .int .i64 src, .int .i64 dst, .int .i64 prio, .int .u64 (msg : Int), .int .i64 off, .int .i64 len, .int .i64 total, .int .i64 num, .slice s data.length c] 35)) w.heap.size [.int .i64 1, .int .i64 src, .int .i64 dst, .int .i64 prio, .int .u64 (msg : Int), .int .i64 off, .int .i64 len, .int .i64 total, .int .i64 num, .slice s data.length c] 35 := Blk.new w _ _
      have hk1 : Kept (fun _ => False) w (w.alloc (.cells #[.int .i64 1, .int .i64 src, .int .i64 dst, .int .i64 prio, .int .u64 (msg : Int), .int .i64 off, .int .i64 len, .int .i64 total, .int .i64 num, .slice s data.length c] 35)) := (Kept.refl _ w).alloc _
      generalize w.alloc (.cells #[.int .i64 1, .int .i64 src, .int .i64 dst, .int .i64 prio, .int .u64 (msg : Int), .int .i64 off, .int .i64 len, .int .i64 total, .int .i64 num, .slice s data.length c] 35) = w1 at *
      generalize w.heap.size = vb at *
      have e0 := hB.cell (o := 0) rfl
      have e1 := hB.cell (o := 1) rfl
      have e2 := hB.cell (o := 2) rfl
      have e3 := hB.cell (o := 3) rfl
      have e4 := hB.cell (o := 4) rfl
      have e5 := hB.cell (o := 5) rfl
      have e6 := hB.cell (o := 6) rfl
      have e7 := hB.cell (o := 7) rfl
      have e8 := hB.cell (o := 8) rfl
      have e9 := hB.cell (o := 9) rfl
      clear hB
      go_wp2_with fail
      go_ret
      exact ⟨rfl, hk1⟩
  by_cases e7 : kind = 7
  · subst e7
    by_cases u : off + len ≤ total
    · by_cases v : data.length = 0
      · have hxv : x = 0 := by rw [hx]; exact if_pos ⟨fun _ => u, by rw [if_neg (by omega)]; omega⟩
        subst hxv
        have r1 : decide (total < off + len) = false := by rw [decide_eq_false_iff_not]; omega
        have r3 : decide ((0 : Int) < (data.length : Int)) = false := by rw [decide_eq_false_iff_not]; omega
        have r4 : decide (0 < data.length) = false := by rw [decide_eq_false_iff_not]; omega
        clear hx k1 k2 s1 s2 d1 d2 p1 p2 m2 o1 o2 t1 t2 l1 l2 n1 n2 u v
        go_enter Try.func37, Try.ntmps37
        go_upto_region 1 with fail
        have hB : Blk (w.alloc (.cells #[.int .i64 7, .int .i64 src, .int .i64 dst, .int .i64 prio, .int .u64 (msg : Int), .int .i64 off, .int .i64 len, .int .i64 total, .int .i64 num, .slice s data.length c] 35)) w.heap.size [.int .i64 7, .int .i64 src, .int .i64 dst, .int .i64 prio, .int .u64 (msg : Int), .int .i64 off, .int .i64 len, .int .i64 total, .int .i64 num, .slice s data.length c] 35 := Blk.new w _ _
        have hk1 : Kept (fun _ => False) w (w.alloc (.cells #[.int .i64 7, .int .i64 src, .int .i64 dst, .int .i64 prio, .int .u64 (msg : Int), .int .i64 off, .int .i64 len, .int .i64 total, .int .i64 num, .slice s data.length c] 35)) := (Kept.refl _ w).alloc _
        generalize w.alloc (.cells #[.int .i64 7, .int .i64 src, .int .i64 dst, .int .i64 prio, .int .u64 (msg : Int), .int .i64 off, .int .i64 len, .int .i64 total, .int .i64 num, .slice s data.length c] 35) = w1 at *
        generalize w.heap.size = vb at *
        have e0 := hB.cell (o := 0) rfl
        have e1 := hB.cell (o := 1) rfl
        have e2 := hB.cell (o := 2) rfl
        have e3 := hB.cell (o := 3) rfl
        have e4 := hB.cell (o := 4) rfl
        have e5 := hB.cell (o := 5) rfl
        have e6 := hB.cell (o := 6) rfl
        have e7 := hB.cell (o := 7) rfl
        have e8 := hB.cell (o := 8) rfl
        have e9 := hB.cell (o := 9) rfl
        clear hB
        go_wp2_with fail
        go_ret
        exact ⟨rfl, hk1⟩
      · have hxv : x = 1 := by rw [hx]; exact if_neg fun e => by have := e.2; rw [if_neg (by omega)] at this; omega
        subst hxv
        have r1 : decide (total < off + len) = false := by rw [decide_eq_false_iff_not]; omega
        have r3 : decide ((0 : Int) < (data.length : Int)) = true := by exact decide_eq_true (by omega)
        have r4 : decide (0 < data.length) = true := by exact decide_eq_true (by omega)
        clear hx k1 k2 s1 s2 d1 d2 p1 p2 m2 o1 o2 t1 t2 l1 l2 n1 n2 u v
        go_enter Try.func37, Try.ntmps37
        go_upto_region 1 with fail
        have hB : Blk (w.alloc (.cells #[.int .i64 7, .int .i64 src, .int .i64 dst, .int .i64 prio, .int .u64 (msg : Int), .int .i64 off, .int .i64 len, .int .i64 total, .int .i64 num, .slice s data.length c] 35)) w.heap.size [.int .i64 7, .int .i64 src, .int .i64 dst, .int .i64 prio, .int .u64 (msg : Int), .int .i64 off, .int .i64 len, .int .i64 total, .int .i64 num, .slice s data.length c] 35 := Blk.new w _ _
        have hk1 : Kept (fun _ => False) w (w.alloc (.cells #[.int .i64 7, .int .i64 src, .int .i64 dst, .int .i64 prio, .int .u64 (msg : Int), .int .i64 off, .int .i64 len, .int .i64 total, .int .i64 num, .slice s data.length c] 35)) := (Kept.refl _ w).alloc _
        generalize w.alloc (.cells #[.int .i64 7, .int .i64 src, .int .i64 dst, .int .i64 prio, .int .u64 (msg : Int), .int .i64 off, .int .i64 len, .int .i64 total, .int .i64 num, .slice s data.length c] 35) = w1 at *
        generalize w.heap.size = vb at *
        have e0 := hB.cell (o := 0) rfl
        have e1 := hB.cell (o := 1) rfl
        have e2 := hB.cell (o := 2) rfl
        have e3 := hB.cell (o := 3) rfl
        have e4 := hB.cell (o := 4) rfl
        have e5 := hB.cell (o := 5) rfl
        have e6 := hB.cell (o := 6) rfl
        have e7 := hB.cell (o := 7) rfl
        have e8 := hB.cell (o := 8) rfl
        have e9 := hB.cell (o := 9) rfl
        clear hB
        go_wp2_with fail
        go_ret
        exact ⟨rfl, hk1⟩
    · have v : True := trivial
      have hxv : x = 1 := by rw [hx]; exact if_neg fun e => u (e.1 (by omega))
      subst hxv
      have r1 : decide (total < off + len) = true := by exact decide_eq_true (by omega)
      clear hx k1 k2 s1 s2 d1 d2 p1 p2 m2 o1 o2 t1 t2 l1 l2 n1 n2 u v
      go_enter Try.func37, Try.ntmps37
      go_upto_region 1 with fail
      have hB : Blk (w.alloc (.cells #[.int .i64 7, .int .i64 src, .int .i64 dst, .int .i64 prio, .int .u64 (msg : Int), .int .i64 off, .int .i64 len, .int .i64 total, .int .i64 num, .slice s data.length c] 35)) w.heap.size [.int .i64 7, .int .i64 src, .int .i64 dst, .int .i64 prio, .int .u64 (msg : Int), .int .i64 off, .int .i64 len, .int .i64 total, .int .i64 num, .slice s data.length c] 35 := Blk.new w _ _
      have hk1 : Kept (fun _ => False) w (w.alloc (.cells #[.int .i64 7, .int .i64 src, .int .i64 dst, .int .i64 prio, .int .u64 (msg : Int), .int .i64 off, .int .i64 len, .int .i64 total, .int .i64 num, .slice s data.length c] 35)) := (Kept.refl _ w).alloc _
      generalize w.alloc (.cells #[.int .i64 7, .int .i64 src, .int .i64 dst, .int .i64 prio, .int .u64 (msg : Int), .int .i64 off, .int .i64 len, .int .i64 total, .int .i64 num, .slice s data.length c] 35) = w1 at *
      generalize w.heap.size = vb at *
      have e0 := hB.cell (o := 0) rfl
      have e1 := hB.cell (o := 1) rfl
      have e2 := hB.cell (o := 2) rfl
      have e3 := hB.cell (o := 3) rfl
      have e4 := hB.cell (o := 4) rfl
      have e5 := hB.cell (o := 5) rfl
      have e6 := hB.cell (o := 6) rfl
      have e7 := hB.cell (o := 7) rfl
      have e8 := hB.cell (o := 8) rfl
      have e9 := hB.cell (o := 9) rfl
      clear hB
      go_wp2_with fail
      go_ret
      exact ⟨rfl, hk1⟩
  have u : True := trivial
  by_cases v : data.length = 0
  · have hxv : x = 0 := by rw [hx]; exact if_pos ⟨fun e => by omega, by rw [if_neg (by omega)]; omega⟩
    subst hxv
    have z1 : (kind == 1) = false := by rw [beq_eq_false_iff_ne]; omega
    have z7 : (kind == 7) = false := by rw [beq_eq_false_iff_ne]; omega
    have z8 : (kind != 1) = true := by rw [bne_iff_ne]; omega
    have r3 : decide ((0 : Int) < (data.length : Int)) = false := by rw [decide_eq_false_iff_not]; omega
    have r4 : decide (0 < data.length) = false := by rw [decide_eq_false_iff_not]; omega
    clear hx k1 k2 s1 s2 d1 d2 p1 p2 m2 o1 o2 t1 t2 l1 l2 n1 n2 u v
    go_enter Try.func37, Try.ntmps37
    go_upto_region 1 with fail
    have hB : Blk (w.alloc (.cells #[.int .i64 kind, .int .i64 src, .int .i64 dst, .int .i64 prio, .int .u64 (msg : Int), .int .i64 off, .int .i64 len, .int .i64 total, .int .i64 num, .slice s data.length c] 35)) w.heap.size [.int .i64 kind, .int .i64 src, .int .i64 dst, .int .i64 prio, .int .u64 (msg : Int), .int .i64 off, .int .i64 len, .int .i64 total, .int .i64 num, .slice s data.length c] 35 := Blk.new w _ _
    have hk1 : Kept (fun _ => False) w (w.alloc (.cells #[.int .i64 kind, .int .i64 src, .int .i64 dst, .int .i64 prio, .int .u64 (msg : Int), .int .i64 off, .int .i64 len, .int .i64 total, .int .i64 num, .slice s data.length c] 35)) := (Kept.refl _ w).alloc _
    generalize w.alloc (.cells #[.int .i64 kind, .int .i64 src, .int .i64 dst, .int .i64 prio, .int .u64 (msg : Int), .int .i64 off, .int .i64 len, .int .i64 total, .int .i64 num, .slice s data.length c] 35) = w1 at *
    generalize w.heap.size = vb at *
    have e0 := hB.cell (o := 0) rfl
    have e1 := hB.cell (o := 1) rfl
    have e2 := hB.cell (o := 2) rfl
    have e3 := hB.cell (o := 3) rfl
    have e4 := hB.cell (o := 4) rfl
    have e5 := hB.cell (o := 5) rfl
    have e6 := hB.cell (o := 6) rfl
    have e7 := hB.cell (o := 7) rfl
    have e8 := hB.cell (o := 8) rfl
    have e9 := hB.cell (o := 9) rfl
    clear hB
    go_wp2_with fail
    go_ret
    exact ⟨rfl, hk1⟩
  · have hxv : x = 1 := by rw [hx]; exact if_neg fun e => by have := e.2; rw [if_neg (by omega)] at this; omega
    subst hxv
    have z1 : (kind == 1) = false := by rw [beq_eq_false_iff_ne]; omega
    have z7 : (kind == 7) = false := by rw [beq_eq_false_iff_ne]; omega
    have z8 : (kind != 1) = true := by rw [bne_iff_ne]; omega
    have r3 : decide ((0 : Int) < (data.length : Int)) = true := by exact decide_eq_true (by omega)
    have r4 : decide (0 < data.length) = true := by exact decide_eq_true (by omega)
    clear hx k1 k2 s1 s2 d1 d2 p1 p2 m2 o1 o2 t1 t2 l1 l2 n1 n2 u v
    go_enter Try.func37, Try.ntmps37
    go_upto_region 1 with fail
    have hB : Blk (w.alloc (.cells #[.int .i64 kind, .int .i64 src, .int .i64 dst, .int .i64 prio, .int .u64 (msg : Int), .int .i64 off, .int .i64 len, .int .i64 total, .int .i64 num, .slice s data.length c] 35)) w.heap.size [.int .i64 kind, .int .i64 src, .int .i64 dst, .int .i64 prio, .int .u64 (msg : Int), .int .i64 off, .int .i64 len, .int .i64 total, .int .i64 num, .slice s data.length c] 35 := Blk.new w _ _
    have hk1 : Kept (fun _ => False) w (w.alloc (.cells #[.int .i64 kind, .int .i64 src, .int .i64 dst, .int .i64 prio, .int .u64 (msg : Int), .int .i64 off, .int .i64 len, .int .i64 total, .int .i64 num, .slice s data.length c] 35)) := (Kept.refl _ w).alloc _
    generalize w.alloc (.cells #[.int .i64 kind, .int .i64 src, .int .i64 dst, .int .i64 prio, .int .u64 (msg : Int), .int .i64 off, .int .i64 len, .int .i64 total, .int .i64 num, .slice s data.length c] 35) = w1 at *
    generalize w.heap.size = vb at *
    have e0 := hB.cell (o := 0) rfl
    have e1 := hB.cell (o := 1) rfl
    have e2 := hB.cell (o := 2) rfl
    have e3 := hB.cell (o := 3) rfl
    have e4 := hB.cell (o := 4) rfl
    have e5 := hB.cell (o := 5) rfl
    have e6 := hB.cell (o := 6) rfl
    have e7 := hB.cell (o := 7) rfl
    have e8 := hB.cell (o := 8) rfl
    have e9 := hB.cell (o := 9) rfl
    clear hB
    go_wp2_with fail
    go_ret
    exact ⟨rfl, hk1⟩
theorem checkR_any (f : Frm) (s : Option Addr) (c : Nat) (w : World) : Calls Try.prog 37 #[fv f s c] w (Ans w (.int .i64 (chk f))) := by
  by_cases h1 : Fit f
  · by_cases h2 : Rng f ∧ Dat f
    · rw [chk_yes ⟨h1, h2⟩]; exact checkR_rest h1 0 (if_pos h2).symm s c w
    · rw [chk_no fun h => h2 h.2]; exact checkR_rest h1 1 (if_neg h2).symm s c w
  · rw [chk_no fun h => h1 h.1]; exact checkR_fit h1 s c w
end Go.Proofs.Ytompbpiaapenaaa.Wr

/- Are steps looked at? Conditions: each theorem's own. -/
namespace Go.Proofs.Ytompbpiaapenaaa.Rf
open Go.RowKit Hp QuM Rw Qu Po NumM NumC WrM Opn
attribute [local go_sem ↓] Go.wp_at_zero Go.wp_at_succ
set_option maxHeartbeats 4000000 in
theorem sum_30 (n x : Int) (g : Nat) (w : World) (hB : Blk w g [.int .i64 x, .int .i64 30] 3) (h0 : 0 ≤ n) (hn : n ≤ 3000) (hx : 0 ≤ x) (hx2 : x ≤ 9223372036854775807) :
    Calls Try.prog 36 #[.int .i64 n, .slice (some ⟨g, 0, none⟩) 2 2] w fun e w' => (∃ r : Int, e = .returned (.int .i64 r) ∧ 0 ≤ r ∧ (n + x + 30 ≤ 3000 → r = n + x + 30) ∧ (3000 < n + x + 30 → 3000 < r)) ∧ w = w' := by
  have c0 := hB.cell (o := 0) rfl
  have c1 := hB.cell (o := 1) rfl
  clear hB
  go_enter Try.func36, Try.ntmps36
  go_wp2_with fail
  go_loopg [0, 5] 2 (fun mm s0 s5 wr => w = wr ∧ ((Hid (mm = 2) ∧ s0 = .int .i64 n ∧ s5 = .int .i64 0) ∨ (Hid (mm = 1) ∧ s0 = .int .i64 (n + x) ∧ s5 = .int .i64 1 ∧ n + x ≤ 1099511627776) ∨ (Hid (mm = 0) ∧ s0 = .int .i64 (n + x + 30) ∧ s5 = .int .i64 2 ∧ n + x + 30 ≤ 1099511627776)))
  case atStart => exact ⟨rfl, Or.inl ⟨Lib.hid rfl, rfl, rfl⟩⟩
  case round =>
    obtain ⟨rfl, ⟨hm, rfl, rfl⟩ | ⟨hm, rfl, rfl, hs⟩ | ⟨hm, rfl, rfl, hs⟩⟩ := hrel
    · have k1 : decide ((1099511627776 : Int) < n) = false := by rw [decide_eq_false_iff_not]; omega
      have k2 : IntKind.i64.wrap (1099511627776 - n) = 1099511627776 - n := by rw [IntKind.wrap_i64]; omega
      by_cases hb : 1099511627776 - n < x
      · go_wp2_with fail
        go_ret
        exact ⟨⟨_, rfl, by omega, fun h => by omega, fun h => by omega⟩, rfl⟩
      · have hb2 : decide (1099511627776 - n < x) = false := by rw [decide_eq_false_iff_not]; omega
        have k3 : IntKind.i64.wrap (n + x) = n + x := by rw [IntKind.wrap_i64]; omega
        go_wp2_with fail
        go_roundg 1
        case measure => have := hm.out; omega
        case rel => exact ⟨rfl, Or.inr (Or.inl ⟨Lib.hid rfl, by first | rfl | trivial, rfl, by omega⟩)⟩
    · have k1 : decide ((1099511627776 : Int) < n + x) = false := by rw [decide_eq_false_iff_not]; omega
      have k2 : IntKind.i64.wrap (1099511627776 - (n + x)) = 1099511627776 - (n + x) := by rw [IntKind.wrap_i64]; omega
      by_cases hb : 1099511627776 - (n + x) < 30
      · go_wp2_with fail
        go_ret
        exact ⟨⟨_, rfl, by omega, fun h => by omega, fun h => by omega⟩, rfl⟩
      · have hb2 : decide (1099511627776 - (n + x) < 30) = false := by rw [decide_eq_false_iff_not]; omega
        have k3 : IntKind.i64.wrap (n + x + 30) = n + x + 30 := by rw [IntKind.wrap_i64]; omega
        go_wp2_with fail
        go_roundg 0
        case measure => have := hm.out; omega
        case rel => exact ⟨rfl, Or.inr (Or.inr ⟨Lib.hid rfl, by first | rfl | trivial, rfl, by omega⟩)⟩
    · go_wp2_with fail
      go_ret
      exact ⟨⟨_, rfl, by omega, fun h => rfl, fun h => by omega⟩, rfl⟩
theorem pnew_no {room most : Int} {trim : Bool} (h : room < 0 ∨ 1073741824 < room ∨ most < 0 ∨ 1073741824 < most) (w : World) : Calls Try.prog 9 #[.int .i64 room, .int .i64 most, .bool trim] w fun e w' => e = .returned (.tuple #[.pointer none, .int .i64 1]) ∧ w = w' := by
  have hc : room < 0 ∨ (decide (room < 0) = false ∧ 1073741824 < room) ∨ (decide (room < 0) = false ∧ decide (1073741824 < room) = false ∧ most < 0) ∨ (decide (room < 0) = false ∧ decide (1073741824 < room) = false ∧ decide (most < 0) = false ∧ 1073741824 < most) := by
    simp only [decide_eq_false_iff_not]; omega
  clear h
  rcases hc with h1 | ⟨h1, h2⟩ | ⟨h1, h2, h3⟩ | ⟨h1, h2, h3, h4⟩
  all_goals
    go_enter Try.func9, Try.ntmps9
    go_wp2_with fail
    exact bodyPost_ret (v := .tuple #[.pointer none, .int .i64 1]) (by simp [results, Try.results9, go_sem]) rfl ⟨rfl, rfl⟩
/-- A step that may be looked at. -/
def ZOk (z : Int × Bx) : Prop := z.2.f.data.length ≤ 3000 ∧ (z.1 = 1 → chk z.2.f = 0)
/-- One of them, its cells. -/
theorem st_cells {W : World} {s : Option Addr} {cap : Nat} {l : List (Int × Bx)} (h : StIn W s cap l) {i : Nat} {kd : Int} {x1 x2 x3 x4 : Int} {x5 : Nat} {x6 x7 x8 x9 : Int} {xd : List UInt8} {xa : Option Addr} {xc : Nat} {xq : Int} (hi : l[i]? = some (kd, ⟨⟨x1, x2, x3, x4, x5, x6, x7, x8, x9, xd⟩, xa, xc, xq⟩)) :
    ∃ b off, s = some ⟨b, off, none⟩ ∧ b < W.heap.size ∧ ∀ w', Kept (fun _ => False) W w' → w'.cell? ⟨b, off + i * 12, none⟩ = some (.int .i64 kd) ∧ w'.cell? ⟨b, off + i * 12 + 1, none⟩ = some (.int .i64 x1) ∧ w'.cell? ⟨b, off + i * 12 + 2, none⟩ = some (.int .i64 x2) ∧ w'.cell? ⟨b, off + i * 12 + 3, none⟩ = some (.int .i64 x3) ∧ w'.cell? ⟨b, off + i * 12 + 4, none⟩ = some (.int .i64 x4) ∧ w'.cell? ⟨b, off + i * 12 + 5, none⟩ = some (.int .u64 (x5 : Int)) ∧ w'.cell? ⟨b, off + i * 12 + 6, none⟩ = some (.int .i64 x6) ∧ w'.cell? ⟨b, off + i * 12 + 7, none⟩ = some (.int .i64 x7) ∧ w'.cell? ⟨b, off + i * 12 + 8, none⟩ = some (.int .i64 x8) ∧ w'.cell? ⟨b, off + i * 12 + 9, none⟩ = some (.int .i64 x9) ∧ w'.cell? ⟨b, off + i * 12 + 10, none⟩ = some (.slice xa xd.length xc) ∧ w'.cell? ⟨b, off + i * 12 + 11, none⟩ = some (.int .i64 xq) := by
  rcases h.2.2.2 with rfl | ⟨b, off, rfl, hb, hc⟩
  · simp at hi
  · refine ⟨b, off, rfl, hb, fun w' k => ?_⟩
    have c : ∀ (j : Nat) v, (scs (kd, ⟨⟨x1, x2, x3, x4, x5, x6, x7, x8, x9, xd⟩, xa, xc, xq⟩))[j]? = some v → w'.cell? ⟨b, off + i * 12 + j, none⟩ = some v := fun j v hv => (keptCell k hb (fun f => f) _).trans (hc i _ hi j v hv)
    exact ⟨c 0 _ rfl, c 1 _ rfl, c 2 _ rfl, c 3 _ rfl, c 4 _ rfl, c 5 _ rfl, c 6 _ rfl, c 7 _ rfl, c 8 _ rfl, c 9 _ rfl, c 10 _ rfl, c 11 _ rfl⟩
/-- What small answers. -/
def SmP (w : World) (l : List (Int × Bx)) (e : Ending) (w' : World) : Prop := ∃ bb, e = .returned (.bool bb) ∧ Kept (fun _ => False) w w' ∧ (bb = true → l.length ≤ 100 ∧ ∀ z ∈ l, ZOk z)
theorem mem_take_succ {l : List (Int × Bx)} {i : Nat} {z y : Int × Bx} (h : l[i]? = some z) (hy : y ∈ l.take (i + 1)) : y ∈ l.take i ∨ y = z := by
  rw [List.take_add_one, h] at hy
  rcases List.mem_append.1 hy with h | h
  · exact Or.inl h
  · exact Or.inr (by simpa using h)
set_option maxRecDepth 100000 in
set_option maxHeartbeats 8000000 in
theorem small_any {w : World} {s : Option Addr} {cap : Nat} {l : List (Int × Bx)} (h : StIn w s cap l) :
    Calls Try.prog 7 #[.slice s l.length cap] w (SmP w l) := by
  have H := Lib.hid h
  obtain ⟨N, hN⟩ : ∃ N, l.length = N := ⟨_, rfl⟩
  have hN2 : N ≤ 9223372036854775807 := by have := h.1; have := h.2.1; omega
  have hNc : N ≤ cap := by have := h.1; omega
  have HN := Lib.hid hN
  rw [hN]
  clear h hN
  go_enter Try.func7, Try.ntmps7
  go_wp2_with fail
  go_loopg [3, 4] N (fun mm s3 s4 wr => ∃ (i : Nat) (n : Int), Hid (N - i ≤ mm) ∧ i ≤ N ∧ s4 = .int .i64 (i : Nat) ∧ s3 = .int .i64 n ∧ 0 ≤ n ∧ Hid (n ≤ 3000 → 30 * (i : Int) ≤ n ∧ ∀ z ∈ l.take i, ZOk z) ∧ Hid (Kept (fun _ => False) w wr))
  case atStart => exact ⟨0, 0, Lib.hid (by omega), Nat.zero_le _, rfl, rfl, Int.le_refl _, Lib.hid (fun _ => ⟨by omega, fun z hz => by simp at hz⟩), Lib.hid (Kept.refl _ _)⟩
  case round =>
    obtain ⟨i, n, hmm, hi, rfl, rfl, hn0, hn, hkw⟩ := hrel
    rcases Nat.lt_or_ge i N with hlt | hge
    · have hlt' : (i : Int) < (N : Int) := by omega
      by_cases hn3 : n ≤ 3000
      · obtain ⟨⟨kd, ⟨⟨x1, x2, x3, x4, x5, x6, x7, x8, x9, xd⟩, xa, xc, xq⟩⟩, hz⟩ : ∃ z, l[i]? = some z := ⟨_, List.getElem?_eq_getElem (by rw [HN.out]; exact hlt)⟩
        obtain ⟨b, off, rfl, hb, hc⟩ := st_cells H.out hz
        have HZ := Lib.hid hz
        have hsok := H.out.2.2.1 _ (List.mem_of_getElem? hz)
        have hxl : xd.length ≤ 9223372036854775807 := by
          have h1 := hsok.1.2
          obtain ⟨s, c, e, hle, _⟩ := hsok.1.1
          cases e
          show xd.length ≤ _
          have : xd.length ≤ xc := hle
          have h2 : xc ≤ 9223372036854775807 := h1
          omega
        have HC := Lib.hid hc
        obtain ⟨d0, d1, d2, d3, d4, d5, d6, d7, d8, d9, d10, d11⟩ := hc _ hkw.out
        have hxn : (0 : Int) ≤ (xd.length : Int) := by omega
        clear hz hsok hc
        obtain ⟨L, hL⟩ : ∃ L, xd.length = L := ⟨_, rfl⟩
        have HLL := Lib.hid hL
        rw [hL] at d10 hxl hxn
        clear hL
        go_wp2_with fail
        have hB := Blk.new wr [.int .i64 (L : Nat), .int .i64 30] 3
        have hk := (Kept.refl (fun _ => False) wr).alloc (.cells [.int .i64 (L : Nat), .int .i64 30].toArray 3)
        dsimp only [List.toArray] at hB hk
        have HK2 := Lib.hid (hkw.out.trans hk)
        have SM := sum_30 n (L : Nat) wr.heap.size _ hB hn0 hn3 hxn (by omega)
        generalize wr.alloc (.cells #[.int .i64 (L : Nat), .int .i64 30] 3) = w2 at *
        generalize wr.heap.size = ob at *
        with_reducible refine Calls.mono SM ?_
        rintro e w3 ⟨⟨r, rfl, hr0, hr1, hr2⟩, rfl⟩
        have HRR := Lib.hid (And.intro hr1 hr2)
        clear hr1 hr2 SM hB hk hkw d0 d1 d2 d3 d4 d5 d6 d7 d8 d9 d10 d11
        obtain ⟨d0, d1, d2, d3, d4, d5, d6, d7, d8, d9, d10, d11⟩ := HC.out _ HK2.out
        have HLE := HLL
        rw [HLL.out] at d10
        have CK := Lib.hid fun (w' : World) => Wr.checkR_any ⟨x1, x2, x3, x4, x5, x6, x7, x8, x9, xd⟩ xa xc w'
        obtain ⟨c, hc⟩ : ∃ c, chk ⟨x1, x2, x3, x4, x5, x6, x7, x8, x9, xd⟩ = c := ⟨_, rfl⟩
        rw [hc] at CK
        unfold Wr.fv Wr.fcs Wr.Ans at CK
        dsimp only at CK
        rw [HLL.out] at CK
        have HCC := Lib.hid hc
        clear hc
        have NXT : Hid ((kd = 1 → c = 0) → r ≤ 3000 → 30 * ((i + 1 : Nat) : Int) ≤ r ∧ ∀ z ∈ l.take (i + 1), ZOk z) := by
          refine Lib.hid fun hkc hr => ?_
          have h1 : n + (L : Int) + 30 ≤ 3000 := by
            rcases Int.lt_or_le 3000 (n + (L : Int) + 30) with h | h
            · have := HRR.out.2 h; omega
            · exact h
          have h2 := HRR.out.1 h1
          obtain ⟨h3, h4⟩ := hn.out (by omega)
          refine ⟨by omega, fun z hz => ?_⟩
          rcases mem_take_succ HZ.out hz with h | rfl
          · exact h4 z h
          · refine ⟨?_, fun e => HCC.out.trans (hkc e)⟩
            show xd.length ≤ 3000
            rw [HLL.out]
            omega
        clear HC hxn hxl
        by_cases h0 : c = 0
        · subst h0
          have NX := Lib.hid (NXT.out fun _ => rfl)
          clear NXT HCC
          go_wp2_with fail
          with_reducible refine Calls.mono (CK.out _) ?_
          rintro e w4 ⟨rfl, hk4⟩
          have HK4 := Lib.hid (HK2.out.trans hk4)
          clear hk4 d0 d1 d2 d3 d4 d5 d6 d7 d8 d9 d10 d11
          go_wp2_with fail
          go_roundg (N - (i + 1))
          case measure => have := hmm.out; omega
          case rel => exact ⟨i + 1, r, Lib.hid (Nat.le_refl _), by omega, by go_num, rfl, hr0, NX, HK4⟩
        · have hne : (c != 0) = true := by rw [bne_iff_ne]; exact h0
          go_wp2_with fail
          with_reducible refine Calls.mono (CK.out _) ?_
          rintro e w4 ⟨rfl, hk4⟩
          have HK4 := Lib.hid (HK2.out.trans hk4)
          obtain ⟨q0, _⟩ := (show w4.cell? ⟨b, off + i * 12, none⟩ = some (.int .i64 kd) ∧ True from ⟨(keptCell hk4 (World.block_lt_of_cell? w2 _ d0) (fun f => f) _).trans d0, trivial⟩)
          clear hk4 d0 d1 d2 d3 d4 d5 d6 d7 d8 d9 d10 d11
          by_cases hk1 : kd = 1
          · subst hk1
            go_wp2_with fail
            go_ret
            exact ⟨false, rfl, HK4.out, fun h => by cases h⟩
          · have NX := Lib.hid (NXT.out fun e => absurd e hk1)
            have hk2 : (kd == 1) = false := by rw [beq_eq_false_iff_ne]; exact hk1
            have h0h := Lib.hid h0
            have hk1h := Lib.hid hk1
            clear NXT HCC h0 hk1
            go_wp2_with fail
            go_roundg (N - (i + 1))
            case measure => have := hmm.out; omega
            case rel => exact ⟨i + 1, r, Lib.hid (Nat.le_refl _), by omega, by go_num, rfl, hr0, NX, HK4⟩
      · have hn4 : decide (n ≤ 3000) = false := decide_eq_false hn3
        clear hn3
        go_wp2_with fail
        go_ret
        exact ⟨_, rfl, hkw.out, fun h => by first | cases h | (rw [hn4] at h; cases h)⟩
    · have hge' : ¬ ((i : Int) < (N : Int)) := by omega
      obtain rfl : i = N := by omega
      have RES : Hid (decide (n ≤ 3000) = true → l.length ≤ 100 ∧ ∀ z ∈ l, ZOk z) := by
        refine Lib.hid fun h => ?_
        obtain ⟨h1, h2⟩ := hn.out (of_decide_eq_true h)
        have h3 : l.take i = l := by rw [← HN.out]; exact List.take_length
        rw [h3] at h2
        have h4 := of_decide_eq_true h
        exact ⟨by rw [HN.out]; omega, h2⟩
      go_wp2_with fail
      go_ret
      exact ⟨_, rfl, hkw.out, RES.out⟩
end Go.Proofs.Ytompbpiaapenaaa.Rf

/- Both ports beside each other: a step's calls. Conditions: each theorem's own. -/
namespace Go.Proofs.Ytompbpiaapenaaa.Rf
open Go.RowKit Hp QuM Rw Qu Po NumM NumC
variable {W w0 w w' : World} {b m : Nat} {room most : Int} {trim : Bool} {ls l1 l2 : Nat → List Bx} {cr c1 c2 : List Bx} {now nxt last n1 n2 : Int} {ever : Bool} {vs : Nat → Value} {vc : Value} {R F G : Nat → Prop} {ex : Ex}
theorem DX.rd (h : DX W b m room most trim l1 c1 n1 nxt l2 c2 n2 last ever ex w) {x : Bx} (hx : Rd W x) : Rd w x := hx.old h.old
/-- The reference's block does not hold bytes. -/
theorem DX.fd (h : DX W b m room most trim l1 c1 n1 nxt l2 c2 n2 last ever ex w) {x : Bx} (hx : Fd W w x) (k : Kept (fun i => i = m) w w') : Fd W w' x := by
  obtain ⟨F, R, h1, ⟨vs, vc, h2, _⟩, _⟩ := h
  refine ⟨hx.1.kept k (fun g hg e => ?_), hx.2⟩
  subst e
  rcases hx.1.2 with ⟨e, _⟩ | ⟨g', cap, cur, e, _, hB, _⟩
  · rw [e] at hg; cases hg
  · rw [e] at hg
    cases hg
    exact absurd (h2.blk.inj hB).2 (by decide)
theorem Fd.old {x : Bx} (h : Fd W w x) (k : Kept (fun _ => False) w w') : Fd W w' x := ⟨h.1.kept k (fun _ _ f => f), h.2⟩
theorem ps_rd (h : PS W b room most trim l1 c1 n1 nxt F w) {i at_ : Nat} (hi : i < 9) {x : Bx} (hx : (lnl l1 c1 i)[at_]? = some x) : Rd w x := by
  obtain ⟨qf, qc, pb, Ff, Fc, hp, _⟩ := h
  rcases mem_acc hi hx with ⟨k, hk, h1⟩ | h1
  · exact (hp.gf k x hk h1).rd
  · exact (hp.gc x h1).rd
/-- A step of Put: by both. -/
theorem put_both (hr : Rel l1 l2 c1 c2) {x : Bx} (hx : Rok W x) (hc : cnt l2 8 + c2.length ≤ 800) :
    ∃ (r : Int) (l2' : Nat → List Bx) (c2' : List Bx), cnt l2' 8 + c2'.length ≤ cnt l2 8 + c2.length + 1 ∧
    (∀ (ex : Ex) w, DX W b m room most trim l1 c1 now nxt l2 c2 now last ever ex w → Calls Try.prog 11 #[.pointer (some ⟨b, 0, none⟩), bv x] w fun e w' => e = rI r ∧ ∃ l1' c1', Rel l1' l2' c1' c2' ∧ DX W b m room most trim l1' c1' now nxt l2 c2 now last ever ex w') ∧
    (∀ (ex : Ex) l1' c1' w, DX W b m room most trim l1' c1' now nxt l2 c2 now last ever ex w → Calls Try.prog 12 #[.pointer (some ⟨m, 0, none⟩), bv x] w fun e w' => e = rI r ∧ DX W b m room most trim l1' c1' now nxt l2' c2' now last ever ex w') := by
  obtain ⟨r, l2', c2', hn, hP, hM⟩ := put_spec (now := now) (nxt := nxt) (last := last) (ever := ever) (b := b) (m := m) (room := room) (most := most) (trim := trim) hr (x := x) (y := x) rfl hx hc
  refine ⟨r, l2', c2', hn, fun ex w h => ?_, fun ex l1' c1' w h => ?_⟩
  · have hrd := h.rd hx.2.2
    exact (h.callP (E := fun e _ => e = rI r) (P := fun l1' c1' => Rel l1' l2' c1' c2') (n1' := now) (nxt' := nxt) fun F hF => hP F w hF hrd)
  · exact (h.callM (E := fun e => e = rI r) fun R hR => hM R w hR).mono fun e w' ⟨⟨e1, _⟩, e2⟩ => ⟨e1, e2⟩
/-- A step of Take: by both. -/
theorem take_both (hr : Rel l1 l2 c1 c2) (hT : Tm now nxt last ever) (hc : cnt l2 8 + c2.length ≤ 800) (t : Int) :
    ∃ (x y : Bx) (ok : Bool) (l1' : Nat → List Bx) (c1' : List Bx) (nxt' : Int) (l2' : Nat → List Bx) (c2' : List Bx) (last' : Int) (ever' : Bool) (now' : Int), ky x = ky y ∧ Rel l1' l2' c1' c2' ∧ Tm now' nxt' last' ever' ∧ cnt l2' 8 + c2'.length ≤ cnt l2 8 + c2.length ∧
    (∀ (ex : Ex) w, DX W b m room most trim l1 c1 now nxt l2 c2 now last ever ex w → Calls Try.prog 13 #[.pointer (some ⟨b, 0, none⟩), .int .i64 t] w fun e w' => e = rX x ok ∧ Fd W w' x ∧ DX W b m room most trim l1' c1' now' nxt' l2 c2 now last ever ex w') ∧
    (∀ (ex : Ex) w, DX W b m room most trim l1' c1' now' nxt' l2 c2 now last ever ex w → Calls Try.prog 14 #[.pointer (some ⟨m, 0, none⟩), .int .i64 t] w fun e w' => e = rX y ok ∧ Rd W y ∧ Kept (fun i => i = m) w w' ∧ DX W b m room most trim l1' c1' now' nxt' l2' c2' now' last' ever' ex w') := by
  obtain ⟨x, y, ok, l1', c1', nxt', l2', c2', last', ever', now', e, h1, h2, h3, hP, hM⟩ := take_spec (W := W) (b := b) (m := m) (room := room) (most := most) (trim := trim) hr hT (by omega) t
  refine ⟨x, y, ok, l1', c1', nxt', l2', c2', last', ever', now', e, h1, h2, h3, fun ex w h => ?_, fun ex w h => ?_⟩
  · refine (h.callP (E := fun e w' => e = rX x ok ∧ Fd W w' x) (P := fun l c => l = l1' ∧ c = c1') (n1' := now') (nxt' := nxt') fun F hF => hP F w hF).mono ?_
    rintro e w' ⟨⟨e1, e2⟩, l, c, ⟨rfl, rfl⟩, hD⟩
    exact ⟨e1, e2, hD⟩
  · exact (h.callM (E := fun e => e = rX y ok ∧ Rd W y) fun R hR => hM R w hR).mono fun e w' ⟨⟨⟨e1, e2⟩, k⟩, e3⟩ => ⟨e1, e2, k, e3⟩
/-- A step of Drop: by both. -/
theorem drop_both (hr : Rel l1 l2 c1 c2) (hc : cnt l2 8 + c2.length ≤ 800) (t : Int) (ht : t ≤ 9223372036854775807) :
    ∃ (x y : Bx) (ok : Bool) (l1' : Nat → List Bx) (c1' : List Bx) (l2' : Nat → List Bx) (c2' : List Bx), ky x = ky y ∧ Rel l1' l2' c1' c2' ∧ cnt l2' 8 + c2'.length ≤ cnt l2 8 + c2.length ∧
    (∀ (ex : Ex) w, DX W b m room most trim l1 c1 now nxt l2 c2 now last ever ex w → Calls Try.prog 16 #[.pointer (some ⟨b, 0, none⟩), .int .i64 t] w fun e w' => e = rX x ok ∧ Fd W w' x ∧ DX W b m room most trim l1' c1' now nxt l2 c2 now last ever ex w') ∧
    (∀ (ex : Ex) w, DX W b m room most trim l1' c1' now nxt l2 c2 now last ever ex w → Calls Try.prog 17 #[.pointer (some ⟨m, 0, none⟩), .int .i64 t] w fun e w' => e = rX y ok ∧ Rd W y ∧ Kept (fun i => i = m) w w' ∧ DX W b m room most trim l1' c1' now nxt l2' c2' now last ever ex w') := by
  obtain ⟨x, y, ok, l1', c1', l2', c2', e, h1, h3, hP, hM⟩ := drop_spec (W := W) (b := b) (m := m) (room := room) (most := most) (trim := trim) (now := now) (nxt := nxt) (last := last) (ever := ever) hr (by omega) t ht
  refine ⟨x, y, ok, l1', c1', l2', c2', e, h1, h3, fun ex w h => ?_, fun ex w h => ?_⟩
  · refine (h.callP (E := fun e w' => e = rX x ok ∧ Fd W w' x) (P := fun l c => l = l1' ∧ c = c1') (n1' := now) (nxt' := nxt) fun F hF => hP F w hF).mono ?_
    rintro e w' ⟨⟨e1, e2⟩, l, c, ⟨rfl, rfl⟩, hD⟩
    exact ⟨e1, e2, hD⟩
  · exact (h.callM (E := fun e => e = rX y ok ∧ Rd W y) fun R hR => hM R w hR).mono fun e w' ⟨⟨⟨e1, e2⟩, k⟩, e3⟩ => ⟨e1, e2, k, e3⟩
/-- A step of Double, where there is one: the reference's Put, then the port's Double. -/
theorem double_both (hr : Rel l1 l2 c1 c2) (hc : cnt l2 8 + c2.length ≤ 800) {n : Nat} {y : Bx} (hy : (accL l2 c2 9)[n]? = some y) (hok : Rok W y) :
    ∃ (r : Int) (l2' : Nat → List Bx) (c2' : List Bx), cnt l2' 8 + c2'.length ≤ cnt l2 8 + c2.length + 1 ∧
    (∀ (ex : Ex) w, DX W b m room most trim l1 c1 now nxt l2 c2 now last ever ex w → Calls Try.prog 12 #[.pointer (some ⟨m, 0, none⟩), bv y] w fun e w' => e = rI r ∧ DX W b m room most trim l1 c1 now nxt l2' c2' now last ever ex w') ∧
    (∀ (ex : Ex) w, DX W b m room most trim l1 c1 now nxt l2' c2' now last ever ex w → Calls Try.prog 19 #[.pointer (some ⟨b, 0, none⟩), .int .i64 (n : Nat)] w fun e w' => e = .returned (.bool (r != 3)) ∧ ∃ l1' c1', Rel l1' l2' c1' c2' ∧ DX W b m room most trim l1' c1' now nxt l2' c2' now last ever ex w') := by
  have hacc := hr.acc (Nat.le_refl 9)
  have hcl : c1.length = c2.length := ky_len hr.2
  have hcn := hr.cntE (n := 8) (Nat.le_refl _)
  have ha1 := acc_cnt (ls := l1) (cr := c1)
  have hnl := (List.getElem?_eq_some_iff.1 hy).1
  have hlen := ky_len hacc
  obtain ⟨i, at_, hi, hat, hni⟩ := acc_split (ls := l1) (cr := c1) (k := n) (n := 9) (by omega)
  obtain ⟨x, hx⟩ : ∃ x, (lnl l1 c1 i)[at_]? = some x := ⟨_, List.getElem?_eq_getElem hat⟩
  have hx9 : (accL l1 c1 9)[n]? = some x := by rw [← hni, acc_at hat hi]; exact hx
  have e : ky x = ky y := by
    have h1 := congrArg (fun l => l[n]?) hacc
    simp only [List.getElem?_map, hx9, hy, Option.map_some] at h1
    exact Option.some.inj h1
  obtain ⟨r, l2', c2', hn, hP, hM⟩ := put_spec (now := now) (nxt := nxt) (last := last) (ever := ever) (b := b) (m := m) (room := room) (most := most) (trim := trim) hr e hok hc
  refine ⟨r, l2', c2', hn, fun ex w h => ?_, fun ex w h => ?_⟩
  · exact (h.callM (E := fun e => e = rI r) fun R hR => hM R w hR).mono fun e w' ⟨⟨e1, _⟩, e2⟩ => ⟨e1, e2⟩
  · refine h.callP (E := fun e _ => e = .returned (.bool (r != 3))) (P := fun l1' c1' => Rel l1' l2' c1' c2') (n1' := now) (nxt' := nxt) fun F hF => ?_
    refine double_yes hF hx9 (by omega) (Post := fun w' => ∃ l1' c1', Rel l1' l2' c1' c2' ∧ ∃ F', PS W b room most trim l1' c1' now nxt F' w' ∧ Qu.Next F w F' w') fun w1 k => ?_
    refine (hP F w1 (hF.old k) ((ps_rd hF hi hx).old k)).mono ?_
    rintro e w' ⟨e1, l1', c1', h1, F', h2, h3⟩
    exact ⟨e1, l1', c1', h1, F', h2, next_in k h3⟩
theorem double_none (hr : Rel l1 l2 c1 c2) (hc : cnt l2 8 + c2.length ≤ 800) {k : Int} (hk : k < 0 ∨ ((accL l2 c2 9).length : Int) ≤ k) (hk2 : k ≤ 9223372036854775807) (h : DX W b m room most trim l1 c1 now nxt l2 c2 now last ever ex w) :
    Calls Try.prog 19 #[.pointer (some ⟨b, 0, none⟩), .int .i64 k] w fun e w' => e = .returned (.bool false) ∧ DX W b m room most trim l1 c1 now nxt l2 c2 now last ever ex w' := by
  have hlen := ky_len (hr.acc (Nat.le_refl 9))
  have hcl : c1.length = c2.length := ky_len hr.2
  have hcn := hr.cntE (n := 8) (Nat.le_refl _)
  have ha1 := acc_cnt (ls := l1) (cr := c1)
  have hh := h
  obtain ⟨F, R, h1, _⟩ := hh
  exact (double_no h1 (k := k) (by omega) hk2 (by omega)).mono fun e w' ⟨e1, e2⟩ => ⟨e1, h.keep e2⟩
theorem wait_both (hc : cnt l2 8 + c2.length ≤ 800) (h : DX W b m room most trim l1 c1 now nxt l2 c2 now last ever ex w) :
    Calls Try.prog 18 #[.pointer (some ⟨m, 0, none⟩)] w fun e w' => ∃ v', e = .returned v' ∧ Rw.Row rT w' w.heap.size v' (accL l2 c2 9) ∧ DX W b m room most trim l1 c1 now nxt l2 c2 now last ever ex w' := by
  have ha2 := acc_cnt (ls := l2) (cr := c2)
  have hh := h
  obtain ⟨F, R, h1, h2, _⟩ := hh
  exact (rwait_any h2 (by omega)).mono fun e w' ⟨v', e1, e2, e3⟩ => ⟨v', e1, e2, h.keep e3⟩
theorem DX.rok (h : DX W b m room most trim l1 c1 now nxt l2 c2 now last ever ex w) {y : Bx} (hy : y ∈ accL l2 c2 9) : Rok W y := by
  obtain ⟨F, R, h1, ⟨vs, vc, h2, _⟩, _⟩ := h
  rcases acc_mem (Nat.le_refl 9) hy with ⟨k, hk, h⟩ | h
  · exact h2.ok k y hk h
  · exact h2.okc y h
theorem shows_both (hr : Rel l1 l2 c1 c2) (hc : cnt l2 8 + c2.length ≤ 800) (h : DX W b m room most trim l1 c1 now nxt l2 c2 now last ever ex w) :
    Calls Try.prog 20 #[.pointer (some ⟨b, 0, none⟩), .pointer (some ⟨m, 0, none⟩)] w fun e w' => e = .returned (.bool true) ∧ DX W b m room most trim l1 c1 now nxt l2 c2 now last ever ex w' := by
  have hh := h
  obtain ⟨F, R, h1, h2, _⟩ := hh
  exact (shows_yes h1 h2 hr (by omega)).mono fun e w' ⟨e1, e2⟩ => ⟨e1, h.keep e2⟩
theorem new_both {w1 : World} {bp mm : Nat} {Fp Rm : Nat → Prop} (h1 : PS W bp room most trim (fun _ => []) [] 0 0 Fp w) (h2 : RS W mm room most trim (fun _ => []) [] 0 0 false Rm w1) (k : Kept (fun _ => False) w w1) (hR : ∀ i, Rm i → w.heap.size ≤ i) :
    DX W bp mm room most trim (fun _ => []) [] 0 0 (fun _ => []) [] 0 0 false [] w1 :=
  ⟨Fp, Rm, h1.old k, h2, fun i hf hr => by have := (h1.bound hf).2; have := hR i hr; omega, fun x hx => by cases hx⟩
theorem rel_nil : Rel (fun _ => []) (fun _ => []) [] [] := ⟨fun _ _ => rfl, rfl⟩
theorem tm_nil : Tm 0 0 0 false := ⟨by decide, by decide, by decide, fun _ => rfl, fun h => by cases h⟩
theorem cnt_nil : cnt (fun _ => ([] : List Bx)) 8 = 0 := rfl
theorem chk_len {f : WrM.Frm} (h : WrM.chk f = 0) : 0 ≤ f.len ∧ f.len ≤ 2000 := by
  by_cases hk : WrM.Ok f
  · have h1 := hk.1.2.2.2.2.2.2.2.1
    omega
  · rw [WrM.chk_no hk] at h
    exact absurd h (by decide)
end Go.Proofs.Ytompbpiaapenaaa.Rf

