/- Frames: what the laws share: awake, two lengths, Trimmed; a frame as an argument, opened. Conditions: each theorem's own. -/
import Derived.Test.YtkbncpclfeiofaaWrSame
import Derived.Test.YtkbncpclfeiofaaWrDecR
import Derived.Test.YtkbncpclfeiofaaRnd
set_option linter.unusedVariables false
namespace Go.Proofs.Ytkbncpclfeiofaa.Wr
open Go.RowKit Hp WrM Byt
attribute [local go_sem ↓] Go.wp_at_zero Go.wp_at_succ
set_option maxHeartbeats 4000000 in
theorem sum_one (n x : Int) (g : Nat) (w : World) (hB : Blk w g [.int .i64 x] 3) (h0 : 0 ≤ n) (hn : n ≤ 9223372036854775807) (hx : 0 ≤ x) (hx2 : x ≤ 9223372036854775807) :
    Calls Try.prog 23 #[.int .i64 n, .slice (some ⟨g, 0, none⟩) 1 1] w fun e w' => (∃ r : Int, e = .returned (.int .i64 r) ∧ (2000 < r ↔ 2000 < n + x)) ∧ w = w' := by
  have c0 := hB.cell (o := 0) rfl
  clear hB
  go_enter Try.func23, Try.ntmps23
  go_wp2_with fail
  go_loopg [0, 5] 1 (fun mm s0 s5 wr => w = wr ∧ ((Hid (mm = 1) ∧ s0 = .int .i64 n ∧ s5 = .int .i64 0) ∨ (Hid (mm = 0) ∧ s0 = .int .i64 (n + x) ∧ s5 = .int .i64 1)))
  case atStart => exact ⟨rfl, Or.inl ⟨Lib.hid rfl, rfl, rfl⟩⟩
  case round =>
    obtain ⟨rfl, ⟨hm, rfl, rfl⟩ | ⟨hm, rfl, rfl⟩⟩ := hrel
    · by_cases ha : 1099511627776 < n
      · go_wp2_with fail
        go_ret
        exact ⟨⟨_, rfl, by omega⟩, rfl⟩
      have k1 : decide ((1099511627776 : Int) < n) = false := by rw [decide_eq_false_iff_not]; omega
      have k2 : IntKind.i64.wrap (1099511627776 - n) = 1099511627776 - n := by rw [IntKind.wrap_i64]; omega
      by_cases hb : 1099511627776 - n < x
      · go_wp2_with fail
        go_ret
        exact ⟨⟨_, rfl, by omega⟩, rfl⟩
      · have hb2 : decide (1099511627776 - n < x) = false := by rw [decide_eq_false_iff_not]; omega
        have k3 : IntKind.i64.wrap (n + x) = n + x := by rw [IntKind.wrap_i64]; omega
        go_wp2_with fail
        go_roundg 0
        case measure => have := hm.out; omega
        case rel => exact ⟨rfl, Or.inr ⟨Lib.hid rfl, by first | rfl | trivial, rfl⟩⟩
    · go_wp2_with fail
      go_ret
      exact ⟨⟨_, rfl, Iff.rfl⟩, rfl⟩
/-- No bytes. -/
theorem src_nil (w : World) : Byt.Src w (.slice none 0 0) [] := ⟨none, 0, rfl, Nat.le_refl _, Or.inl rfl, fun _ => rfl⟩
def fa : Frm := ⟨5, 1, 2, 0, 7, 0, 0, 0, 0, []⟩
def fb : Frm := ⟨1, 0, 0, 0, 0, 0, 5, 0, 0, []⟩
theorem ok_fa : Ok fa := by
  refine ⟨?_, ?_, ?_⟩
  · unfold Fit fa; simp
  · unfold Rng fa; simp
  · unfold Dat fa; simp
set_option maxHeartbeats 4000000 in
set_option maxRecDepth 100000 in
theorem awake_any (w : World) : Calls Try.prog 9 #[] w (Ans w (.bool true)) := by
  have hE := fun w' => enc_yes (f := fa) (s := none) (c := 0) (w := w') ok_fa (src_nil w')
  have hl : (enc fa).length = 26 := by rw [enc_len]; rfl
  have hd := fun w' => dec_any (w := w') (s := none) (c := 0) (l := []) (src_nil w') (by omega) (by simp)
  have hz := fun w' => size_any (f := fb) (by unfold dl fb; simp) (by unfold dl fb; simp) none 0 w'
  rw [show 26 + dl fb = 31 by unfold dl fb; simp] at hz
  generalize enc fa = EF at *
  unfold fv fcs fa at hE
  unfold fv fcs fb at hz
  dsimp only [List.length_nil] at hE hz hd
  have HE := Lib.hid hE
  have HD := Lib.hid hd
  have HZ := Lib.hid hz
  clear hE hd hz
  go_enter Try.func9, Try.ntmps9
  go_wp2_with fail
  with_reducible refine Calls.mono (HE.out _) ?_
  rintro e x1 ⟨v, rfl, hR, k1⟩
  obtain ⟨sv, cv, rfl, _⟩ := hR.slice
  rw [hl]
  clear hR
  go_upto_region 2 with fail
  go_wp2_with fail
  with_reducible refine Calls.mono (HD.out _) ?_
  rintro e x2 (⟨_, rfl, k2⟩ | ⟨hg, _⟩)
  rotate_left
  · exact absurd hg.1 (by simp)
  unfold fv fcs zf
  dsimp only [List.length_nil]
  have k02 := k1.trans k2
  clear k1 k2
  go_upto_region 3 with fail
  have k03 := k02.alloc (.cells #[.int .i64 0, .int .i64 0, .int .i64 0, .int .i64 0, .int .u64 0, .int .i64 0, .int .i64 0, .int .i64 0, .int .i64 0, .slice none 0 0] 25)
  generalize x2.alloc (.cells #[.int .i64 0, .int .i64 0, .int .i64 0, .int .i64 0, .int .u64 0, .int .i64 0, .int .i64 0, .int .i64 0, .int .i64 0, .slice none 0 0] 25) = x3 at *
  clear k02
  go_wp2_with (go_at_call 14; (with_reducible refine Calls.mono (HZ.out _) ?_); rintro e x4 ⟨rfl, k4⟩)
  go_ret
  exact ⟨rfl, k03.trans k4⟩
set_option maxHeartbeats 4000000 in
set_option maxRecDepth 100000 in
theorem trimmed_any (f : Frm) (s : Option Addr) (c : Nat) (w : World) : Calls Try.prog 22 #[fv f s c] w (Ans w (fv (WrM.trimmed f) none 0)) := by
  obtain ⟨kind, src, dst, prio, msg, off, len, total, num, data⟩ := f
  unfold WrM.trimmed fv fcs
  dsimp only [List.length_nil]
  go_enter Try.func22, Try.ntmps22
  go_upto_region 1 with fail
  have hA : Blk (w.alloc (.cells #[.int .i64 kind, .int .i64 src, .int .i64 dst, .int .i64 prio, .int .u64 (msg : Int), .int .i64 off, .int .i64 len, .int .i64 total, .int .i64 num, .slice s data.length c] 25)) w.heap.size [.int .i64 kind, .int .i64 src, .int .i64 dst, .int .i64 prio, .int .u64 (msg : Int), .int .i64 off, .int .i64 len, .int .i64 total, .int .i64 num, .slice s data.length c] 25 := Blk.new w _ _
  have kA : Kept (fun _ => False) w (w.alloc (.cells #[.int .i64 kind, .int .i64 src, .int .i64 dst, .int .i64 prio, .int .u64 (msg : Int), .int .i64 off, .int .i64 len, .int .i64 total, .int .i64 num, .slice s data.length c] 25)) := (Kept.refl _ w).alloc _
  have sA : (w.alloc (.cells #[.int .i64 kind, .int .i64 src, .int .i64 dst, .int .i64 prio, .int .u64 (msg : Int), .int .i64 off, .int .i64 len, .int .i64 total, .int .i64 num, .slice s data.length c] 25)).heap.size = w.heap.size + 1 := by simp
  generalize w.alloc (.cells #[.int .i64 kind, .int .i64 src, .int .i64 dst, .int .i64 prio, .int .u64 (msg : Int), .int .i64 off, .int .i64 len, .int .i64 total, .int .i64 num, .slice s data.length c] 25) = wa at *
  try rw [sA]
  have hR : Blk (wa.alloc (.cells #[.int .i64 0, .int .i64 0, .int .i64 0, .int .i64 0, .int .u64 0, .int .i64 0, .int .i64 0, .int .i64 0, .int .i64 0, .slice none 0 0] 25)) wa.heap.size [.int .i64 0, .int .i64 0, .int .i64 0, .int .i64 0, .int .u64 0, .int .i64 0, .int .i64 0, .int .i64 0, .int .i64 0, .slice none 0 0] 25 := Blk.new wa _ _
  rw [sA] at hR
  have hF := hA.old (.cells #[.int .i64 0, .int .i64 0, .int .i64 0, .int .i64 0, .int .u64 0, .int .i64 0, .int .i64 0, .int .i64 0, .int .i64 0, .slice none 0 0] 25)
  have kB := kA.alloc (.cells #[.int .i64 0, .int .i64 0, .int .i64 0, .int .i64 0, .int .u64 0, .int .i64 0, .int .i64 0, .int .i64 0, .int .i64 0, .slice none 0 0] 25)
  generalize wa.alloc (.cells #[.int .i64 0, .int .i64 0, .int .i64 0, .int .i64 0, .int .u64 0, .int .i64 0, .int .i64 0, .int .i64 0, .int .i64 0, .slice none 0 0] 25) = wb at *
  generalize hfb : w.heap.size = fb at *
  have HFB := Lib.hid hfb
  clear hA kA sA hfb
  have e0 := hF.cell (o := 0) rfl
  have f0 := hF.frozen 0
  have e3 := hF.cell (o := 3) rfl
  have f3 := hF.frozen 3
  have e9 := hF.cell (o := 9) rfl
  have f9 := hF.frozen 9
  have hF3 := ((hF.set 0 (.int .i64 7)).set 3 (.int .i64 0)).set 9 (.slice none 0 0)
  have hR3 := ((hR.far (p := fb) (by omega) 0 (.int .i64 7)).far (p := fb) (by omega) 3 (.int .i64 0)).far (p := fb) (by omega) 9 (.slice none 0 0)
  have hK3 := ((kB.set (b := fb) (fun hi => by have := HFB.out; omega) 0 (.int .i64 7)).set (b := fb) (fun hi => by have := HFB.out; omega) 3 (.int .i64 0)).set (b := fb) (fun hi => by have := HFB.out; omega) 9 (.slice none 0 0)
  dsimp only [List.set] at hF3
  have HF3 := Lib.hid hF3
  have HR3 := Lib.hid hR3
  have HK3 := Lib.hid hK3
  clear hF hR kB hF3 hR3 hK3
  go_upto_region 4 with fail
  have hF3 := HF3.out
  have hR3 := HR3.out
  have hK3 := HK3.out
  clear HF3 HR3 HK3 e0 f0 e3 f3 e9 f9
  generalize ((wb.setCell ⟨fb, 0, none⟩ (.int .i64 7)).setCell ⟨fb, 3, none⟩ (.int .i64 0)).setCell ⟨fb, 9, none⟩ (.slice none 0 0) = x3 at *
  have HR3 := Lib.hid hR3
  have HK3 := Lib.hid hK3
  have u0 := hR3.cell (o := 0) rfl
  have v0 := hR3.frozen 0
  have w0 := hF3.cell (o := 0) rfl
  have u1 := hR3.cell (o := 1) rfl
  have v1 := hR3.frozen 1
  have w1 := hF3.cell (o := 1) rfl
  have u2 := hR3.cell (o := 2) rfl
  have v2 := hR3.frozen 2
  have w2 := hF3.cell (o := 2) rfl
  have u3 := hR3.cell (o := 3) rfl
  have v3 := hR3.frozen 3
  have w3 := hF3.cell (o := 3) rfl
  have u4 := hR3.cell (o := 4) rfl
  have v4 := hR3.frozen 4
  have w4 := hF3.cell (o := 4) rfl
  have u5 := hR3.cell (o := 5) rfl
  have v5 := hR3.frozen 5
  have w5 := hF3.cell (o := 5) rfl
  have u6 := hR3.cell (o := 6) rfl
  have v6 := hR3.frozen 6
  have w6 := hF3.cell (o := 6) rfl
  have u7 := hR3.cell (o := 7) rfl
  have v7 := hR3.frozen 7
  have w7 := hF3.cell (o := 7) rfl
  have u8 := hR3.cell (o := 8) rfl
  have v8 := hR3.frozen 8
  have w8 := hF3.cell (o := 8) rfl
  have u9 := hR3.cell (o := 9) rfl
  have v9 := hR3.frozen 9
  have w9 := hF3.cell (o := 9) rfl
  clear hF3 hR3 hK3
  go_wp2_with fail
  have hZ := blk10 HR3.out (.int .i64 7) (.int .i64 src) (.int .i64 dst) (.int .i64 0) (.int .u64 (msg : Int)) (.int .i64 off) (.int .i64 len) (.int .i64 total) (.int .i64 num) (.slice none 0 0)
  have kZ := kept10 x3 (fb + 1) (.int .i64 7) (.int .i64 src) (.int .i64 dst) (.int .i64 0) (.int .u64 (msg : Int)) (.int .i64 off) (.int .i64 len) (.int .i64 total) (.int .i64 num) (.slice none 0 0)
  unfold set10 at hZ kZ
  have hKK := HK3.out.trans' kZ (fun i hi e => by have := HFB.out; omega)
  generalize (((((((((x3.setCell ⟨fb + 1, 0, none⟩ (.int .i64 7)).setCell ⟨fb + 1, 1, none⟩ (.int .i64 src)).setCell ⟨fb + 1, 2, none⟩ (.int .i64 dst)).setCell ⟨fb + 1, 3, none⟩ (.int .i64 0)).setCell ⟨fb + 1, 4, none⟩ (.int .u64 (msg : Int))).setCell ⟨fb + 1, 5, none⟩ (.int .i64 off)).setCell ⟨fb + 1, 6, none⟩ (.int .i64 len)).setCell ⟨fb + 1, 7, none⟩ (.int .i64 total)).setCell ⟨fb + 1, 8, none⟩ (.int .i64 num)).setCell ⟨fb + 1, 9, none⟩ (.slice none 0 0) = z9 at *
  (try simp only [Exit.inBlock, Exit.then])
  refine bodyPost_ret (results_frame rfl _ _ (fb + 1) rfl hZ) rfl ?_
  exact ⟨rfl, hKK⟩
end Go.Proofs.Ytkbncpclfeiofaa.Wr
namespace Go.Proofs.Ytkbncpclfeiofaa.Opn
open Go.ChangeShapes Go.WideShapes Go.RowKit Go.Deep Hp Go.Proofs.Ytkbncpclfeiofaa.End Byt WrM Wr
set_option maxRecDepth 100000 in
theorem bytes_cell {H : Type} {enc : TypeId × Value → H} {W : World} {n : Nat} {v : Value} {y : DataW H × List MemPlace}
    (hf : DataW.trod enc Try.prog W 0 (fun _ => true) true n 23 [v] = some y) : ∃ s cap l, v = .slice s (List.length l) cap ∧ Byts W s cap l := by
  rcases open_ints Try.underlying23 Try.underlying5 (by kernel_rfl) hf with ⟨hcs, hx⟩ | ⟨a', len', cap', zs, hcs, _, hl, hm, hz, hx, hcell, hwz⟩
  · simp at hcs
    subst hcs
    exact ⟨none, 0, [], rfl, ⟨none, 0, rfl, Nat.le_refl _, Or.inl rfl, fun _ => rfl⟩, by omega⟩
  · simp at hcs
    subst hcs
    simp only [if_true] at hz
    unfold maxLen at hm
    have hlen : ((zs.take len').map fun n => UInt8.ofNat n.toNat).length = len' := by rw [List.length_map, List.length_take]; omega
    refine ⟨some a', cap', (zs.take len').map fun n => UInt8.ofNat n.toNat, by rw [hlen], ⟨_, _, rfl, by omega, ?_, fun h => by cases h⟩, by omega⟩
    by_cases h0 : len' = 0
    · left; rw [h0]; rfl
    · right
      obtain ⟨b, off, rfl, hc⟩ := ints_at hcell (by omega)
      refine ⟨b, off, rfl, World.block_lt_of_cell? W _ (hc 0 (by omega)), fun j hj => ?_⟩
      rw [hlen] at hj
      rw [hc j (by omega)]
      have hb := range_u8 hwz j
      have e : zs.getD j 0 = zs[j]'(by omega) := by simp [List.getD, List.getElem?_eq_getElem (show j < zs.length by omega)]
      rw [e]
      rw [List.getD_eq_getElem?_getD] at e
      rw [e] at hb
      unfold bv
      simp only [List.getElem_map, List.getElem_take, UInt8.toNat_ofNat']
      congr 2
      omega
theorem bytes_at {H : Type} {enc : TypeId × Value → H} {W : World} {n j : Nat} {cs : List Value} {ys : List (DataW H × List MemPlace)} {c : Value}
    (hj : cs[j]? = some c) (hy : j < ys.length) (h : DataW.trod enc Try.prog W 0 (fun _ => true) true n 23 ((cs.drop j).take (Try.prog.cellsOf 23)) = ys[j]?) : ∃ s cap l, c = .slice s (List.length l) cap ∧ Byts W s cap l := by
  rw [show Try.prog.cellsOf 23 = 1 by kernel_rfl, (show (cs.drop j).take 1 = [c] from by
    obtain ⟨h, rfl⟩ := List.getElem?_eq_some_iff.1 hj
    rw [List.drop_eq_getElem_cons h, List.take_succ_cons, List.take_zero]), List.getElem?_eq_getElem hy] at h
  exact bytes_cell h
/-- A frame that came in. -/
def FrameIn (w : World) (s : Option Addr) (cap : Nat) (f : Frm) : Prop := Byts w s cap f.data ∧ f.msg < 18446744073709551616
theorem take_one {cs : List Value} {j : Nat} {c : Value} (hj : cs[j]? = some c) : (cs.drop j).take 1 = [c] := by
  obtain ⟨h, rfl⟩ := List.getElem?_eq_some_iff.1 hj
  rw [List.drop_eq_getElem_cons h, List.take_succ_cons, List.take_zero]
theorem int_cell {H : Type} {enc : TypeId × Value → H} {W : World} {n j : Nat} {k : IntKind} {T : TypeId} {cs : List Value} {ys : List (DataW H × List MemPlace)} {c : Value} (ht : Try.prog.underlying T = some (.int k)) (hc : Try.prog.cellsOf T = 1)
    (hj : cs[j]? = some c) (hy : j < ys.length) (h : DataW.trod enc Try.prog W 0 (fun _ => true) true n T ((cs.drop j).take (Try.prog.cellsOf T)) = ys[j]?) : ∃ m, c = .int k m ∧ (Lit.int k m).wf = true := by
  rw [hc, take_one hj, List.getElem?_eq_getElem hy] at h
  obtain ⟨m, e1, _, e3⟩ := DataW.trod_int ht h
  exact ⟨m, by simpa using e1, e3⟩
set_option maxRecDepth 100000 in
set_option maxHeartbeats 4000000 in
theorem frame_of {H : Type} {enc : TypeId × Value → H} {W : World} {base : Nat} {v : Value} {d : DataW H} {p : List MemPlace}
    (hv : Value.okWide Try.prog W .any base 25 v) (h : DataW.Trod enc Try.prog W 0 (fun _ => true) true 25 v d p) : ∃ f s cap, v = fv f s cap ∧ FrameIn W s cap f := by
  obtain ⟨cs, rfl, hsz⟩ := okWide_struct Try.underlying25 hv
  have hsz2 : cs.size = 10 := hsz.trans (by kernel_rfl)
  obtain ⟨l, rfl⟩ : ∃ l : List Value, cs = l.toArray := ⟨cs.toList, rfl⟩
  have hl : l.length = 10 := by simpa using hsz2
  obtain ⟨c0, c1, c2, c3, c4, c5, c6, c7, c8, c9, rfl⟩ : ∃ c0 c1 c2 c3 c4 c5 c6 c7 c8 c9, l = [c0, c1, c2, c3, c4, c5, c6, c7, c8, c9] := by
    rcases l with _ | ⟨c0, _ | ⟨c1, _ | ⟨c2, _ | ⟨c3, _ | ⟨c4, _ | ⟨c5, _ | ⟨c6, _ | ⟨c7, _ | ⟨c8, _ | ⟨c9, _ | ⟨c10, l⟩⟩⟩⟩⟩⟩⟩⟩⟩⟩⟩ <;> first | exact ⟨_, _, _, _, _, _, _, _, _, _, rfl⟩ | (simp at hl)
  obtain ⟨fuel, hf⟩ := h
  obtain ⟨ys, n', _, _, hlen, hyl, hf⟩ := DataW.trod_struct Try.underlying25 hf
  have hyl10 : ys.length = 10 := by simpa using hyl
  have hcs : (Value.agg #[c0, c1, c2, c3, c4, c5, c6, c7, c8, c9]).cells.toList = [c0, c1, c2, c3, c4, c5, c6, c7, c8, c9] := by simp [Value.cells]
  rw [hcs] at hf
  obtain ⟨m0, rfl, b0⟩ := int_cell Try.underlying3 (by kernel_rfl) (j := 0) rfl (by omega) (hf 0 _ rfl)
  obtain ⟨m1, rfl, b1⟩ := int_cell Try.underlying3 (by kernel_rfl) (j := 1) rfl (by omega) (hf 1 _ rfl)
  obtain ⟨m2, rfl, b2⟩ := int_cell Try.underlying3 (by kernel_rfl) (j := 2) rfl (by omega) (hf 2 _ rfl)
  obtain ⟨m3, rfl, b3⟩ := int_cell Try.underlying3 (by kernel_rfl) (j := 3) rfl (by omega) (hf 3 _ rfl)
  obtain ⟨m4, rfl, b4⟩ := int_cell Try.underlying22 (by kernel_rfl) (j := 4) rfl (by omega) (hf 4 _ rfl)
  obtain ⟨m5, rfl, b5⟩ := int_cell Try.underlying3 (by kernel_rfl) (j := 5) rfl (by omega) (hf 5 _ rfl)
  obtain ⟨m6, rfl, b6⟩ := int_cell Try.underlying3 (by kernel_rfl) (j := 6) rfl (by omega) (hf 6 _ rfl)
  obtain ⟨m7, rfl, b7⟩ := int_cell Try.underlying3 (by kernel_rfl) (j := 7) rfl (by omega) (hf 7 _ rfl)
  obtain ⟨m8, rfl, b8⟩ := int_cell Try.underlying3 (by kernel_rfl) (j := 8) rfl (by omega) (hf 8 _ rfl)
  obtain ⟨s, cap, l, rfl, hB⟩ := bytes_at (j := 9) rfl (by omega) (hf 9 _ rfl)
  have b4' := bounds_u64 b4
  obtain ⟨q, rfl⟩ : ∃ q : Nat, m4 = q := ⟨m4.toNat, by omega⟩
  exact ⟨⟨m0, m1, m2, m3, q, m5, m6, m7, m8, l⟩, s, cap, rfl, hB, by show q < _; omega⟩
end Go.Proofs.Ytkbncpclfeiofaa.Opn
