/- Frames: Decode, Trim. Conditions: each theorem's own. -/
import Derived.Test.YtkbncpclfeiofaaWrRead
set_option linter.unusedVariables false
namespace Go.Proofs.Ytkbncpclfeiofaa.Wr
open Go.RowKit Hp WrM Byt
attribute [local go_sem ↓] Go.wp_at_zero Go.wp_at_succ
/-- What Decode answers. -/
def DecP (w : World) (l : List UInt8) (e : Ending) (w' : World) : Prop :=
  (¬ WrM.Good l ∧ Ans w (.tuple #[fv zf none 0, .int .i64 2]) e w') ∨
  (WrM.Good l ∧ ∃ s c, e = .returned (.tuple #[fv (flds l) s c, .int .i64 0]) ∧ Byt.Row w' w.heap.size (.slice s (flds l).data.length c) (flds l).data ∧ Kept (fun _ => False) w w')
set_option maxHeartbeats 4000000 in
set_option maxRecDepth 100000 in
theorem dec_any {w : World} {s : Option Addr} {c : Nat} {l : List UInt8} (h : Byt.Src w (.slice s l.length c) l) (hc : c ≤ 9223372036854775807) (hl : l.length ≤ 1000000) :
    Calls Try.prog 17 #[.slice s l.length c] w (DecP w l) := by
  have HSR := Lib.hid h
  clear h
  go_enter Try.func17, Try.ntmps17
  go_upto_region 1 with fail
  have hA : Blk (w.alloc (.cells #[.int .i64 0, .int .i64 0, .int .i64 0, .int .i64 0, .int .u64 0, .int .i64 0, .int .i64 0, .int .i64 0, .int .i64 0, .slice none 0 0] 25)) w.heap.size [.int .i64 0, .int .i64 0, .int .i64 0, .int .i64 0, .int .u64 0, .int .i64 0, .int .i64 0, .int .i64 0, .int .i64 0, .slice none 0 0] 25 := Blk.new w _ _
  have kA : Kept (fun _ => False) w (w.alloc (.cells #[.int .i64 0, .int .i64 0, .int .i64 0, .int .i64 0, .int .u64 0, .int .i64 0, .int .i64 0, .int .i64 0, .int .i64 0, .slice none 0 0] 25)) := (Kept.refl _ w).alloc _
  have sA : (w.alloc (.cells #[.int .i64 0, .int .i64 0, .int .i64 0, .int .i64 0, .int .u64 0, .int .i64 0, .int .i64 0, .int .i64 0, .int .i64 0, .slice none 0 0] 25)).heap.size = w.heap.size + 1 := by simp
  generalize w.alloc (.cells #[.int .i64 0, .int .i64 0, .int .i64 0, .int .i64 0, .int .u64 0, .int .i64 0, .int .i64 0, .int .i64 0, .int .i64 0, .slice none 0 0] 25) = wa at *
  generalize hra : w.heap.size = ra at *
  have HRA := Lib.hid hra
  have HA := Lib.hid hA
  have HK := Lib.hid kA
  have HSA := Lib.hid sA
  have HD := Lib.hid (read_any (HSR.out.kept kA) hc hl)
  clear hA kA sA hra
  go_wp2_with fail
  with_reducible refine Calls.mono HD.out ?_
  rintro e x1 (⟨hg, rfl, k1⟩ | ⟨hg, s1, c1, rfl, hS1, hc1, k1⟩)
  · have hA1 := k1.blk HA.out (fun f => f)
    have hK1 := HK.out.trans k1
    unfold fv fcs zf
    dsimp only [List.length_nil]
    go_upto_region 2 with fail
    have hA2 := hA1.old (.cells #[.int .i64 0, .int .i64 0, .int .i64 0, .int .i64 0, .int .u64 0, .int .i64 0, .int .i64 0, .int .i64 0, .int .i64 0, .slice none 0 0] 25)
    have hK2 := hK1.alloc (.cells #[.int .i64 0, .int .i64 0, .int .i64 0, .int .i64 0, .int .u64 0, .int .i64 0, .int .i64 0, .int .i64 0, .int .i64 0, .slice none 0 0] 25)
    generalize x1.alloc (.cells #[.int .i64 0, .int .i64 0, .int .i64 0, .int .i64 0, .int .u64 0, .int .i64 0, .int .i64 0, .int .i64 0, .int .i64 0, .slice none 0 0] 25) = wz at *
    generalize x1.heap.size = fb at *
    have HAZ := Lib.hid hA2
    have HKZ := Lib.hid hK2
    have u0 := hA2.cell (o := 0) rfl
    have v0 := hA2.frozen 0
    have u1 := hA2.cell (o := 1) rfl
    have v1 := hA2.frozen 1
    have u2 := hA2.cell (o := 2) rfl
    have v2 := hA2.frozen 2
    have u3 := hA2.cell (o := 3) rfl
    have v3 := hA2.frozen 3
    have u4 := hA2.cell (o := 4) rfl
    have v4 := hA2.frozen 4
    have u5 := hA2.cell (o := 5) rfl
    have v5 := hA2.frozen 5
    have u6 := hA2.cell (o := 6) rfl
    have v6 := hA2.frozen 6
    have u7 := hA2.cell (o := 7) rfl
    have v7 := hA2.frozen 7
    have u8 := hA2.cell (o := 8) rfl
    have v8 := hA2.frozen 8
    have u9 := hA2.cell (o := 9) rfl
    have v9 := hA2.frozen 9
    clear hA1 hK1 hA2 hK2 k1
    go_wp2_with fail
    have hZ := blk10 HAZ.out (.int .i64 0) (.int .i64 0) (.int .i64 0) (.int .i64 0) (.int .u64 0) (.int .i64 0) (.int .i64 0) (.int .i64 0) (.int .i64 0) (.slice none 0 0)
    have kZ := kept10 wz ra (.int .i64 0) (.int .i64 0) (.int .i64 0) (.int .i64 0) (.int .u64 0) (.int .i64 0) (.int .i64 0) (.int .i64 0) (.int .i64 0) (.slice none 0 0)
    unfold set10 at hZ kZ
    have hKK := HKZ.out.trans' kZ (fun i hi e => by have := HRA.out; omega)
    generalize (((((((((wz.setCell ⟨ra, 0, none⟩ (.int .i64 0)).setCell ⟨ra, 1, none⟩ (.int .i64 0)).setCell ⟨ra, 2, none⟩ (.int .i64 0)).setCell ⟨ra, 3, none⟩ (.int .i64 0)).setCell ⟨ra, 4, none⟩ (.int .u64 0)).setCell ⟨ra, 5, none⟩ (.int .i64 0)).setCell ⟨ra, 6, none⟩ (.int .i64 0)).setCell ⟨ra, 7, none⟩ (.int .i64 0)).setCell ⟨ra, 8, none⟩ (.int .i64 0)).setCell ⟨ra, 9, none⟩ (.slice none 0 0) = z9 at *
    (try simp only [Exit.inBlock, Exit.then])
    refine bodyPost_ret (results_frame2 rfl _ _ ra rfl hZ) rfl ?_
    exact Or.inl ⟨hg, rfl, hKK⟩
  · have hA1 := k1.blk HA.out (fun f => f)
    have hK1 := HK.out.trans k1
    have hdl : (flds l).data.length ≤ 1000000 := by show (l.drop 26).length ≤ _; rw [List.length_drop]; omega
    generalize hF : flds l = F9 at *
    obtain ⟨kind, src, dst, prio, msg, off, len, total, num, data⟩ := F9
    unfold fv fcs at *
    dsimp only at *
    have HFF := Lib.hid hF
    have HDL := Lib.hid hdl
    clear hF hdl
    go_upto_region 2 with fail
    have hA2 := hA1.old (.cells #[.int .i64 kind, .int .i64 src, .int .i64 dst, .int .i64 prio, .int .u64 (msg : Int), .int .i64 off, .int .i64 len, .int .i64 total, .int .i64 num, .slice s1 data.length c1] 25)
    have hK2 := hK1.alloc (.cells #[.int .i64 kind, .int .i64 src, .int .i64 dst, .int .i64 prio, .int .u64 (msg : Int), .int .i64 off, .int .i64 len, .int .i64 total, .int .i64 num, .slice s1 data.length c1] 25)
    have hF2 : Blk (x1.alloc (.cells #[.int .i64 kind, .int .i64 src, .int .i64 dst, .int .i64 prio, .int .u64 (msg : Int), .int .i64 off, .int .i64 len, .int .i64 total, .int .i64 num, .slice s1 data.length c1] 25)) x1.heap.size [.int .i64 kind, .int .i64 src, .int .i64 dst, .int .i64 prio, .int .u64 (msg : Int), .int .i64 off, .int .i64 len, .int .i64 total, .int .i64 num, .slice s1 data.length c1] 25 := Blk.new x1 _ _
    have hS2 := hS1.kept ((Kept.refl (fun _ => False) x1).alloc (.cells #[.int .i64 kind, .int .i64 src, .int .i64 dst, .int .i64 prio, .int .u64 (msg : Int), .int .i64 off, .int .i64 len, .int .i64 total, .int .i64 num, .slice s1 data.length c1] 25))
    have hfb : ra < x1.heap.size := hA1.lt
    have hsz : (x1.alloc (.cells #[.int .i64 kind, .int .i64 src, .int .i64 dst, .int .i64 prio, .int .u64 (msg : Int), .int .i64 off, .int .i64 len, .int .i64 total, .int .i64 num, .slice s1 data.length c1] 25)).heap.size = x1.heap.size + 1 := by simp
    generalize x1.alloc (.cells #[.int .i64 kind, .int .i64 src, .int .i64 dst, .int .i64 prio, .int .u64 (msg : Int), .int .i64 off, .int .i64 len, .int .i64 total, .int .i64 num, .slice s1 data.length c1] 25) = x2 at *
    generalize x1.heap.size = fb at *
    have e9 := hF2.cell (o := 9) rfl
    have f9 := hF2.frozen 9
    have hlt2 : fb < x2.heap.size := hF2.lt
    have HA := Lib.hid hA2
    have HK := Lib.hid hK2
    have HF := Lib.hid hF2
    have HS := Lib.hid hS2
    have HX := Lib.hid (show x2.heap.size ≤ x2.heap.size from Nat.le_refl _)
    have HRN := Lib.hid (Byt.row_nil x2 x2.heap.size)
    have HN1 : Hid (([] : List UInt8).length + data.length ≤ 1000000000) := Lib.hid (by have := HDL.out; simp; omega)
    clear hA1 hK1 k1 hA2 hK2 hF2 hS2 hS1 hsz
    go_upto_region 4 with fail
    go_upto_region 5 with (at_builtin; (refine Byt.wpList_app rfl _ _ rfl x2.heap.size (v := .slice none 0 0) rfl HRN.out rfl HS.out HN1.out HX.out ?_); intro v' x3 hP; rw [List.nil_append] at hP; obtain ⟨s3, c3, rfl, _⟩ := hP.row.slice; have hcc := (hP.kept.blk HF.out (fun e => by cases e)).cell (o := 9) rfl; have hcf := (hP.kept.blk HF.out (fun e => by cases e)).frozen 9; clear e9 f9)
    have hF3 := hP.kept.blk HF.out (fun e => by cases e)
    have hA3 := hP.kept.blk HA.out (fun e => by cases e)
    have hK3 := HK.out.trans' hP.kept (fun i hi e => by cases e)
    have hR3 := hP.row
    have hF4 := hF3.set 9 (.slice s3 data.length c3)
    have hA4 := hA3.far (p := fb) (by omega) 9 (.slice s3 data.length c3)
    have hK4 := hK3.set (b := fb) (fun hi => by have := HRA.out; omega) 9 (.slice s3 data.length c3)
    have hR4 := hR3.kept (Kept.one x3 fb 9 (.slice s3 data.length c3)) (fun g hg e => by have := (hR3.lt g hg).1; omega)
    dsimp only [List.set] at hF4
    generalize x3.setCell ⟨fb, 9, none⟩ (.slice s3 data.length c3) = wz at *
    have HAZ := Lib.hid hA4
    have HKZ := Lib.hid hK4
    have HRZ := Lib.hid hR4
    clear hP hF3 hA3 hK3 hR3 hcc hcf hK4 hR4
    have u0 := hA4.cell (o := 0) rfl
    have v0 := hA4.frozen 0
    have w0 := hF4.cell (o := 0) rfl
    have u1 := hA4.cell (o := 1) rfl
    have v1 := hA4.frozen 1
    have w1 := hF4.cell (o := 1) rfl
    have u2 := hA4.cell (o := 2) rfl
    have v2 := hA4.frozen 2
    have w2 := hF4.cell (o := 2) rfl
    have u3 := hA4.cell (o := 3) rfl
    have v3 := hA4.frozen 3
    have w3 := hF4.cell (o := 3) rfl
    have u4 := hA4.cell (o := 4) rfl
    have v4 := hA4.frozen 4
    have w4 := hF4.cell (o := 4) rfl
    have u5 := hA4.cell (o := 5) rfl
    have v5 := hA4.frozen 5
    have w5 := hF4.cell (o := 5) rfl
    have u6 := hA4.cell (o := 6) rfl
    have v6 := hA4.frozen 6
    have w6 := hF4.cell (o := 6) rfl
    have u7 := hA4.cell (o := 7) rfl
    have v7 := hA4.frozen 7
    have w7 := hF4.cell (o := 7) rfl
    have u8 := hA4.cell (o := 8) rfl
    have v8 := hA4.frozen 8
    have w8 := hF4.cell (o := 8) rfl
    have u9 := hA4.cell (o := 9) rfl
    have v9 := hA4.frozen 9
    have w9 := hF4.cell (o := 9) rfl
    clear hA4 hF4
    go_wp2_with fail
    have hZ := blk10 HAZ.out (.int .i64 kind) (.int .i64 src) (.int .i64 dst) (.int .i64 prio) (.int .u64 (msg : Int)) (.int .i64 off) (.int .i64 len) (.int .i64 total) (.int .i64 num) (.slice s3 data.length c3)
    have kZ := kept10 wz ra (.int .i64 kind) (.int .i64 src) (.int .i64 dst) (.int .i64 prio) (.int .u64 (msg : Int)) (.int .i64 off) (.int .i64 len) (.int .i64 total) (.int .i64 num) (.slice s3 data.length c3)
    unfold set10 at hZ kZ
    have hKK := HKZ.out.trans' kZ (fun i hi e => by have := HRA.out; omega)
    have hRR := HRZ.out.kept kZ (fun g hg e => by have := (HRZ.out.lt g hg).1; omega)
    generalize (((((((((wz.setCell ⟨ra, 0, none⟩ (.int .i64 kind)).setCell ⟨ra, 1, none⟩ (.int .i64 src)).setCell ⟨ra, 2, none⟩ (.int .i64 dst)).setCell ⟨ra, 3, none⟩ (.int .i64 prio)).setCell ⟨ra, 4, none⟩ (.int .u64 (msg : Int))).setCell ⟨ra, 5, none⟩ (.int .i64 off)).setCell ⟨ra, 6, none⟩ (.int .i64 len)).setCell ⟨ra, 7, none⟩ (.int .i64 total)).setCell ⟨ra, 8, none⟩ (.int .i64 num)).setCell ⟨ra, 9, none⟩ (.slice s3 data.length c3) = z9 at *
    (try simp only [Exit.inBlock, Exit.then])
    refine bodyPost_ret (results_frame2 rfl _ _ ra rfl hZ) rfl ?_
    unfold DecP
    rw [HFF.out]
    exact Or.inr ⟨hg, s3, c3, rfl, hRR.base (fun g hg => by have := (hRR.lt g hg).1; have := HRA.out; omega), hKK⟩
/-- What Trim answers. -/
def TrimP (w : World) (l : List UInt8) (e : Ending) (w' : World) : Prop :=
  (¬ (WrM.Good l ∧ (flds l).kind = 1) ∧ Ans w (.tuple #[.slice none 0 0, .bool false]) e w') ∨
  (WrM.Good l ∧ (flds l).kind = 1 ∧ ∃ v, e = .returned (.tuple #[v, .bool true]) ∧ Byt.Row w' w.heap.size v (enc (WrM.trimmed (flds l))) ∧ Kept (fun _ => False) w w')
set_option maxHeartbeats 4000000 in
set_option maxRecDepth 100000 in
theorem trim_any {w : World} {s : Option Addr} {c : Nat} {l : List UInt8} (h : Byt.Src w (.slice s l.length c) l) (hc : c ≤ 9223372036854775807) (hl : l.length ≤ 1000000) :
    Calls Try.prog 21 #[.slice s l.length c] w (TrimP w l) := by
  have HD := Lib.hid (read_any h hc hl)
  clear h
  go_enter Try.func21, Try.ntmps21
  go_wp2_with fail
  with_reducible refine Calls.mono HD.out ?_
  rintro e x1 (⟨hg, rfl, k1⟩ | ⟨hg, s1, c1, rfl, hS1, hc1, k1⟩)
  · unfold fv fcs zf
    dsimp only [List.length_nil]
    go_wp2_with fail
    go_ret2
    exact Or.inl ⟨fun g => hg g.1, rfl, k1.alloc _⟩
  · have hok := hg.2.2
    unfold TrimP
    generalize hF : flds l = F9 at *
    by_cases hk : F9.kind = 1
    · have hT := ok_trimmed hok hk
      have hE := fun w' => enc_any (f := WrM.trimmed F9) (s := none) (c := 0) (w := w') ⟨none, 0, rfl, Nat.le_refl _, Or.inl rfl, fun _ => rfl⟩
      have HT := Lib.hid hT
      have HFF := Lib.hid hF
      generalize hft : WrM.trimmed F9 = TF at *
      have hft' := hft
      obtain ⟨kind, src, dst, prio, msg, off, len, total, num, data⟩ := F9
      unfold WrM.trimmed at hft
      dsimp only at hft hk
      subst hk
      subst hft
      unfold fv fcs at *
      dsimp only [List.length_nil] at *
      have HE := Lib.hid hE
      clear hF hok hT hE hft'
      go_upto_region 2 with fail
      have hF2 : Blk (x1.alloc (.cells #[.int .i64 1, .int .i64 src, .int .i64 dst, .int .i64 prio, .int .u64 (msg : Int), .int .i64 off, .int .i64 len, .int .i64 total, .int .i64 num, .slice s1 data.length c1] 25)) x1.heap.size [.int .i64 1, .int .i64 src, .int .i64 dst, .int .i64 prio, .int .u64 (msg : Int), .int .i64 off, .int .i64 len, .int .i64 total, .int .i64 num, .slice s1 data.length c1] 25 := Blk.new x1 _ _
      have k2 : Kept (fun _ => False) x1 (x1.alloc (.cells #[.int .i64 1, .int .i64 src, .int .i64 dst, .int .i64 prio, .int .u64 (msg : Int), .int .i64 off, .int .i64 len, .int .i64 total, .int .i64 num, .slice s1 data.length c1] 25)) := (Kept.refl _ x1).alloc _
      generalize x1.alloc (.cells #[.int .i64 1, .int .i64 src, .int .i64 dst, .int .i64 prio, .int .u64 (msg : Int), .int .i64 off, .int .i64 len, .int .i64 total, .int .i64 num, .slice s1 data.length c1] 25) = x2 at *
      have hsz : x1.heap.size < x2.heap.size := hF2.lt
      generalize hfb : x1.heap.size = fb at *
      have HFB := Lib.hid hfb
      have e0 := hF2.cell (o := 0) rfl
      have e3 := hF2.cell (o := 3) rfl
      have e9 := hF2.cell (o := 9) rfl
      have f0 := hF2.frozen 0
      have f3 := hF2.frozen 3
      have f9 := hF2.frozen 9
      have hF3 := ((hF2.set 0 (.int .i64 7)).set 3 (.int .i64 0)).set 9 (.slice none 0 0)
      dsimp only [List.set] at hF3
      have hK3 := (((k1.trans k2).set (b := fb) (fun hi => by have := k1.size; omega) 0 (.int .i64 7)).set (b := fb) (fun hi => by have := k1.size; omega) 3 (.int .i64 0)).set (b := fb) (fun hi => by have := k1.size; omega) 9 (.slice none 0 0)
      have HF3 := Lib.hid hF3
      have HK3 := Lib.hid hK3
      clear hF2 k1 k2 hsz hfb hF3 hK3
      go_upto_region 5 with fail
      have hF3 := HF3.out
      have hK3 := HK3.out
      clear HF3 HK3
      generalize ((x2.setCell ⟨fb, 0, none⟩ (.int .i64 7)).setCell ⟨fb, 3, none⟩ (.int .i64 0)).setCell ⟨fb, 9, none⟩ (.slice none 0 0) = x3 at *
      clear e0 e3 e9 f0 f3 f9
      have HK := Lib.hid hK3
      have e0 := hF3.cell (o := 0) rfl
      have e1 := hF3.cell (o := 1) rfl
      have e2 := hF3.cell (o := 2) rfl
      have e3 := hF3.cell (o := 3) rfl
      have e4 := hF3.cell (o := 4) rfl
      have e5 := hF3.cell (o := 5) rfl
      have e6 := hF3.cell (o := 6) rfl
      have e7 := hF3.cell (o := 7) rfl
      have e8 := hF3.cell (o := 8) rfl
      have e9 := hF3.cell (o := 9) rfl
      clear hF3 hK3
      go_wp2_with fail
      with_reducible refine Calls.mono (HE.out _) ?_
      rintro e x4 (⟨hn, _⟩ | ⟨_, v, rfl, hR, k4⟩)
      · exact absurd HT.out hn
      go_wp2_with fail
      go_ret2
      unfold TrimP
      rw [HFF.out]
      exact Or.inr ⟨hg, rfl, v, rfl, hR.base (fun g hg => Nat.le_trans HK.out.size (hR.lt g hg).1), HK.out.trans k4⟩
    · have hk1 : (F9.kind != 1) = true := by rw [bne_iff_ne]; exact hk
      have HNK : Hid (¬ (flds l).kind = 1) := Lib.hid (by rw [hF]; exact hk)
      clear hk
      unfold fv fcs at *
      dsimp only at *
      obtain ⟨kind, src, dst, prio, msg, off, len, total, num, data⟩ := F9
      dsimp only at *
      clear hF hok
      go_upto_region 2 with fail
      have hF2 : Blk (x1.alloc (.cells #[.int .i64 kind, .int .i64 src, .int .i64 dst, .int .i64 prio, .int .u64 (msg : Int), .int .i64 off, .int .i64 len, .int .i64 total, .int .i64 num, .slice s1 data.length c1] 25)) x1.heap.size [.int .i64 kind, .int .i64 src, .int .i64 dst, .int .i64 prio, .int .u64 (msg : Int), .int .i64 off, .int .i64 len, .int .i64 total, .int .i64 num, .slice s1 data.length c1] 25 := Blk.new x1 _ _
      have k2 : Kept (fun _ => False) x1 (x1.alloc (.cells #[.int .i64 kind, .int .i64 src, .int .i64 dst, .int .i64 prio, .int .u64 (msg : Int), .int .i64 off, .int .i64 len, .int .i64 total, .int .i64 num, .slice s1 data.length c1] 25)) := (Kept.refl _ x1).alloc _
      generalize x1.alloc (.cells #[.int .i64 kind, .int .i64 src, .int .i64 dst, .int .i64 prio, .int .u64 (msg : Int), .int .i64 off, .int .i64 len, .int .i64 total, .int .i64 num, .slice s1 data.length c1] 25) = x2 at *
      generalize x1.heap.size = fb at *
      have e0 := hF2.cell (o := 0) rfl
      clear hF2
      go_wp2_with fail
      go_ret2
      exact Or.inl ⟨fun g => HNK.out g.2, rfl, k1.trans k2⟩
end Go.Proofs.Ytkbncpclfeiofaa.Wr
