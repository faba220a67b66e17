/- The document's own fabric: Send. Conditions: each theorem's own. -/
import Derived.Test.YtpogpibjkolioaaGreatFpK31
import Derived.Test.YtpogpibjkolioaaGreatFpK32
import Derived.Test.YtpogpibjkolioaaGreatFpK17
import Derived.Deep.RegionHeld3
set_option linter.unusedVariables false
set_option linter.unusedSimpArgs false
namespace Go.Proofs.YtpogpibjkolioaaGreat.Fc
open Go.RowKit Hp QuM Rw Qu Po NumM NumC FbM TpM Tp Go.Proofs.YtpogpibjkolioaaGreat.Fb Rf
attribute [local go_sem ↓] Go.wp_at_zero Go.wp_at_succ
variable {w0 w w' w'' : World} {K : Cf} {N N' : Mo} {X X' : Nat → Prop} {a : Ar} {mb : Nat}
theorem rcheck_any (x : Bx) (w : World) : Calls Tryz.prog 35 #[fv x] w fun e w' => e = .returned (.int .i64 (WrM.chk x.f)) ∧ Kept (fun _ => False) w w' := Wr.checkR_any x.f x.s x.c w
set_option maxRecDepth 100000 in
set_option maxHeartbeats 8000000 in
theorem rb_send_no (h : RB w0 K N X mb w) {J q : Int} {x : Bx} (hn : NoS K J x.f) :
  Calls Tryz.prog 9 #[ptr mb, .int .i64 J, fv x, .int .i64 q] w fun e w' => e = .returned (.tuple #[.int .i64 0, .int .i64 1]) ∧ Kept (fun _ => False) w w' := by
 obtain ⟨a, rfl, h⟩ := h
 have HH := Lib.hid h
 clear h
 have CK := Lib.hid fun (w' : World) => rcheck_any x w'
 obtain ⟨⟨x1, x2, x3, x4, x5, x6, x7, x8, x9, xd⟩, xa, xc, xq⟩ := x
 unfold NoS at hn
 dsimp only at hn
 rcases hn with (h1 | h1) | ⟨h1, h2⟩ | ⟨h1, h2, h3⟩ | ⟨h1, h2, h3, h4⟩
 ·clear CK
  go_enter Tryz.func9, Tryz.ntmps9
  go_upto_region 1 with fail
  have hO := Blk.new w [.int .i64 x1, .int .i64 x2, .int .i64 x3, .int .i64 x4, .int .u64 (x5 : Int), .int .i64 x6, .int .i64 x7, .int .i64 x8, .int .i64 x9, .slice xa xd.length xc] 35
  have hk1 := (Kept.refl (fun _ => False) w).alloc (.cells [.int .i64 x1, .int .i64 x2, .int .i64 x3, .int .i64 x4, .int .u64 (x5 : Int), .int .i64 x6, .int .i64 x7, .int .i64 x8, .int .i64 x9, .slice xa xd.length xc].toArray 35)
  dsimp only [List.toArray] at hO hk1
  have HK := Lib.hid hk1
  generalize w.alloc (.cells #[.int .i64 x1, .int .i64 x2, .int .i64 x3, .int .i64 x4, .int .u64 (x5 : Int), .int .i64 x6, .int .i64 x7, .int .i64 x8, .int .i64 x9, .slice xa xd.length xc] 35) = w1 at *
  generalize w.heap.size = ob at *
  have hlo := hO.lt
  have KS : Hid (∀ w', Kept (fun _ => False) w1 w' → w'.cell? ⟨a.mb, 0, none⟩ = some (ptr a.nb) ∧ w'.cell? ⟨a.nb, 0, none⟩ = some (.int .i64 K.H) ∧ w'.cell? ⟨ob, 0, none⟩ = some (.int .i64 x1) ∧ w'.cell? ⟨ob, 1, none⟩ = some (.int .i64 x2) ∧ w'.cell? ⟨ob, 2, none⟩ = some (.int .i64 x3) ∧ w'.cell? ⟨ob, 3, none⟩ = some (.int .i64 x4) ∧ w'.cell? ⟨ob, 4, none⟩ = some (.int .u64 (x5 : Int)) ∧ w'.cell? ⟨ob, 5, none⟩ = some (.int .i64 x6) ∧ w'.cell? ⟨ob, 6, none⟩ = some (.int .i64 x7) ∧ w'.cell? ⟨ob, 7, none⟩ = some (.int .i64 x8) ∧ w'.cell? ⟨ob, 8, none⟩ = some (.int .i64 x9) ∧ w'.cell? ⟨ob, 9, none⟩ = some (.slice xa xd.length xc)) := by
   have HO := Lib.hid hO
   refine Lib.hid fun w' k => ?_
   have g1 := (HH.out.old (HK.out.trans k)).blk
   have g2 := (HH.out.old (HK.out.trans k)).mv
   have g3 := k.blk HO.out (fun f => f)
   exact ⟨g1.cell rfl, g2.cell rfl, g3.cell rfl, g3.cell rfl, g3.cell rfl, g3.cell rfl, g3.cell rfl, g3.cell rfl, g3.cell rfl, g3.cell rfl, g3.cell rfl, g3.cell rfl⟩
  have hmb := (HH.out.old HK.out).blk.lt
  have hnb := Blk.lt (HH.out.old HK.out).mv
  have Z0 : Hid (Kept (fun _ => False) w1 w1.drew) := Lib.hid (Kept.refl _ w1).drew
  clear hO hk1
  clear hlo hmb hnb
  obtain ⟨k0, k1, -⟩ := KS.out _ (Kept.refl _ _)
  go_quiet (fail)
  go_wp2_with fail
  exact bodyPost_ret (v := .tuple #[.int .i64 0, .int .i64 1]) (by simp [results, Tryz.results9, go_sem]) rfl ⟨rfl, by first | exact HK.out | exact HK.out.drew | exact HK.out.drewN _⟩
 ·by_cases h0 : J < 0
  ·clear CK h1
   go_enter Tryz.func9, Tryz.ntmps9
   go_upto_region 1 with fail
   have hO := Blk.new w [.int .i64 x1, .int .i64 x2, .int .i64 x3, .int .i64 x4, .int .u64 (x5 : Int), .int .i64 x6, .int .i64 x7, .int .i64 x8, .int .i64 x9, .slice xa xd.length xc] 35
   have hk1 := (Kept.refl (fun _ => False) w).alloc (.cells [.int .i64 x1, .int .i64 x2, .int .i64 x3, .int .i64 x4, .int .u64 (x5 : Int), .int .i64 x6, .int .i64 x7, .int .i64 x8, .int .i64 x9, .slice xa xd.length xc].toArray 35)
   dsimp only [List.toArray] at hO hk1
   have HK := Lib.hid hk1
   generalize w.alloc (.cells #[.int .i64 x1, .int .i64 x2, .int .i64 x3, .int .i64 x4, .int .u64 (x5 : Int), .int .i64 x6, .int .i64 x7, .int .i64 x8, .int .i64 x9, .slice xa xd.length xc] 35) = w1 at *
   generalize w.heap.size = ob at *
   have hlo := hO.lt
   have KS : Hid (∀ w', Kept (fun _ => False) w1 w' → w'.cell? ⟨a.mb, 0, none⟩ = some (ptr a.nb) ∧ w'.cell? ⟨a.nb, 0, none⟩ = some (.int .i64 K.H) ∧ w'.cell? ⟨ob, 0, none⟩ = some (.int .i64 x1) ∧ w'.cell? ⟨ob, 1, none⟩ = some (.int .i64 x2) ∧ w'.cell? ⟨ob, 2, none⟩ = some (.int .i64 x3) ∧ w'.cell? ⟨ob, 3, none⟩ = some (.int .i64 x4) ∧ w'.cell? ⟨ob, 4, none⟩ = some (.int .u64 (x5 : Int)) ∧ w'.cell? ⟨ob, 5, none⟩ = some (.int .i64 x6) ∧ w'.cell? ⟨ob, 6, none⟩ = some (.int .i64 x7) ∧ w'.cell? ⟨ob, 7, none⟩ = some (.int .i64 x8) ∧ w'.cell? ⟨ob, 8, none⟩ = some (.int .i64 x9) ∧ w'.cell? ⟨ob, 9, none⟩ = some (.slice xa xd.length xc)) := by
    have HO := Lib.hid hO
    refine Lib.hid fun w' k => ?_
    have g1 := (HH.out.old (HK.out.trans k)).blk
    have g2 := (HH.out.old (HK.out.trans k)).mv
    have g3 := k.blk HO.out (fun f => f)
    exact ⟨g1.cell rfl, g2.cell rfl, g3.cell rfl, g3.cell rfl, g3.cell rfl, g3.cell rfl, g3.cell rfl, g3.cell rfl, g3.cell rfl, g3.cell rfl, g3.cell rfl, g3.cell rfl⟩
   have hmb := (HH.out.old HK.out).blk.lt
   have hnb := Blk.lt (HH.out.old HK.out).mv
   have Z0 : Hid (Kept (fun _ => False) w1 w1.drew) := Lib.hid (Kept.refl _ w1).drew
   clear hO hk1
   clear hlo hmb hnb
   obtain ⟨k0, k1, -⟩ := KS.out _ (Kept.refl _ _)
   go_quiet (fail)
   go_wp2_with fail
   exact bodyPost_ret (v := .tuple #[.int .i64 0, .int .i64 1]) (by simp [results, Tryz.results9, go_sem]) rfl ⟨rfl, by first | exact HK.out | exact HK.out.drew | exact HK.out.drewN _⟩
  have g0 : decide (J < 0) = false := by rw [decide_eq_false_iff_not]; exact h0
  clear CK h0
  go_enter Tryz.func9, Tryz.ntmps9
  go_upto_region 1 with fail
  have hO := Blk.new w [.int .i64 x1, .int .i64 x2, .int .i64 x3, .int .i64 x4, .int .u64 (x5 : Int), .int .i64 x6, .int .i64 x7, .int .i64 x8, .int .i64 x9, .slice xa xd.length xc] 35
  have hk1 := (Kept.refl (fun _ => False) w).alloc (.cells [.int .i64 x1, .int .i64 x2, .int .i64 x3, .int .i64 x4, .int .u64 (x5 : Int), .int .i64 x6, .int .i64 x7, .int .i64 x8, .int .i64 x9, .slice xa xd.length xc].toArray 35)
  dsimp only [List.toArray] at hO hk1
  have HK := Lib.hid hk1
  generalize w.alloc (.cells #[.int .i64 x1, .int .i64 x2, .int .i64 x3, .int .i64 x4, .int .u64 (x5 : Int), .int .i64 x6, .int .i64 x7, .int .i64 x8, .int .i64 x9, .slice xa xd.length xc] 35) = w1 at *
  generalize w.heap.size = ob at *
  have hlo := hO.lt
  have KS : Hid (∀ w', Kept (fun _ => False) w1 w' → w'.cell? ⟨a.mb, 0, none⟩ = some (ptr a.nb) ∧ w'.cell? ⟨a.nb, 0, none⟩ = some (.int .i64 K.H) ∧ w'.cell? ⟨ob, 0, none⟩ = some (.int .i64 x1) ∧ w'.cell? ⟨ob, 1, none⟩ = some (.int .i64 x2) ∧ w'.cell? ⟨ob, 2, none⟩ = some (.int .i64 x3) ∧ w'.cell? ⟨ob, 3, none⟩ = some (.int .i64 x4) ∧ w'.cell? ⟨ob, 4, none⟩ = some (.int .u64 (x5 : Int)) ∧ w'.cell? ⟨ob, 5, none⟩ = some (.int .i64 x6) ∧ w'.cell? ⟨ob, 6, none⟩ = some (.int .i64 x7) ∧ w'.cell? ⟨ob, 7, none⟩ = some (.int .i64 x8) ∧ w'.cell? ⟨ob, 8, none⟩ = some (.int .i64 x9) ∧ w'.cell? ⟨ob, 9, none⟩ = some (.slice xa xd.length xc)) := by
   have HO := Lib.hid hO
   refine Lib.hid fun w' k => ?_
   have g1 := (HH.out.old (HK.out.trans k)).blk
   have g2 := (HH.out.old (HK.out.trans k)).mv
   have g3 := k.blk HO.out (fun f => f)
   exact ⟨g1.cell rfl, g2.cell rfl, g3.cell rfl, g3.cell rfl, g3.cell rfl, g3.cell rfl, g3.cell rfl, g3.cell rfl, g3.cell rfl, g3.cell rfl, g3.cell rfl, g3.cell rfl⟩
  have hmb := (HH.out.old HK.out).blk.lt
  have hnb := Blk.lt (HH.out.old HK.out).mv
  have Z0 : Hid (Kept (fun _ => False) w1 w1.drew) := Lib.hid (Kept.refl _ w1).drew
  clear hO hk1
  clear hlo hmb hnb
  obtain ⟨k0, k1, -⟩ := KS.out _ (Kept.refl _ _)
  go_quiet (fail)
  go_wp2_with fail
  exact bodyPost_ret (v := .tuple #[.int .i64 0, .int .i64 1]) (by simp [results, Tryz.results9, go_sem]) rfl ⟨rfl, by first | exact HK.out | exact HK.out.drew | exact HK.out.drewN _⟩
 ·rw [WrM.chk_no h2] at CK
  have g0 : decide (J < 0) = false := by rw [decide_eq_false_iff_not]; omega
  have g1 : decide (K.H ≤ J) = false := by rw [decide_eq_false_iff_not]; omega
  clear h1 h2
  go_enter Tryz.func9, Tryz.ntmps9
  go_upto_region 1 with fail
  have hO := Blk.new w [.int .i64 x1, .int .i64 x2, .int .i64 x3, .int .i64 x4, .int .u64 (x5 : Int), .int .i64 x6, .int .i64 x7, .int .i64 x8, .int .i64 x9, .slice xa xd.length xc] 35
  have hk1 := (Kept.refl (fun _ => False) w).alloc (.cells [.int .i64 x1, .int .i64 x2, .int .i64 x3, .int .i64 x4, .int .u64 (x5 : Int), .int .i64 x6, .int .i64 x7, .int .i64 x8, .int .i64 x9, .slice xa xd.length xc].toArray 35)
  dsimp only [List.toArray] at hO hk1
  have HK := Lib.hid hk1
  generalize w.alloc (.cells #[.int .i64 x1, .int .i64 x2, .int .i64 x3, .int .i64 x4, .int .u64 (x5 : Int), .int .i64 x6, .int .i64 x7, .int .i64 x8, .int .i64 x9, .slice xa xd.length xc] 35) = w1 at *
  generalize w.heap.size = ob at *
  have hlo := hO.lt
  have KS : Hid (∀ w', Kept (fun _ => False) w1 w' → w'.cell? ⟨a.mb, 0, none⟩ = some (ptr a.nb) ∧ w'.cell? ⟨a.nb, 0, none⟩ = some (.int .i64 K.H) ∧ w'.cell? ⟨ob, 0, none⟩ = some (.int .i64 x1) ∧ w'.cell? ⟨ob, 1, none⟩ = some (.int .i64 x2) ∧ w'.cell? ⟨ob, 2, none⟩ = some (.int .i64 x3) ∧ w'.cell? ⟨ob, 3, none⟩ = some (.int .i64 x4) ∧ w'.cell? ⟨ob, 4, none⟩ = some (.int .u64 (x5 : Int)) ∧ w'.cell? ⟨ob, 5, none⟩ = some (.int .i64 x6) ∧ w'.cell? ⟨ob, 6, none⟩ = some (.int .i64 x7) ∧ w'.cell? ⟨ob, 7, none⟩ = some (.int .i64 x8) ∧ w'.cell? ⟨ob, 8, none⟩ = some (.int .i64 x9) ∧ w'.cell? ⟨ob, 9, none⟩ = some (.slice xa xd.length xc)) := by
   have HO := Lib.hid hO
   refine Lib.hid fun w' k => ?_
   have g1 := (HH.out.old (HK.out.trans k)).blk
   have g2 := (HH.out.old (HK.out.trans k)).mv
   have g3 := k.blk HO.out (fun f => f)
   exact ⟨g1.cell rfl, g2.cell rfl, g3.cell rfl, g3.cell rfl, g3.cell rfl, g3.cell rfl, g3.cell rfl, g3.cell rfl, g3.cell rfl, g3.cell rfl, g3.cell rfl, g3.cell rfl⟩
  have hmb := (HH.out.old HK.out).blk.lt
  have hnb := Blk.lt (HH.out.old HK.out).mv
  have Z0 : Hid (Kept (fun _ => False) w1 w1.drew) := Lib.hid (Kept.refl _ w1).drew
  clear hO hk1
  clear hlo hmb hnb
  refine wp_region_held_drew (S := (fun w' => w'.cell? ⟨a.mb, 0, none⟩ = some (ptr a.nb) ∧ w'.cell? ⟨a.nb, 0, none⟩ = some (.int .i64 K.H) ∧ w'.cell? ⟨ob, 0, none⟩ = some (.int .i64 x1) ∧ w'.cell? ⟨ob, 1, none⟩ = some (.int .i64 x2) ∧ w'.cell? ⟨ob, 2, none⟩ = some (.int .i64 x3) ∧ w'.cell? ⟨ob, 3, none⟩ = some (.int .i64 x4) ∧ w'.cell? ⟨ob, 4, none⟩ = some (.int .u64 (x5 : Int)) ∧ w'.cell? ⟨ob, 5, none⟩ = some (.int .i64 x6) ∧ w'.cell? ⟨ob, 6, none⟩ = some (.int .i64 x7) ∧ w'.cell? ⟨ob, 7, none⟩ = some (.int .i64 x8) ∧ w'.cell? ⟨ob, 8, none⟩ = some (.int .i64 x9) ∧ w'.cell? ⟨ob, 9, none⟩ = some (.slice xa xd.length xc))) (by kernel_rfl) (KS.out _ Z0.out) (fun hHeld => ?_)
  generalize w1.drew = z0 at *
  refine tk 0 ⟨some 10, .move (.tmp 1), 3, "net.go:278", #[], none⟩ (v := ?_) rfl ?_ ?_
  rotate_left 1
  focus (intro w h; (try dsimp only at h); go_simp; try with_reducible rfl)
  try simp only [Act.put, ppA, ppB, ppC]
  refine tk 1 ⟨some 11, .binOp .lss 3 (.tmp 10) (.const (.int .i64 0)) 3, 4, "net.go:278", #[⟨0, .data⟩], none⟩ (v := ?_) rfl ?_ ?_
  rotate_left 1
  focus (intro w h; (try dsimp only at h); go_simp; try with_reducible rfl)
  try simp only [Act.put, ppA, ppB, ppC]
  refine tk 2 ⟨some 12, .move (.tmp 11), 4, "net.go:278", #[⟨1, .data⟩], none⟩ (v := ?_) rfl ?_ ?_
  rotate_left 1
  focus (intro w h; (try dsimp only at h); go_simp; try with_reducible rfl)
  try simp only [Act.put, ppA, ppB, ppC]
  refine tk 3 ⟨some 13, .move (.tmp 1), 3, "net.go:278", #[⟨2, .guard⟩], some (2, false)⟩ (v := ?_) rfl ?_ ?_
  rotate_left 1
  focus (intro w h; (try dsimp only at h); go_simp; try with_reducible rfl)
  try simp only [Act.put, ppA, ppB, ppC]
  refine tk 4 ⟨some 14, .move (.tmp 0), 29, "net.go:278", #[⟨2, .guard⟩], some (2, false)⟩ (v := ?_) rfl ?_ ?_
  rotate_left 1
  focus (intro w h; (try dsimp only at h); go_simp; try with_reducible rfl)
  try simp only [Act.put, ppA, ppB, ppC]
  refine tk 5 ⟨some 15, .nilCheck (.tmp 14), 0, "net.go:278", #[⟨4, .data⟩, ⟨2, .guard⟩], some (2, false)⟩ (v := ?_) rfl ?_ ?_
  rotate_left 1
  focus (intro w h; (try dsimp only at h); go_simp; try with_reducible rfl)
  try simp only [Act.put, ppA, ppB, ppC]
  refine tk 6 ⟨some 16, .fieldAddr 57 (.tmp 15) 0, 0, "net.go:278", #[⟨5, .data⟩, ⟨2, .guard⟩], some (2, false)⟩ (v := ?_) rfl ?_ ?_
  rotate_left 1
  focus (intro w h; (try dsimp only at h); go_simp; try with_reducible rfl)
  try simp only [Act.put, ppA, ppB, ppC]
  refine tk 7 ⟨some 17, .load 53 (.tmp 16), 53, "net.go:278", #[⟨6, .data⟩, ⟨2, .guard⟩], some (2, false)⟩ (v := ?_) rfl ?_ ?_
  rotate_left 1
  focus (intro w h; (try dsimp only at h); go_simp; try with_reducible rfl)
  try simp only [Act.put, ppA, ppB, ppC]
  refine tk 8 ⟨some 18, .nilCheck (.tmp 17), 0, "net.go:278", #[⟨7, .data⟩, ⟨2, .guard⟩], some (2, false)⟩ (v := ?_) rfl ?_ ?_
  rotate_left 1
  focus (intro w h; (try dsimp only at h); go_simp; try with_reducible rfl)
  try simp only [Act.put, ppA, ppB, ppC]
  refine tk 9 ⟨some 19, .fieldAddr 85 (.tmp 18) 0, 0, "net.go:278", #[⟨8, .data⟩, ⟨2, .guard⟩], some (2, false)⟩ (v := ?_) rfl ?_ ?_
  rotate_left 1
  focus (intro w h; (try dsimp only at h); go_simp; try with_reducible rfl)
  try simp only [Act.put, ppA, ppB, ppC]
  refine tk 10 ⟨some 20, .load 3 (.tmp 19), 3, "net.go:278", #[⟨9, .data⟩, ⟨2, .guard⟩], some (2, false)⟩ (v := ?_) rfl ?_ ?_
  rotate_left 1
  focus (intro w h; (try dsimp only at h); go_simp; try with_reducible rfl)
  try simp only [Act.put, ppA, ppB, ppC]
  refine tk 11 ⟨some 21, .binOp .geq 3 (.tmp 13) (.tmp 20) 3, 4, "net.go:278", #[⟨3, .data⟩, ⟨10, .data⟩, ⟨2, .guard⟩], some (2, false)⟩ (v := ?_) rfl ?_ ?_
  rotate_left 1
  focus (intro w h; (try dsimp only at h); go_simp; try with_reducible rfl)
  try simp only [Act.put, ppA, ppB, ppC]
  refine tk 12 ⟨some 22, .pick (.tmp 12) (.const (.bool true)) (.tmp 21), 4, "net.go:278", #[⟨2, .data⟩, ⟨11, .data⟩], none⟩ (v := ?_) rfl ?_ ?_
  rotate_left 1
  focus (intro w h; (try dsimp only at h); go_simp; try with_reducible rfl)
  try simp only [Act.put, ppA, ppB, ppC]
  refine tk 13 ⟨some 23, .move (.tmp 22), 4, "net.go:278", #[⟨12, .data⟩, ⟨2, .chain⟩], none⟩ (v := ?_) rfl ?_ ?_
  rotate_left 1
  focus (intro w h; (try dsimp only at h); go_simp; try with_reducible rfl)
  try simp only [Act.put, ppA, ppB, ppC]
  refine tk 14 ⟨some 24, .load 35 (.tmp 6), 35, "net.go:278", #[⟨13, .guard⟩], some (13, false)⟩ (v := ?_) rfl ?_ ?_
  rotate_left 1
  focus (intro w h; (try dsimp only at h); go_simp; try with_reducible rfl)
  try simp only [Act.put, ppA, ppB, ppC]
  refine wpAnyH_ready (rs := [15]) (by kernel_rfl) (by simp) ?_
  refine AllReadyH.cons (o := ⟨some 25, .call ⟨.value (.func 35), #[.tmp 24], #[35]⟩, 3, "net.go:278", #[⟨14, .data⟩, ⟨13, .chain⟩, ⟨13, .guard⟩], some (13, false)⟩) rfl (fun K hK => ?_) AllReadyH.nil
  go_simp
  with_reducible refine Calls.mono (CK.out _) ?_
  rintro e z1 ⟨rfl, k1⟩
  have Z0 := Lib.hid (Z0.out.trans k1)
  clear k1
  refine hK.out _ _ (KS.out _ Z0.out) (fun hHeld => ?_)
  clear hK K
  try simp only [Act.put, ppA, ppB, ppC]
  refine tk 16 ⟨some 26, .binOp .neq 3 (.tmp 25) (.const (.int .i64 0)) 3, 4, "net.go:278", #[⟨15, .data⟩, ⟨13, .guard⟩], some (13, false)⟩ (v := ?_) rfl ?_ ?_
  rotate_left 1
  focus (intro w h; (try dsimp only at h); go_simp; try with_reducible rfl)
  try simp only [Act.put, ppA, ppB, ppC]
  refine tk 17 ⟨some 27, .pick (.tmp 23) (.const (.bool true)) (.tmp 26), 4, "net.go:278", #[⟨13, .data⟩, ⟨16, .data⟩], none⟩ (v := ?_) rfl ?_ ?_
  rotate_left 1
  focus (intro w h; (try dsimp only at h); go_simp; try with_reducible rfl)
  try simp only [Act.put, ppA, ppB, ppC]
  refine tk 18 ⟨some 28, .move (.tmp 27), 4, "net.go:278", #[⟨17, .data⟩, ⟨15, .chain⟩], none⟩ (v := ?_) rfl ?_ ?_
  rotate_left 1
  focus (intro w h; (try dsimp only at h); go_simp; try with_reducible rfl)
  try simp only [Act.put, ppA, ppB, ppC]
  refine tko 19 ⟨some 29, .fieldAddr 35 (.tmp 6) 2, 0, "net.go:278", #[⟨18, .guard⟩], some (18, false)⟩ rfl ?_
  try simp only [Act.put, ppA, ppB, ppC]
  refine tko 20 ⟨some 30, .load 3 (.tmp 29), 3, "net.go:278", #[⟨19, .data⟩, ⟨18, .guard⟩], some (18, false)⟩ rfl ?_
  try simp only [Act.put, ppA, ppB, ppC]
  refine tko 21 ⟨some 31, .move (.tmp 0), 29, "net.go:278", #[⟨18, .guard⟩], some (18, false)⟩ rfl ?_
  try simp only [Act.put, ppA, ppB, ppC]
  refine tko 22 ⟨some 32, .nilCheck (.tmp 31), 0, "net.go:278", #[⟨21, .data⟩, ⟨18, .guard⟩], some (18, false)⟩ rfl ?_
  try simp only [Act.put, ppA, ppB, ppC]
  refine tko 23 ⟨some 33, .fieldAddr 57 (.tmp 32) 0, 0, "net.go:278", #[⟨22, .data⟩, ⟨18, .guard⟩], some (18, false)⟩ rfl ?_
  try simp only [Act.put, ppA, ppB, ppC]
  refine tko 24 ⟨some 34, .load 53 (.tmp 33), 53, "net.go:278", #[⟨23, .data⟩, ⟨18, .guard⟩], some (18, false)⟩ rfl ?_
  try simp only [Act.put, ppA, ppB, ppC]
  refine tko 25 ⟨some 35, .nilCheck (.tmp 34), 0, "net.go:278", #[⟨24, .data⟩, ⟨18, .guard⟩], some (18, false)⟩ rfl ?_
  try simp only [Act.put, ppA, ppB, ppC]
  refine tko 26 ⟨some 36, .fieldAddr 85 (.tmp 35) 0, 0, "net.go:278", #[⟨25, .data⟩, ⟨18, .guard⟩], some (18, false)⟩ rfl ?_
  try simp only [Act.put, ppA, ppB, ppC]
  refine tko 27 ⟨some 37, .load 3 (.tmp 36), 3, "net.go:278", #[⟨26, .data⟩, ⟨18, .guard⟩], some (18, false)⟩ rfl ?_
  try simp only [Act.put, ppA, ppB, ppC]
  refine tko 28 ⟨some 38, .binOp .geq 3 (.tmp 30) (.tmp 37) 3, 4, "net.go:278", #[⟨20, .data⟩, ⟨27, .data⟩, ⟨18, .guard⟩], some (18, false)⟩ rfl ?_
  try simp only [Act.put, ppA, ppB, ppC]
  refine tk 29 ⟨some 39, .pick (.tmp 28) (.const (.bool true)) (.tmp 38), 4, "net.go:278", #[⟨18, .data⟩, ⟨28, .data⟩], none⟩ (v := ?_) rfl ?_ ?_
  rotate_left 1
  focus (intro w h; (try dsimp only at h); go_simp; try with_reducible rfl)
  try simp only [Act.put, ppA, ppB, ppC]
  refine tk 30 ⟨some 40, .move (.tmp 39), 4, "net.go:278", #[⟨29, .data⟩, ⟨18, .chain⟩], none⟩ (v := ?_) rfl ?_ ?_
  rotate_left 1
  focus (intro w h; (try dsimp only at h); go_simp; try with_reducible rfl)
  try simp only [Act.put, ppA, ppB, ppC]
  refine tko 31 ⟨some 41, .fieldAddr 35 (.tmp 6) 2, 0, "net.go:278", #[⟨30, .guard⟩], some (30, false)⟩ rfl ?_
  try simp only [Act.put, ppA, ppB, ppC]
  refine tko 32 ⟨some 42, .load 3 (.tmp 41), 3, "net.go:278", #[⟨31, .data⟩, ⟨30, .guard⟩], some (30, false)⟩ rfl ?_
  try simp only [Act.put, ppA, ppB, ppC]
  refine tko 33 ⟨some 43, .move (.tmp 1), 3, "net.go:278", #[⟨30, .guard⟩], some (30, false)⟩ rfl ?_
  try simp only [Act.put, ppA, ppB, ppC]
  refine tko 34 ⟨some 44, .binOp .eql 3 (.tmp 42) (.tmp 43) 3, 4, "net.go:278", #[⟨32, .data⟩, ⟨33, .data⟩, ⟨30, .guard⟩], some (30, false)⟩ rfl ?_
  try simp only [Act.put, ppA, ppB, ppC]
  refine tk 35 ⟨some 45, .pick (.tmp 40) (.const (.bool true)) (.tmp 44), 4, "net.go:278", #[⟨30, .data⟩, ⟨34, .data⟩], none⟩ (v := ?_) rfl ?_ ?_
  rotate_left 1
  focus (intro w h; (try dsimp only at h); go_simp; try with_reducible rfl)
  try simp only [Act.put, ppA, ppB, ppC]
  refine wpAnyH_done (by kernel_rfl) ?_ _
  go_wp2_with fail
  exact bodyPost_ret (v := .tuple #[.int .i64 0, .int .i64 1]) (by simp [results, Tryz.results9, go_sem]) rfl ⟨rfl, HK.out.trans Z0.out⟩
 ·rw [WrM.chk_yes h2] at CK
  have g0 : decide (J < 0) = false := by rw [decide_eq_false_iff_not]; omega
  have g1 : decide (K.H ≤ J) = false := by rw [decide_eq_false_iff_not]; omega
  have g3 : K.H ≤ x3 := by
   have := h2.1
   unfold WrM.Fit at this
   dsimp only at this
   omega
  clear h1 h2 h3
  go_enter Tryz.func9, Tryz.ntmps9
  go_upto_region 1 with fail
  have hO := Blk.new w [.int .i64 x1, .int .i64 x2, .int .i64 x3, .int .i64 x4, .int .u64 (x5 : Int), .int .i64 x6, .int .i64 x7, .int .i64 x8, .int .i64 x9, .slice xa xd.length xc] 35
  have hk1 := (Kept.refl (fun _ => False) w).alloc (.cells [.int .i64 x1, .int .i64 x2, .int .i64 x3, .int .i64 x4, .int .u64 (x5 : Int), .int .i64 x6, .int .i64 x7, .int .i64 x8, .int .i64 x9, .slice xa xd.length xc].toArray 35)
  dsimp only [List.toArray] at hO hk1
  have HK := Lib.hid hk1
  generalize w.alloc (.cells #[.int .i64 x1, .int .i64 x2, .int .i64 x3, .int .i64 x4, .int .u64 (x5 : Int), .int .i64 x6, .int .i64 x7, .int .i64 x8, .int .i64 x9, .slice xa xd.length xc] 35) = w1 at *
  generalize w.heap.size = ob at *
  have hlo := hO.lt
  have KS : Hid (∀ w', Kept (fun _ => False) w1 w' → w'.cell? ⟨a.mb, 0, none⟩ = some (ptr a.nb) ∧ w'.cell? ⟨a.nb, 0, none⟩ = some (.int .i64 K.H) ∧ w'.cell? ⟨ob, 0, none⟩ = some (.int .i64 x1) ∧ w'.cell? ⟨ob, 1, none⟩ = some (.int .i64 x2) ∧ w'.cell? ⟨ob, 2, none⟩ = some (.int .i64 x3) ∧ w'.cell? ⟨ob, 3, none⟩ = some (.int .i64 x4) ∧ w'.cell? ⟨ob, 4, none⟩ = some (.int .u64 (x5 : Int)) ∧ w'.cell? ⟨ob, 5, none⟩ = some (.int .i64 x6) ∧ w'.cell? ⟨ob, 6, none⟩ = some (.int .i64 x7) ∧ w'.cell? ⟨ob, 7, none⟩ = some (.int .i64 x8) ∧ w'.cell? ⟨ob, 8, none⟩ = some (.int .i64 x9) ∧ w'.cell? ⟨ob, 9, none⟩ = some (.slice xa xd.length xc)) := by
   have HO := Lib.hid hO
   refine Lib.hid fun w' k => ?_
   have g1 := (HH.out.old (HK.out.trans k)).blk
   have g2 := (HH.out.old (HK.out.trans k)).mv
   have g3 := k.blk HO.out (fun f => f)
   exact ⟨g1.cell rfl, g2.cell rfl, g3.cell rfl, g3.cell rfl, g3.cell rfl, g3.cell rfl, g3.cell rfl, g3.cell rfl, g3.cell rfl, g3.cell rfl, g3.cell rfl, g3.cell rfl⟩
  have hmb := (HH.out.old HK.out).blk.lt
  have hnb := Blk.lt (HH.out.old HK.out).mv
  have Z0 : Hid (Kept (fun _ => False) w1 w1.drew) := Lib.hid (Kept.refl _ w1).drew
  clear hO hk1
  clear hlo hmb hnb
  refine wp_region_held_drew (S := (fun w' => w'.cell? ⟨a.mb, 0, none⟩ = some (ptr a.nb) ∧ w'.cell? ⟨a.nb, 0, none⟩ = some (.int .i64 K.H) ∧ w'.cell? ⟨ob, 0, none⟩ = some (.int .i64 x1) ∧ w'.cell? ⟨ob, 1, none⟩ = some (.int .i64 x2) ∧ w'.cell? ⟨ob, 2, none⟩ = some (.int .i64 x3) ∧ w'.cell? ⟨ob, 3, none⟩ = some (.int .i64 x4) ∧ w'.cell? ⟨ob, 4, none⟩ = some (.int .u64 (x5 : Int)) ∧ w'.cell? ⟨ob, 5, none⟩ = some (.int .i64 x6) ∧ w'.cell? ⟨ob, 6, none⟩ = some (.int .i64 x7) ∧ w'.cell? ⟨ob, 7, none⟩ = some (.int .i64 x8) ∧ w'.cell? ⟨ob, 8, none⟩ = some (.int .i64 x9) ∧ w'.cell? ⟨ob, 9, none⟩ = some (.slice xa xd.length xc))) (by kernel_rfl) (KS.out _ Z0.out) (fun hHeld => ?_)
  generalize w1.drew = z0 at *
  refine tk 0 ⟨some 10, .move (.tmp 1), 3, "net.go:278", #[], none⟩ (v := ?_) rfl ?_ ?_
  rotate_left 1
  focus (intro w h; (try dsimp only at h); go_simp; try with_reducible rfl)
  try simp only [Act.put, ppA, ppB, ppC]
  refine tk 1 ⟨some 11, .binOp .lss 3 (.tmp 10) (.const (.int .i64 0)) 3, 4, "net.go:278", #[⟨0, .data⟩], none⟩ (v := ?_) rfl ?_ ?_
  rotate_left 1
  focus (intro w h; (try dsimp only at h); go_simp; try with_reducible rfl)
  try simp only [Act.put, ppA, ppB, ppC]
  refine tk 2 ⟨some 12, .move (.tmp 11), 4, "net.go:278", #[⟨1, .data⟩], none⟩ (v := ?_) rfl ?_ ?_
  rotate_left 1
  focus (intro w h; (try dsimp only at h); go_simp; try with_reducible rfl)
  try simp only [Act.put, ppA, ppB, ppC]
  refine tk 3 ⟨some 13, .move (.tmp 1), 3, "net.go:278", #[⟨2, .guard⟩], some (2, false)⟩ (v := ?_) rfl ?_ ?_
  rotate_left 1
  focus (intro w h; (try dsimp only at h); go_simp; try with_reducible rfl)
  try simp only [Act.put, ppA, ppB, ppC]
  refine tk 4 ⟨some 14, .move (.tmp 0), 29, "net.go:278", #[⟨2, .guard⟩], some (2, false)⟩ (v := ?_) rfl ?_ ?_
  rotate_left 1
  focus (intro w h; (try dsimp only at h); go_simp; try with_reducible rfl)
  try simp only [Act.put, ppA, ppB, ppC]
  refine tk 5 ⟨some 15, .nilCheck (.tmp 14), 0, "net.go:278", #[⟨4, .data⟩, ⟨2, .guard⟩], some (2, false)⟩ (v := ?_) rfl ?_ ?_
  rotate_left 1
  focus (intro w h; (try dsimp only at h); go_simp; try with_reducible rfl)
  try simp only [Act.put, ppA, ppB, ppC]
  refine tk 6 ⟨some 16, .fieldAddr 57 (.tmp 15) 0, 0, "net.go:278", #[⟨5, .data⟩, ⟨2, .guard⟩], some (2, false)⟩ (v := ?_) rfl ?_ ?_
  rotate_left 1
  focus (intro w h; (try dsimp only at h); go_simp; try with_reducible rfl)
  try simp only [Act.put, ppA, ppB, ppC]
  refine tk 7 ⟨some 17, .load 53 (.tmp 16), 53, "net.go:278", #[⟨6, .data⟩, ⟨2, .guard⟩], some (2, false)⟩ (v := ?_) rfl ?_ ?_
  rotate_left 1
  focus (intro w h; (try dsimp only at h); go_simp; try with_reducible rfl)
  try simp only [Act.put, ppA, ppB, ppC]
  refine tk 8 ⟨some 18, .nilCheck (.tmp 17), 0, "net.go:278", #[⟨7, .data⟩, ⟨2, .guard⟩], some (2, false)⟩ (v := ?_) rfl ?_ ?_
  rotate_left 1
  focus (intro w h; (try dsimp only at h); go_simp; try with_reducible rfl)
  try simp only [Act.put, ppA, ppB, ppC]
  refine tk 9 ⟨some 19, .fieldAddr 85 (.tmp 18) 0, 0, "net.go:278", #[⟨8, .data⟩, ⟨2, .guard⟩], some (2, false)⟩ (v := ?_) rfl ?_ ?_
  rotate_left 1
  focus (intro w h; (try dsimp only at h); go_simp; try with_reducible rfl)
  try simp only [Act.put, ppA, ppB, ppC]
  refine tk 10 ⟨some 20, .load 3 (.tmp 19), 3, "net.go:278", #[⟨9, .data⟩, ⟨2, .guard⟩], some (2, false)⟩ (v := ?_) rfl ?_ ?_
  rotate_left 1
  focus (intro w h; (try dsimp only at h); go_simp; try with_reducible rfl)
  try simp only [Act.put, ppA, ppB, ppC]
  refine tk 11 ⟨some 21, .binOp .geq 3 (.tmp 13) (.tmp 20) 3, 4, "net.go:278", #[⟨3, .data⟩, ⟨10, .data⟩, ⟨2, .guard⟩], some (2, false)⟩ (v := ?_) rfl ?_ ?_
  rotate_left 1
  focus (intro w h; (try dsimp only at h); go_simp; try with_reducible rfl)
  try simp only [Act.put, ppA, ppB, ppC]
  refine tk 12 ⟨some 22, .pick (.tmp 12) (.const (.bool true)) (.tmp 21), 4, "net.go:278", #[⟨2, .data⟩, ⟨11, .data⟩], none⟩ (v := ?_) rfl ?_ ?_
  rotate_left 1
  focus (intro w h; (try dsimp only at h); go_simp; try with_reducible rfl)
  try simp only [Act.put, ppA, ppB, ppC]
  refine tk 13 ⟨some 23, .move (.tmp 22), 4, "net.go:278", #[⟨12, .data⟩, ⟨2, .chain⟩], none⟩ (v := ?_) rfl ?_ ?_
  rotate_left 1
  focus (intro w h; (try dsimp only at h); go_simp; try with_reducible rfl)
  try simp only [Act.put, ppA, ppB, ppC]
  refine tk 14 ⟨some 24, .load 35 (.tmp 6), 35, "net.go:278", #[⟨13, .guard⟩], some (13, false)⟩ (v := ?_) rfl ?_ ?_
  rotate_left 1
  focus (intro w h; (try dsimp only at h); go_simp; try with_reducible rfl)
  try simp only [Act.put, ppA, ppB, ppC]
  refine wpAnyH_ready (rs := [15]) (by kernel_rfl) (by simp) ?_
  refine AllReadyH.cons (o := ⟨some 25, .call ⟨.value (.func 35), #[.tmp 24], #[35]⟩, 3, "net.go:278", #[⟨14, .data⟩, ⟨13, .chain⟩, ⟨13, .guard⟩], some (13, false)⟩) rfl (fun K hK => ?_) AllReadyH.nil
  go_simp
  with_reducible refine Calls.mono (CK.out _) ?_
  rintro e z1 ⟨rfl, k1⟩
  have Z0 := Lib.hid (Z0.out.trans k1)
  clear k1
  refine hK.out _ _ (KS.out _ Z0.out) (fun hHeld => ?_)
  clear hK K
  try simp only [Act.put, ppA, ppB, ppC]
  refine tk 16 ⟨some 26, .binOp .neq 3 (.tmp 25) (.const (.int .i64 0)) 3, 4, "net.go:278", #[⟨15, .data⟩, ⟨13, .guard⟩], some (13, false)⟩ (v := ?_) rfl ?_ ?_
  rotate_left 1
  focus (intro w h; (try dsimp only at h); go_simp; try with_reducible rfl)
  try simp only [Act.put, ppA, ppB, ppC]
  refine tk 17 ⟨some 27, .pick (.tmp 23) (.const (.bool true)) (.tmp 26), 4, "net.go:278", #[⟨13, .data⟩, ⟨16, .data⟩], none⟩ (v := ?_) rfl ?_ ?_
  rotate_left 1
  focus (intro w h; (try dsimp only at h); go_simp; try with_reducible rfl)
  try simp only [Act.put, ppA, ppB, ppC]
  refine tk 18 ⟨some 28, .move (.tmp 27), 4, "net.go:278", #[⟨17, .data⟩, ⟨15, .chain⟩], none⟩ (v := ?_) rfl ?_ ?_
  rotate_left 1
  focus (intro w h; (try dsimp only at h); go_simp; try with_reducible rfl)
  try simp only [Act.put, ppA, ppB, ppC]
  refine tk 19 ⟨some 29, .fieldAddr 35 (.tmp 6) 2, 0, "net.go:278", #[⟨18, .guard⟩], some (18, false)⟩ (v := ?_) rfl ?_ ?_
  rotate_left 1
  focus (intro w h; (try dsimp only at h); go_simp; try with_reducible rfl)
  try simp only [Act.put, ppA, ppB, ppC]
  refine tk 20 ⟨some 30, .load 3 (.tmp 29), 3, "net.go:278", #[⟨19, .data⟩, ⟨18, .guard⟩], some (18, false)⟩ (v := ?_) rfl ?_ ?_
  rotate_left 1
  focus (intro w h; (try dsimp only at h); go_simp; try with_reducible rfl)
  try simp only [Act.put, ppA, ppB, ppC]
  refine tk 21 ⟨some 31, .move (.tmp 0), 29, "net.go:278", #[⟨18, .guard⟩], some (18, false)⟩ (v := ?_) rfl ?_ ?_
  rotate_left 1
  focus (intro w h; (try dsimp only at h); go_simp; try with_reducible rfl)
  try simp only [Act.put, ppA, ppB, ppC]
  refine tk 22 ⟨some 32, .nilCheck (.tmp 31), 0, "net.go:278", #[⟨21, .data⟩, ⟨18, .guard⟩], some (18, false)⟩ (v := ?_) rfl ?_ ?_
  rotate_left 1
  focus (intro w h; (try dsimp only at h); go_simp; try with_reducible rfl)
  try simp only [Act.put, ppA, ppB, ppC]
  refine tk 23 ⟨some 33, .fieldAddr 57 (.tmp 32) 0, 0, "net.go:278", #[⟨22, .data⟩, ⟨18, .guard⟩], some (18, false)⟩ (v := ?_) rfl ?_ ?_
  rotate_left 1
  focus (intro w h; (try dsimp only at h); go_simp; try with_reducible rfl)
  try simp only [Act.put, ppA, ppB, ppC]
  refine tk 24 ⟨some 34, .load 53 (.tmp 33), 53, "net.go:278", #[⟨23, .data⟩, ⟨18, .guard⟩], some (18, false)⟩ (v := ?_) rfl ?_ ?_
  rotate_left 1
  focus (intro w h; (try dsimp only at h); go_simp; try with_reducible rfl)
  try simp only [Act.put, ppA, ppB, ppC]
  refine tk 25 ⟨some 35, .nilCheck (.tmp 34), 0, "net.go:278", #[⟨24, .data⟩, ⟨18, .guard⟩], some (18, false)⟩ (v := ?_) rfl ?_ ?_
  rotate_left 1
  focus (intro w h; (try dsimp only at h); go_simp; try with_reducible rfl)
  try simp only [Act.put, ppA, ppB, ppC]
  refine tk 26 ⟨some 36, .fieldAddr 85 (.tmp 35) 0, 0, "net.go:278", #[⟨25, .data⟩, ⟨18, .guard⟩], some (18, false)⟩ (v := ?_) rfl ?_ ?_
  rotate_left 1
  focus (intro w h; (try dsimp only at h); go_simp; try with_reducible rfl)
  try simp only [Act.put, ppA, ppB, ppC]
  refine tk 27 ⟨some 37, .load 3 (.tmp 36), 3, "net.go:278", #[⟨26, .data⟩, ⟨18, .guard⟩], some (18, false)⟩ (v := ?_) rfl ?_ ?_
  rotate_left 1
  focus (intro w h; (try dsimp only at h); go_simp; try with_reducible rfl)
  try simp only [Act.put, ppA, ppB, ppC]
  refine tk 28 ⟨some 38, .binOp .geq 3 (.tmp 30) (.tmp 37) 3, 4, "net.go:278", #[⟨20, .data⟩, ⟨27, .data⟩, ⟨18, .guard⟩], some (18, false)⟩ (v := ?_) rfl ?_ ?_
  rotate_left 1
  focus (intro w h; (try dsimp only at h); go_simp; try with_reducible rfl)
  try simp only [Act.put, ppA, ppB, ppC]
  refine tk 29 ⟨some 39, .pick (.tmp 28) (.const (.bool true)) (.tmp 38), 4, "net.go:278", #[⟨18, .data⟩, ⟨28, .data⟩], none⟩ (v := ?_) rfl ?_ ?_
  rotate_left 1
  focus (intro w h; (try dsimp only at h); go_simp; try with_reducible rfl)
  try simp only [Act.put, ppA, ppB, ppC]
  refine tk 30 ⟨some 40, .move (.tmp 39), 4, "net.go:278", #[⟨29, .data⟩, ⟨18, .chain⟩], none⟩ (v := ?_) rfl ?_ ?_
  rotate_left 1
  focus (intro w h; (try dsimp only at h); go_simp; try with_reducible rfl)
  try simp only [Act.put, ppA, ppB, ppC]
  refine tko 31 ⟨some 41, .fieldAddr 35 (.tmp 6) 2, 0, "net.go:278", #[⟨30, .guard⟩], some (30, false)⟩ rfl ?_
  try simp only [Act.put, ppA, ppB, ppC]
  refine tko 32 ⟨some 42, .load 3 (.tmp 41), 3, "net.go:278", #[⟨31, .data⟩, ⟨30, .guard⟩], some (30, false)⟩ rfl ?_
  try simp only [Act.put, ppA, ppB, ppC]
  refine tko 33 ⟨some 43, .move (.tmp 1), 3, "net.go:278", #[⟨30, .guard⟩], some (30, false)⟩ rfl ?_
  try simp only [Act.put, ppA, ppB, ppC]
  refine tko 34 ⟨some 44, .binOp .eql 3 (.tmp 42) (.tmp 43) 3, 4, "net.go:278", #[⟨32, .data⟩, ⟨33, .data⟩, ⟨30, .guard⟩], some (30, false)⟩ rfl ?_
  try simp only [Act.put, ppA, ppB, ppC]
  refine tk 35 ⟨some 45, .pick (.tmp 40) (.const (.bool true)) (.tmp 44), 4, "net.go:278", #[⟨30, .data⟩, ⟨34, .data⟩], none⟩ (v := ?_) rfl ?_ ?_
  rotate_left 1
  focus (intro w h; (try dsimp only at h); go_simp; try with_reducible rfl)
  try simp only [Act.put, ppA, ppB, ppC]
  refine wpAnyH_done (by kernel_rfl) ?_ _
  go_wp2_with fail
  exact bodyPost_ret (v := .tuple #[.int .i64 0, .int .i64 1]) (by simp [results, Tryz.results9, go_sem]) rfl ⟨rfl, HK.out.trans Z0.out⟩
 ·subst h4
  rw [WrM.chk_yes h2] at CK
  have g0 : decide (x3 < 0) = false := by rw [decide_eq_false_iff_not]; omega
  have g1 : decide (K.H ≤ x3) = false := by rw [decide_eq_false_iff_not]; omega
  clear h1 h2 h3
  go_enter Tryz.func9, Tryz.ntmps9
  go_upto_region 1 with fail
  have hO := Blk.new w [.int .i64 x1, .int .i64 x2, .int .i64 x3, .int .i64 x4, .int .u64 (x5 : Int), .int .i64 x6, .int .i64 x7, .int .i64 x8, .int .i64 x9, .slice xa xd.length xc] 35
  have hk1 := (Kept.refl (fun _ => False) w).alloc (.cells [.int .i64 x1, .int .i64 x2, .int .i64 x3, .int .i64 x4, .int .u64 (x5 : Int), .int .i64 x6, .int .i64 x7, .int .i64 x8, .int .i64 x9, .slice xa xd.length xc].toArray 35)
  dsimp only [List.toArray] at hO hk1
  have HK := Lib.hid hk1
  generalize w.alloc (.cells #[.int .i64 x1, .int .i64 x2, .int .i64 x3, .int .i64 x4, .int .u64 (x5 : Int), .int .i64 x6, .int .i64 x7, .int .i64 x8, .int .i64 x9, .slice xa xd.length xc] 35) = w1 at *
  generalize w.heap.size = ob at *
  have hlo := hO.lt
  have KS : Hid (∀ w', Kept (fun _ => False) w1 w' → w'.cell? ⟨a.mb, 0, none⟩ = some (ptr a.nb) ∧ w'.cell? ⟨a.nb, 0, none⟩ = some (.int .i64 K.H) ∧ w'.cell? ⟨ob, 0, none⟩ = some (.int .i64 x1) ∧ w'.cell? ⟨ob, 1, none⟩ = some (.int .i64 x2) ∧ w'.cell? ⟨ob, 2, none⟩ = some (.int .i64 x3) ∧ w'.cell? ⟨ob, 3, none⟩ = some (.int .i64 x4) ∧ w'.cell? ⟨ob, 4, none⟩ = some (.int .u64 (x5 : Int)) ∧ w'.cell? ⟨ob, 5, none⟩ = some (.int .i64 x6) ∧ w'.cell? ⟨ob, 6, none⟩ = some (.int .i64 x7) ∧ w'.cell? ⟨ob, 7, none⟩ = some (.int .i64 x8) ∧ w'.cell? ⟨ob, 8, none⟩ = some (.int .i64 x9) ∧ w'.cell? ⟨ob, 9, none⟩ = some (.slice xa xd.length xc)) := by
   have HO := Lib.hid hO
   refine Lib.hid fun w' k => ?_
   have g1 := (HH.out.old (HK.out.trans k)).blk
   have g2 := (HH.out.old (HK.out.trans k)).mv
   have g3 := k.blk HO.out (fun f => f)
   exact ⟨g1.cell rfl, g2.cell rfl, g3.cell rfl, g3.cell rfl, g3.cell rfl, g3.cell rfl, g3.cell rfl, g3.cell rfl, g3.cell rfl, g3.cell rfl, g3.cell rfl, g3.cell rfl⟩
  have hmb := (HH.out.old HK.out).blk.lt
  have hnb := Blk.lt (HH.out.old HK.out).mv
  have Z0 : Hid (Kept (fun _ => False) w1 w1.drew) := Lib.hid (Kept.refl _ w1).drew
  clear hO hk1
  clear hlo hmb hnb
  have CK1 := Lib.hid fun (w' : World) (k : Kept (fun _ => False) w1 w') => (CK.out w').mono fun _ _ ⟨e1, e2⟩ => And.intro e1 (k.trans e2)
  clear CK
  go_region_held3 (fun w' => w'.cell? ⟨a.mb, 0, none⟩ = some (ptr a.nb) ∧ w'.cell? ⟨a.nb, 0, none⟩ = some (.int .i64 K.H) ∧ w'.cell? ⟨ob, 0, none⟩ = some (.int .i64 x1) ∧ w'.cell? ⟨ob, 1, none⟩ = some (.int .i64 x2) ∧ w'.cell? ⟨ob, 2, none⟩ = some (.int .i64 x3) ∧ w'.cell? ⟨ob, 3, none⟩ = some (.int .i64 x4) ∧ w'.cell? ⟨ob, 4, none⟩ = some (.int .u64 (x5 : Int)) ∧ w'.cell? ⟨ob, 5, none⟩ = some (.int .i64 x6) ∧ w'.cell? ⟨ob, 6, none⟩ = some (.int .i64 x7) ∧ w'.cell? ⟨ob, 7, none⟩ = some (.int .i64 x8) ∧ w'.cell? ⟨ob, 8, none⟩ = some (.int .i64 x9) ∧ w'.cell? ⟨ob, 9, none⟩ = some (.slice xa xd.length xc)) ((refine KS.out _ ?_; repeat (first | exact Kept.refl _ _ | assumption | (with_reducible refine Kept.drew ?_)))) ((go_at_call 35; (with_reducible refine Calls.mono (CK1.out _ (by first | exact Kept.refl _ _ | exact (Kept.refl _ _).drew)) ?_); rintro e z1 ⟨rfl, k1⟩))
  have Z0 := Lib.hid k1
  clear k1
  go_wp2_with fail
  exact bodyPost_ret (v := .tuple #[.int .i64 0, .int .i64 1]) (by simp [results, Tryz.results9, go_sem]) rfl ⟨rfl, HK.out.trans Z0.out⟩
set_option maxRecDepth 100000 in
set_option maxHeartbeats 8000000 in
theorem rb_send_yes (h : RB w0 K N X mb w) {p : Nat} {q : Int} {x : Bx} (hy : Rok w0 ⟨x.f, x.s, x.c, q⟩) (hn : (p : Int) < K.H ∧ WrM.Ok x.f ∧ (0 ≤ x.f.dst ∧ x.f.dst < K.H) ∧ x.f.dst ≠ (p : Nat)) (hf : Fw (N.P p)) (hl : 0 ≤ N.L ∧ N.L ≤ 1000000) :
  Calls Tryz.prog 9 #[ptr mb, .int .i64 (p : Nat), fv x, .int .i64 q] w fun e w' => e = .returned (.tuple #[.int .i64 (dD K N p ⟨x.f, x.s, x.c, q⟩).1, .int .i64 0]) ∧ ∃ s c, Rc w0 K X mb w (putM K N p ⟨x.f, x.s, x.c, q⟩ s c) w' := by
 have hp : p < K.n := by
  obtain ⟨a, e, h⟩ := h
  have := h.cf.le; have := h.cf.hn; omega
 have PU := Lib.hid fun (w1 : World) (k : Kept (fun _ => False) w w1) => rb_put (h.old k) hp hy hf hl
 clear hy hf hl hp
 obtain ⟨a, rfl, h⟩ := h
 have HH := Lib.hid h
 clear h
 have CK := Lib.hid fun (w' : World) => rcheck_any x w'
 obtain ⟨⟨x1, x2, x3, x4, x5, x6, x7, x8, x9, xd⟩, xa, xc, xq⟩ := x
 dsimp only at hn
 obtain ⟨h1, h2, h3, h4⟩ := hn
 rw [WrM.chk_yes h2] at CK
 have g0 : decide ((p : Int) < 0) = false := by rw [decide_eq_false_iff_not]; omega
 have g1 : decide (K.H ≤ (p : Int)) = false := by rw [decide_eq_false_iff_not]; omega
 have g3 : decide (K.H ≤ x3) = false := by rw [decide_eq_false_iff_not]; omega
 have g4 : (x3 == (p : Int)) = false := by rw [beq_eq_false_iff_ne]; exact h4
 clear h1 h2 h3
 go_enter Tryz.func9, Tryz.ntmps9
 go_upto_region 1 with fail
 have hO := Blk.new w [.int .i64 x1, .int .i64 x2, .int .i64 x3, .int .i64 x4, .int .u64 (x5 : Int), .int .i64 x6, .int .i64 x7, .int .i64 x8, .int .i64 x9, .slice xa xd.length xc] 35
 have hk1 := (Kept.refl (fun _ => False) w).alloc (.cells [.int .i64 x1, .int .i64 x2, .int .i64 x3, .int .i64 x4, .int .u64 (x5 : Int), .int .i64 x6, .int .i64 x7, .int .i64 x8, .int .i64 x9, .slice xa xd.length xc].toArray 35)
 dsimp only [List.toArray] at hO hk1
 have HK := Lib.hid hk1
 generalize w.alloc (.cells #[.int .i64 x1, .int .i64 x2, .int .i64 x3, .int .i64 x4, .int .u64 (x5 : Int), .int .i64 x6, .int .i64 x7, .int .i64 x8, .int .i64 x9, .slice xa xd.length xc] 35) = w1 at *
 generalize w.heap.size = ob at *
 have hlo := hO.lt
 have KS : Hid (∀ w', Kept (fun _ => False) w1 w' → w'.cell? ⟨a.mb, 0, none⟩ = some (ptr a.nb) ∧ w'.cell? ⟨a.nb, 0, none⟩ = some (.int .i64 K.H) ∧ w'.cell? ⟨ob, 0, none⟩ = some (.int .i64 x1) ∧ w'.cell? ⟨ob, 1, none⟩ = some (.int .i64 x2) ∧ w'.cell? ⟨ob, 2, none⟩ = some (.int .i64 x3) ∧ w'.cell? ⟨ob, 3, none⟩ = some (.int .i64 x4) ∧ w'.cell? ⟨ob, 4, none⟩ = some (.int .u64 (x5 : Int)) ∧ w'.cell? ⟨ob, 5, none⟩ = some (.int .i64 x6) ∧ w'.cell? ⟨ob, 6, none⟩ = some (.int .i64 x7) ∧ w'.cell? ⟨ob, 7, none⟩ = some (.int .i64 x8) ∧ w'.cell? ⟨ob, 8, none⟩ = some (.int .i64 x9) ∧ w'.cell? ⟨ob, 9, none⟩ = some (.slice xa xd.length xc)) := by
  have HO := Lib.hid hO
  refine Lib.hid fun w' k => ?_
  have g1 := (HH.out.old (HK.out.trans k)).blk
  have g2 := (HH.out.old (HK.out.trans k)).mv
  have g3 := k.blk HO.out (fun f => f)
  exact ⟨g1.cell rfl, g2.cell rfl, g3.cell rfl, g3.cell rfl, g3.cell rfl, g3.cell rfl, g3.cell rfl, g3.cell rfl, g3.cell rfl, g3.cell rfl, g3.cell rfl, g3.cell rfl⟩
 have hmb := (HH.out.old HK.out).blk.lt
 have hnb := Blk.lt (HH.out.old HK.out).mv
 have Z0 : Hid (Kept (fun _ => False) w1 w1.drew) := Lib.hid (Kept.refl _ w1).drew
 clear hO hk1
 clear hlo hmb hnb
 have CK1 := Lib.hid fun (w' : World) (k : Kept (fun _ => False) w1 w') => (CK.out w').mono fun _ _ ⟨e1, e2⟩ => And.intro e1 (k.trans e2)
 clear CK
 go_region_held3 (fun w' => w'.cell? ⟨a.mb, 0, none⟩ = some (ptr a.nb) ∧ w'.cell? ⟨a.nb, 0, none⟩ = some (.int .i64 K.H) ∧ w'.cell? ⟨ob, 0, none⟩ = some (.int .i64 x1) ∧ w'.cell? ⟨ob, 1, none⟩ = some (.int .i64 x2) ∧ w'.cell? ⟨ob, 2, none⟩ = some (.int .i64 x3) ∧ w'.cell? ⟨ob, 3, none⟩ = some (.int .i64 x4) ∧ w'.cell? ⟨ob, 4, none⟩ = some (.int .u64 (x5 : Int)) ∧ w'.cell? ⟨ob, 5, none⟩ = some (.int .i64 x6) ∧ w'.cell? ⟨ob, 6, none⟩ = some (.int .i64 x7) ∧ w'.cell? ⟨ob, 7, none⟩ = some (.int .i64 x8) ∧ w'.cell? ⟨ob, 8, none⟩ = some (.int .i64 x9) ∧ w'.cell? ⟨ob, 9, none⟩ = some (.slice xa xd.length xc)) ((refine KS.out _ ?_; repeat (first | exact Kept.refl _ _ | assumption | (with_reducible refine Kept.drew ?_)))) ((go_at_call 35; (with_reducible refine Calls.mono (CK1.out _ (by first | exact Kept.refl _ _ | exact (Kept.refl _ _).drew)) ?_); rintro e z1 ⟨rfl, k1⟩))
 have Z0 := Lib.hid k1
 clear k1
 have hz := KS.out _ Z0.out
 obtain ⟨-, -, e0, e1, e2, e3, e4, e5, e6, e7, e8, e9⟩ := hz
 clear KS
 go_wp2_with fail
 with_reducible refine Calls.mono (PU.out _ (HK.out.trans Z0.out)) ?_
 rintro e w3 ⟨rfl, s, c, hR⟩
 have HR := Lib.hid (Rc.behind (HK.out.trans Z0.out) hR HH.out.since.size HH.out.xb)
 clear hR PU
 go_wp2_with fail
 exact bodyPost_ret (v := .tuple #[.int .i64 (dD K N p ⟨⟨x1, x2, x3, x4, x5, x6, x7, x8, x9, xd⟩, xa, xc, q⟩).1, .int .i64 0]) (by simp [results, Tryz.results9, go_sem]) rfl ⟨rfl, s, c, HR.out⟩
end Go.Proofs.YtpogpibjkolioaaGreat.Fc

