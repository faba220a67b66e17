/- Proved: WireSame holds for whatever two frames: they are told to be the same or not, field by field, whichever is asked first. Conditions: none. -/
import Derived.Test.YtkbncpclfeiofaaRows
import Derived.Test.YtkbncpclfeiofaaEnd
import Derived.Test.YtkbncpclfeiofaaInts
import Derived.WalkKit
import Derived.ProofKit
import Derived.OpenShut
import Derived.Test.YtkbncpclfeiofaaWrLaw
set_option linter.unusedVariables false
namespace Go.Proofs.Ytkbncpclfeiofaa.wireSame
open Go.ChangeShapes Go.WideShapes Go.ChangeAt Go.RowKit Go.Proofs.Ytkbncpclfeiofaa.Hp Go.Proofs.Ytkbncpclfeiofaa.End
open Opn WrM Byt Wr
theorem own : ownKnob Try.prog.godebug = none := by kernel_rfl
attribute [local go_sem ↓] Go.wp_at_zero Go.wp_at_succ
set_option maxRecDepth 100000 in
set_option maxHeartbeats 16000000 in
theorem early (a0 : Frm) (s0 : Option Addr) (cap0 : Nat) (a1 : Frm) (s1 : Option Addr) (cap1 : Nat) (w : World) (w0 : FrameIn w s0 cap0 a0) (w1 : FrameIn w s1 cap1 a1) (h : 2000 < a0.data.length + a1.data.length) :
    Calls Try.prog 8 #[fv a0 s0 cap0, fv a1 s1 cap1] w fun e w' => e = .returned (.bool true) ∧ Old w w' := by
  have HC := Lib.hid fun w => awake_any w
  have HA := Lib.hid w0.1.1
  have HG := Lib.hid w1.1.1
  have hla : a0.data.length ≤ 9223372036854775807 := by obtain ⟨_, _, e, hc, _⟩ := w0.1.1; cases e; have := w0.1.2; omega
  have hlg : a1.data.length ≤ 9223372036854775807 := by obtain ⟨_, _, e, hc, _⟩ := w1.1.1; cases e; have := w1.1.2; omega
  have C1 := Lib.hid fun (w' : World) (k : Kept (fun _ => False) w w') => same_any (HA.out.kept k) (HG.out.kept k)
  have C2 := Lib.hid fun (w' : World) (k : Kept (fun _ => False) w w') => sameR_any (HA.out.kept k) (HG.out.kept k)
  have C3 := fun (w' : World) (k : Kept (fun _ => False) w w') => same_any (HG.out.kept k) (HA.out.kept k)
  rw [same_comm a1 a0] at C3
  have C3 := Lib.hid C3
  generalize same a0 a1 = b at *
  clear w0 w1
  obtain ⟨kind, src, dst, prio, msg, off, len, total, num, data⟩ := a0
  obtain ⟨gkind, gsrc, gdst, gprio, gmsg, goff, glen, gtotal, gnum, gdata⟩ := a1
  unfold fv fcs at *
  dsimp only at *
  go_enter Try.func8, Try.ntmps8
  go_upto_region 1 with fail
  have hA : Blk (w.alloc (.cells #[.int .i64 kind, .int .i64 src, .int .i64 dst, .int .i64 prio, .int .u64 (msg : Int), .int .i64 off, .int .i64 len, .int .i64 total, .int .i64 num, .slice s0 data.length cap0] 25)) w.heap.size [.int .i64 kind, .int .i64 src, .int .i64 dst, .int .i64 prio, .int .u64 (msg : Int), .int .i64 off, .int .i64 len, .int .i64 total, .int .i64 num, .slice s0 data.length cap0] 25 := Blk.new w _ _
  have kA : Kept (fun _ => False) w (w.alloc (.cells #[.int .i64 kind, .int .i64 src, .int .i64 dst, .int .i64 prio, .int .u64 (msg : Int), .int .i64 off, .int .i64 len, .int .i64 total, .int .i64 num, .slice s0 data.length cap0] 25)) := (Kept.refl _ w).alloc _
  have sA : (w.alloc (.cells #[.int .i64 kind, .int .i64 src, .int .i64 dst, .int .i64 prio, .int .u64 (msg : Int), .int .i64 off, .int .i64 len, .int .i64 total, .int .i64 num, .slice s0 data.length cap0] 25)).heap.size = w.heap.size + 1 := by simp
  generalize w.alloc (.cells #[.int .i64 kind, .int .i64 src, .int .i64 dst, .int .i64 prio, .int .u64 (msg : Int), .int .i64 off, .int .i64 len, .int .i64 total, .int .i64 num, .slice s0 data.length cap0] 25) = wa at *
  try rw [sA]
  have hB : Blk (wa.alloc (.cells #[.int .i64 gkind, .int .i64 gsrc, .int .i64 gdst, .int .i64 gprio, .int .u64 (gmsg : Int), .int .i64 goff, .int .i64 glen, .int .i64 gtotal, .int .i64 gnum, .slice s1 gdata.length cap1] 25)) wa.heap.size [.int .i64 gkind, .int .i64 gsrc, .int .i64 gdst, .int .i64 gprio, .int .u64 (gmsg : Int), .int .i64 goff, .int .i64 glen, .int .i64 gtotal, .int .i64 gnum, .slice s1 gdata.length cap1] 25 := Blk.new wa _ _
  rw [sA] at hB
  have hA2 := hA.old (.cells #[.int .i64 gkind, .int .i64 gsrc, .int .i64 gdst, .int .i64 gprio, .int .u64 (gmsg : Int), .int .i64 goff, .int .i64 glen, .int .i64 gtotal, .int .i64 gnum, .slice s1 gdata.length cap1] 25)
  have kB := kA.alloc (.cells #[.int .i64 gkind, .int .i64 gsrc, .int .i64 gdst, .int .i64 gprio, .int .u64 (gmsg : Int), .int .i64 goff, .int .i64 glen, .int .i64 gtotal, .int .i64 gnum, .slice s1 gdata.length cap1] 25)
  generalize wa.alloc (.cells #[.int .i64 gkind, .int .i64 gsrc, .int .i64 gdst, .int .i64 gprio, .int .u64 (gmsg : Int), .int .i64 goff, .int .i64 glen, .int .i64 gtotal, .int .i64 gnum, .slice s1 gdata.length cap1] 25) = wb at *
  have KB := Lib.hid kB
  generalize hra : w.heap.size = ra at *
  clear hra
  have d9 := hA2.cell (o := 9) rfl
  have e9 := hB.cell (o := 9) rfl
  have HA2 := Lib.hid hA2
  have HB := Lib.hid hB
  have SM := Lib.hid fun (w' : World) (hb : Blk w' wb.heap.size [.int .i64 (gdata.length : Int)] 3) => sum_one (data.length : Int) (gdata.length : Int) wb.heap.size w' hb (by omega) (by omega) (by omega) (by omega)
  clear hA kA sA hB hA2 kB
  have hnb := Blk.new wb [.int .i64 (gdata.length : Int)] 3
  dsimp only [List.toArray] at hnb
  have HNB := Lib.hid hnb
  clear hnb
  go_wp2_with (go_at_call 23; (with_reducible refine Calls.mono (SM.out _ HNB.out) ?_); rintro e w2 ⟨⟨r, rfl, hr⟩, rfl⟩; have hr2 : 2000 < r := by omega)
  with_reducible refine Calls.mono (HC.out _) ?_
  rintro e w3 ⟨rfl, k3⟩
  go_wp2_with fail
  go_ret
  exact ⟨rfl, (KB.out.alloc _).trans k3⟩
set_option maxRecDepth 100000 in
set_option maxHeartbeats 16000000 in
theorem late (a0 : Frm) (s0 : Option Addr) (cap0 : Nat) (a1 : Frm) (s1 : Option Addr) (cap1 : Nat) (w : World) (w0 : FrameIn w s0 cap0 a0) (w1 : FrameIn w s1 cap1 a1) (h : ¬ 2000 < a0.data.length + a1.data.length) :
    Calls Try.prog 8 #[fv a0 s0 cap0, fv a1 s1 cap1] w fun e w' => e = .returned (.bool true) ∧ Old w w' := by
  have HC := Lib.hid fun w => awake_any w
  have HA := Lib.hid w0.1.1
  have HG := Lib.hid w1.1.1
  have hla : a0.data.length ≤ 9223372036854775807 := by obtain ⟨_, _, e, hc, _⟩ := w0.1.1; cases e; have := w0.1.2; omega
  have hlg : a1.data.length ≤ 9223372036854775807 := by obtain ⟨_, _, e, hc, _⟩ := w1.1.1; cases e; have := w1.1.2; omega
  have C1 := Lib.hid fun (w' : World) (k : Kept (fun _ => False) w w') => same_any (HA.out.kept k) (HG.out.kept k)
  have C2 := Lib.hid fun (w' : World) (k : Kept (fun _ => False) w w') => sameR_any (HA.out.kept k) (HG.out.kept k)
  have C3 := fun (w' : World) (k : Kept (fun _ => False) w w') => same_any (HG.out.kept k) (HA.out.kept k)
  rw [same_comm a1 a0] at C3
  have C3 := Lib.hid C3
  generalize same a0 a1 = b at *
  clear w0 w1
  obtain ⟨kind, src, dst, prio, msg, off, len, total, num, data⟩ := a0
  obtain ⟨gkind, gsrc, gdst, gprio, gmsg, goff, glen, gtotal, gnum, gdata⟩ := a1
  unfold fv fcs at *
  dsimp only at *
  go_enter Try.func8, Try.ntmps8
  go_upto_region 1 with fail
  have hA : Blk (w.alloc (.cells #[.int .i64 kind, .int .i64 src, .int .i64 dst, .int .i64 prio, .int .u64 (msg : Int), .int .i64 off, .int .i64 len, .int .i64 total, .int .i64 num, .slice s0 data.length cap0] 25)) w.heap.size [.int .i64 kind, .int .i64 src, .int .i64 dst, .int .i64 prio, .int .u64 (msg : Int), .int .i64 off, .int .i64 len, .int .i64 total, .int .i64 num, .slice s0 data.length cap0] 25 := Blk.new w _ _
  have kA : Kept (fun _ => False) w (w.alloc (.cells #[.int .i64 kind, .int .i64 src, .int .i64 dst, .int .i64 prio, .int .u64 (msg : Int), .int .i64 off, .int .i64 len, .int .i64 total, .int .i64 num, .slice s0 data.length cap0] 25)) := (Kept.refl _ w).alloc _
  have sA : (w.alloc (.cells #[.int .i64 kind, .int .i64 src, .int .i64 dst, .int .i64 prio, .int .u64 (msg : Int), .int .i64 off, .int .i64 len, .int .i64 total, .int .i64 num, .slice s0 data.length cap0] 25)).heap.size = w.heap.size + 1 := by simp
  generalize w.alloc (.cells #[.int .i64 kind, .int .i64 src, .int .i64 dst, .int .i64 prio, .int .u64 (msg : Int), .int .i64 off, .int .i64 len, .int .i64 total, .int .i64 num, .slice s0 data.length cap0] 25) = wa at *
  try rw [sA]
  have hB : Blk (wa.alloc (.cells #[.int .i64 gkind, .int .i64 gsrc, .int .i64 gdst, .int .i64 gprio, .int .u64 (gmsg : Int), .int .i64 goff, .int .i64 glen, .int .i64 gtotal, .int .i64 gnum, .slice s1 gdata.length cap1] 25)) wa.heap.size [.int .i64 gkind, .int .i64 gsrc, .int .i64 gdst, .int .i64 gprio, .int .u64 (gmsg : Int), .int .i64 goff, .int .i64 glen, .int .i64 gtotal, .int .i64 gnum, .slice s1 gdata.length cap1] 25 := Blk.new wa _ _
  rw [sA] at hB
  have hA2 := hA.old (.cells #[.int .i64 gkind, .int .i64 gsrc, .int .i64 gdst, .int .i64 gprio, .int .u64 (gmsg : Int), .int .i64 goff, .int .i64 glen, .int .i64 gtotal, .int .i64 gnum, .slice s1 gdata.length cap1] 25)
  have kB := kA.alloc (.cells #[.int .i64 gkind, .int .i64 gsrc, .int .i64 gdst, .int .i64 gprio, .int .u64 (gmsg : Int), .int .i64 goff, .int .i64 glen, .int .i64 gtotal, .int .i64 gnum, .slice s1 gdata.length cap1] 25)
  generalize wa.alloc (.cells #[.int .i64 gkind, .int .i64 gsrc, .int .i64 gdst, .int .i64 gprio, .int .u64 (gmsg : Int), .int .i64 goff, .int .i64 glen, .int .i64 gtotal, .int .i64 gnum, .slice s1 gdata.length cap1] 25) = wb at *
  have KB := Lib.hid kB
  generalize hra : w.heap.size = ra at *
  clear hra
  have d9 := hA2.cell (o := 9) rfl
  have e9 := hB.cell (o := 9) rfl
  have HA2 := Lib.hid hA2
  have HB := Lib.hid hB
  have SM := Lib.hid fun (w' : World) (hb : Blk w' wb.heap.size [.int .i64 (gdata.length : Int)] 3) => sum_one (data.length : Int) (gdata.length : Int) wb.heap.size w' hb (by omega) (by omega) (by omega) (by omega)
  clear hA kA sA hB hA2 kB
  have hnb := Blk.new wb [.int .i64 (gdata.length : Int)] 3
  dsimp only [List.toArray] at hnb
  have HNB := Lib.hid hnb
  clear hnb
  go_upto_region 3 with (go_at_call 23; (with_reducible refine Calls.mono (SM.out _ HNB.out) ?_); rintro e w2 ⟨⟨r, rfl, hr⟩, rfl⟩; have hr2 : decide (2000 < r) = false := by rw [decide_eq_false_iff_not]; omega)
  have k0 := KB.out.alloc (.cells #[.int .i64 (gdata.length : Int)] 3)
  have hA3 := HA2.out.old (.cells #[.int .i64 (gdata.length : Int)] 3)
  have hB3 := HB.out.old (.cells #[.int .i64 (gdata.length : Int)] 3)
  generalize wb.alloc (.cells #[.int .i64 (gdata.length : Int)] 3) = z at *
  have K0 := Lib.hid (k0.drew)
  have Z0 := Lib.hid (Kept.refl (fun _ => False) z.drew)
  have HA3 := Lib.hid hA3.drew
  have HB3 := Lib.hid hB3.drew
  clear k0 hA3 hB3 d9 e9 HNB
  have KS := Lib.hid fun (w' : World) (k : Kept (fun _ => False) z.drew w') => (show w'.cell? ⟨ra, 0, none⟩ = some (.int .i64 kind) ∧ w'.cell? ⟨ra, 1, none⟩ = some (.int .i64 src) ∧ w'.cell? ⟨ra, 2, none⟩ = some (.int .i64 dst) ∧ w'.cell? ⟨ra, 3, none⟩ = some (.int .i64 prio) ∧ w'.cell? ⟨ra, 4, none⟩ = some (.int .u64 (msg : Int)) ∧ w'.cell? ⟨ra, 5, none⟩ = some (.int .i64 off) ∧ w'.cell? ⟨ra, 6, none⟩ = some (.int .i64 len) ∧ w'.cell? ⟨ra, 7, none⟩ = some (.int .i64 total) ∧ w'.cell? ⟨ra, 8, none⟩ = some (.int .i64 num) ∧ w'.cell? ⟨ra, 9, none⟩ = some (.slice s0 data.length cap0) ∧ w'.cell? ⟨ra + 1, 0, none⟩ = some (.int .i64 gkind) ∧ w'.cell? ⟨ra + 1, 1, none⟩ = some (.int .i64 gsrc) ∧ w'.cell? ⟨ra + 1, 2, none⟩ = some (.int .i64 gdst) ∧ w'.cell? ⟨ra + 1, 3, none⟩ = some (.int .i64 gprio) ∧ w'.cell? ⟨ra + 1, 4, none⟩ = some (.int .u64 (gmsg : Int)) ∧ w'.cell? ⟨ra + 1, 5, none⟩ = some (.int .i64 goff) ∧ w'.cell? ⟨ra + 1, 6, none⟩ = some (.int .i64 glen) ∧ w'.cell? ⟨ra + 1, 7, none⟩ = some (.int .i64 gtotal) ∧ w'.cell? ⟨ra + 1, 8, none⟩ = some (.int .i64 gnum) ∧ w'.cell? ⟨ra + 1, 9, none⟩ = some (.slice s1 gdata.length cap1) from ⟨(k.blk HA3.out (fun f => f)).cell (o := 0) rfl, ⟨(k.blk HA3.out (fun f => f)).cell (o := 1) rfl, ⟨(k.blk HA3.out (fun f => f)).cell (o := 2) rfl, ⟨(k.blk HA3.out (fun f => f)).cell (o := 3) rfl, ⟨(k.blk HA3.out (fun f => f)).cell (o := 4) rfl, ⟨(k.blk HA3.out (fun f => f)).cell (o := 5) rfl, ⟨(k.blk HA3.out (fun f => f)).cell (o := 6) rfl, ⟨(k.blk HA3.out (fun f => f)).cell (o := 7) rfl, ⟨(k.blk HA3.out (fun f => f)).cell (o := 8) rfl, ⟨(k.blk HA3.out (fun f => f)).cell (o := 9) rfl, ⟨(k.blk HB3.out (fun f => f)).cell (o := 0) rfl, ⟨(k.blk HB3.out (fun f => f)).cell (o := 1) rfl, ⟨(k.blk HB3.out (fun f => f)).cell (o := 2) rfl, ⟨(k.blk HB3.out (fun f => f)).cell (o := 3) rfl, ⟨(k.blk HB3.out (fun f => f)).cell (o := 4) rfl, ⟨(k.blk HB3.out (fun f => f)).cell (o := 5) rfl, ⟨(k.blk HB3.out (fun f => f)).cell (o := 6) rfl, ⟨(k.blk HB3.out (fun f => f)).cell (o := 7) rfl, ⟨(k.blk HB3.out (fun f => f)).cell (o := 8) rfl, (k.blk HB3.out (fun f => f)).cell (o := 9) rfl⟩⟩⟩⟩⟩⟩⟩⟩⟩⟩⟩⟩⟩⟩⟩⟩⟩⟩⟩)
  refine wp_region_held_drew (S := fun w' => w'.cell? ⟨ra, 0, none⟩ = some (.int .i64 kind) ∧ w'.cell? ⟨ra, 1, none⟩ = some (.int .i64 src) ∧ w'.cell? ⟨ra, 2, none⟩ = some (.int .i64 dst) ∧ w'.cell? ⟨ra, 3, none⟩ = some (.int .i64 prio) ∧ w'.cell? ⟨ra, 4, none⟩ = some (.int .u64 (msg : Int)) ∧ w'.cell? ⟨ra, 5, none⟩ = some (.int .i64 off) ∧ w'.cell? ⟨ra, 6, none⟩ = some (.int .i64 len) ∧ w'.cell? ⟨ra, 7, none⟩ = some (.int .i64 total) ∧ w'.cell? ⟨ra, 8, none⟩ = some (.int .i64 num) ∧ w'.cell? ⟨ra, 9, none⟩ = some (.slice s0 data.length cap0) ∧ w'.cell? ⟨ra + 1, 0, none⟩ = some (.int .i64 gkind) ∧ w'.cell? ⟨ra + 1, 1, none⟩ = some (.int .i64 gsrc) ∧ w'.cell? ⟨ra + 1, 2, none⟩ = some (.int .i64 gdst) ∧ w'.cell? ⟨ra + 1, 3, none⟩ = some (.int .i64 gprio) ∧ w'.cell? ⟨ra + 1, 4, none⟩ = some (.int .u64 (gmsg : Int)) ∧ w'.cell? ⟨ra + 1, 5, none⟩ = some (.int .i64 goff) ∧ w'.cell? ⟨ra + 1, 6, none⟩ = some (.int .i64 glen) ∧ w'.cell? ⟨ra + 1, 7, none⟩ = some (.int .i64 gtotal) ∧ w'.cell? ⟨ra + 1, 8, none⟩ = some (.int .i64 gnum) ∧ w'.cell? ⟨ra + 1, 9, none⟩ = some (.slice s1 gdata.length cap1)) (by kernel_rfl) (KS.out _ Z0.out) (fun hHeld => ?_)
  refine wpAnyH_take (i := 0) (oi := { dst := some 15, op := Go.Op.load 25 (Go.Operand.tmp 2), type := 25, pos := "law.go:98", after := #[], guard := none }) (v := ?_) rfl (by kernel_rfl) (by kernel_rfl) (by kernel_rfl) (fun _ _ _ h => h) (Or.inl ⟨by rfl, ?_⟩) (by assumption) ?_
  rotate_left 1
  focus (intro w hSw; (try dsimp only at hSw); go_simp; try with_reducible rfl)
  try simp only [Act.put, List.setIfInBounds_toArray, List.set_cons_zero, List.set_cons_succ]
  refine wpAnyH_take (i := 1) (oi := { dst := some 16, op := Go.Op.load 25 (Go.Operand.tmp 3), type := 25, pos := "law.go:98", after := #[], guard := none }) (v := ?_) rfl (by kernel_rfl) (by kernel_rfl) (by kernel_rfl) (fun _ _ _ h => h) (Or.inl ⟨by rfl, ?_⟩) (by assumption) ?_
  rotate_left 1
  focus (intro w hSw; (try dsimp only at hSw); go_simp; try with_reducible rfl)
  try simp only [Act.put, List.setIfInBounds_toArray, List.set_cons_zero, List.set_cons_succ]
  refine wpAnyH_take (i := 3) (oi := { dst := some 18, op := Go.Op.load 25 (Go.Operand.tmp 2), type := 25, pos := "law.go:98", after := #[], guard := none }) (v := ?_) rfl (by kernel_rfl) (by kernel_rfl) (by kernel_rfl) (fun _ _ _ h => h) (Or.inl ⟨by rfl, ?_⟩) (by assumption) ?_
  rotate_left 1
  focus (intro w hSw; (try dsimp only at hSw); go_simp; try with_reducible rfl)
  try simp only [Act.put, List.setIfInBounds_toArray, List.set_cons_zero, List.set_cons_succ]
  refine wpAnyH_take (i := 4) (oi := { dst := some 19, op := Go.Op.load 25 (Go.Operand.tmp 3), type := 25, pos := "law.go:98", after := #[], guard := none }) (v := ?_) rfl (by kernel_rfl) (by kernel_rfl) (by kernel_rfl) (fun _ _ _ h => h) (Or.inl ⟨by rfl, ?_⟩) (by assumption) ?_
  rotate_left 1
  focus (intro w hSw; (try dsimp only at hSw); go_simp; try with_reducible rfl)
  try simp only [Act.put, List.setIfInBounds_toArray, List.set_cons_zero, List.set_cons_succ]
  refine wpAnyH_ready (rs := [2]) (by kernel_rfl) (by simp) ?_
  refine AllReadyH.cons (o := { dst := some 17, op := Go.Op.call { callee := Go.Callee.value (Go.Operand.func 16), args := #[Go.Operand.tmp 15, Go.Operand.tmp 16], argTypes := #[25, 25] }, type := 4, pos := "law.go:98", after := #[{ on := 0, ground := Go.Ground.data }, { on := 1, ground := Go.Ground.data }], guard := none }) rfl (fun K hK => ?_) AllReadyH.nil
  go_simp
  with_reducible refine Calls.mono (C1.out _ (K0.out.trans Z0.out)) ?_
  rintro e y1 ⟨rfl, k1⟩
  have Z0 := Lib.hid (Z0.out.trans k1)
  clear k1
  refine hK.out _ _ (KS.out _ Z0.out) (fun hHeld => ?_)
  clear hK K
  try simp only [Act.put, List.setIfInBounds_toArray, List.set_cons_zero, List.set_cons_succ]
  refine wpAnyH_ready (rs := [5]) (by kernel_rfl) (by simp) ?_
  refine AllReadyH.cons (o := { dst := some 20, op := Go.Op.call { callee := Go.Callee.value (Go.Operand.func 19), args := #[Go.Operand.tmp 18, Go.Operand.tmp 19], argTypes := #[25, 25] }, type := 4, pos := "law.go:98", after := #[{ on := 3, ground := Go.Ground.data }, { on := 4, ground := Go.Ground.data }, { on := 2, ground := Go.Ground.chain }], guard := none }) rfl (fun K hK => ?_) AllReadyH.nil
  go_simp
  with_reducible refine Calls.mono (C2.out _ (K0.out.trans Z0.out)) ?_
  rintro e y2 ⟨rfl, k2⟩
  have Z0 := Lib.hid (Z0.out.trans k2)
  clear k2
  refine hK.out _ _ (KS.out _ Z0.out) (fun hHeld => ?_)
  clear hK K
  try simp only [Act.put, List.setIfInBounds_toArray, List.set_cons_zero, List.set_cons_succ]
  refine wpAnyH_take (i := 6) (oi := { dst := some 21, op := Go.Op.binOp Go.BinOp.eql 4 (Go.Operand.tmp 17) (Go.Operand.tmp 20) 4, type := 4, pos := "law.go:98", after := #[{ on := 2, ground := Go.Ground.data }, { on := 5, ground := Go.Ground.data }], guard := none }) (v := ?_) rfl (by kernel_rfl) (by kernel_rfl) (by kernel_rfl) (fun _ _ _ h => h) (Or.inl ⟨by rfl, ?_⟩) (by assumption) ?_
  rotate_left 1
  focus (intro w hSw; (try dsimp only at hSw); go_simp; try with_reducible rfl)
  try simp only [Act.put, List.setIfInBounds_toArray, List.set_cons_zero, List.set_cons_succ]
  refine wpAnyH_take (i := 7) (oi := { dst := some 22, op := Go.Op.move (Go.Operand.tmp 21), type := 4, pos := "law.go:98", after := #[{ on := 6, ground := Go.Ground.data }, { on := 5, ground := Go.Ground.chain }], guard := none }) (v := ?_) rfl (by kernel_rfl) (by kernel_rfl) (by kernel_rfl) (fun _ _ _ h => h) (Or.inl ⟨by rfl, ?_⟩) (by assumption) ?_
  rotate_left 1
  focus (intro w hSw; (try dsimp only at hSw); go_simp; try with_reducible rfl)
  try simp only [Act.put, List.setIfInBounds_toArray, List.set_cons_zero, List.set_cons_succ]
  refine wpAnyH_take (i := 8) (oi := { dst := some 23, op := Go.Op.load 25 (Go.Operand.tmp 3), type := 25, pos := "law.go:98", after := #[{ on := 7, ground := Go.Ground.guard }], guard := some (7, true) }) (v := ?_) rfl (by kernel_rfl) (by kernel_rfl) (by kernel_rfl) (fun _ _ _ h => h) (Or.inl ⟨by rfl, ?_⟩) (by assumption) ?_
  rotate_left 1
  focus (intro w hSw; (try dsimp only at hSw); go_simp; try with_reducible rfl)
  try simp only [Act.put, List.setIfInBounds_toArray, List.set_cons_zero, List.set_cons_succ]
  refine wpAnyH_take (i := 9) (oi := { dst := some 24, op := Go.Op.load 25 (Go.Operand.tmp 2), type := 25, pos := "law.go:98", after := #[{ on := 7, ground := Go.Ground.guard }], guard := some (7, true) }) (v := ?_) rfl (by kernel_rfl) (by kernel_rfl) (by kernel_rfl) (fun _ _ _ h => h) (Or.inl ⟨by rfl, ?_⟩) (by assumption) ?_
  rotate_left 1
  focus (intro w hSw; (try dsimp only at hSw); go_simp; try with_reducible rfl)
  try simp only [Act.put, List.setIfInBounds_toArray, List.set_cons_zero, List.set_cons_succ]
  refine wpAnyH_take (i := 11) (oi := { dst := some 26, op := Go.Op.load 25 (Go.Operand.tmp 2), type := 25, pos := "law.go:98", after := #[{ on := 7, ground := Go.Ground.guard }], guard := some (7, true) }) (v := ?_) rfl (by kernel_rfl) (by kernel_rfl) (by kernel_rfl) (fun _ _ _ h => h) (Or.inl ⟨by rfl, ?_⟩) (by assumption) ?_
  rotate_left 1
  focus (intro w hSw; (try dsimp only at hSw); go_simp; try with_reducible rfl)
  try simp only [Act.put, List.setIfInBounds_toArray, List.set_cons_zero, List.set_cons_succ]
  refine wpAnyH_take (i := 12) (oi := { dst := some 27, op := Go.Op.load 25 (Go.Operand.tmp 3), type := 25, pos := "law.go:98", after := #[{ on := 7, ground := Go.Ground.guard }], guard := some (7, true) }) (v := ?_) rfl (by kernel_rfl) (by kernel_rfl) (by kernel_rfl) (fun _ _ _ h => h) (Or.inl ⟨by rfl, ?_⟩) (by assumption) ?_
  rotate_left 1
  focus (intro w hSw; (try dsimp only at hSw); go_simp; try with_reducible rfl)
  try simp only [Act.put, List.setIfInBounds_toArray, List.set_cons_zero, List.set_cons_succ]
  refine wpAnyH_ready (rs := [10]) (by kernel_rfl) (by simp) ?_
  refine AllReadyH.cons (o := { dst := some 25, op := Go.Op.call { callee := Go.Callee.value (Go.Operand.func 16), args := #[Go.Operand.tmp 23, Go.Operand.tmp 24], argTypes := #[25, 25] }, type := 4, pos := "law.go:98", after := #[{ on := 8, ground := Go.Ground.data }, { on := 9, ground := Go.Ground.data }, { on := 7, ground := Go.Ground.chain }, { on := 7, ground := Go.Ground.guard }], guard := some (7, true) }) rfl (fun K hK => ?_) AllReadyH.nil
  go_simp
  with_reducible refine Calls.mono (C3.out _ (K0.out.trans Z0.out)) ?_
  rintro e y3 ⟨rfl, k3⟩
  have Z0 := Lib.hid (Z0.out.trans k3)
  clear k3
  refine hK.out _ _ (KS.out _ Z0.out) (fun hHeld => ?_)
  clear hK K
  try simp only [Act.put, List.setIfInBounds_toArray, List.set_cons_zero, List.set_cons_succ]
  refine wpAnyH_ready (rs := [13]) (by kernel_rfl) (by simp) ?_
  refine AllReadyH.cons (o := { dst := some 28, op := Go.Op.call { callee := Go.Callee.value (Go.Operand.func 16), args := #[Go.Operand.tmp 26, Go.Operand.tmp 27], argTypes := #[25, 25] }, type := 4, pos := "law.go:98", after := #[{ on := 11, ground := Go.Ground.data }, { on := 12, ground := Go.Ground.data }, { on := 10, ground := Go.Ground.chain }, { on := 7, ground := Go.Ground.guard }], guard := some (7, true) }) rfl (fun K hK => ?_) AllReadyH.nil
  go_simp
  with_reducible refine Calls.mono (C1.out _ (K0.out.trans Z0.out)) ?_
  rintro e y4 ⟨rfl, k4⟩
  have Z0 := Lib.hid (Z0.out.trans k4)
  clear k4
  refine hK.out _ _ (KS.out _ Z0.out) (fun hHeld => ?_)
  clear hK K
  try simp only [Act.put, List.setIfInBounds_toArray, List.set_cons_zero, List.set_cons_succ]
  refine wpAnyH_take (i := 14) (oi := { dst := some 29, op := Go.Op.binOp Go.BinOp.eql 4 (Go.Operand.tmp 25) (Go.Operand.tmp 28) 4, type := 4, pos := "law.go:98", after := #[{ on := 10, ground := Go.Ground.data }, { on := 13, ground := Go.Ground.data }, { on := 7, ground := Go.Ground.guard }], guard := some (7, true) }) (v := ?_) rfl (by kernel_rfl) (by kernel_rfl) (by kernel_rfl) (fun _ _ _ h => h) (Or.inl ⟨by rfl, ?_⟩) (by assumption) ?_
  rotate_left 1
  focus (intro w hSw; (try dsimp only at hSw); go_simp; try with_reducible rfl)
  try simp only [Act.put, List.setIfInBounds_toArray, List.set_cons_zero, List.set_cons_succ]
  refine wpAnyH_take (i := 15) (oi := { dst := some 30, op := Go.Op.pick (Go.Operand.tmp 22) (Go.Operand.tmp 29) (Go.Operand.const (Go.Value.bool false)), type := 4, pos := "law.go:98", after := #[{ on := 7, ground := Go.Ground.data }, { on := 14, ground := Go.Ground.data }], guard := none }) (v := ?_) rfl (by kernel_rfl) (by kernel_rfl) (by kernel_rfl) (fun _ _ _ h => h) (Or.inl ⟨by rfl, ?_⟩) (by assumption) ?_
  rotate_left 1
  focus (intro w hSw; (try dsimp only at hSw); go_simp; try with_reducible rfl)
  try simp only [Act.put, List.setIfInBounds_toArray, List.set_cons_zero, List.set_cons_succ]
  refine wpAnyH_take (i := 16) (oi := { dst := some 31, op := Go.Op.move (Go.Operand.tmp 30), type := 4, pos := "law.go:98", after := #[{ on := 15, ground := Go.Ground.data }, { on := 13, ground := Go.Ground.chain }], guard := none }) (v := ?_) rfl (by kernel_rfl) (by kernel_rfl) (by kernel_rfl) (fun _ _ _ h => h) (Or.inl ⟨by rfl, ?_⟩) (by assumption) ?_
  rotate_left 1
  focus (intro w hSw; (try dsimp only at hSw); go_simp; try with_reducible rfl)
  try simp only [Act.put, List.setIfInBounds_toArray, List.set_cons_zero, List.set_cons_succ]
  refine wpAnyH_ready (rs := [17]) (by kernel_rfl) (by simp) ?_
  refine AllReadyH.cons (o := { dst := some 32, op := Go.Op.call { callee := Go.Callee.value (Go.Operand.func 9), args := #[], argTypes := #[] }, type := 4, pos := "law.go:98", after := #[{ on := 16, ground := Go.Ground.chain }, { on := 16, ground := Go.Ground.guard }], guard := some (16, true) }) rfl (fun K hK => ?_) AllReadyH.nil
  go_simp
  with_reducible refine Calls.mono (HC.out _) ?_
  rintro e y5 ⟨rfl, k5⟩
  have Z0 := Lib.hid (Z0.out.trans k5)
  clear k5
  refine hK.out _ _ (KS.out _ Z0.out) (fun hHeld => ?_)
  clear hK K
  try simp only [Act.put, List.setIfInBounds_toArray, List.set_cons_zero, List.set_cons_succ]
  refine wpAnyH_take (i := 18) (oi := { dst := some 33, op := Go.Op.pick (Go.Operand.tmp 31) (Go.Operand.tmp 32) (Go.Operand.const (Go.Value.bool false)), type := 4, pos := "law.go:98", after := #[{ on := 16, ground := Go.Ground.data }, { on := 17, ground := Go.Ground.data }], guard := none }) (v := ?_) rfl (by kernel_rfl) (by kernel_rfl) (by kernel_rfl) (fun _ _ _ h => h) (Or.inl ⟨by rfl, ?_⟩) (by assumption) ?_
  rotate_left 1
  focus (intro w hSw; (try dsimp only at hSw); go_simp; try with_reducible rfl)
  try simp only [Act.put, List.setIfInBounds_toArray, List.set_cons_zero, List.set_cons_succ]
  refine wpAnyH_take (i := 19) (oi := { dst := some 4, op := Go.Op.assign (Go.Operand.tmp 33), type := 4, pos := "law.go:98", after := #[{ on := 18, ground := Go.Ground.data }, { on := 17, ground := Go.Ground.chain }, { on := 0, ground := Go.Ground.phase }, { on := 1, ground := Go.Ground.phase }, { on := 2, ground := Go.Ground.phase }, { on := 3, ground := Go.Ground.phase }, { on := 4, ground := Go.Ground.phase }, { on := 5, ground := Go.Ground.phase }, { on := 6, ground := Go.Ground.phase }, { on := 7, ground := Go.Ground.phase }, { on := 8, ground := Go.Ground.phase }, { on := 9, ground := Go.Ground.phase }, { on := 10, ground := Go.Ground.phase }, { on := 11, ground := Go.Ground.phase }, { on := 12, ground := Go.Ground.phase }, { on := 13, ground := Go.Ground.phase }, { on := 14, ground := Go.Ground.phase }, { on := 15, ground := Go.Ground.phase }, { on := 16, ground := Go.Ground.phase }, { on := 17, ground := Go.Ground.phase }, { on := 18, ground := Go.Ground.phase }], guard := none }) (v := ?_) rfl (by kernel_rfl) (by kernel_rfl) (by kernel_rfl) (fun _ _ _ h => h) (Or.inl ⟨by rfl, ?_⟩) (by assumption) ?_
  rotate_left 1
  focus (intro w hSw; (try dsimp only at hSw); go_simp; try with_reducible rfl)
  try simp only [Act.put, List.setIfInBounds_toArray, List.set_cons_zero, List.set_cons_succ]
  refine wpAnyH_done (by kernel_rfl) ?_ _
  go_wp2_with fail
  go_ret
  exact ⟨rfl, K0.out.trans Z0.out⟩
theorem walk (a0 : Frm) (s0 : Option Addr) (cap0 : Nat) (a1 : Frm) (s1 : Option Addr) (cap1 : Nat) (w : World) (w0 : FrameIn w s0 cap0 a0) (w1 : FrameIn w s1 cap1 a1) :
    Calls Try.prog 8 #[fv a0 s0 cap0, fv a1 s1 cap1] w fun e w' => e = .returned (.bool true) ∧ Old w w' := by
  by_cases h : 2000 < a0.data.length + a1.data.length
  · exact early a0 s0 cap0 a1 s1 cap1 w w0 w1 h
  · exact late a0 s0 cap0 a1 s1 cap1 w w0 w1 h
set_option maxRecDepth 100000 in
set_option maxHeartbeats 1000000 in
theorem lifted (os : Os) (started : os.Started) (H : Type) (enc : TypeId × Value → H) :
    ReturnsInHanded {} Try.checked os 8 .any (Rows.wireSameSpec.pre6 enc Try.prog Try.f8 Rows.wireSameRow.domain false) (Rows.wireSameSpec.post enc Try.prog Try.f8 false true false false) := by
  refine returnsInHanded_of_change (C := Try.checked) own started (by kernel_rfl) Try.func8
    (ChangeSpec.witness6 (enc := enc) (C := Try.checked) false ⟨#[], #[.agg #[.int .i64 0, .int .i64 0, .int .i64 0, .int .i64 0, .int .u64 0, .int .i64 0, .int .i64 0, .int .i64 0, .int .i64 0, .slice none 0 0], .agg #[.int .i64 0, .int .i64 0, .int .i64 0, .int .i64 0, .int .u64 0, .int .i64 0, .int .i64 0, .int .i64 0, .int .i64 0, .slice none 0 0]], []⟩ 8 (by kernel_rfl) (by kernel_rfl) (by kernel_rfl) (by kernel_rfl)) ?_
  intro W base args ds gs before hval0 hW hcnd _
  have hval : ∀ (j : Nat) t v, Try.f8.params[j]? = some t → args[j]? = some v → Value.okWide Try.prog W .any base t v := hval0
  have hW' := hW
  obtain ⟨p, q, hA0, hV, rfl, hfz, hnd⟩ := hW
  have hA : DataW.TrodAll enc Try.prog W 0 (fun _ => true) true Try.f8.params.toList args.toList ds p := hA0
  rw [Try.params8] at hA hval
  obtain ⟨v0, vs0, d0, ds0, p0, q0, hargs, rfl, rfl, h0, r0⟩ := trodAll_cons hA
  obtain ⟨v1, vs1, d1, ds1, p1, q1, rfl, rfl, rfl, h1, r1⟩ := trodAll_cons r0
  obtain ⟨rfl, rfl, rfl⟩ := trodAll_nil r1
  obtain rfl : args = #[v0, v1] := by cases args; simp_all
  obtain ⟨rfl, rfl⟩ := trodVars_none hV
  obtain ⟨a0, s0, cap0, rfl, w0⟩ := Opn.frame_of (hval 0 25 v0 rfl rfl) h0
  obtain ⟨a1, s1, cap1, rfl, w1⟩ := Opn.frame_of (hval 1 25 v1 rfl rfl) h1
  clear hA0 hval0
  refine (walk a0 s0 cap0 a1 s1 cap1 W w0 w1).mono fun e W' ⟨he, hg⟩ => ?_
  subst he
  exact ⟨_, rfl, post_of_old hW' (fun _ _ _ => (trodAll_cons_mk (shut_bool Try.underlying4 _) trodAll_mk0)) (fun sp hsp => (trodAll_cons_mk (Opn.back (by kernel_rfl) (of_decide_eq_true (by kernel_rfl)) h0 hg (fun x hx => hW'.lt x (by simp [hx])) (fun x hx => hsp x (by simp [hx]))) (trodAll_cons_mk (Opn.back (by kernel_rfl) (of_decide_eq_true (by kernel_rfl)) h1 hg (fun x hx => hW'.lt x (by simp [hx])) (fun x hx => hsp x (by simp [hx]))) trodAll_mk0))) (fun _ _ => rfl)
    hg (ok_one (by kernel_rfl) rfl (okWide_bool_mk Try.underlying4 _))⟩
theorem over : Rows.wireSameRow.holds Try.pinned (OpenSpec.ofChange Rows.wireSameSpec) :=
  OpenClaim.holds_of_wide 8 Try.f8 rfl rfl rfl rfl rfl rfl rfl ⟨rfl, rfl, rfl, rfl, rfl⟩ rfl rfl rfl rfl rfl (by kernel_rfl) Try.func8 (by kernel_rfl)
    (of_decide_eq_true (by kernel_rfl)) (by unfold Func.isWrapper; first | (rw [if_pos (by decide +kernel)]; kernel_rfl) | (rw [if_neg (by decide +kernel)]; exact ⟨rfl, rfl⟩))
    (fun os started H enc _ => lifted os started H enc)
theorem proved : Rows.WireSameSaid :=
  over
#print axioms proved
end Go.Proofs.Ytkbncpclfeiofaa.wireSame
