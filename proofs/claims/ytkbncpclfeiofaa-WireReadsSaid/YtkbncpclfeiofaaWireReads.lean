/- Proved: WireReads holds for whatever bytes: they are read as the frame whose bytes they are, or refused. Conditions: none. -/
import Derived.Test.YtkbncpclfeiofaaRows
import Derived.Test.YtkbncpclfeiofaaByt
import Derived.Test.YtkbncpclfeiofaaEnd
import Derived.Test.YtkbncpclfeiofaaInts
import Derived.WalkKit
import Derived.ProofKit
import Derived.OpenShut
import Derived.Test.YtkbncpclfeiofaaWrLaw
set_option linter.unusedVariables false
namespace Go.Proofs.Ytkbncpclfeiofaa.wireReads
open Go.ChangeShapes Go.WideShapes Go.ChangeAt Go.RowKit Go.Proofs.Ytkbncpclfeiofaa.Hp Go.Proofs.Ytkbncpclfeiofaa.End
open Opn WrM Byt Wr
theorem own : ownKnob Try.prog.godebug = none := by kernel_rfl
attribute [local go_sem ↓] Go.wp_at_zero Go.wp_at_succ
set_option maxRecDepth 100000 in
set_option maxHeartbeats 16000000 in
theorem early (a0 : List UInt8) (s0 : Option Addr) (cap0 : Nat) (w : World) (h : 2000 < a0.length) :
    Calls Try.prog 4 #[.slice s0 a0.length cap0] w fun e w' => e = .returned (.bool true) ∧ Old w w' := by
  have HC := Lib.hid fun w => awake_any w
  have h1 : 2000 < (a0.length : Int) := by omega
  go_enter Try.func4, Try.ntmps4
  go_wp2_with (go_at_call 9; (with_reducible refine Calls.mono (HC.out _) ?_); rintro e w' ⟨rfl, ho⟩)
  go_ret
  exact ⟨rfl, ho⟩
set_option maxRecDepth 100000 in
set_option maxHeartbeats 16000000 in
theorem late (a0 : List UInt8) (s0 : Option Addr) (cap0 : Nat) (w : World) (w0 : Byts w s0 cap0 a0) (h : ¬ 2000 < a0.length) :
    Calls Try.prog 4 #[.slice s0 a0.length cap0] w fun e w' => e = .returned (.bool true) ∧ Old w w' := by
  have HC := Lib.hid fun w => awake_any w
  have HS := Lib.hid w0.1
  have hcap := w0.2
  have D1 := Lib.hid fun (w' : World) (k : Kept (fun _ => False) w w') => dec_any (HS.out.kept k) hcap (by omega)
  have D2 := Lib.hid fun (w' : World) (k : Kept (fun _ => False) w w') => decR_any (HS.out.kept k) hcap (by omega)
  have h1 : ¬ 2000 < (a0.length : Int) := by omega
  clear w0
  go_enter Try.func4, Try.ntmps4
  go_wp2_with fail
  with_reducible refine Calls.mono (D1.out _ (Kept.refl _ w)) ?_
  rintro e x1 hx1
  have hx : ∃ (F : Frm) (s1 : Option Addr) (c1 : Nat) (r : Int), e = .returned (.tuple #[fv F s1 c1, .int .i64 r]) ∧ Byt.Src x1 (.slice s1 F.data.length c1) F.data ∧ Kept (fun _ => False) w x1 ∧ ((¬ WrM.Good a0 ∧ F = zf ∧ r = 2) ∨ (WrM.Good a0 ∧ F = flds a0 ∧ r = 0)) := by
    rcases hx1 with ⟨hg, rfl, k1⟩ | ⟨hg, s1, c1, rfl, hR, k1⟩
    · exact ⟨zf, none, 0, 2, rfl, src_nil _, k1, Or.inl ⟨hg, rfl, rfl⟩⟩
    · exact ⟨flds a0, s1, c1, 0, rfl, hR.src, k1, Or.inr ⟨hg, rfl, rfl⟩⟩
  obtain ⟨F, s1, c1, r, rfl, hS1, k1, hcase⟩ := hx
  clear hx1
  have HS1 := Lib.hid hS1
  have K1 := Lib.hid k1
  have HCA := Lib.hid hcase
  clear hS1 k1 hcase
  obtain ⟨kind, src, dst, prio, msg, off, len, total, num, data⟩ := F
  unfold fv fcs
  dsimp only at *
  go_upto_region 4 with fail
  have hA : Blk (x1.alloc (.cells #[.int .i64 kind, .int .i64 src, .int .i64 dst, .int .i64 prio, .int .u64 (msg : Int), .int .i64 off, .int .i64 len, .int .i64 total, .int .i64 num, .slice s1 data.length c1] 25)) x1.heap.size [.int .i64 kind, .int .i64 src, .int .i64 dst, .int .i64 prio, .int .u64 (msg : Int), .int .i64 off, .int .i64 len, .int .i64 total, .int .i64 num, .slice s1 data.length c1] 25 := Blk.new x1 _ _
  have k2 := K1.out.alloc (.cells #[.int .i64 kind, .int .i64 src, .int .i64 dst, .int .i64 prio, .int .u64 (msg : Int), .int .i64 off, .int .i64 len, .int .i64 total, .int .i64 num, .slice s1 data.length c1] 25)
  have hS2 := HS1.out.kept ((Kept.refl (fun _ => False) x1).alloc (.cells #[.int .i64 kind, .int .i64 src, .int .i64 dst, .int .i64 prio, .int .u64 (msg : Int), .int .i64 off, .int .i64 len, .int .i64 total, .int .i64 num, .slice s1 data.length c1] 25))
  generalize x1.alloc (.cells #[.int .i64 kind, .int .i64 src, .int .i64 dst, .int .i64 prio, .int .u64 (msg : Int), .int .i64 off, .int .i64 len, .int .i64 total, .int .i64 num, .slice s1 data.length c1] 25) = x2 at *
  generalize x1.heap.size = fa at *
  have HA := Lib.hid hA
  have K2 := Lib.hid k2
  have HS2 := Lib.hid hS2
  clear hA k2 hS2 HS1 K1
  go_wp2_with fail
  with_reducible refine Calls.mono (D2.out _ K2.out) ?_
  rintro e x3 hx1
  have hx : ∃ (G : Frm) (s2 : Option Addr) (c2 : Nat) (r2 : Int), e = .returned (.tuple #[fv G s2 c2, .int .i64 r2]) ∧ Byt.Src x3 (.slice s2 G.data.length c2) G.data ∧ Kept (fun _ => False) x2 x3 ∧ ((¬ WrM.Good a0 ∧ G = zf ∧ r2 = 2) ∨ (WrM.Good a0 ∧ G = flds a0 ∧ r2 = 0)) := by
    rcases hx1 with ⟨hg, rfl, k1⟩ | ⟨hg, s1, c1, rfl, hR, k1⟩
    · exact ⟨zf, none, 0, 2, rfl, src_nil _, k1, Or.inl ⟨hg, rfl, rfl⟩⟩
    · exact ⟨flds a0, s1, c1, 0, rfl, hR.src, k1, Or.inr ⟨hg, rfl, rfl⟩⟩
  obtain ⟨G, s2, c2, r2, rfl, hS3, k3, hcase⟩ := hx
  clear hx1
  have hboth : r2 = r ∧ same (⟨kind, src, dst, prio, msg, off, len, total, num, data⟩ : Frm) G = true := by
    rcases HCA.out with ⟨g1, e1, e2⟩ | ⟨g1, e1, e2⟩ <;> rcases hcase with ⟨g2, e3, e4⟩ | ⟨g2, e3, e4⟩
    · exact ⟨by rw [e2, e4], by rw [e1, e3, same_refl]⟩
    · exact absurd g2 g1
    · exact absurd g1 g2
    · exact ⟨by rw [e2, e4], by rw [e1, e3, same_refl]⟩
  obtain ⟨rfl, hsame⟩ := hboth
  have SR := fun (w' : World) (k : Kept (fun _ => False) x3 w') => sameR_any (f := (⟨kind, src, dst, prio, msg, off, len, total, num, data⟩ : Frm)) (g := G) ((HS2.out.kept k3).kept k) (hS3.kept k)
  rw [hsame] at SR
  have HK3 := Lib.hid (K2.out.trans k3)
  have HA3 := Lib.hid (k3.blk HA.out (fun f => f))
  clear hcase hsame hS3 k3 HCA
  obtain ⟨gkind, gsrc, gdst, gprio, gmsg, goff, glen, gtotal, gnum, gdata⟩ := G
  unfold fv fcs at *
  dsimp only at *
  have HSR := Lib.hid SR
  clear SR
  go_upto_region 5 with fail
  have hB : Blk (x3.alloc (.cells #[.int .i64 gkind, .int .i64 gsrc, .int .i64 gdst, .int .i64 gprio, .int .u64 (gmsg : Int), .int .i64 goff, .int .i64 glen, .int .i64 gtotal, .int .i64 gnum, .slice s2 gdata.length c2] 25)) x3.heap.size [.int .i64 gkind, .int .i64 gsrc, .int .i64 gdst, .int .i64 gprio, .int .u64 (gmsg : Int), .int .i64 goff, .int .i64 glen, .int .i64 gtotal, .int .i64 gnum, .slice s2 gdata.length c2] 25 := Blk.new x3 _ _
  have hA4 := HA3.out.old (.cells #[.int .i64 gkind, .int .i64 gsrc, .int .i64 gdst, .int .i64 gprio, .int .u64 (gmsg : Int), .int .i64 goff, .int .i64 glen, .int .i64 gtotal, .int .i64 gnum, .slice s2 gdata.length c2] 25)
  have k4 : Kept (fun _ => False) x3 (x3.alloc (.cells #[.int .i64 gkind, .int .i64 gsrc, .int .i64 gdst, .int .i64 gprio, .int .u64 (gmsg : Int), .int .i64 goff, .int .i64 glen, .int .i64 gtotal, .int .i64 gnum, .slice s2 gdata.length c2] 25)) := (Kept.refl _ x3).alloc _
  generalize x3.alloc (.cells #[.int .i64 gkind, .int .i64 gsrc, .int .i64 gdst, .int .i64 gprio, .int .u64 (gmsg : Int), .int .i64 goff, .int .i64 glen, .int .i64 gtotal, .int .i64 gnum, .slice s2 gdata.length c2] 25) = x4 at *
  have hz : x3.heap.size = x3.heap.size := rfl
  generalize x3.heap.size = fb at *
  have d0 := hA4.cell (o := 0) rfl
  have d1 := hA4.cell (o := 1) rfl
  have d2 := hA4.cell (o := 2) rfl
  have d3 := hA4.cell (o := 3) rfl
  have d4 := hA4.cell (o := 4) rfl
  have d5 := hA4.cell (o := 5) rfl
  have d6 := hA4.cell (o := 6) rfl
  have d7 := hA4.cell (o := 7) rfl
  have d8 := hA4.cell (o := 8) rfl
  have d9 := hA4.cell (o := 9) rfl
  have e0 := hB.cell (o := 0) rfl
  have e1 := hB.cell (o := 1) rfl
  have e2 := hB.cell (o := 2) rfl
  have e3 := hB.cell (o := 3) rfl
  have e4 := hB.cell (o := 4) rfl
  have e5 := hB.cell (o := 5) rfl
  have e6 := hB.cell (o := 6) rfl
  have e7 := hB.cell (o := 7) rfl
  have e8 := hB.cell (o := 8) rfl
  have e9 := hB.cell (o := 9) rfl
  have K4 := Lib.hid k4
  clear hB hA4 k4 hz
  go_wp2_with (first | (go_at_call 19; (with_reducible refine Calls.mono (HSR.out _ K4.out) ?_); rintro e x5 ⟨rfl, k5⟩; have K5 := Lib.hid (HK3.out.trans (K4.out.trans k5))) | (go_at_call 9; (with_reducible refine Calls.mono (HC.out _) ?_); rintro e x6 ⟨rfl, k6⟩))
  go_ret
  exact ⟨rfl, K5.out.trans k6⟩
theorem walk (a0 : List UInt8) (s0 : Option Addr) (cap0 : Nat) (w : World) (w0 : Byts w s0 cap0 a0) :
    Calls Try.prog 4 #[.slice s0 a0.length cap0] w fun e w' => e = .returned (.bool true) ∧ Old w w' := by
  by_cases h : 2000 < a0.length
  · exact early a0 s0 cap0 w h
  · exact late a0 s0 cap0 w w0 h
set_option maxRecDepth 100000 in
set_option maxHeartbeats 1000000 in
theorem lifted (os : Os) (started : os.Started) (H : Type) (enc : TypeId × Value → H) :
    ReturnsInHanded {} Try.checked os 4 .any (Rows.wireReadsSpec.pre6 enc Try.prog Try.f4 Rows.wireReadsRow.domain false) (Rows.wireReadsSpec.post enc Try.prog Try.f4 false true false false) := by
  refine returnsInHanded_of_change (C := Try.checked) own started (by kernel_rfl) Try.func4
    (ChangeSpec.witness6 (enc := enc) (C := Try.checked) false ⟨#[], #[.slice none 0 0], []⟩ 8 (by kernel_rfl) (by kernel_rfl) (by kernel_rfl) (by kernel_rfl)) ?_
  intro W base args ds gs before hval0 hW hcnd _
  have hval : ∀ (j : Nat) t v, Try.f4.params[j]? = some t → args[j]? = some v → Value.okWide Try.prog W .any base t v := hval0
  have hW' := hW
  obtain ⟨p, q, hA0, hV, rfl, hfz, hnd⟩ := hW
  have hA : DataW.TrodAll enc Try.prog W 0 (fun _ => true) true Try.f4.params.toList args.toList ds p := hA0
  rw [Try.params4] at hA hval
  obtain ⟨v0, vs0, d0, ds0, p0, q0, hargs, rfl, rfl, h0, r0⟩ := trodAll_cons hA
  obtain ⟨rfl, rfl, rfl⟩ := trodAll_nil r0
  obtain rfl : args = #[v0] := by cases args; simp_all
  obtain ⟨rfl, rfl⟩ := trodVars_none hV
  obtain ⟨s0, cap0, a0, rfl, w0⟩ := Opn.bytes_of (hval 0 23 v0 rfl rfl) h0
  clear hA0 hval0
  refine (walk a0 s0 cap0 W w0).mono fun e W' ⟨he, hg⟩ => ?_
  subst he
  exact ⟨_, rfl, post_of_old hW' (fun _ _ _ => (trodAll_cons_mk (shut_bool Try.underlying4 _) trodAll_mk0)) (fun sp hsp => (trodAll_cons_mk (Opn.back (by kernel_rfl) (of_decide_eq_true (by kernel_rfl)) h0 hg (fun x hx => hW'.lt x (by simp [hx])) (fun x hx => hsp x (by simp [hx]))) trodAll_mk0)) (fun _ _ => rfl)
    hg (ok_one (by kernel_rfl) rfl (okWide_bool_mk Try.underlying4 _))⟩
theorem over : Rows.wireReadsRow.holds Try.pinned (OpenSpec.ofChange Rows.wireReadsSpec) :=
  OpenClaim.holds_of_wide 4 Try.f4 rfl rfl rfl rfl rfl rfl rfl ⟨rfl, rfl, rfl, rfl, rfl⟩ rfl rfl rfl rfl rfl (by kernel_rfl) Try.func4 (by kernel_rfl)
    (of_decide_eq_true (by kernel_rfl)) (by unfold Func.isWrapper; first | (rw [if_pos (by decide +kernel)]; kernel_rfl) | (rw [if_neg (by decide +kernel)]; exact ⟨rfl, rfl⟩))
    (fun os started H enc _ => lifted os started H enc)
theorem proved : Rows.WireReadsSaid :=
  over
#print axioms proved
end Go.Proofs.Ytkbncpclfeiofaa.wireReads
