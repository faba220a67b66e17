/- The document's own fabric: put. Conditions: each theorem's own. -/
import Derived.Test.YtpogpibjkolioaaGreatFpK30
set_option linter.unusedVariables false
set_option linter.unusedSimpArgs false
namespace Go.Proofs.YtpogpibjkolioaaGreat.Fc
open Go.RowKit Hp QuM Rw Qu Po NumM NumC FbM TpM Tp Go.Proofs.YtpogpibjkolioaaGreat.Fb Rf
attribute [local go_sem ↓] Go.wp_at_zero Go.wp_at_succ
variable {w0 w w' w'' : World} {K : Cf} {N N' : Mo} {X X' : Nat → Prop} {a : Ar} {mb : Nat}
theorem Rb.congr (h : Rb w0 K N X a w) (h1 : N'.P = N.P) (h2 : N'.I = N.I) (h3 : N'.L = N.L) : Rb w0 K N' X a w :=
 { h with
  blk := by rw [h3]; exact h.blk
  prt := fun p hp => by rw [h1]; exact h.prt p hp
  inb := fun j hj => by rw [h2]; exact h.inb j hj
  dat := fun j x hj hx => by rw [h2] at hx; exact h.dat j x hj hx }
theorem Rca.congr {N'' : Mo} (h : Rca w0 K X a w N' w') (h1 : N''.P = N'.P) (h2 : N''.I = N'.I) (h3 : N''.L = N'.L) : Rca w0 K X a w N'' w' := ⟨h.1.congr h1 h2 h3, h.2⟩
theorem Rb.ports_at (h : Rb w0 K N X a w) {p : Nat} (hp : p < K.n) : w.cell? ⟨a.pb, p, none⟩ = some (.pointer (some ⟨a.ms p, 0, none⟩)) := by
 obtain ⟨c, h1, h2⟩ := h.prow
 exact h1.cell (h2 p hp)
theorem Rb.inb_at (h : Rb w0 K N X a w) {j : Nat} (hj : j < K.hn) : w.cell? ⟨a.ib, j, none⟩ = some (a.iv j) := by
 obtain ⟨c, h1, h2⟩ := h.irow
 exact h1.cell (h2 j hj)
def PuR (w0 : World) (K : Cf) (N : Mo) (X : Nat → Prop) (mb : Nat) (w : World) (p : Nat) (y : Bx) (e : Ending) (w' : World) : Prop := e = .returned (.int .i64 (dD K N p y).1) ∧ ∃ s c, Rc w0 K X mb w (putM K N p y s c) w'
set_option maxHeartbeats 8000000 in
set_option maxRecDepth 100000 in
theorem rb_put (h : RB w0 K N X mb w) {p : Nat} (hp : p < K.n) {y : Bx} (hy : Rok w0 y) (hf : Fw (N.P p)) (hl : 0 ≤ N.L ∧ N.L ≤ 1000000) :
  Calls Tryz.prog 36 #[ptr mb, .int .i64 (p : Nat), bv y] w (PuR w0 K N X mb w p y) := by
 unfold PuR
 obtain ⟨a, rfl, h⟩ := h
 obtain ⟨R, hR, hRX⟩ := h.prt p hp
 have HH := Lib.hid h
 have HRP := Lib.hid hR
 have HRX := Lib.hid hRX
 have PU := Lib.hid fun (w1 : World) (k : Kept (fun _ => False) w w1) => rp_put (hR.old k) hy hf
 have c1 := h.blk.cell (o := 1) rfl
 have cp := h.ports_at hp
 have hcn := h.few.1
 have hcm := h.few.2
 unfold maxLen at hcm
 have hmb := h.blk.lt
 have hpb : a.pb < w.heap.size := (h.xb _ h.xs.2.2.1).2
 clear h hR hRX hy hf
 obtain ⟨⟨x1, x2, x3, x4, x5, x6, x7, x8, x9, xd⟩, xa, xc, xq⟩ := y
 go_enter Tryz.func36, Tryz.ntmps36
 go_upto_region 1 with fail
 have hO := Blk.new w [.int .i64 x1, .int .i64 x2, .int .i64 x3, .int .i64 x4, .int .u64 (x5 : Int), .int .i64 x6, .int .i64 x7, .int .i64 x8, .int .i64 x9, .slice xa xd.length xc, .int .i64 xq] 88
 have hkk := (Kept.refl (fun _ => False) w).alloc (.cells [.int .i64 x1, .int .i64 x2, .int .i64 x3, .int .i64 x4, .int .u64 (x5 : Int), .int .i64 x6, .int .i64 x7, .int .i64 x8, .int .i64 x9, .slice xa xd.length xc, .int .i64 xq].toArray 88)
 dsimp only [List.toArray] at hO hkk
 have c1 := (HH.out.old hkk).blk.cell (o := 1) rfl
 have cp := (HH.out.old hkk).ports_at hp
 have HK := Lib.hid hkk
 generalize w.alloc (.cells #[.int .i64 x1, .int .i64 x2, .int .i64 x3, .int .i64 x4, .int .u64 (x5 : Int), .int .i64 x6, .int .i64 x7, .int .i64 x8, .int .i64 x9, .slice xa xd.length xc, .int .i64 xq] 88) = w1 at *
 obtain ⟨ob, hob⟩ : ∃ ob, w.heap.size = ob := ⟨_, rfl⟩
 rw [hob] at hO
 simp only [hob]
 clear hob hkk
 obtain ⟨e0, e1, e2, e3, e4, e5, e6, e7, e8, e9, e10⟩ := cs11 hO
 clear hO
 go_region_with (first | (go_at_call 65; (with_reducible refine Calls.mono (PU.out _ (by first | exact HK.out | exact HK.out.drew)) ?_); rintro e w3 ⟨rfl, hPP⟩))
 all_goals
  have HM : Hid (∃ s c, Rca w0 K X a w { N with P := upd N.P p (puP K (N.P p) ⟨⟨x1, x2, x3, x4, x5, x6, x7, x8, x9, xd⟩, xa, xc, xq⟩ s c) } w3) := Lib.hid (by
   obtain ⟨s, c, R', h1, h2⟩ := hPP
   exact ⟨s, c, Rca.behind HH.out (by first | exact HK.out | exact HK.out.drew) (Rca.port (HH.out.old (by first | exact HK.out | exact HK.out.drew)) hp (HRP.out.old (by first | exact HK.out | exact HK.out.drew)) HRX.out h1 h2)⟩)
  clear hPP e0 e1 e2 e3 e4 e5 e6 e7 e8 e9 e10 c1 cp PU
  obtain ⟨d, hd⟩ : ∃ d, (putD K.room K.most K.trim (N.P p) ⟨⟨x1, x2, x3, x4, x5, x6, x7, x8, x9, xd⟩, xa, xc, xq⟩).1 = d := ⟨_, rfl⟩
  have HD : Hid ((dD K N p ⟨⟨x1, x2, x3, x4, x5, x6, x7, x8, x9, xd⟩, xa, xc, xq⟩).1 = d) := Lib.hid hd
  rw [hd]
  clear hd
  obtain ⟨s, c, hm⟩ := HM.out
  have f3 := hm.1.blk.cell (o := 3) rfl
  have g3 := hm.1.blk.frozen 3
  have b3 := hm.1.blk.lt
  have hw : IntKind.i64.wrap (N.L + 1) = N.L + 1 := by rw [IntKind.wrap_i64]; omega
  have HM2 := Lib.hid hm
  clear hm HM
  by_cases h3 : d = 3
  ·subst h3
   go_wp2_with fail
   go_ret
   exact ⟨by rw [HD.out]; rfl, s, c, Rca.rc (Rca.congr (Rca.setL HH.out HM2.out (N.L + 1)) rfl rfl (by show (if (dD K N p _).1 = 3 then _ else _) = _; rw [HD.out, if_pos rfl]))⟩
  ·have h3' : (d == 3) = false := by rw [beq_eq_false_iff_ne]; exact h3
   go_wp2_with fail
   go_ret
   exact ⟨by rw [HD.out]; rfl, s, c, Rca.rc (Rca.congr (Rca.old HH.out HM2.out (by first | exact Kept.refl _ _ | exact (Kept.refl _ _).drew)) rfl rfl (by show (if (dD K N p _).1 = 3 then _ else _) = _; rw [HD.out, if_neg h3]))⟩
end Go.Proofs.YtpogpibjkolioaaGreat.Fc

