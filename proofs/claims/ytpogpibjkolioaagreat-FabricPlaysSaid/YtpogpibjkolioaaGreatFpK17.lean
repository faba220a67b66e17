/- A fabric's Send. Conditions: each theorem's own. -/
import Derived.Test.YtpogpibjkolioaaGreatFpK14
import Derived.Test.YtpogpibjkolioaaGreatFpK16
import Derived.Test.YtpogpibjkolioaaGreatFpK15
set_option linter.unusedVariables false
set_option linter.unusedSimpArgs false
namespace Go.Proofs.YtpogpibjkolioaaGreat.Fb
open Go.RowKit Hp QuM QuN Rw Qu NumM NumC Po Fo FbM TpM Tp
attribute [local go_sem ↓] Go.wp_at_zero Go.wp_at_succ
variable {w0 w w' : World} {K : Cf} {a : Ad} {M : Mo}
theorem wcheck_any (x : Bx) (w : World) : Calls Tryz.prog 32 #[fv x] w fun e w' => e = .returned (.int .i64 (WrM.chk x.f)) ∧ Kept (fun _ => False) w w' := Wr.check_any x.f x.s x.c w
theorem PutF.before {p : Nat} {x : Bx} {w1 : World} (k : Kept (fun _ => False) w w1) (h : PutF w0 K a M w1 p x w') : PutF w0 K a M w p x w' := by
 obtain ⟨s, c, a', h1, h2, h3⟩ := h
 exact ⟨s, c, a', h1, next_in k h2, h3⟩
theorem PutF.old {p : Nat} {x : Bx} {w1 : World} (h : PutF w0 K a M w p x w') (k : Kept (fun _ => False) w' w1) : PutF w0 K a M w p x w1 := by
 obtain ⟨s, c, a', h1, h2, h3⟩ := h
 exact ⟨s, c, a', h1.old k, nxt h2 ⟨k.mono (fun _ _ f => f.elim), fun i hi => Or.inl hi⟩, h3⟩
def NoS (K : Cf) (J : Int) (f : WrM.Frm) : Prop := (J < 0 ∨ K.H ≤ J) ∨ ((0 ≤ J ∧ J < K.H) ∧ ¬ WrM.Ok f) ∨ ((0 ≤ J ∧ J < K.H) ∧ WrM.Ok f ∧ (f.dst < 0 ∨ K.H ≤ f.dst)) ∨ ((0 ≤ J ∧ J < K.H) ∧ WrM.Ok f ∧ (0 ≤ f.dst ∧ f.dst < K.H) ∧ f.dst = J)
theorem send_or (K : Cf) (J : Int) (f : WrM.Frm) : NoS K J f ∨ ((0 ≤ J ∧ J < K.H) ∧ WrM.Ok f ∧ (0 ≤ f.dst ∧ f.dst < K.H) ∧ f.dst ≠ J) := by
 unfold NoS
 by_cases h1 : J < 0 ∨ K.H ≤ J
 ·exact Or.inl (Or.inl h1)
 have h1' : 0 ≤ J ∧ J < K.H := by omega
 by_cases h2 : WrM.Ok f
 ·by_cases h3 : f.dst < 0 ∨ K.H ≤ f.dst
  ·exact Or.inl (Or.inr (Or.inr (Or.inl ⟨h1', h2, h3⟩)))
  ·have h3' : 0 ≤ f.dst ∧ f.dst < K.H := by omega
   by_cases h4 : f.dst = J
   ·exact Or.inl (Or.inr (Or.inr (Or.inr ⟨h1', h2, h3', h4⟩)))
   ·exact Or.inr ⟨h1', h2, h3', h4⟩
 ·exact Or.inl (Or.inr (Or.inl ⟨h1', h2⟩))
set_option maxRecDepth 100000 in
set_option maxHeartbeats 4000000 in
theorem send_no (h : Fab w0 K a M w) {J q : Int} {x : Bx} (hn : NoS K J x.f) :
  Calls Tryz.prog 8 #[ptr a.fb, .int .i64 J, fv x, .int .i64 q] w fun e w' => e = .returned (.tuple #[.int .i64 0, .int .i64 1]) ∧ Kept (fun _ => False) w w' := by
 have hH := h.cf.hn
 have HY := Lib.hid fun (j : Nat) (hj : j < K.hn) (w' : World) (kk : Kept (fun _ => False) w w') => host_yes (h.old kk) hj
 have HNo := Lib.hid fun (J : Int) (hj : J < 0 ∨ (K.hn : Int) ≤ J) (w' : World) (kk : Kept (fun _ => False) w w') => host_no (h.old kk) hj
 have CK := Lib.hid fun (w' : World) => wcheck_any x w'
 unfold NoS at hn
 clear h
 obtain ⟨⟨x1, x2, x3, x4, x5, x6, x7, x8, x9, xd⟩, xa, xc, xq⟩ := x
 dsimp only at hn
 rcases hn with h1 | ⟨h1, h2⟩ | ⟨h1, h2, h3⟩ | ⟨h1, h2, h3, h4⟩
 ·have HA := Lib.hid (HNo.out J (by omega))
  clear HY HNo CK
  go_enter Tryz.func8, Tryz.ntmps8
  go_upto_region 1 with fail
  have hkk := (Kept.refl (fun _ => False) w).alloc (.cells [.int .i64 x1, .int .i64 x2, .int .i64 x3, .int .i64 x4, .int .u64 (x5 : Int), .int .i64 x6, .int .i64 x7, .int .i64 x8, .int .i64 x9, .slice xa xd.length xc].toArray 35)
  dsimp only [List.toArray] at hkk
  have HK := Lib.hid hkk
  generalize w.alloc (.cells #[.int .i64 x1, .int .i64 x2, .int .i64 x3, .int .i64 x4, .int .u64 (x5 : Int), .int .i64 x6, .int .i64 x7, .int .i64 x8, .int .i64 x9, .slice xa xd.length xc] 35) = w1 at *
  clear hkk
  go_wp2_with fail
  with_reducible refine Calls.mono (HA.out _ HK.out) ?_
  rintro e w3 ⟨rfl, rfl⟩
  go_wp2_with fail
  exact bodyPost_ret (v := .tuple #[.int .i64 0, .int .i64 1]) (by simp [results, Tryz.results8, go_sem]) rfl ⟨rfl, HK.out⟩
 ·obtain ⟨j, rfl⟩ := Int.eq_ofNat_of_zero_le h1.1
  have HA := Lib.hid (HY.out j (by omega))
  rw [WrM.chk_no h2] at CK
  clear HY HNo
  go_enter Tryz.func8, Tryz.ntmps8
  go_upto_region 1 with fail
  have hO := Blk.new w [.int .i64 x1, .int .i64 x2, .int .i64 x3, .int .i64 x4, .int .u64 (x5 : Int), .int .i64 x6, .int .i64 x7, .int .i64 x8, .int .i64 x9, .slice xa xd.length xc] 35
  have hkk := (Kept.refl (fun _ => False) w).alloc (.cells [.int .i64 x1, .int .i64 x2, .int .i64 x3, .int .i64 x4, .int .u64 (x5 : Int), .int .i64 x6, .int .i64 x7, .int .i64 x8, .int .i64 x9, .slice xa xd.length xc].toArray 35)
  dsimp only [List.toArray] at hO hkk
  have HK := Lib.hid hkk
  generalize w.alloc (.cells #[.int .i64 x1, .int .i64 x2, .int .i64 x3, .int .i64 x4, .int .u64 (x5 : Int), .int .i64 x6, .int .i64 x7, .int .i64 x8, .int .i64 x9, .slice xa xd.length xc] 35) = w1 at *
  generalize w.heap.size = ob at *
  obtain ⟨e0, e1, e2, e3, e4, e5, e6, e7, e8, e9⟩ := cs10 hO
  clear hkk hO
  go_wp2_with fail
  with_reducible refine Calls.mono (HA.out _ HK.out) ?_
  rintro e w3 ⟨rfl, rfl⟩
  go_wp2_with fail
  with_reducible refine Calls.mono (CK.out _) ?_
  rintro e w3 ⟨rfl, hk3⟩
  have HK3 := Lib.hid (HK.out.trans hk3)
  clear hk3 e0 e1 e2 e3 e4 e5 e6 e7 e8 e9
  go_wp2_with fail
  exact bodyPost_ret (v := .tuple #[.int .i64 0, .int .i64 1]) (by simp [results, Tryz.results8, go_sem]) rfl ⟨rfl, HK3.out⟩
 ·obtain ⟨j, rfl⟩ := Int.eq_ofNat_of_zero_le h1.1
  have HA := Lib.hid (HY.out j (by omega))
  have HB := Lib.hid (HNo.out x3 (by omega))
  rw [WrM.chk_yes h2] at CK
  clear HY HNo
  go_enter Tryz.func8, Tryz.ntmps8
  go_upto_region 1 with fail
  have hO := Blk.new w [.int .i64 x1, .int .i64 x2, .int .i64 x3, .int .i64 x4, .int .u64 (x5 : Int), .int .i64 x6, .int .i64 x7, .int .i64 x8, .int .i64 x9, .slice xa xd.length xc] 35
  have hkk := (Kept.refl (fun _ => False) w).alloc (.cells [.int .i64 x1, .int .i64 x2, .int .i64 x3, .int .i64 x4, .int .u64 (x5 : Int), .int .i64 x6, .int .i64 x7, .int .i64 x8, .int .i64 x9, .slice xa xd.length xc].toArray 35)
  dsimp only [List.toArray] at hO hkk
  have HK := Lib.hid hkk
  generalize w.alloc (.cells #[.int .i64 x1, .int .i64 x2, .int .i64 x3, .int .i64 x4, .int .u64 (x5 : Int), .int .i64 x6, .int .i64 x7, .int .i64 x8, .int .i64 x9, .slice xa xd.length xc] 35) = w1 at *
  generalize w.heap.size = ob at *
  obtain ⟨e0, e1, e2, e3, e4, e5, e6, e7, e8, e9⟩ := cs10 hO
  have HO := Lib.hid hO
  clear hkk hO
  go_wp2_with fail
  with_reducible refine Calls.mono (HA.out _ HK.out) ?_
  rintro e w3 ⟨rfl, rfl⟩
  go_wp2_with fail
  with_reducible refine Calls.mono (CK.out _) ?_
  rintro e w3 ⟨rfl, hk3⟩
  have HK3 := Lib.hid (HK.out.trans hk3)
  have r2 := (hk3.blk HO.out (fun f => f)).cell (o := 2) rfl
  clear hk3 e0 e1 e2 e3 e4 e5 e6 e7 e8 e9
  go_wp2_with fail
  with_reducible refine Calls.mono (HB.out _ HK3.out) ?_
  rintro e w4 ⟨rfl, rfl⟩
  go_wp2_with fail
  exact bodyPost_ret (v := .tuple #[.int .i64 0, .int .i64 1]) (by simp [results, Tryz.results8, go_sem]) rfl ⟨rfl, HK3.out⟩
 ·obtain ⟨j, rfl⟩ := Int.eq_ofNat_of_zero_le h1.1
  have HA := Lib.hid (HY.out j (by omega))
  subst h4
  rw [WrM.chk_yes h2] at CK
  clear HY HNo
  go_enter Tryz.func8, Tryz.ntmps8
  go_upto_region 1 with fail
  have hO := Blk.new w [.int .i64 x1, .int .i64 x2, .int .i64 (j : Nat), .int .i64 x4, .int .u64 (x5 : Int), .int .i64 x6, .int .i64 x7, .int .i64 x8, .int .i64 x9, .slice xa xd.length xc] 35
  have hkk := (Kept.refl (fun _ => False) w).alloc (.cells [.int .i64 x1, .int .i64 x2, .int .i64 (j : Nat), .int .i64 x4, .int .u64 (x5 : Int), .int .i64 x6, .int .i64 x7, .int .i64 x8, .int .i64 x9, .slice xa xd.length xc].toArray 35)
  dsimp only [List.toArray] at hO hkk
  have HK := Lib.hid hkk
  generalize w.alloc (.cells #[.int .i64 x1, .int .i64 x2, .int .i64 (j : Nat), .int .i64 x4, .int .u64 (x5 : Int), .int .i64 x6, .int .i64 x7, .int .i64 x8, .int .i64 x9, .slice xa xd.length xc] 35) = w1 at *
  generalize w.heap.size = ob at *
  obtain ⟨e0, e1, e2, e3, e4, e5, e6, e7, e8, e9⟩ := cs10 hO
  have HO := Lib.hid hO
  clear hkk hO
  go_wp2_with fail
  with_reducible refine Calls.mono (HA.out _ HK.out) ?_
  rintro e w3 ⟨rfl, rfl⟩
  go_wp2_with fail
  with_reducible refine Calls.mono (CK.out _) ?_
  rintro e w3 ⟨rfl, hk3⟩
  have HK3 := Lib.hid (HK.out.trans hk3)
  have r2 := (hk3.blk HO.out (fun f => f)).cell (o := 2) rfl
  clear hk3 e0 e1 e2 e3 e4 e5 e6 e7 e8 e9
  go_wp2_with fail
  with_reducible refine Calls.mono (HA.out _ HK3.out) ?_
  rintro e w4 ⟨rfl, rfl⟩
  go_wp2_with fail
  exact bodyPost_ret (v := .tuple #[.int .i64 0, .int .i64 1]) (by simp [results, Tryz.results8, go_sem]) rfl ⟨rfl, HK3.out⟩
set_option maxRecDepth 100000 in
set_option maxHeartbeats 4000000 in
theorem send_yes (h : Fab w0 K a M w) (hb : Bd K M) {J q : Int} {x : Bx} (hr : Rd w x) (hx : (0 ≤ J ∧ J < K.H) ∧ WrM.Ok x.f ∧ (0 ≤ x.f.dst ∧ x.f.dst < K.H) ∧ x.f.dst ≠ J) :
  Calls Tryz.prog 8 #[ptr a.fb, .int .i64 J, fv x, .int .i64 q] w fun e w' => e = .returned (.tuple #[.int .i64 (dD K M J.toNat ⟨x.f, x.s, x.c, q⟩).1, .int .i64 0]) ∧ PutF w0 K a M w J.toNat ⟨x.f, x.s, x.c, q⟩ w' := by
 obtain ⟨h1, h2, h3, h4⟩ := hx
 obtain ⟨j, rfl⟩ := Int.eq_ofNat_of_zero_le h1.1
 rw [Int.toNat_natCast]
 have hH := h.cf.hn
 have hn := h.cf.le
 have hj : j < K.hn := by omega
 obtain ⟨d, hd⟩ := Int.eq_ofNat_of_zero_le h3.1
 have hdn : d < K.hn := by omega
 have hs : Sane x := by
  have := h2.1
  show 0 ≤ (if x.f.kind = 1 then x.f.len else 0) ∧ (if x.f.kind = 1 then x.f.len else 0) ≤ 1000000
  unfold WrM.Fit at this
  split <;> omega
 have hg : Go K ⟨x.f, x.s, x.c, q⟩ := ⟨h3, by have := h2.1; unfold WrM.Fit at this; dsimp only; omega⟩
 have HA := Lib.hid fun (w' : World) (kk : Kept (fun _ => False) w w') => host_yes (h.old kk) hj
 have HB := Lib.hid fun (w' : World) (kk : Kept (fun _ => False) w w') => host_yes (h.old kk) hdn
 have UP := Lib.hid fun (w' : World) (kk : Kept (fun _ => False) w w') => up_yes (h.old kk).nv (x := (j : Int)) h1.1 h1.2
 have PU := Lib.hid fun (w' : World) (kk : Kept (fun _ => False) w w') => fput_any (p := j) (h.old kk) hb (by omega) (x := ⟨x.f, x.s, x.c, q⟩) ⟨(hr.old kk).1, (hr.old kk).2⟩ hs hg
 have CK := Lib.hid fun (w' : World) => wcheck_any x w'
 have c0 := h.blk.cell (o := 0) rfl
 have HH := Lib.hid h
 rw [WrM.chk_yes h2] at CK
 have hne : ¬ ((d : Int) = (j : Int)) := by omega
 have hne2 : ¬ d = j := by omega
 have hne3 : ((d : Int) == (j : Int)) = false := by rw [beq_eq_false_iff_ne]; exact hne
 have hfb := (h.bound (i := a.fb) (Or.inl rfl)).2
 have HB0 := Lib.hid h.blk
 clear h hb hr hs hg h2 h3 h1 h4 hH hn hj hdn c0
 obtain ⟨⟨x1, x2, x3, x4, x5, x6, x7, x8, x9, xd⟩, xa, xc, xq⟩ := x
 dsimp only at hd
 subst hd
 go_enter Tryz.func8, Tryz.ntmps8
 go_upto_region 1 with fail
 have hO := Blk.new w [.int .i64 x1, .int .i64 x2, .int .i64 (d : Nat), .int .i64 x4, .int .u64 (x5 : Int), .int .i64 x6, .int .i64 x7, .int .i64 x8, .int .i64 x9, .slice xa xd.length xc] 35
 have hkk := (Kept.refl (fun _ => False) w).alloc (.cells [.int .i64 x1, .int .i64 x2, .int .i64 (d : Nat), .int .i64 x4, .int .u64 (x5 : Int), .int .i64 x6, .int .i64 x7, .int .i64 x8, .int .i64 x9, .slice xa xd.length xc].toArray 35)
 dsimp only [List.toArray] at hO hkk
 have HK := Lib.hid hkk
 generalize w.alloc (.cells #[.int .i64 x1, .int .i64 x2, .int .i64 (d : Nat), .int .i64 x4, .int .u64 (x5 : Int), .int .i64 x6, .int .i64 x7, .int .i64 x8, .int .i64 x9, .slice xa xd.length xc] 35) = w1 at *
 generalize w.heap.size = ob at *
 obtain ⟨e0, e1, e2, e3, e4, e5, e6, e7, e8, e9⟩ := cs10 hO
 have HO := Lib.hid hO
 clear hkk hO
 go_wp2_with fail
 with_reducible refine Calls.mono (HA.out _ HK.out) ?_
 rintro e w3 ⟨rfl, rfl⟩
 go_wp2_with fail
 with_reducible refine Calls.mono (CK.out _) ?_
 rintro e w3 ⟨rfl, hk3⟩
 have HK3 := Lib.hid (HK.out.trans hk3)
 have hO3 := hk3.blk HO.out (fun f => f)
 clear hk3 e0 e1 e2 e3 e4 e5 e6 e7 e8 e9
 obtain ⟨r0, r1, r2, r3, r4, r5, r6, r7, r8, r9⟩ := cs10 hO3
 go_wp2_with fail
 with_reducible refine Calls.mono (HB.out _ HK3.out) ?_
 rintro e w4 ⟨rfl, rfl⟩
 have c0 := (HK3.out.blk HB0.out (fun f => f)).cell (o := 0) rfl
 clear hO3
 go_upto_region 3 with fail
 go_region_with (first | (go_at_call 34; (with_reducible refine Calls.mono (UP.out _ (by first | exact HK3.out | exact HK3.out.drew)) ?_); rintro e w5 ⟨rfl, rfl⟩) | (go_at_call 33; (with_reducible refine Calls.mono (PU.out _ (by first | exact HK3.out | exact HK3.out.drew)) ?_); rintro e w5 ⟨rfl, hPP⟩))
 all_goals
  have FIN := Lib.hid (PutF.before (by first | exact HK3.out | exact HK3.out.drew) hPP)
  clear hPP r0 r1 r2 r3 r4 r5 r6 r7 r8 r9 c0 PU UP HA HB CK
  go_wp2_with fail
  exact bodyPost_ret (v := .tuple #[.int .i64 (putD K.room K.most K.trim (M.P j) ⟨⟨x1, x2, (d : Nat), x4, x5, x6, x7, x8, x9, xd⟩, xa, xc, q⟩).1, .int .i64 0]) (by simp [results, Tryz.results8, go_sem]) rfl ⟨rfl, by first | exact FIN.out | exact FIN.out.old (Kept.refl _ _).drew⟩
end Go.Proofs.YtpogpibjkolioaaGreat.Fb

/- A fabric's Drop and Double. Conditions: each theorem's own. -/
namespace Go.Proofs.YtpogpibjkolioaaGreat.Fb
open Go.RowKit Hp QuM QuN Rw Qu NumM NumC Po Fo FbM TpM Tp
attribute [local go_sem ↓] Go.wp_at_zero Go.wp_at_succ
variable {w0 w w' : World} {K : Cf} {a : Ad} {M : Mo}
def drM (M : Mo) (p i at_ : Nat) (x : Bx) : Mo := { P := upd M.P p (drP (M.P p) i at_), I := M.I, B := cB M.B x (-1), L := M.L + 1 }
set_option maxRecDepth 100000 in
set_option maxHeartbeats 4000000 in
theorem fdrop_of {p : Value} {J k : Int} {q : Value} (hP : ∀ w', Kept (fun _ => False) w w' → Calls Tryz.prog 37 #[p, .int .i64 J] w' fun e w'' => e = .returned q ∧ w' = w'')
  (hD : ∀ w', Kept (fun _ => False) w w' → Calls Tryz.prog 45 #[q, .int .i64 k] w' fun e w'' => e = .returned (.tuple #[bv zB, .bool false]) ∧ Kept (fun _ => False) w' w'') :
  Calls Tryz.prog 15 #[p, .int .i64 J, .int .i64 k] w fun e w' => e = .returned (.int .i64 5) ∧ Kept (fun _ => False) w w' := by
 have PT := Lib.hid hP
 have DR := Lib.hid hD
 clear hP hD
 go_enter Tryz.func15, Tryz.ntmps15
 go_wp2_with fail
 with_reducible refine Calls.mono (PT.out _ (Kept.refl _ _)) ?_
 rintro e w3 ⟨rfl, rfl⟩
 go_wp2_with fail
 with_reducible refine Calls.mono (DR.out _ (Kept.refl _ _)) ?_
 rintro e w4 ⟨rfl, hk⟩
 have HK := Lib.hid (hk.alloc (.cells #[.int .i64 0, .int .i64 0, .int .i64 0, .int .i64 0, .int .u64 0, .int .i64 0, .int .i64 0, .int .i64 0, .int .i64 0, .slice none 0 0, .int .i64 0] 83))
 clear hk PT DR
 dsimp only [List.length_nil, Int.natCast_zero]
 go_wp2_with fail
 go_ret
 exact ⟨rfl, HK.out⟩
theorem fdrop_off (h : Fab w0 K a M w) {J k : Int} (hj : J < 0 ∨ (K.n : Int) ≤ J) : Calls Tryz.prog 15 #[ptr a.fb, .int .i64 J, .int .i64 k] w fun e w' => e = .returned (.int .i64 5) ∧ Kept (fun _ => False) w w' :=
 fdrop_of (fun w' kk => port_no (h.old kk) hj) (fun w' _ => drop_nil k w')
theorem fdrop_none (h : Fab w0 K a M w) (hb : Bd K M) {p : Nat} (hp : p < K.n) {k : Int} (hk : k < 0 ∨ ((accL (M.P p).ls (M.P p).cr 9).length : Int) ≤ k) (hk2 : k ≤ 9223372036854775807) : Calls Tryz.prog 15 #[ptr a.fb, .int .i64 (p : Nat), .int .i64 k] w fun e w' => e = .returned (.int .i64 5) ∧ Kept (fun _ => False) w w' := by
 obtain ⟨F', hps⟩ := (h.prt p hp).ps
 exact fdrop_of (fun w' kk => port_yes (h.old kk) hp) (fun w' kk => drop_no (hps.old kk) hk hk2 (Nat.le_of_lt (hb.n p hp)))
set_option maxRecDepth 100000 in
set_option maxHeartbeats 4000000 in
theorem fdrop_yes (h : Fab w0 K a M w) (hb : Bd K M) {p k : Nat} (hp : p < K.n) {x : Bx} (hx : (accL (M.P p).ls (M.P p).cr 9)[k]? = some x) (hg : Go K x) :
  Calls Tryz.prog 15 #[ptr a.fb, .int .i64 (p : Nat), .int .i64 (k : Nat)] w fun e w' => e = .returned (.int .i64 0) ∧ ∃ i at_, i < 9 ∧ (lnl (M.P p).ls (M.P p).cr i)[at_]? = some x ∧ (accL (M.P p).ls (M.P p).cr i).length + at_ = k ∧ FabN w0 K a (drM M p i at_ x) w w' := by
 have PT := Lib.hid (port_yes h hp)
 have DR := Lib.hid (Fo.drop_yes (h.prt p hp) hx (Nat.le_of_lt (hb.n p hp)))
 have HH := Lib.hid h
 have HG := Lib.hid hg
 have HBb := Lib.hid hb
 clear h hb hx hg
 obtain ⟨⟨x1, x2, x3, x4, x5, x6, x7, x8, x9, xd⟩, xa, xc, xq⟩ := x
 go_enter Tryz.func15, Tryz.ntmps15
 go_wp2_with fail
 with_reducible refine Calls.mono PT.out ?_
 rintro e w3 ⟨rfl, rfl⟩
 go_wp2_with fail
 with_reducible refine Calls.mono DR.out ?_
 rintro e w4 ⟨rfl, hrow, i, at_, F', hi, hat1, hat2, hat3, hPO, hN⟩
 have f1 := HH.out.turn hp (P' := drP (M.P p) i at_) hPO hN (fun y hy => Or.inl (in_dr hi hy))
 have n1 := own_turn HH.out hp hN
 have HF1 := Lib.hid f1
 have HN1 := Lib.hid n1
 have HAT := Lib.hid (And.intro hi (And.intro hat3 hat2))
 clear hrow hi hat1 hat2 hat3 hPO hN PT DR f1 n1
 go_upto_region 2 with fail
 have hO := Blk.new w4 [.int .i64 x1, .int .i64 x2, .int .i64 x3, .int .i64 x4, .int .u64 (x5 : Int), .int .i64 x6, .int .i64 x7, .int .i64 x8, .int .i64 x9, .slice xa xd.length xc, .int .i64 xq] 83
 have hkk := (Kept.refl (fun _ => False) w4).alloc (.cells [.int .i64 x1, .int .i64 x2, .int .i64 x3, .int .i64 x4, .int .u64 (x5 : Int), .int .i64 x6, .int .i64 x7, .int .i64 x8, .int .i64 x9, .slice xa xd.length xc, .int .i64 xq].toArray 83)
 dsimp only [List.toArray] at hO hkk
 have HK := Lib.hid hkk
 generalize w4.alloc (.cells #[.int .i64 x1, .int .i64 x2, .int .i64 x3, .int .i64 x4, .int .u64 (x5 : Int), .int .i64 x6, .int .i64 x7, .int .i64 x8, .int .i64 x9, .slice xa xd.length xc, .int .i64 xq] 83) = w5 at *
 generalize w4.heap.size = ob at *
 clear hkk
 obtain ⟨e0, e1, e2, e3, e4, e5, e6, e7, e8, e9, e10⟩ := cs11 hO
 clear hO
 have CN := Lib.hid fun (w' : World) (kk : Kept (fun _ => False) w5 w') => cnt_any (x := ⟨⟨x1, x2, x3, x4, x5, x6, x7, x8, x9, xd⟩, xa, xc, xq⟩) (k := -1) ((HF1.out.old HK.out).old kk) HG.out.d HG.out.l (Or.inr rfl) HBb.out.b
 go_wp2_with fail
 with_reducible refine Calls.mono (CN.out _ (Kept.refl _ _)) ?_
 rintro e w6 ⟨rfl, hF6, hk6⟩
 have f3 := hF6.blk.cell (o := 3) rfl
 have g3 := hF6.blk.frozen 3
 have hL := HBb.out.l
 have hw : IntKind.i64.wrap (M.L + 1) = M.L + 1 := by rw [IntKind.wrap_i64]; omega
 have R : Hid (∀ w7, Kept (fun _ => False) w6 w7 → FabN w0 K a (drM M p i at_ ⟨⟨x1, x2, x3, x4, x5, x6, x7, x8, x9, xd⟩, xa, xc, xq⟩) w (w7.setCell ⟨a.fb, 3, none⟩ (.int .i64 (M.L + 1)))) := Lib.hid fun w7 kk => by
  have h5 := (hF6.old kk).setL (M.L + 1)
  refine ⟨_, h5.1, nxt HN1.out ⟨((HK.out.mono (fun _ _ f => f.elim)).trans ((hk6.mono (fun i _ e => Or.inr (Or.inr (Or.inr (Or.inl e))))).trans (kk.mono (fun _ _ f => f.elim)))).trans (h5.2.mono (fun i _ e => Or.inl e)), fun i hi => Or.inl hi⟩, rfl⟩
 clear hF6 hk6 CN hL e0 e1 e2 e3 e4 e5 e6 e7 e8 e9 e10
 dsimp only at f3 g3
 go_wp2_with fail
 go_ret
 exact ⟨rfl, i, at_, HAT.out.1, HAT.out.2.1, HAT.out.2.2, by first | exact R.out _ (Kept.refl _ _) | exact R.out _ (Kept.refl _ _).drew⟩
end Go.Proofs.YtpogpibjkolioaaGreat.Fb

/- A fabric's books: the bytes that wait for each host, how many frames there are, all in all; each frame where it may be. Conditions: each theorem's own. -/
namespace Go.Proofs.YtpogpibjkolioaaGreat.Fb
open Go.RowKit Hp QuM QuN Rw Qu NumM NumC Po Fo FbM TpM Tp
def li (I : Nat → List Bx) : Nat → Int
 | 0 => 0
 | n + 1 => li I n + (I n).length
theorem li_out {I : Nat → List Bx} {k : Nat} {L : List Bx} : ∀ {n : Nat}, n ≤ k → li (upd I k L) n = li I n
 | 0, _ => rfl
 | n + 1, h => by unfold li; rw [li_out (by omega), upd_ne I L (by omega)]
theorem li_upd {I : Nat → List Bx} {k : Nat} {L : List Bx} : ∀ {n : Nat}, k < n → li (upd I k L) n = li I n - (I k).length + L.length
 | 0, h => by omega
 | n + 1, h => by
  unfold li
  by_cases e : k = n
  ·subst e; rw [li_out (Nat.le_refl _), upd_self]; omega
  ·rw [li_upd (by omega), upd_ne I L (fun e2 => e e2.symm)]; omega
theorem li_nonneg (I : Nat → List Bx) : ∀ n, 0 ≤ li I n
 | 0 => Int.le_refl _
 | n + 1 => by have := li_nonneg I n; unfold li; omega
theorem le_li {I : Nat → List Bx} {k : Nat} : ∀ {n : Nat}, k < n → ((I k).length : Int) ≤ li I n
 | 0, h => by omega
 | n + 1, h => by
  have h1 := li_nonneg I n
  unfold li
  by_cases e : k = n
  ·subst e; omega
  ·have := le_li (I := I) (k := k) (n := n) (by omega); omega
def al (K : Cf) (M : Mo) : Int := M.L + Wt (fun _ => 1) M.P K.n + li M.I K.hn
structure Iv (K : Cf) (M : Mo) (c : Int) : Prop where
 ok : K.Ok
 fine : ∀ p, p < K.n → ∀ x, In (M.P p).ls (M.P p).cr x → Fine K.H K.S p x
 bytes : ∀ j : Nat, M.B j = Wt (gB (j : Int)) M.P K.n
 lost : 0 ≤ M.L
 cnt : al K M = c
variable {K : Cf} {M : Mo} {c : Int}
theorem Iv.ones (h : Iv K M c) : 0 ≤ Wt (fun _ => 1) M.P K.n := Wt_nonneg fun p hp x hx => by decide
theorem gB_in {H S : Int} {p : Nat} {x : Bx} (h : Fine H S p x) (j : Int) : 0 ≤ gB j x ∧ gB j x ≤ 1500 := by
 unfold gB
 have := h.2
 split <;> omega
theorem sm_mul (g : Bx → Int) (k : Int) : ∀ L : List Bx, sm (fun x => k * g x) L = k * sm g L
 | [] => by show (0 : Int) = k * 0; omega
 | x :: L => by show k * g x + sm (fun x => k * g x) L = k * (g x + sm g L); rw [sm_mul g k L, Int.mul_add]
theorem tw_mul (g : Bx → Int) (k : Int) (ls : Nat → List Bx) : ∀ n, tw (fun x => k * g x) ls n = k * tw g ls n
 | 0 => by show (0 : Int) = k * 0; omega
 | n + 1 => by show tw (fun x => k * g x) ls n + sm (fun x => k * g x) (ls n) = k * (tw g ls n + sm g (ls n)); rw [tw_mul g k ls n, sm_mul, Int.mul_add]
theorem Wt_mul (g : Bx → Int) (k : Int) (P : Nat → Pt) : ∀ n, Wt (fun x => k * g x) P n = k * Wt g P n
 | 0 => by show (0 : Int) = k * 0; omega
 | n + 1 => by
  show Wt (fun x => k * g x) P n + wt (fun x => k * g x) (P n) = k * (Wt g P n + wt g (P n))
  have : wt (fun x => k * g x) (P n) = k * wt g (P n) := by unfold wt; rw [tw_mul, sm_mul, Int.mul_add]
  rw [Wt_mul g k P n, this, Int.mul_add]
theorem Iv.bd (h : Iv K M c) (hc : c ≤ 40000) : Bd K M := by
 have h1 := h.ones
 have h2 := li_nonneg M.I K.hn
 have h3 := h.cnt
 have h4 := h.lost
 unfold al at h3
 refine ⟨fun j => ?_, ⟨h4, by omega⟩, fun p hp => ?_, fun j hj => ?_⟩
 ·rw [h.bytes]
  have a := Wt_nonneg (g := gB (j : Int)) (M := M.P) (n := K.n) fun p hp x hx => (gB_in (h.fine p hp x hx) j).1
  have b := Wt_le (g := gB (j : Int)) (g' := fun x => 1500 * (fun _ => (1 : Int)) x) (M := M.P) (n := K.n) fun p hp x hx => by
   have := (gB_in (h.fine p hp x hx) j).2
   show gB j x ≤ 1500 * 1
   omega
  rw [Wt_mul] at b
  omega
 ·have := wt_le_Wt (g := fun _ => 1) (M := M.P) (p := p) (n := K.n) hp fun q hq x hx => by decide
  rw [wt_one] at this
  omega
 ·have := le_li (I := M.I) hj
  omega
theorem cB_eq (B : Nat → Int) (x : Bx) (k : Int) (hd : 0 ≤ x.f.dst) (j : Nat) : cB B x k j = B j + k * gB (j : Int) x := by
 unfold cB gB
 by_cases h : x.f.kind = 1
 ·rw [if_pos h]
  by_cases e : j = x.f.dst.toNat
  ·subst e
   rw [upd_self, if_pos ⟨h, by omega⟩]
  ·rw [upd_ne _ _ e, if_neg (fun f => e (by omega))]
   rw [Int.mul_zero, Int.add_zero]
 ·rw [if_neg h, if_neg (fun f => h f.1), Int.mul_zero, Int.add_zero]
theorem itF_dst (r : Int) (x : Bx) : (itF r x).dst = x.f.dst ∧ (itF r x).len = x.f.len := by
 unfold itF
 split <;> exact ⟨rfl, rfl⟩
theorem Iv.put (h : Iv K M c) {p : Nat} (hp : p < K.n) {x : Bx} (hf : Fine K.H K.S p x) (s : Option Addr) (cc : Nat) : Iv K (putM K M p x s cc) (c + 1) := by
 have hd := putD_in K.room K.most K.trim (M.P p) x
 have hw : ∀ g : Bx → Int, Wt g (upd M.P p (puP K (M.P p) x s cc)) K.n = Wt g M.P K.n + if (dD K M p x).2 < 9 then g ⟨itF (dD K M p x).1 x, s, cc, x.q⟩ else 0 := fun g => by
  rw [Wt_upd hp, wt_add]
  show Wt g M.P K.n - wt g (M.P p) + (wt g (M.P p) + if (dD K M p x).2 < 9 then g ⟨itF (dD K M p x).1 x, s, cc, x.q⟩ else 0) = _
  omega
 have hfine : ∀ q, q < K.n → ∀ y, In ((putM K M p x s cc).P q).ls ((putM K M p x s cc).P q).cr y → Fine K.H K.S q y := fun q hq y hy => by
  by_cases e : q = p
  ·subst e
   have hy' : In (upd M.P q (puP K (M.P q) x s cc) q).ls (upd M.P q (puP K (M.P q) x s cc) q).cr y := hy
   rw [upd_self] at hy'
   rcases in_add hy' with h1 | ⟨_, rfl⟩
   ·exact h.fine q hq y h1
   ·have := itF_dst (dD K M q x).1 x
    refine ⟨?_, ?_⟩
    ·show okAt K.H K.S q (itF (dD K M q x).1 x).dst; rw [this.1]; exact hf.1
    ·show 0 ≤ (itF (dD K M q x).1 x).len ∧ (itF (dD K M q x).1 x).len ≤ 1500; rw [this.2]; exact hf.2
  ·have hy' : In (upd M.P p (puP K (M.P p) x s cc) q).ls (upd M.P p (puP K (M.P p) x s cc) q).cr y := hy
   rw [upd_ne _ _ e] at hy'
   exact h.fine q hq y hy'
 have hcnt := h.cnt
 unfold al at hcnt
 rcases hd with ⟨h3, h9⟩ | ⟨h1 | ⟨h2, hk⟩, h9⟩
 ·refine ⟨h.ok, hfine, fun j => ?_, ?_, ?_⟩
  ·rw [putM_3 h3]
   show M.B j = Wt _ (upd M.P p _) K.n
   rw [hw, if_neg (by show ¬ (putD K.room K.most K.trim (M.P p) x).2 < 9; omega), Int.add_zero]
   exact h.bytes j
  ·rw [putM_3 h3]; have := h.lost; show 0 ≤ M.L + 1; omega
  ·rw [putM_3 h3]
   show M.L + 1 + Wt _ (upd M.P p _) K.n + li M.I K.hn = _
   rw [hw, if_neg (by show ¬ (putD K.room K.most K.trim (M.P p) x).2 < 9; omega)]
   omega
 ·refine ⟨h.ok, hfine, fun j => ?_, ?_, ?_⟩
  ·rw [putM_1 h1]
   show cB M.B x 1 j = Wt _ (upd M.P p _) K.n
   rw [cB_eq _ _ _ hf.1.2.2.1, hw, if_pos h9, h.bytes j]
   have e1 : itF (dD K M p x).1 x = x.f := by unfold itF; rw [if_neg (by show ¬ (putD K.room K.most K.trim (M.P p) x).1 = 2; omega)]
   rw [e1]
   show _ + 1 * gB j x = _ + gB j x
   omega
  ·rw [putM_1 h1]; exact h.lost
  ·rw [putM_1 h1]
   show M.L + Wt _ (upd M.P p _) K.n + li M.I K.hn = _
   rw [hw, if_pos h9]
   omega
 ·refine ⟨h.ok, hfine, fun j => ?_, ?_, ?_⟩
  ·rw [putM_2 h2]
   show M.B j = Wt _ (upd M.P p _) K.n
   rw [hw, if_pos h9, h.bytes j]
   have e1 : itF (dD K M p x).1 x = (trX x).f := by unfold itF; rw [if_pos h2]
   rw [e1]
   have : gB (j : Int) ⟨(trX x).f, s, cc, x.q⟩ = 0 := by
    unfold gB
    rw [if_neg (fun f => absurd (show (7 : Int) = 1 from f.1) (by decide))]
   rw [this]; omega
  ·rw [putM_2 h2]; exact h.lost
  ·rw [putM_2 h2]
   show M.L + Wt _ (upd M.P p _) K.n + li M.I K.hn = _
   rw [hw, if_pos h9]
   omega
theorem fine_upd (h : Iv K M c) {p : Nat} {P' : Pt} (hin : ∀ y, In P'.ls P'.cr y → In (M.P p).ls (M.P p).cr y) : ∀ q, q < K.n → ∀ y, In (upd M.P p P' q).ls (upd M.P p P' q).cr y → Fine K.H K.S q y := fun q hq y hy => by
 by_cases e : q = p
 ·subst e; rw [upd_self] at hy; exact h.fine q hq y (hin y hy)
 ·rw [upd_ne _ _ e] at hy; exact h.fine q hq y hy
theorem Iv.srv0 (h : Iv K M c) {p : Nat} (hp : p < K.n) {t : Int} (hx : tkX (M.P p) t = none) : Iv K (srv0 M p t) c := by
 have hw : ∀ g : Bx → Int, Wt g (upd M.P p (tkP (M.P p) t)) K.n = Wt g M.P K.n := fun g => by
  rw [Wt_upd hp, (tk_none hx).1]
  show _ - wt g (M.P p) + wt g (M.P p) = _
  omega
 refine ⟨h.ok, fine_upd h (fun y hy => in_tk hy), fun j => ?_, h.lost, ?_⟩
 ·show M.B j = Wt _ (upd M.P p _) K.n
  rw [hw]; exact h.bytes j
 ·show M.L + Wt _ (upd M.P p _) K.n + li M.I K.hn = _
  rw [hw]; exact h.cnt
theorem Iv.srv1 (h : Iv K M c) {p : Nat} (hp : p < K.n) {t : Int} {x : Bx} (hx : tkX (M.P p) t = some x) : Iv K (srv1 M p t x) (c - 1) := by
 have hf := h.fine p hp x (in_tkX hx)
 have hw : ∀ g : Bx → Int, Wt g (upd M.P p (tkP (M.P p) t)) K.n = Wt g M.P K.n - g x := fun g => by
  rw [Wt_upd hp, wt_tk g hx]; omega
 have hcnt := h.cnt
 unfold al at hcnt
 refine ⟨h.ok, fine_upd h (fun y hy => in_tk hy), fun j => ?_, h.lost, ?_⟩
 ·show cB M.B x (-1) j = Wt _ (upd M.P p _) K.n
  rw [hw, cB_eq _ _ _ hf.1.2.2.1, h.bytes j]
  omega
 ·show M.L + Wt _ (upd M.P p _) K.n + li M.I K.hn = _
  rw [hw]; omega
theorem Iv.inbox (h : Iv K M c) {j : Nat} (hj : j < K.hn) (L : List Bx) : Iv K { M with I := upd M.I j L } (c - (M.I j).length + L.length) := by
 have hcnt := h.cnt
 unfold al at hcnt
 refine ⟨h.ok, h.fine, h.bytes, h.lost, ?_⟩
 show M.L + Wt _ M.P K.n + li (upd M.I j L) K.hn = _
 rw [li_upd hj]; omega
theorem Iv.srv2 (h : Iv K M c) {p : Nat} (hp : p < K.n) {t : Int} {x : Bx} (hx : tkX (M.P p) t = some x) {d : Nat} (hd : d < K.hn) : Iv K (srv2 M p t x d) c := by
 have h1 := (h.srv1 hp hx).inbox hd (M.I d ++ [x])
 have e : c - 1 - ((Go.Proofs.YtpogpibjkolioaaGreat.Fb.srv1 M p t x).I d).length + ((M.I d ++ [x]).length : Nat) = c := by
  show c - 1 - ((M.I d).length : Int) + _ = _
  rw [List.length_append, List.length_singleton]; omega
 rw [e] at h1
 exact h1
theorem Iv.take (h : Iv K M c) {j : Nat} (hj : j < K.hn) {x : Bx} {L : List Bx} (hI : M.I j = x :: L) : Iv K { M with I := upd M.I j L } (c - 1) := by
 have h1 := h.inbox hj L
 rw [hI, List.length_cons] at h1
 rw [show c - 1 = c - ((L.length + 1 : Nat) : Int) + (L.length : Nat) by omega]
 exact h1
theorem Iv.dr (h : Iv K M c) {p : Nat} (hp : p < K.n) {i at_ : Nat} {x : Bx} (hi : i < 9) (hx : (lnl (M.P p).ls (M.P p).cr i)[at_]? = some x) : Iv K (drM M p i at_ x) c := by
 have hin : In (M.P p).ls (M.P p).cr x := by
  rcases lnl_mem hi (List.mem_of_getElem? hx) with ⟨h1, h2⟩ | ⟨h1, h2⟩
  ·exact Or.inl ⟨7 - i, by omega, h2⟩
  ·exact Or.inr h2
 have hf := h.fine p hp x hin
 have hw : ∀ g : Bx → Int, Wt g (upd M.P p (drP (M.P p) i at_)) K.n = Wt g M.P K.n - g x := fun g => by
  rw [Wt_upd hp, wt_dr g hi hx]; omega
 have hcnt := h.cnt
 unfold al at hcnt
 refine ⟨h.ok, fine_upd h (fun y hy => in_dr hi hy), fun j => ?_, ?_, ?_⟩
 ·show cB M.B x (-1) j = Wt _ (upd M.P p _) K.n
  rw [hw, cB_eq _ _ _ hf.1.2.2.1, h.bytes j]; omega
 ·have := h.lost; show 0 ≤ M.L + 1; omega
 ·show M.L + 1 + Wt _ (upd M.P p _) K.n + li M.I K.hn = _
  rw [hw]; omega
theorem li_empty : ∀ n, li (fun _ => ([] : List Bx)) n = 0
 | 0 => rfl
 | n + 1 => by unfold li; rw [li_empty n]; rfl
theorem Wt_empty (g : Bx → Int) : ∀ n, Wt g (fun _ => (⟨fun _ => [], [], 0, 0⟩ : Pt)) n = 0
 | 0 => rfl
 | n + 1 => by unfold Wt; rw [Wt_empty g n]; rfl
theorem Iv.go (h : Iv K M c) {p : Nat} (hp : p < K.n) {x : Bx} (hx : In (M.P p).ls (M.P p).cr x) : Go K x := by
 have := h.fine p hp x hx
 exact ⟨⟨this.1.2.2.1, this.1.2.2.2.1⟩, this.2⟩
end Go.Proofs.YtpogpibjkolioaaGreat.Fb

