/- FabricPlays (mizzenlaw15): for every number of hosts and of spines, every room, every number of credits, with trimming or without, and every list of steps the law returns true (whatever frames are sent, whichever ports are served, whatever is taken, lost and doubled: each frame waits, arrives, or is lost where the document says) and its arguments read as before. Conditions: none beyond the model's. -/
import Derived.Test.YtpogpibjkolioaaGreatRows
import Derived.Test.YtpogpibjkolioaaGreatFpK1
import Derived.WalkKit
import Derived.ProofKit
import Derived.OpenShut
import Derived.Test.YtpogpibjkolioaaGreatFpK38
import Derived.Test.YtpogpibjkolioaaGreatFpK39
set_option linter.unusedVariables false
namespace Go.Proofs.YtpogpibjkolioaaGreat.fabricPlays
open Go.ChangeShapes Go.WideShapes Go.ChangeAt Go.RowKit Go.Proofs.YtpogpibjkolioaaGreat.Hp Go.Proofs.YtpogpibjkolioaaGreat.End
open QuM QuN Rw Qu Po Fo NumM NumC FbM TpM Tp Go.Proofs.YtpogpibjkolioaaGreat.Fb Rf Fc Opn
theorem own : ownKnob Tryz.prog.godebug = none := by kernel_rfl
attribute [local go_sem ↓] Go.wp_at_zero Go.wp_at_succ
theorem nref_no {H S room most : Int} {trim : Bool} (h : ¬ Net H S ∨ room < 0 ∨ 1073741824 < room ∨ most < 0 ∨ 1073741824 < most) (w : World) : Calls Tryz.prog 7 #[.int .i64 H, .int .i64 S, .int .i64 room, .int .i64 most, .bool trim] w fun e w' => e = .returned (.tuple #[.pointer none, .int .i64 1]) ∧ Kept (fun _ => False) w w' := by
 by_cases hn : Net H S
 ·have h2 := h.resolve_left (fun f => f hn)
  have hm := mm_in hn
  have h8 := hn.h0
  obtain ⟨hh, e1⟩ := Int.eq_ofNat_of_zero_le (show 0 ≤ H by omega)
  obtain ⟨n, e2⟩ := Int.eq_ofNat_of_zero_le (show 0 ≤ pts H S by unfold pts; omega)
  exact nref_port (K := ⟨H, S, hh, n, room, most, trim⟩) ⟨hn, e1.symm, e2.symm⟩ h2 w
 ·exact nref_net hn w
theorem cf_of {H S : Int} (hn : Net H S) (room most : Int) (trim : Bool) : ∃ K : Cf, K.H = H ∧ K.S = S ∧ K.room = room ∧ K.most = most ∧ K.trim = trim ∧ K.Ok := by
 have hm := mm_in hn
 have h8 := hn.h0
 obtain ⟨hh, e1⟩ := Int.eq_ofNat_of_zero_le (show 0 ≤ H by omega)
 obtain ⟨n, e2⟩ := Int.eq_ofNat_of_zero_le (show 0 ≤ pts H S by unfold pts; omega)
 exact ⟨⟨H, S, hh, n, room, most, trim⟩, rfl, rfl, rfl, rfl, rfl, hn, e1.symm, e2.symm⟩
theorem farrO {w0 w : World} {K : Cf} {b : Int} {fb mb : Nat} {E : Nat → Prop} (h : Bo w0 K b fb mb E w) : Calls Tryz.prog 21 #[ptr fb, .int .i64 (-1)] w fun e w' => e = .returned (.slice none 0 0) ∧ w = w' := by
 obtain ⟨M, N, X, c, _, ⟨_, a, rfl, hF, _⟩, _⟩ := h
 exact farr_off hF (Or.inl (by decide))
theorem fwaitO {w0 w : World} {K : Cf} {b : Int} {fb mb : Nat} {E : Nat → Prop} (h : Bo w0 K b fb mb E w) {J : Int} (hj : J < 0 ∨ (K.n : Int) ≤ J) : Calls Tryz.prog 20 #[ptr fb, .int .i64 J] w fun e w' => e = .returned (.int .i64 0) ∧ w = w' := by
 obtain ⟨M, N, X, c, _, h1, _⟩ := h
 exact fv_wait_off h1.fv hj
theorem boPorts {w0 w : World} {K : Cf} {b : Int} {fb mb : Nat} {E : Nat → Prop} (h : Bo w0 K b fb mb E w) : ∃ p c, w.cell? ⟨mb, 1, none⟩ = some (.slice (some ⟨p, 0, none⟩) K.n c) := by
 obtain ⟨M, N, X, c, _, _, ⟨a, rfl, h2⟩, _⟩ := h
 exact ⟨_, _, h2.blk.cell rfl⟩
theorem lit_le {q : Int} (h : (Lit.int .i64 q).wf = true) : q ≤ 9223372036854775807 := by
 have := h
 simp only [Lit.wf, IntKind.min, IntKind.max, IntKind.signed, IntKind.bits, Bool.and_eq_true, decide_eq_true_eq, if_true] at this
 omega
set_option maxRecDepth 100000 in
set_option maxHeartbeats 32000000 in
theorem walk (a0 a1 a2 a3 : Int) (a4 : Bool) (a5 : List (Int × Int × Bx)) (s5 : Option Addr) (cap5 : Nat) (w : World) (w0 : (Lit.int .i64 a0).wf = true) (w1 : (Lit.int .i64 a1).wf = true) (w2 : (Lit.int .i64 a2).wf = true) (w3 : (Lit.int .i64 a3).wf = true) (w5 : StIn w s5 cap5 a5) :
  Calls Tryz.prog 3 #[.int .i64 a0, .int .i64 a1, .int .i64 a2, .int .i64 a3, .bool a4, .slice s5 a5.length cap5] w fun e w' => e = .returned (.bool true) ∧ Old w w' := by
 clear w0 w1 w2 w3
 have AW := Lib.hid fun w => awake_any w
 have SM := small_any w5
 have W5 := Lib.hid w5
 have hlc : a5.length ≤ cap5 ∧ cap5 ≤ 9223372036854775807 := ⟨w5.1, w5.2.1⟩
 clear w5
 obtain ⟨n, hn⟩ : ∃ n, a5.length = n := ⟨_, rfl⟩
 have HN := Lib.hid hn
 rw [hn] at SM hlc ⊢
 have SM := Lib.hid SM
 clear hn
 go_enter Tryz.func3, Tryz.ntmps3
 go_wp2_with fail
 with_reducible refine Calls.mono SM.out ?_
 rintro e w1 ⟨bb, rfl, k1, hsm⟩
 cases bb with
 | false =>
  clear hsm
  go_wp2_with fail
  with_reducible refine Calls.mono (AW.out _) ?_
  rintro e w2 ⟨rfl, ho⟩
  have HO : Hid (Old w w2) := Lib.hid (k1.trans ho)
  clear k1 ho
  go_wp2_with fail
  go_ret
  exact ⟨rfl, HO.out⟩
 | true =>
  have hs := hsm rfl
  have hn134 : n ≤ 134 := by rw [← HN.out]; exact hs.1
  have HDL := Lib.hid hs.2
  have HK1 := Lib.hid k1
  clear hsm hs k1 SM
  by_cases hv : Net a0 a1 ∧ 0 ≤ a2 ∧ a2 ≤ 1073741824 ∧ 0 ≤ a3 ∧ a3 ≤ 1073741824
  rotate_left
  ·have hbad : ¬ Net a0 a1 ∨ a2 < 0 ∨ 1073741824 < a2 ∨ a3 < 0 ∨ 1073741824 < a3 := by
    by_cases g : Net a0 a1
    ·refine Or.inr (Classical.byContradiction fun hc => hv ⟨g, ?_⟩)
     omega
    ·exact Or.inl g
   have FN := Lib.hid (fnew_no (trim := a4) hbad w1)
   have RN := Lib.hid fun w' => nref_no (trim := a4) hbad w'
   clear hbad hv
   go_wp2_with fail
   with_reducible refine Calls.mono FN.out ?_
   rintro e w2 ⟨rfl, k2⟩
   go_wp2_with fail
   with_reducible refine Calls.mono (RN.out _) ?_
   rintro e w3 ⟨rfl, k3⟩
   go_wp2_with fail
   with_reducible refine Calls.mono (AW.out _) ?_
   rintro e w4 ⟨rfl, k4⟩
   have HO : Hid (Old w w4) := Lib.hid (((HK1.out.trans k2).trans k3).trans k4)
   clear k2 k3 k4
   go_wp2_with fail
   go_ret
   exact ⟨rfl, HO.out⟩
  ·obtain ⟨hv1, hv2, hv3, hv4, hv5⟩ := hv
   obtain ⟨K, rfl, rfl, rfl, rfl, rfl, hok⟩ := cf_of hv1 a2 a3 a4
   have FN := Lib.hid (fp_new hok hv2 hv3 hv4 hv5 w1)
   have RN := Lib.hid fun (w' : World) (k : Kept (fun _ => False) w1 w') => nref_yes hok hv2 hv3 hv4 hv5 k
   have hH48 := hok.le
   clear hv1 hv2 hv3 hv4 hv5
   go_wp2_with fail
   with_reducible refine Calls.mono FN.out ?_
   rintro e w2 ⟨fb, rfl, hF⟩
   have HF := Lib.hid hF
   have RN2 := Lib.hid (RN.out _ hF.since)
   clear hF FN RN
   go_wp2_with fail
   with_reducible refine Calls.mono RN2.out ?_
   rintro e w3 ⟨mb, rfl, k3, hR⟩
   have HB3 : Hid (Bo w1 K ((0 : Nat) : Int) fb mb (fun _ => False) w3) := Lib.hid ⟨M0, M0, _, 0, by decide, FP.far HF.out (G := fun _ => False) k3 (fun _ f => f.elim) (fun _ f => f.elim) (fun _ f => f.elim) (fun i hi => hi.elim (fun e => Or.inr e.1) (fun f => f.elim)) (fun i hi => hi.elim (fun e => e.2) (fun f => f.elim)), hR, fun _ f => f.elim, am_zero⟩
   clear k3 hR HF RN2 hok
   go_wp2_with fail
   go_loopg [17] n (fun mm s17 wr => ∃ (i : Nat), Hid (n - i ≤ mm) ∧ i ≤ n ∧ s17 = .int .i64 (i : Nat) ∧ Hid (Bo w1 K (i : Int) fb mb (fun _ => False) wr))
   case atStart => exact ⟨0, Lib.hid (by omega), Nat.zero_le _, rfl, by first | exact HB3 | exact Lib.hid (HB3.out.old (Kept.refl _ _).drew)⟩
   case round =>
    clear HB3
    obtain ⟨i, hmm, hi, rfl, hB⟩ := hrel
    rcases Nat.lt_or_ge i n with hlt | hge
    ·have hlt' : (i : Int) < (n : Int) := by omega
     have hi0 : (0 : Int) ≤ (i : Int) := by omega
     obtain ⟨⟨kd, ka, ⟨⟨x1, x2, x3, x4, x5, x6, x7, x8, x9, xd⟩, xa, xc, xq⟩⟩, hz⟩ : ∃ z, a5[i]? = some z := ⟨_, List.getElem?_eq_getElem (by rw [HN.out]; exact hlt)⟩
     obtain ⟨bk, off, rfl, hbk, hc⟩ := st_cells W5.out hz
     have hzm := List.mem_of_getElem? hz
     have hso := W5.out.2.2.1 _ hzm
     have hdl := HDL.out _ hzm
     obtain ⟨d0, d1, d2, d3, d4, d5, d6, d7, d8, d9, d10, d11, d12⟩ := hc _ (HK1.out.trans hB.out.since)
     have HRD : Hid (Rd w1 ⟨⟨x1, x2, x3, x4, x5, x6, x7, x8, x9, xd⟩, xa, xc, xq⟩) := Lib.hid ⟨hso.1.1.kept HK1.out, Nat.le_trans hdl (by decide)⟩
     have HXQ := Lib.hid (lit_le hso.2)
     clear hz hzm hso hdl hc hbk
     go_upto_region 13 with fail
     have hS := Blk.new wr [.int .i64 kd, .int .i64 ka, .int .i64 xq, .int .i64 x1, .int .i64 x2, .int .i64 x3, .int .i64 x4, .int .u64 (x5 : Int), .int .i64 x6, .int .i64 x7, .int .i64 x8, .int .i64 x9, .slice xa xd.length xc] 37
     have k4 := (Kept.refl (fun _ => False) wr).alloc (.cells [.int .i64 kd, .int .i64 ka, .int .i64 xq, .int .i64 x1, .int .i64 x2, .int .i64 x3, .int .i64 x4, .int .u64 (x5 : Int), .int .i64 x6, .int .i64 x7, .int .i64 x8, .int .i64 x9, .slice xa xd.length xc].toArray 37)
     have hsl := hS.lt
     dsimp only [List.toArray] at hS k4 hsl
     have HB4 := Lib.hid (hB.out.put k4 (Nat.le_refl _) hsl)
     have HSB := Lib.hid hS
     clear hS k4 hsl hB d0 d1 d2 d3 d4 d5 d6 d7 d8 d9 d10 d11 d12
     generalize wr.alloc (.cells #[.int .i64 kd, .int .i64 ka, .int .i64 xq, .int .i64 x1, .int .i64 x2, .int .i64 x3, .int .i64 x4, .int .u64 (x5 : Int), .int .i64 x6, .int .i64 x7, .int .i64 x8, .int .i64 x9, .slice xa xd.length xc] 37) = w4 at *
     generalize wr.heap.size = sb at *
     by_cases q1k : kd = 1
     ·subst q1k
      obtain ⟨r, g, T⟩ := send_two HB4.out (by omega) ka xq (x := ⟨⟨x1, x2, x3, x4, x5, x6, x7, x8, x9, xd⟩, xa, xc, xq⟩) HRD.out
      unfold Two at T
      have T1 := Lib.hid T
      clear T
      obtain ⟨q0, q1, q2, q3, q4, q5, q6, q7, q8, q9, q10, q11, q12⟩ := cs13 HSB.out
      go_wp2_with fail
      with_reducible refine Calls.mono T1.out ?_
      rintro e w5 ⟨rfl, kE, H2⟩
      have HT2 := Lib.hid H2
      have HS5 := Lib.hid (kE.blk HSB.out (fun f => f rfl))
      clear kE H2 T1 q0 q1 q2 q3 q4 q5 q6 q7 q8 q9 q10 q11 q12
      obtain ⟨q0, q1, q2, q3, q4, q5, q6, q7, q8, q9, q10, q11, q12⟩ := cs13 HS5.out
      go_wp2_with fail
      with_reducible refine Calls.mono (HT2.out _ (by first | exact Kept.refl _ _ | exact (Kept.refl _ _).drew)) ?_
      rintro e w6 ⟨rfl, hB6, _⟩
      have HB6 := Lib.hid hB6
      clear hB6 HT2 HS5 HSB HB4 q0 q1 q2 q3 q4 q5 q6 q7 q8 q9 q10 q11 q12
      have SH := Lib.hid fun (w' : World) (k : Kept (fun _ => False) w6 w') => shows_any (HB6.out.old k) (by omega)
      go_wp2_with fail
      with_reducible refine Calls.mono (SH.out _ (by first | exact Kept.refl _ _ | exact (Kept.refl _ _).drew)) ?_
      rintro e ws ⟨rfl, hks⟩
      have HBn : Hid (Bo w1 K ((i + 1 : Nat) : Int) fb mb (fun _ => False) ws) := Lib.hid ((((HB6.out.old (by first | exact hks | exact (Kept.refl _ _).drew.trans hks)).less).le (by omega)))
      clear hks SH HB6
      go_wp2_with fail
      go_roundg (n - (i + 1))
      case measure => have := hmm.out; omega
      case rel => exact ⟨i + 1, Lib.hid (Nat.le_refl _), by omega, by go_num, by first | exact HBn | exact Lib.hid (HBn.out.old (Kept.refl _ _).drew)⟩
     have q1n : (kd == 1) = false := by rw [beq_eq_false_iff_ne]; exact q1k
     clear q1k
     by_cases q2k : kd = 2
     ·subst q2k
      obtain ⟨r, g, T⟩ := serve_two HB4.out (by omega) ka xq
      unfold Two at T
      have T1 := Lib.hid T
      clear T
      obtain ⟨q0, q1, q2, q3, q4, q5, q6, q7, q8, q9, q10, q11, q12⟩ := cs13 HSB.out
      go_wp2_with fail
      with_reducible refine Calls.mono T1.out ?_
      rintro e w5 ⟨rfl, kE, H2⟩
      have HT2 := Lib.hid H2
      have HS5 := Lib.hid (kE.blk HSB.out (fun f => f rfl))
      clear kE H2 T1 q0 q1 q2 q3 q4 q5 q6 q7 q8 q9 q10 q11 q12
      obtain ⟨q0, q1, q2, q3, q4, q5, q6, q7, q8, q9, q10, q11, q12⟩ := cs13 HS5.out
      go_wp2_with fail
      with_reducible refine Calls.mono (HT2.out _ (by first | exact Kept.refl _ _ | exact (Kept.refl _ _).drew)) ?_
      rintro e w6 ⟨rfl, hB6, _⟩
      have HB6 := Lib.hid hB6
      clear hB6 HT2 HS5 HSB HB4 q0 q1 q2 q3 q4 q5 q6 q7 q8 q9 q10 q11 q12
      have SH := Lib.hid fun (w' : World) (k : Kept (fun _ => False) w6 w') => shows_any (HB6.out.old k) (by omega)
      go_wp2_with fail
      with_reducible refine Calls.mono (SH.out _ (by first | exact Kept.refl _ _ | exact (Kept.refl _ _).drew)) ?_
      rintro e ws ⟨rfl, hks⟩
      have HBn : Hid (Bo w1 K ((i + 1 : Nat) : Int) fb mb (fun _ => False) ws) := Lib.hid ((((HB6.out.old (by first | exact hks | exact (Kept.refl _ _).drew.trans hks)).less).le (by omega)))
      clear hks SH HB6
      go_wp2_with fail
      go_roundg (n - (i + 1))
      case measure => have := hmm.out; omega
      case rel => exact ⟨i + 1, Lib.hid (Nat.le_refl _), by omega, by go_num, by first | exact HBn | exact Lib.hid (HBn.out.old (Kept.refl _ _).drew)⟩
     have q2n : (kd == 2) = false := by rw [beq_eq_false_iff_ne]; exact q2k
     clear q2k
     by_cases q3k : kd = 3
     ·subst q3k
      obtain ⟨x, y, r, ef, T⟩ := take_two HB4.out (by omega) ka
      have T1 := Lib.hid T
      obtain ⟨f, ya, yc, yq⟩ := x
      obtain ⟨f', za, zc, zq⟩ := y
      obtain rfl : f = f' := ef
      obtain ⟨y1, y2, y3, y4, y5, y6, y7, y8, y9, yd⟩ := f
      clear T
      obtain ⟨q0, q1, q2, q3, q4, q5, q6, q7, q8, q9, q10, q11, q12⟩ := cs13 HSB.out
      go_wp2_with fail
      with_reducible refine Calls.mono T1.out ?_
      rintro e w5 ⟨rfl, kE, H2⟩
      have HT2 := Lib.hid H2
      have HS5 := Lib.hid (kE.blk HSB.out (fun f => f rfl))
      clear kE H2 T1 HSB HB4 q0 q1 q2 q3 q4 q5 q6 q7 q8 q9 q10 q11 q12
      go_upto_region 26 with fail
      have hA := Blk.new w5 [.int .i64 y1, .int .i64 y2, .int .i64 y3, .int .i64 y4, .int .u64 (y5 : Int), .int .i64 y6, .int .i64 y7, .int .i64 y8, .int .i64 y9, .slice ya yd.length yc] 35
      have kA := (Kept.refl (fun _ => False) w5).alloc (.cells [.int .i64 y1, .int .i64 y2, .int .i64 y3, .int .i64 y4, .int .u64 (y5 : Int), .int .i64 y6, .int .i64 y7, .int .i64 y8, .int .i64 y9, .slice ya yd.length yc].toArray 35)
      dsimp only [List.toArray] at hA kA
      have HS6 := Lib.hid (kA.blk HS5.out (fun f => f))
      have HKA := Lib.hid kA
      have HA := Lib.hid hA
      clear kA hA HS5
      generalize w5.alloc (.cells #[.int .i64 y1, .int .i64 y2, .int .i64 y3, .int .i64 y4, .int .u64 (y5 : Int), .int .i64 y6, .int .i64 y7, .int .i64 y8, .int .i64 y9, .slice ya yd.length yc] 35) = w6 at *
      generalize hsz : w5.heap.size = fa at *
      have HSZ := Lib.hid hsz
      clear hsz
      obtain ⟨q0, q1, q2, q3, q4, q5, q6, q7, q8, q9, q10, q11, q12⟩ := cs13 HS6.out
      go_wp2_with fail
      with_reducible refine Calls.mono (HT2.out _ (by first | exact HKA.out | exact HKA.out.drew)) ?_
      rintro e w7 ⟨rfl, hB7, rx, ry, k7⟩
      have HA7 : Hid (Blk w7 fa [.int .i64 y1, .int .i64 y2, .int .i64 y3, .int .i64 y4, .int .u64 (y5 : Int), .int .i64 y6, .int .i64 y7, .int .i64 y8, .int .i64 y9, .slice ya yd.length yc] 35) := Lib.hid ((by first | exact k7 | exact (Kept.refl _ _).drew.trans k7 : Kept (fun i => i < fa) w6 w7).blk HA.out (by omega))
      have HB7 := Lib.hid hB7
      have HRX := Lib.hid rx
      have HRY := Lib.hid ry
      clear hB7 rx ry k7 HT2 HS6 HA HKA HSZ q0 q1 q2 q3 q4 q5 q6 q7 q8 q9 q10 q11 q12
      go_upto_region 27 with fail
      have hC := Blk.new w7 [.int .i64 y1, .int .i64 y2, .int .i64 y3, .int .i64 y4, .int .u64 (y5 : Int), .int .i64 y6, .int .i64 y7, .int .i64 y8, .int .i64 y9, .slice za yd.length zc] 35
      have kC := (Kept.refl (fun _ => False) w7).alloc (.cells [.int .i64 y1, .int .i64 y2, .int .i64 y3, .int .i64 y4, .int .u64 (y5 : Int), .int .i64 y6, .int .i64 y7, .int .i64 y8, .int .i64 y9, .slice za yd.length zc].toArray 35)
      dsimp only [List.toArray] at hC kC
      have HA8 := Lib.hid (kC.blk HA7.out (fun f => f))
      have HC := Lib.hid hC
      have HB8 := Lib.hid (HB7.out.old kC)
      have SM := Lib.hid fun (w' : World) (k : Kept (fun _ => False) _ w') => fv_same ((HRX.out.old kC).old k) ((HRY.out.old kC).old k)
      clear hC kC HA7 HB7 HRX HRY
      generalize w7.alloc (.cells #[.int .i64 y1, .int .i64 y2, .int .i64 y3, .int .i64 y4, .int .u64 (y5 : Int), .int .i64 y6, .int .i64 y7, .int .i64 y8, .int .i64 y9, .slice za yd.length zc] 35) = w8 at *
      generalize w7.heap.size = fc at *
      obtain ⟨u0, u1, u2, u3, u4, u5, u6, u7, u8, u9⟩ := cs10 HA8.out
      obtain ⟨v0, v1, v2, v3, v4, v5, v6, v7, v8, v9⟩ := cs10 HC.out
      go_wp2_with fail
      with_reducible refine Calls.mono (SM.out _ (by first | exact Kept.refl _ _ | exact (Kept.refl _ _).drew)) ?_
      rintro e w9 ⟨rfl, k9⟩
      have HB9 := Lib.hid (HB8.out.old (by first | exact k9 | exact (Kept.refl _ _).drew.trans k9))
      clear k9 SM HB8 HA8 HC u0 u1 u2 u3 u4 u5 u6 u7 u8 u9 v0 v1 v2 v3 v4 v5 v6 v7 v8 v9
      have SH := Lib.hid fun (w' : World) (k : Kept (fun _ => False) w9 w') => shows_any (HB9.out.old k) (by omega)
      go_wp2_with fail
      with_reducible refine Calls.mono (SH.out _ (by first | exact Kept.refl _ _ | exact (Kept.refl _ _).drew)) ?_
      rintro e ws ⟨rfl, hks⟩
      have HBn : Hid (Bo w1 K ((i + 1 : Nat) : Int) fb mb (fun _ => False) ws) := Lib.hid ((((HB9.out.old (by first | exact hks | exact (Kept.refl _ _).drew.trans hks)).less).le (by omega)))
      clear hks SH HB9
      go_wp2_with fail
      go_roundg (n - (i + 1))
      case measure => have := hmm.out; omega
      case rel => exact ⟨i + 1, Lib.hid (Nat.le_refl _), by omega, by go_num, by first | exact HBn | exact Lib.hid (HBn.out.old (Kept.refl _ _).drew)⟩
     have q3n : (kd == 3) = false := by rw [beq_eq_false_iff_ne]; exact q3k
     clear q3k
     by_cases q4k : kd = 4
     ·subst q4k
      obtain ⟨g, T⟩ := drop_two (HB4.out.old (Kept.refl (fun _ => False) w4).drew) (by omega) ka (k := xq) HXQ.out
      unfold Two at T
      have KS : Hid (∀ w', Kept (fun i => ¬ i = sb) w4 w' → w'.cell? ⟨sb, 1, none⟩ = some (.int .i64 ka) ∧ w'.cell? ⟨sb, 2, none⟩ = some (.int .i64 xq)) := Lib.hid fun w' k => ⟨(k.blk HSB.out (fun f => f rfl)).cell rfl, (k.blk HSB.out (fun f => f rfl)).cell rfl⟩
      have T1 := Lib.hid T
      clear T
      obtain ⟨q0, q1, q2, q3, q4, q5, q6, q7, q8, q9, q10, q11, q12⟩ := cs13 HSB.out
      go_upto_region 30 with fail
      clear q0 q1 q2 q3 q4 q5 q6 q7 q8 q9 q10 q11 q12
      go_region_held3 (fun w' => w'.cell? ⟨sb, 1, none⟩ = some (.int .i64 ka) ∧ w'.cell? ⟨sb, 2, none⟩ = some (.int .i64 xq)) ((refine KS.out _ ?_; repeat (first | exact Kept.refl _ _ | assumption | (with_reducible refine Kept.drew ?_)))) (first | (go_at_call 15; (with_reducible refine Calls.mono T1.out ?_); rintro e y1 ⟨rfl, k1, H2⟩; have HT2 := Lib.hid H2; clear H2; have z1 : Kept (fun i => ¬ i = sb) w4 y1 := (Kept.refl _ w4).drew.trans k1; clear k1) | (go_at_call 16; (with_reducible refine Calls.mono (HT2.out _ (by first | exact Kept.refl _ _ | exact (Kept.refl _ _).drew)) ?_); rintro e y2 ⟨rfl, hB6, k2⟩; have HB6 := Lib.hid hB6; clear hB6; have z2 : Kept (fun i => ¬ i = sb) w4 y2 := by first | exact z1.trans k2 | exact z1.drew.trans k2))
      clear KS T1 HT2 z1 z2 k2 HSB HB4
      have SH := Lib.hid fun (w' : World) (k : Kept (fun _ => False) y2 w') => shows_any (HB6.out.old k) (by omega)
      go_wp2_with fail
      with_reducible refine Calls.mono (SH.out _ (by first | exact Kept.refl _ _ | exact (Kept.refl _ _).drew)) ?_
      rintro e ws ⟨rfl, hks⟩
      have HBn : Hid (Bo w1 K ((i + 1 : Nat) : Int) fb mb (fun _ => False) ws) := Lib.hid ((((HB6.out.old (by first | exact hks | exact (Kept.refl _ _).drew.trans hks)).less).le (by omega)))
      clear hks SH HB6
      go_wp2_with fail
      go_roundg (n - (i + 1))
      case measure => have := hmm.out; omega
      case rel => exact ⟨i + 1, Lib.hid (Nat.le_refl _), by omega, by go_num, by first | exact HBn | exact Lib.hid (HBn.out.old (Kept.refl _ _).drew)⟩
     have q4n : (kd == 4) = false := by rw [beq_eq_false_iff_ne]; exact q4k
     clear q4k
     by_cases q5k : kd = 5
     ·subst q5k
      obtain ⟨g, T⟩ := double_two (HB4.out.old (Kept.refl (fun _ => False) w4).drew) (by omega) ka (k := xq) HXQ.out
      unfold Two at T
      have KS : Hid (∀ w', Kept (fun i => ¬ i = sb) w4 w' → w'.cell? ⟨sb, 1, none⟩ = some (.int .i64 ka) ∧ w'.cell? ⟨sb, 2, none⟩ = some (.int .i64 xq)) := Lib.hid fun w' k => ⟨(k.blk HSB.out (fun f => f rfl)).cell rfl, (k.blk HSB.out (fun f => f rfl)).cell rfl⟩
      have T1 := Lib.hid T
      clear T
      obtain ⟨q0, q1, q2, q3, q4, q5, q6, q7, q8, q9, q10, q11, q12⟩ := cs13 HSB.out
      go_upto_region 33 with fail
      clear q0 q1 q2 q3 q4 q5 q6 q7 q8 q9 q10 q11 q12
      go_region_held3 (fun w' => w'.cell? ⟨sb, 1, none⟩ = some (.int .i64 ka) ∧ w'.cell? ⟨sb, 2, none⟩ = some (.int .i64 xq)) ((refine KS.out _ ?_; repeat (first | exact Kept.refl _ _ | assumption | (with_reducible refine Kept.drew ?_)))) (first | (go_at_call 17; (with_reducible refine Calls.mono T1.out ?_); rintro e y1 ⟨rfl, k1, H2⟩; have HT2 := Lib.hid H2; clear H2; have z1 : Kept (fun i => ¬ i = sb) w4 y1 := (Kept.refl _ w4).drew.trans k1; clear k1) | (go_at_call 18; (with_reducible refine Calls.mono (HT2.out _ (by first | exact Kept.refl _ _ | exact (Kept.refl _ _).drew)) ?_); rintro e y2 ⟨rfl, hB6, k2⟩; have HB6 := Lib.hid hB6; clear hB6; have z2 : Kept (fun i => ¬ i = sb) w4 y2 := by first | exact z1.trans k2 | exact z1.drew.trans k2))
      clear KS T1 HT2 z1 z2 k2 HSB HB4
      have SH := Lib.hid fun (w' : World) (k : Kept (fun _ => False) y2 w') => shows_any (HB6.out.old k) (by omega)
      go_wp2_with fail
      with_reducible refine Calls.mono (SH.out _ (by first | exact Kept.refl _ _ | exact (Kept.refl _ _).drew)) ?_
      rintro e ws ⟨rfl, hks⟩
      have HBn : Hid (Bo w1 K ((i + 1 : Nat) : Int) fb mb (fun _ => False) ws) := Lib.hid ((((HB6.out.old (by first | exact hks | exact (Kept.refl _ _).drew.trans hks)).less).le (by omega)))
      clear hks SH HB6
      go_wp2_with fail
      go_roundg (n - (i + 1))
      case measure => have := hmm.out; omega
      case rel => exact ⟨i + 1, Lib.hid (Nat.le_refl _), by omega, by go_num, by first | exact HBn | exact Lib.hid (HBn.out.old (Kept.refl _ _).drew)⟩
     have q5n : (kd == 5) = false := by rw [beq_eq_false_iff_ne]; exact q5k
     clear q5k
     obtain ⟨q0, q1, q2, q3, q4, q5, q6, q7, q8, q9, q10, q11, q12⟩ := cs13 HSB.out
     have SH := Lib.hid fun (w' : World) (k : Kept (fun _ => False) w4 w') => shows_any (HB4.out.old k) (by omega)
     go_wp2_with fail
     with_reducible refine Calls.mono (SH.out _ (by first | exact Kept.refl _ _ | exact (Kept.refl _ _).drew)) ?_
     rintro e ws ⟨rfl, hks⟩
     have HBn : Hid (Bo w1 K ((i + 1 : Nat) : Int) fb mb (fun _ => False) ws) := Lib.hid ((((HB4.out.old (by first | exact hks | exact (Kept.refl _ _).drew.trans hks)).less).le (by omega)))
     clear hks SH HB4
     go_wp2_with fail
     go_roundg (n - (i + 1))
     case measure => have := hmm.out; omega
     case rel => exact ⟨i + 1, Lib.hid (Nat.le_refl _), by omega, by go_num, by first | exact HBn | exact Lib.hid (HBn.out.old (Kept.refl _ _).drew)⟩
    ·obtain rfl : i = n := by omega
     have hge' : ¬ ((i : Int) < (i : Int)) := by omega
     have WO := Lib.hid fun (w' : World) (k : Kept (fun _ => False) wr w') (J : Int) (hj : J < 0 ∨ (K.n : Int) ≤ J) => fwaitO (hB.out.old k) hj
     have AO := Lib.hid fun (w' : World) (k : Kept (fun _ => False) wr w') => farrO (hB.out.old k)
     have WM := Lib.hid fun (w' : World) (k : Kept (fun _ => False) wr w') => WO.out w' k (-1) (Or.inl (by decide))
     have WN := Lib.hid fun (w' : World) (k : Kept (fun _ => False) wr w') => WO.out w' k (K.n : Nat) (Or.inr (Int.le_refl _))
     obtain ⟨pb, pc, hpc⟩ := boPorts hB.out
     have HKR := Lib.hid (HK1.out.trans hB.out.since)
     clear WO hB
     go_wp2_with fail
     with_reducible refine Calls.mono (WM.out _ (by first | exact Kept.refl _ _ | exact (Kept.refl _ _).drew)) ?_
     rintro e wz ⟨rfl, rfl⟩
     go_wp2_with fail
     with_reducible refine Calls.mono (WN.out _ (by first | exact Kept.refl _ _ | exact (Kept.refl _ _).drew)) ?_
     rintro e wz ⟨rfl, rfl⟩
     go_wp2_with fail
     with_reducible refine Calls.mono (AO.out _ (by first | exact Kept.refl _ _ | exact (Kept.refl _ _).drew)) ?_
     rintro e wz ⟨rfl, rfl⟩
     go_wp2_with fail
     with_reducible refine Calls.mono (AW.out _) ?_
     rintro e wz ⟨rfl, kz⟩
     have HO : Hid (Old w wz) := Lib.hid (HKR.out.trans (by first | exact kz | exact (Kept.refl _ _).drew.trans kz))
     clear kz WM WN AO hpc
     go_wp2_with fail
     go_ret
     exact ⟨rfl, HO.out⟩
set_option maxRecDepth 100000 in
set_option maxHeartbeats 1000000 in
theorem lifted (os : Os) (started : os.Started) (H : Type) (enc : TypeId × Value → H) :
  ReturnsInHanded {} Tryz.checked os 3 .any (Rows.fabricPlaysSpec.pre6 enc Tryz.prog Tryz.f3 Rows.fabricPlaysRow.domain false) (Rows.fabricPlaysSpec.post enc Tryz.prog Tryz.f3 false true false false) := by
 refine returnsInHanded_of_change (C := Tryz.checked) own started (by kernel_rfl) Tryz.func3
  (ChangeSpec.witness6 (enc := enc) (C := Tryz.checked) false ⟨#[], #[.int .i64 0, .int .i64 0, .int .i64 0, .int .i64 0, .bool false, .slice none 0 0], []⟩ 8 (by kernel_rfl) (by kernel_rfl) (by kernel_rfl) (by kernel_rfl)) ?_
 intro W base args ds gs before hval0 hW hcnd _
 have hval : ∀ (j : Nat) t v, Tryz.f3.params[j]? = some t → args[j]? = some v → Value.okWide Tryz.prog W .any base t v := hval0
 have hW' := hW
 obtain ⟨p, q, hA0, hV, rfl, hfz, hnd⟩ := hW
 have hA : DataW.TrodAll enc Tryz.prog W 0 (fun _ => true) true Tryz.f3.params.toList args.toList ds p := hA0
 rw [Tryz.params3] at hA hval
 obtain ⟨v0, vs0, d0, ds0, p0, q0, hargs, rfl, rfl, h0, r0⟩ := trodAll_cons hA
 obtain ⟨v1, vs1, d1, ds1, p1, q1, rfl, rfl, rfl, h1, r1⟩ := trodAll_cons r0
 obtain ⟨v2, vs2, d2, ds2, p2, q2, rfl, rfl, rfl, h2, r2⟩ := trodAll_cons r1
 obtain ⟨v3, vs3, d3, ds3, p3, q3, rfl, rfl, rfl, h3, r3⟩ := trodAll_cons r2
 obtain ⟨v4, vs4, d4, ds4, p4, q4, rfl, rfl, rfl, h4, r4⟩ := trodAll_cons r3
 obtain ⟨v5, vs5, d5, ds5, p5, q5, rfl, rfl, rfl, h5, r5⟩ := trodAll_cons r4
 obtain ⟨rfl, rfl, rfl⟩ := trodAll_nil r5
 obtain rfl : args = #[v0, v1, v2, v3, v4, v5] := by cases args; simp_all
 obtain ⟨rfl, rfl⟩ := trodVars_none hV
 obtain ⟨a0, rfl, rfl, rfl, w0⟩ := open_int Tryz.underlying3 (hval 0 3 v0 rfl rfl) h0
 obtain ⟨a1, rfl, rfl, rfl, w1⟩ := open_int Tryz.underlying3 (hval 1 3 v1 rfl rfl) h1
 obtain ⟨a2, rfl, rfl, rfl, w2⟩ := open_int Tryz.underlying3 (hval 2 3 v2 rfl rfl) h2
 obtain ⟨a3, rfl, rfl, rfl, w3⟩ := open_int Tryz.underlying3 (hval 3 3 v3 rfl rfl) h3
 obtain ⟨a4, rfl, rfl, rfl⟩ := open_bool Tryz.underlying4 (hval 4 4 v4 rfl rfl) h4
 obtain ⟨s5, cap5, a5, rfl, w5⟩ := Opn.steps_of (hval 5 22 v5 rfl rfl) h5
 clear hA0 hval0
 refine (walk a0 a1 a2 a3 a4 a5 s5 cap5 W w0 w1 w2 w3 w5).mono fun e W' ⟨he, hg⟩ => ?_
 subst he
 exact ⟨_, rfl, post_of_old hW' (fun _ _ _ => (trodAll_cons_mk (shut_bool Tryz.underlying4 _) trodAll_mk0)) (fun sp hsp => (trodAll_cons_mk (shut_int Tryz.underlying3 w0) (trodAll_cons_mk (shut_int Tryz.underlying3 w1) (trodAll_cons_mk (shut_int Tryz.underlying3 w2) (trodAll_cons_mk (shut_int Tryz.underlying3 w3) (trodAll_cons_mk (shut_bool Tryz.underlying4 _) (trodAll_cons_mk (Opn.back (by kernel_rfl) (of_decide_eq_true (by kernel_rfl)) h5 hg (fun x hx => hW'.lt x (by simp [hx])) (fun x hx => hsp x (by simp [hx]))) trodAll_mk0))))))) (fun _ _ => rfl)
  hg (ok_one (by kernel_rfl) rfl (okWide_bool_mk Tryz.underlying4 _))⟩
theorem over : Rows.fabricPlaysRow.holds Tryz.pinned (OpenSpec.ofChange Rows.fabricPlaysSpec) :=
 OpenClaim.holds_of_wide 3 Tryz.f3 rfl rfl rfl rfl rfl rfl rfl ⟨rfl, rfl, rfl, rfl, rfl⟩ rfl rfl rfl rfl rfl (by kernel_rfl) Tryz.func3 (by kernel_rfl)
  (of_decide_eq_true (by kernel_rfl)) (by unfold Func.isWrapper; first | (rw [if_pos (by decide +kernel)]; kernel_rfl) | (rw [if_neg (by decide +kernel)]; exact ⟨rfl, rfl⟩))
  (fun os started H enc _ => lifted os started H enc)
theorem proved : Rows.FabricPlaysSaid :=
 over
#print axioms proved
end Go.Proofs.YtpogpibjkolioaaGreat.fabricPlays
