/- Proved: WireBack holds for whatever frame, cut and byte: a frame that may be is read as it was written, and its bytes cut, or with one more, are none's. Conditions: none. -/
import Derived.Test.YtkbncpclfeiofaaRows
import Derived.Test.YtkbncpclfeiofaaEnd
import Derived.Test.YtkbncpclfeiofaaInts
import Derived.WalkKit
import Derived.ProofKit
import Derived.OpenShut
import Derived.Test.YtkbncpclfeiofaaWrLaw
set_option linter.unusedVariables false
namespace Go.Proofs.Ytkbncpclfeiofaa.wireBack
open Go.ChangeShapes Go.WideShapes Go.ChangeAt Go.RowKit Go.Proofs.Ytkbncpclfeiofaa.Hp Go.Proofs.Ytkbncpclfeiofaa.End
open Opn WrM Byt Wr
theorem own : ownKnob Try.prog.godebug = none := by kernel_rfl
attribute [local go_sem ↓] Go.wp_at_zero Go.wp_at_succ
/-- A row that is not empty. -/
theorem row_cap {w : World} {b : Nat} {v : Value} {l : List UInt8} (h : Byt.Row w b v l) (h0 : 0 < l.length) : ∃ g c, v = .slice (some ⟨g, 0, none⟩) l.length c ∧ c ≤ 9223372036854775807 ∧ b ≤ g := by
  rcases h.form with ⟨_, rfl⟩ | ⟨g, cap, _, rfl, hg, _, _, hmax, _⟩
  · simp at h0
  · exact ⟨g, cap, rfl, by unfold maxLen at hmax; omega, hg⟩
set_option maxRecDepth 100000 in
set_option maxHeartbeats 16000000 in
theorem early_len (a0 : Frm) (s0 : Option Addr) (cap0 : Nat) (a1 : Int) (x : UInt8) (w : World) (w0 : FrameIn w s0 cap0 a0) (h : 2000 < a0.data.length) :
    Calls Try.prog 5 #[fv a0 s0 cap0, .int .i64 a1, .int .u8 (x.toNat : Int)] w fun e w' => e = .returned (.bool true) ∧ Old w w' := by
  have HC := Lib.hid fun w => awake_any w
  obtain ⟨kind, src, dst, prio, msg, off, len, total, num, data⟩ := a0
  unfold fv fcs
  dsimp only at *
  have h1 : 2000 < (data.length : Int) := by omega
  clear h w0
  go_enter Try.func5, Try.ntmps5
  go_upto_region 1 with fail
  have hA : Blk (w.alloc (.cells #[.int .i64 kind, .int .i64 src, .int .i64 dst, .int .i64 prio, .int .u64 (msg : Int), .int .i64 off, .int .i64 len, .int .i64 total, .int .i64 num, .slice s0 data.length cap0] 25)) w.heap.size [.int .i64 kind, .int .i64 src, .int .i64 dst, .int .i64 prio, .int .u64 (msg : Int), .int .i64 off, .int .i64 len, .int .i64 total, .int .i64 num, .slice s0 data.length cap0] 25 := Blk.new w _ _
  have kA : Kept (fun _ => False) w (w.alloc (.cells #[.int .i64 kind, .int .i64 src, .int .i64 dst, .int .i64 prio, .int .u64 (msg : Int), .int .i64 off, .int .i64 len, .int .i64 total, .int .i64 num, .slice s0 data.length cap0] 25)) := (Kept.refl _ w).alloc _
  generalize w.alloc (.cells #[.int .i64 kind, .int .i64 src, .int .i64 dst, .int .i64 prio, .int .u64 (msg : Int), .int .i64 off, .int .i64 len, .int .i64 total, .int .i64 num, .slice s0 data.length cap0] 25) = wa at *
  generalize hfb : w.heap.size = fb at *
  have e9 := hA.cell (o := 9) rfl
  clear hA hfb
  go_wp2_with (go_at_call 9; (with_reducible refine Calls.mono (HC.out _) ?_); rintro e w' ⟨rfl, ho⟩)
  go_ret
  exact ⟨rfl, kA.trans ho⟩
set_option maxRecDepth 100000 in
set_option maxHeartbeats 16000000 in
theorem early_bad (a0 : Frm) (s0 : Option Addr) (cap0 : Nat) (a1 : Int) (x : UInt8) (w : World) (w0 : FrameIn w s0 cap0 a0) (h : a0.data.length ≤ 2000) (hok : ¬ Ok a0) :
    Calls Try.prog 5 #[fv a0 s0 cap0, .int .i64 a1, .int .u8 (x.toNat : Int)] w fun e w' => e = .returned (.bool true) ∧ Old w w' := by
  have HC := Lib.hid fun w => awake_any w
  have CR := fun (w' : World) => checkR_any a0 s0 cap0 w'
  rw [chk_no hok] at CR
  have CR := Lib.hid CR
  clear hok
  obtain ⟨kind, src, dst, prio, msg, off, len, total, num, data⟩ := a0
  unfold fv fcs at *
  dsimp only at *
  have h1 : ¬ 2000 < (data.length : Int) := by omega
  clear h w0
  go_enter Try.func5, Try.ntmps5
  go_upto_region 1 with fail
  have hA : Blk (w.alloc (.cells #[.int .i64 kind, .int .i64 src, .int .i64 dst, .int .i64 prio, .int .u64 (msg : Int), .int .i64 off, .int .i64 len, .int .i64 total, .int .i64 num, .slice s0 data.length cap0] 25)) w.heap.size [.int .i64 kind, .int .i64 src, .int .i64 dst, .int .i64 prio, .int .u64 (msg : Int), .int .i64 off, .int .i64 len, .int .i64 total, .int .i64 num, .slice s0 data.length cap0] 25 := Blk.new w _ _
  have kA : Kept (fun _ => False) w (w.alloc (.cells #[.int .i64 kind, .int .i64 src, .int .i64 dst, .int .i64 prio, .int .u64 (msg : Int), .int .i64 off, .int .i64 len, .int .i64 total, .int .i64 num, .slice s0 data.length cap0] 25)) := (Kept.refl _ w).alloc _
  generalize w.alloc (.cells #[.int .i64 kind, .int .i64 src, .int .i64 dst, .int .i64 prio, .int .u64 (msg : Int), .int .i64 off, .int .i64 len, .int .i64 total, .int .i64 num, .slice s0 data.length cap0] 25) = wa at *
  generalize hfb : w.heap.size = fb at *
  have e0 := hA.cell (o := 0) rfl
  have e1 := hA.cell (o := 1) rfl
  have e2 := hA.cell (o := 2) rfl
  have e3 := hA.cell (o := 3) rfl
  have e4 := hA.cell (o := 4) rfl
  have e5 := hA.cell (o := 5) rfl
  have e6 := hA.cell (o := 6) rfl
  have e7 := hA.cell (o := 7) rfl
  have e8 := hA.cell (o := 8) rfl
  have e9 := hA.cell (o := 9) rfl
  clear hA hfb
  go_wp2_with (first | (go_at_call 13; (with_reducible refine Calls.mono (CR.out _) ?_); rintro e w3 ⟨rfl, k3⟩) | (go_at_call 9; (with_reducible refine Calls.mono (HC.out _) ?_); rintro e w' ⟨rfl, ho⟩))
  go_ret
  exact ⟨rfl, (kA.trans k3).trans ho⟩
set_option maxRecDepth 100000 in
set_option maxHeartbeats 16000000 in
theorem late (a0 : Frm) (s0 : Option Addr) (cap0 : Nat) (a1 : Int) (x : UInt8) (w : World) (w0 : FrameIn w s0 cap0 a0) (w1 : (Lit.int .i64 a1).wf = true) (h : a0.data.length ≤ 2000) (hok : Ok a0) :
    Calls Try.prog 5 #[fv a0 s0 cap0, .int .i64 a1, .int .u8 (x.toNat : Int)] w fun e w' => e = .returned (.bool true) ∧ Old w w' := by
  have HC := Lib.hid fun w => awake_any w
  have hw1 := bounds_i64 w1
  have HS := Lib.hid w0.1.1
  have CR := fun (w' : World) => checkR_any a0 s0 cap0 w'
  rw [chk_yes hok] at CR
  have EN := fun (w' : World) (k : Kept (fun _ => False) w w') => enc_yes hok (HS.out.kept k)
  have hgood := good_enc hok
  have hln := enc_len a0
  have hfl := flds_enc hok
  have hdl : dl a0 = (a0.data.length : Int) := hok.2.2.symm
  have SZ := fun (w' : World) => size_any (f := a0) (by omega) (by omega) s0 cap0 w'
  rw [show 26 + dl a0 = ((enc a0).length : Int) by rw [hln, hdl]; omega] at SZ
  have SA := fun (s2 : Option Addr) (c2 : Nat) (w' : World) (k : Kept (fun _ => False) w w') (h2 : Byt.Src w' (.slice s2 a0.data.length c2) a0.data) => same_any (f := a0) (g := a0) (HS.out.kept k) h2
  have SB := fun (s2 : Option Addr) (c2 : Nat) (w' : World) (k : Kept (fun _ => False) w w') (h2 : Byt.Src w' (.slice s2 a0.data.length c2) a0.data) => sameR_any (f := a0) (g := a0) (HS.out.kept k) h2
  rw [same_refl] at SA SB
  generalize enc a0 = E at *
  have hE26 := hgood.1
  have D1 : ∀ (w' : World) (s : Option Addr) (c : Nat), Byt.Src w' (.slice s E.length c) E → c ≤ 9223372036854775807 → Calls Try.prog 17 #[.slice s E.length c] w' fun e x => ∃ s2 c2, e = .returned (.tuple #[fv a0 s2 c2, .int .i64 0]) ∧ Byt.Src x (.slice s2 a0.data.length c2) a0.data ∧ Kept (fun _ => False) w' x := fun w' s c h1 h2 => (dec_any h1 h2 (by rw [hln]; omega)).mono fun e x he => by
    rcases he with ⟨hn, _⟩ | ⟨_, s2, c2, rfl, hR, k⟩
    · exact absurd hgood hn
    · rw [hfl] at hR ⊢
      exact ⟨s2, c2, rfl, hR.src, k⟩
  have D2 : ∀ (w' : World) (s : Option Addr) (c : Nat) (n : Nat) (l : List UInt8), ¬ WrM.Good l → n = l.length → Byt.Src w' (.slice s n c) l → c ≤ 9223372036854775807 → l.length ≤ 1000000 → Calls Try.prog 17 #[.slice s n c] w' fun e x => e = .returned (.tuple #[.agg #[.int .i64 0, .int .i64 0, .int .i64 0, .int .i64 0, .int .u64 0, .int .i64 0, .int .i64 0, .int .i64 0, .int .i64 0, .slice none 0 0], .int .i64 2]) ∧ Kept (fun _ => False) w' x := fun w' s c n l hb hn h1 h2 h3 => by
    subst hn
    exact (dec_any h1 h2 h3).mono fun e x he => by
      rcases he with ⟨_, rfl, k⟩ | ⟨hg, _⟩
      · exact ⟨rfl, k⟩
      · exact absurd hg hb
  have hcut := fun (k : Nat) (hk : k < E.length) => not_good_cut hgood hk
  have hmore := not_good_more hgood x
  obtain ⟨M, hM⟩ : ∃ M, M = E ++ [x] := ⟨_, rfl⟩
  rw [← hM] at hmore
  have HM := Lib.hid hM
  clear hM
  obtain ⟨p, hp⟩ : ∃ p : Nat, a1 % (E.length : Int) = (p : Int) := ⟨(a1 % (E.length : Int)).toNat, by have := Int.emod_nonneg a1 (show (E.length : Int) ≠ 0 by omega); omega⟩
  have hpl : p < E.length := by have := Int.emod_lt_of_pos a1 (show (0 : Int) < (E.length : Int) by omega); omega
  have R := fun w => Rnd.round_pos (k := a1) (n := (E.length : Int)) (by omega) (by omega) hw1.1 hw1.2 w
  rw [hp] at R
  have R := Lib.hid R
  have D2 := Lib.hid D2
  have HCUT := Lib.hid (hcut p hpl)
  have HMORE := Lib.hid hmore
  obtain ⟨f, hf⟩ : ∃ f, f = a0 := ⟨_, rfl⟩
  rw [← hf] at CR EN SZ SA SB D1
  obtain ⟨kind, src, dst, prio, msg, off, len, total, num, data⟩ := a0
  dsimp only at h hln
  have HLN := Lib.hid hln
  have hfv : ∀ s c, fv f s c = .agg #[.int .i64 kind, .int .i64 src, .int .i64 dst, .int .i64 prio, .int .u64 (msg : Int), .int .i64 off, .int .i64 len, .int .i64 total, .int .i64 num, .slice s data.length c] := by intro s c; rw [hf]; rfl
  have hfd : f.data = data := by rw [hf]
  rw [hfv] at CR EN SZ SA SB
  rw [hfd] at SA SB D1
  have EN := Lib.hid EN
  have CR := Lib.hid CR
  have SZ := Lib.hid SZ
  have D1 := Lib.hid D1
  have SA := Lib.hid (by intro s2 c2 w' k h2; have := SA s2 c2 w' k h2; rw [hfv] at this; exact this : ∀ (s2 : Option Addr) (c2 : Nat) (w' : World), Kept (fun _ => False) w w' → Byt.Src w' (.slice s2 data.length c2) data → Calls Try.prog 16 #[.agg #[.int .i64 kind, .int .i64 src, .int .i64 dst, .int .i64 prio, .int .u64 (msg : Int), .int .i64 off, .int .i64 len, .int .i64 total, .int .i64 num, .slice s0 data.length cap0], .agg #[.int .i64 kind, .int .i64 src, .int .i64 dst, .int .i64 prio, .int .u64 (msg : Int), .int .i64 off, .int .i64 len, .int .i64 total, .int .i64 num, .slice s2 data.length c2]] w' (Ans w' (.bool true)))
  have SB := Lib.hid (by intro s2 c2 w' k h2; have := SB s2 c2 w' k h2; rw [hfv] at this; exact this : ∀ (s2 : Option Addr) (c2 : Nat) (w' : World), Kept (fun _ => False) w w' → Byt.Src w' (.slice s2 data.length c2) data → Calls Try.prog 19 #[.agg #[.int .i64 kind, .int .i64 src, .int .i64 dst, .int .i64 prio, .int .u64 (msg : Int), .int .i64 off, .int .i64 len, .int .i64 total, .int .i64 num, .slice s0 data.length cap0], .agg #[.int .i64 kind, .int .i64 src, .int .i64 dst, .int .i64 prio, .int .u64 (msg : Int), .int .i64 off, .int .i64 len, .int .i64 total, .int .i64 num, .slice s2 data.length c2]] w' (Ans w' (.bool true)))
  have HFV := Lib.hid hfv
  (try rw [hfv])
  unfold fv fcs
  dsimp only
  have h2 : ¬ 2000 < (data.length : Int) := by omega
  have HDL2 := Lib.hid h
  clear w0 w1 hp hfv hfd hf hok hgood hln hfl hdl hcut hmore hw1 h
  go_enter Try.func5, Try.ntmps5
  go_upto_region 1 with fail
  have hA : Blk (w.alloc (.cells #[.int .i64 kind, .int .i64 src, .int .i64 dst, .int .i64 prio, .int .u64 (msg : Int), .int .i64 off, .int .i64 len, .int .i64 total, .int .i64 num, .slice s0 data.length cap0] 25)) w.heap.size [.int .i64 kind, .int .i64 src, .int .i64 dst, .int .i64 prio, .int .u64 (msg : Int), .int .i64 off, .int .i64 len, .int .i64 total, .int .i64 num, .slice s0 data.length cap0] 25 := Blk.new w _ _
  have kA : Kept (fun _ => False) w (w.alloc (.cells #[.int .i64 kind, .int .i64 src, .int .i64 dst, .int .i64 prio, .int .u64 (msg : Int), .int .i64 off, .int .i64 len, .int .i64 total, .int .i64 num, .slice s0 data.length cap0] 25)) := (Kept.refl _ w).alloc _
  generalize w.alloc (.cells #[.int .i64 kind, .int .i64 src, .int .i64 dst, .int .i64 prio, .int .u64 (msg : Int), .int .i64 off, .int .i64 len, .int .i64 total, .int .i64 num, .slice s0 data.length cap0] 25) = wa at *
  generalize hfb : w.heap.size = fb at *
  have e0 := hA.cell (o := 0) rfl
  have e1 := hA.cell (o := 1) rfl
  have e2 := hA.cell (o := 2) rfl
  have e3 := hA.cell (o := 3) rfl
  have e4 := hA.cell (o := 4) rfl
  have e5 := hA.cell (o := 5) rfl
  have e6 := hA.cell (o := 6) rfl
  have e7 := hA.cell (o := 7) rfl
  have e8 := hA.cell (o := 8) rfl
  have e9 := hA.cell (o := 9) rfl
  have HA := Lib.hid hA
  have HK := Lib.hid kA
  have HFB := Lib.hid hfb
  clear hA kA hfb
  go_upto_region 3 with (go_at_call 13; (with_reducible refine Calls.mono (CR.out _) ?_); rintro e wc ⟨rfl, kc⟩; have hAc := kc.blk HA.out (fun f => f); have HK := Lib.hid (HK.out.trans kc))
  have HA := Lib.hid hAc
  clear e0 e1 e2 e3 e4 e5 e6 e7 e8 e9
  have e0 := hAc.cell (o := 0) rfl
  have e1 := hAc.cell (o := 1) rfl
  have e2 := hAc.cell (o := 2) rfl
  have e3 := hAc.cell (o := 3) rfl
  have e4 := hAc.cell (o := 4) rfl
  have e5 := hAc.cell (o := 5) rfl
  have e6 := hAc.cell (o := 6) rfl
  have e7 := hAc.cell (o := 7) rfl
  have e8 := hAc.cell (o := 8) rfl
  have e9 := hAc.cell (o := 9) rfl
  clear hAc kc
  go_wp2_with fail
  with_reducible refine Calls.mono (EN.out _ HK.out) ?_
  rintro e x1 ⟨v, rfl, hR, k1⟩
  rcases hR.form with ⟨_, e⟩ | ⟨g, cap, _, rfl, hg, _, hcap, hmax, _⟩
  · rw [e] at hE26; simp at hE26
  have hmx : cap ≤ 9223372036854775807 := by unfold maxLen at hmax; omega
  have hA1 := k1.blk HA.out (fun f => f)
  have HA := Lib.hid hA1
  have HK := Lib.hid (HK.out.trans k1)
  have HR := Lib.hid hR.src
  have n1 : ¬ (E.length : Int) < 26 := by omega
  have n2 : ¬ E.length < 26 := by omega
  clear e0 e1 e2 e3 e4 e5 e6 e7 e8 e9 k1 hR hg hA1
  go_upto_region 6 with fail
  go_wp2_with fail
  with_reducible refine Calls.mono (D1.out _ _ _ HR.out hmx) ?_
  rintro e x2 ⟨s2, c2, rfl, hS2, k2⟩
  rw [HFV.out]
  go_upto_region 7 with fail
  have hG : Blk (x2.alloc (.cells #[.int .i64 kind, .int .i64 src, .int .i64 dst, .int .i64 prio, .int .u64 (msg : Int), .int .i64 off, .int .i64 len, .int .i64 total, .int .i64 num, .slice s2 data.length c2] 25)) x2.heap.size [.int .i64 kind, .int .i64 src, .int .i64 dst, .int .i64 prio, .int .u64 (msg : Int), .int .i64 off, .int .i64 len, .int .i64 total, .int .i64 num, .slice s2 data.length c2] 25 := Blk.new x2 _ _
  have k3 : Kept (fun _ => False) x1 (x2.alloc (.cells #[.int .i64 kind, .int .i64 src, .int .i64 dst, .int .i64 prio, .int .u64 (msg : Int), .int .i64 off, .int .i64 len, .int .i64 total, .int .i64 num, .slice s2 data.length c2] 25)) := k2.alloc _
  have k3' : Kept (fun _ => False) x2 (x2.alloc (.cells #[.int .i64 kind, .int .i64 src, .int .i64 dst, .int .i64 prio, .int .u64 (msg : Int), .int .i64 off, .int .i64 len, .int .i64 total, .int .i64 num, .slice s2 data.length c2] 25)) := (Kept.refl _ x2).alloc _
  have hS3 := hS2.kept k3'
  generalize x2.alloc (.cells #[.int .i64 kind, .int .i64 src, .int .i64 dst, .int .i64 prio, .int .u64 (msg : Int), .int .i64 off, .int .i64 len, .int .i64 total, .int .i64 num, .slice s2 data.length c2] 25) = x3 at *
  generalize x2.heap.size = gb at *
  have HG := Lib.hid hG
  have HA := Lib.hid (k3.blk HA.out (fun f => f))
  have HK := Lib.hid (HK.out.trans k3)
  have HR := Lib.hid (HR.out.kept k3)
  have HS2 := Lib.hid hS3
  clear k2 k3 k3' hG hS2 hS3
  have hpi : (p : Int) ≤ (cap : Int) := by omega
  have hpn : p ≤ cap := by omega
  have HPRE := Lib.hid (src_pre (k := p) HR.out rfl (by omega))
  have HPL : Hid ((E.take p).length = p) := Lib.hid (by rw [List.length_take]; omega)
  go_upto_region 8 with (first | (go_at_call 20; (with_reducible refine Calls.mono (R.out _) ?_); rintro e xr ⟨rfl, rfl⟩) | (go_at_call 17; (with_reducible refine Calls.mono (D2.out _ _ _ _ _ HCUT.out HPL.out.symm HPRE.out hmx (by rw [HPL.out]; have := HLN.out; have := HDL2.out; omega)) ?_); rintro e x4 ⟨rfl, k4⟩))
  have hlenE : E.length ≤ 3000 := by have := HLN.out; have := HDL2.out; omega
  have k5 : Kept (fun _ => False) x3 (x4.alloc (.cells #[.int .i64 0, .int .i64 0, .int .i64 0, .int .i64 0, .int .u64 0, .int .i64 0, .int .i64 0, .int .i64 0, .int .i64 0, .slice none 0 0] 25)) := k4.alloc _
  generalize x4.alloc (.cells #[.int .i64 0, .int .i64 0, .int .i64 0, .int .i64 0, .int .u64 0, .int .i64 0, .int .i64 0, .int .i64 0, .int .i64 0, .slice none 0 0] 25) = x5 at *
  have HA := Lib.hid (k5.blk HA.out (fun f => f))
  have HG := Lib.hid (k5.blk HG.out (fun f => f))
  have HK := Lib.hid (HK.out.trans k5)
  have HR := Lib.hid (HR.out.kept k5)
  have HS2 := Lib.hid (HS2.out.kept k5)
  have HRN := Lib.hid (Byt.row_new x5)
  have HKN := Lib.hid ((Kept.refl (fun _ => False) x5).alloc (.cells #[] 5))
  have HRS := Lib.hid (HR.out.kept HKN.out)
  have HZ1 := Lib.hid HKN.out.size
  have HN1 : Hid (([] : List UInt8).length + E.length ≤ 1000000000) := Lib.hid (by simp; omega)
  have HN2 : Hid (E.length + [x].length ≤ 1000000000) := Lib.hid (by simp; omega)
  have HM1 : Hid (0 < M.length) := Lib.hid (by rw [HM.out]; simp)
  have HM2 : Hid (M.length ≤ 1000000) := Lib.hid (by rw [HM.out]; simp; omega)
  clear k4 k5
  go_upto_region 9 with (first
    | (at_builtin; refine Byt.wpList_app rfl _ _ rfl x5.heap.size (v := .slice (some ⟨x5.heap.size, 0, none⟩) 0 0) rfl HRN.out rfl HRS.out HN1.out HZ1.out ?_; intro v' x6 hA; rw [List.nil_append] at hA; obtain ⟨s6, c6, rfl, _⟩ := hA.row.slice; have K6 := Lib.hid (HKN.out.trans' hA.kept (fun i hi e => by have e : some x5.heap.size = some i := e; cases e; exact absurd hi (Nat.lt_irrefl _))); have HR6 := Lib.hid (hA.row.kept ((Kept.refl (fun _ => False) x6).alloc (.cells #[.int .u8 (x.toNat : Int)] 5)) (fun _ _ f => f)); have HS6 := Lib.hid (src_one (x := x) (Blk.new x6 [bv x] 5)); have K6a := Lib.hid (K6.out.alloc (.cells #[.int .u8 (x.toNat : Int)] 5)); have HZ6 := Lib.hid K6a.out.size; clear hA)
    | (at_builtin; refine Byt.wpList_app rfl _ _ rfl x5.heap.size (v := .slice s6 E.length c6) rfl HR6.out rfl HS6.out HN2.out HZ6.out ?_; intro v' x7 hB; rw [← HM.out] at hB; obtain ⟨g7, c7, rfl, hmx7, _⟩ := row_cap hB.row HM1.out; have K7 := Lib.hid (K6a.out.trans' hB.kept (fun i hi e => by have := (HR6.out.lt i e).1; omega)); have HS7 := Lib.hid hB.row.src; clear hB)
    | (go_at_call 17; (with_reducible refine Calls.mono (D2.out _ _ _ _ _ HMORE.out rfl HS7.out hmx7 HM2.out) ?_); rintro e x8 ⟨rfl, k8⟩; have K8 := Lib.hid (K7.out.trans k8)))
  have k9 := K8.out.alloc (.cells #[.int .i64 0, .int .i64 0, .int .i64 0, .int .i64 0, .int .u64 0, .int .i64 0, .int .i64 0, .int .i64 0, .int .i64 0, .slice none 0 0] 25)
  generalize x8.alloc (.cells #[.int .i64 0, .int .i64 0, .int .i64 0, .int .i64 0, .int .u64 0, .int .i64 0, .int .i64 0, .int .i64 0, .int .i64 0, .slice none 0 0] 25) = x9 at *
  have HA9 := Lib.hid (k9.blk HA.out (fun f => f))
  have HG9 := Lib.hid (k9.blk HG.out (fun f => f))
  have HK9 := Lib.hid (HK.out.trans k9)
  have HS9 := Lib.hid (HS2.out.kept k9)
  have e0 := HA9.out.cell (o := 0) rfl
  have e1 := HA9.out.cell (o := 1) rfl
  have e2 := HA9.out.cell (o := 2) rfl
  have e3 := HA9.out.cell (o := 3) rfl
  have e4 := HA9.out.cell (o := 4) rfl
  have e5 := HA9.out.cell (o := 5) rfl
  have e6 := HA9.out.cell (o := 6) rfl
  have e7 := HA9.out.cell (o := 7) rfl
  have e8 := HA9.out.cell (o := 8) rfl
  have e9 := HA9.out.cell (o := 9) rfl
  have d0 := HG9.out.cell (o := 0) rfl
  have d1 := HG9.out.cell (o := 1) rfl
  have d2 := HG9.out.cell (o := 2) rfl
  have d3 := HG9.out.cell (o := 3) rfl
  have d4 := HG9.out.cell (o := 4) rfl
  have d5 := HG9.out.cell (o := 5) rfl
  have d6 := HG9.out.cell (o := 6) rfl
  have d7 := HG9.out.cell (o := 7) rfl
  have d8 := HG9.out.cell (o := 8) rfl
  have d9 := HG9.out.cell (o := 9) rfl
  clear k9
  go_wp2_with (first
    | (go_at_call 16; (with_reducible refine Calls.mono (SA.out _ _ _ HK9.out HS9.out) ?_); rintro e y1 ⟨rfl, j1⟩; have HAa := Lib.hid (j1.blk HA9.out (fun f => f)); have HGa := Lib.hid (j1.blk HG9.out (fun f => f)); have HKa := Lib.hid (HK9.out.trans j1); have HSa := Lib.hid (HS9.out.kept j1); clear e0 d0 e1 d1 e2 d2 e3 d3 e4 d4 e5 d5 e6 d6 e7 d7 e8 d8 e9 d9 j1; have e0 := HAa.out.cell (o := 0) rfl; have d0 := HGa.out.cell (o := 0) rfl; have e1 := HAa.out.cell (o := 1) rfl; have d1 := HGa.out.cell (o := 1) rfl; have e2 := HAa.out.cell (o := 2) rfl; have d2 := HGa.out.cell (o := 2) rfl; have e3 := HAa.out.cell (o := 3) rfl; have d3 := HGa.out.cell (o := 3) rfl; have e4 := HAa.out.cell (o := 4) rfl; have d4 := HGa.out.cell (o := 4) rfl; have e5 := HAa.out.cell (o := 5) rfl; have d5 := HGa.out.cell (o := 5) rfl; have e6 := HAa.out.cell (o := 6) rfl; have d6 := HGa.out.cell (o := 6) rfl; have e7 := HAa.out.cell (o := 7) rfl; have d7 := HGa.out.cell (o := 7) rfl; have e8 := HAa.out.cell (o := 8) rfl; have d8 := HGa.out.cell (o := 8) rfl; have e9 := HAa.out.cell (o := 9) rfl; have d9 := HGa.out.cell (o := 9) rfl)
    | (go_at_call 19; (with_reducible refine Calls.mono (SB.out _ _ _ HKa.out HSa.out) ?_); rintro e y2 ⟨rfl, j2⟩; have HAb := Lib.hid (j2.blk HAa.out (fun f => f)); have HGb := Lib.hid (j2.blk HGa.out (fun f => f)); have HKb := Lib.hid (HKa.out.trans j2); have HSb := Lib.hid (HSa.out.kept j2); clear e0 d0 e1 d1 e2 d2 e3 d3 e4 d4 e5 d5 e6 d6 e7 d7 e8 d8 e9 d9 j2; have e0 := HAb.out.cell (o := 0) rfl; have d0 := HGb.out.cell (o := 0) rfl; have e1 := HAb.out.cell (o := 1) rfl; have d1 := HGb.out.cell (o := 1) rfl; have e2 := HAb.out.cell (o := 2) rfl; have d2 := HGb.out.cell (o := 2) rfl; have e3 := HAb.out.cell (o := 3) rfl; have d3 := HGb.out.cell (o := 3) rfl; have e4 := HAb.out.cell (o := 4) rfl; have d4 := HGb.out.cell (o := 4) rfl; have e5 := HAb.out.cell (o := 5) rfl; have d5 := HGb.out.cell (o := 5) rfl; have e6 := HAb.out.cell (o := 6) rfl; have d6 := HGb.out.cell (o := 6) rfl; have e7 := HAb.out.cell (o := 7) rfl; have d7 := HGb.out.cell (o := 7) rfl; have e8 := HAb.out.cell (o := 8) rfl; have d8 := HGb.out.cell (o := 8) rfl; have e9 := HAb.out.cell (o := 9) rfl; have d9 := HGb.out.cell (o := 9) rfl)
    | (go_at_call 14; (with_reducible refine Calls.mono (SZ.out _) ?_); rintro e y3 ⟨rfl, j3⟩; have HKc := Lib.hid (HKb.out.trans j3))
    | (go_at_call 9; (with_reducible refine Calls.mono (HC.out _) ?_); rintro e y4 ⟨rfl, j4⟩))
  go_ret
  exact ⟨rfl, HKc.out.trans j4⟩
theorem walk (a0 : Frm) (s0 : Option Addr) (cap0 : Nat) (a1 : Int) (a2 : Int) (w : World) (w0 : FrameIn w s0 cap0 a0) (w1 : (Lit.int .i64 a1).wf = true) (w2 : (Lit.int .u8 a2).wf = true) :
    Calls Try.prog 5 #[fv a0 s0 cap0, .int .i64 a1, .int .u8 a2] w fun e w' => e = .returned (.bool true) ∧ Old w w' := by
  have hb := bounds_u8 w2
  obtain ⟨x, rfl⟩ : ∃ x : UInt8, a2 = (x.toNat : Int) := ⟨UInt8.ofNat a2.toNat, by rw [UInt8.toNat_ofNat']; omega⟩
  by_cases h : 2000 < a0.data.length
  · exact early_len a0 s0 cap0 a1 x w w0 h
  · by_cases hok : Ok a0
    · exact late a0 s0 cap0 a1 x w w0 w1 (by omega) hok
    · exact early_bad a0 s0 cap0 a1 x w w0 (by omega) hok
set_option maxRecDepth 100000 in
set_option maxHeartbeats 1000000 in
theorem lifted (os : Os) (started : os.Started) (H : Type) (enc : TypeId × Value → H) :
    ReturnsInHanded {} Try.checked os 5 .any (Rows.wireBackSpec.pre6 enc Try.prog Try.f5 Rows.wireBackRow.domain false) (Rows.wireBackSpec.post enc Try.prog Try.f5 false true false false) := by
  refine returnsInHanded_of_change (C := Try.checked) own started (by kernel_rfl) Try.func5
    (ChangeSpec.witness6 (enc := enc) (C := Try.checked) false ⟨#[], #[.agg #[.int .i64 0, .int .i64 0, .int .i64 0, .int .i64 0, .int .u64 0, .int .i64 0, .int .i64 0, .int .i64 0, .int .i64 0, .slice none 0 0], .int .i64 0, .int .u8 0], []⟩ 8 (by kernel_rfl) (by kernel_rfl) (by kernel_rfl) (by kernel_rfl)) ?_
  intro W base args ds gs before hval0 hW hcnd _
  have hval : ∀ (j : Nat) t v, Try.f5.params[j]? = some t → args[j]? = some v → Value.okWide Try.prog W .any base t v := hval0
  have hW' := hW
  obtain ⟨p, q, hA0, hV, rfl, hfz, hnd⟩ := hW
  have hA : DataW.TrodAll enc Try.prog W 0 (fun _ => true) true Try.f5.params.toList args.toList ds p := hA0
  rw [Try.params5] at hA hval
  obtain ⟨v0, vs0, d0, ds0, p0, q0, hargs, rfl, rfl, h0, r0⟩ := trodAll_cons hA
  obtain ⟨v1, vs1, d1, ds1, p1, q1, rfl, rfl, rfl, h1, r1⟩ := trodAll_cons r0
  obtain ⟨v2, vs2, d2, ds2, p2, q2, rfl, rfl, rfl, h2, r2⟩ := trodAll_cons r1
  obtain ⟨rfl, rfl, rfl⟩ := trodAll_nil r2
  obtain rfl : args = #[v0, v1, v2] := by cases args; simp_all
  obtain ⟨rfl, rfl⟩ := trodVars_none hV
  obtain ⟨a0, s0, cap0, rfl, w0⟩ := Opn.frame_of (hval 0 25 v0 rfl rfl) h0
  obtain ⟨a1, rfl, rfl, rfl, w1⟩ := open_int Try.underlying3 (hval 1 3 v1 rfl rfl) h1
  obtain ⟨a2, rfl, rfl, rfl, w2⟩ := open_int Try.underlying5 (hval 2 5 v2 rfl rfl) h2
  clear hA0 hval0
  refine (walk a0 s0 cap0 a1 a2 W w0 w1 w2).mono fun e W' ⟨he, hg⟩ => ?_
  subst he
  exact ⟨_, rfl, post_of_old hW' (fun _ _ _ => (trodAll_cons_mk (shut_bool Try.underlying4 _) trodAll_mk0)) (fun sp hsp => (trodAll_cons_mk (Opn.back (by kernel_rfl) (of_decide_eq_true (by kernel_rfl)) h0 hg (fun x hx => hW'.lt x (by simp [hx])) (fun x hx => hsp x (by simp [hx]))) (trodAll_cons_mk (shut_int Try.underlying3 w1) (trodAll_cons_mk (shut_int Try.underlying5 w2) trodAll_mk0)))) (fun _ _ => rfl)
    hg (ok_one (by kernel_rfl) rfl (okWide_bool_mk Try.underlying4 _))⟩
theorem over : Rows.wireBackRow.holds Try.pinned (OpenSpec.ofChange Rows.wireBackSpec) :=
  OpenClaim.holds_of_wide 5 Try.f5 rfl rfl rfl rfl rfl rfl rfl ⟨rfl, rfl, rfl, rfl, rfl⟩ rfl rfl rfl rfl rfl (by kernel_rfl) Try.func5 (by kernel_rfl)
    (of_decide_eq_true (by kernel_rfl)) (by unfold Func.isWrapper; first | (rw [if_pos (by decide +kernel)]; kernel_rfl) | (rw [if_neg (by decide +kernel)]; exact ⟨rfl, rfl⟩))
    (fun os started H enc _ => lifted os started H enc)
theorem proved : Rows.WireBackSaid :=
  over
#print axioms proved
end Go.Proofs.Ytkbncpclfeiofaa.wireBack
