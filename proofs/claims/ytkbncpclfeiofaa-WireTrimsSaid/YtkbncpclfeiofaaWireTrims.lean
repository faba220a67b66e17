/- Proved: WireTrims holds for whatever frame and bytes: data is trimmed to a head of the same fields, and nothing else is. Conditions: none. -/
import Derived.Test.YtkbncpclfeiofaaRows
import Derived.Test.YtkbncpclfeiofaaByt
import Derived.Test.YtkbncpclfeiofaaEnd
import Derived.Test.YtkbncpclfeiofaaInts
import Derived.WalkKit
import Derived.ProofKit
import Derived.OpenShut
import Derived.Test.YtkbncpclfeiofaaWrLaw
set_option linter.unusedVariables false
namespace Go.Proofs.Ytkbncpclfeiofaa.wireTrims
open Go.ChangeShapes Go.WideShapes Go.ChangeAt Go.RowKit Go.Proofs.Ytkbncpclfeiofaa.Hp Go.Proofs.Ytkbncpclfeiofaa.End
open Opn WrM Byt Wr
theorem own : ownKnob Try.prog.godebug = none := by kernel_rfl
attribute [local go_sem ↓] Go.wp_at_zero Go.wp_at_succ
set_option maxRecDepth 100000 in
set_option maxHeartbeats 16000000 in
theorem early (a0 : Frm) (s0 : Option Addr) (cap0 : Nat) (a1 : List UInt8) (s1 : Option Addr) (cap1 : Nat) (w : World) (w0 : FrameIn w s0 cap0 a0) (w1 : Byts w s1 cap1 a1) (h : 2000 < a0.data.length ∨ 2000 < a1.length) :
    Calls Try.prog 6 #[fv a0 s0 cap0, .slice s1 a1.length cap1] w fun e w' => e = .returned (.bool true) ∧ Old w w' := by
  have HC := Lib.hid fun w => awake_any w
  obtain ⟨kind, src, dst, prio, msg, off, len, total, num, data⟩ := a0
  unfold fv fcs
  dsimp only at *
  have hc : 2000 < (data.length : Int) ∨ (¬ 2000 < (data.length : Int) ∧ 2000 < (a1.length : Int)) := by omega
  clear h w0 w1
  rcases hc with h1 | ⟨h1, h2⟩
  · go_enter Try.func6, Try.ntmps6
    go_upto_region 1 with fail
    have hA : Blk (w.alloc (.cells #[.int .i64 kind, .int .i64 src, .int .i64 dst, .int .i64 prio, .int .u64 (msg : Int), .int .i64 off, .int .i64 len, .int .i64 total, .int .i64 num, .slice s0 data.length cap0] 25)) w.heap.size [.int .i64 kind, .int .i64 src, .int .i64 dst, .int .i64 prio, .int .u64 (msg : Int), .int .i64 off, .int .i64 len, .int .i64 total, .int .i64 num, .slice s0 data.length cap0] 25 := Blk.new w _ _
    have kA : Kept (fun _ => False) w (w.alloc (.cells #[.int .i64 kind, .int .i64 src, .int .i64 dst, .int .i64 prio, .int .u64 (msg : Int), .int .i64 off, .int .i64 len, .int .i64 total, .int .i64 num, .slice s0 data.length cap0] 25)) := (Kept.refl _ w).alloc _
    generalize w.alloc (.cells #[.int .i64 kind, .int .i64 src, .int .i64 dst, .int .i64 prio, .int .u64 (msg : Int), .int .i64 off, .int .i64 len, .int .i64 total, .int .i64 num, .slice s0 data.length cap0] 25) = wa at *
    generalize hfb : w.heap.size = fb at *
    have e9 := hA.cell (o := 9) rfl
    clear hA hfb
    go_wp2_with (go_at_call 9; (with_reducible refine Calls.mono (HC.out _) ?_); rintro e w' ⟨rfl, ho⟩)
    go_ret
    exact ⟨rfl, kA.trans ho⟩
  · go_enter Try.func6, Try.ntmps6
    go_upto_region 1 with fail
    have hA : Blk (w.alloc (.cells #[.int .i64 kind, .int .i64 src, .int .i64 dst, .int .i64 prio, .int .u64 (msg : Int), .int .i64 off, .int .i64 len, .int .i64 total, .int .i64 num, .slice s0 data.length cap0] 25)) w.heap.size [.int .i64 kind, .int .i64 src, .int .i64 dst, .int .i64 prio, .int .u64 (msg : Int), .int .i64 off, .int .i64 len, .int .i64 total, .int .i64 num, .slice s0 data.length cap0] 25 := Blk.new w _ _
    have kA : Kept (fun _ => False) w (w.alloc (.cells #[.int .i64 kind, .int .i64 src, .int .i64 dst, .int .i64 prio, .int .u64 (msg : Int), .int .i64 off, .int .i64 len, .int .i64 total, .int .i64 num, .slice s0 data.length cap0] 25)) := (Kept.refl _ w).alloc _
    generalize w.alloc (.cells #[.int .i64 kind, .int .i64 src, .int .i64 dst, .int .i64 prio, .int .u64 (msg : Int), .int .i64 off, .int .i64 len, .int .i64 total, .int .i64 num, .slice s0 data.length cap0] 25) = wa at *
    generalize hfb : w.heap.size = fb at *
    have e9 := hA.cell (o := 9) rfl
    clear hA hfb
    go_wp2_with (go_at_call 9; (with_reducible refine Calls.mono (HC.out _) ?_); rintro e w' ⟨rfl, ho⟩)
    go_ret
    exact ⟨rfl, kA.trans ho⟩
/-- What Decode of the reference answers, in one form. -/
theorem dec_form {w w' : World} {l : List UInt8} {e : Ending} (h : DecP w l e w') : ∃ F s c r, e = .returned (.tuple #[fv F s c, .int .i64 r]) ∧ Byt.Src w' (.slice s F.data.length c) F.data ∧ Kept (fun _ => False) w w' ∧ ((¬ WrM.Good l ∧ F = zf ∧ r = 2) ∨ (WrM.Good l ∧ F = flds l ∧ r = 0)) := by
  rcases h with ⟨hg, rfl, k1⟩ | ⟨hg, s1, c1, rfl, hR, k1⟩
  · exact ⟨zf, none, 0, 2, rfl, src_nil _, k1, Or.inl ⟨hg, rfl, rfl⟩⟩
  · exact ⟨flds l, s1, c1, 0, rfl, hR.src, k1, Or.inr ⟨hg, rfl, rfl⟩⟩
theorem row_cap {w : World} {b : Nat} {v : Value} {l : List UInt8} (h : Byt.Row w b v l) (h0 : 0 < l.length) : ∃ g c, v = .slice (some ⟨g, 0, none⟩) l.length c ∧ c ≤ 9223372036854775807 ∧ b ≤ g := by
  rcases h.form with ⟨_, rfl⟩ | ⟨g, cap, _, rfl, hg, _, _, hmax, _⟩
  · simp at h0
  · exact ⟨g, cap, rfl, by unfold maxLen at hmax; omega, hg⟩
set_option maxRecDepth 100000 in
set_option maxHeartbeats 16000000 in
theorem late_no (a0 : Frm) (s0 : Option Addr) (cap0 : Nat) (a1 : List UInt8) (s1 : Option Addr) (cap1 : Nat) (w : World) (w0 : FrameIn w s0 cap0 a0) (w1 : Byts w s1 cap1 a1) (h : a0.data.length ≤ 2000) (h1 : a1.length ≤ 2000) (hbad : ¬ (WrM.Good a1 ∧ (flds a1).kind = 1)) :
    Calls Try.prog 6 #[fv a0 s0 cap0, .slice s1 a1.length cap1] w fun e w' => e = .returned (.bool true) ∧ Old w w' := by
  have HC := Lib.hid fun w => awake_any w
  have HS := Lib.hid w0.1.1
  have HS1 := Lib.hid w1.1
  have hc1 := w1.2
  have TR := Lib.hid fun (w' : World) (k : Kept (fun _ => False) w w') => trim_any (HS1.out.kept k) hc1 (by omega)
  have DR := Lib.hid fun (w' : World) (k : Kept (fun _ => False) w w') => Calls.mono (decR_any (HS1.out.kept k) hc1 (by omega)) (fun e x h => dec_form h)
  have EN := fun (w' : World) (k : Kept (fun _ => False) w w') => encR_any (HS.out.kept k)
  have T1 : ∀ (w' : World) (s : Option Addr) (c : Nat), Ok a0 → Byt.Src w' (.slice s (enc a0).length c) (enc a0) → c ≤ 9223372036854775807 → Calls Try.prog 21 #[.slice s (enc a0).length c] w' fun e x => (a0.kind = 1 ∧ ∃ v, e = .returned (.tuple #[v, .bool true]) ∧ Byt.Row x w'.heap.size v (enc (WrM.trimmed a0)) ∧ Kept (fun _ => False) w' x) ∨ (¬ a0.kind = 1 ∧ e = .returned (.tuple #[.slice none 0 0, .bool false]) ∧ Kept (fun _ => False) w' x) := fun w' s c hok h1 h2 => (trim_any h1 h2 (by rw [enc_len]; omega)).mono fun e x he => by
    unfold TrimP at he
    rw [flds_enc hok] at he
    rcases he with ⟨hn, rfl, k⟩ | ⟨_, hk, v, rfl, hR, k⟩
    · exact Or.inr ⟨fun hk => hn ⟨good_enc hok, hk⟩, rfl, k⟩
    · exact Or.inl ⟨hk, v, rfl, hR, k⟩
  have T2 : ∀ (w' : World) (s : Option Addr) (c : Nat), Ok a0 → a0.kind = 1 → Byt.Src w' (.slice s (enc (WrM.trimmed a0)).length c) (enc (WrM.trimmed a0)) → c ≤ 9223372036854775807 → Calls Try.prog 21 #[.slice s (enc (WrM.trimmed a0)).length c] w' fun e x => e = .returned (.tuple #[.slice none 0 0, .bool false]) ∧ Kept (fun _ => False) w' x := fun w' s c hok hk h1 h2 => (trim_any h1 h2 (by rw [enc_len]; show 26 + 0 ≤ _; omega)).mono fun e x he => by
    unfold TrimP at he
    rw [flds_enc (ok_trimmed hok hk)] at he
    rcases he with ⟨_, rfl, k⟩ | ⟨_, hk2, _⟩
    · exact ⟨rfl, k⟩
    · exact absurd hk2 (by show ¬ (7 : Int) = 1; omega)
  have T3 : ∀ (w' : World), Calls Try.prog 21 #[.slice none 0 0] w' fun e x => e = .returned (.tuple #[.slice none 0 0, .bool false]) ∧ Kept (fun _ => False) w' x := fun w' => (trim_any (l := []) (src_nil w') (by omega) (by simp)).mono fun e x he => by
    rcases he with ⟨_, rfl, k⟩ | ⟨hg, _⟩
    · exact ⟨rfl, k⟩
    · exact absurd hg.1 (by simp)
  have hl26 : (enc (WrM.trimmed a0)).length = 26 := by rw [enc_len]; rfl
  have hlE : 26 ≤ (enc a0).length := by rw [enc_len]; omega
  have T3 := Lib.hid T3
  obtain ⟨f, hf⟩ : ∃ f, f = a0 := ⟨_, rfl⟩
  rw [← hf] at EN T1 T2 hl26 hlE
  obtain ⟨kind, src, dst, prio, msg, off, len, total, num, data⟩ := a0
  have hfv : fv f s0 cap0 = .agg #[.int .i64 kind, .int .i64 src, .int .i64 dst, .int .i64 prio, .int .u64 (msg : Int), .int .i64 off, .int .i64 len, .int .i64 total, .int .i64 num, .slice s0 data.length cap0] := by rw [hf]; rfl
  have hfk : f.kind = kind := by rw [hf]
  rw [hfv] at EN
  rw [hfk] at T1 T2
  have EN := Lib.hid EN
  have T1 := Lib.hid T1
  have T2 := Lib.hid T2
  have HL26 := Lib.hid hl26
  have HLE := Lib.hid hlE
  clear hl26 hlE
  unfold fv fcs
  dsimp only at h ⊢
  have q1 : ¬ 2000 < (data.length : Int) := by omega
  have q2 : ¬ 2000 < (a1.length : Int) := by omega
  clear w0 w1 hfv hfk hf h
  go_enter Try.func6, Try.ntmps6
  go_upto_region 1 with fail
  have hA : Blk (w.alloc (.cells #[.int .i64 kind, .int .i64 src, .int .i64 dst, .int .i64 prio, .int .u64 (msg : Int), .int .i64 off, .int .i64 len, .int .i64 total, .int .i64 num, .slice s0 data.length cap0] 25)) w.heap.size [.int .i64 kind, .int .i64 src, .int .i64 dst, .int .i64 prio, .int .u64 (msg : Int), .int .i64 off, .int .i64 len, .int .i64 total, .int .i64 num, .slice s0 data.length cap0] 25 := Blk.new w _ _
  have kA : Kept (fun _ => False) w (w.alloc (.cells #[.int .i64 kind, .int .i64 src, .int .i64 dst, .int .i64 prio, .int .u64 (msg : Int), .int .i64 off, .int .i64 len, .int .i64 total, .int .i64 num, .slice s0 data.length cap0] 25)) := (Kept.refl _ w).alloc _
  generalize w.alloc (.cells #[.int .i64 kind, .int .i64 src, .int .i64 dst, .int .i64 prio, .int .u64 (msg : Int), .int .i64 off, .int .i64 len, .int .i64 total, .int .i64 num, .slice s0 data.length cap0] 25) = wa at *
  generalize hfb : w.heap.size = fb at *
  have e0 := hA.cell (o := 0) rfl
  have e1 := hA.cell (o := 1) rfl
  have e2 := hA.cell (o := 2) rfl
  have e3 := hA.cell (o := 3) rfl
  have e4 := hA.cell (o := 4) rfl
  have e5 := hA.cell (o := 5) rfl
  have e6 := hA.cell (o := 6) rfl
  have e7 := hA.cell (o := 7) rfl
  have e8 := hA.cell (o := 8) rfl
  have e9 := hA.cell (o := 9) rfl
  have HA := Lib.hid hA
  have HK := Lib.hid kA
  clear hA kA hfb
  go_upto_region 3 with fail
  go_wp2_with fail
  with_reducible refine Calls.mono (TR.out _ HK.out) ?_
  rintro e x1 (⟨_, rfl, k1⟩ | ⟨hg, hk, _⟩)
  rotate_left
  · exact absurd ⟨hg, hk⟩ hbad
  have HA := Lib.hid (k1.blk HA.out (fun f => f))
  have HK := Lib.hid (HK.out.trans k1)
  clear k1 e0 e1 e2 e3 e4 e5 e6 e7 e8 e9
  go_upto_region 4 with fail
  go_wp2_with fail
  with_reducible refine Calls.mono (DR.out _ HK.out) ?_
  rintro e x2 ⟨G, s2, c2, r2, rfl, hS2, k2, hcase⟩
  have hr : (r2 = 2) ∨ (r2 = 0 ∧ ¬ G.kind = 1) := by
    rcases hcase with ⟨_, _, e⟩ | ⟨hg, e1, e2⟩
    · exact Or.inl e
    · exact Or.inr ⟨e2, fun hk => hbad ⟨hg, by rw [← e1]; exact hk⟩⟩
  have HA := Lib.hid (k2.blk HA.out (fun f => f))
  have HK := Lib.hid (HK.out.trans k2)
  clear hcase hbad hS2 k2
  obtain ⟨gkind, gsrc, gdst, gprio, gmsg, goff, glen, gtotal, gnum, gdata⟩ := G
  unfold fv fcs
  dsimp only at hr ⊢
  go_upto_region 5 with fail
  have hG : Blk (x2.alloc (.cells #[.int .i64 gkind, .int .i64 gsrc, .int .i64 gdst, .int .i64 gprio, .int .u64 (gmsg : Int), .int .i64 goff, .int .i64 glen, .int .i64 gtotal, .int .i64 gnum, .slice s2 gdata.length c2] 25)) x2.heap.size [.int .i64 gkind, .int .i64 gsrc, .int .i64 gdst, .int .i64 gprio, .int .u64 (gmsg : Int), .int .i64 goff, .int .i64 glen, .int .i64 gtotal, .int .i64 gnum, .slice s2 gdata.length c2] 25 := Blk.new x2 _ _
  have k3 : Kept (fun _ => False) x2 (x2.alloc (.cells #[.int .i64 gkind, .int .i64 gsrc, .int .i64 gdst, .int .i64 gprio, .int .u64 (gmsg : Int), .int .i64 goff, .int .i64 glen, .int .i64 gtotal, .int .i64 gnum, .slice s2 gdata.length c2] 25)) := (Kept.refl _ x2).alloc _
  generalize x2.alloc (.cells #[.int .i64 gkind, .int .i64 gsrc, .int .i64 gdst, .int .i64 gprio, .int .u64 (gmsg : Int), .int .i64 goff, .int .i64 glen, .int .i64 gtotal, .int .i64 gnum, .slice s2 gdata.length c2] 25) = x3 at *
  generalize x2.heap.size = gb at *
  have g0 := hG.cell (o := 0) rfl
  have HA := Lib.hid (k3.blk HA.out (fun f => f))
  have HK := Lib.hid (HK.out.trans k3)
  clear hG k3
  go_cut [9] from 36 to 42 (fun s9 wx => s9 = .bool false ∧ wx = x3)
  case first =>
    rcases hr with rfl | ⟨rfl, hk⟩
    · go_wp2_with fail
      go_meet
      exact ⟨rfl, rfl⟩
    · have hk1 : (gkind == 1) = false := by rw [beq_eq_false_iff_ne]; exact hk
      clear hk
      go_wp2_with fail
      go_meet
      exact ⟨rfl, rfl⟩
  case rest =>
  obtain ⟨rfl, rfl⟩ := hcut
  clear g0 hr
  have e0 := HA.out.cell (o := 0) rfl
  have e1 := HA.out.cell (o := 1) rfl
  have e2 := HA.out.cell (o := 2) rfl
  have e3 := HA.out.cell (o := 3) rfl
  have e4 := HA.out.cell (o := 4) rfl
  have e5 := HA.out.cell (o := 5) rfl
  have e6 := HA.out.cell (o := 6) rfl
  have e7 := HA.out.cell (o := 7) rfl
  have e8 := HA.out.cell (o := 8) rfl
  have e9 := HA.out.cell (o := 9) rfl
  go_upto_region 12 with fail
  go_wp2_with fail
  with_reducible refine Calls.mono (EN.out _ HK.out) ?_
  rintro e u1 (⟨_, rfl, k1⟩ | ⟨hok, v, rfl, hR, k1⟩)
  · have HK1 := Lib.hid (HK.out.trans k1)
    go_wp2_with (go_at_call 9; (with_reducible refine Calls.mono (HC.out _) ?_); rintro e u2 ⟨rfl, k2⟩)
    go_ret
    exact ⟨rfl, HK1.out.trans k2⟩
  obtain ⟨g1, c1, rfl, hm1, _⟩ := row_cap hR (by have := HLE.out; omega)
  have HA := Lib.hid (k1.blk HA.out (fun f => f))
  have HK := Lib.hid (HK.out.trans k1)
  have TT := Lib.hid (T1.out _ _ _ hok hR.src hm1)
  have HOK := Lib.hid hok
  clear k1 hR hok e0 e1 e2 e3 e4 e5 e6 e7 e8 e9
  go_upto_region 15 with fail
  go_wp2_with fail
  with_reducible refine Calls.mono TT.out ?_
  rintro e u2 (⟨hk, v2, rfl, hR2, k2⟩ | ⟨hk, rfl, k2⟩)
  · obtain ⟨g2, c2, rfl, hm2, _⟩ := row_cap hR2 (by have := HL26.out; omega)
    have T2' := Lib.hid (T2.out _ _ _ HOK.out hk hR2.src hm2)
    have hA2 := k2.blk HA.out (fun f => f)
    have HK2 := Lib.hid (HK.out.trans k2)
    have HA2 := Lib.hid hA2
    subst hk
    clear hR2 k2 hA2
    go_upto_region 16 with fail
    go_wp2_with fail
    with_reducible refine Calls.mono T2'.out ?_
    rintro e u3 ⟨rfl, k3⟩
    have e0 := (k3.blk HA2.out (fun f => f)).cell (o := 0) rfl
    have HK3 := Lib.hid (HK2.out.trans k3)
    clear k3
    go_upto_region 17 with fail
    go_wp2_with (go_at_call 9; (with_reducible refine Calls.mono (HC.out _) ?_); rintro e u4 ⟨rfl, k4⟩)
    go_ret
    exact ⟨rfl, HK3.out.trans k4⟩
  · have hA2 := k2.blk HA.out (fun f => f)
    have HK2 := Lib.hid (HK.out.trans k2)
    have HA2 := Lib.hid hA2
    have hk1 : (kind == 1) = false := by rw [beq_eq_false_iff_ne]; exact hk
    clear k2 hA2 hk
    go_upto_region 16 with fail
    go_wp2_with fail
    with_reducible refine Calls.mono (T3.out _) ?_
    rintro e u3 ⟨rfl, k3⟩
    have e0 := (k3.blk HA2.out (fun f => f)).cell (o := 0) rfl
    have HK3 := Lib.hid (HK2.out.trans k3)
    clear k3
    go_upto_region 17 with fail
    go_wp2_with (go_at_call 9; (with_reducible refine Calls.mono (HC.out _) ?_); rintro e u4 ⟨rfl, k4⟩)
    go_ret
    exact ⟨rfl, HK3.out.trans k4⟩
set_option maxRecDepth 100000 in
set_option maxHeartbeats 16000000 in
theorem late_yes (a0 : Frm) (s0 : Option Addr) (cap0 : Nat) (a1 : List UInt8) (s1 : Option Addr) (cap1 : Nat) (w : World) (w0 : FrameIn w s0 cap0 a0) (w1 : Byts w s1 cap1 a1) (h : a0.data.length ≤ 2000) (h1 : a1.length ≤ 2000) (hyes : WrM.Good a1 ∧ (flds a1).kind = 1) :
    Calls Try.prog 6 #[fv a0 s0 cap0, .slice s1 a1.length cap1] w fun e w' => e = .returned (.bool true) ∧ Old w w' := by
  have HC := Lib.hid fun w => awake_any w
  have HS := Lib.hid w0.1.1
  have HS1 := Lib.hid w1.1
  have hc1 := w1.2
  have TR := Lib.hid fun (w' : World) (k : Kept (fun _ => False) w w') => trim_any (HS1.out.kept k) hc1 (by omega)
  have DR := Lib.hid fun (w' : World) (k : Kept (fun _ => False) w w') => Calls.mono (decR_any (HS1.out.kept k) hc1 (by omega)) (fun e x h => dec_form h)
  have EN := fun (w' : World) (k : Kept (fun _ => False) w w') => encR_any (HS.out.kept k)
  obtain ⟨hg, hk⟩ := hyes
  have hokT := ok_trimmed hg.2.2 hk
  have hgT := good_enc hokT
  have hfT := flds_enc hokT
  have hlT : (enc (WrM.trimmed (flds a1))).length = 26 := by rw [enc_len]; rfl
  have TM := fun (s2 : Option Addr) (c2 : Nat) (w' : World) => trimmed_any (flds a1) s2 c2 w'
  have SR := fun (s3 : Option Addr) (c3 : Nat) (w' : World) => sameR_any (f := WrM.trimmed (flds a1)) (g := WrM.trimmed (flds a1)) (s1 := s3) (c1 := c3) (s2 := none) (c2 := 0) (w := w')
  rw [same_refl] at SR
  have DC : ∀ (w' : World) (g c : Nat), Byt.Src w' (.slice (some ⟨g, 0, none⟩) 26 c) (enc (WrM.trimmed (flds a1))) → c ≤ 9223372036854775807 → Calls Try.prog 17 #[.slice (some ⟨g, 0, none⟩) 26 c] w' fun e x => ∃ s3 c3, e = .returned (.tuple #[fv (WrM.trimmed (flds a1)) s3 c3, .int .i64 0]) ∧ Byt.Src x (.slice s3 0 c3) [] ∧ Kept (fun _ => False) w' x := fun w' g c h1 h2 => by
    rw [← hlT] at h1 ⊢
    exact (dec_any h1 h2 (by rw [hlT]; omega)).mono fun e x he => by
      rcases he with ⟨hn, _⟩ | ⟨_, s3, c3, rfl, hR, k⟩
      · exact absurd hgT hn
      · rw [hfT] at hR ⊢
        exact ⟨s3, c3, rfl, hR.src, k⟩
  generalize hET : enc (WrM.trimmed (flds a1)) = ET at *
  generalize hFl : flds a1 = F at *
  clear hokT hgT hfT
  obtain ⟨gkind, gsrc, gdst, gprio, gmsg, goff, glen, gtotal, gnum, gdata⟩ := F
  dsimp only at hk
  subst hk
  have hft : ∀ s c, fv (WrM.trimmed ⟨1, gsrc, gdst, gprio, gmsg, goff, glen, gtotal, gnum, gdata⟩) s c = .agg #[.int .i64 7, .int .i64 gsrc, .int .i64 gdst, .int .i64 0, .int .u64 (gmsg : Int), .int .i64 goff, .int .i64 glen, .int .i64 gtotal, .int .i64 gnum, .slice s 0 c] := fun s c => rfl
  rw [hft] at SR
  have SRh := Lib.hid (by intro s3 c3 w' h1; have := SR s3 c3 w' h1 (src_nil _); rw [hft] at this; exact this : ∀ (s3 : Option Addr) (c3 : Nat) (w' : World), Byt.Src w' (.slice s3 0 c3) [] → Calls Try.prog 19 #[.agg #[.int .i64 7, .int .i64 gsrc, .int .i64 gdst, .int .i64 0, .int .u64 (gmsg : Int), .int .i64 goff, .int .i64 glen, .int .i64 gtotal, .int .i64 gnum, .slice s3 0 c3], .agg #[.int .i64 7, .int .i64 gsrc, .int .i64 gdst, .int .i64 0, .int .u64 (gmsg : Int), .int .i64 goff, .int .i64 glen, .int .i64 gtotal, .int .i64 gnum, .slice none 0 0]] w' (Ans w' (.bool true)))
  have TMh := Lib.hid (by intro s2 c2 w'; have := TM s2 c2 w'; rw [hft] at this; exact this : ∀ (s2 : Option Addr) (c2 : Nat) (w' : World), Calls Try.prog 22 #[.agg #[.int .i64 1, .int .i64 gsrc, .int .i64 gdst, .int .i64 gprio, .int .u64 (gmsg : Int), .int .i64 goff, .int .i64 glen, .int .i64 gtotal, .int .i64 gnum, .slice s2 gdata.length c2]] w' (Ans w' (.agg #[.int .i64 7, .int .i64 gsrc, .int .i64 gdst, .int .i64 0, .int .u64 (gmsg : Int), .int .i64 goff, .int .i64 glen, .int .i64 gtotal, .int .i64 gnum, .slice none 0 0])))
  have HFT := Lib.hid hft
  have DC := Lib.hid DC
  have HLT := Lib.hid hlT
  have HG := Lib.hid hg
  have HFL := Lib.hid hFl
  have HET := Lib.hid hET
  clear hET
  have TRY := Lib.hid fun (w' : World) (k : Kept (fun _ => False) w w') => (TR.out w' k).mono (fun e x he => by
    unfold TrimP at he
    rw [HFL.out] at he
    exact he : ∀ e x, TrimP w' a1 e x → (¬ (WrM.Good a1 ∧ (⟨1, gsrc, gdst, gprio, gmsg, goff, glen, gtotal, gnum, gdata⟩ : Frm).kind = 1) ∧ Ans w' (.tuple #[.slice none 0 0, .bool false]) e x) ∨ (WrM.Good a1 ∧ (⟨1, gsrc, gdst, gprio, gmsg, goff, glen, gtotal, gnum, gdata⟩ : Frm).kind = 1 ∧ ∃ v, e = .returned (.tuple #[v, .bool true]) ∧ Byt.Row x w'.heap.size v (enc (WrM.trimmed ⟨1, gsrc, gdst, gprio, gmsg, goff, glen, gtotal, gnum, gdata⟩)) ∧ Kept (fun _ => False) w' x))
  clear SR TM hft hlT hg hFl
  have T1 : ∀ (w' : World) (s : Option Addr) (c : Nat), Ok a0 → Byt.Src w' (.slice s (enc a0).length c) (enc a0) → c ≤ 9223372036854775807 → Calls Try.prog 21 #[.slice s (enc a0).length c] w' fun e x => (a0.kind = 1 ∧ ∃ v, e = .returned (.tuple #[v, .bool true]) ∧ Byt.Row x w'.heap.size v (enc (WrM.trimmed a0)) ∧ Kept (fun _ => False) w' x) ∨ (¬ a0.kind = 1 ∧ e = .returned (.tuple #[.slice none 0 0, .bool false]) ∧ Kept (fun _ => False) w' x) := fun w' s c hok h1 h2 => (trim_any h1 h2 (by rw [enc_len]; omega)).mono fun e x he => by
    unfold TrimP at he
    rw [flds_enc hok] at he
    rcases he with ⟨hn, rfl, k⟩ | ⟨_, hk, v, rfl, hR, k⟩
    · exact Or.inr ⟨fun hk => hn ⟨good_enc hok, hk⟩, rfl, k⟩
    · exact Or.inl ⟨hk, v, rfl, hR, k⟩
  have T2 : ∀ (w' : World) (s : Option Addr) (c : Nat), Ok a0 → a0.kind = 1 → Byt.Src w' (.slice s (enc (WrM.trimmed a0)).length c) (enc (WrM.trimmed a0)) → c ≤ 9223372036854775807 → Calls Try.prog 21 #[.slice s (enc (WrM.trimmed a0)).length c] w' fun e x => e = .returned (.tuple #[.slice none 0 0, .bool false]) ∧ Kept (fun _ => False) w' x := fun w' s c hok hk h1 h2 => (trim_any h1 h2 (by rw [enc_len]; show 26 + 0 ≤ _; omega)).mono fun e x he => by
    unfold TrimP at he
    rw [flds_enc (ok_trimmed hok hk)] at he
    rcases he with ⟨_, rfl, k⟩ | ⟨_, hk2, _⟩
    · exact ⟨rfl, k⟩
    · exact absurd hk2 (by show ¬ (7 : Int) = 1; omega)
  have T3 : ∀ (w' : World), Calls Try.prog 21 #[.slice none 0 0] w' fun e x => e = .returned (.tuple #[.slice none 0 0, .bool false]) ∧ Kept (fun _ => False) w' x := fun w' => (trim_any (l := []) (src_nil w') (by omega) (by simp)).mono fun e x he => by
    rcases he with ⟨_, rfl, k⟩ | ⟨hg, _⟩
    · exact ⟨rfl, k⟩
    · exact absurd hg.1 (by simp)
  have hl26 : (enc (WrM.trimmed a0)).length = 26 := by rw [enc_len]; rfl
  have hlE : 26 ≤ (enc a0).length := by rw [enc_len]; omega
  have T3 := Lib.hid T3
  obtain ⟨f, hf⟩ : ∃ f, f = a0 := ⟨_, rfl⟩
  rw [← hf] at EN T1 T2 hl26 hlE
  obtain ⟨kind, src, dst, prio, msg, off, len, total, num, data⟩ := a0
  have hfv : fv f s0 cap0 = .agg #[.int .i64 kind, .int .i64 src, .int .i64 dst, .int .i64 prio, .int .u64 (msg : Int), .int .i64 off, .int .i64 len, .int .i64 total, .int .i64 num, .slice s0 data.length cap0] := by rw [hf]; rfl
  have hfk : f.kind = kind := by rw [hf]
  rw [hfv] at EN
  rw [hfk] at T1 T2
  have EN := Lib.hid EN
  have T1 := Lib.hid T1
  have T2 := Lib.hid T2
  have HL26 := Lib.hid hl26
  have HLE := Lib.hid hlE
  clear hl26 hlE
  unfold fv fcs
  dsimp only at h ⊢
  have q1 : ¬ 2000 < (data.length : Int) := by omega
  have q2 : ¬ 2000 < (a1.length : Int) := by omega
  clear w0 w1 hfv hfk hf h
  go_enter Try.func6, Try.ntmps6
  go_upto_region 1 with fail
  have hA : Blk (w.alloc (.cells #[.int .i64 kind, .int .i64 src, .int .i64 dst, .int .i64 prio, .int .u64 (msg : Int), .int .i64 off, .int .i64 len, .int .i64 total, .int .i64 num, .slice s0 data.length cap0] 25)) w.heap.size [.int .i64 kind, .int .i64 src, .int .i64 dst, .int .i64 prio, .int .u64 (msg : Int), .int .i64 off, .int .i64 len, .int .i64 total, .int .i64 num, .slice s0 data.length cap0] 25 := Blk.new w _ _
  have kA : Kept (fun _ => False) w (w.alloc (.cells #[.int .i64 kind, .int .i64 src, .int .i64 dst, .int .i64 prio, .int .u64 (msg : Int), .int .i64 off, .int .i64 len, .int .i64 total, .int .i64 num, .slice s0 data.length cap0] 25)) := (Kept.refl _ w).alloc _
  generalize w.alloc (.cells #[.int .i64 kind, .int .i64 src, .int .i64 dst, .int .i64 prio, .int .u64 (msg : Int), .int .i64 off, .int .i64 len, .int .i64 total, .int .i64 num, .slice s0 data.length cap0] 25) = wa at *
  generalize hfb : w.heap.size = fb at *
  have e0 := hA.cell (o := 0) rfl
  have e1 := hA.cell (o := 1) rfl
  have e2 := hA.cell (o := 2) rfl
  have e3 := hA.cell (o := 3) rfl
  have e4 := hA.cell (o := 4) rfl
  have e5 := hA.cell (o := 5) rfl
  have e6 := hA.cell (o := 6) rfl
  have e7 := hA.cell (o := 7) rfl
  have e8 := hA.cell (o := 8) rfl
  have e9 := hA.cell (o := 9) rfl
  have HA := Lib.hid hA
  have HK := Lib.hid kA
  clear hA kA hfb
  go_upto_region 3 with fail
  go_wp2_with fail
  with_reducible refine Calls.mono (TRY.out _ HK.out) ?_
  rintro e x1 (⟨hn, _⟩ | ⟨_, _, v, rfl, hR, k1⟩)
  · exact absurd ⟨HG.out, by first | rfl | trivial⟩ hn
  rw [HET.out] at hR
  obtain ⟨g1, c1, rfl, hm1, _⟩ := row_cap hR (by rw [HLT.out]; omega)
  have hRs := hR.src
  rw [HLT.out] at hRs ⊢
  have HRV := Lib.hid hRs
  have HA := Lib.hid (k1.blk HA.out (fun f => f))
  have HK := Lib.hid (HK.out.trans k1)
  clear k1 hR hRs TRY e0 e1 e2 e3 e4 e5 e6 e7 e8 e9
  go_upto_region 4 with fail
  go_wp2_with fail
  with_reducible refine Calls.mono (DR.out _ HK.out) ?_
  rintro e x2 ⟨G, s2, c2, r2, rfl, hS2, k2, ⟨hn, _⟩ | ⟨_, rfl, rfl⟩⟩
  · exact absurd HG.out hn
  have HA := Lib.hid (k2.blk HA.out (fun f => f))
  have HK := Lib.hid (HK.out.trans k2)
  have HRV := Lib.hid (HRV.out.kept k2)
  clear hS2 k2
  unfold fv fcs
  dsimp only
  go_upto_region 5 with fail
  have hG : Blk (x2.alloc (.cells #[.int .i64 1, .int .i64 gsrc, .int .i64 gdst, .int .i64 gprio, .int .u64 (gmsg : Int), .int .i64 goff, .int .i64 glen, .int .i64 gtotal, .int .i64 gnum, .slice s2 gdata.length c2] 25)) x2.heap.size [.int .i64 1, .int .i64 gsrc, .int .i64 gdst, .int .i64 gprio, .int .u64 (gmsg : Int), .int .i64 goff, .int .i64 glen, .int .i64 gtotal, .int .i64 gnum, .slice s2 gdata.length c2] 25 := Blk.new x2 _ _
  have k3 : Kept (fun _ => False) x2 (x2.alloc (.cells #[.int .i64 1, .int .i64 gsrc, .int .i64 gdst, .int .i64 gprio, .int .u64 (gmsg : Int), .int .i64 goff, .int .i64 glen, .int .i64 gtotal, .int .i64 gnum, .slice s2 gdata.length c2] 25)) := (Kept.refl _ x2).alloc _
  generalize x2.alloc (.cells #[.int .i64 1, .int .i64 gsrc, .int .i64 gdst, .int .i64 gprio, .int .u64 (gmsg : Int), .int .i64 goff, .int .i64 glen, .int .i64 gtotal, .int .i64 gnum, .slice s2 gdata.length c2] 25) = x3 at *
  generalize x2.heap.size = gb at *
  have g0 := hG.cell (o := 0) rfl
  have HA := Lib.hid (k3.blk HA.out (fun f => f))
  have HK := Lib.hid (HK.out.trans k3)
  have HRV := Lib.hid (HRV.out.kept k3)
  have HGB := Lib.hid hG
  clear hG k3
  go_upto_region 9 with fail
  clear g0
  go_wp2_with fail
  with_reducible refine Calls.mono (DC.out _ _ _ HRV.out hm1) ?_
  rintro e x4 ⟨s3, c3, rfl, hS3, k4⟩
  rw [HFT.out]
  have HA := Lib.hid (k4.blk HA.out (fun f => f))
  have HK := Lib.hid (HK.out.trans k4)
  have HGB := Lib.hid (k4.blk HGB.out (fun f => f))
  have HS3 := Lib.hid hS3
  clear k4 hS3 HRV
  go_upto_region 10 with fail
  have hY : Blk (x4.alloc (.cells #[.int .i64 7, .int .i64 gsrc, .int .i64 gdst, .int .i64 0, .int .u64 (gmsg : Int), .int .i64 goff, .int .i64 glen, .int .i64 gtotal, .int .i64 gnum, .slice s3 0 c3] 25)) x4.heap.size [.int .i64 7, .int .i64 gsrc, .int .i64 gdst, .int .i64 0, .int .u64 (gmsg : Int), .int .i64 goff, .int .i64 glen, .int .i64 gtotal, .int .i64 gnum, .slice s3 0 c3] 25 := Blk.new x4 _ _
  have k5 : Kept (fun _ => False) x4 (x4.alloc (.cells #[.int .i64 7, .int .i64 gsrc, .int .i64 gdst, .int .i64 0, .int .u64 (gmsg : Int), .int .i64 goff, .int .i64 glen, .int .i64 gtotal, .int .i64 gnum, .slice s3 0 c3] 25)) := (Kept.refl _ x4).alloc _
  generalize x4.alloc (.cells #[.int .i64 7, .int .i64 gsrc, .int .i64 gdst, .int .i64 0, .int .u64 (gmsg : Int), .int .i64 goff, .int .i64 glen, .int .i64 gtotal, .int .i64 gnum, .slice s3 0 c3] 25) = x5 at *
  generalize x4.heap.size = yb at *
  have HY := Lib.hid hY.drew
  have HA := Lib.hid (k5.blk HA.out (fun f => f)).drew
  have HK := Lib.hid (HK.out.trans k5).drew
  have HGB := Lib.hid (k5.blk HGB.out (fun f => f)).drew
  have HS3 := Lib.hid (HS3.out.kept k5.drew)
  have Z0 := Lib.hid (Kept.refl (fun _ => False) x5.drew)
  clear hY k5
  have KS := Lib.hid fun (w' : World) (k : Kept (fun _ => False) x5.drew w') => (show w'.cell? ⟨yb, 0, none⟩ = some (.int .i64 7) ∧ w'.cell? ⟨yb, 1, none⟩ = some (.int .i64 gsrc) ∧ w'.cell? ⟨yb, 2, none⟩ = some (.int .i64 gdst) ∧ w'.cell? ⟨yb, 3, none⟩ = some (.int .i64 0) ∧ w'.cell? ⟨yb, 4, none⟩ = some (.int .u64 (gmsg : Int)) ∧ w'.cell? ⟨yb, 5, none⟩ = some (.int .i64 goff) ∧ w'.cell? ⟨yb, 6, none⟩ = some (.int .i64 glen) ∧ w'.cell? ⟨yb, 7, none⟩ = some (.int .i64 gtotal) ∧ w'.cell? ⟨yb, 8, none⟩ = some (.int .i64 gnum) ∧ w'.cell? ⟨yb, 9, none⟩ = some (.slice s3 0 c3) ∧ w'.cell? ⟨gb, 0, none⟩ = some (.int .i64 1) ∧ w'.cell? ⟨gb, 1, none⟩ = some (.int .i64 gsrc) ∧ w'.cell? ⟨gb, 2, none⟩ = some (.int .i64 gdst) ∧ w'.cell? ⟨gb, 3, none⟩ = some (.int .i64 gprio) ∧ w'.cell? ⟨gb, 4, none⟩ = some (.int .u64 (gmsg : Int)) ∧ w'.cell? ⟨gb, 5, none⟩ = some (.int .i64 goff) ∧ w'.cell? ⟨gb, 6, none⟩ = some (.int .i64 glen) ∧ w'.cell? ⟨gb, 7, none⟩ = some (.int .i64 gtotal) ∧ w'.cell? ⟨gb, 8, none⟩ = some (.int .i64 gnum) ∧ w'.cell? ⟨gb, 9, none⟩ = some (.slice s2 gdata.length c2) from ⟨(k.blk HY.out (fun f => f)).cell (o := 0) rfl, ⟨(k.blk HY.out (fun f => f)).cell (o := 1) rfl, ⟨(k.blk HY.out (fun f => f)).cell (o := 2) rfl, ⟨(k.blk HY.out (fun f => f)).cell (o := 3) rfl, ⟨(k.blk HY.out (fun f => f)).cell (o := 4) rfl, ⟨(k.blk HY.out (fun f => f)).cell (o := 5) rfl, ⟨(k.blk HY.out (fun f => f)).cell (o := 6) rfl, ⟨(k.blk HY.out (fun f => f)).cell (o := 7) rfl, ⟨(k.blk HY.out (fun f => f)).cell (o := 8) rfl, ⟨(k.blk HY.out (fun f => f)).cell (o := 9) rfl, ⟨(k.blk HGB.out (fun f => f)).cell (o := 0) rfl, ⟨(k.blk HGB.out (fun f => f)).cell (o := 1) rfl, ⟨(k.blk HGB.out (fun f => f)).cell (o := 2) rfl, ⟨(k.blk HGB.out (fun f => f)).cell (o := 3) rfl, ⟨(k.blk HGB.out (fun f => f)).cell (o := 4) rfl, ⟨(k.blk HGB.out (fun f => f)).cell (o := 5) rfl, ⟨(k.blk HGB.out (fun f => f)).cell (o := 6) rfl, ⟨(k.blk HGB.out (fun f => f)).cell (o := 7) rfl, ⟨(k.blk HGB.out (fun f => f)).cell (o := 8) rfl, (k.blk HGB.out (fun f => f)).cell (o := 9) rfl⟩⟩⟩⟩⟩⟩⟩⟩⟩⟩⟩⟩⟩⟩⟩⟩⟩⟩⟩)
  refine wp_region_held_drew (S := fun w' => w'.cell? ⟨yb, 0, none⟩ = some (.int .i64 7) ∧ w'.cell? ⟨yb, 1, none⟩ = some (.int .i64 gsrc) ∧ w'.cell? ⟨yb, 2, none⟩ = some (.int .i64 gdst) ∧ w'.cell? ⟨yb, 3, none⟩ = some (.int .i64 0) ∧ w'.cell? ⟨yb, 4, none⟩ = some (.int .u64 (gmsg : Int)) ∧ w'.cell? ⟨yb, 5, none⟩ = some (.int .i64 goff) ∧ w'.cell? ⟨yb, 6, none⟩ = some (.int .i64 glen) ∧ w'.cell? ⟨yb, 7, none⟩ = some (.int .i64 gtotal) ∧ w'.cell? ⟨yb, 8, none⟩ = some (.int .i64 gnum) ∧ w'.cell? ⟨yb, 9, none⟩ = some (.slice s3 0 c3) ∧ w'.cell? ⟨gb, 0, none⟩ = some (.int .i64 1) ∧ w'.cell? ⟨gb, 1, none⟩ = some (.int .i64 gsrc) ∧ w'.cell? ⟨gb, 2, none⟩ = some (.int .i64 gdst) ∧ w'.cell? ⟨gb, 3, none⟩ = some (.int .i64 gprio) ∧ w'.cell? ⟨gb, 4, none⟩ = some (.int .u64 (gmsg : Int)) ∧ w'.cell? ⟨gb, 5, none⟩ = some (.int .i64 goff) ∧ w'.cell? ⟨gb, 6, none⟩ = some (.int .i64 glen) ∧ w'.cell? ⟨gb, 7, none⟩ = some (.int .i64 gtotal) ∧ w'.cell? ⟨gb, 8, none⟩ = some (.int .i64 gnum) ∧ w'.cell? ⟨gb, 9, none⟩ = some (.slice s2 gdata.length c2)) (by kernel_rfl) (KS.out _ Z0.out) (fun hHeld => ?_)
  refine wpAnyH_take (i := 0) (oi := { dst := some 61, op := Go.Op.move (Go.Operand.tmp 11), type := 27, pos := "law.go:66", after := #[], guard := none }) (v := ?_) rfl (by kernel_rfl) (by kernel_rfl) (by kernel_rfl) (fun _ _ _ h => h) (Or.inl ⟨by rfl, ?_⟩) (by assumption) ?_
  rotate_left 1
  focus (intro w hSw; (try dsimp only at hSw); go_simp; try with_reducible rfl)
  try simp only [Act.put, List.setIfInBounds_toArray, List.set_cons_zero, List.set_cons_succ]
  refine wpAnyH_take (i := 1) (oi := { dst := some 62, op := Go.Op.binOp Go.BinOp.neq 27 (Go.Operand.tmp 61) (Go.Operand.const (Go.Value.int Go.IntKind.i64 0)) 27, type := 4, pos := "law.go:66", after := #[{ on := 0, ground := Go.Ground.data }], guard := none }) (v := ?_) rfl (by kernel_rfl) (by kernel_rfl) (by kernel_rfl) (fun _ _ _ h => h) (Or.inl ⟨by rfl, ?_⟩) (by assumption) ?_
  rotate_left 1
  focus (intro w hSw; (try dsimp only at hSw); go_simp; try with_reducible rfl)
  try simp only [Act.put, List.setIfInBounds_toArray, List.set_cons_zero, List.set_cons_succ]
  refine wpAnyH_take (i := 2) (oi := { dst := some 63, op := Go.Op.move (Go.Operand.tmp 62), type := 4, pos := "law.go:66", after := #[{ on := 1, ground := Go.Ground.data }], guard := none }) (v := ?_) rfl (by kernel_rfl) (by kernel_rfl) (by kernel_rfl) (fun _ _ _ h => h) (Or.inl ⟨by rfl, ?_⟩) (by assumption) ?_
  rotate_left 1
  focus (intro w hSw; (try dsimp only at hSw); go_simp; try with_reducible rfl)
  try simp only [Act.put, List.setIfInBounds_toArray, List.set_cons_zero, List.set_cons_succ]
  refine wpAnyH_take (i := 3) (oi := { dst := some 64, op := Go.Op.load 25 (Go.Operand.tmp 10), type := 25, pos := "law.go:66", after := #[{ on := 2, ground := Go.Ground.guard }], guard := some (2, false) }) (v := ?_) rfl (by kernel_rfl) (by kernel_rfl) (by kernel_rfl) (fun _ _ _ h => h) (Or.inl ⟨by rfl, ?_⟩) (by assumption) ?_
  rotate_left 1
  focus (intro w hSw; (try dsimp only at hSw); go_simp; try with_reducible rfl)
  try simp only [Act.put, List.setIfInBounds_toArray, List.set_cons_zero, List.set_cons_succ]
  refine wpAnyH_take (i := 4) (oi := { dst := some 65, op := Go.Op.load 25 (Go.Operand.tmp 7), type := 25, pos := "law.go:66", after := #[{ on := 2, ground := Go.Ground.guard }], guard := some (2, false) }) (v := ?_) rfl (by kernel_rfl) (by kernel_rfl) (by kernel_rfl) (fun _ _ _ h => h) (Or.inl ⟨by rfl, ?_⟩) (by assumption) ?_
  rotate_left 1
  focus (intro w hSw; (try dsimp only at hSw); go_simp; try with_reducible rfl)
  try simp only [Act.put, List.setIfInBounds_toArray, List.set_cons_zero, List.set_cons_succ]
  refine wpAnyH_ready (rs := [5]) (by kernel_rfl) (by simp) ?_
  refine AllReadyH.cons (o := { dst := some 66, op := Go.Op.call { callee := Go.Callee.value (Go.Operand.func 22), args := #[Go.Operand.tmp 65], argTypes := #[25] }, type := 25, pos := "law.go:66", after := #[{ on := 4, ground := Go.Ground.data }, { on := 2, ground := Go.Ground.chain }, { on := 2, ground := Go.Ground.guard }], guard := some (2, false) }) rfl (fun K hK => ?_) AllReadyH.nil
  go_simp
  with_reducible refine Calls.mono (TMh.out _ _ _) ?_
  rintro e z1 ⟨rfl, j1⟩
  have Z0 := Lib.hid (Z0.out.trans j1)
  clear j1
  refine hK.out _ _ (KS.out _ Z0.out) (fun hHeld => ?_)
  clear hK K
  try simp only [Act.put, List.setIfInBounds_toArray, List.set_cons_zero, List.set_cons_succ]
  refine wpAnyH_ready (rs := [6]) (by kernel_rfl) (by simp) ?_
  refine AllReadyH.cons (o := { dst := some 67, op := Go.Op.call { callee := Go.Callee.value (Go.Operand.func 19), args := #[Go.Operand.tmp 64, Go.Operand.tmp 66], argTypes := #[25, 25] }, type := 4, pos := "law.go:66", after := #[{ on := 3, ground := Go.Ground.data }, { on := 5, ground := Go.Ground.data }, { on := 5, ground := Go.Ground.chain }, { on := 2, ground := Go.Ground.guard }], guard := some (2, false) }) rfl (fun K hK => ?_) AllReadyH.nil
  go_simp
  with_reducible refine Calls.mono (SRh.out _ _ _ (HS3.out.kept Z0.out)) ?_
  rintro e z2 ⟨rfl, j2⟩
  have Z0 := Lib.hid (Z0.out.trans j2)
  clear j2
  refine hK.out _ _ (KS.out _ Z0.out) (fun hHeld => ?_)
  clear hK K
  try simp only [Act.put, List.setIfInBounds_toArray, List.set_cons_zero, List.set_cons_succ]
  refine wpAnyH_take (i := 7) (oi := { dst := some 68, op := Go.Op.unOp Go.UnOp.not 4 (Go.Operand.tmp 67), type := 4, pos := "law.go:66", after := #[{ on := 6, ground := Go.Ground.data }, { on := 2, ground := Go.Ground.guard }], guard := some (2, false) }) (v := ?_) rfl (by kernel_rfl) (by kernel_rfl) (by kernel_rfl) (fun _ _ _ h => h) (Or.inl ⟨by rfl, ?_⟩) (by assumption) ?_
  rotate_left 1
  focus (intro w hSw; (try dsimp only at hSw); go_simp; try with_reducible rfl)
  try simp only [Act.put, List.setIfInBounds_toArray, List.set_cons_zero, List.set_cons_succ]
  refine wpAnyH_take (i := 8) (oi := { dst := some 69, op := Go.Op.pick (Go.Operand.tmp 63) (Go.Operand.const (Go.Value.bool true)) (Go.Operand.tmp 68), type := 4, pos := "law.go:66", after := #[{ on := 2, ground := Go.Ground.data }, { on := 7, ground := Go.Ground.data }], guard := none }) (v := ?_) rfl (by kernel_rfl) (by kernel_rfl) (by kernel_rfl) (fun _ _ _ h => h) (Or.inl ⟨by rfl, ?_⟩) (by assumption) ?_
  rotate_left 1
  focus (intro w hSw; (try dsimp only at hSw); go_simp; try with_reducible rfl)
  try simp only [Act.put, List.setIfInBounds_toArray, List.set_cons_zero, List.set_cons_succ]
  refine wpAnyH_take (i := 9) (oi := { dst := some 70, op := Go.Op.move (Go.Operand.tmp 69), type := 4, pos := "law.go:66", after := #[{ on := 8, ground := Go.Ground.data }, { on := 6, ground := Go.Ground.chain }], guard := none }) (v := ?_) rfl (by kernel_rfl) (by kernel_rfl) (by kernel_rfl) (fun _ _ _ h => h) (Or.inl ⟨by rfl, ?_⟩) (by assumption) ?_
  rotate_left 1
  focus (intro w hSw; (try dsimp only at hSw); go_simp; try with_reducible rfl)
  try simp only [Act.put, List.setIfInBounds_toArray, List.set_cons_zero, List.set_cons_succ]
  refine wpAnyH_take (i := 10) (oi := { dst := some 71, op := Go.Op.move (Go.Operand.tmp 5), type := 23, pos := "law.go:66", after := #[{ on := 9, ground := Go.Ground.guard }], guard := some (9, false) }) (v := ?_) rfl (by kernel_rfl) (by kernel_rfl) (by kernel_rfl) (fun _ _ _ h => h) (Or.inl ⟨by rfl, ?_⟩) (by assumption) ?_
  rotate_left 1
  focus (intro w hSw; (try dsimp only at hSw); go_simp; try with_reducible rfl)
  try simp only [Act.put, List.setIfInBounds_toArray, List.set_cons_zero, List.set_cons_succ]
  refine wpAnyH_take (i := 11) (oi := { dst := some 72, op := Go.Op.call { callee := Go.Callee.builtin Go.Builtin.len, args := #[Go.Operand.tmp 71], argTypes := #[23] }, type := 3, pos := "law.go:66", after := #[{ on := 10, ground := Go.Ground.data }, { on := 9, ground := Go.Ground.guard }], guard := some (9, false) }) (v := ?_) rfl (by kernel_rfl) (by kernel_rfl) (by kernel_rfl) (fun _ _ _ h => h) (Or.inl ⟨by rfl, ?_⟩) (by assumption) ?_
  rotate_left 1
  focus (intro w hSw; (try dsimp only at hSw); go_simp; try with_reducible rfl)
  try simp only [Act.put, List.setIfInBounds_toArray, List.set_cons_zero, List.set_cons_succ]
  refine wpAnyH_take (i := 12) (oi := { dst := some 73, op := Go.Op.binOp Go.BinOp.neq 3 (Go.Operand.tmp 72) (Go.Operand.const (Go.Value.int Go.IntKind.i64 26)) 3, type := 4, pos := "law.go:66", after := #[{ on := 11, ground := Go.Ground.data }, { on := 9, ground := Go.Ground.guard }], guard := some (9, false) }) (v := ?_) rfl (by kernel_rfl) (by kernel_rfl) (by kernel_rfl) (fun _ _ _ h => h) (Or.inl ⟨by rfl, ?_⟩) (by assumption) ?_
  rotate_left 1
  focus (intro w hSw; (try dsimp only at hSw); go_simp; try with_reducible rfl)
  try simp only [Act.put, List.setIfInBounds_toArray, List.set_cons_zero, List.set_cons_succ]
  refine wpAnyH_take (i := 13) (oi := { dst := some 74, op := Go.Op.pick (Go.Operand.tmp 70) (Go.Operand.const (Go.Value.bool true)) (Go.Operand.tmp 73), type := 4, pos := "law.go:66", after := #[{ on := 9, ground := Go.Ground.data }, { on := 12, ground := Go.Ground.data }], guard := none }) (v := ?_) rfl (by kernel_rfl) (by kernel_rfl) (by kernel_rfl) (fun _ _ _ h => h) (Or.inl ⟨by rfl, ?_⟩) (by assumption) ?_
  rotate_left 1
  focus (intro w hSw; (try dsimp only at hSw); go_simp; try with_reducible rfl)
  try simp only [Act.put, List.setIfInBounds_toArray, List.set_cons_zero, List.set_cons_succ]
  refine wpAnyH_done (by kernel_rfl) ?_ _
  have HA := Lib.hid (Z0.out.blk HA.out (fun f => f))
  have HK := Lib.hid (HK.out.trans Z0.out)
  clear hHeld KS Z0 HY HGB HS3
  go_upto_region 12 with fail
  have e0 := HA.out.cell (o := 0) rfl
  have e1 := HA.out.cell (o := 1) rfl
  have e2 := HA.out.cell (o := 2) rfl
  have e3 := HA.out.cell (o := 3) rfl
  have e4 := HA.out.cell (o := 4) rfl
  have e5 := HA.out.cell (o := 5) rfl
  have e6 := HA.out.cell (o := 6) rfl
  have e7 := HA.out.cell (o := 7) rfl
  have e8 := HA.out.cell (o := 8) rfl
  have e9 := HA.out.cell (o := 9) rfl
  go_wp2_with fail
  with_reducible refine Calls.mono (EN.out _ HK.out) ?_
  rintro e u1 (⟨_, rfl, k1⟩ | ⟨hok, v, rfl, hR, k1⟩)
  · have HK1 := Lib.hid (HK.out.trans k1)
    go_wp2_with (go_at_call 9; (with_reducible refine Calls.mono (HC.out _) ?_); rintro e u2 ⟨rfl, k2⟩)
    go_ret
    exact ⟨rfl, HK1.out.trans k2⟩
  obtain ⟨g1, c1, rfl, hm1, _⟩ := row_cap hR (by have := HLE.out; omega)
  have HA := Lib.hid (k1.blk HA.out (fun f => f))
  have HK := Lib.hid (HK.out.trans k1)
  have TT := Lib.hid (T1.out _ _ _ hok hR.src hm1)
  have HOK := Lib.hid hok
  clear k1 hR hok e0 e1 e2 e3 e4 e5 e6 e7 e8 e9
  go_upto_region 15 with fail
  go_wp2_with fail
  with_reducible refine Calls.mono TT.out ?_
  rintro e u2 (⟨hk, v2, rfl, hR2, k2⟩ | ⟨hk, rfl, k2⟩)
  · obtain ⟨g2, c2, rfl, hm2, _⟩ := row_cap hR2 (by have := HL26.out; omega)
    have T2' := Lib.hid (T2.out _ _ _ HOK.out hk hR2.src hm2)
    have hA2 := k2.blk HA.out (fun f => f)
    have HK2 := Lib.hid (HK.out.trans k2)
    have HA2 := Lib.hid hA2
    subst hk
    clear hR2 k2 hA2
    go_upto_region 16 with fail
    go_wp2_with fail
    with_reducible refine Calls.mono T2'.out ?_
    rintro e u3 ⟨rfl, k3⟩
    have e0 := (k3.blk HA2.out (fun f => f)).cell (o := 0) rfl
    have HK3 := Lib.hid (HK2.out.trans k3)
    clear k3
    go_upto_region 17 with fail
    go_wp2_with (go_at_call 9; (with_reducible refine Calls.mono (HC.out _) ?_); rintro e u4 ⟨rfl, k4⟩)
    go_ret
    exact ⟨rfl, HK3.out.trans k4⟩
  · have hA2 := k2.blk HA.out (fun f => f)
    have HK2 := Lib.hid (HK.out.trans k2)
    have HA2 := Lib.hid hA2
    have hk1 : (kind == 1) = false := by rw [beq_eq_false_iff_ne]; exact hk
    clear k2 hA2 hk
    go_upto_region 16 with fail
    go_wp2_with fail
    with_reducible refine Calls.mono (T3.out _) ?_
    rintro e u3 ⟨rfl, k3⟩
    have e0 := (k3.blk HA2.out (fun f => f)).cell (o := 0) rfl
    have HK3 := Lib.hid (HK2.out.trans k3)
    clear k3
    go_upto_region 17 with fail
    go_wp2_with (go_at_call 9; (with_reducible refine Calls.mono (HC.out _) ?_); rintro e u4 ⟨rfl, k4⟩)
    go_ret
    exact ⟨rfl, HK3.out.trans k4⟩
theorem walk (a0 : Frm) (s0 : Option Addr) (cap0 : Nat) (a1 : List UInt8) (s1 : Option Addr) (cap1 : Nat) (w : World) (w0 : FrameIn w s0 cap0 a0) (w1 : Byts w s1 cap1 a1) :
    Calls Try.prog 6 #[fv a0 s0 cap0, .slice s1 a1.length cap1] w fun e w' => e = .returned (.bool true) ∧ Old w w' := by
  by_cases h : 2000 < a0.data.length ∨ 2000 < a1.length
  · exact early a0 s0 cap0 a1 s1 cap1 w w0 w1 h
  · by_cases hg : WrM.Good a1 ∧ (flds a1).kind = 1
    · exact late_yes a0 s0 cap0 a1 s1 cap1 w w0 w1 (by omega) (by omega) hg
    · exact late_no a0 s0 cap0 a1 s1 cap1 w w0 w1 (by omega) (by omega) hg
set_option maxRecDepth 100000 in
set_option maxHeartbeats 1000000 in
theorem lifted (os : Os) (started : os.Started) (H : Type) (enc : TypeId × Value → H) :
    ReturnsInHanded {} Try.checked os 6 .any (Rows.wireTrimsSpec.pre6 enc Try.prog Try.f6 Rows.wireTrimsRow.domain false) (Rows.wireTrimsSpec.post enc Try.prog Try.f6 false true false false) := by
  refine returnsInHanded_of_change (C := Try.checked) own started (by kernel_rfl) Try.func6
    (ChangeSpec.witness6 (enc := enc) (C := Try.checked) false ⟨#[], #[.agg #[.int .i64 0, .int .i64 0, .int .i64 0, .int .i64 0, .int .u64 0, .int .i64 0, .int .i64 0, .int .i64 0, .int .i64 0, .slice none 0 0], .slice none 0 0], []⟩ 8 (by kernel_rfl) (by kernel_rfl) (by kernel_rfl) (by kernel_rfl)) ?_
  intro W base args ds gs before hval0 hW hcnd _
  have hval : ∀ (j : Nat) t v, Try.f6.params[j]? = some t → args[j]? = some v → Value.okWide Try.prog W .any base t v := hval0
  have hW' := hW
  obtain ⟨p, q, hA0, hV, rfl, hfz, hnd⟩ := hW
  have hA : DataW.TrodAll enc Try.prog W 0 (fun _ => true) true Try.f6.params.toList args.toList ds p := hA0
  rw [Try.params6] at hA hval
  obtain ⟨v0, vs0, d0, ds0, p0, q0, hargs, rfl, rfl, h0, r0⟩ := trodAll_cons hA
  obtain ⟨v1, vs1, d1, ds1, p1, q1, rfl, rfl, rfl, h1, r1⟩ := trodAll_cons r0
  obtain ⟨rfl, rfl, rfl⟩ := trodAll_nil r1
  obtain rfl : args = #[v0, v1] := by cases args; simp_all
  obtain ⟨rfl, rfl⟩ := trodVars_none hV
  obtain ⟨a0, s0, cap0, rfl, w0⟩ := Opn.frame_of (hval 0 25 v0 rfl rfl) h0
  obtain ⟨s1, cap1, a1, rfl, w1⟩ := Opn.bytes_of (hval 1 23 v1 rfl rfl) h1
  clear hA0 hval0
  refine (walk a0 s0 cap0 a1 s1 cap1 W w0 w1).mono fun e W' ⟨he, hg⟩ => ?_
  subst he
  exact ⟨_, rfl, post_of_old hW' (fun _ _ _ => (trodAll_cons_mk (shut_bool Try.underlying4 _) trodAll_mk0)) (fun sp hsp => (trodAll_cons_mk (Opn.back (by kernel_rfl) (of_decide_eq_true (by kernel_rfl)) h0 hg (fun x hx => hW'.lt x (by simp [hx])) (fun x hx => hsp x (by simp [hx]))) (trodAll_cons_mk (Opn.back (by kernel_rfl) (of_decide_eq_true (by kernel_rfl)) h1 hg (fun x hx => hW'.lt x (by simp [hx])) (fun x hx => hsp x (by simp [hx]))) trodAll_mk0))) (fun _ _ => rfl)
    hg (ok_one (by kernel_rfl) rfl (okWide_bool_mk Try.underlying4 _))⟩
theorem over : Rows.wireTrimsRow.holds Try.pinned (OpenSpec.ofChange Rows.wireTrimsSpec) :=
  OpenClaim.holds_of_wide 6 Try.f6 rfl rfl rfl rfl rfl rfl rfl ⟨rfl, rfl, rfl, rfl, rfl⟩ rfl rfl rfl rfl rfl (by kernel_rfl) Try.func6 (by kernel_rfl)
    (of_decide_eq_true (by kernel_rfl)) (by unfold Func.isWrapper; first | (rw [if_pos (by decide +kernel)]; kernel_rfl) | (rw [if_neg (by decide +kernel)]; exact ⟨rfl, rfl⟩))
    (fun os started H enc _ => lifted os started H enc)
theorem proved : Rows.WireTrimsSaid :=
  over
#print axioms proved
end Go.Proofs.Ytkbncpclfeiofaa.wireTrims
