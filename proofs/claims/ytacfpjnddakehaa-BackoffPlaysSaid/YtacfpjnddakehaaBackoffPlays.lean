/- BackoffPlays (mizzenlaw4): for every three ints and slice of steps (structs of two ints) the law returns true and its arguments read as before. Conditions: none. -/
import Derived.Test.YtacfpjnddakehaaRows
import Derived.Test.YtacfpjnddakehaaEnd
import Derived.Test.YtacfpjnddakehaaInts
import Derived.WalkKit
import Derived.ProofKit
import Derived.OpenShut
import Derived.Test.YtacfpjnddakehaaBoAwake
import Derived.Test.YtacfpjnddakehaaBo4
import Derived.Deep.LoopGhost
import Derived.Deep.RegionHeld3
import Derived.Deep.DrawnRows
import Derived.Deep.DeepCutAuto
import Derived.Deep.CutBlock
import Derived.WalkLawsBesides
set_option linter.unusedVariables false
namespace Go.Proofs.Ytacfpjnddakehaa.backoffPlays
open Go.ChangeShapes Go.WideShapes Go.ChangeAt Go.RowKit Go.Proofs.Ytacfpjnddakehaa.Hp Go.Proofs.Ytacfpjnddakehaa.End
open Opn NumM NumC Bo BoAwake
theorem own : ownKnob Try.prog.godebug = none := by kernel_rfl
attribute [local go_sem ↓] Go.wp_at_zero Go.wp_at_succ
/-- Both timers beside each other, and the step's time in the caller's row. -/
structure Two (W : World) (b c g o : Nat) (x y m t q a q' a' : Int) (w : World) : Prop where
  pb : PT w b x y m q a
  rs : RS w c x y m q' a'
  ct : w.cell? ⟨g, o, none⟩ = some (.int .i64 t)
  gl : g < W.heap.size
  old : Old W w
structure Apart (W : World) (b c : Nat) : Prop where
  hb : W.heap.size ≤ b
  hc : W.heap.size ≤ c
  hbc : b ≠ c
theorem RS.kept {F : Nat → Prop} {w w' : World} {c : Nat} {x y m q a : Int} (k : Kept F w w') (hF : ¬ F c) (h : RS w c x y m q a) : RS w' c x y m q a := by
  obtain ⟨A, h1, h2⟩ := h
  exact ⟨A, h1, k.blk h2 hF⟩
theorem cellOf {F : Nat → Prop} {w w' : World} (k : Kept F w w') {g o : Nat} {v : Value} (hg : g < w.heap.size) (hF : ¬ F g) (h : w.cell? ⟨g, o, none⟩ = some v) : w'.cell? ⟨g, o, none⟩ = some v := by rw [keptCell k hg hF]; exact h
variable {W : World} {b c g o : Nat} {x y m t q a q' a' : Int} {w : World}
theorem Two.atB (h : Two W b c g o x y m t q a q' a' w) (p : Apart W b c) {w' : World} {n z : Int} (hp : PT w' b x y m n z) (k : Kept (fun k => k = b) w w') : Two W b c g o x y m t n z q' a' w' := by
  have := p.hb
  have hg := h.gl
  exact ⟨hp, RS.kept k (fun e => p.hbc e.symm) h.rs, cellOf k (Nat.lt_of_lt_of_le hg h.old.size) (fun e => by omega) h.ct, hg, h.old.trans' k (fun j hj e => by omega)⟩
theorem Two.atC (h : Two W b c g o x y m t q a q' a' w) (p : Apart W b c) {w' : World} {n z : Int} (hp : RS w' c x y m n z) (k : Kept (fun k => k = c) w w') : Two W b c g o x y m t q a n z w' := by
  have := p.hc
  have hg := h.gl
  exact ⟨k.blk h.pb (fun e => p.hbc e), hp, cellOf k (Nat.lt_of_lt_of_le hg h.old.size) (fun e => by omega) h.ct, hg, h.old.trans' k (fun j hj e => by omega)⟩
theorem Two.atN (h : Two W b c g o x y m t q a q' a' w) {w' : World} (k : Kept (fun _ => False) w w') : Two W b c g o x y m t q a q' a' w' :=
  ⟨k.blk h.pb (fun e => e), RS.kept k (fun e => e) h.rs, cellOf k (Nat.lt_of_lt_of_le h.gl h.old.size) (fun e => e) h.ct, h.gl, h.old.trans k⟩
theorem Two.start (h : Two W b c g o x y m t q a q' a' w) (p : Apart W b c) :
    Calls Try.prog 9 #[.pointer (some ⟨b, 0, none⟩), .int .i64 t] w fun e w' => e = .returned (.tuple #[]) ∧ Two W b c g o x y m t 0 (nextI x y 0 t) q' a' w' :=
  (start_any h.pb t).mono fun e w' ⟨e1, e2, k⟩ => ⟨e1, h.atB p e2 k⟩
theorem Two.startR (h : Two W b c g o x y m t q a q' a' w) (p : Apart W b c) :
    Calls Try.prog 10 #[.pointer (some ⟨c, 0, none⟩), .int .i64 t] w fun e w' => e = .returned (.tuple #[]) ∧ Two W b c g o x y m t q a 0 (nextI x y 0 t) w' := by
  obtain ⟨A, _, hr⟩ := h.rs
  exact (start_ref hr t).mono fun e w' ⟨e1, e2, k⟩ => ⟨e1, h.atC p e2 k⟩
theorem Two.fired (h : Two W b c g o x y m t q a q' a' w) (p : Apart W b c) (h0 : 0 ≤ q) (h1 : q ≤ 1000000000) :
    Calls Try.prog 11 #[.pointer (some ⟨b, 0, none⟩), .int .i64 t] w fun e w' =>
      e = .returned (.tuple #[.bool (fire x y m q a t).1, .int .i64 (fire x y m q a t).2.1]) ∧ Two W b c g o x y m t (fire x y m q a t).2.2.1 (fire x y m q a t).2.2.2 q' a' w' :=
  (fired_any h.pb h0 h1 t).mono fun e w' ⟨e1, e2, k⟩ => ⟨e1, h.atB p e2 k⟩
theorem Two.firedR (h : Two W b c g o x y m t q' a' q a w) (p : Apart W b c) (h0 : 0 ≤ q) (h1 : q ≤ 1000000000) :
    Calls Try.prog 12 #[.pointer (some ⟨c, 0, none⟩), .int .i64 t] w fun e w' =>
      e = .returned (.tuple #[.bool (fire x y m q a t).1, .int .i64 (fire x y m q a t).2.1]) ∧ Two W b c g o x y m t q' a' (fire x y m q a t).2.2.1 (fire x y m q a t).2.2.2 w' :=
  (fired_ref h.rs h0 h1 t).mono fun e w' ⟨e1, e2, k⟩ => ⟨e1, h.atC p e2 k⟩
theorem Two.heard (h : Two W b c g o x y m t q a q' a' w) (p : Apart W b c) (hr : 0 < a) :
    Calls Try.prog 13 #[.pointer (some ⟨b, 0, none⟩), .int .i64 t] w fun e w' => e = .returned (.tuple #[]) ∧ Two W b c g o x y m t 0 (nextI x y 0 t) q' a' w' :=
  (heard_yes h.pb hr t).mono fun e w' ⟨e1, e2, k⟩ => ⟨e1, h.atB p e2 k⟩
theorem Two.heardNo (h : Two W b c g o x y m t q a q' a' w) (p : Apart W b c) (hr : ¬ 0 < a) :
    Calls Try.prog 13 #[.pointer (some ⟨b, 0, none⟩), .int .i64 t] w fun e w' => e = .returned (.tuple #[]) ∧ Two W b c g o x y m t q a q' a' w' :=
  (heard_no h.pb hr t).mono fun e w' ⟨e1, e2, k⟩ => ⟨e1, h.atB p e2 k⟩
theorem Two.stop (h : Two W b c g o x y m t q a q' a' w) (p : Apart W b c) :
    Calls Try.prog 14 #[.pointer (some ⟨b, 0, none⟩)] w fun e w' => e = .returned (.tuple #[]) ∧ Two W b c g o x y m t 0 0 q' a' w' :=
  (stop_any h.pb).mono fun e w' ⟨e1, e2, k⟩ => ⟨e1, h.atB p e2 k⟩
theorem Two.stopR (h : Two W b c g o x y m t q a q' a' w) (p : Apart W b c) : Two W b c g o x y m t q a 0 0 ((w.setCell ⟨c, 3, none⟩ (.bool false)).setCell ⟨c, 5, none⟩ (.int .i64 0)) := by
  obtain ⟨A, _, hr⟩ := h.rs
  exact h.atC p (RT.ended (A := A) ((Blk.set hr 3 (.bool false)).set 5 (.int .i64 0))) ((Kept.one w c 3 _).set (fun _ => rfl) 5 _)
theorem Two.when (h : Two W b c g o x y m t q a q' a' w) :
    Calls Try.prog 15 #[.pointer (some ⟨b, 0, none⟩)] w fun e w' => e = .returned (.tuple #[.int .i64 a, .bool (decide (0 < a))]) ∧ Two W b c g o x y m t q a q' a' w' :=
  (at_any h.pb).mono fun e w' ⟨e1, _, k⟩ => ⟨e1, h.atN k⟩
theorem fire_bd (x y m q a t : Int) (h0 : 0 ≤ q) (ha : 0 ≤ a) : 0 ≤ (fire x y m q a t).2.2.1 ∧ (fire x y m q a t).2.2.1 ≤ q + 1 ∧ 0 ≤ (fire x y m q a t).2.2.2 := by
  have := next_pos x y (q + 1) t
  unfold fire
  split
  · exact ⟨h0, by show q ≤ q + 1; omega, ha⟩
  · split
    · exact ⟨by show 0 ≤ q + 1; omega, Int.le_refl _, Int.le_refl _⟩
    · exact ⟨by show 0 ≤ q + 1; omega, Int.le_refl _, by show 0 ≤ nextI x y (q + 1) t; omega⟩
set_option maxRecDepth 100000 in
theorem early1 (x y m : Int) (zs : List (List Int)) (s : Option Addr) (cap : Nat) (w : World) (h : 100 < zs.length) :
    Calls Try.prog 3 #[.int .i64 x, .int .i64 y, .int .i64 m, .slice s zs.length cap] w fun e w' => e = .returned (.bool true) ∧ Old w w' := by
  have HC := Lib.hid (awake_any w)
  go_enter Try.func3, Try.ntmps3
  go_wp2_with (go_at_call 7; refine HC.out.mono ?_; rintro e w' ⟨rfl, ho⟩)
  go_ret
  exact ⟨rfl, ho⟩
theorem unfit3 {x y m : Int} (h : ¬ Fits x y m) : ¬ 1 ≤ x ∨ (1 ≤ x ∧ ¬ x ≤ 1099511627776) ∨ (1 ≤ x ∧ x ≤ 1099511627776 ∧ ¬ x ≤ y) ∨ (1 ≤ x ∧ x ≤ 1099511627776 ∧ x ≤ y ∧ ¬ y ≤ 1099511627776) ∨
    (1 ≤ x ∧ x ≤ 1099511627776 ∧ x ≤ y ∧ y ≤ 1099511627776 ∧ ¬ 0 ≤ m) ∨ (1 ≤ x ∧ x ≤ 1099511627776 ∧ x ≤ y ∧ y ≤ 1099511627776 ∧ 0 ≤ m ∧ decide (m ≤ 1000000) = false) := by
  rw [decide_eq_false_iff_not]; unfold Fits at h; omega
set_option maxRecDepth 100000 in
set_option maxHeartbeats 4000000 in
theorem early2 (x y m : Int) (zs : List (List Int)) (s : Option Addr) (cap : Nat) (w : World) (h : ¬ 100 < zs.length) (hf : ¬ Fits x y m) :
    Calls Try.prog 3 #[.int .i64 x, .int .i64 y, .int .i64 m, .slice s zs.length cap] w fun e w' => e = .returned (.bool true) ∧ Old w w' := by
  have HC := Lib.hid (awake_any w)
  have N1 := Lib.hid (new_no hf w)
  rcases unfit3 hf with h1 | ⟨h1, h2⟩ | ⟨h1, h2, h3⟩ | ⟨h1, h2, h3, h4⟩ | ⟨h1, h2, h3, h4, h5⟩ | ⟨h1, h2, h3, h4, h5, h6⟩
  all_goals
    clear hf
    go_enter Try.func3, Try.ntmps3
    go_wp2_with (first | (go_at_call 7; refine HC.out.mono ?_; rintro e w' ⟨rfl, ho⟩) | (go_at_call 8; refine N1.out.mono ?_; rintro e w' ⟨rfl, rfl⟩))
    go_ret
    exact ⟨rfl, ho⟩
set_option maxRecDepth 100000 in
set_option maxHeartbeats 16000000 in
theorem late (x y m : Int) (zs : List (List Int)) (s : Option Addr) (cap : Nat) (w : World) (h : ¬ 100 < zs.length) (hfit : Fits x y m) (hZ : Structs w s cap 2 zs) :
    Calls Try.prog 3 #[.int .i64 x, .int .i64 y, .int .i64 m, .slice s zs.length cap] w fun e w' => e = .returned (.bool true) ∧ Old w w' := by
  have HZ := Lib.hid hZ
  clear hZ
  have NW := Lib.hid (new_yes hfit w)
  obtain ⟨f1, f2, f3, f4, f5, f6⟩ := hfit
  have f7 : 1 ≤ y := by omega
  go_enter Try.func3, Try.ntmps3
  go_wp2_with fail
  refine NW.out.mono ?_
  rintro e w1 ⟨b, rfl, hP1, hk1, hb1⟩
  clear NW
  go_wp2_with fail
  have hP2 : PT (w1.alloc (.cells #[.int .i64 x, .int .i64 y, .int .i64 m, .bool false, .int .i64 0, .int .i64 0] 30)) b x y m 0 0 := Blk.old hP1 _
  have hR2 : RS (w1.alloc (.cells #[.int .i64 x, .int .i64 y, .int .i64 m, .bool false, .int .i64 0, .int .i64 0] 30)) w1.heap.size x y m 0 0 :=
    RT.ended (A := 0) (Blk.new w1 [.int .i64 x, .int .i64 y, .int .i64 m, .bool false, .int .i64 0, .int .i64 0] 30)
  have hO2 : Old w (w1.alloc (.cells #[.int .i64 x, .int .i64 y, .int .i64 m, .bool false, .int .i64 0, .int .i64 0] 30)) := hk1.alloc _
  have hbc : b ≠ w1.heap.size := by have := hP1.lt; omega
  have ap : Apart w b w1.heap.size := ⟨hb1, hk1.size, hbc⟩
  clear hP1 hk1 hb1 hbc f1 f2 f3 f4 f5 f6 f7
  generalize w1.alloc (.cells #[.int .i64 x, .int .i64 y, .int .i64 m, .bool false, .int .i64 0, .int .i64 0] 30) = w2 at *
  generalize w1.heap.size = c at *
  go_loopg [13] zs.length (fun k s13 wr => ∃ (i : Nat) (q a : Int), Hid (k = zs.length - i) ∧ i ≤ zs.length ∧ s13 = .int .i64 ((i : Nat) : Int) ∧
    PT wr b x y m q a ∧ RS wr c x y m q a ∧ Hid (0 ≤ q ∧ q ≤ (i : Int) ∧ 0 ≤ a) ∧ Old w wr)
  case atStart => exact ⟨0, 0, 0, rfl, by omega, rfl, hP2, hR2, Lib.hid (by omega), hO2⟩
  case round =>
    obtain ⟨i, q, a, hk, hi, rfl, hP, hR, hq, hO⟩ := hrel
    clear hP2 hR2 hO2
    by_cases hlt : i < zs.length
    · obtain ⟨g, off, rfl, hg, c0⟩ := HZ.out.cell hO hlt (show 0 < 2 by decide)
      obtain ⟨_, _, eg, _, c1⟩ := HZ.out.cell hO hlt (show 1 < 2 by decide)
      cases eg
      generalize (zs.getD i []).getD 0 0 = kd at *
      generalize (zs.getD i []).getD 1 0 = t at *
      rw [Nat.add_zero] at c0
      have h2 : Two w b c g (off + i * 2 + 1) x y m t q a q a wr := ⟨hP, hR, c1, hg, hO⟩
      clear hP hR hO c1 hg
      go_upto_block 2 with (fail)
      clear c0
      go_cut [] (fun wx => ∃ (q2 a2 : Int), Two w b c g (off + i * 2 + 1) x y m t q2 a2 q2 a2 wx ∧ Hid (0 ≤ q2 ∧ q2 ≤ (i : Int) + 1 ∧ 0 ≤ a2))
      case first =>
        have ct := h2.ct
        by_cases k1 : kd = 1
        · subst k1
          have np := Lib.hid (next_pos x y 0 t)
          have GP := Lib.hid (h2.start ap)
          have GR := Lib.hid fun (w' : World) (q a : Int) (h : Two w b c g (off + i * 2 + 1) x y m t 0 (nextI x y 0 t) q a w') => h.startR ap
          generalize nextI x y 0 t = z at *
          go_wp2_with fail
          refine GP.out.mono ?_
          rintro e w4 ⟨rfl, h4⟩
          clear ct h2
          have ct := h4.ct
          go_wp2_with fail
          refine (GR.out _ _ _ h4).mono ?_
          rintro e w5 ⟨rfl, h5⟩
          clear GP GR ct h4
          go_wp2_with fail
          go_meet
          exact ⟨0, z, h5, Lib.hid (by have := np.out; omega)⟩
        · by_cases k2 : kd = 2
          · subst k2
            have hq' := hq.out
            have fb := Lib.hid (fire_bd x y m q a t hq'.1 hq'.2.2)
            have GP := Lib.hid (h2.fired ap hq'.1 (by omega))
            have GR := Lib.hid fun (w' : World) (q1 a1 : Int) (h : Two w b c g (off + i * 2 + 1) x y m t q1 a1 q a w') => h.firedR ap hq'.1 (by omega)
            clear hq'
            generalize fire x y m q a t = F at *
            obtain ⟨r, er, q1, a1⟩ := F
            dsimp only at GP GR fb
            go_wp2_with fail
            refine GP.out.mono ?_
            rintro e w4 ⟨rfl, h4⟩
            clear ct h2
            have ct := h4.ct
            go_wp2_with fail
            refine (GR.out _ _ _ h4).mono ?_
            rintro e w5 ⟨rfl, h5⟩
            clear GP GR ct h4
            go_wp2_with fail
            go_meet
            exact ⟨q1, a1, h5, Lib.hid (by have := fb.out; have := hq.out; omega)⟩
          · by_cases k3 : kd = 3
            · subst k3
              by_cases ha : 0 < a
              · have np := Lib.hid (next_pos x y 0 t)
                have GP := Lib.hid (h2.heard ap ha)
                have GR := Lib.hid fun (w' : World) (q a : Int) (h : Two w b c g (off + i * 2 + 1) x y m t 0 (nextI x y 0 t) q a w') => h.startR ap
                generalize nextI x y 0 t = z at *
                go_wp2_with fail
                refine GP.out.mono ?_
                rintro e w4 ⟨rfl, h4⟩
                clear ct h2
                have ct := h4.ct
                obtain ⟨A, _, hR⟩ := h4.rs
                rw [decide_eq_true ha] at hR
                have r3 := Blk.cell (o := 3) hR rfl
                clear hR
                go_wp2_with fail
                refine (GR.out _ _ _ h4).mono ?_
                rintro e w5 ⟨rfl, h5⟩
                clear GP GR ct h4 r3
                go_wp2_with fail
                go_meet
                exact ⟨0, z, h5, Lib.hid (by have := np.out; omega)⟩
              · have GP := Lib.hid (h2.heardNo ap ha)
                go_wp2_with fail
                refine GP.out.mono ?_
                rintro e w4 ⟨rfl, h4⟩
                clear ct h2
                obtain ⟨A, _, hR⟩ := h4.rs
                rw [decide_eq_false (by omega)] at hR
                have r3 := Blk.cell (o := 3) hR rfl
                clear hR
                go_wp2_with fail
                go_meet
                exact ⟨q, a, h4, Lib.hid (by have := hq.out; omega)⟩
            · by_cases k4 : kd = 4
              · subst k4
                have GP := Lib.hid (h2.stop ap)
                go_wp2_with fail
                refine GP.out.mono ?_
                rintro e w4 ⟨rfl, h4⟩
                clear ct h2
                obtain ⟨A, _, hR⟩ := h4.rs
                have r3 := Blk.cell (o := 3) hR rfl
                have r5 := Blk.cell (o := 5) hR rfl
                have f3 := Blk.frozen hR 3
                have f5 := Blk.frozen hR 5
                have hlt4 := Blk.lt hR
                clear hR
                go_wp2_with fail
                go_meet
                exact ⟨0, 0, h4.stopR ap, Lib.hid (by omega)⟩
              · have e1 : (kd == 1) = false := by rw [beq_eq_false_iff_ne]; exact k1
                have e2 : (kd == 2) = false := by rw [beq_eq_false_iff_ne]; exact k2
                have e3 : (kd == 3) = false := by rw [beq_eq_false_iff_ne]; exact k3
                have e4 : (kd == 4) = false := by rw [beq_eq_false_iff_ne]; exact k4
                clear k1 k2 k3 k4
                go_wp2_with fail
                go_meet
                exact ⟨q, a, h2, Lib.hid (by have := hq.out; omega)⟩
      case rest =>
        obtain ⟨q2, a2, h3, hq2⟩ := hcut
        clear h2
        have GP := h3.when
        clear h3
        by_cases ha : 0 < a2
        · rw [decide_eq_true ha] at GP
          have GP := Lib.hid GP
          go_wp2_with fail
          refine GP.out.mono ?_
          rintro e w4 ⟨rfl, h4⟩
          obtain ⟨A, hA, hR⟩ := h4.rs
          obtain rfl := hA ha
          rw [decide_eq_true ha] at hR
          have r3 := Blk.cell (o := 3) hR rfl
          have r4 := Blk.cell (o := 4) hR rfl
          have r5 := Blk.cell (o := 5) hR rfl
          have TR := Lib.hid fun (n : Nat) => tries_any (w := w4.drewN n) (Blk.drewN h4.pb n)
          clear hR hA GP
          go_wp2_with fail
          go_quiet ((go_at_call 16; exact Calls.quiet_of_same ((TR.out _).mono fun _ _ ⟨e1, e2⟩ => ⟨e1, e2.symm⟩)))
          go_wp2_with fail
          go_roundg (zs.length - (i + 1))
          case measure => have := hk.out; omega
          case rel => exact ⟨i + 1, q2, A, rfl, by omega, by simp, h4.pb, h4.rs, Lib.hid (by have := hq2.out; omega), h4.old.drewN _⟩
        · rw [decide_eq_false ha] at GP
          have GP := Lib.hid GP
          have ha0 : a2 = 0 := by have := hq2.out; omega
          subst ha0
          clear ha
          go_wp2_with fail
          refine GP.out.mono ?_
          rintro e w4 ⟨rfl, h4⟩
          obtain ⟨A, hA, hR⟩ := h4.rs
          rw [decide_eq_false (by decide)] at hR
          have r3 := Blk.cell (o := 3) hR rfl
          have r5 := Blk.cell (o := 5) hR rfl
          have TR := Lib.hid fun (n : Nat) => tries_any (w := w4.drewN n) (Blk.drewN h4.pb n)
          clear hR hA GP
          go_wp2_with fail
          go_quiet ((go_at_call 16; exact Calls.quiet_of_same ((TR.out _).mono fun _ _ ⟨e1, e2⟩ => ⟨e1, e2.symm⟩)))
          go_wp2_with fail
          go_roundg (zs.length - (i + 1))
          case measure => have := hk.out; omega
          case rel => exact ⟨i + 1, q2, 0, rfl, by omega, by simp, h4.pb, h4.rs, Lib.hid (by have := hq2.out; omega), h4.old.drewN _⟩
    · have HC := Lib.hid (awake_any wr)
      clear hP hR
      go_wp2_with (go_at_call 7; refine HC.out.mono ?_; rintro e w' ⟨rfl, ho⟩)
      go_ret
      exact ⟨rfl, hO.trans ho⟩
theorem walk (x y m : Int) (zs : List (List Int)) (s : Option Addr) (cap : Nat) (w : World) (w0 : (Lit.int .i64 x).wf = true) (w1 : (Lit.int .i64 y).wf = true) (w2 : (Lit.int .i64 m).wf = true) (hZ : Structs w s cap 2 zs) :
    Calls Try.prog 3 #[.int .i64 x, .int .i64 y, .int .i64 m, .slice s zs.length cap] w fun e w' => e = .returned (.bool true) ∧ Old w w' := by
  by_cases h : 100 < zs.length
  · exact early1 x y m zs s cap w h
  · by_cases hf : Fits x y m
    · exact late x y m zs s cap w h hf hZ
    · exact early2 x y m zs s cap w h hf
set_option maxRecDepth 100000 in
set_option maxHeartbeats 1000000 in
theorem lifted (os : Os) (started : os.Started) (H : Type) (enc : TypeId × Value → H) :
    ReturnsInHanded {} Try.checked os 3 .any (Rows.backoffPlaysSpec.pre6 enc Try.prog Try.f3 Rows.backoffPlaysRow.domain false) (Rows.backoffPlaysSpec.post enc Try.prog Try.f3 false true false false) := by
  refine returnsInHanded_of_change (C := Try.checked) own started (by kernel_rfl) Try.func3
    (ChangeSpec.witness6 (enc := enc) (C := Try.checked) false ⟨#[], #[.int .i64 0, .int .i64 0, .int .i64 0, .slice none 0 0], []⟩ 8 (by kernel_rfl) (by kernel_rfl) (by kernel_rfl) (by kernel_rfl)) ?_
  intro W base args ds gs before hval0 hW hcnd _
  have hval : ∀ (j : Nat) t v, Try.f3.params[j]? = some t → args[j]? = some v → Value.okWide Try.prog W .any base t v := hval0
  have hW' := hW
  obtain ⟨p, q, hA0, hV, rfl, hfz, hnd⟩ := hW
  have hA : DataW.TrodAll enc Try.prog W 0 (fun _ => true) true Try.f3.params.toList args.toList ds p := hA0
  rw [Try.params3] at hA hval
  obtain ⟨v0, vs0, d0, ds0, p0, q0, hargs, rfl, rfl, h0, r0⟩ := trodAll_cons hA
  obtain ⟨v1, vs1, d1, ds1, p1, q1, rfl, rfl, rfl, h1, r1⟩ := trodAll_cons r0
  obtain ⟨v2, vs2, d2, ds2, p2, q2, rfl, rfl, rfl, h2, r2⟩ := trodAll_cons r1
  obtain ⟨v3, vs3, d3, ds3, p3, q3, rfl, rfl, rfl, h3, r3⟩ := trodAll_cons r2
  obtain ⟨rfl, rfl, rfl⟩ := trodAll_nil r3
  obtain rfl : args = #[v0, v1, v2, v3] := by cases args; simp_all
  obtain ⟨rfl, rfl⟩ := trodVars_none hV
  obtain ⟨a0, rfl, rfl, rfl, w0⟩ := open_int Try.underlying3 (hval 0 3 v0 rfl rfl) h0
  obtain ⟨a1, rfl, rfl, rfl, w1⟩ := open_int Try.underlying3 (hval 1 3 v1 rfl rfl) h1
  obtain ⟨a2, rfl, rfl, rfl, w2⟩ := open_int Try.underlying3 (hval 2 3 v2 rfl rfl) h2
  obtain ⟨s3, cap3, a3, rfl, w3⟩ := Opn.structs_of Try.underlying22 Try.underlying32 (by kernel_rfl) (by kernel_rfl) (by decide) (by intro j f hf; rcases j with _ | _ | j <;> simp at hf <;> (try subst hf) <;> exact Try.underlying3) (hval 3 22 v3 rfl rfl) h3
  clear hA0 hval0
  refine (walk a0 a1 a2 a3 s3 cap3 W w0 w1 w2 w3).mono fun e W' ⟨he, hg⟩ => ?_
  subst he
  exact ⟨_, rfl, post_of_old hW' (fun _ _ _ => (trodAll_cons_mk (shut_bool Try.underlying4 _) trodAll_mk0)) (fun sp hsp => (trodAll_cons_mk (shut_int Try.underlying3 w0) (trodAll_cons_mk (shut_int Try.underlying3 w1) (trodAll_cons_mk (shut_int Try.underlying3 w2) (trodAll_cons_mk (Opn.back (by kernel_rfl) (of_decide_eq_true (by kernel_rfl)) h3 hg (fun x hx => hW'.lt x (by simp [hx])) (fun x hx => hsp x (by simp [hx]))) trodAll_mk0))))) (fun _ _ => rfl)
    hg (ok_one (by kernel_rfl) rfl (okWide_bool_mk Try.underlying4 _))⟩
theorem over : Rows.backoffPlaysRow.holds Try.pinned (OpenSpec.ofChange Rows.backoffPlaysSpec) :=
  OpenClaim.holds_of_wide 3 Try.f3 rfl rfl rfl rfl rfl rfl rfl ⟨rfl, rfl, rfl, rfl, rfl⟩ rfl rfl rfl rfl rfl (by kernel_rfl) Try.func3 (by kernel_rfl)
    (of_decide_eq_true (by kernel_rfl)) (by unfold Func.isWrapper; first | (rw [if_pos (by decide +kernel)]; kernel_rfl) | (rw [if_neg (by decide +kernel)]; exact ⟨rfl, rfl⟩))
    (fun os started H enc _ => lifted os started H enc)
theorem proved : Rows.BackoffPlaysSaid :=
  over
#print axioms proved
end Go.Proofs.Ytacfpjnddakehaa.backoffPlays
