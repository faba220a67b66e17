/- BucketPlays (mizzenlaw3): for every two ints and slice of steps (structs of three ints) the law returns true and its arguments read as before. Conditions: none. -/
import Derived.Test.YtpipomlkfhpkhaaRows
import Derived.Test.YtpipomlkfhpkhaaEnd
import Derived.Test.YtpipomlkfhpkhaaInts
import Derived.WalkKit
import Derived.ProofKit
import Derived.OpenShut
import Derived.Test.YtpipomlkfhpkhaaBkAwake
import Derived.Deep.LoopGhost
import Derived.Deep.RegionHeld3
import Derived.Deep.DrawnRows
import Derived.Deep.DeepCutAuto
import Derived.WalkLawsBesides
set_option linter.unusedVariables false
namespace Go.Proofs.Ytpipomlkfhpkhaa.bucketPlays
open Go.ChangeShapes Go.WideShapes Go.ChangeAt Go.RowKit Go.Proofs.Ytpipomlkfhpkhaa.Hp Go.Proofs.Ytpipomlkfhpkhaa.End
open Opn NumM NumC Num1 Bk BkAwake
theorem own : ownKnob Try.prog.godebug = none := by kernel_rfl
attribute [local go_sem ↓] Go.wp_at_zero Go.wp_at_succ
/-- Both buckets beside each other, and the step's numbers in their block. -/
structure Two (W : World) (b c x : Nat) (t n d r L now r' L' now' : Int) (w : World) : Prop where
  pb : PB w b r (d * 65536) L now
  rb : RB w c r' d L' now'
  ct : w.cell? ⟨x, 1, none⟩ = some (.int .i64 t)
  cn : w.cell? ⟨x, 2, none⟩ = some (.int .i64 n)
  lx : x < w.heap.size
  old : Old W w
structure Apart (W : World) (b c x : Nat) : Prop where
  hb : W.heap.size ≤ b
  hc : W.heap.size ≤ c
  hbc : b ≠ c
  hxb : x ≠ b
  hxc : x ≠ c
variable {W : World} {b c x : Nat} {t n d r L now r' L' now' : Int} {w : World}
theorem Two.drew (h : Two W b c x t n d r L now r' L' now' w) : Two W b c x t n d r L now r' L' now' w.drew := ⟨h.pb, h.rb, h.ct, h.cn, h.lx, h.old.drew⟩
theorem Two.drewN (h : Two W b c x t n d r L now r' L' now' w) (k : Nat) : Two W b c x t n d r L now r' L' now' (w.drewN k) := ⟨h.pb, h.rb, h.ct, h.cn, h.lx, h.old.drewN k⟩
theorem cellOf {F : Nat → Prop} {w w' : World} (k : Kept F w w') {g o : Nat} {v : Value} (hg : g < w.heap.size) (hF : ¬ F g) (h : w.cell? ⟨g, o, none⟩ = some v) : w'.cell? ⟨g, o, none⟩ = some v := by rw [keptCell k hg hF]; exact h
theorem Two.atB (h : Two W b c x t n d r L now r' L' now' w) (a : Apart W b c x) {w' : World} {q M m : Int} (hp : PB w' b q (d * 65536) M m) (k : Kept (fun k => k = b) w w') : Two W b c x t n d q M m r' L' now' w' :=
  ⟨hp, k.blk h.rb (fun e => a.hbc e.symm), cellOf k h.lx (fun e => a.hxb e) h.ct, cellOf k h.lx (fun e => a.hxb e) h.cn, Nat.lt_of_lt_of_le h.lx k.size, h.old.trans' k (fun j hj e => by have := a.hb; omega)⟩
theorem Two.atC (h : Two W b c x t n d r L now r' L' now' w) (a : Apart W b c x) {w' : World} {q M m : Int} (hp : RB w' c q d M m) (k : Kept (fun k => k = c) w w') : Two W b c x t n d r L now q M m w' :=
  ⟨k.blk h.pb (fun e => a.hbc e), hp, cellOf k h.lx (fun e => a.hxc e) h.ct, cellOf k h.lx (fun e => a.hxc e) h.cn, Nat.lt_of_lt_of_le h.lx k.size, h.old.trans' k (fun j hj e => by have := a.hc; omega)⟩
theorem Two.take (h : Two W b c x t n d r L now r' L' now' w) (a : Apart W b c x) (ho : Ok r d L now) :
    Calls Try.prog 9 #[.pointer (some ⟨b, 0, none⟩), .int .i64 t, .int .i64 n] w fun e w' => e = .returned (.bool (decide (Took (levN r d L now t) n))) ∧ Two W b c x t n d r (takeL (levN r d L now t) n) (timeN now t) r' L' now' w' :=
  (take_any ho h.pb t n).mono fun e w' ⟨e1, e2, k⟩ => ⟨e1, h.atB a e2 k⟩
theorem Two.takeR (h : Two W b c x t n d r' L' now' r L now w) (a : Apart W b c x) (ho : Ok r d L now) :
    Calls Try.prog 10 #[.pointer (some ⟨c, 0, none⟩), .int .i64 t, .int .i64 n] w fun e w' => e = .returned (.bool (decide (Took (levN r d L now t) n))) ∧ Two W b c x t n d r' L' now' r (takeL (levN r d L now t) n) (timeN now t) w' :=
  (take_ref ho h.rb t n).mono fun e w' ⟨e1, e2, k⟩ => ⟨e1, h.atC a e2 k⟩
theorem Two.when (h : Two W b c x t n d r L now r' L' now' w) (a : Apart W b c x) (ho : Ok r d L now) :
    Calls Try.prog 11 #[.pointer (some ⟨b, 0, none⟩), .int .i64 t, .int .i64 n] w fun e w' => e = .returned (.int .i64 (whenN r d (levN r d L now t) (timeN now t) n)) ∧ Two W b c x t n d r (levN r d L now t) (timeN now t) r' L' now' w' :=
  (when_any ho h.pb t n).mono fun e w' ⟨e1, e2, k⟩ => ⟨e1, h.atB a e2 k⟩
theorem Two.whenR (h : Two W b c x t n d r' L' now' r L now w) (a : Apart W b c x) (ho : Ok r d L now) :
    Calls Try.prog 12 #[.pointer (some ⟨c, 0, none⟩), .int .i64 t, .int .i64 n] w fun e w' => e = .returned (.int .i64 (whenN r d (levN r d L now t) (timeN now t) n)) ∧ Two W b c x t n d r' L' now' r (levN r d L now t) (timeN now t) w' :=
  (when_ref ho h.rb t n).mono fun e w' ⟨e1, e2, k⟩ => ⟨e1, h.atC a e2 k⟩
theorem Two.has (h : Two W b c x t n d r L now r' L' now' w) (a : Apart W b c x) (ho : Ok r d L now) :
    Calls Try.prog 15 #[.pointer (some ⟨b, 0, none⟩), .int .i64 t] w fun e w' => e = .returned (.int .i64 (levN r d L now t / 65536)) ∧ Two W b c x t n d r (levN r d L now t) (timeN now t) r' L' now' w' :=
  (has_any ho h.pb t).mono fun e w' ⟨e1, e2, k⟩ => ⟨e1, h.atB a e2 k⟩
theorem Two.hasR (h : Two W b c x t n d r' L' now' r L now w) (a : Apart W b c x) (ho : Ok r d L now) :
    Calls Try.prog 16 #[.pointer (some ⟨c, 0, none⟩), .int .i64 t] w fun e w' => e = .returned (.int .i64 (levN r d L now t / 65536)) ∧ Two W b c x t n d r' L' now' r (levN r d L now t) (timeN now t) w' :=
  (has_ref ho h.rb t).mono fun e w' ⟨e1, e2, k⟩ => ⟨e1, h.atC a e2 k⟩
theorem Two.setRate (h : Two W b c x t n d r L now r' L' now' w) (a : Apart W b c x) (ho : Ok r d L now) :
    Calls Try.prog 13 #[.pointer (some ⟨b, 0, none⟩), .int .i64 t, .int .i64 n] w fun e w' => e = .returned (.tuple #[]) ∧ Two W b c x t n d (rateN n) (levN r d L now t) (timeN now t) r' L' now' w' :=
  (setRate_any ho h.pb t n).mono fun e w' ⟨e1, e2, k⟩ => ⟨e1, h.atB a e2 k⟩
theorem Two.setRateR (h : Two W b c x t n d r' L' now' r L now w) (a : Apart W b c x) (ho : Ok r d L now) :
    Calls Try.prog 14 #[.pointer (some ⟨c, 0, none⟩), .int .i64 t, .int .i64 n] w fun e w' => e = .returned (.tuple #[]) ∧ Two W b c x t n d r' L' now' (rateN n) (levN r d L now t) (timeN now t) w' :=
  (setRate_ref ho h.rb t n).mono fun e w' ⟨e1, e2, k⟩ => ⟨e1, h.atC a e2 k⟩
set_option maxHeartbeats 1000000 in
theorem early1 (r d : Int) (zs : List (List Int)) (s : Option Addr) (cap : Nat) (w : World) (h : 100 < zs.length) :
    Calls Try.prog 3 #[.int .i64 r, .int .i64 d, .slice s zs.length cap] w fun e w' => e = .returned (.bool true) ∧ Old w w' := by
  have HC := Lib.hid (awake_any w)
  go_enter Try.func3, Try.ntmps3
  go_wp2_with (go_at_call 6; refine HC.out.mono ?_; rintro e w' ⟨rfl, ho⟩)
  go_ret
  exact ⟨rfl, ho⟩
set_option maxHeartbeats 1000000 in
theorem early2 (r d : Int) (zs : List (List Int)) (s : Option Addr) (cap : Nat) (w : World) (h : ¬ 100 < zs.length) (hf : ¬ Fits r d) :
    Calls Try.prog 3 #[.int .i64 r, .int .i64 d, .slice s zs.length cap] w fun e w' => e = .returned (.bool true) ∧ Old w w' := by
  have HC := Lib.hid (awake_any w)
  have N1 := Lib.hid (new_no hf w)
  have N2 := Lib.hid (new_ref_no hf w)
  clear hf
  go_enter Try.func3, Try.ntmps3
  go_wp2_with (first | (go_at_call 6; refine HC.out.mono ?_; rintro e w' ⟨rfl, ho⟩) | (go_at_call 7; refine N1.out.mono ?_; rintro e w' ⟨rfl, rfl⟩) | (go_at_call 8; refine N2.out.mono ?_; rintro e w' ⟨rfl, rfl⟩))
  go_ret
  exact ⟨rfl, ho⟩
set_option maxRecDepth 100000 in
set_option maxHeartbeats 16000000 in
theorem late (r0 d : Int) (zs : List (List Int)) (s : Option Addr) (cap : Nat) (w : World) (h : ¬ 100 < zs.length) (hfit : Fits r0 d) (hZ : Structs w s cap 3 zs) :
    Calls Try.prog 3 #[.int .i64 r0, .int .i64 d, .slice s zs.length cap] w fun e w' => e = .returned (.bool true) ∧ Old w w' := by
  have HZ := Lib.hid hZ
  clear hZ
  have NW := Lib.hid (new_yes hfit w)
  have NR := Lib.hid fun w' => new_ref hfit w'
  have hok0 := hfit.ok
  clear hfit
  go_enter Try.func3, Try.ntmps3
  go_wp2_with fail
  refine NW.out.mono ?_
  rintro e w1 ⟨b, rfl, hP1, hk1, hb1⟩
  go_wp2_with fail
  refine (NR.out w1).mono ?_
  rintro e w2 ⟨c, rfl, hR2, hk2, hc2⟩
  have hP2 := hk2.blk hP1 (fun h => h)
  have hO2 : Old w w2 := hk1.trans hk2
  have hbc : b ≠ c := by have := hP1.lt; omega
  have hc1 : w.heap.size ≤ c := Nat.le_trans hk1.size hc2
  clear hP1 hk1 hk2 hc2 NW NR
  go_wp2_with fail
  go_loopg [11] zs.length (fun k s11 wr => ∃ (i : Nat) (r L now : Int), Hid (k = zs.length - i) ∧ i ≤ zs.length ∧ s11 = .int .i64 ((i : Nat) : Int) ∧
    PB wr b r (d * 65536) L now ∧ RB wr c r d L now ∧ Ok r d L now ∧ Old w wr)
  case atStart => exact ⟨0, r0, d * 65536, 0, rfl, by omega, rfl, hP2, hR2, hok0, hO2⟩
  case round =>
    obtain ⟨i, r, L, now, hk, hi, rfl, hP, hR, hok, hO⟩ := hrel
    clear hP2 hR2 hO2 hok0
    by_cases hlt : i < zs.length
    · obtain ⟨g, off, rfl, hg, c0⟩ := HZ.out.cell hO hlt (show 0 < 3 by decide)
      obtain ⟨_, _, eg, _, c1⟩ := HZ.out.cell hO hlt (show 1 < 3 by decide)
      cases eg
      obtain ⟨_, _, eg, _, c2⟩ := HZ.out.cell hO hlt (show 2 < 3 by decide)
      cases eg
      have b0 := HZ.out.wf hlt (show 0 < 3 by decide)
      have b1 := HZ.out.wf hlt (show 1 < 3 by decide)
      have b2 := HZ.out.wf hlt (show 2 < 3 by decide)
      generalize (zs.getD i []).getD 0 0 = kd at *
      generalize (zs.getD i []).getD 1 0 = t at *
      generalize (zs.getD i []).getD 2 0 = n at *
      rw [Nat.add_zero] at c0
      go_upto_region 13 with (fail)
      have hBx := Blk.new wr [.int .i64 kd, .int .i64 t, .int .i64 n] 33
      have h2 : Two w b c wr.heap.size t n d r L now r L now (wr.alloc (.cells #[.int .i64 kd, .int .i64 t, .int .i64 n] 33)) :=
        ⟨Blk.old hP _, Blk.old hR _, hBx.cell (o := 1) rfl, hBx.cell (o := 2) rfl, by simp, hO.alloc _⟩
      have k0 := hBx.cell (o := 0) rfl
      have ap : Apart w b c wr.heap.size := ⟨hb1, hc1, hbc, by have := Blk.lt hP; omega, by have := Blk.lt hR; omega⟩
      clear c0 c1 c2 hP hR hBx hO
      generalize wr.alloc (.cells #[.int .i64 kd, .int .i64 t, .int .i64 n] 33) = w3 at *
      generalize wr.heap.size = x at *
      have ct := h2.ct
      have cn := h2.cn
      by_cases k1 : kd = 1
      · subst k1
        have ok2 := (hok.step t).take n
        have GP := Lib.hid fun (w' : World) (q M m : Int) (h : Two w b c x t n d r L now q M m w') => h.take ap hok
        have GR := Lib.hid fun (w' : World) (q M m : Int) (h : Two w b c x t n d q M m r L now w') => h.takeR ap hok
        generalize decide (Took (levN r d L now t) n) = res1 at *
        generalize takeL (levN r d L now t) n = M2 at *
        generalize timeN now t = m2 at *
        go_wp2_with fail
        go_region_held3 (fun w' => w'.cell? ⟨x, 1, none⟩ = some (.int .i64 t) ∧ w'.cell? ⟨x, 2, none⟩ = some (.int .i64 n)) (first | exact ⟨Two.ct (by assumption), Two.cn (by assumption)⟩ | exact ⟨Two.ct (Two.drew (by assumption)), Two.cn (Two.drew (by assumption))⟩)
          (first | (go_at_call 9; refine Calls.mono (GP.out _ _ _ _ (by first | assumption | exact Two.drew (by assumption))) ?_; rintro e w' ⟨rfl, h2⟩) | (go_at_call 10; refine Calls.mono (GR.out _ _ _ _ (by first | assumption | exact Two.drew (by assumption))) ?_; rintro e w' ⟨rfl, h2⟩))
        clear GP GR ct cn
        have okF := ok2.step t
        have GP := Lib.hid fun (w' : World) (q M m : Int) (h : Two w b c x t n d r M2 m2 q M m w') => h.has ap ok2
        have GR := Lib.hid fun (w' : World) (q M m : Int) (h : Two w b c x t n d q M m r M2 m2 w') => h.hasR ap ok2
        generalize levN r d M2 m2 t = MF at *
        generalize timeN m2 t = mF at *
        generalize MF / 65536 = res at *
        have ct := h2.ct
        have cn := h2.cn
        go_wp2_with fail
        go_region_held3 (fun w' => w'.cell? ⟨x, 1, none⟩ = some (.int .i64 t) ∧ w'.cell? ⟨x, 2, none⟩ = some (.int .i64 n)) (first | exact ⟨Two.ct (by assumption), Two.cn (by assumption)⟩ | exact ⟨Two.ct (Two.drew (by assumption)), Two.cn (Two.drew (by assumption))⟩)
          (first | (go_at_call 15; refine Calls.mono (GP.out _ _ _ _ (by first | assumption | exact Two.drew (by assumption))) ?_; rintro e w' ⟨rfl, h2⟩) | (go_at_call 16; refine Calls.mono (GR.out _ _ _ _ (by first | assumption | exact Two.drew (by assumption))) ?_; rintro e w' ⟨rfl, h2⟩))
        go_wp2_with fail
        go_roundg (zs.length - (i + 1))
        case measure => have := hk.out; omega
        case rel =>
          exact ⟨i + 1, r, MF, mF, rfl, by omega, by simp, h2.pb, h2.rb, okF, h2.old⟩
      · by_cases k2 : kd = 2
        · subst k2
          have ok2 := hok.step t
          have GP := Lib.hid fun (w' : World) (q M m : Int) (h : Two w b c x t n d r L now q M m w') => h.when ap hok
          have GR := Lib.hid fun (w' : World) (q M m : Int) (h : Two w b c x t n d q M m r L now w') => h.whenR ap hok
          generalize whenN r d (levN r d L now t) (timeN now t) n = res1 at *
          generalize levN r d L now t = M2 at *
          generalize timeN now t = m2 at *
          go_wp2_with fail
          go_region_held3 (fun w' => w'.cell? ⟨x, 1, none⟩ = some (.int .i64 t) ∧ w'.cell? ⟨x, 2, none⟩ = some (.int .i64 n)) (first | exact ⟨Two.ct (by assumption), Two.cn (by assumption)⟩ | exact ⟨Two.ct (Two.drew (by assumption)), Two.cn (Two.drew (by assumption))⟩)
            (first | (go_at_call 11; refine Calls.mono (GP.out _ _ _ _ (by first | assumption | exact Two.drew (by assumption))) ?_; rintro e w' ⟨rfl, h2⟩) | (go_at_call 12; refine Calls.mono (GR.out _ _ _ _ (by first | assumption | exact Two.drew (by assumption))) ?_; rintro e w' ⟨rfl, h2⟩))
          clear GP GR ct cn
          have okF := ok2.step t
          have GP := Lib.hid fun (w' : World) (q M m : Int) (h : Two w b c x t n d r M2 m2 q M m w') => h.has ap ok2
          have GR := Lib.hid fun (w' : World) (q M m : Int) (h : Two w b c x t n d q M m r M2 m2 w') => h.hasR ap ok2
          generalize levN r d M2 m2 t = MF at *
          generalize timeN m2 t = mF at *
          generalize MF / 65536 = res at *
          have ct := h2.ct
          have cn := h2.cn
          go_wp2_with fail
          go_region_held3 (fun w' => w'.cell? ⟨x, 1, none⟩ = some (.int .i64 t) ∧ w'.cell? ⟨x, 2, none⟩ = some (.int .i64 n)) (first | exact ⟨Two.ct (by assumption), Two.cn (by assumption)⟩ | exact ⟨Two.ct (Two.drew (by assumption)), Two.cn (Two.drew (by assumption))⟩)
            (first | (go_at_call 15; refine Calls.mono (GP.out _ _ _ _ (by first | assumption | exact Two.drew (by assumption))) ?_; rintro e w' ⟨rfl, h2⟩) | (go_at_call 16; refine Calls.mono (GR.out _ _ _ _ (by first | assumption | exact Two.drew (by assumption))) ?_; rintro e w' ⟨rfl, h2⟩))
          go_wp2_with fail
          go_roundg (zs.length - (i + 1))
          case measure => have := hk.out; omega
          case rel =>
            exact ⟨i + 1, r, MF, mF, rfl, by omega, by simp, h2.pb, h2.rb, okF, h2.old⟩
        · by_cases k4 : kd = 4
          · subst k4
            have ok2 := (hok.step t).rate n
            have GP := Lib.hid fun (w' : World) (q M m : Int) (h : Two w b c x t n d r L now q M m w') => h.setRate ap hok
            have GR := Lib.hid fun (w' : World) (q M m : Int) (h : Two w b c x t n d q M m r L now w') => h.setRateR ap hok
            generalize rateN n = r2 at *
            generalize levN r d L now t = M2 at *
            generalize timeN now t = m2 at *
            go_wp2_with fail
            refine (GP.out _ _ _ _ h2).mono ?_
            rintro e w4 ⟨rfl, h4⟩
            clear ct cn h2
            have ct := h4.ct
            have cn := h4.cn
            go_wp2_with fail
            refine (GR.out _ _ _ _ h4).mono ?_
            rintro e w5 ⟨rfl, h2⟩
            clear GP GR ct cn h4
            have okF := ok2.step t
            have GP := Lib.hid fun (w' : World) (q M m : Int) (h : Two w b c x t n d r2 M2 m2 q M m w') => h.has ap ok2
            have GR := Lib.hid fun (w' : World) (q M m : Int) (h : Two w b c x t n d q M m r2 M2 m2 w') => h.hasR ap ok2
            generalize levN r2 d M2 m2 t = MF at *
            generalize timeN m2 t = mF at *
            generalize MF / 65536 = res at *
            have ct := h2.ct
            have cn := h2.cn
            go_wp2_with fail
            go_region_held3 (fun w' => w'.cell? ⟨x, 1, none⟩ = some (.int .i64 t) ∧ w'.cell? ⟨x, 2, none⟩ = some (.int .i64 n)) (first | exact ⟨Two.ct (by assumption), Two.cn (by assumption)⟩ | exact ⟨Two.ct (Two.drew (by assumption)), Two.cn (Two.drew (by assumption))⟩)
              (first | (go_at_call 15; refine Calls.mono (GP.out _ _ _ _ (by first | assumption | exact Two.drew (by assumption))) ?_; rintro e w' ⟨rfl, h2⟩) | (go_at_call 16; refine Calls.mono (GR.out _ _ _ _ (by first | assumption | exact Two.drew (by assumption))) ?_; rintro e w' ⟨rfl, h2⟩))
            go_wp2_with fail
            go_roundg (zs.length - (i + 1))
            case measure => have := hk.out; omega
            case rel =>
              exact ⟨i + 1, r2, MF, mF, rfl, by omega, by simp, h2.pb, h2.rb, okF, h2.old⟩
          · have e1 : (kd == 1) = false := by rw [beq_eq_false_iff_ne]; exact k1
            have e2 : (kd == 2) = false := by rw [beq_eq_false_iff_ne]; exact k2
            have e4 : (kd == 4) = false := by rw [beq_eq_false_iff_ne]; exact k4
            have ok2 := hok
            clear ct cn
            have okF := ok2.step t
            have GP := Lib.hid fun (w' : World) (q M m : Int) (h : Two w b c x t n d r L now q M m w') => h.has ap ok2
            have GR := Lib.hid fun (w' : World) (q M m : Int) (h : Two w b c x t n d q M m r L now w') => h.hasR ap ok2
            generalize levN r d L now t = MF at *
            generalize timeN now t = mF at *
            generalize MF / 65536 = res at *
            have ct := h2.ct
            have cn := h2.cn
            go_wp2_with fail
            go_region_held3 (fun w' => w'.cell? ⟨x, 1, none⟩ = some (.int .i64 t) ∧ w'.cell? ⟨x, 2, none⟩ = some (.int .i64 n)) (first | exact ⟨Two.ct (by assumption), Two.cn (by assumption)⟩ | exact ⟨Two.ct (Two.drew (by assumption)), Two.cn (Two.drew (by assumption))⟩)
              (first | (go_at_call 15; refine Calls.mono (GP.out _ _ _ _ (by first | assumption | exact Two.drew (by assumption))) ?_; rintro e w' ⟨rfl, h2⟩) | (go_at_call 16; refine Calls.mono (GR.out _ _ _ _ (by first | assumption | exact Two.drew (by assumption))) ?_; rintro e w' ⟨rfl, h2⟩))
            go_wp2_with fail
            go_roundg (zs.length - (i + 1))
            case measure => have := hk.out; omega
            case rel =>
              exact ⟨i + 1, r, MF, mF, rfl, by omega, by simp, h2.pb, h2.rb, okF, h2.old⟩
    · have HC := Lib.hid (awake_any wr)
      clear hP hR hok
      go_wp2_with (go_at_call 6; refine HC.out.mono ?_; rintro e w' ⟨rfl, ho⟩)
      go_ret
      exact ⟨rfl, hO.trans ho⟩
theorem walk (r d : Int) (zs : List (List Int)) (s : Option Addr) (cap : Nat) (w : World) (w0 : (Lit.int .i64 r).wf = true) (w1 : (Lit.int .i64 d).wf = true) (hZ : Structs w s cap 3 zs) :
    Calls Try.prog 3 #[.int .i64 r, .int .i64 d, .slice s zs.length cap] w fun e w' => e = .returned (.bool true) ∧ Old w w' := by
  by_cases h : 100 < zs.length
  · exact early1 r d zs s cap w h
  · by_cases hf : Fits r d
    · exact late r d zs s cap w h hf hZ
    · exact early2 r d zs s cap w h hf
set_option maxRecDepth 100000 in
set_option maxHeartbeats 1000000 in
theorem lifted (os : Os) (started : os.Started) (H : Type) (enc : TypeId × Value → H) :
    ReturnsInHanded {} Try.checked os 3 .any (Rows.bucketPlaysSpec.pre6 enc Try.prog Try.f3 Rows.bucketPlaysRow.domain false) (Rows.bucketPlaysSpec.post enc Try.prog Try.f3 false true false false) := by
  refine returnsInHanded_of_change (C := Try.checked) own started (by kernel_rfl) Try.func3
    (ChangeSpec.witness6 (enc := enc) (C := Try.checked) false ⟨#[], #[.int .i64 0, .int .i64 0, .slice none 0 0], []⟩ 8 (by kernel_rfl) (by kernel_rfl) (by kernel_rfl) (by kernel_rfl)) ?_
  intro W base args ds gs before hval0 hW hcnd _
  have hval : ∀ (j : Nat) t v, Try.f3.params[j]? = some t → args[j]? = some v → Value.okWide Try.prog W .any base t v := hval0
  have hW' := hW
  obtain ⟨p, q, hA0, hV, rfl, hfz, hnd⟩ := hW
  have hA : DataW.TrodAll enc Try.prog W 0 (fun _ => true) true Try.f3.params.toList args.toList ds p := hA0
  rw [Try.params3] at hA hval
  obtain ⟨v0, vs0, d0, ds0, p0, q0, hargs, rfl, rfl, h0, r0⟩ := trodAll_cons hA
  obtain ⟨v1, vs1, d1, ds1, p1, q1, rfl, rfl, rfl, h1, r1⟩ := trodAll_cons r0
  obtain ⟨v2, vs2, d2, ds2, p2, q2, rfl, rfl, rfl, h2, r2⟩ := trodAll_cons r1
  obtain ⟨rfl, rfl, rfl⟩ := trodAll_nil r2
  obtain rfl : args = #[v0, v1, v2] := by cases args; simp_all
  obtain ⟨rfl, rfl⟩ := trodVars_none hV
  obtain ⟨a0, rfl, rfl, rfl, w0⟩ := open_int Try.underlying3 (hval 0 3 v0 rfl rfl) h0
  obtain ⟨a1, rfl, rfl, rfl, w1⟩ := open_int Try.underlying3 (hval 1 3 v1 rfl rfl) h1
  obtain ⟨s2, cap2, a2, rfl, w2⟩ := Opn.structs_of Try.underlying22 Try.underlying33 (by kernel_rfl) (by kernel_rfl) (by decide) (by intro j f hf; rcases j with _ | _ | _ | j <;> simp at hf <;> (try subst hf) <;> exact Try.underlying3) (hval 2 22 v2 rfl rfl) h2
  clear hA0 hval0
  refine (walk a0 a1 a2 s2 cap2 W w0 w1 w2).mono fun e W' ⟨he, hg⟩ => ?_
  subst he
  exact ⟨_, rfl, post_of_old hW' (fun _ _ _ => (trodAll_cons_mk (shut_bool Try.underlying4 _) trodAll_mk0)) (fun sp hsp => (trodAll_cons_mk (shut_int Try.underlying3 w0) (trodAll_cons_mk (shut_int Try.underlying3 w1) (trodAll_cons_mk (Opn.back (by kernel_rfl) (of_decide_eq_true (by kernel_rfl)) h2 hg (fun x hx => hW'.lt x (by simp [hx])) (fun x hx => hsp x (by simp [hx]))) trodAll_mk0)))) (fun _ _ => rfl)
    hg (ok_one (by kernel_rfl) rfl (okWide_bool_mk Try.underlying4 _))⟩
theorem over : Rows.bucketPlaysRow.holds Try.pinned (OpenSpec.ofChange Rows.bucketPlaysSpec) :=
  OpenClaim.holds_of_wide 3 Try.f3 rfl rfl rfl rfl rfl rfl rfl ⟨rfl, rfl, rfl, rfl, rfl⟩ rfl rfl rfl rfl rfl (by kernel_rfl) Try.func3 (by kernel_rfl)
    (of_decide_eq_true (by kernel_rfl)) (by unfold Func.isWrapper; first | (rw [if_pos (by decide +kernel)]; kernel_rfl) | (rw [if_neg (by decide +kernel)]; exact ⟨rfl, rfl⟩))
    (fun os started H enc _ => lifted os started H enc)
theorem proved : Rows.BucketPlaysSaid :=
  over
#print axioms proved
end Go.Proofs.Ytpipomlkfhpkhaa.bucketPlays
