/- Pacers, the program's and the reference's: what each call answers and leaves. Conditions: each theorem's own. -/
import Derived.Test.YtpipomlkfhpkhaaBk6
set_option linter.unusedVariables false
namespace Go.Proofs.Ytpipomlkfhpkhaa.Pc
open Go.RowKit Hp NumM NumC Num1 Bk
attribute [local go_sem ↓] Go.wp_at_zero Go.wp_at_succ
/-- A pacer of the program: pause, next time. -/
def PP (w : World) (b : Nat) (v x : Int) : Prop := Blk w b [.int .i64 v, .int .i64 x] 63
/-- One of the reference: pause, time, last time, if ever. -/
def RP (w : World) (b : Nat) (v now last : Int) (ever : Bool) : Prop := Blk w b [.int .i64 v, .int .i64 now, .int .i64 last, .bool ever] 47
def Beats (v : Int) : Prop := 1 ≤ v ∧ v ≤ 1073741824
theorem newP_yes {v : Int} (h : Beats v) (w : World) : Calls Try.prog 17 #[.int .i64 v] w fun e w' =>
    ∃ b, e = .returned (.tuple #[.pointer (some ⟨b, 0, none⟩), .int .i64 0]) ∧ PP w' b v 0 ∧ Kept (fun _ => False) w w' ∧ w.heap.size ≤ b := by
  obtain ⟨h1, h2⟩ := h
  go_enter Try.func17, Try.ntmps17
  go_wp2_with fail
  go_ret2
  exact ⟨_, rfl, Blk.new w [.int .i64 v, .int .i64 0] 63, (Kept.refl _ w).alloc _, Nat.le_refl _⟩
theorem newP_no {v : Int} (h : v < 1 ∨ (¬ v < 1 ∧ 1073741824 < v)) (w : World) : Calls Try.prog 17 #[.int .i64 v] w fun e w' => e = .returned (.tuple #[.pointer none, .int .i64 1]) ∧ w = w' := by
  rcases h with h | ⟨h1, h⟩
  all_goals
    go_enter Try.func17, Try.ntmps17
    go_wp2_with fail
    go_ret2
    exact ⟨rfl, rfl⟩
def atN (t : Int) : Int := clampI t 0 1125899906842624
theorem atN_bd (t : Int) : 0 ≤ atN t ∧ atN t ≤ 1125899906842624 := clampI_bd t (by decide)
theorem go_yes {v x : Int} {b : Nat} {w : World} (hB : PP w b v x) (hv : Beats v) (t : Int) (h : x ≤ atN t) : Calls Try.prog 18 #[.pointer (some ⟨b, 0, none⟩), .int .i64 t] w fun e w' =>
    e = .returned (.bool true) ∧ PP w' b v (atN t + v) ∧ Kept (fun k => k = b) w w' := by
  obtain ⟨v0, v1⟩ := hv
  have hb := atN_bd t
  have CL := clampInt_any t 0 1125899906842624
  change ∀ w, Calls _ _ _ w fun e w' => e = .returned (.int .i64 (atN t)) ∧ w = w' at CL
  generalize atN t = a at *
  have CL := Lib.hid CL
  unfold PP at hB
  have c0 := hB.cell (o := 0) rfl
  have c1 := hB.cell (o := 1) rfl
  have f1 := hB.frozen 1
  have hblt := hB.lt
  go_enter Try.func18, Try.ntmps18
  go_wp2_with (go_at_call 32; refine (CL.out _).mono ?_; rintro e w' ⟨rfl, rfl⟩)
  go_ret
  exact ⟨rfl, hB.set 1 (.int .i64 (a + v)), Kept.one w b 1 _⟩
theorem go_no {v x : Int} {b : Nat} {w : World} (hB : PP w b v x) (t : Int) (h : atN t < x) : Calls Try.prog 18 #[.pointer (some ⟨b, 0, none⟩), .int .i64 t] w fun e w' =>
    e = .returned (.bool false) ∧ PP w' b v x ∧ Kept (fun k => k = b) w w' := by
  have hb := atN_bd t
  have CL := clampInt_any t 0 1125899906842624
  change ∀ w, Calls _ _ _ w fun e w' => e = .returned (.int .i64 (atN t)) ∧ w = w' at CL
  generalize atN t = a at *
  have CL := Lib.hid CL
  have hB0 := hB
  unfold PP at hB
  have c0 := hB.cell (o := 0) rfl
  have c1 := hB.cell (o := 1) rfl
  go_enter Try.func18, Try.ntmps18
  go_wp2_with (go_at_call 32; refine (CL.out _).mono ?_; rintro e w' ⟨rfl, rfl⟩)
  go_ret
  exact ⟨rfl, hB0, Kept.refl _ w⟩
theorem goRef_yes {v now last : Int} {ever : Bool} {b : Nat} {w : World} (hB : RP w b v now last ever) (t m : Int) (hm : m = timeN now t) (h0 : 0 ≤ last) (h1 : last ≤ now) (h2 : m ≤ 1125899906842624) (h : ever = false ∨ (ever = true ∧ ¬ m - last < v)) :
    Calls Try.prog 19 #[.pointer (some ⟨b, 0, none⟩), .int .i64 t] w fun e w' =>
    e = .returned (.bool true) ∧ RP w' b v m m true ∧ Kept (fun k => k = b) w w' := by
  obtain ⟨mn, hmn⟩ : ∃ mn : Int, (if 1125899906842624 < t then 1125899906842624 else t) = mn := ⟨_, rfl⟩
  have hm2 : (if now < mn then mn else now) = m := by
    rw [hm]; unfold timeN; split at hmn <;> split <;> omega
  have hnm : now ≤ m := by rw [hm]; unfold timeN; omega
  clear hm
  unfold RP at hB
  have c0 := hB.cell (o := 0) rfl
  have c1 := hB.cell (o := 1) rfl
  have c2 := hB.cell (o := 2) rfl
  have c3 := hB.cell (o := 3) rfl
  have f1 := hB.frozen 1
  have hblt := hB.lt
  have hw : IntKind.i64.wrap (m - last) = m - last := by rw [IntKind.wrap_i64]; omega
  rcases h with rfl | ⟨rfl, h⟩
  all_goals
    go_enter Try.func19, Try.ntmps19
    go_upto_region 2 with fail
    have hB1 := hB.set 1 (.int .i64 m)
    have K1 := Kept.one w b 1 (.int .i64 m)
    clear c0 c1 c2 c3 f1 hblt hB hmn hm2
    generalize w.setCell ⟨b, 1, none⟩ (.int .i64 m) = w1 at *
    have c0 := hB1.cell (o := 0) rfl
    have c1 := hB1.cell (o := 1) rfl
    have c2 := hB1.cell (o := 2) rfl
    have c3 := hB1.cell (o := 3) rfl
    go_quiet (fail)
    have hB2 := Drew (n := nq) hB1
    have K2 := K1.drewN nq
    clear c0 c1 c2 c3 hB1 K1
    generalize w1.drewN nq = w2 at *
    have c1 := hB2.cell (o := 1) rfl
    have c2 := hB2.cell (o := 2) rfl
    have c3 := hB2.cell (o := 3) rfl
    have f2 := hB2.frozen 2
    have f3 := hB2.frozen 3
    have hblt := hB2.lt
    go_wp2_with fail
    go_ret
    exact ⟨rfl, (hB2.set 2 (.int .i64 m)).set 3 (.bool true), (K2.set (fun _ => rfl) 2 _).set (fun _ => rfl) 3 _⟩
theorem goRef_no {v now last : Int} {b : Nat} {w : World} (hB : RP w b v now last true) (t m : Int) (hm : m = timeN now t) (h0 : 0 ≤ last) (h1 : last ≤ now) (h2 : m ≤ 1125899906842624) (h : m - last < v) :
    Calls Try.prog 19 #[.pointer (some ⟨b, 0, none⟩), .int .i64 t] w fun e w' =>
    e = .returned (.bool false) ∧ RP w' b v m last true ∧ Kept (fun k => k = b) w w' := by
  obtain ⟨mn, hmn⟩ : ∃ mn : Int, (if 1125899906842624 < t then 1125899906842624 else t) = mn := ⟨_, rfl⟩
  have hm2 : (if now < mn then mn else now) = m := by
    rw [hm]; unfold timeN; split at hmn <;> split <;> omega
  have hnm : now ≤ m := by rw [hm]; unfold timeN; omega
  clear hm
  unfold RP at hB
  have c0 := hB.cell (o := 0) rfl
  have c1 := hB.cell (o := 1) rfl
  have c2 := hB.cell (o := 2) rfl
  have c3 := hB.cell (o := 3) rfl
  have f1 := hB.frozen 1
  have hblt := hB.lt
  have hw : IntKind.i64.wrap (m - last) = m - last := by rw [IntKind.wrap_i64]; omega
  go_enter Try.func19, Try.ntmps19
  go_upto_region 2 with fail
  have hB1 := hB.set 1 (.int .i64 m)
  have K1 := Kept.one w b 1 (.int .i64 m)
  clear c0 c1 c2 c3 f1 hblt hB hmn hm2
  generalize w.setCell ⟨b, 1, none⟩ (.int .i64 m) = w1 at *
  have c0 := hB1.cell (o := 0) rfl
  have c1 := hB1.cell (o := 1) rfl
  have c2 := hB1.cell (o := 2) rfl
  have c3 := hB1.cell (o := 3) rfl
  go_quiet (fail)
  go_wp2_with fail
  go_ret
  exact ⟨rfl, Drew (n := nq) hB1, K1.drewN nq⟩
theorem next_any {v x m : Int} {b : Nat} {w : World} (hB : PP w b v x) (hm : m = min x 1125899906842624) : Calls Try.prog 20 #[.pointer (some ⟨b, 0, none⟩)] w fun e w' =>
    e = .returned (.int .i64 m) ∧ Kept (fun _ => False) w w' := by
  have hmm : m = if (1125899906842624 : Int) < x then 1125899906842624 else x := by split <;> omega
  have HM := Lib.hid hmm
  clear hm hmm
  unfold PP at hB
  have c1 := hB.cell (o := 1) rfl
  go_enter Try.func20, Try.ntmps20
  go_wp2_with (go_at_call 33; refine (min1 x 1125899906842624 m _ _ HM.out ?_).mono ?_; (simp); rintro e w' ⟨rfl, rfl⟩)
  go_ret
  exact ⟨rfl, (Kept.refl _ w).alloc _⟩
theorem nextRef_any {v now last m : Int} {b : Nat} {w : World} (hB : RP w b v now last true) (h0 : 0 ≤ last) (h1 : last ≤ 1125899906842624) (v0 : 0 ≤ v) (v1 : v ≤ 1073741824) (hm : m = max now (min (last + v) 1125899906842624)) : Calls Try.prog 21 #[.pointer (some ⟨b, 0, none⟩)] w fun e w' =>
    e = .returned (.int .i64 m) ∧ Kept (fun _ => False) w w' := by
  obtain ⟨s, hs⟩ : ∃ s, s = addI last v := ⟨_, rfl⟩
  have AD := addRef_any last v
  rw [← hs] at AD
  have e1 : s = min (last + v) 1125899906842624 := by
    rw [hs]
    unfold addI
    rw [hold_in h0 h1, hold_in v0 (by omega)]
    rcases Int.le_total (last + v) 1125899906842624 with h | h
    · rw [hold_in (by omega) h]; omega
    · rw [hold_top h]; omega
  have hmm : (if now < s then s else now) = m := by split <;> omega
  have AD := Lib.hid AD
  clear hm e1 hs
  unfold RP at hB
  have c0 := hB.cell (o := 0) rfl
  have c1 := hB.cell (o := 1) rfl
  have c2 := hB.cell (o := 2) rfl
  have c3 := hB.cell (o := 3) rfl
  go_enter Try.func21, Try.ntmps21
  go_wp2_with fail
  go_region_with (first | (go_at_call 28; refine (AD.out _).mono ?_; rintro e w' ⟨rfl, rfl⟩))
  all_goals
    go_wp2_with fail
    go_ret
    exact ⟨rfl, (Kept.refl _ w).drew⟩
theorem go_nil (t : Int) (w : World) : Calls Try.prog 18 #[.pointer none, .int .i64 t] w fun e w' => e = .returned (.bool false) ∧ w = w' := by
  go_enter Try.func18, Try.ntmps18
  go_wp2_with fail
  go_ret
  exact ⟨rfl, rfl⟩
theorem next_nil (w : World) : Calls Try.prog 20 #[.pointer none] w fun e w' => e = .returned (.int .i64 1125899906842624) ∧ w = w' := by
  go_enter Try.func20, Try.ntmps20
  go_wp2_with fail
  go_ret
  exact ⟨rfl, rfl⟩
end Go.Proofs.Ytpipomlkfhpkhaa.Pc
