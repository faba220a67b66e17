/- A credit rate of the program: Update. Conditions: each theorem's own. -/
import Derived.Test.YtaflhkhfkifefaaCrUp
set_option linter.unusedVariables false
namespace Go.Proofs.Ytaflhkhfkifefaa.Cr
open Go.RowKit Hp NumM NumC CrM
attribute [local go_sem ↓] Go.wp_at_zero Go.wp_at_succ
theorem cS0 (s : Int) : 0 ≤ cS s ∧ cS s ≤ 1073741824 := clampI_bd s (by decide)
set_option maxHeartbeats 16000000 in
theorem upd_none {w : World} {b : Nat} {M T : Int} {x : St} (h : PR w b M T x) (hM : 65536 ≤ M) (s l : Int) (hz : cS s = 0) :
    Calls Try.prog 9 #[.pointer (some ⟨b, 0, none⟩), .int .i64 s, .int .i64 l] w fun e w' => e = .returned (.int .i64 x.R) ∧ w = w' := by
  have MD := Lib.hid (made_yes h hM)
  have c2 := h.cell (o := 2) rfl
  have C1 := fun w => clampInt_any s 0 1073741824 w
  rw [show clampI s 0 1073741824 = 0 from hz] at C1
  have C1 := Lib.hid C1
  have C2 := Lib.hid fun w => clampInt_any l 0 0 w
  obtain ⟨u, hu⟩ : ∃ u, clampI l 0 0 = u := ⟨_, rfl⟩
  rw [hu] at C2
  have PN := Lib.hid fun w => partNum_no u 0 (Or.inr (Or.inl (by decide))) w
  clear h hz hu
  go_enter Try.func9, Try.ntmps9
  go_wp2_with fail
  with_reducible refine Calls.mono MD.out ?_
  rintro e w' ⟨rfl, rfl⟩
  go_wp2_with fail
  with_reducible refine Calls.mono (C1.out _) ?_
  rintro e w' ⟨rfl, rfl⟩
  go_wp2_with fail
  with_reducible refine Calls.mono (C2.out _) ?_
  rintro e w' ⟨rfl, rfl⟩
  go_wp2_with fail
  with_reducible refine Calls.mono (PN.out _) ?_
  rintro e w' ⟨rfl, rfl⟩
  go_wp2_with fail
  go_ret
  exact ⟨rfl, rfl⟩
/-- What an Update makes ahead of the limits. -/
def preR (M T g : Int) (x : St) : Int := if g ≤ T then rUp M x.R (aUp x.A x.k) else rDn T x.R g
def preA (T g : Int) (x : St) : Int := if g ≤ T then aUp x.A x.k else x.A / 2
def preK (T g : Int) (x : St) : Nat := if g ≤ T then x.k + 1 else 0
theorem upd_pre {M T s l : Int} {x : St} (hz : cS s ≠ 0) : x.upd M T s l = ⟨lim M (preR M T (los s l) x), aLim (preA T (los s l) x), preK T (los s l) x⟩ := by
  unfold St.upd St.up St.dn preR preA preK
  rw [if_neg hz]
  split <;> rfl
set_option maxHeartbeats 16000000 in
theorem upd_some {w : World} {b : Nat} {M T : Int} {x : St} (h : PR w b M T x) (o : Ok M T x) (hk : x.k ≤ 1000000) (s l : Int) (hz : cS s ≠ 0) :
    Calls Try.prog 9 #[.pointer (some ⟨b, 0, none⟩), .int .i64 s, .int .i64 l] w fun e w' => e = .returned (.int .i64 (x.upd M T s l).R) ∧ PR w' b M T (x.upd M T s l) ∧ Kept (fun k => k = b) w w' := by
  rw [upd_pre hz]
  have MD := Lib.hid (made_yes h o.m0)
  have m0 := o.m0
  have m1 := o.m1
  have HL := los_bd (l := l) hz
  have hq : M.tdiv 64 = M / 64 := Int.tdiv_eq_ediv_of_nonneg (by omega)
  have hqw : IntKind.i64.wrap (M / 64) = M / 64 := by rw [IntKind.wrap_i64]; omega
  have C1 := fun w => clampInt_any s 0 1073741824 w
  rw [show clampI s 0 1073741824 = cS s from rfl] at C1
  have C1 := Lib.hid C1
  have C2 := fun w => clampInt_any l 0 (cS s) w
  rw [show clampI l 0 (cS s) = cL s l from rfl] at C2
  have C2 := Lib.hid C2
  have PN := fun w => partNum_yes (cL s l) (cS s) HL.1 HL.2.2.1 HL.2.1 w
  rw [show cL s l * 65536 / cS s = los s l from rfl] at PN
  have PN := Lib.hid PN
  have HU := Lib.hid (rise_any h o hk)
  have HD := Lib.hid (fall_any (g := los s l) h o HL.2.2.2.1 HL.2.2.2.2)
  have c1 := h.cell (o := 1) rfl
  have ER : ∀ g : Int, g ≤ T → (preR M T g x = rUp M x.R (aUp x.A x.k) ∧ preA T g x = aUp x.A x.k ∧ preK T g x = x.k + 1) := fun g hg => by unfold preR preA preK; rw [if_pos hg, if_pos hg, if_pos hg]; exact ⟨rfl, rfl, rfl⟩
  have EF : ∀ g : Int, ¬ g ≤ T → (preR M T g x = rDn T x.R g ∧ preA T g x = x.A / 2 ∧ preK T g x = 0) := fun g hg => by unfold preR preA preK; rw [if_neg hg, if_neg hg, if_neg hg]; exact ⟨rfl, rfl, rfl⟩
  have ER := Lib.hid (ER (los s l))
  have EF := Lib.hid (EF (los s l))
  clear h o HL hz
  generalize los s l = g at *
  generalize cL s l = u at *
  generalize cS s = v at *
  generalize preR M T g x = R1 at *
  generalize preA T g x = A1 at *
  generalize preK T g x = k1 at *
  have C3 := fun w => clampFix_any R1 (M / 64) M w
  rw [show clampI R1 (M / 64) M = lim M R1 from rfl] at C3
  have C3 := Lib.hid C3
  have C4 := fun w => clampFix_any A1 1024 32768 w
  rw [show clampI A1 1024 32768 = aLim A1 from rfl] at C4
  have C4 := Lib.hid C4
  generalize lim M R1 = R2 at *
  generalize aLim A1 = A2 at *
  go_enter Try.func9, Try.ntmps9
  go_wp2_with fail
  with_reducible refine Calls.mono MD.out ?_
  rintro e w' ⟨rfl, rfl⟩
  go_wp2_with fail
  with_reducible refine Calls.mono (C1.out _) ?_
  rintro e w' ⟨rfl, rfl⟩
  go_wp2_with fail
  with_reducible refine Calls.mono (C2.out _) ?_
  rintro e w' ⟨rfl, rfl⟩
  go_wp2_with fail
  with_reducible refine Calls.mono (PN.out _) ?_
  rintro e w' ⟨rfl, rfl⟩
  go_upto_if 33 with (fail)
  clear C1 C2 PN MD
  go_cut [] (fun wx => PQ wx b M T R1 A1 k1 ∧ Kept (fun k => k = b) w wx)
  case first =>
    by_cases hg : g ≤ T
    · obtain ⟨e1, e2, e3⟩ := ER.out hg
      go_wp2_with (go_at_call 23; with_reducible refine Calls.mono HU.out ?_; rintro e w' ⟨rfl, q1, q2⟩)
      go_meet
      rw [e1, e2, e3]
      exact ⟨q1, q2⟩
    · obtain ⟨e1, e2, e3⟩ := EF.out (by omega)
      go_wp2_with (go_at_call 24; with_reducible refine Calls.mono HD.out ?_; rintro e w' ⟨rfl, q1, q2⟩)
      go_meet
      rw [e1, e2, e3]
      exact ⟨q1, q2⟩
  case rest =>
    obtain ⟨hx, hk2⟩ := hcut
    clear HU HD ER EF c1 hk
    have HX := Lib.hid hx
    have HK := Lib.hid hk2
    have c0 := hx.cell (o := 0) rfl
    have c2 := hx.cell (o := 2) rfl
    have f2 := hx.frozen 2
    have hbl := hx.lt
    clear hx hk2
    go_upto_region 10 with (fail)
    go_cut [] (fun wx => PQ wx b M T R2 A1 k1 ∧ Kept (fun k => k = b) w wx)
    case first =>
      go_region_with (go_at_call 25; with_reducible refine Calls.mono (C3.out _) ?_; rintro e w' ⟨rfl, rfl⟩)
      all_goals
        go_wp2_with fail
        go_meet
        exact ⟨(HX.out.set 2 (.int .i64 R2)).drew, (HK.out.set (fun _ => rfl) 2 _).drew⟩
    case rest =>
      obtain ⟨hx, hk2⟩ := hcut
      clear c0 c2 f2 hbl HX HK C3
      have HX := Lib.hid hx
      have HK := Lib.hid hk2
      have c2 := hx.cell (o := 2) rfl
      have c3 := hx.cell (o := 3) rfl
      have f3 := hx.frozen 3
      have hbl := hx.lt
      clear hx hk2
      go_wp2_with (go_at_call 25; with_reducible refine Calls.mono (C4.out _) ?_; rintro e w' ⟨rfl, rfl⟩)
      go_ret
      exact ⟨rfl, HX.out.set 3 (.int .i64 A2), HK.out.set (fun _ => rfl) 3 _⟩
theorem upd_any {w : World} {b : Nat} {M T : Int} {x : St} (h : PR w b M T x) (o : Ok M T x) (hk : x.k ≤ 1000000) (s l : Int) :
    Calls Try.prog 9 #[.pointer (some ⟨b, 0, none⟩), .int .i64 s, .int .i64 l] w fun e w' => e = .returned (.int .i64 (x.upd M T s l).R) ∧ PR w' b M T (x.upd M T s l) ∧ Kept (fun k => k = b) w w' := by
  by_cases hz : cS s = 0
  · have e : x.upd M T s l = x := by unfold St.upd; rw [if_pos hz]
    rw [e]
    exact (upd_none h o.m0 s l hz).mono fun e w' ⟨e1, e2⟩ => by subst e2; exact ⟨e1, h, Kept.refl _ w⟩
  · exact upd_some h o hk s l hz
end Go.Proofs.Ytaflhkhfkifefaa.Cr
