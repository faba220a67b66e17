/- Buckets, the program's and the reference's: what each call answers and leaves. Conditions: each theorem's own. -/
import Derived.Test.YtpipomlkfhpkhaaBkNum
import Derived.Deep.RegionHeld3
import Derived.WalkLawsBesides
import Derived.Deep.DrawnRows
import Derived.Deep.RegionWith
import Derived.Deep.DeepCutAuto
set_option linter.unusedVariables false
namespace Go.Proofs.Ytpipomlkfhpkhaa.Bk
open Go.RowKit Hp NumM NumC Num1
attribute [local go_sem ↓] Go.wp_at_zero Go.wp_at_succ
abbrev T0 : Int := 1125899906842624
/-- A bucket of the program: rate, depth and level as a Fix, time. -/
def PB (w : World) (b : Nat) (r D L now : Int) : Prop := Blk w b [.int .i64 r, .int .i64 D, .int .i64 L, .int .i64 now] 53
/-- One of the reference: rate, depth, time, level. -/
def RB (w : World) (b : Nat) (r d L now : Int) : Prop := Blk w b [.int .i64 r, .int .i64 d, .int .i64 now, .int .i64 L] 55
theorem Drew {w : World} {b : Nat} {c : List Value} {T : TypeId} {n : Nat} (h : Blk w b c T) : Blk (w.drewN n) b c T := h
set_option maxHeartbeats 2000000 in
theorem goOn_any (r D L now t m L' : Int) (b : Nat) (w : World) (hB : PB w b r D L now) (hm : clampI t now 1125899906842624 = m) (h0 : 0 ≤ now) (h1 : now ≤ m) (h2 : m ≤ 1125899906842624)
    (hL : L' = if addI L (mulI r (m - now)) < D then addI L (mulI r (m - now)) else D) :
    Calls Try.prog 23 #[.pointer (some ⟨b, 0, none⟩), .int .i64 t] w fun e w' => e = .returned (.tuple #[]) ∧ PB w' b r D L' m ∧ Kept (fun k => k = b) w w' := by
  unfold PB at hB
  have c0 := hB.cell (o := 0) rfl
  have c1 := hB.cell (o := 1) rfl
  have c2 := hB.cell (o := 2) rfl
  have c3 := hB.cell (o := 3) rfl
  have CL := clampInt_any t now 1125899906842624
  rw [hm] at CL
  have CL := Lib.hid CL
  have hw1 : IntKind.i64.wrap (m - now) = m - now := by rw [IntKind.wrap_i64]; omega
  have HL := Lib.hid hL
  have HB := Lib.hid hB
  clear hm hL hB
  obtain ⟨g, hg⟩ : ∃ g, g = mulI r (m - now) := ⟨_, rfl⟩
  have MU := mulNum_any r (m - now)
  rw [← hg] at MU
  have MU := Lib.hid MU
  have HG := Lib.hid hg
  clear hg
  obtain ⟨s, hs⟩ : ∃ s, s = addI L g := ⟨_, rfl⟩
  have PL := plus_any L g
  rw [← hs] at PL
  have PL := Lib.hid PL
  have HS := Lib.hid hs
  clear hs
  have HL2 : Hid (L' = if s < D then s else D) := by rw [HS.out, HG.out]; exact HL.out
  go_enter Try.func23, Try.ntmps23
  go_wp2_with (go_at_call 32; refine (CL.out _).mono ?_; rintro e w' ⟨rfl, rfl⟩)
  go_quiet ((go_at_call 34; exact Calls.quiet_of_same ((MU.out _).mono fun _ _ ⟨e1, e2⟩ => ⟨e1, e2.symm⟩)))
  have hB1 : Blk (w.drewN nq) b [.int .i64 r, .int .i64 D, .int .i64 L, .int .i64 now] 53 := HB.out
  have K1 : Kept (fun k => k = b) w (w.drewN nq) := (Kept.refl _ w).drewN nq
  clear c0 c1 c2 c3
  generalize w.drewN nq = w1 at *
  have c1 := hB1.cell (o := 1) rfl
  have c2 := hB1.cell (o := 2) rfl
  have f2 := hB1.frozen 2
  have hblt := hB1.lt
  go_upto_region 2 with fail
  go_cut [] (fun wx => Blk wx b [.int .i64 r, .int .i64 D, .int .i64 L', .int .i64 now] 53 ∧ Kept (fun k => k = b) w wx)
  case first =>
    go_region_with (first | (go_at_call 36; refine (PL.out _).mono ?_; rintro e w' ⟨rfl, rfl⟩) | (go_at_call 35; refine (minF1 D s L' _ _ HL2.out ?_).mono ?_; (simp); rintro e w' ⟨rfl, rfl⟩))
    all_goals
      go_wp2_with fail
      go_meet
      exact ⟨((hB1.set 2 (.int .i64 L')).old _).drew, ((K1.set (fun _ => rfl) 2 _).alloc _).drew⟩
  case rest =>
    obtain ⟨hx, hk⟩ := hcut
    have f3 := hx.frozen 3
    have c3 := hx.cell (o := 3) rfl
    clear c1 c2 f2 hB1 K1
    go_wp2_with fail
    go_end0
    exact ⟨rfl, hx.set 3 (.int .i64 m), hk.set (fun _ => rfl) 3 _⟩
end Go.Proofs.Ytpipomlkfhpkhaa.Bk
