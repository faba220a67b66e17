/- The reference's bucket: time goes on. Conditions: each theorem's own. -/
import Derived.Test.YtpipomlkfhpkhaaBk
set_option linter.unusedVariables false
namespace Go.Proofs.Ytpipomlkfhpkhaa.Bk
open Go.RowKit Hp NumM NumC Num1
attribute [local go_sem ↓] Go.wp_at_zero Go.wp_at_succ
set_option maxHeartbeats 4000000 in
theorem on_any (r d L now t mn m L' : Int) (b : Nat) (w : World) (hB : RB w b r d L now) (hmn : (if 1125899906842624 < t then 1125899906842624 else t) = mn) (hm : (if now < mn then mn else now) = m) (h0 : 0 ≤ now) (h1 : now ≤ m) (h2 : m ≤ 1125899906842624)
    (d0 : 1 ≤ d) (d1 : d ≤ 1073741824) (hL : (if addI L (mulI r (m - now)) < d * 65536 then addI L (mulI r (m - now)) else d * 65536) = L') :
    Calls Try.prog 24 #[.pointer (some ⟨b, 0, none⟩), .int .i64 t] w fun e w' => e = .returned (.tuple #[]) ∧ RB w' b r d L' m ∧ Kept (fun k => k = b) w w' := by
  unfold RB at hB
  have c0 := hB.cell (o := 0) rfl
  have c1 := hB.cell (o := 1) rfl
  have c2 := hB.cell (o := 2) rfl
  have c3 := hB.cell (o := 3) rfl
  have f3 := hB.frozen 3
  have hblt := hB.lt
  have hw1 : IntKind.i64.wrap (m - now) = m - now := by rw [IntKind.wrap_i64]; omega
  have hw2 : IntKind.i64.wrap (d * 65536) = d * 65536 := by rw [IntKind.wrap_i64]; omega
  obtain ⟨g, hg⟩ : ∃ g, g = mulI r (m - now) := ⟨_, rfl⟩
  have MU := mulRef_any r (m - now)
  rw [← hg] at MU hL
  have MU := Lib.hid MU
  clear hg
  obtain ⟨s, hs⟩ : ∃ s, s = addI L g := ⟨_, rfl⟩
  have PL := addRef_any L g
  rw [← hs] at PL hL
  have PL := Lib.hid PL
  clear hs
  go_enter Try.func24, Try.ntmps24
  go_upto_region 1 with fail
  go_cut [] (fun wx => Blk wx b [.int .i64 r, .int .i64 d, .int .i64 now, .int .i64 L'] 55 ∧ Kept (fun k => k = b) w wx)
  case first =>
    go_region_with (first | (go_at_call 28; refine (PL.out _).mono ?_; rintro e w' ⟨rfl, rfl⟩) | (go_at_call 37; refine (MU.out _).mono ?_; rintro e w' ⟨rfl, rfl⟩))
    all_goals
      go_wp2_with fail
      go_meet
      exact ⟨(hB.set 3 (.int .i64 L')).drew, (Kept.one w b 3 _).drew⟩
  case rest =>
    obtain ⟨hx, hk⟩ := hcut
    clear c0 c1 c2 c3 f3
    have f2 := hx.frozen 2
    have c2 := hx.cell (o := 2) rfl
    go_wp2_with fail
    go_end0
    exact ⟨rfl, hx.set 2 (.int .i64 m), hk.set (fun _ => rfl) 2 _⟩
end Go.Proofs.Ytpipomlkfhpkhaa.Bk
