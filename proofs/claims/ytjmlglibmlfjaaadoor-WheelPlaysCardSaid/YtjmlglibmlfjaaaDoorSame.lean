/- Two rows that show the same keys are told to be the same. Conditions: each theorem's own. -/
import Derived.Test.YtjmlglibmlfjaaaDoorRef
set_option linter.unusedVariables false
namespace Go.Proofs.YtjmlglibmlfjaaaDoor.Rf
open Go.RowKit Hp BitsC Tree Im Wk Go.Proofs.YtjmlglibmlfjaaaDoor.End
set_option maxRecDepth 100000 in
set_option maxHeartbeats 8000000 in
theorem same_yes {w : World} {B1 B2 : Nat} {K : List Key} (s1 s2 : Option Addr) (cap1 cap2 : Nat) (hsm : K.length ≤ 100000) (h1 : Row w B1 (.slice s1 K.length cap1) K) (h2 : RRow w B2 (.slice s2 K.length cap2) K) :
    Calls Tryd.prog 10 #[.slice s1 K.length cap1, .slice s2 K.length cap2] w fun e w' => e = .returned (.bool true) ∧ Old w w' := by
  go_enter Tryd.func10, Tryd.ntmps10
  go_wp2_with fail
  go_loopg [5] K.length (fun k s5 wr => ∃ i : Nat, Hid (k = K.length - i) ∧ i ≤ K.length ∧ s5 = .int .i64 ((i : Nat) : Int) ∧ Row wr B1 (.slice s1 K.length cap1) K ∧ RRow wr B2 (.slice s2 K.length cap2) K ∧ Old w wr)
  case atStart => exact ⟨0, rfl, by omega, rfl, h1, h2, Old.refl w⟩
  case round =>
    obtain ⟨i, hk, hi, rfl, r1, r2, hO⟩ := hrel
    clear h1 h2
    by_cases hlt : i < K.length
    · obtain ⟨g, rfl, hg, a0, a1, a2⟩ := r1.at hlt
      obtain ⟨s, cap, e, hcap, hs⟩ := r2.form
      simp only [Value.slice.injEq] at e
      obtain ⟨rfl, _, rfl⟩ := e
      rcases hs with ⟨rfl, hK, _⟩ | ⟨g2, rfl, hg1, hg2⟩
      · rw [hK] at hlt; simp at hlt
      · obtain ⟨b0, b1, b2⟩ := r2.at hlt
        have i0 : (0 : Int) ≤ (i : Int) := by omega
        have i1 : (i : Int) < (K.length : Int) := by omega
        obtain ⟨t, ht⟩ : ∃ t, t = K[i].1 := ⟨_, rfl⟩
        obtain ⟨d, hd⟩ : ∃ d, d = K[i].2.1 := ⟨_, rfl⟩
        obtain ⟨z, hz⟩ : ∃ z, z = K[i].2.2 := ⟨_, rfl⟩
        rw [← ht] at a0 b0
        rw [← hd] at a1 b1
        rw [← hz] at a2 b2
        clear ht hd hz
        go_wp2_with fail
        go_quiet (fail)
        go_wp2_with fail
        go_roundg (K.length - (i + 1))
        case measure => have := hk.out; omega
        case rel => exact ⟨i + 1, rfl, by omega, by simp, r1, r2, hO.drewN nq⟩
    · go_wp2_with fail
      go_ret
      exact ⟨rfl, hO⟩
end Go.Proofs.YtjmlglibmlfjaaaDoor.Rf
