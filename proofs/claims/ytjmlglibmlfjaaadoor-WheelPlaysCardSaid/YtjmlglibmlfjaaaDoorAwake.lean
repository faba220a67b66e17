/- What the document fixes of the wheel answers true. Conditions: each theorem's own. -/
import Derived.Test.YtjmlglibmlfjaaaDoorWhAdv
import Derived.Test.YtjmlglibmlfjaaaDoorWhAdvS
import Derived.Test.YtjmlglibmlfjaaaDoorEnd
set_option linter.unusedVariables false
namespace Go.Proofs.YtjmlglibmlfjaaaDoor.Awake
open Go.RowKit Hp BitsC Tree Im Go.Proofs.YtjmlglibmlfjaaaDoor.End
open WheelS (ents Whl Added Advanced ecells)
set_option maxRecDepth 100000 in
set_option maxHeartbeats 2000000 in
theorem awake_any (w : World) (hTab : Wh.Tab w) : Calls Tryd.prog 4 #[] w fun e w' => e = .returned (.bool true) ∧ Old w w' := by
  go_enter Tryd.func4, Tryd.ntmps4
  go_wp2_with fail
  refine (WheelS.new_yes 5 (by decide) (by decide) w hTab).mono ?_
  rintro e w1 ⟨rfl, hw, hk⟩
  go_wp2_with fail
  refine (Wheel.new_no 0 (by decide) w1).mono ?_
  rintro e w' ⟨rfl, rfl⟩
  go_wp2_with fail
  have hT1 : WhS.Tab w1 := Wh.Tab.kept hTab hk (fun h => h)
  refine (WheelS.add_ok hw 5 ⟨#[120]⟩ (by decide) (by decide) (by decide)).mono ?_
  rintro e w2 ⟨T', x, A, B, rfl, ⟨x1, x2, x3⟩, e1, e2, e3, e4, hw2, hk2, hf2⟩
  obtain ⟨rfl, rfl⟩ : A = [] ∧ B = [] := by
    have : A ++ B = [] := by rw [← e1]; rfl
    exact List.append_eq_nil_iff.1 this
  have hat : x.at_ = 5 := by simp at x1; omega
  have hent : ents T' = [x] := e2
  have hT2 : WhS.Tab w2 := WhS.Tab.kept hT1 hk2 hw.off
  have X2 := Lib.hid x2
  have X3 := Lib.hid x3
  have HAT := Lib.hid hat
  have HE := Lib.hid hent
  clear x1 x2 x3 e1 e2 e3 e4 hat hent
  go_wp2_with fail
  refine (WheelS.advance_any hw2 hT2 5 (by rw [HE.out]; simp) (by rw [HE.out]; intro t ht; simp only [List.mem_singleton] at ht; subst ht; exact ⟨_, X3.out⟩)).mono ?_
  rintro e w3 ⟨T3, M3, v, D, now', rfl, n1, d1, d2, d3, hown, hw3, hk3, hf3⟩
  have hnow : now' = 5 := by simp at n1; omega
  subst hnow
  rw [HE.out] at d1
  obtain ⟨rfl, hT3⟩ : D = [x] ∧ ents T3 = [] := by
    cases hR : ents T3 with
    | nil => rw [hR, List.append_nil] at d1; exact ⟨d1.symm, rfl⟩
    | cons y l =>
      have hy : y ∈ [x] := by rw [d1, hR]; simp
      simp only [List.mem_singleton] at hy
      have := d3 y (by rw [hR]; simp)
      have h5 := HAT.out
      rw [hy] at this
      omega
  rcases hown.2 with ⟨_, h0⟩ | ⟨g, cap, cur, rfl, hg1, hg2, hg3, hg4, hg5, hg6⟩
  · simp at h0
  have c0 := hown.cellAt 0 (by simp)
  have c2 := hown.cellAt 2 (by simp)
  simp only [List.flatMap_cons, List.flatMap_nil, List.append_nil, ecells, X3.out, HAT.out] at c0 c2
  change w3.cell? ⟨g, 0, none⟩ = some (.int .i64 ((5 : Nat) : Int)) at c0
  change w3.cell? ⟨g, 2, none⟩ = some (.string ⟨#[120]⟩) at c2
  have HT3 := Lib.hid hT3
  have LEN := WheelS.len_any' hw3
  rw [hT3] at LEN
  have LEN := Lib.hid LEN
  have hcap : (1 : Nat) ≤ cap := hg3
  clear d1 d2 d3 hT3 n1 hg6 hg5 hg2
  go_wp2_with (go_at_call 19; refine LEN.out.mono ?_; rintro e w' ⟨rfl, rfl⟩)
  go_ret
  refine ⟨rfl, (hk.trans' hk2 (fun i hi e => ?_)).trans' hk3 (fun i hi e => ?_)⟩
  · rcases e with e | e | e
    · omega
    · omega
    · exact e
  · have hs := hk.size
    rcases hf2 i e with (e | e | e) | e
    · omega
    · omega
    · exact e
    · omega
end Go.Proofs.YtjmlglibmlfjaaaDoor.Awake
