/- What the statements hold side by side: Round, Ranges; what they ask at first. Conditions: each theorem's own. -/
import Derived.Test.YtagggadjmnclfaaIvGap
import Derived.Test.YtagggadjmnclfaaEnd
set_option linter.unusedVariables false
namespace Go.Proofs.Ytagggadjmnclfaa.Iv
open Go.RowKit Hp IvM IvR IvN Go.Proofs.Ytagggadjmnclfaa.End
attribute [local go_sem ↓] Go.wp_at_zero Go.wp_at_succ
theorem row_part {w : World} {base : Nat} {s : Option Addr} {m cap : Nat} {l : List Rg} (h : Row w base (.slice s m cap) l) : m = l.length ∧ Part w s l ∧ l.length ≤ cap ∧ cap ≤ 9223372036854775807 := by
  rcases h.form with ⟨e, rfl⟩ | ⟨g, c, cur, e, h1, h2⟩
  · cases e; exact ⟨rfl, Or.inl rfl, by simp, by omega⟩
  · cases e
    have hm := h2.most
    unfold maxLen at hm
    refine ⟨rfl, Or.inr ⟨g, 0, rfl, h2.blk.lt, fun i hi => ?_⟩, h2.le, by omega⟩
    rw [getD_at hi, Nat.zero_add]
    exact h2.at hi
theorem Part.kept {w w' : World} {s : Option Addr} {l : List Rg} (h : Part w s l) (k : Kept (fun _ => False) w w') : Part w' s l := by
  rcases h with e | ⟨g, o, e, hg, hc⟩
  · exact Or.inl e
  · exact Or.inr ⟨g, o, e, Nat.lt_of_lt_of_le hg k.size, fun i hi => ⟨(keptCell k hg (fun f => f) _).trans (hc i hi).1, (keptCell k hg (fun f => f) _).trans (hc i hi).2⟩⟩
set_option maxHeartbeats 4000000 in
/-- Two rows of the same ranges are told the same. -/
theorem alike_same {w : World} {s s2 : Option Addr} {c c2 : Nat} {l : List Rg} (h : Part w s l) (h2 : Part w s2 l) (hsm : l.length ≤ 900000) :
    Calls Try.prog 14 #[.slice s l.length c, .slice s2 l.length c2] w fun e w' => e = .returned (.bool true) ∧ Kept (fun _ => False) w w' := by
  have H := Lib.hid h
  have H2 := Lib.hid h2
  clear h h2
  go_enter Try.func14, Try.ntmps14
  go_wp2_with fail
  go_loopg [5] l.length (fun m s5 wr => ∃ (i : Nat), Hid (m = l.length - i) ∧ i ≤ l.length ∧ s5 = .int .i64 ((i : Nat) : Int) ∧ Kept (fun _ => False) w wr)
  case atStart => exact ⟨0, rfl, by omega, rfl, Kept.refl _ w⟩
  case round =>
    obtain ⟨i, hm, hi, rfl, hk⟩ := hrel
    by_cases hlt : i < l.length
    · obtain ⟨g, o, rfl, hg, hc⟩ := H.out.resolve_left (fun e => by rw [e] at hlt; simp at hlt)
      obtain ⟨g2, o2, rfl, hg2, hc2⟩ := H2.out.resolve_left (fun e => by rw [e] at hlt; simp at hlt)
      have e0 := (keptCell hk hg (fun f => f) _).trans (hc i hlt).1
      have e1 := (keptCell hk hg (fun f => f) _).trans (hc i hlt).2
      have f0 := (keptCell hk hg2 (fun f => f) _).trans (hc2 i hlt).1
      have f1 := (keptCell hk hg2 (fun f => f) _).trans (hc2 i hlt).2
      have hlt2 : (i : Int) < (l.length : Int) := by omega
      generalize l.getD i (0, 0) = p at *
      obtain ⟨a, b⟩ := p
      dsimp only at e0 e1 f0 f1
      clear hc hc2
      go_wp2_with fail
      go_quiet (fail)
      go_wp2_with fail
      go_roundg (l.length - (i + 1))
      case measure => have := hm.out; omega
      case rel => exact ⟨i + 1, rfl, by omega, by simp, hk.drewN _⟩
    · go_wp2_with fail
      go_ret
      exact ⟨rfl, hk⟩
theorem tmod_emod (k n : Int) (hn : 0 < n) : k % n = if k.tmod n < 0 then k.tmod n + n else k.tmod n := by
  have e : k % n = (k.tmod n) % n := by
    have h : k = k.tmod n + n * k.tdiv n := by rw [Int.tmod_def]; omega
    have h2 : (k.tmod n + n * k.tdiv n) % n = (k.tmod n) % n := Int.add_mul_emod_self_left _ _ _
    rw [← h] at h2
    exact h2
  have t1 := Int.tmod_lt_of_pos k hn
  have t2 : -n < k.tmod n := by
    have := Int.tmod_lt_of_pos (-k) hn
    rw [Int.neg_tmod] at this
    omega
  rw [e]
  split
  · rw [← Int.add_emod_right, Int.emod_eq_of_lt (by omega) (by omega)]
  · exact Int.emod_eq_of_lt (by omega) t1
theorem round_pos {k n : Int} (hn : 0 < n) (hn2 : n ≤ 1000000) (h0 : -9223372036854775808 ≤ k) (h1 : k ≤ 9223372036854775807) (w : World) :
    Calls Try.prog 13 #[.int .i64 k, .int .i64 n] w fun e w' => e = .returned (.int .i64 (k % n)) ∧ w = w' := by
  have hne : ¬ n = 0 := by omega
  have hne2 : (n == 0) = false := by rw [beq_eq_false_iff_ne]; exact hne
  have he := tmod_emod k n hn
  by_cases hk : 0 ≤ k
  · have t3 := Int.emod_nonneg k hne
    clear he
    go_enter Try.func13, Try.ntmps13
    go_wp2_with fail
    go_ret
    exact ⟨rfl, rfl⟩
  · have t1 := Int.tmod_lt_of_pos k hn
    have t2 : -n < k.tmod n := by
      have := Int.tmod_lt_of_pos (-k) hn
      rw [Int.neg_tmod] at this
      omega
    by_cases hr : k.tmod n < 0
    · rw [if_pos hr] at he
      rw [he]
      clear he
      go_enter Try.func13, Try.ntmps13
      go_wp2_with fail
      go_ret
      exact ⟨rfl, rfl⟩
    · rw [if_neg hr] at he
      rw [he]
      clear he
      go_enter Try.func13, Try.ntmps13
      go_wp2_with fail
      go_ret
      exact ⟨rfl, rfl⟩
/-- The only set of some bytes in a row. -/
theorem only {n : Int} {L : List Rg} {f t : Int} (hg : IvM.Good n L) (h0 : 0 ≤ f) (h1 : f < t) (h2 : t ≤ n) (h : ∀ x, IvM.Has L x ↔ (f ≤ x ∧ x < t)) : L = [(f, t)] :=
  unique hg (m := n) ⟨by simp; omega, List.pairwise_singleton _ _⟩ (fun x => (h x).trans (has_one (p := (f, t))).symm)
set_option maxHeartbeats 8000000 in
set_option maxRecDepth 100000 in
theorem awake_any (w : World) : Calls Try.prog 6 #[] w fun e w' => e = .returned (.bool true) ∧ Old w w' := by
  have N1 := Lib.hid (new_yes (n := 10) (by decide) (by decide) w)
  have N2 := Lib.hid fun (w : World) => new_no (n := -1) (Or.inl (by decide)) w
  go_enter Try.func6, Try.ntmps6
  go_wp2_with fail
  refine N1.out.mono ?_
  rintro e w1 ⟨b, rfl, hS1, k1⟩
  clear N1
  go_wp2_with fail
  refine (N2.out w1).mono ?_
  rintro e w' ⟨rfl, rfl⟩
  have A := Lib.hid (add_any hS1 (by have := k1.size; omega) 2 5 (by simp))
  clear N2
  go_wp2_with fail
  refine A.out.mono ?_
  rintro e w2 ⟨v2, L, k, rfl, hA, _, hx⟩
  obtain rfl : L = [(2, 5)] := only hA.set.good (by decide) (by decide) (by decide) (fun x => (hx x).trans ⟨fun h => h.elim (fun h => by simp [IvM.Has] at h) (fun h => h.2), fun h => Or.inr ⟨⟨by decide, by decide, by decide⟩, h⟩⟩)
  have hk2 : Old w w2 := k1.trans' hA.kept (fun i hi e => by
    rcases e with e | e
    · have := hS1.low; omega
    · simp [Value.ownBlock] at e)
  have G := Lib.hid (gaps_any hA.set 10 9 (by simp))
  have hsum := Lib.hid fun (w' : World) (k : Kept (fun _ => False) w2 w') => sum_any (hA.set.old k)
  clear hx A
  go_wp2_with fail
  refine G.out.mono ?_
  rintro e w3 ⟨v3, rfl, hR, hk3⟩
  have hgl : gaps (min 10 10) 0 [(2, 5)] = [(0, 2), (5, 10)] := by decide
  rw [hgl] at hR
  obtain ⟨s3, c3, rfl⟩ := form2 hR
  obtain ⟨_, hp, hc, _⟩ := row_part hR
  obtain ⟨g, o, rfl, hg, hcell⟩ := hp.resolve_left (by simp)
  have e0 : w3.cell? ⟨g, o, none⟩ = some (.int .i64 0) := by simpa using (hcell 0 (by simp)).1
  have e1 : w3.cell? ⟨g, o + 1, none⟩ = some (.int .i64 2) := by simpa using (hcell 0 (by simp)).2
  have e2 : w3.cell? ⟨g, o + 2, none⟩ = some (.int .i64 5) := by simpa using (hcell 1 (by simp)).1
  have e3 : w3.cell? ⟨g, o + 2 + 1, none⟩ = some (.int .i64 10) := by simpa using (hcell 1 (by simp)).2
  have SM := Lib.hid (hsum.out w3 hk3)
  clear hcell hp G hsum hgl hR
  have hz : size [(2, 5)] = 3 := by decide
  rw [hz] at SM
  have hz2 : size [(2, 5)] - size [] = 3 := by decide
  rw [hz2]
  clear hz hz2
  dsimp only [List.length_cons, List.length_nil]
  go_wp2_with fail
  with_reducible refine Calls.mono SM.out ?_
  rintro e w4 ⟨rfl, rfl⟩
  go_wp2_with fail
  go_ret
  exact ⟨rfl, hk2.trans hk3⟩
end Go.Proofs.Ytagggadjmnclfaa.Iv
