/- Slots with open addressing: neither too few nor too many. Conditions: each theorem's own. -/
import Derived.Test.YtaihjnonlnbhhaaTbMove
set_option linter.unusedVariables false
namespace Go.Proofs.Ytaihjnonlnbhhaa.Tb
open Go.RowKit Hp TbM TbN TbR
attribute [local go_sem ↓] Go.wp_at_zero Go.wp_at_succ
theorem pow_dbl {n : Nat} (h : Pow n) (hl : n < 1000000) : Pow (2 * n) := by
  obtain ⟨p, hp, rfl⟩ := h
  refine ⟨p + 1, ?_, by rw [Nat.pow_succ]; omega⟩
  rcases Nat.lt_or_ge p 30 with h | h
  · omega
  · have := Nat.pow_le_pow_right (n := 2) (by decide) h
    have e : (2 : Nat) ^ 30 = 1073741824 := by decide
    omega
theorem pow_half {n : Nat} (h : Pow n) (hl : 8 < n) : Pow (n / 2) ∧ 8 ≤ n / 2 ∧ 2 * (n / 2) = n := by
  obtain ⟨p, hp, rfl⟩ := h
  rcases Nat.lt_or_ge p 4 with h | h
  · have h4 : p = 0 ∨ p = 1 ∨ p = 2 ∨ p = 3 := by omega
    rcases h4 with rfl | rfl | rfl | rfl <;> simp at hl
  · obtain ⟨q, rfl⟩ : ∃ q, p = q + 4 := ⟨p - 4, by omega⟩
    have e : 2 ^ (q + 4) = 2 * 2 ^ (q + 3) := by rw [Nat.pow_succ]; omega
    have e2 : 2 ^ (q + 3) = 8 * 2 ^ q := by rw [Nat.pow_succ, Nat.pow_succ, Nat.pow_succ]; omega
    have h0 := Nat.two_pow_pos q
    rw [e, show 2 * 2 ^ (q + 3) / 2 = 2 ^ (q + 3) by omega]
    exact ⟨⟨q + 3, by omega, rfl⟩, by omega, rfl⟩
theorem pow8 : Pow 8 := ⟨3, by decide, rfl⟩
/-- Slots as they may be. -/
structure Fit (S : List (Option (Ky × Int))) : Prop where
  pow : Pow S.length
  least : 8 ≤ S.length
  path : Path (homeF S.length) none_ S
/-- What making room leaves. -/
def RoomP (S : List (Option (Ky × Int))) (v : Value) (c : Nat) (w : World) (e : Ending) (w' : World) : Prop :=
  ∃ v' S', e = .returned v' ∧ SlV ev zv w' 108 v' S' ∧ Fit S' ∧ 2 * c ≤ S'.length ∧ (kvs S').Perm (kvs S) ∧ (∀ g, v'.ownBlock = some g → v.ownBlock = some g ∨ w.heap.size ≤ g ∧ g < w'.heap.size) ∧ Kept (fun _ => False) w w'
theorem MovedP.room {S : List (Option (Ky × Int))} {n c : Nat} {v : Value} {w w' : World} {e : Ending} (h : MovedP S n w e w') (hn : Pow n) (h8 : 8 ≤ n) (hc : 2 * c ≤ n) : RoomP S v c w e w' := by
  obtain ⟨g, S', rfl, hg, hB, hl, hP, hp, hk⟩ := h
  subst hl
  refine ⟨_, S', rfl, Or.inr ⟨g, rfl, hB⟩, ⟨hn, h8, hP⟩, hc, hp, fun g' e => ?_, hk⟩
  have : g = g' := Option.some.inj e
  subst this
  exact Or.inr ⟨hg, hB.lt⟩
set_option maxHeartbeats 4000000 in
theorem room_grow {w : World} {v : Value} {S : List (Option (Ky × Int))} (hS : SlV ev zv w 108 v S) (hf : S = [] ∨ Fit S) (hnd : ((kvs S).map Prod.fst).Nodup) {c : Nat} (hc : c ≤ 100000) (hcS : (kvs S).length ≤ c) (h2 : 2 * c ≤ S.length + 2) (hg : S.length < 2 * c) :
    Calls Try.prog 58 #[v, .int .i64 c] w (RoomP S v c w) := by
  obtain ⟨a, rfl⟩ : ∃ a, v = .slice a S.length S.length := by
    rcases hS with ⟨rfl, rfl⟩ | ⟨g, rfl, _⟩
    · exact ⟨none, rfl⟩
    · exact ⟨_, rfl⟩
  obtain ⟨m, hm, hm1, hm2, hm3⟩ : ∃ m : Nat, (if (8 : Int) < 2 * (S.length : Int) then 2 * (S.length : Int) else 8) = (m : Int) ∧ Pow m ∧ 8 ≤ m ∧ 2 * c ≤ m := by
    rcases hf with rfl | hf
    · exact ⟨8, rfl, pow8, by omega, by simp at h2; omega⟩
    · have := hf.least
      refine ⟨2 * S.length, ?_, pow_dbl hf.pow (by omega), by omega, by omega⟩
      rw [if_pos (by omega)]; omega
  have M := Lib.hid (moved_any hS (by omega) hnd hm1 (by omega))
  have hcI : (c : Int) * 2 = ((2 * c : Nat) : Int) := by omega
  have HM1 := Lib.hid hm1
  have g1 : ((S.length : Nat) : Int) < (c : Int) * 2 := by omega
  clear hS hf hnd hcS hm1 hcI
  go_enter Try.func58, Try.ntmps58
  go_wp2_with fail
  with_reducible refine Calls.mono M.out ?_
  rintro e w' hM
  obtain ⟨g, S', rfl, _⟩ := id hM
  have P := Lib.hid (hM.room (v := .slice a S.length S.length) HM1.out hm2 hm3)
  clear hM
  go_wp2_with fail
  go_ret
  exact P.out
set_option maxHeartbeats 4000000 in
theorem room_shrink {w : World} {v : Value} {S : List (Option (Ky × Int))} (hS : SlV ev zv w 108 v S) (hf : Fit S) (hnd : ((kvs S).map Prod.fst).Nodup) {c : Nat} (hc : c ≤ 100000) (hcS : (kvs S).length ≤ c) (h2 : 8 * c < S.length) (hg : 8 < S.length) :
    Calls Try.prog 58 #[v, .int .i64 c] w (RoomP S v c w) := by
  obtain ⟨a, rfl⟩ : ∃ a, v = .slice a S.length S.length := by
    rcases hS with ⟨rfl, rfl⟩ | ⟨g, rfl, _⟩
    · exact ⟨none, rfl⟩
    · exact ⟨_, rfl⟩
  obtain ⟨q1, q2, q3⟩ := pow_half hf.pow hg
  have hle := hf.pow.le
  have M := Lib.hid (moved_any hS hle hnd q1 (by omega))
  have hdiv : ((S.length : Nat) : Int) / 2 = ((S.length / 2 : Nat) : Int) := by omega
  have HM1 := Lib.hid q1
  have g1 : ¬ ((S.length : Nat) : Int) < (c : Int) * 2 := by omega
  have g2 : (c : Int) * 8 < ((S.length : Nat) : Int) := by omega
  have g3 : (8 : Int) < ((S.length : Nat) : Int) := by omega
  have hm3 : 2 * c ≤ S.length / 2 := by omega
  have hml : S.length / 2 ≤ S.length := by omega
  clear hS hf hnd hcS q1 q3 h2
  generalize S.length / 2 = m at *
  go_enter Try.func58, Try.ntmps58
  go_wp2_with fail
  with_reducible refine Calls.mono M.out ?_
  rintro e w' hM
  obtain ⟨g, S', rfl, _⟩ := id hM
  have P := Lib.hid (hM.room (v := .slice a S.length S.length) HM1.out q2 hm3)
  clear hM
  go_wp2_with fail
  go_ret
  exact P.out
set_option maxHeartbeats 4000000 in
theorem room_stay {w : World} {v : Value} {S : List (Option (Ky × Int))} (hS : SlV ev zv w 108 v S) (hf : Fit S) {c : Nat} (hc : 2 * c ≤ S.length) (h2 : S.length ≤ 8 * c ∨ S.length ≤ 8) :
    Calls Try.prog 58 #[v, .int .i64 c] w (RoomP S v c w) := by
  have P := Lib.hid (show RoomP S v c w (.returned v) w from ⟨v, S, rfl, hS, hf, hc, List.Perm.refl _, fun g e => Or.inl e, Kept.refl _ w⟩)
  obtain ⟨a, rfl⟩ : ∃ a, v = .slice a S.length S.length := by
    rcases hS with ⟨rfl, rfl⟩ | ⟨g, rfl, _⟩
    · exact ⟨none, rfl⟩
    · exact ⟨_, rfl⟩
  have hle := hf.pow.le
  have g1 : ¬ ((S.length : Nat) : Int) < (c : Int) * 2 := by omega
  have hcl : c ≤ 1073741824 := by omega
  have h2' : ¬ ((c : Int) * 8 < ((S.length : Nat) : Int)) ∨ ((c : Int) * 8 < ((S.length : Nat) : Int) ∧ decide ((8 : Int) < ((S.length : Nat) : Int)) = false) := by
    rw [decide_eq_false_iff_not]; omega
  clear hS hf h2
  rcases h2' with g2 | ⟨g2, g3⟩
  all_goals
    go_enter Try.func58, Try.ntmps58
    go_wp2_with fail
    go_ret
    exact P.out
/-- Room for c. -/
theorem room_any {w : World} {v : Value} {S : List (Option (Ky × Int))} (hS : SlV ev zv w 108 v S) (hf : S = [] ∨ Fit S) (hnd : ((kvs S).map Prod.fst).Nodup) {c : Nat} (hc : c ≤ 100000) (hcS : (kvs S).length ≤ c) (h2 : 2 * c ≤ S.length + 2) (h1 : 1 ≤ c ∨ Fit S) :
    Calls Try.prog 58 #[v, .int .i64 c] w (RoomP S v c w) := by
  rcases Nat.lt_or_ge S.length (2 * c) with h | h
  · exact room_grow hS hf hnd hc hcS h2 h
  · have hF : Fit S := by
      rcases hf with rfl | hf
      · rcases h1 with h1 | h1
        · simp at h; omega
        · exact h1
      · exact hf
    by_cases h3 : 8 * c < S.length ∧ 8 < S.length
    · exact room_shrink hS hF hnd hc hcS h3.1 h3.2
    · exact room_stay hS hF h (by omega)
end Go.Proofs.Ytaihjnonlnbhhaa.Tb
