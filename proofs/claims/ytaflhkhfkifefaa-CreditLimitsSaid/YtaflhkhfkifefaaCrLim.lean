/- A credit rate that loses nothing comes near the most. Plain mathematics, no program. -/
import Derived.Test.YtaflhkhfkifefaaCrMath
namespace Go.Proofs.Ytaflhkhfkifefaa.CrM
open NumM
theorem fix_in {a m : Int} (h0 : 0 ≤ a) (h1 : a ≤ 65536) (h2 : 0 ≤ m) (h3 : m ≤ 68719476736) : fixI a m = a * m / 65536 ∧ 0 ≤ a * m := by
  have hb := mul_bd h0 h1 h2 h3
  unfold fixI
  rw [hold_in h0 (by omega), hold_in h2 (by omega), hold_in (by omega) (by omega)]
  exact ⟨rfl, hb.1⟩
theorem up_near {M T : Int} {x : St} (h : Ok M T x) {a : Int} (ha0 : 1024 ≤ a) (ha1 : a ≤ 32768) :
    65536 * x.R + a * (M - x.R) - 131070 ≤ 65536 * rUp M x.R a ∧ rUp M x.R a ≤ M ∧ 0 ≤ rUp M x.R a := by
  have m0 := h.m0
  have m1 := h.m1
  have r0 := h.r0
  have r1 := h.r1
  obtain ⟨e1, p1⟩ := fix_in (a := a) (m := M) (by omega) (by omega) (by omega) m1
  obtain ⟨e2, p2⟩ := fix_in (a := 65536 - a) (m := x.R) (by omega) (by omega) (by omega) (by omega)
  have hd : 0 ≤ (65536 - a) * (M - x.R) := Int.mul_nonneg (by omega) (by omega)
  have hs : a * M + (65536 - a) * x.R = 65536 * x.R + a * (M - x.R) := by grind
  have hs2 : a * M + (65536 - a) * x.R + (65536 - a) * (M - x.R) = 65536 * M := by grind
  unfold rUp
  rw [e1, e2]
  generalize a * M = p at *
  generalize (65536 - a) * x.R = q at *
  generalize a * (M - x.R) = z at *
  generalize (65536 - a) * (M - x.R) = y at *
  have hu : addI (p / 65536) (q / 65536) = p / 65536 + q / 65536 := by
    unfold addI
    rw [hold_in (v := p / 65536) (by omega) (by omega), hold_in (v := q / 65536) (by omega) (by omega), hold_in (by omega) (by omega)]
  rw [hu]
  omega
theorem los_none : los 1 0 = 0 := by decide
theorem upd_one {M T : Int} {x : St} (h : Ok M T x) : x.upd M T 1 0 = x.up M := by
  unfold St.upd
  rw [if_neg (by decide), los_none, if_pos h.t0]
theorem lim_ge {M R : Int} (h : R ≤ M) : R ≤ lim M R := by unfold lim clampI; split <;> (try split) <;> omega
theorem up_R {M T : Int} {x : St} (h : Ok M T x) : x.R - 1 ≤ (x.up M).R ∧ (1 ≤ x.k → 4 * (M - (x.up M).R) ≤ 3 * (M - x.R) + 7) ∧ (x.up M).k = x.k + 1 := by
  have hb := aUp_bd (k := x.k) h.a0 h.a1
  have hn := up_near h hb.1 hb.2
  have hl := lim_ge hn.2.1
  have r1 := h.r1
  have e : (x.up M).R = lim M (rUp M x.R (aUp x.A x.k)) := rfl
  rw [e]
  refine ⟨?_, fun hk => ?_, rfl⟩
  · have := Int.mul_nonneg (show 0 ≤ aUp x.A x.k by omega) (show 0 ≤ M - x.R by omega)
    omega
  · have ha : 16384 ≤ aUp x.A x.k := by have := h.a0; unfold aUp; rw [if_pos (by omega)]; omega
    have := Int.mul_le_mul_of_nonneg_right ha (show 0 ≤ M - x.R by omega)
    omega
/-- How near the most it is behind so many Updates without loss. -/
structure Near (M : Int) (i : Nat) (R : Int) : Prop where
  n2 : 2 ≤ i → 4 * (M - R) ≤ 3 * M + 7
  n3 : 3 ≤ i → 16 * (M - R) ≤ 9 * M + 49
  n4 : 4 ≤ i → 2 * (M - R) ≤ M
theorem Near.zero (M R : Int) : Near M 0 R := ⟨fun h => by omega, fun h => by omega, fun h => by omega⟩
theorem Near.step {M T : Int} {x : St} {i : Nat} (h : Ok M T x) (hn : Near M i x.R) (hk : i ≤ x.k) : Near M (i + 1) (x.up M).R := by
  have hu := (up_R h).2.1
  have m0 := h.m0
  have r0 := h.r0
  have n2 := hn.n2
  have n3 := hn.n3
  have n4 := hn.n4
  refine ⟨fun h2 => ?_, fun h3 => ?_, fun h4 => ?_⟩
  · have := hu (by omega); omega
  · have := hu (by omega); have := n2 (by omega); omega
  · have := hu (by omega)
    have := n3 (by omega)
    rcases Nat.lt_or_ge i 4 with h5 | h5
    · omega
    · have := n4 h5; omega
end Go.Proofs.Ytaflhkhfkifefaa.CrM
