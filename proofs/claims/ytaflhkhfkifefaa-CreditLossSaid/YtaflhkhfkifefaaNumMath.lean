/- Plain mathematics of numbers that are held within 0 to 2^50: no program here. -/
import Derived.WalkKit
namespace Go.Proofs.Ytaflhkhfkifefaa.NumM
def clampI (v low high : Int) : Int := if v < low then low else if high < v then high else v
theorem clampI_lo {v low high : Int} (h : v < low) : clampI v low high = low := by unfold clampI; rw [if_pos h]
theorem clampI_hi {v low high : Int} (h : low ≤ v) (h2 : high < v) : clampI v low high = high := by unfold clampI; rw [if_neg (by omega), if_pos h2]
theorem clampI_in {v low high : Int} (h : low ≤ v) (h2 : v ≤ high) : clampI v low high = v := by unfold clampI; rw [if_neg (by omega), if_neg (by omega)]
theorem clampI_bd (v : Int) {low high : Int} (h : low ≤ high) : low ≤ clampI v low high ∧ clampI v low high ≤ high := by unfold clampI; split <;> (try split) <;> omega
def hold (v : Int) : Int := clampI v 0 1125899906842624
theorem hold_lo (v : Int) : 0 ≤ hold v := by unfold hold clampI; split <;> (try split) <;> omega
theorem hold_hi (v : Int) : hold v ≤ 1125899906842624 := by unfold hold clampI; split <;> (try split) <;> omega
def addI (a b : Int) : Int := hold (hold a + hold b)
def subI (a b : Int) : Int := hold (hold a - hold b)
def mulI (a b : Int) : Int := hold (hold a * hold b)
theorem mul_bd {p q P Q: Int} (h0 : 0 ≤ p) (h1 : p ≤ P) (h2 : 0 ≤ q) (h3 : q ≤ Q) : 0 ≤ p*q ∧ p * q ≤ P*Q :=
  ⟨Int.mul_nonneg h0 h2, Int.mul_le_mul h1 h3 h2 (by omega)⟩
theorem prod_split (a b : Int) : a * b = 1125899906842624 * ((a/33554432) * (b/33554432)) + 33554432 * ((a/33554432) * (b%33554432) + (a%33554432)*(b/33554432)) + (a%33554432)*(b%33554432) := by
  have ha := Int.mul_ediv_add_emod a 33554432
  have hb := Int.mul_ediv_add_emod b 33554432
  generalize a/33554432 = p at *
  generalize a%33554432 = q at *
  generalize b/33554432 = r at *
  generalize b%33554432 = s at *
  subst ha hb
  grind
def prodU (a b : Int) : Int := a * b / 1125899906842624
def prodL (a b : Int) : Int := a * b % 1125899906842624
def fixI (a b : Int) : Int := hold (hold a * hold b / 65536)
theorem hold_top {v : Int} (h : 1125899906842624 ≤ v) : hold v = 1125899906842624 := by unfold hold clampI; split <;> (try split) <;> omega
theorem hold_zero {v : Int} (h : v ≤ 0) : hold v = 0 := by unfold hold clampI; split <;> (try split) <;> omega
theorem hold_in {v : Int} (h : 0 ≤ v) (h2 : v ≤ 1125899906842624) : hold v = v := clampI_in h h2
end Go.Proofs.Ytaflhkhfkifefaa.NumM
