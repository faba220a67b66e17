/- A credit rate as numbers: what an Update makes of it. Plain mathematics, no program. -/
import Derived.Test.YtaflhkhfkifefaaNumMath
namespace Go.Proofs.Ytaflhkhfkifefaa.CrM
open NumM
def cS (s : Int) : Int := clampI s 0 1073741824
def cL (s l : Int) : Int := clampI l 0 (cS s)
def los (s l : Int) : Int := cL s l * 65536 / cS s
def aUp (A : Int) (k : Nat) : Int := if 0 < k then (A + 32768) / 2 else A
def rUp (M R A : Int) : Int := addI (fixI A M) (fixI (65536 - A) R)
def rDn (T R g : Int) : Int := fixI (fixI R (65536 - g)) (65536 + T)
def lim (M R : Int) : Int := clampI R (M / 64) M
def aLim (A : Int) : Int := clampI A 1024 32768
structure St where
  R : Int
  A : Int
  k : Nat
def St.up (M : Int) (x : St) : St := ⟨lim M (rUp M x.R (aUp x.A x.k)), aLim (aUp x.A x.k), x.k + 1⟩
def St.dn (M T g : Int) (x : St) : St := ⟨lim M (rDn T x.R g), aLim (x.A / 2), 0⟩
def St.upd (M T s l : Int) (x : St) : St := if cS s = 0 then x else if los s l ≤ T then x.up M else x.dn M T (los s l)
def St.first (M : Int) : St := ⟨M / 16, 32768, 0⟩
structure Ok (M T : Int) (x : St) : Prop where
  m0 : 65536 ≤ M
  m1 : M ≤ 68719476736
  t0 : 0 ≤ T
  t1 : T ≤ 65536
  r0 : M / 64 ≤ x.R
  r1 : x.R ≤ M
  a0 : 1024 ≤ x.A
  a1 : x.A ≤ 32768
theorem los_bd {s l : Int} (h : cS s ≠ 0) : 0 ≤ cL s l ∧ cL s l ≤ 17179869184 ∧ 0 < cS s ∧ 0 ≤ los s l ∧ los s l ≤ 65536 := by
  have h1 := clampI_bd s (low := 0) (high := 1073741824) (by decide)
  have h0 : 0 < cS s := by unfold cS at *; omega
  have h2 := clampI_bd l (low := 0) (high := cS s) (by omega)
  have h3 : 0 ≤ cL s l ∧ cL s l ≤ cS s := h2
  have h4 : cS s ≤ 1073741824 := by unfold cS; omega
  refine ⟨h3.1, by omega, h0, ?_, ?_⟩
  · exact Int.ediv_nonneg (by omega) (by omega)
  · unfold los
    have : cL s l * 65536 / cS s ≤ cS s * 65536 / cS s := Int.ediv_le_ediv h0 (by omega)
    rw [Int.mul_ediv_cancel_left _ (by omega)] at this
    exact this
theorem aUp_bd {A : Int} {k : Nat} (h : 1024 ≤ A) (h1 : A ≤ 32768) : 1024 ≤ aUp A k ∧ aUp A k ≤ 32768 := by unfold aUp; split <;> omega
theorem lim_bd {M : Int} (R : Int) (h : 65536 ≤ M) : M / 64 ≤ lim M R ∧ lim M R ≤ M := clampI_bd R (by omega)
theorem aLim_bd (A : Int) : 1024 ≤ aLim A ∧ aLim A ≤ 32768 := clampI_bd A (by decide)
theorem Ok.upd {M T : Int} {x : St} (h : Ok M T x) (s l : Int) : Ok M T (x.upd M T s l) := by
  unfold St.upd
  split
  · exact h
  · split
    · exact ⟨h.m0, h.m1, h.t0, h.t1, (lim_bd _ h.m0).1, (lim_bd _ h.m0).2, (aLim_bd _).1, (aLim_bd _).2⟩
    · exact ⟨h.m0, h.m1, h.t0, h.t1, (lim_bd _ h.m0).1, (lim_bd _ h.m0).2, (aLim_bd _).1, (aLim_bd _).2⟩
theorem Ok.first {M T : Int} (h0 : 65536 ≤ M) (h1 : M ≤ 68719476736) (h2 : 0 ≤ T) (h3 : T ≤ 65536) : Ok M T (St.first M) :=
  ⟨h0, h1, h2, h3, by show M / 64 ≤ M / 16; omega, by show M / 16 ≤ M; omega, show (1024:Int) ≤ 32768 by decide, show (32768:Int) ≤ 32768 by decide⟩
theorem upd_k {M T s l : Int} {x : St} : (x.upd M T s l).k ≤ x.k + 1 := by
  unfold St.upd
  split
  · omega
  · split
    · exact Nat.le_refl _
    · exact Nat.zero_le _
end Go.Proofs.Ytaflhkhfkifefaa.CrM
