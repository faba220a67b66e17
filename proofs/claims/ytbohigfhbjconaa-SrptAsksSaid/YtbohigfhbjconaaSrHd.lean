/- The first that is granted stays the first. No dump. Conditions: each theorem's own. -/
import Derived.Test.YtbohigfhbjconaaSrGr
set_option linter.unusedVariables false
namespace Go.Proofs.Ytbohigfhbjconaa.SrM
open SoM
theorem giv_head {l : List M} {s : Int × Got} {p most p0 u0 : Int} {r : Got} (h : s.2 = (p0, u0) :: r) : ∃ u1 r1, (giv l s p most).2 = (p0, u1) :: r1 ∧ u0 ≤ u1 ∧ (p ≠ p0 → u1 = u0) := by
  unfold giv
  by_cases hu : upt l s.1 s.2 p most ≤ cur l s.2 p
  · rw [if_pos hu]; exact ⟨u0, r, h, Int.le_refl _, fun _ => rfl⟩
  · rw [if_neg hu]
    dsimp only
    have hcur : p = p0 → cur l s.2 p = u0 := by
      rintro rfl
      unfold cur
      rw [h]
      simp [keys, ixn]
    generalize upt l s.1 s.2 p most = u at *
    generalize cur l s.2 p = c at *
    unfold putG
    rw [h]
    have hk : keys ((p0, u0) :: r) = p0 :: keys r := rfl
    rw [hk]
    unfold ixn
    by_cases e : p0 = p
    · rw [if_pos e]
      dsimp only
      rw [List.set_cons_zero, ← e]
      have := hcur e.symm
      exact ⟨u, r, rfl, by omega, fun hn => absurd rfl hn⟩
    · rw [if_neg e]
      cases hx : ixn p (keys r) with
      | none => exact ⟨u0, r ++ [(p, u)], rfl, Int.le_refl _, fun _ => rfl⟩
      | some j => exact ⟨u0, r.set j (p, u), rfl, Int.le_refl _, fun _ => rfl⟩
theorem givs_head {l : List M} {most p0 : Int} : ∀ (a : List Int) (s : Int × Got) (u0 : Int) (r : Got), s.2 = (p0, u0) :: r → ∃ u1 r1, (givs l most s a).2 = (p0, u1) :: r1 ∧ u0 ≤ u1 ∧ (p0 ∉ a → u1 = u0) := by
  intro a
  induction a with
  | nil => intro s u0 r h; exact ⟨u0, r, h, Int.le_refl _, fun _ => rfl⟩
  | cons x a ih =>
    intro s u0 r h
    obtain ⟨u1, r1, h1, h2, h3⟩ := giv_head (l := l) (p := x) (most := most) h
    obtain ⟨u2, r2, k1, k2, k3⟩ := ih _ u1 r1 h1
    refine ⟨u2, r2, k1, by omega, fun hn => ?_⟩
    rw [k3 (fun hm => hn (List.mem_cons_of_mem _ hm)), h3 (fun e => hn (by rw [e]; exact List.mem_cons_self))]
/-- No more are told than were asked. -/
theorem giv_len (l : List M) (s : Int × Got) (p most : Int) : (giv l s p most).2.length ≤ s.2.length + 1 := by
  unfold giv
  split
  · omega
  · dsimp only
    unfold putG
    split <;> simp
theorem givs_len (l : List M) (most : Int) : ∀ (a : List Int) (s : Int × Got), (givs l most s a).2.length ≤ s.2.length + a.length := by
  intro a
  induction a with
  | nil => intro s; exact Nat.le_refl _
  | cons x a ih =>
    intro s
    have h1 := ih (giv l s x most)
    have h2 := giv_len l s x most
    show (givs l most (giv l s x most) a).2.length ≤ _
    simp only [List.length_cons]
    omega
/-- The first of all that are granted anything. -/
theorem giv_first {l : List M} {room p most : Int} (h : ¬ upt l room [] p most ≤ (at' l p).g) : (giv l (room, []) p most).2 = [(p, upt l room [] p most)] := by
  have hc : cur l [] p = (at' l p).g := rfl
  unfold giv
  dsimp only
  rw [hc, if_neg h]
  rfl
end Go.Proofs.Ytbohigfhbjconaa.SrM
