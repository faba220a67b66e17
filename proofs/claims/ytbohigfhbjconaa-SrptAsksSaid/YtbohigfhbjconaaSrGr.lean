/- What is granted: the model. No dump. Conditions: each theorem's own. -/
import Derived.Test.YtbohigfhbjconaaSrMath
set_option linter.unusedVariables false
namespace Go.Proofs.Ytbohigfhbjconaa.SrM
open SoM
/-- The first place of a number. -/
def ixn (x : Int) : List Int → Option Nat
  | [] => none
  | y :: r => if y = x then some 0 else (ixn x r).map (· + 1)
def ixI (x : Int) (l : List Int) : Int := match ixn x l with
  | some j => (j : Int)
  | none => -1
theorem ixn_some {x : Int} : ∀ {l : List Int} {j : Nat}, ixn x l = some j ↔ l[j]? = some x ∧ ∀ k, k < j → l[k]? ≠ some x
  | [], j => by simp [ixn]
  | y :: r, j => by
    unfold ixn
    by_cases h : y = x
    · rw [if_pos h]
      subst h
      cases j with
      | zero => simp
      | succ j =>
        constructor
        · intro e; cases e
        · rintro ⟨_, h2⟩; exact absurd rfl (h2 0 (by omega))
    · rw [if_neg h]
      cases j with
      | zero =>
        constructor
        · intro e; cases hr : ixn x r <;> rw [hr] at e <;> cases e
        · rintro ⟨h1, _⟩; simp at h1; exact absurd h1 h
      | succ j =>
        have ih := ixn_some (x := x) (l := r) (j := j)
        constructor
        · intro e
          have e' : ixn x r = some j := by cases hr : ixn x r with
            | none => rw [hr] at e; cases e
            | some q => rw [hr] at e; simp at e; rw [e]
          obtain ⟨h1, h2⟩ := ih.1 e'
          refine ⟨by simpa using h1, fun k hk => ?_⟩
          cases k with
          | zero => simp; exact h
          | succ k => simpa using h2 k (by omega)
        · rintro ⟨h1, h2⟩
          have e' := ih.2 ⟨by simpa using h1, fun k hk => by simpa using h2 (k + 1) (by omega)⟩
          rw [e']; rfl
theorem ixn_none {x : Int} : ∀ {l : List Int}, ixn x l = none ↔ x ∉ l
  | [] => by simp [ixn]
  | y :: r => by
    unfold ixn
    by_cases h : y = x
    · rw [if_pos h]; simp [h]
    · rw [if_neg h, Option.map_eq_none_iff, ixn_none, List.mem_cons]
      constructor
      · rintro h1 (h2 | h2)
        · exact h h2.symm
        · exact h1 h2
      · intro h1 h2; exact h1 (Or.inr h2)
theorem ixI_found {x : Int} {l : List Int} {j : Nat} (h : l[j]? = some x) (h2 : ∀ k, k < j → l[k]? ≠ some x) : ixI x l = (j : Int) := by unfold ixI; rw [ixn_some.2 ⟨h, h2⟩]
theorem ixI_none {x : Int} {l : List Int} (h : ∀ k, k < l.length → l[k]? ≠ some x) : ixI x l = -1 := by
  have : ixn x l = none := ixn_none.2 (fun hm => by obtain ⟨k, hk⟩ := List.getElem?_of_mem hm; exact h k (List.getElem?_eq_some_iff.1 hk).1 hk)
  unfold ixI; rw [this]
def prio (fst : List Int) (p : Int) : Int := if ixI p fst < 0 then 0 else max (6 - ixI p fst) 0
abbrev Got := List (Int × Int)
def keys (got : Got) : List Int := got.map (·.1)
def cur (l : List M) (got : Got) (p : Int) : Int := match ixn p (keys got) with
  | some j => ((got[j]?).getD (0, 0)).2
  | none => (at' l p).g
def upt (l : List M) (room : Int) (got : Got) (p most : Int) : Int := min (min (at' l p).t ((at' l p).h + most)) (cur l got p + room)
def putG (got : Got) (p u : Int) : Got := match ixn p (keys got) with
  | some j => got.set j (p, u)
  | none => got ++ [(p, u)]
def giv (l : List M) (s : Int × Got) (p most : Int) : Int × Got :=
  if upt l s.1 s.2 p most ≤ cur l s.2 p then s else (s.1 - (upt l s.1 s.2 p most - cur l s.2 p), putG s.2 p (upt l s.1 s.2 p most))
/-- What may stand in what was granted. -/
structure GB (l : List M) (s : Int × Got) : Prop where
  r0 : 0 ≤ s.1
  r1 : s.1 ≤ 1099511627776
  nd : (keys s.2).Nodup
  in' : ∀ x ∈ s.2, (∃ j : Nat, x.1 = (j : Int) ∧ j < l.length ∧ ok (at' l (j : Int)) = true) ∧ (at' l x.1).g < x.2 ∧ x.2 ≤ (at' l x.1).t
theorem keys_at {got : Got} {j : Nat} {p : Int} (h : (keys got)[j]? = some p) : ∃ u, got[j]? = some (p, u) := by
  unfold keys at h
  rw [List.getElem?_map] at h
  cases hg : got[j]? with
  | none => rw [hg] at h; cases h
  | some x => rw [hg] at h; simp at h; exact ⟨x.2, by rw [← h]⟩
theorem cur_bd {l : List M} {s : Int × Got} (h : GB l s) {p : Int} (hp : ok (at' l p) = true) : 0 ≤ cur l s.2 p ∧ (at' l p).g ≤ cur l s.2 p ∧ cur l s.2 p ≤ (at' l p).t ∧ (at' l p).t ≤ 1073741824 ∧ 0 ≤ (at' l p).h ∧ (at' l p).h ≤ (at' l p).g := by
  obtain ⟨b1, _, _⟩ := may_bd (ok_may hp).1
  unfold B1 at b1
  unfold cur
  cases hx : ixn p (keys s.2) with
  | none => simp only; omega
  | some j =>
    obtain ⟨u, hu⟩ := keys_at (ixn_some.1 hx).1
    simp only [hu, Option.getD_some]
    have := h.in' (p, u) (List.mem_of_getElem? hu)
    dsimp only at this
    omega
theorem putG_keys (got : Got) (p u : Int) : keys (putG got p u) = if p ∈ keys got then keys got else keys got ++ [p] := by
  unfold putG
  cases hx : ixn p (keys got) with
  | none =>
    rw [if_neg (ixn_none.1 hx)]
    simp [keys]
  | some j =>
    obtain ⟨h1, _⟩ := ixn_some.1 hx
    rw [if_pos (List.mem_of_getElem? h1)]
    obtain ⟨v, hv⟩ := keys_at h1
    unfold keys
    dsimp only
    rw [List.map_set]
    apply List.ext_getElem?
    intro k
    rw [List.getElem?_set]
    by_cases e : j = k
    · subst e
      rw [if_pos rfl]
      have hj := (List.getElem?_eq_some_iff.1 hv).1
      rw [if_pos (by simpa using hj), List.getElem?_map, hv]; rfl
    · rw [if_neg e]
theorem giv_gb {l : List M} {s : Int × Got} (h : GB l s) {p most : Int} (hp : ∃ j : Nat, p = (j : Int) ∧ j < l.length ∧ ok (at' l (j : Int)) = true) (hm : 0 ≤ most) : GB l (giv l s p most) := by
  unfold giv
  by_cases hu : upt l s.1 s.2 p most ≤ cur l s.2 p
  · rw [if_pos hu]; exact h
  · rw [if_neg hu]
    obtain ⟨j, hj, hj2, hj3⟩ := hp
    have hc := cur_bd h (p := p) (by rw [hj]; exact hj3)
    have hr0 := h.r0
    have hr1 := h.r1
    have hle : upt l s.1 s.2 p most ≤ cur l s.2 p + s.1 := by unfold upt; omega
    have hle2 : upt l s.1 s.2 p most ≤ (at' l p).t := by unfold upt; omega
    refine ⟨by dsimp only; omega, by dsimp only; omega, ?_, ?_⟩
    · dsimp only
      rw [putG_keys]
      split
      · exact h.nd
      · rename_i hn
        exact List.nodup_append.2 ⟨h.nd, by simp, fun a ha b hb e => by simp at hb; subst hb; subst e; exact hn ha⟩
    · dsimp only
      intro x hx
      have hx' : x ∈ s.2 ∨ x = (p, upt l s.1 s.2 p most) := by
        unfold putG at hx
        cases hq : ixn p (keys s.2) with
        | none => rw [hq] at hx; simpa using hx
        | some q =>
          rw [hq] at hx
          rcases List.mem_or_eq_of_mem_set hx with e | e
          · exact Or.inl e
          · exact Or.inr e
      rcases hx' with e | e
      · exact h.in' x e
      · subst e
        exact ⟨⟨j, hj, hj2, hj3⟩, by dsimp only; omega, hle2⟩
/-- All that are granted, one behind the other. -/
def givs (l : List M) (most : Int) : Int × Got → List Int → Int × Got
  | s, [] => s
  | s, p :: r => givs l most (giv l s p most) r
theorem givs_app (l : List M) (most : Int) : ∀ (s : Int × Got) (a b : List Int), givs l most s (a ++ b) = givs l most (givs l most s a) b
  | _, [], _ => rfl
  | s, x :: a, b => givs_app l most (giv l s x most) a b
theorem givs_gb {l : List M} {most : Int} (hm : 0 ≤ most) : ∀ (a : List Int) (s : Int × Got), GB l s → (∀ p ∈ a, ∃ j : Nat, p = (j : Int) ∧ j < l.length ∧ ok (at' l (j : Int)) = true) → GB l (givs l most s a) := by
  intro a
  induction a with
  | nil => intro s h _; exact h
  | cons x a ih => intro s h hp; exact ih _ (giv_gb h (hp x List.mem_cons_self) hm) (fun p hq => hp p (List.mem_cons_of_mem _ hq))
/-- A grant as it is told: peer, ID, how far, line. -/
def tell (l : List M) (fst : List Int) (x : Int × Int) : Int × Int × Int × Int := ((at' l x.1).p, (at' l x.1).i, x.2, prio fst x.1)
def start (l : List M) (old budget share : Int) : Int × Got := if 0 ≤ old ∧ 0 < share then giv l (max (budget - ahd l (opn l l.length)) 0, []) old share else (max (budget - ahd l (opn l l.length)) 0, [])
def gran (l : List M) (o : List Int) (old : Int) (k : Nat) (budget share : Int) : List (Int × Int × Int × Int) :=
  (givs l (budget / k) (start l old budget share) (o.take k)).2.map (tell l (o.take k))
theorem start_gb {l : List M} (hl : l.length ≤ 60) {old budget share : Int} (h0 : 0 ≤ budget) (h1 : budget ≤ 1099511627776) (hs : 0 ≤ share) (ho : 0 ≤ old → ∃ j : Nat, old = (j : Int) ∧ j < l.length ∧ ok (at' l (j : Int)) = true) : GB l (start l old budget share) := by
  have hb := ahd_bd (l := l) (o := opn l l.length) ok_of
  have hz : GB l (max (budget - ahd l (opn l l.length)) 0, []) := ⟨by dsimp only; omega, by dsimp only; omega, by simp [keys], by simp⟩
  unfold start
  split
  · rename_i h; exact giv_gb hz (ho h.1) hs
  · exact hz
end Go.Proofs.Ytbohigfhbjconaa.SrM
