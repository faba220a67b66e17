/- What is granted keeps the budget: told of a call of Grants. No dump. Conditions: each theorem's own. -/
import Derived.Test.YtbohigfhbjconaaSrBu
import Derived.Test.YtbohigfhbjconaaSrWho
set_option linter.unusedVariables false
namespace Go.Proofs.Ytbohigfhbjconaa.Sr
open SrM SoM
theorem prio_bd (f : List Int) (p : Int) : 0 ≤ prio f p ∧ prio f p ≤ 6 := by
  unfold prio
  split <;> omega
/-- All that is asked of what was granted. -/
theorem bud {l : List M} (hl : l.length ≤ 60) {o : List Int} {old budget share : Int} {k : Nat} (ho : IsO false l o) (hd : Od l old) (hb0 : 0 ≤ budget) (hb1 : budget ≤ 1099511627776) (hs : 0 ≤ share) (hk : 1 ≤ k) :
    ∃ room got, gran l o old k budget share = got.map (tell l (o.take k)) ∧ GB l (room, got) ∧ room + more l got = max (budget - ahd l (opn l l.length)) 0 ∧ got.length ≤ k + 1 := by
  have hop : 0 ≤ old → ∃ j : Nat, old = (j : Int) ∧ j < l.length ∧ ok (at' l (j : Int)) = true := by
    intro h
    rcases hd with ⟨_, e⟩ | ⟨e, _⟩
    · omega
    · exact opn_mem.1 e
  have hg := start_gb hl (budget := budget) (share := share) hb0 hb1 hs hop
  have hper : 0 ≤ budget / (k : Int) := Int.ediv_nonneg hb0 (by omega)
  have hg2 := givs_gb hper (o.take k) _ hg (fun p hp => ho.mem.1 (List.mem_of_mem_take hp))
  have hm := givs_more l (budget / (k : Int)) (o.take k) (SrM.start l old budget share)
  have hlen := givs_len l (budget / (k : Int)) (o.take k) (SrM.start l old budget share)
  have hs1 : (SrM.start l old budget share).1 + more l (SrM.start l old budget share).2 = max (budget - ahd l (opn l l.length)) 0 := by
    unfold SrM.start
    split
    · rw [giv_more]; unfold more; simp
    · unfold more; simp
  have hs2 : (SrM.start l old budget share).2.length ≤ 1 := by
    unfold SrM.start
    split
    · have := giv_len l (max (budget - ahd l (opn l l.length)) 0, []) old share
      simpa using this
    · simp
  refine ⟨(givs l (budget / (k : Int)) (SrM.start l old budget share) (o.take k)).1, (givs l (budget / (k : Int)) (SrM.start l old budget share) (o.take k)).2, rfl, hg2, by rw [hm, hs1], ?_⟩
  rw [List.length_take] at hlen
  omega
/-- No two have one peer and one ID. -/
def Dif (l : List M) : Prop := ∀ i j : Nat, i < l.length → j < l.length → i ≠ j → ¬ ((at' l (i : Int)).p = (at' l (j : Int)).p ∧ (at' l (i : Int)).i = (at' l (j : Int)).i)
theorem lays_pi : ∀ (a : Got) (l : List M) (j : Nat), (∀ x ∈ a, ∃ p : Nat, x.1 = (p : Int) ∧ p < l.length) → (at' (lays l a) (j : Int)).p = (at' l (j : Int)).p ∧ (at' (lays l a) (j : Int)).i = (at' l (j : Int)).i := by
  intro a
  induction a with
  | nil => intro l j _; exact ⟨rfl, rfl⟩
  | cons x a ih =>
    intro l j hp
    obtain ⟨p, e, hpl⟩ := hp x List.mem_cons_self
    obtain ⟨h1, h2⟩ := ih (lay l x) j (fun y hy => by rw [lay_len]; exact hp y (List.mem_cons_of_mem _ hy))
    have h3 := lay_at (j := j) e hpl
    show (at' (lays (lay l x) a) (j : Int)).p = _ ∧ (at' (lays (lay l x) a) (j : Int)).i = _
    rw [h1, h2, h3]
    split
    · rename_i e2
      subst e2
      rw [e]
      exact ⟨rfl, rfl⟩
    · exact ⟨rfl, rfl⟩
/-- The i-th that is granted: where it stands, and what is there before it is laid upon. -/
theorem gb_at {l : List M} {room : Int} {got : Got} (h : GB l (room, got)) {i : Nat} (hi : i < got.length) : ∃ (p : Nat) (u : Int), got[i]? = some ((p : Int), u) ∧ p < l.length ∧ ok (at' l (p : Int)) = true ∧ (at' l (p : Int)).g < u ∧ u ≤ (at' l (p : Int)).t ∧
    at' (lays l (got.take i)) (p : Int) = at' l (p : Int) ∧ lays l (got.take (i + 1)) = (lays l (got.take i)).set p (gr (at' l (p : Int)) u) ∧ ∀ j : Nat, (at' (lays l (got.take i)) (j : Int)).p = (at' l (j : Int)).p ∧ (at' (lays l (got.take i)) (j : Int)).i = (at' l (j : Int)).i := by
  obtain ⟨x, hx⟩ : ∃ x, got[i]? = some x := ⟨_, List.getElem?_eq_getElem hi⟩
  obtain ⟨⟨p, e, hp, ho⟩, h1, h2⟩ := h.in' x (List.mem_of_getElem? hx)
  obtain ⟨x1, u⟩ := x
  dsimp only at e h1 h2
  subst e
  have hall : ∀ x ∈ got.take i, ∃ p : Nat, x.1 = (p : Int) ∧ p < l.length := by
    intro y hy
    obtain ⟨⟨q, e, hq, _⟩, _⟩ := h.in' y (List.mem_of_mem_take hy)
    exact ⟨q, e, hq⟩
  have hno : (p : Int) ∉ keys (got.take i) := by
    intro hm
    have hnd := h.nd
    have e : got = got.take i ++ ((p : Int), u) :: got.drop (i + 1) := by
      obtain ⟨hi', e⟩ := List.getElem?_eq_some_iff.1 hx
      rw [← e, ← List.drop_eq_getElem_cons hi', List.take_append_drop]
    dsimp only at hnd
    rw [e] at hnd
    unfold keys at hnd hm
    rw [List.map_append, List.map_cons] at hnd
    exact (List.nodup_append.1 hnd).2.2 _ hm _ List.mem_cons_self rfl
  have hfar := lays_far (got.take i) l p hall hno
  refine ⟨p, u, hx, hp, ho, h1, h2, hfar, ?_, fun j => lays_pi (got.take i) l j hall⟩
  rw [List.take_add_one, hx]
  show lays l (got.take i ++ [((p : Int), u)]) = _
  rw [lays_app]
  show lay (lays l (got.take i)) ((p : Int), u) = _
  unfold lay
  dsimp only
  rw [hfar]
  rfl
/-- How much is ahead at the end. -/
theorem bud_end {l : List M} {room : Int} {got : Got} {was budget : Int} (h : GB l (room, got)) (hw : ahd l (opn l l.length) = was) (hm : room + more l got = max (budget - was) 0) :
    was ≤ ahd (lays l got) (opn (lays l got) (lays l got).length) ∧ ahd (lays l got) (opn (lays l got) (lays l got).length) ≤ max was budget := by
  have h1 := lays_ahd got l h.nd (fun x hx => by
    obtain ⟨⟨p, e, hp, ho⟩, h1, h2⟩ := h.in' x hx
    exact ⟨p, e, hp, ho, h1, h2⟩)
  have h0 := h.r0
  have hpos : 0 ≤ more l got := by
    unfold more
    have hall : ∀ y ∈ got.map (fun x => x.2 - (at' l x.1).g), 0 ≤ y := by
      intro y hy
      obtain ⟨x, hx, rfl⟩ := List.mem_map.1 hy
      have := (h.in' x hx).2.1
      omega
    generalize got.map (fun x => x.2 - (at' l x.1).g) = d at hall
    induction d with
    | nil => simp
    | cons a d ih => rw [List.sum_cons]; have := hall a List.mem_cons_self; have := ih (fun y hy => hall y (List.mem_cons_of_mem _ hy)); omega
  rw [h1, hw]
  dsimp only at h0
  omega
end Go.Proofs.Ytbohigfhbjconaa.Sr
