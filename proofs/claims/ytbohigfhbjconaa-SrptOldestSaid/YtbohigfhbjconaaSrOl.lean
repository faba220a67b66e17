/- One old, long message and many short ones: the law's own list. No dump. Conditions: each theorem's own. -/
import Derived.Test.YtbohigfhbjconaaSrHd
import Derived.Test.YtbohigfhbjconaaSrWho
set_option linter.unusedVariables false
namespace Go.Proofs.Ytbohigfhbjconaa.Sr
open SrM SoM
def m00 : M := ⟨0, 1, 1073741824, 0, 0, 0⟩
def oM (i : Nat) : M := ⟨1 + (i : Int) % 7, (i : Int) / 7 + 1, 1 + (i : Int), 0, 0, 1 + (i : Int)⟩
def oL (n : Nat) : List M := m00 :: (List.range n).map oM
theorem oL_len (n : Nat) : (oL n).length = n + 1 := by unfold oL; simp
theorem oL_succ (n : Nat) : oL (n + 1) = oL n ++ [oM n] := by unfold oL; rw [List.range_succ, List.map_append]; rfl
theorem oL_0 (n : Nat) : at' (oL n) 0 = m00 := at_is (l := oL n) (k := 0) rfl
theorem oL_at {n j : Nat} (h : j < n) : at' (oL n) ((j + 1 : Nat) : Int) = oM j := at_is (by unfold oL; rw [List.getElem?_cons_succ, List.getElem?_map, List.getElem?_range h]; rfl)
theorem oM_ok {j : Nat} (h : j < 30) : ok (oM j) = true := by
  unfold ok may
  rw [Bool.and_eq_true, decide_eq_true_eq, decide_eq_true_eq]
  unfold B1 B2 B3 oM
  dsimp only
  omega
theorem oL_ok {n j : Nat} (hn : n ≤ 30) (h : j < n + 1) : ok (at' (oL n) (j : Int)) = true := by
  cases j with
  | zero => rw [show ((0 : Nat) : Int) = 0 from rfl, oL_0]; decide
  | succ j => rw [oL_at (by omega)]; exact oM_ok (by omega)
theorem oL_mem {n : Nat} (hn : n ≤ 30) {x : Int} : x ∈ opn (oL n) (oL n).length ↔ ∃ j : Nat, x = (j : Int) ∧ j < n + 1 := by
  rw [opn_mem, oL_len]
  constructor
  · rintro ⟨j, e, h, _⟩; exact ⟨j, e, h⟩
  · rintro ⟨j, e, h⟩; exact ⟨j, e, h, oL_ok hn h⟩
theorem oL_old {n : Nat} (hn : n ≤ 30) {x : Int} (h : Od (oL n) x) : x = 0 := by
  refine Od.one h (Or.inr ⟨(oL_mem hn).2 ⟨0, rfl, by omega⟩, fun y hy hne => ?_⟩)
  obtain ⟨j, rfl, hj⟩ := (oL_mem hn).1 hy
  cases j with
  | zero => exact absurd rfl hne
  | succ j =>
    rw [ltm_iff]
    unfold Ltm
    left
    rw [oL_0, oL_at (by omega)]
    unfold key m00 oM
    simp only [if_true]
    omega
/-- It is the last one of all. -/
theorem oL_last {n k : Nat} (hn : n ≤ 30) (hk : k ≤ n) {o : List Int} (h : IsO false (oL n) o) : (0 : Int) ∉ o.take k := by
  intro hm
  have hlen : o.length = n + 1 := by
    have h1 := h.1.length_eq
    have h2 : (opn (oL n) (oL n).length).length = n + 1 := by
      unfold opn
      rw [List.length_map, oL_len, List.filter_eq_self.2]
      · simp
      · intro j hj
        exact oL_ok hn (by simpa using hj)
    omega
  have e : o = o.take k ++ o.drop k := (List.take_append_drop _ _).symm
  have hd : o.drop k ≠ [] := by intro e2; have := congrArg List.length e2; simp at this; omega
  obtain ⟨y, hy⟩ := List.exists_mem_of_ne_nil _ hd
  have hs := h.2
  rw [e] at hs
  have hlt := (srt_app.1 hs).2.2 0 hm y hy
  obtain ⟨j, rfl, hj, _⟩ := h.mem.1 (List.mem_of_mem_drop hy)
  rw [oL_len] at hj
  cases j with
  | zero =>
    have a := (ord false (oL n)).asy hlt
    rw [show ltm false (oL n) ((0 : Nat) : Int) 0 = ltm false (oL n) 0 ((0 : Nat) : Int) from rfl, hlt] at a
    cases a
  | succ j =>
    rw [ltm_iff] at hlt
    unfold Ltm at hlt
    rw [oL_0, oL_at (by omega)] at hlt
    unfold key m00 oM at hlt
    simp only [Bool.false_eq_true, if_false] at hlt
    omega
/-- What is told of it. -/
theorem oL_gran {n k : Nat} {budget share : Int} (hn : n ≤ 30) (hb : 1 ≤ budget) (hb1 : budget ≤ 1073741824) (hs : 1 ≤ share) (hsb : share ≤ budget) {o : List Int} (h : IsO false (oL n) o) :
    ∃ u q r, gran (oL n) o 0 k budget share = (0, 1, u, q) :: r ∧ min share 1073741824 ≤ u ∧ (k ≤ n → q = 0) := by
  have hz : ahd (oL n) (opn (oL n) (oL n).length) = 0 := by
    have : ∀ x ∈ (opn (oL n) (oL n).length).map (fun x => (at' (oL n) x).g - (at' (oL n) x).h), x = 0 := by
      intro x hx
      obtain ⟨y, hy, rfl⟩ := List.mem_map.1 hx
      obtain ⟨j, rfl, hj⟩ := (oL_mem hn).1 hy
      cases j with
      | zero => rw [show ((0 : Nat) : Int) = 0 from rfl, oL_0]; rfl
      | succ j => rw [oL_at (by omega)]; rfl
    unfold ahd
    generalize (opn (oL n) (oL n).length).map (fun x => (at' (oL n) x).g - (at' (oL n) x).h) = d at this ⊢
    induction d with
    | nil => rfl
    | cons a d ih => rw [List.sum_cons, this a List.mem_cons_self, ih (fun x hx => this x (List.mem_cons_of_mem _ hx))]; rfl
  have hu : upt (oL n) (max (budget - 0) 0) [] 0 share = share := by
    unfold upt
    have : cur (oL n) [] 0 = (at' (oL n) 0).g := rfl
    rw [this, oL_0]
    unfold m00
    dsimp only
    omega
  have h0 : (SrM.start (oL n) 0 budget share).2 = [(0, share)] := by
    unfold SrM.start
    rw [if_pos (by omega), hz, giv_first (by rw [hu, oL_0]; unfold m00; dsimp only; omega), hu]
  obtain ⟨u1, r1, h1, h2, _⟩ := givs_head (l := oL n) (most := budget / (k : Int)) (o.take k) _ share [] h0
  refine ⟨u1, prio (o.take k) 0, r1.map (tell (oL n) (o.take k)), ?_, by omega, fun hk => ?_⟩
  · unfold gran
    rw [h1, List.map_cons]
    have ht : tell (oL n) (o.take k) (0, u1) = (0, 1, u1, prio (o.take k) 0) := by unfold tell; dsimp only; rw [oL_0]; rfl
    rw [ht]
  · have hx : ixI 0 (o.take k) = -1 := by unfold ixI; rw [ixn_none.2 (oL_last hn hk h)]
    unfold prio
    rw [hx]; rfl
end Go.Proofs.Ytbohigfhbjconaa.Sr
