/- Messages of which nothing has come: the shortest one first; the law's own list. No dump. Conditions: each theorem's own. -/
import Derived.Test.YtbohigfhbjconaaSrHd
import Derived.Test.YtbohigfhbjconaaSrWho
set_option linter.unusedVariables false
namespace Go.Proofs.Ytbohigfhbjconaa.Sr
open SrM SoM
def sM (i : Nat) (z : Int) : M := ⟨(i : Int) % 8, (i : Int) / 8 + 1, z, 0, 0, (i : Int)⟩
def sL (zs : List Int) (n : Nat) : List M := (List.range n).map fun i => sM i (zs.getD i 0)
theorem sL_len (zs : List Int) (n : Nat) : (sL zs n).length = n := by unfold sL; simp
theorem sL_succ (zs : List Int) (n : Nat) : sL zs (n + 1) = sL zs n ++ [sM n (zs.getD n 0)] := by unfold sL; rw [List.range_succ, List.map_append]; rfl
theorem sL_get {zs : List Int} {n j : Nat} (h : j < n) : (sL zs n)[j]? = some (sM j (zs.getD j 0)) := by unfold sL; rw [List.getElem?_map, List.getElem?_range h]; rfl
theorem sL_at {zs : List Int} {n j : Nat} (h : j < n) : at' (sL zs n) (j : Int) = sM j (zs.getD j 0) := at_is (sL_get h)
def Zs (zs : List Int) (n : Nat) : Prop := ∀ j, j < n → 1 ≤ zs.getD j 0 ∧ zs.getD j 0 ≤ 1073741824
theorem sM_ok {j : Nat} {z : Int} (h : j < 40) (h1 : 1 ≤ z) (h2 : z ≤ 1073741824) : ok (sM j z) = true := by
  unfold ok may
  rw [Bool.and_eq_true, decide_eq_true_eq, decide_eq_true_eq]
  unfold B1 B2 B3 sM
  dsimp only
  omega
theorem sL_ok {zs : List Int} {n j : Nat} (hz : Zs zs n) (hn : n ≤ 40) (h : j < n) : ok (at' (sL zs n) (j : Int)) = true := by
  rw [sL_at h]
  exact sM_ok (by omega) (hz j h).1 (hz j h).2
theorem sL_mem {zs : List Int} {n : Nat} (hz : Zs zs n) (hn : n ≤ 40) {x : Int} : x ∈ opn (sL zs n) (sL zs n).length ↔ ∃ j : Nat, x = (j : Int) ∧ j < n := by
  rw [opn_mem, sL_len]
  constructor
  · rintro ⟨j, e, h, _⟩; exact ⟨j, e, h⟩
  · rintro ⟨j, e, h⟩; exact ⟨j, e, h, sL_ok hz hn h⟩
theorem sL_num {zs : List Int} {n : Nat} (hz : Zs zs n) (hn : n ≤ 40) : (opn (sL zs n) (sL zs n).length).length = n := by
  unfold opn
  rw [List.length_map, sL_len, List.filter_eq_self.2]
  · simp
  · intro j hj
    exact sL_ok hz hn (by simpa using hj)
theorem sL_old {zs : List Int} {n : Nat} (hz : Zs zs n) (hn : n ≤ 40) (h0 : 0 < n) {x : Int} (h : Od (sL zs n) x) : x = 0 := by
  refine Od.one h (Or.inr ⟨(sL_mem hz hn).2 ⟨0, rfl, h0⟩, fun y hy hne => ?_⟩)
  obtain ⟨j, rfl, hj⟩ := (sL_mem hz hn).1 hy
  rw [ltm_iff]
  unfold Ltm
  left
  rw [show (0 : Int) = ((0 : Nat) : Int) from rfl, sL_at h0, sL_at hj]
  unfold key sM
  simp only [if_true]
  omega
/-- Which of two is the shorter one. -/
def Ls (zs : List Int) (a j : Nat) : Prop := zs.getD a 0 < zs.getD j 0 ∨ zs.getD a 0 = zs.getD j 0 ∧ ((a : Int) % 8 < (j : Int) % 8 ∨ (a : Int) % 8 = (j : Int) % 8 ∧ (a : Int) / 8 + 1 < (j : Int) / 8 + 1)
def Best (zs : List Int) (n a : Nat) : Prop := ∀ j, j < n → j ≠ a → Ls zs a j
theorem Best.same {zs : List Int} {i a : Nat} (h : Best zs i a) (hn : ¬ Ls zs i a) (ha : a < i ∨ i = 0 ∧ a = 0) : Best zs (i + 1) a := by
  intro j hj hne
  rcases Nat.lt_or_ge j i with h1 | h1
  · exact h j h1 hne
  · obtain rfl : j = i := by omega
    unfold Ls at hn ⊢
    omega
theorem Best.new {zs : List Int} {i a : Nat} (h : Best zs i a) (hn : Ls zs i a) (ha : a < i ∨ i = 0 ∧ a = 0) : Best zs (i + 1) i := by
  intro j hj hne
  have hji : j < i := by omega
  by_cases e : j = a
  · subst e; exact hn
  · have := h j hji e
    unfold Ls at *
    omega
theorem sL_first {zs : List Int} {n a : Nat} (hz : Zs zs n) (hn : n ≤ 40) (ha : a < n) (hb : Best zs n a) {o : List Int} (h : IsO false (sL zs n) o) : ∃ r, o = (a : Int) :: r ∧ (a : Int) ∉ r := by
  have hm : (a : Int) ∈ o := h.1.mem_iff.2 ((sL_mem hz hn).2 ⟨a, rfl, ha⟩)
  cases o with
  | nil => cases hm
  | cons x r =>
    have hnd := h.nodup
    have hs := List.pairwise_cons.1 h.2
    have e : x = (a : Int) := by
      rcases List.mem_cons.1 hm with e | e
      · exact e.symm
      · have h1 := hs.1 _ e
        obtain ⟨j, rfl, hj⟩ := (sL_mem hz hn).1 (h.1.mem_iff.1 (List.mem_cons_self (a := x) (l := r)))
        by_cases hja : j = a
        · rw [hja]
        · have h2 := hb j hj hja
          rw [ltm_iff] at h1
          unfold Ltm at h1
          rw [sL_at hj, sL_at ha] at h1
          unfold key sM at h1
          simp only [Bool.false_eq_true, if_false] at h1
          unfold Ls at h2
          omega
    subst e
    exact ⟨r, rfl, (List.nodup_cons.1 hnd).1⟩
/-- Along the order nobody is shorter than the one ahead of it. -/
theorem sL_rise {zs : List Int} {n : Nat} (hz : Zs zs n) (hn : n ≤ 40) {o : List Int} (h : IsO false (sL zs n) o) {i : Nat} (hi : i + 1 < o.length) : ∃ p q : Nat, o[i]? = some (p : Int) ∧ o[i + 1]? = some (q : Int) ∧ p < n ∧ q < n ∧ zs.getD p 0 ≤ zs.getD q 0 := by
  have e1 := List.getElem?_eq_getElem (l := o) (i := i) (by omega)
  have e2 := List.getElem?_eq_getElem (l := o) (i := i + 1) hi
  obtain ⟨p, hp, hpn⟩ := (sL_mem hz hn).1 (h.1.mem_iff.1 (List.mem_of_getElem? e1))
  obtain ⟨q, hq, hqn⟩ := (sL_mem hz hn).1 (h.1.mem_iff.1 (List.mem_of_getElem? e2))
  have hlt := List.pairwise_iff_getElem.1 h.2 i (i + 1) (by omega) hi (by omega)
  rw [hp, hq, ltm_iff] at hlt
  unfold Ltm at hlt
  rw [sL_at hpn, sL_at hqn] at hlt
  unfold key sM at hlt
  simp only [Bool.false_eq_true, if_false] at hlt
  exact ⟨p, q, by rw [e1, hp], by rw [e2, hq], hpn, hqn, by omega⟩
theorem sL_ahd {zs : List Int} {n : Nat} (hz : Zs zs n) (hn : n ≤ 40) : ahd (sL zs n) (opn (sL zs n) (sL zs n).length) = 0 := by
  have : ∀ x ∈ (opn (sL zs n) (sL zs n).length).map (fun x => (at' (sL zs n) x).g - (at' (sL zs n) x).h), x = 0 := by
    intro x hx
    obtain ⟨y, hy, rfl⟩ := List.mem_map.1 hx
    obtain ⟨j, rfl, hj⟩ := (sL_mem hz hn).1 hy
    rw [sL_at hj]; rfl
  unfold ahd
  generalize (opn (sL zs n) (sL zs n).length).map (fun x => (at' (sL zs n) x).g - (at' (sL zs n) x).h) = d at this ⊢
  induction d with
  | nil => rfl
  | cons a d ih => rw [List.sum_cons, this a List.mem_cons_self, ih (fun x hx => this x (List.mem_cons_of_mem _ hx))]; rfl
/-- What is told of the shortest one; how many are told. -/
theorem sL_gran {zs : List Int} {n a k : Nat} {budget : Int} (hz : Zs zs n) (hn : n ≤ 40) (ha : a < n) (hb : Best zs n a) (hk : 1 ≤ k) (hkb : (k : Int) ≤ budget) (hb1 : budget ≤ 1073741824) {o : List Int} {old : Int} (h : IsO false (sL zs n) o) :
    ∃ r, gran (sL zs n) o old k budget 0 = ((a : Int) % 8, (a : Int) / 8 + 1, min (zs.getD a 0) (budget / k), 6) :: r ∧ r.length + 1 ≤ min k n := by
  obtain ⟨r, ho, hnr⟩ := sL_first hz hn ha hb h
  have hl := sL_num hz hn
  have hlen : o.length = n := by have := h.1.length_eq; omega
  have hper : 1 ≤ budget / (k : Int) := by
    have := Int.le_ediv_of_mul_le (a := 1) (b := budget) (c := (k : Int)) (by omega) (by omega)
    exact this
  have hper2 : budget / (k : Int) ≤ budget := Int.ediv_le_self _ (by omega)
  have hza := hz a ha
  obtain ⟨k', rfl⟩ : ∃ k', k = k' + 1 := ⟨k - 1, by omega⟩
  have hst : SrM.start (sL zs n) old budget 0 = (budget, []) := by
    unfold SrM.start
    rw [if_neg (by omega), sL_ahd hz hn, show max (budget - 0) 0 = budget by omega]
  have hu : upt (sL zs n) budget [] (a : Int) (budget / ((k' + 1 : Nat) : Int)) = min (zs.getD a 0) (budget / ((k' + 1 : Nat) : Int)) := by
    unfold upt
    have : cur (sL zs n) [] (a : Int) = (at' (sL zs n) (a : Int)).g := rfl
    rw [this, sL_at ha]
    unfold sM
    dsimp only
    omega
  have hg1 : (giv (sL zs n) (budget, []) (a : Int) (budget / ((k' + 1 : Nat) : Int))).2 = [((a : Int), min (zs.getD a 0) (budget / ((k' + 1 : Nat) : Int)))] := by
    rw [giv_first (by rw [hu, sL_at ha]; unfold sM; dsimp only; omega), hu]
  have htk : o.take (k' + 1) = (a : Int) :: r.take k' := by rw [ho, List.take_succ_cons]
  obtain ⟨u1, r1, h1, _, h3⟩ := givs_head (l := sL zs n) (most := budget / ((k' + 1 : Nat) : Int)) (r.take k') _ _ [] hg1
  have h3' := h3 (fun hm => hnr (List.mem_of_mem_take hm))
  subst h3'
  have hgr : (givs (sL zs n) (budget / ((k' + 1 : Nat) : Int)) (SrM.start (sL zs n) old budget 0) (o.take (k' + 1))).2 = ((a : Int), min (zs.getD a 0) (budget / ((k' + 1 : Nat) : Int))) :: r1 := by
    rw [hst, htk]; exact h1
  refine ⟨r1.map (tell (sL zs n) (o.take (k' + 1))), ?_, ?_⟩
  · unfold gran
    rw [hgr, List.map_cons]
    have hpr : prio (o.take (k' + 1)) (a : Int) = 6 := by
      have : ixI (a : Int) (o.take (k' + 1)) = ((0 : Nat) : Int) := ixI_found (by rw [htk]; rfl) (fun k hk => by omega)
      unfold prio
      rw [this]; rfl
    have ht : tell (sL zs n) (o.take (k' + 1)) ((a : Int), min (zs.getD a 0) (budget / ((k' + 1 : Nat) : Int))) = ((a : Int) % 8, (a : Int) / 8 + 1, min (zs.getD a 0) (budget / ((k' + 1 : Nat) : Int)), 6) := by
      unfold tell
      dsimp only
      rw [sL_at ha, hpr]
      rfl
    rw [ht]
  · have h4 := givs_len (sL zs n) (budget / ((k' + 1 : Nat) : Int)) (o.take (k' + 1)) (SrM.start (sL zs n) old budget 0)
    rw [hgr, hst] at h4
    simp only [List.length_cons, List.length_take, List.length_nil] at h4
    rw [List.length_map]
    omega
end Go.Proofs.Ytbohigfhbjconaa.Sr
