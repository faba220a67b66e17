/- Messages: which may be, which are open, their orders, what is granted. No dump. Conditions: each theorem's own. -/
import Derived.Test.YtbohigfhbjconaaSoMath
set_option linter.unusedVariables false
namespace Go.Proofs.Ytbohigfhbjconaa.SrM
open SoM
/-- A message: peer, ID, total, have, granted, born. -/
structure M where
  p : Int
  i : Int
  t : Int
  h : Int
  g : Int
  b : Int
instance : Inhabited M := ⟨⟨0, 0, 0, 0, 0, 0⟩⟩
/-- It may be. -/
def B1 (m : M) : Prop := 0 ≤ m.h ∧ m.h ≤ m.g ∧ m.g ≤ m.t ∧ m.t ≤ 1073741824
def B2 (m : M) : Prop := 0 ≤ m.p ∧ m.p < 8 ∧ 1 ≤ m.i ∧ m.i ≤ 1152921504606846976
def B3 (m : M) : Prop := 0 ≤ m.b ∧ m.b ≤ 1125899906842624
instance (m : M) : Decidable (B1 m) := by unfold B1; exact inferInstance
instance (m : M) : Decidable (B2 m) := by unfold B2; exact inferInstance
instance (m : M) : Decidable (B3 m) := by unfold B3; exact inferInstance
def may (m : M) : Bool := decide (B1 m ∧ B2 m ∧ B3 m)
/-- It may be, and is not complete. -/
def ok (m : M) : Bool := may m && decide (0 < m.t - m.h)
def at' (l : List M) (x : Int) : M := (l[x.toNat]?).getD default
theorem at_is {l : List M} {k : Nat} {m : M} (h : l[k]? = some m) : at' l (k : Int) = m := by unfold at'; simp [h]
theorem may_bd {m : M} (h : may m = true) : B1 m ∧ B2 m ∧ B3 m := of_decide_eq_true h
theorem ok_may {m : M} (h : ok m = true) : may m = true ∧ m.h < m.t := by
  unfold ok at h
  simp only [Bool.and_eq_true, decide_eq_true_eq] at h
  exact ⟨h.1, by omega⟩
/-- The open ones among the first k. -/
def opn (l : List M) (k : Nat) : List Int := ((List.range k).filter fun (j : Nat) => ok (at' l (Int.ofNat j))).map Int.ofNat
theorem opn_succ (l : List M) (k : Nat) : opn l (k + 1) = opn l k ++ (if ok (at' l (k : Int)) = true then [(k : Int)] else []) := by
  unfold opn
  rw [List.range_succ, List.filter_append, List.map_append]
  congr 1
  by_cases h : ok (at' l (k : Int)) = true
  · rw [if_pos h]; simp [h]
  · rw [if_neg h]; simp [h]
theorem opn_mem {l : List M} {k : Nat} {x : Int} : x ∈ opn l k ↔ ∃ j : Nat, x = (j : Int) ∧ j < k ∧ ok (at' l (j : Int)) = true := by
  unfold opn
  simp only [List.mem_map, List.mem_filter, List.mem_range]
  constructor
  · rintro ⟨j, ⟨h1, h2⟩, rfl⟩; exact ⟨j, rfl, h1, h2⟩
  · rintro ⟨j, rfl, h1, h2⟩; exact ⟨j, ⟨h1, h2⟩, rfl⟩
theorem opn_asc (l : List M) (k : Nat) : (opn l k).Pairwise (· < ·) := by
  unfold opn
  rw [List.pairwise_map]
  refine List.Pairwise.imp ?_ (List.Pairwise.filter _ (List.pairwise_lt_range (n := k)))
  intro a b h
  exact Int.ofNat_lt.2 h
theorem opn_len (l : List M) (k : Nat) : (opn l k).length ≤ k := by
  unfold opn
  rw [List.length_map]
  exact Nat.le_trans (List.length_filter_le _ _) (by simp)
/-- Comparing. -/
def cmpI (a b : Int) : Int := if a < b then -1 else if b < a then 1 else 0
theorem cmpI_is (a b : Int) : cmpI a b = -1 ∧ a < b ∨ cmpI a b = 0 ∧ a = b ∨ cmpI a b = 1 ∧ b < a := by
  unfold cmpI; split
  · exact Or.inl ⟨rfl, by assumption⟩
  · split
    · exact Or.inr (Or.inr ⟨rfl, by assumption⟩)
    · exact Or.inr (Or.inl ⟨rfl, by omega⟩)
def or3 (a b c : Int) : Int := if a = 0 then (if b = 0 then c else b) else a
/-- What counts first: what remains, or when it was born. -/
def key (born : Bool) (m : M) : Int := if born then m.b else m.t - m.h
def cmpM (born : Bool) (x y : M) : Int := or3 (cmpI (key born x) (key born y)) (cmpI x.p y.p) (cmpI x.i y.i)
def cf (born : Bool) (l : List M) (x y : Int) : Int := cmpM born (at' l x) (at' l y)
/-- Which comes first. -/
def Ltm (born : Bool) (l : List M) (x y : Int) : Prop :=
  key born (at' l x) < key born (at' l y) ∨ key born (at' l x) = key born (at' l y) ∧ ((at' l x).p < (at' l y).p ∨ (at' l x).p = (at' l y).p ∧ ((at' l x).i < (at' l y).i ∨ (at' l x).i = (at' l y).i ∧ x < y))
instance (born : Bool) (l : List M) (x y : Int) : Decidable (Ltm born l x y) := by unfold Ltm; exact inferInstance
def ltm (born : Bool) (l : List M) (x y : Int) : Bool := decide (Ltm born l x y)
theorem ltm_iff {born : Bool} {l : List M} {x y : Int} : ltm born l x y = true ↔ Ltm born l x y := decide_eq_true_iff
theorem ord (born : Bool) (l : List M) : Ord (ltm born l) where
  asy {x y} h := by
    have h1 := ltm_iff.1 h
    refine decide_eq_false (fun h2 => ?_)
    unfold Ltm at h1 h2; omega
  tr {x y z} h k := by
    have h1 := ltm_iff.1 h
    have h2 := ltm_iff.1 k
    refine ltm_iff.2 ?_
    unfold Ltm at *; omega
  tri {x y} h := by
    rw [ltm_iff, ltm_iff]
    unfold Ltm; omega
theorem cmpM_neg (born : Bool) (x y : M) : cmpM born x y < 0 ↔ key born x < key born y ∨ key born x = key born y ∧ (x.p < y.p ∨ x.p = y.p ∧ x.i < y.i) := by
  unfold cmpM or3
  rcases cmpI_is (key born x) (key born y) with ⟨h1, h2⟩ | ⟨h1, h2⟩ | ⟨h1, h2⟩ <;> rcases cmpI_is x.p y.p with ⟨h3, h4⟩ | ⟨h3, h4⟩ | ⟨h3, h4⟩ <;> rcases cmpI_is x.i y.i with ⟨h5, h6⟩ | ⟨h5, h6⟩ | ⟨h5, h6⟩ <;>
    (rw [h1]; simp only [h3, h5]; simp; omega)
theorem tells (born : Bool) (l : List M) (x y : Int) (h : x < y) : cf born l y x < 0 ↔ ltm born l y x = true := by
  rw [ltm_iff]
  unfold cf Ltm
  rw [cmpM_neg]
  omega
/-- The order of the open ones. -/
def IsO (born : Bool) (l : List M) (o : List Int) : Prop := o.Perm (opn l l.length) ∧ Srt (ltm born l) o
theorem IsO.one {born : Bool} {l : List M} {o o' : List Int} (h : IsO born l o) (h' : IsO born l o') : o = o' := SoM.one (ord born l) h.2 h'.2 (h.1.trans h'.1.symm)
theorem IsO.mem {born : Bool} {l : List M} {o : List Int} (h : IsO born l o) {x : Int} : x ∈ o ↔ ∃ j : Nat, x = (j : Int) ∧ j < l.length ∧ ok (at' l (j : Int)) = true := by rw [h.1.mem_iff, opn_mem]
theorem IsO.nodup {born : Bool} {l : List M} {o : List Int} (h : IsO born l o) : o.Nodup :=
  h.1.nodup_iff.2 ((opn_asc l l.length).imp (fun h => by omega))
theorem IsO.len {born : Bool} {l : List M} {o : List Int} (h : IsO born l o) : o.length = (opn l l.length).length ∧ o.length ≤ l.length := by
  have := opn_len l l.length
  have := h.1.length_eq
  omega
/-- The sum of what is granted ahead. -/
def ahd (l : List M) (o : List Int) : Int := (o.map fun x => (at' l x).g - (at' l x).h).sum
theorem sum_perm : ∀ {a b : List Int}, a.Perm b → a.sum = b.sum := fun h => by
  induction h with
  | nil => rfl
  | cons x _ ih => simp only [List.sum_cons, ih]
  | swap x y l => simp only [List.sum_cons]; omega
  | trans _ _ h1 h2 => exact h1.trans h2
theorem ahd_perm (l : List M) {a b : List Int} (h : a.Perm b) : ahd l a = ahd l b := sum_perm (h.map _)
theorem ahd_app (l : List M) (a : List Int) (x : Int) : ahd l (a ++ [x]) = ahd l a + ((at' l x).g - (at' l x).h) := by unfold ahd; simp
theorem ahd_bd {l : List M} : ∀ {o : List Int}, (∀ x ∈ o, ok (at' l x) = true) → 0 ≤ ahd l o ∧ ahd l o ≤ 1073741824 * (o.length : Int)
  | [], _ => by unfold ahd; simp
  | x :: o, h => by
    have h1 := ahd_bd (l := l) (o := o) (fun y hy => h y (List.mem_cons_of_mem _ hy))
    obtain ⟨h2, _, _⟩ := may_bd (ok_may (h x List.mem_cons_self)).1
    unfold B1 at h2
    unfold ahd at h1 ⊢
    simp only [List.map_cons, List.sum_cons, List.length_cons]
    omega
theorem ok_of {l : List M} {k : Nat} : ∀ x ∈ opn l k, ok (at' l x) = true := by
  intro x hx
  obtain ⟨j, rfl, _, h⟩ := opn_mem.1 hx
  exact h
end Go.Proofs.Ytbohigfhbjconaa.SrM
