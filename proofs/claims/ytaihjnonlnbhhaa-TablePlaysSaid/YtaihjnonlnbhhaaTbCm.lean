/- Sorted rows of cells as lists: where a key stands, put in, taken out. Conditions: each theorem's own. -/
import Derived.Test.YtaihjnonlnbhhaaTbFd
set_option linter.unusedVariables false
namespace Go.Proofs.Ytaihjnonlnbhhaa.TbC
open Go.RowKit Hp TbM TbN TbR TbK TbL Tb
def Srt (l : List Ce) : Prop := l.Pairwise (fun a b => ltK a.1 b.1 = true)
theorem lt_tr {a b c : Ky} (h1 : ltK a b = true) (h2 : ltK b c = true) : ltK a c = true := by
  unfold ltK at *
  rw [decide_eq_true_eq] at *
  omega
theorem Srt.lt {l : List Ce} (h : Srt l) {i j : Nat} {x y : Ce} (hij : i < j) (hx : l[i]? = some x) (hy : l[j]? = some y) : ltK x.1 y.1 = true := by
  obtain ⟨hi, rfl⟩ := List.getElem?_eq_some_iff.1 hx
  obtain ⟨hj, rfl⟩ := List.getElem?_eq_some_iff.1 hy
  exact List.pairwise_iff_getElem.1 h i j hi hj hij
theorem has_yes {k : Ky} {l : List Ce} (h : has k l = true) : ∃ v, l[place k l]? = some (k, v) := by
  unfold has at h
  rw [beq_iff_eq, Option.map_eq_some_iff] at h
  obtain ⟨⟨k', v⟩, h1, h2⟩ := h
  exact ⟨v, by rw [h1]; simp only at h2; rw [h2]⟩
theorem has_no {k : Ky} {l : List Ce} (hs : Srt l) (h : has k l = false) : ∀ v, (k, v) ∉ l := by
  intro v hm
  obtain ⟨j, hj, hx⟩ := List.getElem_of_mem hm
  have hx' : l[j]? = some (k, v) := by rw [List.getElem?_eq_getElem hj, hx]
  rcases Nat.lt_trichotomy j (place k l) with h1 | h1 | h1
  · have := place_lt k l j _ h1 hx'
    rw [lt_irr] at this; cases this
  · unfold has at h
    rw [← h1, hx'] at h
    simp at h
  · have hp : place k l < l.length := by omega
    have h2 := place_at k l _ (List.getElem?_eq_getElem hp)
    have h3 := hs.lt h1 (List.getElem?_eq_getElem hp) hx'
    rw [h2] at h3; cases h3
/-- A key that is not there, put in at its place. -/
def put (k : Ky) (v : ByteArray) (l : List Ce) : List Ce := l.take (place k l) ++ [(k, v)] ++ l.drop (place k l)
theorem put_perm (k : Ky) (v : ByteArray) (l : List Ce) : (put k v l).Perm ((k, v) :: l) := by
  have h := (List.perm_middle (a := (k, v)) (l₁ := l.take (place k l)) (l₂ := l.drop (place k l)))
  rw [List.take_append_drop] at h
  unfold put
  rw [List.append_assoc, List.singleton_append]
  exact h
theorem put_srt {k : Ky} {l : List Ce} (hs : Srt l) (h : has k l = false) (v : ByteArray) : Srt (put k v l) := by
  have hno := has_no hs h
  have hd : ∀ y ∈ l.drop (place k l), ltK k y.1 = true := by
    intro y hy
    obtain ⟨j, hj, hx⟩ := List.getElem_of_mem hy
    have hy' : l[place k l + j]? = some y := by
      rw [← List.getElem?_drop, List.getElem?_eq_getElem hj, hx]
    have hp : place k l < l.length := by rw [List.length_drop] at hj; omega
    have h0 : ltK k (l[place k l]).1 = true := by
      have h2 := place_at k l _ (List.getElem?_eq_getElem hp)
      cases h3 : ltK k (l[place k l]).1 with
      | true => rfl
      | false =>
        have h4 := lt_anti h3 h2
        have h5 : l[place k l] = (k, (l[place k l]).2) := Prod.ext h4.symm rfl
        have h6 : (k, (l[place k l]).2) ∈ l := by rw [← h5]; exact List.getElem_mem hp
        exact absurd h6 (hno _)
    cases j with
    | zero =>
      rw [Nat.add_zero, List.getElem?_eq_getElem hp] at hy'
      rw [← Option.some.inj hy']; exact h0
    | succ j => exact lt_tr h0 (hs.lt (by omega) (List.getElem?_eq_getElem hp) hy')
  have ht : ∀ x ∈ l.take (place k l), ltK x.1 k = true := by
    intro x hx
    obtain ⟨j, hj, hx⟩ := List.getElem_of_mem hx
    rw [List.length_take] at hj
    refine place_lt k l j x (by omega) ?_
    rw [List.getElem_take] at hx
    rw [← hx]
    exact List.getElem?_eq_getElem (by omega)
  unfold Srt put
  rw [List.append_assoc, List.singleton_append, List.pairwise_append]
  refine ⟨List.Pairwise.sublist (List.take_sublist _ _) hs, List.pairwise_cons.2 ⟨hd, List.Pairwise.sublist (List.drop_sublist _ _) hs⟩, ?_⟩
  intro x hx y hy
  rcases List.mem_cons.1 hy with rfl | hy
  · exact ht x hx
  · exact lt_tr (ht x hx) (hd y hy)
/-- One taken out. -/
def out (i : Nat) (l : List Ce) : List Ce := l.take i ++ l.drop (i + 1)
theorem out_perm {i : Nat} {l : List Ce} {x : Ce} (h : l[i]? = some x) : l.Perm (x :: out i l) := by
  obtain ⟨hi, rfl⟩ := List.getElem?_eq_some_iff.1 h
  have e : l = l.take i ++ l[i] :: l.drop (i + 1) := by rw [← List.drop_eq_getElem_cons hi, List.take_append_drop]
  have p := (List.perm_middle (a := l[i]) (l₁ := l.take i) (l₂ := l.drop (i + 1)))
  rw [← e] at p
  exact p
theorem out_srt {l : List Ce} (hs : Srt l) (i : Nat) : Srt (out i l) := by
  unfold Srt out
  refine List.Pairwise.sublist ?_ hs
  conv => rhs; rw [← List.take_append_drop i l]
  refine List.Sublist.append (List.Sublist.refl _) ?_
  rw [← List.drop_drop]
  exact List.drop_sublist _ _
/-- What stands at a key, turned. -/
theorem set_perm {i : Nat} {l : List Ce} (hi : i < l.length) (y : Ce) : (l.set i y).Perm (y :: out i l) := by
  rw [List.set_eq_take_append_cons_drop, if_pos hi]
  exact List.perm_middle
theorem set_srt {l : List Ce} (hs : Srt l) {i : Nat} {k : Ky} {u : ByteArray} (h : l[i]? = some (k, u)) (v : ByteArray) : Srt (l.set i (k, v)) := by
  obtain ⟨hi, he⟩ := List.getElem?_eq_some_iff.1 h
  refine List.pairwise_iff_getElem.2 fun a b ha hb hab => ?_
  rw [List.length_set] at ha hb
  have h1 := List.pairwise_iff_getElem.1 hs a b ha hb hab
  rw [List.getElem_set, List.getElem_set]
  split <;> split
  · omega
  · rename_i e1 e2; subst e1; rw [he] at h1; exact h1
  · rename_i e1 e2; subst e2; rw [he] at h1; exact h1
  · exact h1
end Go.Proofs.Ytaihjnonlnbhhaa.TbC
