/- A ring as lists: what stands in it, one behind the others, one taken out from between. Conditions: each theorem's own. -/
set_option linter.unusedVariables false
namespace Go.Proofs.Ytiffnlcpemfmoaa.QuM
variable {α : Type}
theorem md {n f k : Nat} (hf : f < n) (hk : k < n) : (f + k) % n = if f + k < n then f + k else f + k - n := by
  split
  · exact Nat.mod_eq_of_lt (by assumption)
  · rw [Nat.mod_eq_sub_mod (by omega), Nat.mod_eq_of_lt (by omega)]
theorem md_inj {n f i j : Nat} (hf : f < n) (hi : i < n) (hj : j < n) (h : (f + i) % n = (f + j) % n) : i = j := by
  rw [md hf hi, md hf hj] at h
  split at h <;> split at h <;> omega
/-- From place f on, round about, the places hold L. -/
structure Ring (P : List α) (f : Nat) (L : List α) : Prop where
  f0 : f < P.length
  le : L.length ≤ P.length
  at' : ∀ k x, L[k]? = some x → P[(f + k) % P.length]? = some x
theorem Ring.set {P : List α} {f : Nat} {L : List α} (h : Ring P f L) {k : Nat} (hk : k < L.length) (x : α) : Ring (P.set ((f + k) % P.length) x) f (L.set k x) := by
  have hn := h.f0
  have hle := h.le
  refine ⟨by rw [List.length_set]; exact hn, by rw [List.length_set, List.length_set]; exact hle, fun i y hi => ?_⟩
  have hil : i < L.length := by have := (List.getElem?_eq_some_iff.1 hi).1; rwa [List.length_set] at this
  rw [List.length_set]
  by_cases e : k = i
  · subst e
    rw [List.getElem?_set_self hk] at hi
    rw [List.getElem?_set_self (Nat.mod_lt _ (by omega))]
    exact hi
  · rw [List.getElem?_set_ne e] at hi
    rw [List.getElem?_set_ne (fun e2 => e (md_inj hn (by omega) (by omega) e2))]
    exact h.at' i y hi
theorem Ring.push {P : List α} {f : Nat} {L : List α} (h : Ring P f L) (hl : L.length < P.length) (x : α) : Ring (P.set ((f + L.length) % P.length) x) f (L ++ [x]) := by
  have hn := h.f0
  refine ⟨by rw [List.length_set]; exact hn, by rw [List.length_set, List.length_append]; exact hl, fun i y hi => ?_⟩
  rw [List.length_set]
  rcases Nat.lt_or_ge i L.length with hil | hil
  · rw [List.getElem?_append_left hil] at hi
    rw [List.getElem?_set_ne (fun e2 => by have := md_inj hn hl (by omega) e2; omega)]
    exact h.at' i y hi
  · have hi2 := (List.getElem?_eq_some_iff.1 hi).1
    rw [List.length_append, List.length_singleton] at hi2
    obtain rfl : i = L.length := by omega
    rw [List.getElem?_append_right (Nat.le_refl _), Nat.sub_self] at hi
    rw [List.getElem?_set_self (Nat.mod_lt _ (by omega))]
    exact hi
theorem Ring.tail {P : List α} {f : Nat} {x : α} {L : List α} (h : Ring P f (x :: L)) : Ring P ((f + 1) % P.length) L := by
  have hn := h.f0
  have hle := h.le
  rw [List.length_cons] at hle
  refine ⟨Nat.mod_lt _ (by omega), by omega, fun i y hi => ?_⟩
  have hil := (List.getElem?_eq_some_iff.1 hi).1
  have := h.at' (i + 1) y (by simpa using hi)
  rw [Nat.mod_add_mod, Nat.add_assoc, Nat.add_comm 1 i]
  exact this
theorem Ring.front {P : List α} {f : Nat} {L K : List α} (h : Ring P f (L ++ K)) : Ring P f L := by
  have hle := h.le
  rw [List.length_append] at hle
  refine ⟨h.f0, by omega, fun i y hi => h.at' i y ?_⟩
  have hil := (List.getElem?_eq_some_iff.1 hi).1
  rw [List.getElem?_append_left hil]
  exact hi
/-- All of it in new places. -/
theorem ring_new (L : List α) (z : α) (n : Nat) (h : L.length ≤ n) (h0 : 0 < n) : Ring (L ++ List.replicate (n - L.length) z) 0 L := by
  have hl : (L ++ List.replicate (n - L.length) z).length = n := by rw [List.length_append, List.length_replicate]; omega
  refine ⟨by omega, by omega, fun i y hi => ?_⟩
  have hil := (List.getElem?_eq_some_iff.1 hi).1
  rw [hl, Nat.zero_add, Nat.mod_eq_of_lt (by omega), List.getElem?_append_left hil]
  exact hi
/-- So many are copied. -/
theorem copy_step {L : List α} {z x : α} {n i : Nat} (hi : L[i]? = some x) (hn : L.length ≤ n) :
    (L.take i ++ List.replicate (n - i) z).set i x = L.take (i + 1) ++ List.replicate (n - (i + 1)) z := by
  have hil := (List.getElem?_eq_some_iff.1 hi).1
  have e : (L.take i).length = i := by rw [List.length_take]; omega
  rw [List.set_append_right _ _ (by omega), e, Nat.sub_self, show n - i = (n - (i + 1)) + 1 by omega, List.replicate_succ, List.set_cons_zero, List.take_add_one, hi, Option.toList_some, List.append_assoc]
  rfl
/-- Those ahead of the k-th one moved back by a place, down to j. -/
def fr (L : List α) (k j : Nat) : List α := L.take (j + 1) ++ ((L.drop j).take (k - j) ++ L.drop (k + 1))
theorem fr_self (L : List α) {k : Nat} (hk : k < L.length) : fr L k k = L := by
  unfold fr; rw [Nat.sub_self, List.take_zero, List.nil_append, List.take_append_drop]
theorem fr_len (L : List α) {k j : Nat} (hj : j ≤ k) (hk : k < L.length) : (fr L k j).length = L.length := by
  unfold fr; simp only [List.length_append, List.length_take, List.length_drop]; omega
theorem fr_at (L : List α) {k j : Nat} (hj : j ≤ k) (hk : k < L.length) (i : Nat) : (fr L k j)[i]? = if i ≤ j then L[i]? else if i ≤ k then L[i - 1]? else L[i]? := by
  unfold fr
  by_cases h1 : i ≤ j
  · rw [if_pos h1, List.getElem?_append_left (by rw [List.length_take]; omega), List.getElem?_take, if_pos (by omega)]
  · rw [if_neg h1, List.getElem?_append_right (by rw [List.length_take]; omega), List.length_take, Nat.min_eq_left (by omega)]
    by_cases h2 : i ≤ k
    · rw [if_pos h2, List.getElem?_append_left (by rw [List.length_take, List.length_drop]; omega), List.getElem?_take, if_pos (by omega), List.getElem?_drop]
      congr 1; omega
    · rw [if_neg h2, List.getElem?_append_right (by rw [List.length_take, List.length_drop]; omega), List.length_take, List.length_drop, Nat.min_eq_left (by omega), List.getElem?_drop]
      congr 1; omega
theorem fr_step (L : List α) {k j : Nat} (hj : j + 1 ≤ k) (hk : k < L.length) {x : α} (hx : L[j]? = some x) : (fr L k (j + 1)).set (j + 1) x = fr L k j := by
  apply List.ext_getElem?
  intro i
  by_cases e : j + 1 = i
  · subst e
    rw [List.getElem?_set_self (by rw [fr_len L hj hk]; omega), fr_at L (by omega) hk, if_neg (by omega), if_pos hj, Nat.add_sub_cancel, hx]
  · rw [List.getElem?_set_ne e, fr_at L hj hk, fr_at L (by omega) hk]
    by_cases h1 : i ≤ j
    · rw [if_pos h1, if_pos (by omega)]
    · rw [if_neg h1, if_neg (by omega)]
theorem fr_end (L : List α) {k : Nat} (hk : k < L.length) (z : α) : (fr L k 0).set 0 z = z :: L.eraseIdx k := by
  obtain ⟨x, L', rfl⟩ : ∃ x L', L = x :: L' := by cases L with | nil => simp at hk | cons x L' => exact ⟨x, L', rfl⟩
  unfold fr
  rw [Nat.zero_add, List.take_one, Nat.sub_zero, List.drop_zero, List.eraseIdx_eq_take_drop_succ]
  rfl
/-- Those behind the k-th one moved forward by a place, up to j. -/
def bk (L : List α) (k j : Nat) : List α := L.take k ++ ((L.drop (k + 1)).take (j - k) ++ L.drop j)
theorem bk_self (L : List α) (k : Nat) : bk L k k = L := by
  unfold bk; rw [Nat.sub_self, List.take_zero, List.nil_append, List.take_append_drop]
theorem bk_len (L : List α) {k j : Nat} (hj : k ≤ j) (hk : j < L.length) : (bk L k j).length = L.length := by
  unfold bk; simp only [List.length_append, List.length_take, List.length_drop]; omega
theorem bk_at (L : List α) {k j : Nat} (hj : k ≤ j) (hk : j < L.length) (i : Nat) : (bk L k j)[i]? = if i < k then L[i]? else if i < j then L[i + 1]? else L[i]? := by
  unfold bk
  by_cases h1 : i < k
  · rw [if_pos h1, List.getElem?_append_left (by rw [List.length_take]; omega), List.getElem?_take, if_pos (by omega)]
  · rw [if_neg h1, List.getElem?_append_right (by rw [List.length_take]; omega), List.length_take, Nat.min_eq_left (by omega)]
    by_cases h2 : i < j
    · rw [if_pos h2, List.getElem?_append_left (by rw [List.length_take, List.length_drop]; omega), List.getElem?_take, if_pos (by omega), List.getElem?_drop]
      congr 1; omega
    · rw [if_neg h2, List.getElem?_append_right (by rw [List.length_take, List.length_drop]; omega), List.length_take, List.length_drop, Nat.min_eq_left (by omega), List.getElem?_drop]
      congr 1; omega
theorem bk_step (L : List α) {k j : Nat} (hj : k ≤ j) (hk : j + 1 < L.length) {x : α} (hx : L[j + 1]? = some x) : (bk L k j).set j x = bk L k (j + 1) := by
  apply List.ext_getElem?
  intro i
  by_cases e : j = i
  · subst e
    rw [List.getElem?_set_self (by rw [bk_len L hj (by omega)]; omega), bk_at L (by omega) hk, if_neg (by omega), if_pos (by omega), hx]
  · rw [List.getElem?_set_ne e, bk_at L hj (by omega), bk_at L (by omega) hk]
    by_cases h1 : i < k
    · rw [if_pos h1, if_pos h1]
    · rw [if_neg h1, if_neg h1]
      by_cases h2 : i < j
      · rw [if_pos h2, if_pos (by omega)]
      · rw [if_neg h2, if_neg (by omega)]
theorem bk_end (L : List α) {k : Nat} (hk : k < L.length) (z : α) : (bk L k (L.length - 1)).set (L.length - 1) z = L.eraseIdx k ++ [z] := by
  have hl : (L.eraseIdx k).length = L.length - 1 := List.length_eraseIdx_of_lt hk
  apply List.ext_getElem?
  intro i
  by_cases e : L.length - 1 = i
  · rw [← e, List.getElem?_set_self (by rw [bk_len L (by omega) (by omega)]; omega), List.getElem?_append_right (by omega), hl, Nat.sub_self]
    rfl
  · rw [List.getElem?_set_ne e, bk_at L (by omega) (by omega)]
    rcases Nat.lt_or_ge i (L.length - 1) with h | h
    · rw [List.getElem?_append_left (by omega), List.getElem?_eraseIdx]
      by_cases h1 : i < k
      · rw [if_pos h1, if_pos h1]
      · rw [if_neg h1, if_pos h, if_neg h1]
    · rw [if_neg (by omega), if_neg (by omega), List.getElem?_eq_none (by omega), List.getElem?_eq_none (by rw [List.length_append, hl, List.length_singleton]; omega)]
end Go.Proofs.Ytiffnlcpemfmoaa.QuM
