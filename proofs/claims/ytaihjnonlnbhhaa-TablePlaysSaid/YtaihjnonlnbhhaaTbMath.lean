/- Slots with open addressing, as lists: searching, filling, freeing, moving; what stands in them. Conditions: each theorem's own. -/
set_option linter.unusedVariables false
namespace Go.Proofs.Ytaihjnonlnbhhaa.TbM
variable {K V : Type}
/-- How far it is from a to b, round about n. -/
def dist (n a b : Nat) : Nat := if a ≤ b then b - a else b + n - a
/-- Where one stands d behind a. -/
def pos (n a d : Nat) : Nat := if a + d < n then a + d else a + d - n
def nxt (n i : Nat) : Nat := if i + 1 < n then i + 1 else 0
theorem dist_lt {n a b : Nat} (ha : a < n) (hb : b < n) : dist n a b < n := by unfold dist; split <;> omega
theorem pos_lt {n a d : Nat} (ha : a < n) (hd : d < n) : pos n a d < n := by unfold pos; split <;> omega
theorem nxt_lt {n i : Nat} (h : i < n) : nxt n i < n := by unfold nxt; split <;> omega
theorem pos_dist {n a b : Nat} (ha : a < n) (hb : b < n) : pos n a (dist n a b) = b := by unfold pos dist; split <;> split <;> omega
theorem dist_pos {n a d : Nat} (ha : a < n) (hd : d < n) : dist n a (pos n a d) = d := by unfold pos dist; split <;> split <;> omega
theorem dist_self (n a : Nat) : dist n a a = 0 := by unfold dist; split <;> omega
theorem pos_zero {n a : Nat} (ha : a < n) : pos n a 0 = a := by unfold pos; split <;> omega
theorem pos_succ {n a d : Nat} (ha : a < n) (hd : d + 1 < n) : pos n a (d + 1) = nxt n (pos n a d) := by unfold pos nxt; split <;> split <;> split <;> omega
theorem dist_inj {n a b c : Nat} (ha : a < n) (hb : b < n) (hc : c < n) (h : dist n a b = dist n a c) : b = c := by
  rw [← pos_dist ha hb, h, pos_dist ha hc]
theorem dist_nxt {n a i : Nat} (ha : a < n) (hi : i < n) (h : nxt n i ≠ a) : dist n a (nxt n i) = dist n a i + 1 := by
  unfold nxt at h ⊢
  unfold dist
  by_cases e : i + 1 < n
  · rw [if_pos e] at h ⊢
    split <;> split <;> omega
  · rw [if_neg e] at h ⊢
    split <;> split <;> omega
/-- What stands in the slots. -/
def kvs (S : List (Option (K × V))) : List (K × V) := S.filterMap id
theorem kvs_nil : kvs ([] : List (Option (K × V))) = [] := rfl
theorem kvs_cons_none (S : List (Option (K × V))) : kvs (none :: S) = kvs S := rfl
theorem kvs_cons_some (x : K × V) (S : List (Option (K × V))) : kvs (some x :: S) = x :: kvs S := rfl
theorem kvs_append (S T : List (Option (K × V))) : kvs (S ++ T) = kvs S ++ kvs T := List.filterMap_append
theorem kvs_free (n : Nat) : kvs (List.replicate n (none : Option (K × V))) = [] := by
  induction n with
  | zero => rfl
  | succ n ih => rw [List.replicate_succ, kvs_cons_none, ih]
theorem kvs_put : ∀ {S : List (Option (K × V))} {i : Nat} {x : K × V}, S[i]? = some none → (kvs (S.set i (some x))).Perm (x :: kvs S)
  | [], i, x, h => by simp at h
  | y :: S, 0, x, h => by
    simp at h; subst h
    exact List.Perm.refl _
  | none :: S, i + 1, x, h => by
    rw [List.set_cons_succ, kvs_cons_none, kvs_cons_none]
    exact kvs_put (by simpa using h)
  | some y :: S, i + 1, x, h => by
    rw [List.set_cons_succ, kvs_cons_some, kvs_cons_some]
    exact ((kvs_put (S := S) (i := i) (x := x) (by simpa using h)).cons y).trans (List.Perm.swap x y _)
theorem mem_kvs {S : List (Option (K × V))} {x : K × V} : x ∈ kvs S ↔ ∃ i : Nat, S[i]? = some (some x) := by
  unfold kvs
  rw [List.mem_filterMap]
  constructor
  · rintro ⟨a, ha, e⟩
    obtain ⟨i, hi, rfl⟩ := List.mem_iff_getElem.1 ha
    exact ⟨i, by rw [List.getElem?_eq_getElem hi]; exact congrArg some e⟩
  · rintro ⟨i, hi⟩
    exact ⟨some x, List.mem_of_getElem? hi, rfl⟩
/-- What is taken out of its slot. -/
theorem kvs_take {S : List (Option (K × V))} {i : Nat} {x : K × V} (h : S[i]? = some (some x)) : (kvs S).Perm (x :: kvs (S.set i none)) := by
  have hl := (List.getElem?_eq_some_iff.1 h).1
  have := kvs_put (S := S.set i none) (i := i) (x := x) (by rw [List.getElem?_set_self hl])
  rwa [List.set_set, show S.set i (some x) = S from by
    apply List.ext_getElem?
    intro j
    rw [List.getElem?_set]
    split
    · rename_i e; subst e; rw [h]
    · rfl] at this
/-- One key stands in one slot. -/
theorem one_slot {S : List (Option (K × V))} (hn : ((kvs S).map Prod.fst).Nodup) {i j : Nat} {k : K} {v u : V} (hi : S[i]? = some (some (k, v))) (hj : S[j]? = some (some (k, u))) : i = j := by
  by_cases e : i = j
  · exact e
  · exfalso
    have hp := (kvs_take hi).map Prod.fst
    have hn' := hp.nodup_iff.1 hn
    rw [List.map_cons, List.nodup_cons] at hn'
    apply hn'.1
    refine List.mem_map.2 ⟨(k, u), mem_kvs.2 ⟨j, ?_⟩, rfl⟩
    rw [List.getElem?_set_ne e]
    exact hj
theorem kvs_len_le : ∀ (S : List (Option (K × V))), (kvs S).length ≤ S.length := fun S => List.length_filterMap_le _ _
/-- Where fewer stand than there are slots, one is free. -/
theorem one_free : ∀ {S : List (Option (K × V))}, (kvs S).length < S.length → ∃ f : Nat, S[f]? = some none
  | [], h => by simp at h
  | none :: S, _ => ⟨0, rfl⟩
  | some y :: S, h => by
    rw [kvs_cons_some, List.length_cons, List.length_cons] at h
    obtain ⟨f, hf⟩ := one_free (S := S) (by omega)
    exact ⟨f + 1, by simpa using hf⟩
theorem free_but : ∀ {S : List (Option (K × V))} {g : Nat}, S[g]? = some none → (kvs S).length + 1 < S.length → ∃ f : Nat, f ≠ g ∧ S[f]? = some none
  | [], g, h, _ => by simp at h
  | none :: S, 0, _, h => by
    rw [kvs_cons_none, List.length_cons] at h
    obtain ⟨f, hf⟩ := one_free (S := S) (by omega)
    exact ⟨f + 1, by omega, by simpa using hf⟩
  | none :: S, g + 1, _, _ => ⟨0, by omega, rfl⟩
  | some y :: S, 0, h, _ => by simp at h
  | some y :: S, g + 1, h0, h => by
    rw [kvs_cons_some, List.length_cons, List.length_cons] at h
    obtain ⟨f, hf1, hf⟩ := free_but (S := S) (g := g) (by simpa using h0) (by omega)
    exact ⟨f + 1, by omega, by simpa using hf⟩
/-- A slot that is taken. -/
def Filled (S : List (Option (K × V))) (p : Nat) : Prop := ∃ x, S[p]? = some (some x)
/-- Each one is found by a search that goes over taken slots alone, or over one of the holes. -/
def Path (H : K → Nat) (hole : Nat → Prop) (S : List (Option (K × V))) : Prop :=
  ∀ j k v, S[j]? = some (some (k, v)) → ∀ d, d < dist S.length (H k) j → Filled S (pos S.length (H k) d) ∨ hole (pos S.length (H k) d)
def none_ : Nat → Prop := fun _ => False
theorem path_free (H : K → Nat) (n : Nat) : Path H none_ (List.replicate n (none : Option (K × V))) := by
  intro j k v h
  rw [List.getElem?_replicate] at h
  split at h <;> cases h
theorem lt_of_some {α : Type} {S : List α} {i : Nat} {x : α} (h : S[i]? = some x) : i < S.length := (List.getElem?_eq_some_iff.1 h).1
theorem not_filled {S : List (Option (K × V))} {f : Nat} (h : S[f]? = some none) : ¬ Filled S f := by
  rintro ⟨x, hx⟩; rw [hx] at h; cases h
/-- A search that came to a free slot over others of other keys: the key is nowhere. -/
theorem nowhere {H : K → Nat} {S : List (Option (K × V))} (hP : Path H none_ S) {k : K} (hH : H k < S.length) {d : Nat}
    (hb : ∀ e, e < d → ∃ k' u, k' ≠ k ∧ S[pos S.length (H k) e]? = some (some (k', u))) (hf : S[pos S.length (H k) d]? = some none) : ∀ v, (k, v) ∉ kvs S := by
  intro v hv
  obtain ⟨j, hj⟩ := mem_kvs.1 hv
  have hjl := lt_of_some hj
  have hjd := pos_dist hH hjl
  rcases Nat.lt_trichotomy (dist S.length (H k) j) d with h | h | h
  · obtain ⟨k', u, hne, e⟩ := hb _ h
    rw [hjd, hj] at e
    cases e; exact hne rfl
  · rw [← h, hjd, hj] at hf; cases hf
  · rcases hP j k v hj d h with h' | h'
    · exact not_filled hf h'
    · exact h'
/-- One more is put where its search ends. -/
theorem path_put {H : K → Nat} {S : List (Option (K × V))} (hP : Path H none_ S) {k : K} {v : V} {i : Nat} (hi : S[i]? = some none) (hb : ∀ d, d < dist S.length (H k) i → Filled S (pos S.length (H k) d)) :
    Path H none_ (S.set i (some (k, v))) := by
  have up : ∀ p, Filled S p → Filled (S.set i (some (k, v))) p := by
    rintro p ⟨x, hx⟩
    have hne : i ≠ p := by intro e; subst e; rw [hx] at hi; cases hi
    exact ⟨x, by rw [List.getElem?_set_ne hne]; exact hx⟩
  intro j k' u hj d hd
  rw [List.length_set] at hd ⊢
  by_cases e : i = j
  · subst e
    rw [List.getElem?_set_self (lt_of_some hi)] at hj
    cases hj
    exact Or.inl (up _ (hb d hd))
  · rw [List.getElem?_set_ne e] at hj
    rcases hP j k' u hj d hd with h | h
    · exact Or.inl (up _ h)
    · exact Or.inr h
/-- While a slot is freed: what has been looked at does not lead over the hole; a free slot lies ahead. -/
structure Freeing (H : K → Nat) (T : List (Option (K × V))) (hole i f : Nat) : Prop where
  hole_lt : hole < T.length
  i_lt : i < T.length
  gone : T[hole]? = some none
  apart : i ≠ hole
  path : Path H (fun p => p = hole) T
  seen : ∀ j k v, T[j]? = some (some (k, v)) → dist T.length hole j < dist T.length hole i → dist T.length (H k) j < dist T.length hole j
  free : T[f]? = some none
  other : f ≠ hole
  ahead : dist T.length hole i + dist T.length i f = dist T.length hole f
/-- At its start. -/
theorem freeing_start {H : K → Nat} {S : List (Option (K × V))} (hP : Path H none_ S) {hole : Nat} (hl : hole < S.length) {f : Nat} (hf : (S.set hole none)[f]? = some none) (hne : f ≠ hole) :
    Freeing H (S.set hole none) hole (nxt S.length hole) f := by
  have hfl := lt_of_some hf
  rw [List.length_set] at hfl
  have hn : nxt S.length hole ≠ hole := by unfold nxt; split <;> omega
  refine ⟨by simpa using hl, by simpa using nxt_lt hl, List.getElem?_set_self hl, hn, ?_, ?_, hf, hne, ?_⟩
  · intro j k v hj d hd
    rw [List.length_set] at hd ⊢
    have hjn : hole ≠ j := by intro e; subst e; rw [List.getElem?_set_self hl] at hj; cases hj
    rw [List.getElem?_set_ne hjn] at hj
    by_cases e : pos S.length (H k) d = hole
    · exact Or.inr e
    · rcases hP j k v hj d hd with ⟨x, hx⟩ | h
      · exact Or.inl ⟨x, by rw [List.getElem?_set_ne (fun e' => e e'.symm)]; exact hx⟩
      · exact h.elim
  · intro j k v hj h
    rw [List.length_set] at h ⊢
    rw [dist_nxt hl hl hn, dist_self] at h
    have e : dist S.length hole j = 0 := by omega
    have hjl := lt_of_some hj
    rw [List.length_set] at hjl
    have : hole = j := dist_inj (n := S.length) hl hl hjl (by rw [dist_self, e])
    subst this
    rw [List.getElem?_set_self hl] at hj; cases hj
  · rw [List.length_set]
    unfold nxt dist
    split <;> split <;> split <;> split <;> omega
theorem Freeing.f_lt {H : K → Nat} {T : List (Option (K × V))} {hole i f : Nat} (h : Freeing H T hole i f) : f < T.length := lt_of_some h.free
/-- It ends at a free slot. -/
theorem Freeing.done {H : K → Nat} {T : List (Option (K × V))} (hH : ∀ k, H k < T.length) {hole i f : Nat} (h : Freeing H T hole i f) (hi : T[i]? = some none) : Path H none_ T := by
  intro j k v hj d hd
  rcases h.path j k v hj d hd with h1 | h1
  · exact Or.inl h1
  · exfalso
    have hjl := lt_of_some hj
    have hk := hH k
    have hdl : d < T.length := Nat.lt_trans hd (dist_lt hk hjl)
    have hdd := dist_pos hk hdl
    rw [h1] at hdd
    have hh := h.hole_lt
    have hil := h.i_lt
    -- the hole lies on the way from its home to j
    have hsum : dist T.length (H k) j = d + dist T.length hole j := by
      rw [← hdd] at hd ⊢
      revert hd
      unfold dist
      split <;> split <;> split <;> omega
    rcases Nat.lt_trichotomy (dist T.length hole j) (dist T.length hole i) with h2 | h2 | h2
    · have := h.seen j k v hj h2
      omega
    · have := dist_inj hh hjl hil h2
      subst this
      rw [hi] at hj; cases hj
    · -- the free slot lies on that way, too
      have hd2 : d + dist T.length hole i < dist T.length (H k) j := by omega
      have hp : pos T.length (H k) (d + dist T.length hole i) = i := by
        have hlt := dist_lt hk hjl
        have e : dist T.length (H k) i = d + dist T.length hole i := by
          rw [← hdd] at hd2 hsum ⊢
          revert hd2 hsum
          have := dist_lt hh hil
          unfold dist at *
          split <;> split <;> split <;> split <;> split <;> omega
        rw [← e, pos_dist hk hil]
      rcases h.path j k v hj _ hd2 with h3 | h3
      · rw [hp] at h3; exact not_filled hi h3
      · rw [hp] at h3; exact h.apart h3
theorem Freeing.next {H : K → Nat} {T : List (Option (K × V))} {hole i f : Nat} (h : Freeing H T hole i f) {k : K} {v : V} (hi : T[i]? = some (some (k, v))) :
    nxt T.length i ≠ hole ∧ dist T.length (nxt T.length i) f + 1 = dist T.length i f ∧ dist T.length hole (nxt T.length i) + dist T.length (nxt T.length i) f = dist T.length hole f := by
  have hne : i ≠ f := by intro e; subst e; have := h.free; rw [hi] at this; cases this
  have h1 := h.ahead
  have h2 := h.hole_lt
  have h3 := h.i_lt
  have h4 := h.f_lt
  have h5 := h.apart
  have h6 := h.other
  revert h1
  unfold nxt dist
  split <;> split <;> split <;> split <;> split <;> (try split) <;> omega
/-- One that may stay. -/
theorem Freeing.stay {H : K → Nat} {T : List (Option (K × V))} {hole i f : Nat} (h : Freeing H T hole i f) {k : K} {v : V} (hi : T[i]? = some (some (k, v))) (hs : dist T.length (H k) i < dist T.length hole i) :
    Freeing H T hole (nxt T.length i) f := by
  obtain ⟨n1, n2, n3⟩ := h.next hi
  refine ⟨h.hole_lt, nxt_lt h.i_lt, h.gone, n1, h.path, ?_, h.free, h.other, n3⟩
  intro j k' u hj hlt
  rw [dist_nxt h.hole_lt h.i_lt n1] at hlt
  rcases Nat.lt_or_ge (dist T.length hole j) (dist T.length hole i) with h1 | h1
  · exact h.seen j k' u hj h1
  · have : j = i := dist_inj h.hole_lt (lt_of_some hj) h.i_lt (by omega)
    subst this
    rw [hi] at hj
    cases hj
    exact hs
/-- One that moves up into the hole. -/
theorem Freeing.move {H : K → Nat} {T : List (Option (K × V))} (hH : ∀ k, H k < T.length) {hole i f : Nat} (h : Freeing H T hole i f) {k : K} {v : V} (hi : T[i]? = some (some (k, v))) (hs : dist T.length hole i ≤ dist T.length (H k) i) :
    Freeing H ((T.set hole (some (k, v))).set i none) i (nxt T.length i) f := by
  obtain ⟨n1, n2, n3⟩ := h.next hi
  have hh := h.hole_lt
  have hil := h.i_lt
  have hk := hH k
  have hfne : f ≠ i := by intro e; subst e; have := h.free; rw [hi] at this; cases this
  have hni : nxt T.length i ≠ i := by unfold nxt; have := h.apart; split <;> omega
  have up : ∀ p, Filled T p ∨ p = hole → Filled ((T.set hole (some (k, v))).set i none) p ∨ p = i := by
    intro p hp
    by_cases e : p = i
    · exact Or.inr e
    · left
      unfold Filled
      rw [List.getElem?_set_ne (fun e' => e e'.symm)]
      rcases hp with ⟨x, hx⟩ | rfl
      · have : hole ≠ p := by intro e'; subst e'; rw [h.gone] at hx; cases hx
        exact ⟨x, by rw [List.getElem?_set_ne this]; exact hx⟩
      · exact ⟨_, List.getElem?_set_self hh⟩
  refine ⟨by simpa using hil, by simpa using nxt_lt hil, List.getElem?_set_self (by simpa using hil), hni, ?_, ?_, ?_, hfne, ?_⟩
  · intro j k' u hj d hd
    rw [List.length_set, List.length_set] at hd ⊢
    have hji : i ≠ j := by intro e; subst e; rw [List.getElem?_set_self (by simpa using hil)] at hj; cases hj
    rw [List.getElem?_set_ne hji] at hj
    by_cases e : hole = j
    · subst e
      rw [List.getElem?_set_self hh] at hj
      cases hj
      have hd2 : d < dist T.length (H k) i := by
        revert hd hs
        unfold dist
        split <;> split <;> split <;> omega
      exact up _ (h.path i k v hi d hd2)
    · rw [List.getElem?_set_ne e] at hj
      exact up _ (h.path j k' u hj d hd)
  · intro j k' u hj hlt
    rw [List.length_set, List.length_set] at hlt ⊢
    exfalso
    rw [dist_nxt hil hil hni, dist_self] at hlt
    have hjl := lt_of_some hj
    rw [List.length_set, List.length_set] at hjl
    have : i = j := dist_inj hil hil hjl (by rw [dist_self]; omega)
    subst this
    rw [List.getElem?_set_self (by simpa using hil)] at hj; cases hj
  · rw [List.getElem?_set_ne (fun e => hfne e.symm), List.getElem?_set_ne (fun e => h.other e.symm)]
    exact h.free
  · rw [List.length_set, List.length_set, dist_nxt hil hil hni, dist_self]
    omega
theorem Freeing.same {H : K → Nat} {T : List (Option (K × V))} {hole i f : Nat} (h : Freeing H T hole i f) {k : K} {v : V} (hi : T[i]? = some (some (k, v))) : (kvs ((T.set hole (some (k, v))).set i none)).Perm (kvs T) := by
  have h1 : (kvs T).Perm ((k, v) :: kvs (T.set i none)) := kvs_take hi
  have h2 : (kvs ((T.set i none).set hole (some (k, v)))).Perm ((k, v) :: kvs (T.set i none)) := kvs_put (by rw [List.getElem?_set_ne h.apart]; exact h.gone)
  rw [List.set_comm _ _ h.apart] at h2
  exact h2.trans h1.symm
end Go.Proofs.Ytaihjnonlnbhhaa.TbM
