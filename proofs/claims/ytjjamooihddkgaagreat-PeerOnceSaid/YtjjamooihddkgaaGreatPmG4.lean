/- Rising numbers: one more, one less, those below one, those behind the first; in little memory. Conditions: each theorem's own. -/
import Derived.Test.YtjjamooihddkgaaGreatPmG3
import Derived.Test.YtjjamooihddkgaaGreatPmG2
import Derived.WalkKit
import Derived.Outline
import Derived.Deep.QuietTactic
import Derived.BigQuiet
import Derived.Laws.Bits64
import Derived.ProofKit
import Derived.Deep.RegionLaw
import Derived.Deep.CutBlock
import Derived.Deep.RegionWith
import Derived.Deep.RegionHeld3
import Derived.Deep.DeepCutAuto
import Derived.WalkLawsBesides
import Derived.StillTailTactics
import Derived.Deep.DrawnRows
import Derived.Deep.LoopGhost
import Derived.Laws.StructEq
import Derived.Deep.MidRow
set_option linter.unusedVariables false
set_option linter.unusedSimpArgs false
namespace Go.Proofs.YtjjamooihddkgaaGreat.Pn
open Go.RowKit Hp IdM Ro
attribute [local go_sem ↓] Go.wp_at_zero Go.wp_at_succ
theorem sl {w : World} {v : Value} {l : List Int} (h : Row nT w v l) : ∃ a n c, v = .slice a n c := by
  obtain ⟨a, c, e, h1, h2⟩ := h.slice
  exact ⟨a, _, c, e⟩
set_option maxHeartbeats 2000000 in
theorem fitted_any {w : World} {v : Value} {l : List Int} (h : Row nT w v l) (hsm : l.length ≤ 900000) : Calls Tryz.prog 76 #[v] w (PutP w v l) := by
  unfold PutP
  obtain ⟨a, c, rfl, h1, h2⟩ := h.slice
  unfold maxLen at h2
  have HR := Lib.hid h
  have hS := h.src
  have hN := Row.none nT w
  have hw : IntKind.i64.wrap (4 * ((l.length : Nat) : Int)) = 4 * ((l.length : Nat) : Int) := by rw [IntKind.wrap_i64]; omega
  obtain ⟨n, hn⟩ : ∃ n, l.length = n := ⟨_, rfl⟩
  have hsm0 := hsm
  rw [hn] at h1 hS hw hsm HR ⊢
  clear h
  have HN := Lib.hid hn
  clear hn
  rcases Nat.lt_or_ge (4 * n) c with hlt | hge
  · have g1 : 4 * (n : Int) < (c : Int) := by omega
    go_enter Tryz.func76, Tryz.ntmps76
    go_wp2_with (at_builtin; refine wpList_app nT rfl _ _ rfl (v := .slice none 0 0) (K := []) rfl hN rfl hS (by simp; omega) ?_; intro v' w' hA)
    go_ret
    refine ⟨_, rfl, hA.row, hA.kept.mono (fun k _ e => by cases e), fun g hg => ?_⟩
    rcases hA.lies g hg with e | e
    · cases e
    · exact Or.inr e
  · have g1 : ¬ (4 * (n : Int) < (c : Int)) := by omega
    go_enter Tryz.func76, Tryz.ntmps76
    go_wp2_with fail
    go_ret
    exact ⟨_, rfl, HR.out, Kept.refl _ _, fun g hg => Or.inl hg⟩
theorem apd_then {w w1 w2 : World} {v v1 v2 : Value} {l1 l2 : List Int} (h1 : Apd nT w v l1 v1 w1) (h2 : Apd nT w1 v1 l2 v2 w2) : Apd nT w v l2 v2 w2 := by
  refine ⟨h2.row, h1.kept.trans' h2.kept (fun i hi e => ?_), fun g hg => ?_⟩
  · rcases h1.lies i e with h | h
    · exact h
    · omega
  · rcases h2.lies g hg with h | h
    · exact h1.lies g h
    · right; have := h1.kept.size; omega
/-- What lies ahead of a number and what behind it. -/
theorem place_split {id : Int} {A B : List Int} (ha : Asc (A ++ id :: B)) : place id (A ++ id :: B) = A.length ∧ has id (A ++ id :: B) = true := by
  have hp : A.length = place id (A ++ id :: B) := place_is ha (by rw [List.length_append]; omega) (fun i x hi hx => by
      rw [List.getElem?_append_left hi] at hx
      have := List.pairwise_append.1 ha
      exact this.2.2 x (List.mem_of_getElem? hx) id (List.mem_cons_self ..)) (fun x hx => by
      rw [List.getElem?_append_right (Nat.le_refl _), Nat.sub_self] at hx
      cases hx; omega)
  refine ⟨hp.symm, ?_⟩
  unfold has
  rw [← hp, List.getElem?_append_right (Nat.le_refl _), Nat.sub_self]
  simp
set_option maxHeartbeats 2000000 in
theorem with_any {w : World} {v : Value} {l : List Int} (h : Row nT w v l) (ha : Asc l) (hsm : l.length ≤ 900000) (id : Int) : Calls Tryz.prog 43 #[v, .int .u64 id] w (PutP w v (ins id l)) := by
  have S := Lib.hid (search_eq h ha (by omega) id)
  have k1 := (Kept.refl (fun _ => False) w).alloc (.cells [.int .u64 id].toArray 22)
  have hb := Blk.new w [.int .u64 id] 22
  have I := ins_any (i := place id l) (h.old k1) (place_le id l) hb (fun e => by have := h.lt _ e; omega) hsm
  have HI := Lib.hid I
  have HK := Lib.hid k1
  obtain ⟨a, c, rfl, _, _⟩ := h.slice
  clear h ha I k1 hb
  generalize l.length = n at *
  go_enter Tryz.func43, Tryz.ntmps43
  go_wp2_with fail
  with_reducible refine Calls.mono S.out ?_
  rintro e w1 ⟨rfl, rfl⟩
  go_wp2_with fail
  with_reducible refine Calls.mono HI.out ?_
  rintro e w2 ⟨v', rfl, hA⟩
  obtain ⟨a', n', c', rfl⟩ := sl hA.row
  have HA := Lib.hid hA
  clear hA
  go_wp2_with fail
  go_ret
  exact ⟨_, rfl, HA.out.row, (HK.out.mono (fun _ _ f => f.elim)).trans HA.out.kept, fun g hg => by
    rcases HA.out.lies g hg with e | e
    · exact Or.inl e
    · right; have := HK.out.size; omega⟩
set_option maxHeartbeats 2000000 in
theorem without_any {w : World} {v : Value} {A B : List Int} {id : Int} (h : Row nT w v (A ++ id :: B)) (ha : Asc (A ++ id :: B)) (hsm : (A ++ id :: B).length ≤ 900000) : Calls Tryz.prog 47 #[v, .int .u64 id] w (PutP w v (A ++ B)) := by
  have S := search_eq h ha (by omega) id
  obtain ⟨e1, e2⟩ := place_split ha
  rw [e1, e2] at S
  have HS := Lib.hid S
  have D := Lib.hid (del_any (X := [id]) h hsm)
  have hl : (A ++ id :: B).length = A.length + B.length + 1 := by rw [List.length_append, List.length_cons]; omega
  have hl2 : (A ++ B).length = A.length + B.length := List.length_append
  have FT := Lib.hid fun (w1 : World) (v1 : Value) (h1 : Row nT w1 v1 (A ++ B)) => fitted_any h1 (by omega)
  obtain ⟨a, c, rfl, _, _⟩ := h.slice
  have hw : IntKind.i64.wrap ((A.length : Int) + 1) = (A.length : Int) + 1 := by rw [IntKind.wrap_i64]; omega
  have D' : Hid (Calls Tryz.prog 75 #[.slice a (A ++ id :: B).length c, .int .i64 (A.length : Int), .int .i64 ((A.length : Int) + 1)] w (PutP w (.slice a (A ++ id :: B).length c) (A ++ B))) := D
  clear h ha S e1 e2 D hl hl2
  generalize (A ++ id :: B).length = n at *
  generalize A.length = m at *
  go_enter Tryz.func47, Tryz.ntmps47
  go_wp2_with fail
  with_reducible refine Calls.mono HS.out ?_
  rintro e w1 ⟨rfl, rfl⟩
  go_wp2_with fail
  with_reducible refine Calls.mono D'.out ?_
  rintro e w2 ⟨v', rfl, hA⟩
  obtain ⟨a', n', c', rfl⟩ := sl hA.row
  have F := Lib.hid (FT.out _ _ hA.row)
  have HA := Lib.hid hA
  clear hA
  go_wp2_with fail
  with_reducible refine Calls.mono F.out ?_
  rintro e w3 ⟨v2, rfl, hA2⟩
  obtain ⟨a2, n2, c2, rfl⟩ := sl hA2.row
  have HA2 := Lib.hid hA2
  clear hA2
  go_wp2_with fail
  go_ret
  exact ⟨_, rfl, apd_then HA.out HA2.out⟩
set_option maxHeartbeats 2000000 in
theorem behind_any {w : World} {v : Value} {X B : List Int} (h : Row nT w v (X ++ B)) (hsm : (X ++ B).length ≤ 900000) : Calls Tryz.prog 98 #[v, .int .i64 (X.length : Int)] w (PutP w v B) := by
  have D : Hid (Calls Tryz.prog 75 #[v, .int .i64 0, .int .i64 (X.length : Int)] w (PutP w v B)) := by
    have := del_any (A := []) h hsm
    rw [List.length_nil, Int.natCast_zero, Int.zero_add] at this
    exact Lib.hid this
  have hl : (X ++ B).length = X.length + B.length := List.length_append
  have FT := Lib.hid fun (w1 : World) (v1 : Value) (h1 : Row nT w1 v1 B) => fitted_any h1 (by omega)
  obtain ⟨a, c, rfl, _, _⟩ := h.slice
  clear h hl
  generalize (X ++ B).length = n at *
  generalize X.length = m at *
  go_enter Tryz.func98, Tryz.ntmps98
  go_wp2_with fail
  with_reducible refine Calls.mono D.out ?_
  rintro e w2 ⟨v', rfl, hA⟩
  obtain ⟨a', n', c', rfl⟩ := sl hA.row
  have F := Lib.hid (FT.out _ _ hA.row)
  have HA := Lib.hid hA
  clear hA
  go_wp2_with fail
  with_reducible refine Calls.mono F.out ?_
  rintro e w3 ⟨v2, rfl, hA2⟩
  obtain ⟨a2, n2, c2, rfl⟩ := sl hA2.row
  have HA2 := Lib.hid hA2
  clear hA2
  go_wp2_with fail
  go_ret
  exact ⟨_, rfl, apd_then HA.out HA2.out⟩
/-- Those below one: the same memory. -/
theorem below_any {w : World} {a : Option Addr} {c : Nat} {l : List Int} (h : Row nT w (.slice a l.length c) l) (ha : Asc l) (hsm : l.length ≤ 900000) (id : Int) : Calls Tryz.prog 96 #[.slice a l.length c, .int .u64 id] w fun e w' => e = .returned (.slice a (place id l) c) ∧ w = w' := by
  have S := Lib.hid (search_eq h ha (by omega) id)
  have hp := place_le id l
  have hc : l.length ≤ c := by obtain ⟨_, _, e, h1, _⟩ := h.slice; obtain ⟨_, _, rfl⟩ := Value.slice.inj e; exact h1
  have h0 : a = none → c = 0 := by
    intro e
    rcases h with ⟨e2, _⟩ | ⟨g, o, cap, cur, e2, _⟩
    · exact (Value.slice.inj e2).2.2
    · rw [e] at e2; cases (Value.slice.inj e2).1
  have hone : ∀ x, a = some x → x.spot = none := by
    intro x e
    rcases h with ⟨e2, _⟩ | ⟨g, o, cap, cur, e2, _⟩
    · rw [e] at e2; cases (Value.slice.inj e2).1
    · rw [e] at e2; cases (Value.slice.inj e2).1; rfl
  clear h ha
  generalize l.length = n at *
  generalize place id l = p at *
  have hpc : p ≤ c := by omega
  rcases a with _ | ⟨g, o, s⟩
  · obtain rfl := h0 rfl
    obtain rfl : p = 0 := by omega
    obtain rfl : n = 0 := by omega
    clear hp hc hpc hone h0
    go_enter Tryz.func96, Tryz.ntmps96
    go_wp2_with fail
    with_reducible refine Calls.mono S.out ?_
    rintro e w1 ⟨rfl, rfl⟩
    go_wp2_with fail
    go_ret
    exact ⟨rfl, rfl⟩
  · obtain rfl : s = none := hone _ rfl
    clear hone h0
    go_enter Tryz.func96, Tryz.ntmps96
    go_wp2_with fail
    with_reducible refine Calls.mono S.out ?_
    rintro e w1 ⟨rfl, rfl⟩
    go_wp2_with fail
    go_ret
    exact ⟨rfl, rfl⟩
end Go.Proofs.YtjjamooihddkgaaGreat.Pn

/- Slots with open addressing, as lists: searching, filling, freeing, moving; what stands in them. Conditions: each theorem's own. -/
namespace Go.Proofs.YtjjamooihddkgaaGreat.TbM
variable {K V : Type}
/-- How far it is from a to b, round about n. -/
def dist (n a b : Nat) : Nat := if a ≤ b then b - a else b + n - a
/-- Where one stands d behind a. -/
def pos (n a d : Nat) : Nat := if a + d < n then a + d else a + d - n
def nxt (n i : Nat) : Nat := if i + 1 < n then i + 1 else 0
theorem dist_lt {n a b : Nat} (ha : a < n) (hb : b < n) : dist n a b < n := by unfold dist; split <;> omega
theorem pos_lt {n a d : Nat} (ha : a < n) (hd : d < n) : pos n a d < n := by unfold pos; split <;> omega
theorem nxt_lt {n i : Nat} (h : i < n) : nxt n i < n := by unfold nxt; split <;> omega
theorem pos_dist {n a b : Nat} (ha : a < n) (hb : b < n) : pos n a (dist n a b) = b := by unfold pos dist; split <;> split <;> omega
theorem dist_pos {n a d : Nat} (ha : a < n) (hd : d < n) : dist n a (pos n a d) = d := by unfold pos dist; split <;> split <;> omega
theorem dist_self (n a : Nat) : dist n a a = 0 := by unfold dist; split <;> omega
theorem pos_zero {n a : Nat} (ha : a < n) : pos n a 0 = a := by unfold pos; split <;> omega
theorem pos_succ {n a d : Nat} (ha : a < n) (hd : d + 1 < n) : pos n a (d + 1) = nxt n (pos n a d) := by unfold pos nxt; split <;> split <;> split <;> omega
theorem dist_inj {n a b c : Nat} (ha : a < n) (hb : b < n) (hc : c < n) (h : dist n a b = dist n a c) : b = c := by
  rw [← pos_dist ha hb, h, pos_dist ha hc]
theorem dist_nxt {n a i : Nat} (ha : a < n) (hi : i < n) (h : nxt n i ≠ a) : dist n a (nxt n i) = dist n a i + 1 := by
  unfold nxt at h ⊢
  unfold dist
  by_cases e : i + 1 < n
  · rw [if_pos e] at h ⊢
    split <;> split <;> omega
  · rw [if_neg e] at h ⊢
    split <;> split <;> omega
/-- What stands in the slots. -/
def kvs (S : List (Option (K × V))) : List (K × V) := S.filterMap id
theorem kvs_nil : kvs ([] : List (Option (K × V))) = [] := rfl
theorem kvs_cons_none (S : List (Option (K × V))) : kvs (none :: S) = kvs S := rfl
theorem kvs_cons_some (x : K × V) (S : List (Option (K × V))) : kvs (some x :: S) = x :: kvs S := rfl
theorem kvs_append (S T : List (Option (K × V))) : kvs (S ++ T) = kvs S ++ kvs T := List.filterMap_append
theorem kvs_free (n : Nat) : kvs (List.replicate n (none : Option (K × V))) = [] := by
  induction n with
  | zero => rfl
  | succ n ih => rw [List.replicate_succ, kvs_cons_none, ih]
theorem kvs_put : ∀ {S : List (Option (K × V))} {i : Nat} {x : K × V}, S[i]? = some none → (kvs (S.set i (some x))).Perm (x :: kvs S)
  | [], i, x, h => by simp at h
  | y :: S, 0, x, h => by
    simp at h; subst h
    exact List.Perm.refl _
  | none :: S, i + 1, x, h => by
    rw [List.set_cons_succ, kvs_cons_none, kvs_cons_none]
    exact kvs_put (by simpa using h)
  | some y :: S, i + 1, x, h => by
    rw [List.set_cons_succ, kvs_cons_some, kvs_cons_some]
    exact ((kvs_put (S := S) (i := i) (x := x) (by simpa using h)).cons y).trans (List.Perm.swap x y _)
theorem mem_kvs {S : List (Option (K × V))} {x : K × V} : x ∈ kvs S ↔ ∃ i : Nat, S[i]? = some (some x) := by
  unfold kvs
  rw [List.mem_filterMap]
  constructor
  · rintro ⟨a, ha, e⟩
    obtain ⟨i, hi, rfl⟩ := List.mem_iff_getElem.1 ha
    exact ⟨i, by rw [List.getElem?_eq_getElem hi]; exact congrArg some e⟩
  · rintro ⟨i, hi⟩
    exact ⟨some x, List.mem_of_getElem? hi, rfl⟩
/-- What is taken out of its slot. -/
theorem kvs_take {S : List (Option (K × V))} {i : Nat} {x : K × V} (h : S[i]? = some (some x)) : (kvs S).Perm (x :: kvs (S.set i none)) := by
  have hl := (List.getElem?_eq_some_iff.1 h).1
  have := kvs_put (S := S.set i none) (i := i) (x := x) (by rw [List.getElem?_set_self hl])
  rwa [List.set_set, show S.set i (some x) = S from by
    apply List.ext_getElem?
    intro j
    rw [List.getElem?_set]
    split
    · rename_i e; subst e; rw [h]
    · rfl] at this
/-- One key stands in one slot. -/
theorem one_slot {S : List (Option (K × V))} (hn : ((kvs S).map Prod.fst).Nodup) {i j : Nat} {k : K} {v u : V} (hi : S[i]? = some (some (k, v))) (hj : S[j]? = some (some (k, u))) : i = j := by
  by_cases e : i = j
  · exact e
  · exfalso
    have hp := (kvs_take hi).map Prod.fst
    have hn' := hp.nodup_iff.1 hn
    rw [List.map_cons, List.nodup_cons] at hn'
    apply hn'.1
    refine List.mem_map.2 ⟨(k, u), mem_kvs.2 ⟨j, ?_⟩, rfl⟩
    rw [List.getElem?_set_ne e]
    exact hj
theorem kvs_len_le : ∀ (S : List (Option (K × V))), (kvs S).length ≤ S.length := fun S => List.length_filterMap_le _ _
/-- Where fewer stand than there are slots, one is free. -/
theorem one_free : ∀ {S : List (Option (K × V))}, (kvs S).length < S.length → ∃ f : Nat, S[f]? = some none
  | [], h => by simp at h
  | none :: S, _ => ⟨0, rfl⟩
  | some y :: S, h => by
    rw [kvs_cons_some, List.length_cons, List.length_cons] at h
    obtain ⟨f, hf⟩ := one_free (S := S) (by omega)
    exact ⟨f + 1, by simpa using hf⟩
theorem free_but : ∀ {S : List (Option (K × V))} {g : Nat}, S[g]? = some none → (kvs S).length + 1 < S.length → ∃ f : Nat, f ≠ g ∧ S[f]? = some none
  | [], g, h, _ => by simp at h
  | none :: S, 0, _, h => by
    rw [kvs_cons_none, List.length_cons] at h
    obtain ⟨f, hf⟩ := one_free (S := S) (by omega)
    exact ⟨f + 1, by omega, by simpa using hf⟩
  | none :: S, g + 1, _, _ => ⟨0, by omega, rfl⟩
  | some y :: S, 0, h, _ => by simp at h
  | some y :: S, g + 1, h0, h => by
    rw [kvs_cons_some, List.length_cons, List.length_cons] at h
    obtain ⟨f, hf1, hf⟩ := free_but (S := S) (g := g) (by simpa using h0) (by omega)
    exact ⟨f + 1, by omega, by simpa using hf⟩
/-- A slot that is taken. -/
def Filled (S : List (Option (K × V))) (p : Nat) : Prop := ∃ x, S[p]? = some (some x)
/-- Each one is found by a search that goes over taken slots alone, or over one of the holes. -/
def Path (H : K → Nat) (hole : Nat → Prop) (S : List (Option (K × V))) : Prop :=
  ∀ j k v, S[j]? = some (some (k, v)) → ∀ d, d < dist S.length (H k) j → Filled S (pos S.length (H k) d) ∨ hole (pos S.length (H k) d)
def none_ : Nat → Prop := fun _ => False
theorem path_free (H : K → Nat) (n : Nat) : Path H none_ (List.replicate n (none : Option (K × V))) := by
  intro j k v h
  rw [List.getElem?_replicate] at h
  split at h <;> cases h
theorem lt_of_some {α : Type} {S : List α} {i : Nat} {x : α} (h : S[i]? = some x) : i < S.length := (List.getElem?_eq_some_iff.1 h).1
theorem not_filled {S : List (Option (K × V))} {f : Nat} (h : S[f]? = some none) : ¬ Filled S f := by
  rintro ⟨x, hx⟩; rw [hx] at h; cases h
/-- A search that came to a free slot over others of other keys: the key is nowhere. -/
theorem nowhere {H : K → Nat} {S : List (Option (K × V))} (hP : Path H none_ S) {k : K} (hH : H k < S.length) {d : Nat}
    (hb : ∀ e, e < d → ∃ k' u, k' ≠ k ∧ S[pos S.length (H k) e]? = some (some (k', u))) (hf : S[pos S.length (H k) d]? = some none) : ∀ v, (k, v) ∉ kvs S := by
  intro v hv
  obtain ⟨j, hj⟩ := mem_kvs.1 hv
  have hjl := lt_of_some hj
  have hjd := pos_dist hH hjl
  rcases Nat.lt_trichotomy (dist S.length (H k) j) d with h | h | h
  · obtain ⟨k', u, hne, e⟩ := hb _ h
    rw [hjd, hj] at e
    cases e; exact hne rfl
  · rw [← h, hjd, hj] at hf; cases hf
  · rcases hP j k v hj d h with h' | h'
    · exact not_filled hf h'
    · exact h'
/-- One more is put where its search ends. -/
theorem path_put {H : K → Nat} {S : List (Option (K × V))} (hP : Path H none_ S) {k : K} {v : V} {i : Nat} (hi : S[i]? = some none) (hb : ∀ d, d < dist S.length (H k) i → Filled S (pos S.length (H k) d)) :
    Path H none_ (S.set i (some (k, v))) := by
  have up : ∀ p, Filled S p → Filled (S.set i (some (k, v))) p := by
    rintro p ⟨x, hx⟩
    have hne : i ≠ p := by intro e; subst e; rw [hx] at hi; cases hi
    exact ⟨x, by rw [List.getElem?_set_ne hne]; exact hx⟩
  intro j k' u hj d hd
  rw [List.length_set] at hd ⊢
  by_cases e : i = j
  · subst e
    rw [List.getElem?_set_self (lt_of_some hi)] at hj
    cases hj
    exact Or.inl (up _ (hb d hd))
  · rw [List.getElem?_set_ne e] at hj
    rcases hP j k' u hj d hd with h | h
    · exact Or.inl (up _ h)
    · exact Or.inr h
/-- While a slot is freed: what has been looked at does not lead over the hole; a free slot lies ahead. -/
structure Freeing (H : K → Nat) (T : List (Option (K × V))) (hole i f : Nat) : Prop where
  hole_lt : hole < T.length
  i_lt : i < T.length
  gone : T[hole]? = some none
  apart : i ≠ hole
  path : Path H (fun p => p = hole) T
  seen : ∀ j k v, T[j]? = some (some (k, v)) → dist T.length hole j < dist T.length hole i → dist T.length (H k) j < dist T.length hole j
  free : T[f]? = some none
  other : f ≠ hole
  ahead : dist T.length hole i + dist T.length i f = dist T.length hole f
/-- At its start. -/
theorem freeing_start {H : K → Nat} {S : List (Option (K × V))} (hP : Path H none_ S) {hole : Nat} (hl : hole < S.length) {f : Nat} (hf : (S.set hole none)[f]? = some none) (hne : f ≠ hole) :
    Freeing H (S.set hole none) hole (nxt S.length hole) f := by
  have hfl := lt_of_some hf
  rw [List.length_set] at hfl
  have hn : nxt S.length hole ≠ hole := by unfold nxt; split <;> omega
  refine ⟨by simpa using hl, by simpa using nxt_lt hl, List.getElem?_set_self hl, hn, ?_, ?_, hf, hne, ?_⟩
  · intro j k v hj d hd
    rw [List.length_set] at hd ⊢
    have hjn : hole ≠ j := by intro e; subst e; rw [List.getElem?_set_self hl] at hj; cases hj
    rw [List.getElem?_set_ne hjn] at hj
    by_cases e : pos S.length (H k) d = hole
    · exact Or.inr e
    · rcases hP j k v hj d hd with ⟨x, hx⟩ | h
      · exact Or.inl ⟨x, by rw [List.getElem?_set_ne (fun e' => e e'.symm)]; exact hx⟩
      · exact h.elim
  · intro j k v hj h
    rw [List.length_set] at h ⊢
    rw [dist_nxt hl hl hn, dist_self] at h
    have e : dist S.length hole j = 0 := by omega
    have hjl := lt_of_some hj
    rw [List.length_set] at hjl
    have : hole = j := dist_inj (n := S.length) hl hl hjl (by rw [dist_self, e])
    subst this
    rw [List.getElem?_set_self hl] at hj; cases hj
  · rw [List.length_set]
    unfold nxt dist
    split <;> split <;> split <;> split <;> omega
theorem Freeing.f_lt {H : K → Nat} {T : List (Option (K × V))} {hole i f : Nat} (h : Freeing H T hole i f) : f < T.length := lt_of_some h.free
/-- It ends at a free slot. -/
theorem Freeing.done {H : K → Nat} {T : List (Option (K × V))} (hH : ∀ k, H k < T.length) {hole i f : Nat} (h : Freeing H T hole i f) (hi : T[i]? = some none) : Path H none_ T := by
  intro j k v hj d hd
  rcases h.path j k v hj d hd with h1 | h1
  · exact Or.inl h1
  · exfalso
    have hjl := lt_of_some hj
    have hk := hH k
    have hdl : d < T.length := Nat.lt_trans hd (dist_lt hk hjl)
    have hdd := dist_pos hk hdl
    rw [h1] at hdd
    have hh := h.hole_lt
    have hil := h.i_lt
    -- the hole lies on the way from its home to j
    have hsum : dist T.length (H k) j = d + dist T.length hole j := by
      rw [← hdd] at hd ⊢
      revert hd
      unfold dist
      split <;> split <;> split <;> omega
    rcases Nat.lt_trichotomy (dist T.length hole j) (dist T.length hole i) with h2 | h2 | h2
    · have := h.seen j k v hj h2
      omega
    · have := dist_inj hh hjl hil h2
      subst this
      rw [hi] at hj; cases hj
    · -- the free slot lies on that way, too
      have hd2 : d + dist T.length hole i < dist T.length (H k) j := by omega
      have hp : pos T.length (H k) (d + dist T.length hole i) = i := by
        have hlt := dist_lt hk hjl
        have e : dist T.length (H k) i = d + dist T.length hole i := by
          rw [← hdd] at hd2 hsum ⊢
          revert hd2 hsum
          have := dist_lt hh hil
          unfold dist at *
          split <;> split <;> split <;> split <;> split <;> omega
        rw [← e, pos_dist hk hil]
      rcases h.path j k v hj _ hd2 with h3 | h3
      · rw [hp] at h3; exact not_filled hi h3
      · rw [hp] at h3; exact h.apart h3
theorem Freeing.next {H : K → Nat} {T : List (Option (K × V))} {hole i f : Nat} (h : Freeing H T hole i f) {k : K} {v : V} (hi : T[i]? = some (some (k, v))) :
    nxt T.length i ≠ hole ∧ dist T.length (nxt T.length i) f + 1 = dist T.length i f ∧ dist T.length hole (nxt T.length i) + dist T.length (nxt T.length i) f = dist T.length hole f := by
  have hne : i ≠ f := by intro e; subst e; have := h.free; rw [hi] at this; cases this
  have h1 := h.ahead
  have h2 := h.hole_lt
  have h3 := h.i_lt
  have h4 := h.f_lt
  have h5 := h.apart
  have h6 := h.other
  revert h1
  unfold nxt dist
  split <;> split <;> split <;> split <;> split <;> (try split) <;> omega
/-- One that may stay. -/
theorem Freeing.stay {H : K → Nat} {T : List (Option (K × V))} {hole i f : Nat} (h : Freeing H T hole i f) {k : K} {v : V} (hi : T[i]? = some (some (k, v))) (hs : dist T.length (H k) i < dist T.length hole i) :
    Freeing H T hole (nxt T.length i) f := by
  obtain ⟨n1, n2, n3⟩ := h.next hi
  refine ⟨h.hole_lt, nxt_lt h.i_lt, h.gone, n1, h.path, ?_, h.free, h.other, n3⟩
  intro j k' u hj hlt
  rw [dist_nxt h.hole_lt h.i_lt n1] at hlt
  rcases Nat.lt_or_ge (dist T.length hole j) (dist T.length hole i) with h1 | h1
  · exact h.seen j k' u hj h1
  · have : j = i := dist_inj h.hole_lt (lt_of_some hj) h.i_lt (by omega)
    subst this
    rw [hi] at hj
    cases hj
    exact hs
/-- One that moves up into the hole. -/
theorem Freeing.move {H : K → Nat} {T : List (Option (K × V))} (hH : ∀ k, H k < T.length) {hole i f : Nat} (h : Freeing H T hole i f) {k : K} {v : V} (hi : T[i]? = some (some (k, v))) (hs : dist T.length hole i ≤ dist T.length (H k) i) :
    Freeing H ((T.set hole (some (k, v))).set i none) i (nxt T.length i) f := by
  obtain ⟨n1, n2, n3⟩ := h.next hi
  have hh := h.hole_lt
  have hil := h.i_lt
  have hk := hH k
  have hfne : f ≠ i := by intro e; subst e; have := h.free; rw [hi] at this; cases this
  have hni : nxt T.length i ≠ i := by unfold nxt; have := h.apart; split <;> omega
  have up : ∀ p, Filled T p ∨ p = hole → Filled ((T.set hole (some (k, v))).set i none) p ∨ p = i := by
    intro p hp
    by_cases e : p = i
    · exact Or.inr e
    · left
      unfold Filled
      rw [List.getElem?_set_ne (fun e' => e e'.symm)]
      rcases hp with ⟨x, hx⟩ | rfl
      · have : hole ≠ p := by intro e'; subst e'; rw [h.gone] at hx; cases hx
        exact ⟨x, by rw [List.getElem?_set_ne this]; exact hx⟩
      · exact ⟨_, List.getElem?_set_self hh⟩
  refine ⟨by simpa using hil, by simpa using nxt_lt hil, List.getElem?_set_self (by simpa using hil), hni, ?_, ?_, ?_, hfne, ?_⟩
  · intro j k' u hj d hd
    rw [List.length_set, List.length_set] at hd ⊢
    have hji : i ≠ j := by intro e; subst e; rw [List.getElem?_set_self (by simpa using hil)] at hj; cases hj
    rw [List.getElem?_set_ne hji] at hj
    by_cases e : hole = j
    · subst e
      rw [List.getElem?_set_self hh] at hj
      cases hj
      have hd2 : d < dist T.length (H k) i := by
        revert hd hs
        unfold dist
        split <;> split <;> split <;> omega
      exact up _ (h.path i k v hi d hd2)
    · rw [List.getElem?_set_ne e] at hj
      exact up _ (h.path j k' u hj d hd)
  · intro j k' u hj hlt
    rw [List.length_set, List.length_set] at hlt ⊢
    exfalso
    rw [dist_nxt hil hil hni, dist_self] at hlt
    have hjl := lt_of_some hj
    rw [List.length_set, List.length_set] at hjl
    have : i = j := dist_inj hil hil hjl (by rw [dist_self]; omega)
    subst this
    rw [List.getElem?_set_self (by simpa using hil)] at hj; cases hj
  · rw [List.getElem?_set_ne (fun e => hfne e.symm), List.getElem?_set_ne (fun e => h.other e.symm)]
    exact h.free
  · rw [List.length_set, List.length_set, dist_nxt hil hil hni, dist_self]
    omega
theorem Freeing.same {H : K → Nat} {T : List (Option (K × V))} {hole i f : Nat} (h : Freeing H T hole i f) {k : K} {v : V} (hi : T[i]? = some (some (k, v))) : (kvs ((T.set hole (some (k, v))).set i none)).Perm (kvs T) := by
  have h1 : (kvs T).Perm ((k, v) :: kvs (T.set i none)) := kvs_take hi
  have h2 : (kvs ((T.set i none).set hole (some (k, v)))).Perm ((k, v) :: kvs (T.set i none)) := kvs_put (by rw [List.getElem?_set_ne h.apart]; exact h.gone)
  rw [List.set_comm _ _ h.apart] at h2
  exact h2.trans h1.symm
end Go.Proofs.YtjjamooihddkgaaGreat.TbM

/- The slots' numbers: what a key is mixed to; masks; keys in their order. Conditions: each theorem's own. -/
namespace Go.Proofs.YtjjamooihddkgaaGreat.TbN
open Go.RowKit Hp
/-- What a number is mixed to. -/
def mixF (x : Int) : Int :=
  let a := IntKind.u64.wrap (x + 11400714819323198485)
  let b := IntKind.u64.wrap (bits BinOp.xor IntKind.u64 a (a / 1073741824) * 13787848793156543929)
  let c := IntKind.u64.wrap (bits BinOp.xor IntKind.u64 b (b / 134217728) * 10723151780598845931)
  bits BinOp.xor IntKind.u64 c (c / 2147483648)
theorem mix_range (x : Int) : 0 ≤ mixF x ∧ mixF x < 18446744073709551616 := by
  unfold mixF bits
  simp only [IntKind.wrap_u64]
  omega
theorem mix_any (x : Int) (w : World) (h0 : 0 ≤ x) (h1 : x < 18446744073709551616) : Calls Tryz.prog 145 #[.int .u64 x] w fun e w' => e = .returned (.int .u64 (mixF x)) ∧ w = w' := by
  obtain ⟨m, hm⟩ : ∃ m, m = mixF x := ⟨_, rfl⟩
  rw [← hm]
  have HM := Lib.hid hm
  clear hm
  go_enter Tryz.func145, Tryz.ntmps145
  go_wp2_with fail
  go_ret
  exact ⟨by rw [HM.out]; rfl, rfl⟩
/-- So many slots there may be. -/
def Pow (n : Nat) : Prop := ∃ p, p ≤ 30 ∧ n = 2 ^ p
theorem Pow.pos {n : Nat} (h : Pow n) : 0 < n := by obtain ⟨p, _, rfl⟩ := h; exact Nat.two_pow_pos p
theorem Pow.le {n : Nat} (h : Pow n) : n ≤ 1073741824 := by
  obtain ⟨p, hp, rfl⟩ := h
  exact Nat.le_trans (Nat.pow_le_pow_right (by decide) hp) (by decide)
theorem mask_nat (p x : Nat) (hp : p ≤ 30) : x &&& (2 ^ p - 1) = x % 2 ^ p := Nat.and_two_pow_sub_one_eq_mod x p
theorem ofInt_mask {n : Nat} (h : Pow n) : (BitVec.ofInt 64 ((n : Int) - 1)).toNat = n - 1 := by
  have h1 := h.pos
  have h2 := h.le
  rw [BitVec.toNat_ofInt]
  omega
theorem mod_mod_pow {p : Nat} (hp : p ≤ 30) (d : Int) : (d % ((2 ^ 64 : Nat) : Int)).toNat % 2 ^ p = (d % ((2 ^ p : Nat) : Int)).toNat := by
  have hd : ((2 ^ p : Nat) : Int) ∣ ((2 ^ 64 : Nat) : Int) := Int.natCast_dvd_natCast.2 (Nat.pow_dvd_pow 2 (by omega))
  have h0 : 0 ≤ d % ((2 ^ 64 : Nat) : Int) := Int.emod_nonneg _ (by decide)
  have hp0 : ((2 ^ p : Nat) : Int) ≠ 0 := by have := Nat.two_pow_pos p; omega
  have h1 : 0 ≤ d % ((2 ^ p : Nat) : Int) := Int.emod_nonneg _ hp0
  apply Int.ofNat.inj
  show (((d % ((2 ^ 64 : Nat) : Int)).toNat % 2 ^ p : Nat) : Int) = ((d % ((2 ^ p : Nat) : Int)).toNat : Int)
  rw [Int.natCast_emod, Int.toNat_of_nonneg h0, Int.toNat_of_nonneg h1, Int.emod_emod_of_dvd _ hd]
/-- Where a number falls among n. -/
theorem and_i64 {n : Nat} (h : Pow n) (d : Int) : bits .and .i64 d ((n : Int) - 1) = d % (n : Int) := by
  have hm := ofInt_mask h
  have hl := h.le
  have hz := h.pos
  obtain ⟨p, hp, rfl⟩ := h
  show IntKind.i64.wrap ((BitVec.ofInt 64 d &&& BitVec.ofInt 64 (((2 ^ p : Nat) : Int) - 1)).toNat : Nat) = _
  rw [BitVec.toNat_and, hm, mask_nat p _ hp, BitVec.toNat_ofInt, mod_mod_pow hp, IntKind.wrap_i64]
  generalize 2 ^ p = n at *
  have h0 : 0 ≤ d % (n : Int) := Int.emod_nonneg _ (by omega)
  have h1 : d % (n : Int) < n := Int.emod_lt_of_pos _ (by omega)
  omega
theorem and_u64 {n : Nat} (h : Pow n) (d : Int) : bits .and .u64 d ((n : Int) - 1) = d % (n : Int) := by
  have hm := ofInt_mask h
  have hl := h.le
  have hz := h.pos
  obtain ⟨p, hp, rfl⟩ := h
  show IntKind.u64.wrap ((BitVec.ofInt 64 d &&& BitVec.ofInt 64 (((2 ^ p : Nat) : Int) - 1)).toNat : Nat) = _
  rw [BitVec.toNat_and, hm, mask_nat p _ hp, BitVec.toNat_ofInt, mod_mod_pow hp, IntKind.wrap_u64]
  generalize 2 ^ p = n at *
  have h0 : 0 ≤ d % (n : Int) := Int.emod_nonneg _ (by omega)
  have h1 : d % (n : Int) < n := Int.emod_lt_of_pos _ (by omega)
  omega
theorem mod_nxt {n i : Nat} (h : i < n) : ((i : Int) + 1) % (n : Int) = (TbM.nxt n i : Nat) := by
  unfold TbM.nxt
  split
  · rw [Int.emod_eq_of_lt] <;> omega
  · have e : (i : Int) + 1 = n := by omega
    rw [e, Int.emod_self]; rfl
theorem mod_dist {n a b : Nat} (ha : a < n) (hb : b < n) : ((b : Int) - (a : Int)) % (n : Int) = (TbM.dist n a b : Nat) := by
  unfold TbM.dist
  split
  · rw [Int.emod_eq_of_lt] <;> omega
  · have e : (b : Int) - (a : Int) = ((b + n - a : Nat) : Int) - (n : Int) := by omega
    rw [e, Int.sub_emod_right, Int.emod_eq_of_lt] <;> omega
/-- A key: somebody, and his number. -/
abbrev Ky := Int × Int
/-- What a key is, as it may be. -/
def KyOk (k : Ky) : Prop := (-9223372036854775808 ≤ k.1 ∧ k.1 ≤ 9223372036854775807) ∧ 0 ≤ k.2 ∧ k.2 ≤ 18446744073709551615
/-- What a key is mixed to. -/
def hashF (k : Ky) : Int := mixF (IntKind.u64.wrap (mixF (IntKind.u64.wrap k.1) + k.2))
theorem hash_range (k : Ky) : 0 ≤ hashF k ∧ hashF k < 18446744073709551616 := mix_range _
/-- Where its search begins, of n slots. -/
def homeF (n : Nat) (k : Ky) : Nat := (hashF k % (n : Int)).toNat
theorem home_lt {n : Nat} (h : 0 < n) (k : Ky) : homeF n k < n := by
  unfold homeF
  have h0 : 0 ≤ hashF k % (n : Int) := Int.emod_nonneg _ (by omega)
  have h1 : hashF k % (n : Int) < n := Int.emod_lt_of_pos _ (by omega)
  omega
theorem home_int {n : Nat} (h : 0 < n) (k : Ky) : hashF k % (n : Int) = (homeF n k : Nat) := by
  unfold homeF
  have h0 : 0 ≤ hashF k % (n : Int) := Int.emod_nonneg _ (by omega)
  omega
end Go.Proofs.YtjjamooihddkgaaGreat.TbN

/- Slots in memory: four cells each. Conditions: each theorem's own. -/
namespace Go.Proofs.YtjjamooihddkgaaGreat.TbR
open Go.RowKit Hp TbM TbN
variable {V : Type} (ev : V → Value) (z : Value)
/-- A slot's four cells. -/
def sc : Option (Ky × V) → List Value
  | none => [.bool false, .int .i64 0, .int .u64 0, z]
  | some (k, v) => [.bool true, .int .i64 k.1, .int .u64 k.2, ev v]
def flat (S : List (Option (Ky × V))) : List Value := S.flatMap (sc ev z)
theorem sc_len (x : Option (Ky × V)) : (sc ev z x).length = 4 := by
  rcases x with _ | ⟨k, v⟩ <;> rfl
theorem flat_len : ∀ S : List (Option (Ky × V)), (flat ev z S).length = S.length * 4
  | [] => rfl
  | x :: S => by
    have := flat_len S
    unfold flat at this ⊢
    rw [List.flatMap_cons, List.length_append, this, sc_len, List.length_cons]; omega
theorem flat_at : ∀ {S : List (Option (Ky × V))} {i : Nat} {x : Option (Ky × V)} (h : S[i]? = some x) {j : Nat} (hj : j < 4), (flat ev z S)[i * 4 + j]? = (sc ev z x)[j]?
  | [], i, x, h, j, hj => by simp at h
  | y :: S, 0, x, h, j, hj => by
    simp at h; subst h
    unfold flat
    rw [List.flatMap_cons, List.getElem?_append_left (by rw [sc_len]; omega)]
    congr 1; omega
  | y :: S, i + 1, x, h, j, hj => by
    have := flat_at (S := S) (i := i) (x := x) (by simpa using h) hj
    unfold flat at this ⊢
    rw [List.flatMap_cons, List.getElem?_append_right (by rw [sc_len]; omega), sc_len, show (i + 1) * 4 + j - 4 = i * 4 + j by omega, this]
theorem flat_set {S : List (Option (Ky × V))} {i : Nat} (hi : i < S.length) (x : Option (Ky × V)) {a b c d : Value} (hx : sc ev z x = [a, b, c, d]) :
    flat ev z (S.set i x) = ((((flat ev z S).set (i * 4) a).set (i * 4 + 1) b).set (i * 4 + 2) c).set (i * 4 + 3) d := by
  have hl := flat_len ev z S
  apply List.ext_getElem?
  intro t
  by_cases ht : t < S.length * 4
  · have hq : t / 4 < S.length := by omega
    obtain ⟨q, r, hr, rfl⟩ : ∃ q r, r < 4 ∧ t = q * 4 + r := ⟨t / 4, t % 4, by omega, by omega⟩
    have hq : q < S.length := by omega
    by_cases e : i = q
    · subst e
      rw [flat_at ev z (x := x) (by rw [List.getElem?_set_self hi]) hr, hx]
      have h4 : r = 0 ∨ r = 1 ∨ r = 2 ∨ r = 3 := by omega
      rcases h4 with rfl | rfl | rfl | rfl <;> simp [List.getElem?_set, hl] <;> omega
    · rw [flat_at ev z (x := S[q]) (by rw [List.getElem?_set_ne e, List.getElem?_eq_getElem hq]) hr]
      rw [List.getElem?_set_ne (by omega), List.getElem?_set_ne (by omega), List.getElem?_set_ne (by omega), List.getElem?_set_ne (by omega)]
      rw [flat_at ev z (x := S[q]) (List.getElem?_eq_getElem hq) hr]
  · rw [List.getElem?_eq_none (by rw [flat_len, List.length_set]; omega), List.getElem?_eq_none (by simp [hl]; omega)]
theorem flat_free (n : Nat) : flat ev z (List.replicate n none) = (List.replicate n (sc ev z none)).flatten := by
  induction n with
  | zero => rfl
  | succ n ih => unfold flat at ih ⊢; rw [List.replicate_succ, List.replicate_succ, List.flatMap_cons, List.flatten_cons, ih]
/-- Slots, as they lie. -/
def SlV (w : World) (T : TypeId) (v : Value) (S : List (Option (Ky × V))) : Prop :=
  (S = [] ∧ v = .slice none 0 0) ∨ ∃ g, v = .slice (some ⟨g, 0, none⟩) S.length S.length ∧ Blk w g (flat ev z S) T
variable {ev : V → Value} {z : Value}
theorem SlV.kept {w w' : World} {T : TypeId} {v : Value} {S : List (Option (Ky × V))} {F : Nat → Prop} (h : SlV ev z w T v S) (k : Kept F w w') (hF : ∀ g, v.ownBlock = some g → ¬ F g) : SlV ev z w' T v S := by
  rcases h with h | ⟨g, rfl, h⟩
  · exact Or.inl h
  · exact Or.inr ⟨g, rfl, k.blk h (hF g rfl)⟩
theorem slot_cell {w : World} {T : TypeId} {g : Nat} {S : List (Option (Ky × V))} (h : Blk w g (flat ev z S) T) {i : Nat} {x : Option (Ky × V)} (hi : S[i]? = some x) {j : Nat} (hj : j < 4) {u : Value} (hu : (sc ev z x)[j]? = some u) :
    w.cell? ⟨g, i * 4 + j, none⟩ = some u := h.cell (by rw [flat_at ev z hi hj, hu])
theorem slot_cells {w : World} {T : TypeId} {g : Nat} {S : List (Option (Ky × V))} (h : Blk w g (flat ev z S) T) {i : Nat} {x : Option (Ky × V)} (hi : S[i]? = some x) {a b c d : Value} (hx : sc ev z x = [a, b, c, d]) :
    w.cell? ⟨g, i * 4, none⟩ = some a ∧ w.cell? ⟨g, i * 4 + 1, none⟩ = some b ∧ w.cell? ⟨g, i * 4 + 2, none⟩ = some c ∧ w.cell? ⟨g, i * 4 + 3, none⟩ = some d :=
  ⟨slot_cell h hi (j := 0) (by decide) (by rw [hx]; rfl), slot_cell h hi (j := 1) (by decide) (by rw [hx]; rfl), slot_cell h hi (j := 2) (by decide) (by rw [hx]; rfl), slot_cell h hi (j := 3) (by decide) (by rw [hx]; rfl)⟩
theorem slot_set {w : World} {T : TypeId} {g : Nat} {S : List (Option (Ky × V))} (h : Blk w g (flat ev z S) T) {i : Nat} (hi : i < S.length) (x : Option (Ky × V)) {a b c d : Value} (hx : sc ev z x = [a, b, c, d]) :
    Blk ((((w.setCell ⟨g, i * 4, none⟩ a).setCell ⟨g, i * 4 + 1, none⟩ b).setCell ⟨g, i * 4 + 2, none⟩ c).setCell ⟨g, i * 4 + 3, none⟩ d) g (flat ev z (S.set i x)) T := by
  rw [flat_set ev z hi x hx]
  exact ((((h.set _ _).set _ _).set _ _).set _ _)
theorem slot_kept (w : World) (g i : Nat) (a b c d : Value) :
    Kept (fun k => k = g) w ((((w.setCell ⟨g, i * 4, none⟩ a).setCell ⟨g, i * 4 + 1, none⟩ b).setCell ⟨g, i * 4 + 2, none⟩ c).setCell ⟨g, i * 4 + 3, none⟩ d) :=
  ((((Kept.refl (fun k => k = g) w).set (b := g) (fun _ => rfl) _ _).set (b := g) (fun _ => rfl) _ _).set (b := g) (fun _ => rfl) _ _).set (b := g) (fun _ => rfl) _ _
end Go.Proofs.YtjjamooihddkgaaGreat.TbR

/- Slots with open addressing: where a search begins, one on, how far, a search. Conditions: each theorem's own. -/
namespace Go.Proofs.YtjjamooihddkgaaGreat.TbP
open Go.RowKit Hp TbM TbN TbR
attribute [local go_sem ↓] Go.wp_at_zero Go.wp_at_succ
abbrev ky (k : Ky) : Value := .agg #[.int .i64 k.1, .int .u64 k.2]
set_option maxHeartbeats 1000000 in
theorem home_any {n c : Nat} (h : Pow n) (a : Option Addr) (k : Ky) (w : World) : Calls Tryz.prog 166 #[.slice a n c, ky k] w fun e w' => e = .returned (.int .i64 (homeF n k : Nat)) ∧ Kept (fun _ => False) w w' := by
  obtain ⟨k1, k2⟩ := k
  have M := Lib.hid mix_any
  have h0 := h.pos
  have hl := h.le
  have hm := home_lt h0 (k1, k2)
  have r1 : 0 ≤ IntKind.u64.wrap k1 ∧ IntKind.u64.wrap k1 < 18446744073709551616 := by rw [IntKind.wrap_u64]; omega
  have r2 : 0 ≤ IntKind.u64.wrap (mixF (IntKind.u64.wrap k1) + k2) ∧ IntKind.u64.wrap (mixF (IntKind.u64.wrap k1) + k2) < 18446744073709551616 := by rw [IntKind.wrap_u64]; omega
  have e1 : IntKind.i64.wrap ((n : Int) - 1) = (n : Int) - 1 := by rw [IntKind.wrap_i64]; omega
  have e2 : IntKind.u64.wrap ((n : Int) - 1) = (n : Int) - 1 := by rw [IntKind.wrap_u64]; omega
  have E := Lib.hid (show wrap64 (bits .and .u64 (mixF (IntKind.u64.wrap (mixF (IntKind.u64.wrap k1) + k2))) ((n : Int) - 1)) = (homeF n (k1, k2) : Nat) by
    rw [and_u64 h]
    have := home_int h0 (k1, k2)
    unfold hashF at this
    rw [this]
    unfold wrap64
    omega)
  generalize homeF n (k1, k2) = m at *
  have M1 := Lib.hid (fun w => M.out (IntKind.u64.wrap k1) w r1.1 r1.2)
  have M2 := Lib.hid (fun w => M.out (IntKind.u64.wrap (mixF (IntKind.u64.wrap k1) + k2)) w r2.1 r2.2)
  clear r1 r2 M h
  go_enter Tryz.func166, Tryz.ntmps166
  go_upto_region 1 with fail
  have hR := Blk.new w [.int .i64 k1, .int .u64 k2] 95
  have hk := (Kept.refl (fun _ => False) w).alloc (.cells [.int .i64 k1, .int .u64 k2].toArray 95)
  dsimp only [List.toArray] at hR hk
  have c0 := hR.cell (o := 0) rfl
  have c1 := hR.cell (o := 1) rfl
  have HK := Lib.hid hk
  clear hR hk
  generalize w.alloc (.cells #[.int .i64 k1, .int .u64 k2] 95) = w1 at *
  generalize w.heap.size = rb at *
  go_quiet ((go_at_call 145; first | (with_reducible exact Calls.quiet_of_same ((M1.out _).mono fun _ _ ⟨e1, e2⟩ => ⟨e1, e2.symm⟩)) | (with_reducible exact Calls.quiet_of_same ((M2.out _).mono fun _ _ ⟨e1, e2⟩ => ⟨e1, e2.symm⟩))))
  go_wp2_with fail
  go_ret
  exact ⟨congrArg (fun z => Ending.returned (.int .i64 z)) E.out, HK.out.drewN _⟩
theorem after_any {n c i : Nat} (h : Pow n) (hi : i < n) (a : Option Addr) (w : World) : Calls Tryz.prog 164 #[.slice a n c, .int .i64 i] w fun e w' => e = .returned (.int .i64 (nxt n i : Nat)) ∧ w = w' := by
  have hl := h.le
  have hb := and_i64 h ((i : Int) + 1)
  rw [mod_nxt hi] at hb
  have hm := nxt_lt hi
  generalize nxt n i = m at *
  have e1 : IntKind.i64.wrap ((n : Int) - 1) = (n : Int) - 1 := by rw [IntKind.wrap_i64]; omega
  have e2 : IntKind.i64.wrap ((i : Int) + 1) = (i : Int) + 1 := by rw [IntKind.wrap_i64]; omega
  clear h
  go_enter Tryz.func164, Tryz.ntmps164
  go_wp2_with fail
  go_ret
  exact ⟨rfl, rfl⟩
end Go.Proofs.YtjjamooihddkgaaGreat.TbP

/- Slots with open addressing: a search. Conditions: each theorem's own. -/
namespace Go.Proofs.YtjjamooihddkgaaGreat.TbP
open Go.RowKit Hp TbM TbN TbR
attribute [local go_sem ↓] Go.wp_at_zero Go.wp_at_succ
/-- A value, as it lies. -/
abbrev ev (v : Nat) : Value := .pointer (some ⟨v, 0, none⟩)
abbrev zv : Value := .pointer none
abbrev fl (S : List (Option (Ky × Nat))) : List Value := flat ev zv S
theorem key_struct : Tryz.prog.underlying 95 = some (.struct (Tryz.prog.fieldsOf 95)) := by kernel_rfl
theorem neq_key (a b c d : Int) (r : Bool) (hr : r = !(a == c && b == d)) (w : World) : (binOp .neq 95 (.agg #[.int .i64 a, .int .u64 b]) (.agg #[.int .i64 c, .int .u64 d])).run Tryz.prog w = .ok (.bool r) w := by
  have hp : Tryz.prog.stoodInHeld 95 = false := by kernel_rfl
  rw [run_neq_struct, show (10000 : Nat) = 9999 + 1 from rfl, run_equalIn_agg w 9999 95 _ _ key_struct hp]
  simp only [Program.fieldsOf, Tryz.underlying95]
  have u3 := Tryz.underlying3
  have u4 := Tryz.underlying22
  have a3 := Tryz.isAgg3
  have z3 := Tryz.sizeOf3
  have a4 := Tryz.isAgg22
  have z4 := Tryz.sizeOf22
  go_simp
  subst hr
  by_cases h1 : a = c <;> by_cases h2 : b = d <;> simp [h1, h2]
/-- What a search answers that begins at h. -/
def FindP (S : List (Option (Ky × Nat))) (k : Ky) (h : Nat) (w : World) (e : Ending) (w' : World) : Prop :=
  ∃ d : Nat, d < S.length ∧ Kept (fun _ => False) w w' ∧ (∀ e, e < d → ∃ k' u, k' ≠ k ∧ S[pos S.length h e]? = some (some (k', u))) ∧
    ((∃ v, S[pos S.length h d]? = some (some (k, v)) ∧ e = .returned (.tuple #[.int .i64 (pos S.length h d : Nat), .bool true])) ∨
     (S[pos S.length h d]? = some none ∧ e = .returned (.tuple #[.int .i64 (pos S.length h d : Nat), .bool false])))
theorem find_none (k : Ky) (w : World) : Calls Tryz.prog 163 #[.slice none 0 0, ky k] w fun e w' => e = .returned (.tuple #[.int .i64 0, .bool false]) ∧ Kept (fun _ => False) w w' := by
  obtain ⟨k1, k2⟩ := k
  go_enter Tryz.func163, Tryz.ntmps163
  go_wp2_with fail
  go_ret2
  exact ⟨rfl, (Kept.refl _ w).alloc _⟩
set_option maxHeartbeats 4000000 in
theorem find_any {w : World} {T : TypeId} {g : Nat} {S : List (Option (Ky × Nat))} (hB : Blk w g (fl S) T) (hn : Pow S.length) {f : Nat} (hf : S[f]? = some none) (k : Ky) :
    Calls Tryz.prog 163 #[.slice (some ⟨g, 0, none⟩) S.length S.length, ky k] w (FindP S k (homeF S.length k) w) := by
  obtain ⟨k1, k2⟩ := k
  have h0 := hn.pos
  have hl := hn.le
  have hH := home_lt h0 (k1, k2)
  have HO := Lib.hid fun w => home_any (c := S.length) hn (some ⟨g, 0, none⟩) (k1, k2) w
  have AF := Lib.hid fun i (hi : i < S.length) w => after_any (c := S.length) hn hi (some ⟨g, 0, none⟩) w
  generalize homeF S.length (k1, k2) = h at *
  have hfl := lt_of_some hf
  have hz : ((S.length : Int) == 0) = false := by rw [beq_eq_false_iff_ne]; omega
  have HB := Lib.hid hB
  have HF := Lib.hid hf
  clear hB hf
  go_enter Tryz.func163, Tryz.ntmps163
  go_upto_region 3 with fail
  have hR := Blk.new w [.int .i64 k1, .int .u64 k2] 95
  have hk := (Kept.refl (fun _ => False) w).alloc (.cells [.int .i64 k1, .int .u64 k2].toArray 95)
  dsimp only [List.toArray] at hR hk
  have c0 := hR.cell (o := 0) rfl
  have c1 := hR.cell (o := 1) rfl
  have HR := Lib.hid hR
  have HK := Lib.hid hk
  clear hR hk
  generalize w.alloc (.cells #[.int .i64 k1, .int .u64 k2] 95) = w1 at *
  generalize w.heap.size = rb at *
  go_wp2_with fail
  with_reducible refine Calls.mono (HO.out _) ?_
  rintro e w2 ⟨rfl, k2'⟩
  have HK2 := Lib.hid (HK.out.trans k2')
  have HR2 := Lib.hid (k2'.blk HR.out (fun f => f))
  clear k2' HK HR c0 c1 HO
  go_wp2_with fail
  have e0 : pos S.length h 0 = h := pos_zero hH
  go_loopg [6] S.length (fun mm s6 wr => ∃ d : Nat, Hid (mm = S.length - d) ∧ d < S.length ∧ s6 = .int .i64 (pos S.length h d : Nat) ∧ Hid (∀ e, e < d → ∃ k' u, k' ≠ (k1, k2) ∧ S[pos S.length h e]? = some (some (k', u))) ∧ Hid (Kept (fun _ => False) w wr) ∧ Hid (Blk wr rb [.int .i64 k1, .int .u64 k2] 95))
  case atStart => exact ⟨0, Lib.hid (by omega), h0, by rw [e0], Lib.hid (fun e he => by omega), HK2, HR2⟩
  case round =>
    obtain ⟨d, hm, hd, rfl, hall, hk, hr⟩ := hrel
    have hp := pos_lt hH hd
    have hB := hk.out.blk (show Blk w g (fl S) T from HB.out) (fun f => f)
    have r0 := hr.out.cell (o := 0) rfl
    have r1 := hr.out.cell (o := 1) rfl
    rcases hx : S[pos S.length h d]? with _ | _ | ⟨⟨a, b⟩, v⟩
    · exfalso; rw [List.getElem?_eq_none_iff] at hx; omega
    · obtain ⟨c0, c1, c2, c3⟩ := slot_cells hB hx rfl
      have HX := Lib.hid hx
      have HP : Hid (∀ p, p = pos S.length h d → S[p]? = some none) := Lib.hid (fun p e => e ▸ HX.out)
      clear hx hB
      obtain ⟨p, hpe⟩ : ∃ p, p = pos S.length h d := ⟨_, rfl⟩
      have HPE := Lib.hid hpe
      rw [← hpe] at c0 c1 c2 c3 hp ⊢
      clear hpe HX
      go_wp2_with fail
      go_quiet (fail)
      go_wp2_with fail
      go_quiet (fail)
      go_wp2_with fail
      go_ret2
      exact ⟨d, hd, (hk.out.drewN _).drewN _, hall.out, Or.inr ⟨by rw [← HPE.out]; exact HP.out p HPE.out, congrArg (fun p : Nat => Ending.returned (.tuple #[.int .i64 (p : Int), .bool false])) HPE.out⟩⟩
    · obtain ⟨c0, c1, c2, c3⟩ := slot_cells hB hx rfl
      have HX := Lib.hid hx
      have HP : Hid (∀ p, p = pos S.length h d → S[p]? = some (some ((a, b), v))) := Lib.hid (fun p e => e ▸ HX.out)
      clear hx hB
      by_cases hkk : (a, b) = (k1, k2)
      · cases hkk
        have nk := neq_key k1 k2 k1 k2 false (by simp)
        obtain ⟨p, hpe⟩ : ∃ p, p = pos S.length h d := ⟨_, rfl⟩
        have HPE := Lib.hid hpe
        rw [← hpe] at c0 c1 c2 c3 hp ⊢
        clear hpe HX
        go_wp2_with fail
        go_quiet (fail)
        go_wp2_with fail
        go_quiet (fail)
        go_wp2_with fail
        go_ret2
        exact ⟨d, hd, (hk.out.drewN _).drewN _, hall.out, Or.inl ⟨v, by rw [← HPE.out]; exact HP.out p HPE.out, congrArg (fun p : Nat => Ending.returned (.tuple #[.int .i64 (p : Int), .bool true])) HPE.out⟩⟩
      · have nk := neq_key a b k1 k2 true (by rw [eq_comm, Bool.not_eq_true', Bool.and_eq_false_iff, beq_eq_false_iff_ne, beq_eq_false_iff_ne]; by_cases e : a = k1 <;> simp_all)
        have hd1 : d + 1 < S.length := by
          rcases Nat.lt_or_ge (d + 1) S.length with h1 | h1
          · exact h1
          · exfalso
            have h2 := dist_lt hH hfl
            have h3 := pos_dist hH hfl
            rcases Nat.lt_or_ge (dist S.length h f) d with h4 | h4
            · obtain ⟨k', u, _, h5⟩ := hall.out _ h4
              rw [h3] at h5
              have := HF.out; rw [h5] at this; cases this
            · have h5 : dist S.length h f = d := by omega
              rw [h5] at h3
              have := HP.out f h3.symm; rw [HF.out] at this; cases this
        have HN := Lib.hid (pos_succ hH hd1)
        have HKK := Lib.hid hkk
        clear hkk HF hfl
        obtain ⟨p, hpe⟩ : ∃ p, p = pos S.length h d := ⟨_, rfl⟩
        have HPE := Lib.hid hpe
        rw [← hpe] at c0 c1 c2 c3 hp ⊢
        clear hpe HX
        have A := Lib.hid (AF.out p hp)
        go_wp2_with fail
        go_quiet (fail)
        go_wp2_with fail
        with_reducible refine Calls.mono (A.out _) ?_
        rintro e w' ⟨rfl, rfl⟩
        go_wp2_with fail
        go_roundg (S.length - (d + 1))
        case measure => have := hm.out; omega
        case rel => exact ⟨d + 1, Lib.hid rfl, hd1, by rw [HN.out, HPE.out], Lib.hid (fun e he => by
          rcases Nat.lt_or_ge e d with h4 | h4
          · exact hall.out e h4
          · obtain rfl : e = d := by omega
            exact ⟨(a, b), v, HKK.out, by rw [← HPE.out]; exact HP.out p HPE.out⟩), Lib.hid (hk.out.drewN _), Lib.hid (hr.out.drewN _)⟩
end Go.Proofs.YtjjamooihddkgaaGreat.TbP

/- Slots with open addressing: one is put where its search ends. Conditions: each theorem's own. -/
namespace Go.Proofs.YtjjamooihddkgaaGreat.TbP
open Go.RowKit Hp TbM TbN TbR
attribute [local go_sem ↓] Go.wp_at_zero Go.wp_at_succ
theorem run_bd (k1 k2 : Int) (v : Nat) (w : World) : (Instr.build 210 #[(0, .bool true), (1, .agg #[.int .i64 k1, .int .u64 k2]), (2, .pointer (some ⟨v, 0, none⟩))]).run Tryz.prog w = .ok (.agg #[.bool true, .int .i64 k1, .int .u64 k2, .pointer (some ⟨v, 0, none⟩)]) w := by
  kernel_rfl
theorem wpList_build_run {w : World} {ops : Array Oper} {rest : List Oper} {o : Oper} {a : Act} {Q : Exit → Act → World → Prop} (hgd : o.guard = none) (t : TypeId) (parts : Array (Nat × Operand)) (ho : o.op = .build t parts) {v : Value}
    (hr : (Instr.build t (parts.map fun (i, x) => (i, a.eval x))).run Tryz.prog w = .ok v w) (h : wpList Tryz.prog ops Q rest (a.put o.dst v) w) : wpList Tryz.prog ops Q (o :: rest) a w :=
  wpList_plain hgd fun _ hK => by
    unfold Oper.wp execOp
    simp only [ho, Sem.run_bind, hr, Result.andThen_ok]
    exact hK _ _ h
theorem wpList_index_run {w : World} {ops : Array Oper} {rest : List Oper} {o : Oper} {a : Act} {Q : Exit → Act → World → Prop} (hgd : o.guard = none) (t : TypeId) (x y : Operand) (ho : o.op = .indexAddr t x y) {v : Value}
    (hr : (Instr.indexAt t (a.eval x) (a.eval y)).run Tryz.prog w = .ok v w) (h : wpList Tryz.prog ops Q rest (a.put o.dst v) w) : wpList Tryz.prog ops Q (o :: rest) a w :=
  wpList_plain hgd fun _ hK => by
    unfold Oper.wp execOp
    simp only [ho, Sem.run_bind, hr, Result.andThen_ok]
    exact hK _ _ h
/-- A slot's place. -/
theorem run_ix (g c : Nat) {n p : Nat} (h : p < n) (w : World) : (Instr.indexAt 182 (.slice (some ⟨g, 0, none⟩) n c) (.int .i64 p)).run Tryz.prog w = .ok (.pointer (some ⟨g, p * 4, none⟩)) w := by
  have hs := Tryz.sizeOf210
  simp only [Instr.indexAt, Sem.run_bind, run_underlying Tryz.underlying182, Result.andThen_ok, asIntOf]
  simp only [Sem.run_pure, Result.andThen_ok]
  have hb : (0 : Int) ≤ (p : Int) ∧ (p : Int) < (n : Int) := ⟨by omega, by omega⟩
  rw [if_pos hb]
  simp only [Sem.run_bind, hs, Sem.run_pure, Result.andThen_ok, Go.WideShapes.add_plain, Int.toNat_natCast, Nat.zero_add]
/-- What filling leaves. -/
def FillP (S : List (Option (Ky × Nat))) (k : Ky) (v : Nat) (g : Nat) (T : TypeId) (w : World) (e : Ending) (w' : World) : Prop :=
  e = .returned (.tuple #[]) ∧ ∃ i, S[i]? = some none ∧ (∀ d, d < dist S.length (homeF S.length k) i → Filled S (pos S.length (homeF S.length k) d)) ∧ Blk w' g (fl (S.set i (some (k, v)))) T ∧ Kept (fun j => j = g) w w'
set_option maxHeartbeats 4000000 in
theorem fill_any {w : World} {T : TypeId} {g : Nat} {S : List (Option (Ky × Nat))} (hB : Blk w g (fl S) T) (hn : Pow S.length) {f : Nat} (hf : S[f]? = some none) (k : Ky) (v : Nat) (hk : ∀ u, (k, u) ∉ kvs S) :
    Calls Tryz.prog 151 #[.slice (some ⟨g, 0, none⟩) S.length S.length, ky k, ev v] w (FillP S k v g T w) := by
  have F := Lib.hid fun (w' : World) (h : Kept (fun _ => False) w w') => find_any (h.blk hB (fun f => f)) hn hf k
  have HB := Lib.hid hB
  have HKN := Lib.hid hk
  have h0 := hn.pos
  have hl := hn.le
  have hH := home_lt h0 k
  clear hB hk hf
  obtain ⟨k1, k2⟩ := k
  go_enter Tryz.func151, Tryz.ntmps151
  go_upto_region 1 with fail
  have hR := Blk.new w [.int .i64 k1, .int .u64 k2] 95
  have hk := (Kept.refl (fun _ => False) w).alloc (.cells [.int .i64 k1, .int .u64 k2].toArray 95)
  dsimp only [List.toArray] at hR hk
  have c0 := hR.cell (o := 0) rfl
  have c1 := hR.cell (o := 1) rfl
  have HR := Lib.hid hR
  have HK := Lib.hid hk
  clear hR hk
  generalize w.alloc (.cells #[.int .i64 k1, .int .u64 k2] 95) = w1 at *
  generalize w.heap.size = rb at *
  go_wp2_with fail
  with_reducible refine Calls.mono (F.out _ HK.out) ?_
  rintro e w2 ⟨d, hd, k2', hall, hres⟩
  rcases hres with ⟨u, hu, rfl⟩ | ⟨hu, rfl⟩
  · exact absurd (mem_kvs.2 ⟨_, hu⟩) (HKN.out u)
  · have hR2 := k2'.blk HR.out (fun f => f)
    have k02 := HK.out.trans k2'
    have hB2 := k02.blk HB.out (fun f => f)
    clear c0 c1
    have c0 := hR2.cell (o := 0) rfl
    have c1 := hR2.cell (o := 1) rfl
    have hp := pos_lt hH hd
    have hdist := dist_pos hH hd
    have P : Hid (FillP S (k1, k2) v g T w (.returned (.tuple #[])) ((((w2.setCell ⟨g, pos S.length (homeF S.length (k1, k2)) d * 4, none⟩ (.bool true)).setCell ⟨g, pos S.length (homeF S.length (k1, k2)) d * 4 + 1, none⟩ (.int .i64 k1)).setCell ⟨g, pos S.length (homeF S.length (k1, k2)) d * 4 + 2, none⟩ (.int .u64 k2)).setCell ⟨g, pos S.length (homeF S.length (k1, k2)) d * 4 + 3, none⟩ (ev v))) :=
      Lib.hid ⟨rfl, _, hu, fun e he => by rw [hdist] at he; obtain ⟨k', u', _, h⟩ := hall e he; exact ⟨_, h⟩, slot_set hB2 hp _ rfl, (k02.mono (fun _ _ f => f.elim)).trans (slot_kept w2 g _ _ _ _ _)⟩
    obtain ⟨q0, q1, q2, q3⟩ := slot_cells hB2 hu rfl
    have f0 := hB2.frozen (pos S.length (homeF S.length (k1, k2)) d * 4)
    have f1 := hB2.frozen (pos S.length (homeF S.length (k1, k2)) d * 4 + 1)
    have f2 := hB2.frozen (pos S.length (homeF S.length (k1, k2)) d * 4 + 2)
    have f3 := hB2.frozen (pos S.length (homeF S.length (k1, k2)) d * 4 + 3)
    have hbd := Lib.hid (run_bd k1 k2 v)
    clear hall hu hR2 k02 hB2 k2' HK HR hdist HKN F
    generalize pos S.length (homeF S.length (k1, k2)) d = p at *
    go_wp2_with (first | ((with_reducible refine wpList_index_run rfl 182 _ _ rfl (v := .pointer (some ⟨g, p * 4, none⟩)) ?_ ?_); exact run_ix g S.length hp _) | ((with_reducible refine wpList_build_run rfl 210 _ rfl (v := .agg #[.bool true, .int .i64 k1, .int .u64 k2, .pointer (some ⟨v, 0, none⟩)]) ?_ ?_); (simp only [List.map_toArray, List.map_cons, List.map_nil]; exact hbd.out _)))
    go_end0
    exact P.out
end Go.Proofs.YtjjamooihddkgaaGreat.TbP

