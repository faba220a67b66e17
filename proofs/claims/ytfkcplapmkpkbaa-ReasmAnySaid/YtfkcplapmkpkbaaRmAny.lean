/- Messages put together: the pieces of one message, by their numbers. Conditions: each theorem's own. -/
import Derived.Test.YtfkcplapmkpkbaaRmLaw
set_option linter.unusedVariables false
namespace Go.Proofs.Ytfkcplapmkpkbaa.Rm
open Go.RowKit Go.Deep Hp IvM RmM Go.Proofs.Ytfkcplapmkpkbaa.End
/-- A byte of piece k. -/
def Cov (sz n k : Nat) (x : Int) : Prop := ((k * sz : Nat) : Int) ≤ x ∧ x < ((min (k * sz + sz) n : Nat) : Int)
theorem cov_one {sz n j k : Nat} {x : Int} (h : Cov sz n j x) (h2 : Cov sz n k x) : j = k := by
  unfold Cov at h h2
  rcases Nat.lt_trichotomy j k with h3 | h3 | h3
  · have := Nat.mul_le_mul_right sz (show j + 1 ≤ k by omega)
    rw [Nat.add_mul, Nat.one_mul] at this
    omega
  · exact h3
  · have := Nat.mul_le_mul_right sz (show k + 1 ≤ j by omega)
    rw [Nat.add_mul, Nat.one_mul] at this
    omega
structure Bf (W : World) (b gb sz : Nat) (l : List UInt8) (G : List Bool) (w : World) : Prop where
  ex : ∃ F L D, BufV w W.heap.size F b l.length L D ∧ Agree L D l ∧ (∀ x, Has L x ↔ ∃ k, G[k]? = some true ∧ Cov sz l.length k x) ∧ ¬ F gb
  old : Old W w
  lo : W.heap.size ≤ gb
theorem Bf.kept {W w w' : World} {b gb sz : Nat} {l : List UInt8} {G : List Bool} (h : Bf W b gb sz l G w) (k : Kept (fun i => i = gb) w w') : Bf W b gb sz l G w' := by
  obtain ⟨F, L, D, h1, h2, h3, h4⟩ := h.ex
  exact ⟨⟨F, L, D, h1.kept k (fun i hi e => h4 (e ▸ hi)), h2, h3, h4⟩, h.old.trans' k (fun i hi e => by have := h.lo; omega), h.lo⟩
theorem Bf.same {W w w' : World} {b gb sz : Nat} {l : List UInt8} {G : List Bool} (h : Bf W b gb sz l G w) (k : Kept (fun _ => False) w w') : Bf W b gb sz l G w' := h.kept (k.mono fun _ _ f => f.elim)
theorem set_true {G : List Bool} {k j : Nat} (hk : k < G.length) : (G.set k true)[j]? = some true ↔ G[j]? = some true ∨ j = k := by
  by_cases h : j = k
  · subst h
    rw [List.getElem?_set_self hk]
    simp
  · rw [List.getElem?_set_ne (fun e => h e.symm)]
    simp [h]
theorem bf_put {W w : World} {b gb sz : Nat} {l : List UInt8} {G : List Bool} (h : Bf W b gb sz l G w) {c : List Value} {T : TypeId} (hgb : Blk w gb c T) {k : Nat} {q : Bool} (hq : G[k]? = some q) (hk : k * sz < l.length) (hsz : 1 ≤ sz)
    {b0 o cap m : Nat} (hB : Byt.Src W (.slice (some ⟨b0, o, none⟩) l.length cap) l) (hcap : cap ≤ 9223372036854775807) (hm : k * sz + m = min (k * sz + sz) l.length) :
    Calls Try.prog 9 #[.pointer (some ⟨b, 0, none⟩), .int .i64 ((k * sz : Nat) : Int), .slice (some ⟨b0, o + k * sz, none⟩) m (cap - k * sz)] w fun e w' =>
      e = .returned (.tuple #[.int .i64 (if q = true then 0 else (m : Int)), .int .i64 0]) ∧ Bf W b gb sz l (G.set k true) w' ∧ Blk w' gb c T := by
  obtain ⟨F, L, D, h1, h2, h3, h4⟩ := h.ex
  have hkG := (List.getElem?_eq_some_iff.1 hq).1
  have hlt : b0 < W.heap.size := by
    obtain ⟨_, _, e, hc, hs, _⟩ := hB
    cases e
    obtain ⟨_, _, e2, hlt, _⟩ := hs.resolve_left (fun e => by rw [e] at hk; simp at hk)
    cases e2
    exact hlt
  obtain ⟨_, _, _, hb⟩ := h1.bare
  have s1 := src_drop (hB.kept h.old) hk
  have hl1 : (l.drop (k * sz)).length = l.length - k * sz := List.length_drop
  rw [← hl1] at s1
  have s2 := src_take s1 (i := m) (by omega)
  have := put_part h1 h.old.size h2 rfl (off := k * sz) (m := m) s2 (fun e => by have := hb.own _ e; omega) (by omega) (by omega) (by omega)
  have hcv : ∀ x, (((k * sz : Nat) : Int) ≤ x ∧ x < ((k * sz : Nat) : Int) + (m : Nat)) ↔ Cov sz l.length k x := fun x => by
    unfold Cov
    rw [← hm]
    constructor <;> intro h <;> omega
  have hf : fr L ((k * sz : Nat) : Int) (((k * sz : Nat) : Int) + (m : Nat)) = if q = true then 0 else (m : Int) := by
    obtain ⟨f0, f1, f2, f3⟩ := fr_bd hb.set.good ((k * sz : Nat) : Int) m
    cases q with
    | true => exact f2.2 fun x x1 x2 => (h3 x).2 ⟨k, hq, (hcv x).1 ⟨x1, x2⟩⟩
    | false =>
      refine f3.2 fun x x1 x2 hx => ?_
      obtain ⟨j, hj, hc⟩ := (h3 x).1 hx
      have := cov_one hc ((hcv x).1 ⟨x1, x2⟩)
      rw [this, hq] at hj
      cases hj
  rw [hf] at this
  refine Calls.mono this ?_
  rintro e w' ⟨L', D', rfl, hB', ha, hx, hk'⟩
  refine ⟨rfl, ⟨⟨_, L', D', hB', ha, fun x => ?_, fun e => e.elim h4 (fun e => by have := hgb.lt; omega)⟩, h.old.trans' hk' (fun i hi e => by have := (hb.own _ e).1; omega), h.lo⟩, hk'.blk hgb h4⟩
  rw [hx, hcv, h3]
  constructor
  · rintro (⟨j, hj, hc⟩ | hc)
    · exact ⟨j, (set_true hkG).2 (Or.inl hj), hc⟩
    · exact ⟨k, (set_true hkG).2 (Or.inr rfl), hc⟩
  · rintro ⟨j, hj, hc⟩
    rcases (set_true hkG).1 hj with hj | rfl
    · exact Or.inl ⟨j, hj, hc⟩
    · exact Or.inr hc
theorem bf_all {sz n N : Nat} {G : List Bool} (hsz : 1 ≤ sz) (hN : n ≤ N * sz) (hall : ∀ k, k < N → G[k]? = some true) {x : Int} (h0 : 0 ≤ x) (h1 : x < (n : Int)) : ∃ k, G[k]? = some true ∧ Cov sz n k x := by
  obtain ⟨y, rfl⟩ : ∃ y : Nat, x = (y : Int) := ⟨x.toNat, by omega⟩
  have hd := Nat.div_add_mod y sz
  have hm := Nat.mod_lt y (show sz > 0 by omega)
  rw [Nat.mul_comm] at hd
  refine ⟨y / sz, hall _ ?_, ?_⟩
  · rw [Nat.div_lt_iff_lt_mul (by omega)]; omega
  · unfold Cov
    omega
theorem bf_yes {W w : World} {b gb sz N : Nat} {l : List UInt8} {G : List Bool} (h : Bf W b gb sz l G w) (hsz : 1 ≤ sz) (hN : l.length ≤ N * sz) (hall : ∀ k, k < N → G[k]? = some true) :
    Calls Try.prog 10 #[.pointer (some ⟨b, 0, none⟩)] w (DataP w l) := by
  obtain ⟨F, L, D, h1, h2, h3, h4⟩ := h.ex
  exact data_part h1 h2 rfl fun x x1 x2 => (h3 x).2 (bf_all hsz hN hall x1 x2)
theorem bf_no {W w : World} {b gb sz : Nat} {l : List UInt8} {G : List Bool} (h : Bf W b gb sz l G w) (hsz : 1 ≤ sz) {k : Nat} (hq : G[k]? = some false) (hk : k * sz < l.length) :
    Calls Try.prog 10 #[.pointer (some ⟨b, 0, none⟩)] w fun e w' => e = .returned (.tuple #[.slice none 0 0, .bool false]) ∧ Kept (fun _ => False) w w' := by
  obtain ⟨F, L, D, h1, h2, h3, h4⟩ := h.ex
  refine data_wants h1 (x := ((k * sz : Nat) : Int)) (by omega) (by omega) fun hx => ?_
  obtain ⟨j, hj, hc⟩ := (h3 _).1 hx
  have := cov_one hc (k := k) (by unfold Cov; omega)
  rw [this, hq] at hj
  cases hj
theorem bf_left {W w : World} {b gb sz N : Nat} {l : List UInt8} {G : List Bool} (h : Bf W b gb sz l G w) (hsz : 1 ≤ sz) (hN : l.length ≤ N * sz) (hall : ∀ k, k < N → G[k]? = some true) :
    Calls Try.prog 11 #[.pointer (some ⟨b, 0, none⟩)] w fun e w' => e = .returned (.int .i64 0) ∧ Kept (fun _ => False) w w' := by
  obtain ⟨F, L, D, h1, h2, h3, h4⟩ := h.ex
  obtain ⟨_, _, _, hb⟩ := h1.bare
  have e := (size_all hb.set.good).2 fun x x1 x2 => (h3 x).2 (bf_all hsz hN hall x1 x2)
  have := left_any h1
  rw [e, Int.sub_self] at this
  exact this
/-- How many are wanting. -/
def wants (G : List Bool) : Nat := G.count false
theorem wants_new (N : Nat) : wants (List.replicate N false) = N := by unfold wants; rw [List.count_replicate_self]
theorem wants_set {G : List Bool} {k : Nat} {q : Bool} (hq : G[k]? = some q) : wants (G.set k true) + (if q = true then 0 else 1) = wants G := by
  obtain ⟨hk, he⟩ := List.getElem?_eq_some_iff.1 hq
  unfold wants
  have h1 : G = G.take k ++ q :: G.drop (k + 1) := by
    rw [← he, List.getElem_cons_drop, List.take_append_drop]
  have h2 : G.set k true = G.take k ++ true :: G.drop (k + 1) := by rw [List.set_eq_take_append_cons_drop, if_pos hk]
  rw [h2]
  conv => rhs; rw [h1]
  rw [List.count_append, List.count_append, List.count_cons, List.count_cons]
  cases q <;> simp <;> omega
theorem wants_none {G : List Bool} {N : Nat} (hN : G.length = N) : wants G = 0 ↔ ∀ k, k < N → G[k]? = some true := by
  unfold wants
  rw [List.count_eq_zero]
  constructor
  · intro h k hk
    rw [List.getElem?_eq_getElem (by omega)]
    cases he : G[k]'(by omega) with
    | true => rfl
    | false => exact absurd (he ▸ List.getElem_mem _) h
  · intro h hm
    obtain ⟨k, hk, he⟩ := List.getElem_of_mem hm
    have := h k (by omega)
    rw [List.getElem?_eq_getElem hk, he] at this
    cases this
theorem wants_some {G : List Bool} (h : wants G ≠ 0) : ∃ k, k < G.length ∧ G[k]? = some false := by
  unfold wants at h
  have hm : false ∈ G := Classical.byContradiction fun hn => h (List.count_eq_zero.2 hn)
  obtain ⟨k, hk, he⟩ := List.getElem_of_mem hm
  exact ⟨k, hk, by rw [List.getElem?_eq_getElem hk, he]⟩
/-- So many pieces. -/
theorem pieces {n sz N : Nat} (h0 : 1 ≤ n) (hsz : 1 ≤ sz) (hN : N = (n + sz - 1) / sz) : 1 ≤ N ∧ N ≤ n ∧ n ≤ N * sz ∧ ∀ k, k < N → k * sz < n := by
  have hd := Nat.div_add_mod (n + sz - 1) sz
  have hm := Nat.mod_lt (n + sz - 1) (show sz > 0 by omega)
  rw [← hN, Nat.mul_comm] at hd
  have hle : n ≤ N * sz := by omega
  have h1 : 1 ≤ N := by
    rcases Nat.eq_zero_or_pos N with h | h
    · rw [h] at hle; omega
    · exact h
  have hk : ∀ k, k < N → k * sz < n := fun k hk => by
    have := Nat.mul_le_mul_right sz (show k + 1 ≤ N by omega)
    rw [Nat.add_mul, Nat.one_mul] at this
    omega
  refine ⟨h1, ?_, hle, hk⟩
  have := hk (N - 1) (by omega)
  have h2 := Nat.mul_le_mul_left (N - 1) hsz
  omega
end Go.Proofs.Ytfkcplapmkpkbaa.Rm
