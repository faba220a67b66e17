/- What is retired is known no more; what is above goes on; others' are untouched. Conditions: each theorem's own. -/
import Derived.Test.YtjjamooihddkgaaGreatPmG18
set_option linter.unusedVariables false
set_option linter.unusedSimpArgs false
namespace Go.Proofs.YtjjamooihddkgaaGreat.Pk
open Go.RowKit Go.Deep Hp TbM TbN Po Go.Proofs.YtjjamooihddkgaaGreat.End
open Ph (ptr)
open Pl (Ms)
open Pr (RcE Bf Piece)
open Rm (BufA Agree)
def TG (_ _ : Int) : List UInt8 := [1, 2]
variable {w0 w w' : World} {p n : Nat} {i : Nat} {tot : Nat} {M0 : Int} {K : List (Ky × Nat)} {W : Nat → Int × List Int} {L : List (Nat × Ms)} {Q : Nat → List UInt8} {B : Nat → Bf} {most mx : Nat}
theorem count {X : List Int} (hn : X.Nodup) {k : Nat} (h : ∀ x, x ∈ X ↔ 1 ≤ x ∧ x ≤ (k : Int)) : X.length = k := by
  have h2 : ((List.range k).map fun (j : Nat) => (j : Int) + 1).Nodup := by
    refine List.pairwise_map.2 ?_
    exact (List.nodup_range (n := k)).imp fun {a b} hab e => hab (by omega)
  have h3 : X.Perm ((List.range k).map fun (j : Nat) => (j : Int) + 1) := by
    rw [List.perm_ext_iff_of_nodup hn h2]
    intro x
    rw [h, List.mem_map]
    constructor
    · intro hx
      exact ⟨(x - 1).toNat, List.mem_range.2 (by omega), by omega⟩
    · rintro ⟨j, hj, rfl⟩
      have := List.mem_range.1 hj
      omega
  rw [h3.length_eq]; simp
theorem St.retire (h : St w0 w p most mx K W L Q B) {i : Nat} (hi : i < 8) (id : Int) : Calls Tryz.prog 30 #[ptr p, .int .i64 (i : Int), .int .u64 id] w fun e w' =>
    ∃ X R, e = .returned (.int .i64 (X.length : Nat)) ∧ X.Nodup ∧ (∀ x, x ∈ X ↔ x < id ∧ ∃ u, (((i : Int), x), u) ∈ K) ∧ Ph.Left K R i X ∧ St w0 w' p most mx R (fun j => if j = i then (IdM.retire (W i).1 (W i).2 id).2 else W j) L Q B := by
  obtain ⟨base, O, h1, ⟨s, tb, I, vs, ws, h⟩, h3⟩ := h
  refine (Pr.retire_any h hi id).mono ?_
  rintro e w' ⟨rfl, R, O', vs', hl, hR, hf⟩
  have hpl := IdM.place_le id (I i)
  have hasc := h.sh.asc i hi
  refine ⟨(I i).take (IdM.place id (I i)), R, by rw [List.length_take, Nat.min_eq_left hpl], ?_, fun x => ?_, hl, ⟨base, O', h1, ⟨s, tb, _, vs', ws, hR⟩, h3.trans' hf.kept (fun i hi e => by have := (h.sh.ow i e).1; omega)⟩⟩
  · exact (List.Pairwise.sublist (List.take_sublist _ _) hasc).imp fun hab e => by omega
  rw [← Ph.mem_ids, ← (h.ids i hi).mem_iff]
  constructor
  · intro hx
    obtain ⟨j, hj⟩ := List.mem_iff_getElem?.1 hx
    rw [List.getElem?_take] at hj
    split at hj
    · exact ⟨IdM.place_lt id (I i) j x (by assumption) hj, List.mem_of_getElem? hj⟩
    · cases hj
  · rintro ⟨h1, h2⟩
    obtain ⟨j, hj⟩ := List.mem_iff_getElem?.1 h2
    refine List.mem_iff_getElem?.2 ⟨j, ?_⟩
    rw [List.getElem?_take, if_pos ?_, hj]
    rcases Nat.lt_or_ge j (IdM.place id (I i)) with h3 | h3
    · exact h3
    · have := IdM.place_ge (h.sh.asc i hi) h3 hj; omega
theorem St.keys (h : St w0 w p most mx K W L Q B) : (K.map Prod.fst).Nodup := by
  obtain ⟨_, _, _, h7, _⟩ := h
  exact h7.keys
/-- Keys of the two hosts. -/
def Two (K : List (Ky × Nat)) (a b n : Int) : Prop := (∀ k u, (k, u) ∈ K → (k.1 = 1 ∧ a ≤ k.2 ∧ k.2 < n) ∨ (k.1 = 2 ∧ b ≤ k.2 ∧ k.2 < n)) ∧ (∀ x : Int, a ≤ x → x < n → ∃ u, (((1 : Int), x), u) ∈ K) ∧ ∀ x : Int, b ≤ x → x < n → ∃ u, (((2 : Int), x), u) ∈ K
/-- So many of each host have come in part. -/
def Rs (w0 w : World) (p : Nat) (a b : Nat) : Prop := ∃ K B, St w0 w p 50 100 K (fun _ => (1, [])) [] (fun _ => []) B ∧ Al TG K B ∧ K.length + 2 = a + b ∧
  (∀ k u, (k, u) ∈ K → (k.1 = 1 ∧ 1 ≤ k.2 ∧ k.2 < a) ∨ (k.1 = 2 ∧ 1 ≤ k.2 ∧ k.2 < b)) ∧ (∀ x : Int, 1 ≤ x → x < a → ∃ u, (((1 : Int), x), u) ∈ K) ∧ ∀ x : Int, 1 ≤ x → x < b → ∃ u, (((2 : Int), x), u) ∈ K
theorem Rs.new (w : World) : Calls Tryz.prog 26 #[.int .i64 50, .int .i64 100] w fun e w' => ∃ p, e = .returned (.tuple #[ptr p, .int .i64 0]) ∧ Rs w w' p 1 1 := by
  refine (Pr.newE (most := 50) (mx := 100) (by decide) (by decide) (by decide) w).mono ?_
  rintro e w' ⟨b, O, rfl, h, k⟩
  exact ⟨b, rfl, [], _, ⟨_, O, Nat.le_refl _, h, k⟩, fun _ _ h => by simp at h, rfl, fun _ _ h => by simp at h, fun x h1 h2 => by omega, fun x h1 h2 => by omega⟩
theorem Rs.one (h : Rs w0 w p i i) (h0 : 1 ≤ i) (hi : i ≤ 20) :
    Calls Tryz.prog 28 #[ptr p, .int .i64 1, .int .u64 (i : Int), .int .i64 2, .int .i64 0, .slice (some ⟨w.heap.size, 0, none⟩) 1 1] (w.alloc (.cells #[.int .u8 1] 5)) fun e w' =>
      e = .returned (.tuple #[.int .i64 1, .bool false, .int .i64 0]) ∧ Rs w0 w' p (i + 1) i := by
  obtain ⟨K, B, h, hA, hl, h1, h2, h3⟩ := h
  refine (halfF h (i := 1) (by decide) (id := i) (by omega) (x := 1) (y := 2) (z := 1) rfl ?_ (by simp) (fun u hu => ?_) (by omega) ?_ (by decide) rfl hA).mono ?_
  · simp [IdM.isE]; omega
  · have := h1 _ _ hu; dsimp only at this; omega
  · simp; omega
  · rintro e w' ⟨rfl, u, B', h4, h5⟩
    refine ⟨rfl, _, B', h4, h5, by simp; omega, fun k v hv => ?_, fun x hx hx2 => ?_, fun x hx hx2 => ?_⟩
    · rcases List.mem_cons.1 hv with e | hv
      · cases e; left; dsimp only; omega
      · have := h1 k v hv; omega
    · by_cases hxi : x = i
      · exact ⟨u, by rw [hxi]; exact List.mem_cons_self ..⟩
      · obtain ⟨v, hv⟩ := h2 x hx (by omega)
        exact ⟨v, List.mem_cons_of_mem _ hv⟩
    · obtain ⟨v, hv⟩ := h3 x hx (by omega)
      exact ⟨v, List.mem_cons_of_mem _ hv⟩
theorem Rs.two (h : Rs w0 w p (i + 1) i) (h0 : 1 ≤ i) (hi : i ≤ 20) :
    Calls Tryz.prog 28 #[ptr p, .int .i64 2, .int .u64 (i : Int), .int .i64 2, .int .i64 0, .slice (some ⟨w.heap.size, 0, none⟩) 1 1] (w.alloc (.cells #[.int .u8 1] 5)) fun e w' =>
      e = .returned (.tuple #[.int .i64 1, .bool false, .int .i64 0]) ∧ Rs w0 w' p (i + 1) (i + 1) := by
  obtain ⟨K, B, h, hA, hl, h1, h2, h3⟩ := h
  refine (halfF h (i := 2) (by decide) (id := i) (by omega) (x := 1) (y := 2) (z := 1) rfl ?_ (by simp) (fun u hu => ?_) (by omega) ?_ (by decide) rfl hA).mono ?_
  · simp [IdM.isE]; omega
  · have := h1 _ _ hu; dsimp only at this; omega
  · simp; omega
  · rintro e w' ⟨rfl, u, B', h4, h5⟩
    refine ⟨rfl, _, B', h4, h5, by simp; omega, fun k v hv => ?_, fun x hx hx2 => ?_, fun x hx hx2 => ?_⟩
    · rcases List.mem_cons.1 hv with e | hv
      · cases e; right; dsimp only; omega
      · have := h1 k v hv; omega
    · obtain ⟨v, hv⟩ := h2 x hx (by omega)
      exact ⟨v, List.mem_cons_of_mem _ hv⟩
    · by_cases hxi : x = i
      · exact ⟨u, by rw [hxi]; exact List.mem_cons_self ..⟩
      · obtain ⟨v, hv⟩ := h3 x hx (by omega)
        exact ⟨v, List.mem_cons_of_mem _ hv⟩
/-- How far the first host's window is. -/
def mk (below : Int) : Int := max 1 (min below 1152921504606846977)
/-- The rest: what is gone is gone, what is above goes on. -/
def Rt (w0 w : World) (p n : Nat) (M0 : Int) (tot : Nat) (a b : Nat) : Prop := ∃ K W L Q B, St w0 w p 50 100 K W L Q B ∧ Al TG K B ∧ W 1 = (max (a : Int) M0, []) ∧ W 2 = ((b : Int), []) ∧ K.length + L.length = tot ∧
  (∀ k u, (k, u) ∈ K → (k.1 = 1 ∧ max (a : Int) M0 ≤ k.2 ∧ k.2 < n + 1) ∨ (k.1 = 2 ∧ (b : Int) ≤ k.2 ∧ k.2 < n + 1)) ∧ (∀ x : Int, max (a : Int) M0 ≤ x → x < n + 1 → ∃ u, (((1 : Int), x), u) ∈ K) ∧ ∀ x : Int, (b : Int) ≤ x → x < n + 1 → ∃ u, (((2 : Int), x), u) ∈ K
theorem Rs.len (h : Rs w0 w p (n + 1) (n + 1)) : Calls Tryz.prog 33 #[ptr p] w fun e w' => e = .returned (.int .i64 (2 * (n : Int))) ∧ w = w' := by
  obtain ⟨K, B, h, hA, hl, h1, h2⟩ := h
  have := h.len
  rw [show ((K.length : Nat) : Int) = 2 * (n : Int) by omega] at this
  exact this
theorem retire_one (below : Int) : (IdM.retire 1 [] below).2 = (max ((1 : Nat) : Int) (mk below), []) := by
  unfold IdM.retire mk IdM.top
  split
  · rw [show max ((1 : Nat) : Int) (max 1 (min below 1152921504606846977)) = 1 by omega]
  · rw [IdM.goes_above (by simp)]
    rw [show max ((1 : Nat) : Int) (max 1 (min below 1152921504606846977)) = min below (1152921504606846976 + 1) by omega]
theorem Rs.retire (h : Rs w0 w p (n + 1) (n + 1)) (hn : n ≤ 20) {below : Int} {k : Nat} (hk : k = min n (below - 1).toNat) :
    Calls Tryz.prog 30 #[ptr p, .int .i64 1, .int .u64 below] w fun e w' => e = .returned (.int .i64 (k : Nat)) ∧ Rt w0 w' p n (mk below) (2 * n - k) 1 1 ∧
      Calls Tryz.prog 33 #[ptr p] w' (fun e w2 => e = .returned (.int .i64 (2 * (n : Int) - (k : Int))) ∧ w' = w2) := by
  obtain ⟨K, B, h, hA, hl, h1, h2, h3⟩ := h
  refine (h.retire (i := 1) (by decide) below).mono ?_
  rintro e w' ⟨X, R, rfl, hX, hx, hL, h4⟩
  have hx' : ∀ x, x ∈ X ↔ 1 ≤ x ∧ x ≤ (k : Int) := fun x => by
    rw [hx]
    constructor
    · rintro ⟨h5, u, hu⟩
      have := h1 _ _ hu
      dsimp only at this
      omega
    · intro h5
      exact ⟨by omega, h2 x (by omega) (by omega)⟩
  have hc := count hX hx'
  have hlen := hL.len
  refine ⟨by rw [hc], ⟨R, _, _, _, B, h4, fun kk u hu => hA kk u ((hL.mem _).1 hu).1, ?_, ?_, by simp; omega, fun kk u hu => ?_, fun x hx1 hx2 => ?_, fun x hx1 hx2 => ?_⟩, ?_⟩
  · rw [if_pos rfl]
    exact retire_one below
  · rfl
  · obtain ⟨h5, h6⟩ := (hL.mem _).1 hu
    rw [hx'] at h6
    have := h1 _ _ h5
    dsimp only at this h6
    unfold mk
    omega
  · obtain ⟨u, hu⟩ := h2 x (by omega) (by omega)
    refine ⟨u, (hL.mem _).2 ⟨hu, fun h6 => ?_⟩⟩
    have := (hx' _).1 h6.2
    dsimp only at this
    unfold mk at hx1
    omega
  · obtain ⟨u, hu⟩ := h3 x (by omega) (by omega)
    refine ⟨u, (hL.mem _).2 ⟨hu, fun h6 => ?_⟩⟩
    have := h6.1
    simp at this
  · have := h4.len
    rw [show ((R.length : Nat) : Int) = 2 * (n : Int) - (k : Int) by omega] at this
    exact this
theorem Rt.gone (h : Rt w0 w p n M0 tot i i) (h0 : 1 ≤ i) (hi : (i : Int) < M0) (hn : i ≤ 20) :
    Calls Tryz.prog 28 #[ptr p, .int .i64 1, .int .u64 (i : Int), .int .i64 2, .int .i64 1, .slice (some ⟨w.heap.size, 0, none⟩) 1 1] (w.alloc (.cells #[.int .u8 2] 5)) fun e w' =>
      e = .returned (.tuple #[.int .i64 0, .bool true, .int .i64 0]) ∧ Rt w0 w' p n M0 tot (i + 1) i := by
  obtain ⟨K, W, L, Q, B, h, hA, hW, hW2, hl, h1, h2, h3⟩ := h
  have h' := h.old (lit0_kept w 2)
  obtain ⟨base, O, h4, h5, h6⟩ := id h'
  refine (Pr.endedE h5 (i := 1) (by decide) (id := i) (by omega) (n := 2) (off := 1) (m := 1) (by decide) (by decide) ?_).mono ?_
  · rw [hW]; simp [IdM.isE]; omega
  · rintro e w' ⟨rfl, rfl⟩
    have e1 : max (((i + 1 : Nat)) : Int) M0 = max (i : Int) M0 := by omega
    exact ⟨rfl, K, W, L, Q, B, h', hA, by rw [e1]; exact hW, hW2, hl, by rw [e1]; exact h1, by rw [e1]; exact h2, h3⟩
theorem done_next' {i : Nat} (h : 1 ≤ i) (h2 : i ≤ 1000) : (IdM.done 50 (i : Int) [] (i : Int)).2 = (((i + 1 : Nat) : Int), []) := by
  unfold IdM.done
  rw [if_neg (by unfold IdM.top; omega), if_neg (by simp), if_pos rfl]
  rw [IdM.goes_above (by simp)]
  simp
theorem Rt.one (h : Rt w0 w p n M0 tot i i) (h0 : 1 ≤ i) (hM : ¬ (i : Int) < M0) (hi : i ≤ n) (hn : n ≤ 20) (ht : tot ≤ 40) :
    Calls Tryz.prog 28 #[ptr p, .int .i64 1, .int .u64 (i : Int), .int .i64 2, .int .i64 1, .slice (some ⟨w.heap.size, 0, none⟩) 1 1] (w.alloc (.cells #[.int .u8 2] 5)) fun e w' =>
      e = .returned (.tuple #[.int .i64 1, .bool true, .int .i64 0]) ∧ Rt w0 w' p n M0 tot (i + 1) i := by
  obtain ⟨K, W, L, Q, B, h, hA, hW, hW2, hl, h1, h2, h3⟩ := h
  rw [show max (i : Int) M0 = i by omega] at hW h1 h2
  obtain ⟨u, hu⟩ := h2 i (by omega) (by omega)
  refine (halfK h (i := 1) (by decide) (id := i) (by omega) (x := 1) (y := 2) (z := 2) rfl ?_ (by omega) (by decide) rfl hA hu).mono ?_
  · rw [hW]; simp [IdM.isE]
  · rintro e w' ⟨rfl, R, g, a, c, Q', B', hK, hQ, h4, h5⟩
    have hn2 := (hK.map Prod.fst).nodup_iff.1 h.keys
    rw [List.map_cons, List.nodup_cons] at hn2
    have hlen := hK.length_eq
    rw [List.length_cons] at hlen
    have e1 : max (((i + 1 : Nat)) : Int) M0 = ((i + 1 : Nat) : Int) := by omega
    refine ⟨rfl, R, _, _, Q', B', h4, h5, ?_, ?_, by simp; omega, ?_, ?_, ?_⟩
    · rw [if_pos rfl, hW, e1]
      exact done_next' h0 (by omega)
    · exact hW2
    · intro k v hv
      rw [e1]
      have h8 := h1 k v (hK.mem_iff.2 (List.mem_cons_of_mem _ hv))
      by_cases hne : k = (((1 : Nat) : Int), (i : Int))
      · exact absurd (List.mem_map.2 ⟨_, hv, hne⟩) hn2.1
      · obtain ⟨k1, k2⟩ := k
        have : ¬ (k1 = 1 ∧ k2 = (i : Int)) := fun e => hne (by rw [e.1, e.2]; rfl)
        dsimp only at h8 ⊢
        omega
    · intro x hx hx2
      rw [e1] at hx
      obtain ⟨v, hv⟩ := h2 x (by omega) hx2
      rcases List.mem_cons.1 (hK.mem_iff.1 hv) with e | hv
      · cases e; omega
      · exact ⟨v, hv⟩
    · intro x hx hx2
      obtain ⟨v, hv⟩ := h3 x hx hx2
      rcases List.mem_cons.1 (hK.mem_iff.1 hv) with e | hv
      · cases e
      · exact ⟨v, hv⟩
theorem Rt.two (h : Rt w0 w p n M0 tot (i + 1) i) (h0 : 1 ≤ i) (hi : i ≤ n) (hn : n ≤ 20) (ht : tot ≤ 40) :
    Calls Tryz.prog 28 #[ptr p, .int .i64 2, .int .u64 (i : Int), .int .i64 2, .int .i64 1, .slice (some ⟨w.heap.size, 0, none⟩) 1 1] (w.alloc (.cells #[.int .u8 2] 5)) fun e w' =>
      e = .returned (.tuple #[.int .i64 1, .bool true, .int .i64 0]) ∧ Rt w0 w' p n M0 tot (i + 1) (i + 1) := by
  obtain ⟨K, W, L, Q, B, h, hA, hW, hW2, hl, h1, h2, h3⟩ := h
  obtain ⟨u, hu⟩ := h3 i (by omega) (by omega)
  refine (halfK h (i := 2) (by decide) (id := i) (by omega) (x := 1) (y := 2) (z := 2) rfl ?_ (by omega) (by decide) rfl hA hu).mono ?_
  · rw [hW2]; simp [IdM.isE]
  · rintro e w' ⟨rfl, R, g, a, c, Q', B', hK, hQ, h4, h5⟩
    have hn2 := (hK.map Prod.fst).nodup_iff.1 h.keys
    rw [List.map_cons, List.nodup_cons] at hn2
    have hlen := hK.length_eq
    rw [List.length_cons] at hlen
    refine ⟨rfl, R, _, _, Q', B', h4, h5, ?_, ?_, by simp; omega, ?_, ?_, ?_⟩
    · exact hW
    · rw [if_pos rfl, hW2]
      exact done_next' h0 (by omega)
    · intro k v hv
      have h8 := h1 k v (hK.mem_iff.2 (List.mem_cons_of_mem _ hv))
      by_cases hne : k = (((2 : Nat) : Int), (i : Int))
      · exact absurd (List.mem_map.2 ⟨_, hv, hne⟩) hn2.1
      · obtain ⟨k1, k2⟩ := k
        have : ¬ (k1 = 2 ∧ k2 = (i : Int)) := fun e => hne (by rw [e.1, e.2]; rfl)
        dsimp only at h8 ⊢
        omega
    · intro x hx hx2
      obtain ⟨v, hv⟩ := h2 x hx hx2
      rcases List.mem_cons.1 (hK.mem_iff.1 hv) with e | hv
      · cases e
      · exact ⟨v, hv⟩
    · intro x hx hx2
      obtain ⟨v, hv⟩ := h3 x (by omega) hx2
      rcases List.mem_cons.1 (hK.mem_iff.1 hv) with e | hv
      · cases e; omega
      · exact ⟨v, hv⟩
theorem Rt.fin (h : Rt w0 w p n M0 tot (n + 1) (n + 1)) : Calls Tryz.prog 34 #[ptr p] w (fun e w' => e = .returned (.int .i64 (tot : Nat)) ∧ w = w') ∧
    Calls Tryz.prog 33 #[ptr p] w (fun e w' => e = .returned (.int .i64 0) ∧ w = w') ∧ Kept (fun _ => False) w0 w := by
  obtain ⟨K, W, L, Q, B, h, hA, hW, hW2, hl, h1, h2, h3⟩ := h
  obtain rfl : K = [] := by
    cases K with
    | nil => rfl
    | cons x K => obtain ⟨k, u⟩ := x; have := h1 k u (List.mem_cons_self ..); omega
  have hw := h.wait
  rw [show L.length = tot by simpa using hl] at hw
  exact ⟨hw, h.len, h.kept⟩
end Go.Proofs.YtjjamooihddkgaaGreat.Pk

