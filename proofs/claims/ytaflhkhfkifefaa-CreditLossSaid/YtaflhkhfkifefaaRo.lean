/- Rows of elements of whatever cells that begin anywhere in their block: append, copy, cut. Conditions: each theorem's own. -/
import Derived.Test.YtaflhkhfkifefaaTbRw
import Derived.Laws.CopyOwn
import Derived.Lib.AppendZeros
import Derived.Laws.Externs
set_option linter.unusedVariables false
namespace Go.Proofs.Ytaflhkhfkifefaa.Ro
open Go.RowKit Hp Rw
variable {α : Type} {t : Ty α}
theorem flat_take (t : Ty α) : ∀ (l : List α) (k : Nat), (flat t l).take (k * t.k) = flat t (l.take k)
  | [], k => by simp [flat]
  | x :: l, 0 => by simp [flat]
  | x :: l, k + 1 => by
    have := flat_take t l k
    unfold flat at this ⊢
    have e : (k + 1) * t.k = t.k + k * t.k := by rw [Nat.add_mul, Nat.one_mul, Nat.add_comm]
    rw [List.take_succ_cons, List.flatMap_cons, List.flatMap_cons, ← this, e, List.take_append, List.take_of_length_le (by rw [t.hk]; omega), t.hk, Nat.add_sub_cancel_left]
theorem flat_drop (t : Ty α) : ∀ (l : List α) (k : Nat), (flat t l).drop (k * t.k) = flat t (l.drop k)
  | [], k => by simp [flat]
  | x :: l, 0 => by simp [flat]
  | x :: l, k + 1 => by
    have := flat_drop t l k
    unfold flat at this ⊢
    have e : (k + 1) * t.k = t.k + k * t.k := by rw [Nat.add_mul, Nat.one_mul, Nat.add_comm]
    rw [List.drop_succ_cons, List.flatMap_cons, ← this, e, ← List.drop_drop]
    congr 1
    rw [List.drop_append_of_le_length (by rw [t.hk]; omega), List.drop_of_length_le (by rw [t.hk]; omega), List.nil_append]
theorem drop_splice {L cs : List Value} {o s : Nat} (hs : s ≤ o) : (splice L o cs).drop s = splice (L.drop s) (o - s) cs ∨ L.length < o := by
  rcases Nat.lt_or_ge L.length o with h | h
  · exact Or.inr h
  · left
    unfold splice
    rw [List.drop_append_of_le_length (by rw [List.length_take]; omega), List.drop_take, List.drop_drop]
    congr 3
    omega
theorem splice_take_end {L cs : List Value} {o : Nat} (ho : o ≤ L.length) (k : Nat) (hk : k = o + cs.length) : (splice L o cs).take k = L.take o ++ cs := by
  unfold splice
  have : (L.take o ++ cs).length = k := by rw [List.length_append, List.length_take]; omega
  rw [← List.append_assoc, ← this, List.take_left]
theorem splice_take_more {L cs : List Value} {o : Nat} (ho : o ≤ L.length) (k m : Nat) (hk : k = o + cs.length + m) : (splice L o cs).take k = L.take o ++ (cs ++ (L.drop (o + cs.length)).take m) := by
  unfold splice
  have e : (L.take o).length = o := by rw [List.length_take]; omega
  rw [List.take_append, List.take_of_length_le (l := L.take o) (by rw [e]; omega), e, List.take_append, List.take_of_length_le (l := cs) (by omega)]
  congr 3
  omega
theorem splice_take_le {L cs : List Value} {o : Nat} (ho : o ≤ L.length) {k : Nat} (hk : k ≤ o) : (splice L o cs).take k = L.take k := by
  unfold splice
  have e : (L.take o).length = o := by rw [List.length_take]; omega
  rw [List.take_append_of_le_length (by omega), List.take_take]
  congr 1; omega
theorem splice_mid {L cs : List Value} {o : Nat} (ho : o ≤ L.length) (k : Nat) (hk : k = cs.length) : ((splice L o cs).drop o).take k = cs := by
  unfold splice
  have e : (L.take o).length = o := by rw [List.length_take]; omega
  subst hk
  rw [List.drop_append_of_le_length (by omega), List.drop_of_length_le (by omega), List.nil_append, List.take_left]
/-- A row that begins at cell o of its block. -/
structure Lies (t : Ty α) (w : World) (g o cap : Nat) (cur : List Value) (l : List α) : Prop where
  blk : Blk w g cur t.E
  le : l.length ≤ cap
  most : cap ≤ maxLen
  fit : o + cap * t.k ≤ cur.length
  head : (cur.drop o).take (l.length * t.k) = flat t l
/-- A row. -/
def Row (t : Ty α) (w : World) (v : Value) (l : List α) : Prop :=
  (v = .slice none 0 0 ∧ l = []) ∨ ∃ g o cap cur, v = .slice (some ⟨g, o, none⟩) l.length cap ∧ Lies t w g o cap cur l
theorem Row.none (t : Ty α) (w : World) : Row t w (.slice none 0 0) [] := Or.inl ⟨rfl, rfl⟩
theorem Lies.row {w : World} {g o cap : Nat} {cur : List Value} {l : List α} (h : Lies t w g o cap cur l) : Row t w (.slice (some ⟨g, o, none⟩) l.length cap) l := Or.inr ⟨g, o, cap, cur, rfl, h⟩
theorem Lies.cur_at {w : World} {g o cap : Nat} {cur : List Value} {l : List α} (h : Lies t w g o cap cur l) {j : Nat} (hj : j < l.length * t.k) : cur[o + j]? = (flat t l)[j]? := by
  rw [← h.head, List.getElem?_take, if_pos hj, List.getElem?_drop]
theorem Lies.cell {w : World} {g o cap : Nat} {cur : List Value} {l : List α} (h : Lies t w g o cap cur l) {i : Nat} {x : α} (hi : l[i]? = some x) {j : Nat} {u : Value} (hu : (t.enc x)[j]? = some u) : w.cell? ⟨g, o + i * t.k + j, none⟩ = some u := by
  have hj : j < t.k := by have := (List.getElem?_eq_some_iff.1 hu).1; rwa [t.hk] at this
  have hil := (List.getElem?_eq_some_iff.1 hi).1
  refine h.blk.cell ?_
  rw [Nat.add_assoc, h.cur_at ?_, flat_at t hi hj, hu]
  have : (i + 1) * t.k ≤ l.length * t.k := Nat.mul_le_mul_right _ hil
  rw [Nat.add_mul, Nat.one_mul] at this
  omega
theorem Lies.kept {w w' : World} {F : Nat → Prop} {g o cap : Nat} {cur : List Value} {l : List α} (h : Lies t w g o cap cur l) (k : Kept F w w') (hF : ¬ F g) : Lies t w' g o cap cur l := ⟨k.blk h.blk hF, h.le, h.most, h.fit, h.head⟩
theorem Lies.drew {w : World} {g o cap : Nat} {cur : List Value} {l : List α} (h : Lies t w g o cap cur l) : Lies t w.drew g o cap cur l := ⟨h.blk.drew, h.le, h.most, h.fit, h.head⟩
theorem Row.kept {w w' : World} {F : Nat → Prop} {v : Value} {l : List α} (h : Row t w v l) (k : Kept F w w') (hF : ∀ g, v.ownBlock = some g → ¬ F g) : Row t w' v l := by
  rcases h with h | ⟨g, o, cap, cur, rfl, h⟩
  · exact Or.inl h
  · exact (h.kept k (hF g rfl)).row
theorem Row.old {w w' : World} {v : Value} {l : List α} (h : Row t w v l) (k : Kept (fun _ => False) w w') : Row t w' v l := h.kept k (fun _ _ f => f)
theorem Row.lt {w : World} {v : Value} {l : List α} (h : Row t w v l) : ∀ g, v.ownBlock = some g → g < w.heap.size := by
  rcases h with ⟨rfl, _⟩ | ⟨g, o, cap, cur, rfl, h⟩
  · intro g e; cases e
  · intro g' e; cases e; exact h.blk.lt
theorem Row.slice {w : World} {v : Value} {l : List α} (h : Row t w v l) : ∃ a c, v = .slice a l.length c ∧ l.length ≤ c ∧ c ≤ maxLen := by
  rcases h with ⟨rfl, rfl⟩ | ⟨g, o, cap, cur, rfl, h2⟩
  · exact ⟨_, 0, rfl, Nat.le_refl _, by decide⟩
  · exact ⟨_, cap, rfl, h2.le, h2.most⟩
/-- A row of its own type that begins its block. -/
theorem of_rw {w : World} {base : Nat} {v : Value} {l : List α} (h : Rw.Row t w base v l) : Row t w v l := by
  rcases h.form with ⟨rfl, rfl⟩ | ⟨g, cap, cur, rfl, _, h2⟩
  · exact Or.inl ⟨rfl, rfl⟩
  · exact Or.inr ⟨g, 0, cap, cur, rfl, ⟨h2.blk, h2.le, h2.most, by rw [h2.len]; omega, by rw [List.drop_zero]; exact h2.head⟩⟩
/-- A part of a row. -/
theorem Lies.part {w : World} {g o cap : Nat} {cur : List Value} {l : List α} (h : Lies t w g o cap cur l) (i n : Nat) (hn : i + n ≤ l.length) : ∀ j u, (flat t ((l.drop i).take n))[j]? = some u → w.cell? ((⟨g, o + i * t.k, none⟩ : Addr).add j) = some u := by
  intro j u hj
  have hjl := (List.getElem?_eq_some_iff.1 hj).1
  rw [flat_len, List.length_take, List.length_drop, Nat.min_eq_left (by omega)] at hjl
  have hm : (i + n) * t.k ≤ l.length * t.k := Nat.mul_le_mul_right _ hn
  rw [Nat.add_mul] at hm
  rw [← flat_take, List.getElem?_take, if_pos hjl, ← flat_drop, List.getElem?_drop] at hj
  rw [Go.WideShapes.add_plain, Nat.add_assoc]
  refine h.blk.cell ?_
  rw [h.cur_at (by omega)]
  exact hj
theorem Lies.src {w : World} {g o cap : Nat} {cur : List Value} {l : List α} (h : Lies t w g o cap cur l) (i n c : Nat) (hn : i + n ≤ l.length) : Src t w (.slice (some ⟨g, o + i * t.k, none⟩) n c) ((l.drop i).take n) := by
  have hl : ((l.drop i).take n).length = n := by rw [List.length_take, List.length_drop]; omega
  exact Or.inr ⟨_, c, by rw [hl], h.part i n hn⟩
theorem Row.src {w : World} {v : Value} {l : List α} (h : Row t w v l) : Src t w v l := by
  rcases h with ⟨rfl, rfl⟩ | ⟨g, o, cap, cur, rfl, h2⟩
  · exact Or.inl ⟨rfl, rfl⟩
  · have := h2.src 0 l.length cap (by omega)
    rw [List.drop_zero, List.take_length, Nat.zero_mul, Nat.add_zero] at this
    exact this
/-- Without its first ones. -/
theorem Lies.cut {w : World} {g o cap : Nat} {cur : List Value} {l : List α} (h : Lies t w g o cap cur l) {n : Nat} (hn : n ≤ l.length) : Row t w (.slice (some ⟨g, o + n * t.k, none⟩) (l.length - n) (cap - n)) (l.drop n) := by
  have hl : (l.drop n).length = l.length - n := List.length_drop
  have hc := h.le
  have hf := h.fit
  have hnk : (n + (cap - n)) * t.k = cap * t.k := by rw [Nat.add_sub_cancel' (by omega)]
  rw [Nat.add_mul] at hnk
  refine Or.inr ⟨g, o + n * t.k, cap - n, cur, by rw [hl], ⟨h.blk, by omega, by have := h.most; omega, by omega, ?_⟩⟩
  have e : (n + (l.length - n)) * t.k = l.length * t.k := by rw [Nat.add_sub_cancel' hn]
  rw [Nat.add_mul] at e
  rw [hl, ← List.drop_drop, ← flat_drop, ← h.head, List.drop_take, show l.length * t.k - n * t.k = (l.length - n) * t.k by omega]
/-- Cut at its room's end: none is left. -/
theorem Lies.cut_all {w : World} {g o cap : Nat} {cur : List Value} {l : List α} (h : Lies t w g o cap cur l) : Row t w (.slice (some ⟨g, o, none⟩) 0 0) (l.drop l.length) := by
  have hf := h.fit
  rw [List.drop_length]
  exact Or.inr ⟨g, o, 0, cur, rfl, ⟨h.blk, Nat.le_refl _, by decide, by omega, by simp [flat]⟩⟩
theorem row_set {w : World} {g : Nat} {cur : List Value} {T : TypeId} (hB : Blk w g cur T) (cs : List Value) : Blk (w.setRow g cs.toArray) g cs T ∧ Kept (fun k => k = g) w (w.setRow g cs.toArray) :=
  ⟨setRow_heap w g _ _ _ _ hB, ⟨rfl, rfl, rfl, by simp [World.setRow], fun k _ hk => setRow_other w g k _ (fun e => hk e)⟩⟩
theorem run_cp {w : World} {g : Nat} {cur : List Value} (t : Ty α) (hB : Blk w g cur t.E) (ty : TypeId) (o dLen dCap : Nat) (a : Addr) (sLen sCap n : Nat) (cs : List Value) (hn : n = Nat.min sLen dLen) (hl : cs.length = n * t.k)
    (hsrc : ∀ j v, cs[j]? = some v → w.cell? (a.add j) = some v) (hfit : o + cs.length ≤ cur.length) (h1 : ∀ v ∈ cs, v.oneCell' = true) :
    ∃ w', (Builtin.copy_ #[t.L, t.L] ty #[.slice (some ⟨g, o, none⟩) dLen dCap, .slice (some a) sLen sCap]).run Try.prog w = .ok (goInt n) w' ∧ Blk w' g (splice cur o cs) t.E ∧ Kept (fun k => k = g) w w' := by
  obtain ⟨i, hi, hz0, hz1, hz2⟩ := info_parts t.hI
  have hld := run_loadCells_list (P := Try.prog) w a cs hsrc
  have hst := run_storeCells_at Try.prog g o t.E cs 0 cur.toArray w hB (by simpa using hfit) h1
  simp only [Nat.add_zero] at hst
  have hs := row_set hB (splice cur o cs)
  refine ⟨_, ?_, hs.1, hs.2⟩
  have e : Nat.min sLen dLen * t.k = cs.length := by rw [hl, hn]
  have e2 : cur.toArray.toList.take o ++ cs ++ cur.toArray.toList.drop (o + cs.length) = splice cur o cs := by simp [splice]
  rw [e2] at hst
  simp [Builtin.copy_, run_underlying t.hL, Builtin.lenOf, Builtin.firstCells, sizeOf, typeInfo, hi, hz1, e, hld, hst, hn]
/-- So many zero cells. -/
def zeros (t : Ty α) (n : Nat) : List Value := (Builtin.zeroCells t.z.cells n).toList
theorem zeros_len (t : Ty α) (n : Nat) : (zeros t n).length = n * t.k := by unfold zeros; rw [Array.length_toList, size_zeroCells, t.hz]
/-- What an append leaves: a row that was there or is new. -/
structure Apd (t : Ty α) (w : World) (v : Value) (l : List α) (v' : Value) (w' : World) : Prop where
  row : Row t w' v' l
  kept : Kept (fun k => v.ownBlock = some k) w w'
  lies : ∀ g, v'.ownBlock = some g → v.ownBlock = some g ∨ w.heap.size ≤ g
/-- In a new block. -/
theorem grown {w : World} {v : Value} (t : Ty α) (l : List α) {c : Nat} (h : l.length ≤ c) (hM : c ≤ maxLen) : Apd t w v l (.slice (some ⟨w.heap.size, 0, none⟩) l.length c) (w.drew.alloc (.cells (flat t l ++ zeros t (c - l.length)).toArray t.E)) := by
  have hB := Blk.new w.drew (flat t l ++ zeros t (c - l.length)) t.E
  have e : (l.length + (c - l.length)) * t.k = c * t.k := by rw [Nat.add_sub_cancel' h]
  rw [Nat.add_mul] at e
  refine ⟨Or.inr ⟨w.heap.size, 0, c, _, rfl, ⟨hB, h, hM, ?_, ?_⟩⟩, ((Kept.refl (fun _ => False) w).drew.alloc _).mono (fun _ _ f => f.elim), fun g hg => ?_⟩
  · rw [List.length_append, flat_len, zeros_len]; omega
  · rw [List.drop_zero, ← flat_len, List.take_left]
  · cases hg; exact Or.inr (Nat.le_refl _)
theorem run_room {w : World} {g o cap : Nat} {cur : List Value} {l K : List α} (h : Lies t w g o cap cur l) (ty : TypeId) (a : Addr) (c : Nat) (hc : ∀ j u, (flat t K)[j]? = some u → w.cell? (a.add j) = some u) (hr : l.length + K.length ≤ cap) :
    ∃ w', (Builtin.append_ #[t.L, t.L] ty #[.slice (some ⟨g, o, none⟩) l.length cap, .slice (some a) K.length c]).run Try.prog w = .ok (.slice (some ⟨g, o, none⟩) (l.length + K.length) cap) w' ∧ Blk w' g (splice cur (o + l.length * t.k) (flat t K)) t.E ∧ Kept (fun k => k = g) w w' := by
  obtain ⟨i, hi, hz0, hz1, hz2⟩ := info_parts t.hI
  have hk : (l.length + K.length) * t.k ≤ cap * t.k := Nat.mul_le_mul_right _ hr
  rw [Nat.add_mul] at hk
  have hf := h.fit
  have hfc := run_firstCells_some (P := Try.prog) w t.k K.length a K.length c (flat t K) (flat_len t K) hc
  have hst := run_storeCells_at Try.prog g (o + l.length * t.k) t.E (flat t K) 0 cur.toArray w h.blk (by rw [flat_len, List.size_toArray]; omega) (flat_one t)
  simp only [Nat.add_zero] at hst
  have hs := row_set h.blk (splice cur (o + l.length * t.k) (flat t K))
  refine ⟨_, ?_, hs.1, hs.2⟩
  have e2 : cur.toArray.toList.take (o + l.length * t.k) ++ flat t K ++ cur.toArray.toList.drop (o + l.length * t.k + (flat t K).length) = splice cur (o + l.length * t.k) (flat t K) := by simp [splice]
  rw [e2] at hst
  simp [Builtin.append_, run_underlying t.hL, sizeOf, typeInfo, hi, Builtin.lenOf, hr, hfc, Go.WideShapes.add_plain, hz1, hst]
theorem room_lies {w w' : World} {g o cap : Nat} {cur : List Value} {l K : List α} (h : Lies t w g o cap cur l) (hr : l.length + K.length ≤ cap) (hB : Blk w' g (splice cur (o + l.length * t.k) (flat t K)) t.E) : Lies t w' g o cap (splice cur (o + l.length * t.k) (flat t K)) (l ++ K) := by
  have hk : (l.length + K.length) * t.k ≤ cap * t.k := Nat.mul_le_mul_right _ hr
  rw [Nat.add_mul] at hk
  have hf := h.fit
  have hfl := flat_len t K
  refine ⟨hB, by rw [List.length_append]; exact hr, h.most, by rw [length_splice _ _ _ (by omega)]; exact hf, ?_⟩
  rw [(drop_splice (Nat.le_add_right o (l.length * t.k))).resolve_right (by omega), Nat.add_sub_cancel_left, List.length_append, Nat.add_mul, splice_take_end (by rw [List.length_drop]; omega) _ (by omega), h.head, flat_append]
theorem run_app {w : World} {v v2 : Value} {K K2 : List α} (ty : TypeId) (h1 : Row t w v K) (h2 : Src t w v2 K2) (hsm : K.length + K2.length ≤ 1000000) :
    ∃ v' w', (Builtin.append_ #[t.L, t.L] ty #[v, v2]).run Try.prog w = .ok v' w' ∧ Apd t w v (K ++ K2) v' w' := by
  obtain ⟨ti, hti, hz0, hz1, hz2⟩ := info_parts t.hI
  have hbb : (K.length + K2.length) * t.bz ≤ 1000000 * 128 := Nat.mul_le_mul hsm t.hb
  have nothing : ∀ v2, (Builtin.lenOf v2).run Try.prog w = .ok 0 w → (Builtin.firstCells ti.size 0 v2).run Try.prog w = .ok #[] w → (Builtin.append_ #[t.L, t.L] ty #[v, v2]).run Try.prog w = .ok v w := by
    intro v2 e1 e2
    rcases h1 with ⟨rfl, rfl⟩ | ⟨g, o, cap, cur, rfl, h1⟩
    · simp [Builtin.append_, run_underlying t.hL, sizeOf, typeInfo, hti, e1, e2]
    · have := h1.le
      simp [Builtin.append_, run_underlying t.hL, sizeOf, typeInfo, hti, e1, e2, this, storeCells]
  rcases h2 with ⟨rfl, rfl⟩ | ⟨a, c, rfl, hc⟩
  · exact ⟨v, w, nothing _ (by simp [Builtin.lenOf]) (by simp [Builtin.firstCells]), ⟨by rw [List.append_nil]; exact h1, Kept.refl _ w, fun g hg => Or.inl hg⟩⟩
  · rcases h1 with ⟨rfl, rfl⟩ | ⟨g, o, cap, cur, rfl, h1⟩
    · by_cases hm : K2.length = 0
      · obtain rfl := List.length_eq_zero_iff.1 hm
        refine ⟨_, w, nothing _ (by simp [Builtin.lenOf]) (by simp [Builtin.firstCells, loadCells, loadCellsFrom]), ⟨Or.inl ⟨rfl, rfl⟩, Kept.refl _ w, fun g hg => Or.inl hg⟩⟩
      · have hr := run_append_nil (P := Try.prog) w t.L ty t.E ti t.z t.hL hti hz0 a K2.length c (flat t K2) (by rw [hz1]; exact flat_len t K2) hc (by omega) (by simp at hsm; omega) (by rw [hz2]; simp at hbb; omega)
        refine ⟨_, _, hr, ?_⟩
        have hg := grown (w := w) (v := .slice none 0 0) t K2 (grownCap_ge w K2.length 0 t.E) (grownCap_le_maxLen w K2.length 0 t.E (by simp at hsm; unfold maxLen; omega))
        have e : (flat t K2).toArray ++ Builtin.zeroCells t.z.cells (grownCap w K2.length 0 t.E - K2.length) = (flat t K2 ++ zeros t (grownCap w K2.length 0 t.E - K2.length)).toArray := by apply Array.ext'; simp [zeros]
        rw [e]
        exact hg
    · rcases Nat.lt_or_ge cap (K.length + K2.length) with hg | hg
      · have hr := run_append_grow (P := Try.prog) w t.L ty t.E ti t.z t.hL hti hz0 ⟨g, o, none⟩ K.length cap (flat t K) (by rw [hz1]; exact flat_len t K)
          (fun j u hj => by
            have := h1.part 0 K.length (by omega) j u
            rw [List.drop_zero, List.take_length, Nat.zero_mul, Nat.add_zero] at this
            exact this hj)
          a K2.length c (flat t K2) (by rw [hz1]; exact flat_len t K2) hc hg (by omega) (growslice_fits hg (by rw [hz2]; omega))
        refine ⟨_, _, hr, ?_⟩
        have hl : (K ++ K2).length = K.length + K2.length := List.length_append
        have hgr := grown (w := w) (v := .slice (some ⟨g, o, none⟩) K.length cap) t (K ++ K2) (c := grownCap w (K.length + K2.length) cap t.E) (by rw [hl]; exact grownCap_ge w _ cap t.E) (grownCap_le_maxLen w _ cap t.E (by unfold maxLen; omega))
        rw [hl, flat_append] at hgr
        have e : (flat t K).toArray ++ (flat t K2).toArray ++ Builtin.zeroCells t.z.cells (grownCap w (K.length + K2.length) cap t.E - (K.length + K2.length)) = (flat t K ++ flat t K2 ++ zeros t (grownCap w (K.length + K2.length) cap t.E - (K.length + K2.length))).toArray := by apply Array.ext'; simp [zeros]
        rw [e]
        exact hgr
      · obtain ⟨w', hr, hB, hk⟩ := run_room h1 ty a c hc hg
        have hL := room_lies h1 hg hB
        have hrow := hL.row
        rw [List.length_append] at hrow
        exact ⟨_, w', hr, ⟨hrow, hk.mono (fun k _ e => by rw [e]; rfl), fun q hq => by cases hq; exact Or.inl rfl⟩⟩
theorem wp_app {w : World} {o : Oper} {a : Act} {K0 : Act → World → Prop} {Q : Exit → Act → World → Prop} (t : Ty α) (s x : Operand)
    (ho : o.op = .call { callee := .builtin .append, args := #[s, x], argTypes := #[t.L, t.L] })
    {v v2 : Value} {K K2 : List α} (hs : a.eval s = v) (h1 : Row t w v K) (hx : a.eval x = v2) (h2 : Src t w v2 K2) (hsm : K.length + K2.length ≤ 1000000)
    (h : ∀ v' w', Apd t w v (K ++ K2) v' w' → K0 (a.put o.dst v') w') : o.wp Try.prog a w K0 Q := by
  obtain ⟨v', w', hr, hA⟩ := run_app o.type h1 h2 hsm
  unfold Oper.wp execOp
  simp only [ho, resolve, invoke, builtin, Sem.run_bind, Sem.run_pure, Result.andThen_ok, List.map_toArray, List.map_cons, List.map_nil, hs, hx, hr]
  exact h v' w' hA
/-- In a plain region. -/
theorem wpList_app {w : World} {ops : Array Oper} {rest : List Oper} {o : Oper} {a : Act} {Q : Exit → Act → World → Prop} (t : Ty α) (hgd : o.guard = none) (s x : Operand)
    (ho : o.op = .call { callee := .builtin .append, args := #[s, x], argTypes := #[t.L, t.L] })
    {v v2 : Value} {K K2 : List α} (hs : a.eval s = v) (h1 : Row t w v K) (hx : a.eval x = v2) (h2 : Src t w v2 K2) (hsm : K.length + K2.length ≤ 1000000)
    (h : ∀ v' w', Apd t w v (K ++ K2) v' w' → wpList Try.prog ops Q rest (a.put o.dst v') w') : wpList Try.prog ops Q (o :: rest) a w :=
  wpList_plain hgd fun _ hK => wp_app t s x ho hs h1 hx h2 hsm fun v' w' hA => hK _ _ (h v' w' hA)
/-- In a region that draws. -/
theorem step_app {ops : Array Oper} {o : Oper} {a : Act} {w : World} {K0 : Act → World → Prop} {Q : Exit → Act → World → Prop} {E : Prop} (t : Ty α)
    (hg : o.guard = none) (s x : Operand) (ho : o.op = .call { callee := .builtin .append, args := #[s, x], argTypes := #[t.L, t.L] })
    {v v2 : Value} {K K2 : List α} (hs : a.eval s = v) (h1 : Row t w v K) (hx : a.eval x = v2) (h2 : Src t w v2 K2) (hsm : K.length + K2.length ≤ 1000000)
    (h : ∀ v' w', Apd t w v (K ++ K2) v' w' → K0 (a.put o.dst v') w') :
    if Region.wanted o (yielded ops a.tmps) = true then Oper.wp Try.prog o a w K0 Q else E := by
  have hw : Region.wanted o (yielded ops a.tmps) = true := by simp [Region.wanted, hg]
  rw [if_pos hw]
  exact wp_app t s x ho hs h1 hx h2 hsm h
theorem wp_copy_run {w : World} {o : Oper} {a : Act} {K : Act → World → Prop} {Q : Exit → Act → World → Prop} (d s : Operand) (t t' : TypeId)
    (ho : o.op = .call { callee := .builtin .copy, args := #[d, s], argTypes := #[t, t'] }) {v u : Value} (hd : a.eval d = v) (hs : a.eval s = u) {v' : Value} {w' : World}
    (hr : (Builtin.copy_ #[t, t'] o.type #[v, u]).run Try.prog w = .ok v' w') (h : K (a.put o.dst v') w') : o.wp Try.prog a w K Q := by
  unfold Oper.wp execOp
  simp only [ho, resolve, invoke, builtin, Sem.run_bind, Sem.run_pure, Result.andThen_ok, List.map_toArray, List.map_cons, List.map_nil, hd, hs, hr]
  exact h
theorem wpList_copy_run {w : World} {ops : Array Oper} {rest : List Oper} {o : Oper} {a : Act} {Q : Exit → Act → World → Prop} (hgd : o.guard = none) (d s : Operand) (t t' : TypeId)
    (ho : o.op = .call { callee := .builtin .copy, args := #[d, s], argTypes := #[t, t'] }) {v u : Value} (hd : a.eval d = v) (hs : a.eval s = u) {v' : Value} {w' : World}
    (hr : (Builtin.copy_ #[t, t'] o.type #[v, u]).run Try.prog w = .ok v' w') (h : wpList Try.prog ops Q rest (a.put o.dst v') w') : wpList Try.prog ops Q (o :: rest) a w :=
  wpList_plain hgd fun _ hK => wp_copy_run d s t t' ho hd hs hr (hK _ _ h)
theorem step_copy_run {ops : Array Oper} {o : Oper} {a : Act} {w : World} {K : Act → World → Prop} {Q : Exit → Act → World → Prop} {E : Prop}
    (hg : o.guard = none) (d x : Operand) (dT sT : TypeId) (hop : o.op = Op.call { callee := Callee.builtin Builtin.copy, args := #[d, x], argTypes := #[dT, sT] })
    {v u : Value} (hd : a.eval d = v) (hx : a.eval x = u) {v' : Value} {w' : World} (hr : (Builtin.copy_ #[dT, sT] o.type #[v, u]).run Try.prog w = .ok v' w') (hK : K (a.put o.dst v') w') :
    if Region.wanted o (yielded ops a.tmps) = true then Oper.wp Try.prog o a w K Q else E := by
  have hw : Region.wanted o (yielded ops a.tmps) = true := by simp [Region.wanted, hg]
  rw [if_pos hw]
  exact wp_copy_run d x dT sT hop hd hx hr hK
/-- 'append(s[:i], make([]T, m)...)' where it must grow. -/
theorem run_zeros {w : World} {g o cap : Nat} {cur : List Value} {l : List α} (h : Lies t w g o cap cur l) (T ty : TypeId) (hT : Try.prog.underlying T = some (.int .i64)) (i m : Nat) (hi : i ≤ l.length) (hg : cap < i + m) (hsm : i + m ≤ 1000000) (hkb : 0 < t.k) :
    ∃ c' r, (Builtin.append_ #[t.L, T] ty #[.slice (some ⟨g, o, none⟩) i cap, .int .i64 (m : Int)]).run Try.prog w =
      .ok (.slice (some ⟨w.heap.size, 0, none⟩) (i + m) c') (w.drew.alloc (.cells (flat t (l.take i) ++ (zeros t m ++ zeros t r)).toArray t.E)) ∧ i + m + r = c' ∧ c' ≤ maxLen := by
  obtain ⟨ti, hti, hz0, hz1, hz2⟩ := info_parts t.hI
  have hge := grownCap_ge w (i + m) cap t.E
  refine ⟨grownCap w (i + m) cap t.E, grownCap w (i + m) cap t.E - (i + m), ?_, by omega, grownCap_le_maxLen w (i + m) cap _ (by unfold maxLen; omega)⟩
  have hbb : (i + m) * t.bz ≤ 1000000 * 128 := Nat.mul_le_mul hsm t.hb
  have hbb2 : m * t.bz ≤ (i + m) * t.bz := Nat.mul_le_mul_right _ (by omega)
  have hw : IntKind.i64.wrap (m : Int) = m := by rw [IntKind.wrap_i64]; omega
  have hneg : ¬ ((m : Int) < 0) := by omega
  have hm : 0 < m := by have := h.le; omega
  have hns : ¬ (m * t.k = 0) := Nat.ne_of_gt (Nat.mul_pos hm hkb)
  have hn : ¬ (i + m ≤ cap) := by omega
  have h63' : ¬ (9223372036854775807 < ((i : Int) + (m : Int))) := by omega
  have h48i : ¬ (281474976710656 < (m : Int) * (t.bz : Int)) := by
    have : ((m * t.bz : Nat) : Int) = (m : Int) * (t.bz : Int) := Int.natCast_mul _ _
    omega
  have h48' : ¬ (281474976710656 < Builtin.nextslicecap (i + m) cap * t.bz) := by have := growslice_fits (bytes := t.bz) hg (by omega); omega
  have hfo := run_firstCells_some (P := Try.prog) w.drew t.k i ⟨g, o, none⟩ i cap (flat t (l.take i)) (by rw [flat_len, List.length_take, Nat.min_eq_left (by omega)]) (fun j v hj => by
    have := h.drew.part 0 i (by omega) j v
    rw [List.drop_zero, Nat.zero_mul, Nat.add_zero] at this
    exact this hj)
  unfold zeros
  simp [Builtin.append_, run_underlying t.hL, run_underlying hT, sizeOf, typeInfo, zeroValue, hti, hz0, hz1, hz2, asInt, asIntOf, hw, hneg, hns, h48i, hn, h63', h48', Question.forced, hfo, newRow, grownCap]
  refine congrArg (fun c => w.drew.alloc (Obj.cells c t.E)) ?_
  apply Array.ext'
  simp only [Array.toList_append]
/-- One put in the midst, where it must grow. -/
theorem mid_grow {cur0 cur1 cur2 : List Value} {l : List α} {i m r c' g : Nat} {p : α} {w : World} (hi : i < l.length) (hm : m = l.length + 1 - i) (h0 : cur0 = flat t (l.take i) ++ (zeros t m ++ zeros t r)) (hc : i + m + r = c') (hM : c' ≤ maxLen)
    (h1 : cur1 = splice cur0 (i * t.k) (t.enc p)) (h2 : cur2 = splice cur1 ((i + 1) * t.k) (flat t (l.drop i))) (hB : Blk w g cur2 t.E) : Lies t w g 0 c' cur2 (l.take i ++ p :: l.drop i) := by
  have hrc := t.hk p
  have hfl := flat_len t (l.drop i)
  have hft := flat_len t (l.take i)
  rw [List.length_drop] at hfl
  rw [List.length_take, Nat.min_eq_left (by omega)] at hft
  have ec : i * t.k + (m * t.k + r * t.k) = c' * t.k := by rw [← hc, Nat.add_mul, Nat.add_mul, Nat.add_assoc]
  have em : m * t.k = t.k + (l.length - i) * t.k := by rw [hm, show l.length + 1 - i = 1 + (l.length - i) by omega, Nat.add_mul, Nat.one_mul]
  have ei : (i + 1) * t.k = i * t.k + t.k := by rw [Nat.add_mul, Nat.one_mul]
  have l0 : cur0.length = c' * t.k := by rw [h0, List.length_append, List.length_append, hft, zeros_len, zeros_len]; omega
  have l1 : cur1.length = c' * t.k := by rw [h1, length_splice _ _ _ (by omega), l0]
  have l2 : cur2.length = c' * t.k := by rw [h2, length_splice _ _ _ (by omega), l1]
  have hlen : (l.take i ++ p :: l.drop i).length = l.length + 1 := by rw [List.length_append, List.length_cons, List.length_take, List.length_drop]; omega
  have el : (l.length + 1) * t.k = i * t.k + t.k + (l.length - i) * t.k := by rw [show l.length + 1 = i + 1 + (l.length - i) by omega, Nat.add_mul, Nat.add_mul, Nat.one_mul]
  refine ⟨hB, by omega, hM, by omega, ?_⟩
  rw [List.drop_zero, hlen, h2, splice_take_end (by omega) _ (by omega), h1, splice_take_end (by omega) _ (by omega), h0]
  have : (flat t (l.take i) ++ (zeros t m ++ zeros t r)).take (i * t.k) = flat t (l.take i) := by
    rw [List.take_append_of_le_length (by omega), List.take_of_length_le (by omega)]
  rw [this]
  unfold flat
  rw [List.flatMap_append, List.flatMap_cons, List.append_assoc]
/-- One put in the midst, where there is room. -/
theorem mid_room {cur cur1 cur2 : List Value} {l : List α} {i cap g o : Nat} {p : α} {w w2 : World} (h : Lies t w g o cap cur l) (hi : i < l.length) (hr : l.length + 1 ≤ cap)
    (h1 : cur1 = splice cur (o + (i + 1) * t.k) (flat t (l.drop i))) (h2 : cur2 = splice cur1 (o + i * t.k) (t.enc p)) (hB : Blk w2 g cur2 t.E) : Lies t w2 g o cap cur2 (l.take i ++ p :: l.drop i) := by
  have hrc := t.hk p
  have hfl := flat_len t (l.drop i)
  rw [List.length_drop] at hfl
  have hf := h.fit
  have hk : (l.length + 1) * t.k ≤ cap * t.k := Nat.mul_le_mul_right _ hr
  have ei : (i + 1) * t.k = i * t.k + t.k := by rw [Nat.add_mul, Nat.one_mul]
  have el : (l.length + 1) * t.k = i * t.k + t.k + (l.length - i) * t.k := by rw [show l.length + 1 = i + 1 + (l.length - i) by omega, Nat.add_mul, Nat.add_mul, Nat.one_mul]
  have l1 : cur1.length = cur.length := by rw [h1, length_splice _ _ _ (by omega)]
  have l2 : cur2.length = cur.length := by rw [h2, length_splice _ _ _ (by omega), l1]
  have hlen : (l.take i ++ p :: l.drop i).length = l.length + 1 := by rw [List.length_append, List.length_cons, List.length_take, List.length_drop]; omega
  have d1 : cur1.drop o = splice (cur.drop o) ((i + 1) * t.k) (flat t (l.drop i)) := by
    have := (drop_splice (L := cur) (cs := flat t (l.drop i)) (Nat.le_add_right o ((i + 1) * t.k))).resolve_right (by omega)
    rw [h1, this, Nat.add_sub_cancel_left]
  have d2 : cur2.drop o = splice (cur1.drop o) (i * t.k) (t.enc p) := by
    have := (drop_splice (L := cur1) (cs := t.enc p) (Nat.le_add_right o (i * t.k))).resolve_right (by omega)
    rw [h2, this, Nat.add_sub_cancel_left]
  have ld : (cur.drop o).length = cur.length - o := List.length_drop
  have ld1 : (cur1.drop o).length = cur.length - o := by rw [List.length_drop, l1]
  refine ⟨hB, by omega, h.most, by omega, ?_⟩
  have e1 : (cur1.drop o).take (i * t.k) = flat t (l.take i) := by
    rw [d1, splice_take_le (by omega) (by omega), ← flat_take, ← h.head, List.take_take]
    congr 1
    have : i * t.k ≤ l.length * t.k := Nat.mul_le_mul_right _ (by omega)
    omega
  have e2 : ((cur1.drop o).drop (i * t.k + t.k)).take ((l.length - i) * t.k) = flat t (l.drop i) := by
    rw [d1, ← ei]
    exact splice_mid (by omega) _ (by omega)
  rw [hlen, d2, splice_take_more (by omega) _ ((l.length - i) * t.k) (by omega), hrc, e1, e2]
  unfold flat
  rw [List.flatMap_append, List.flatMap_cons]
end Go.Proofs.Ytaflhkhfkifefaa.Ro
