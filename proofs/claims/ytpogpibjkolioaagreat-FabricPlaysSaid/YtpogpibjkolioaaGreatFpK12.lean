/- Rows of elements of whatever cells that begin anywhere in their block: append, copy, cut. Conditions: each theorem's own. -/
import Derived.Test.YtpogpibjkolioaaGreatFpK1
import Derived.Laws.CopyOwn
import Derived.Lib.AppendZeros
import Derived.Laws.Externs
import Derived.Test.YtpogpibjkolioaaGreatFpK10
import Derived.Deep.RegionLaw
import Derived.WalkKit
import Derived.Outline
import Derived.ProofKit
import Derived.Deep.CutBlock
import Derived.Deep.RegionWith
import Derived.Deep.DeepCutAuto
import Derived.Deep.DrawnRows
import Derived.Deep.LoopGhost
import Derived.WalkLawsBesides
import Derived.BigQuiet
import Derived.Deep.QuietTactic
set_option linter.unusedVariables false
set_option linter.unusedSimpArgs false
namespace Go.Proofs.YtpogpibjkolioaaGreat.Ro
open Go.RowKit Hp Rw
variable {α : Type} {t : Ty α}
theorem flat_take (t : Ty α) : ∀ (l : List α) (k : Nat), (flat t l).take (k * t.k) = flat t (l.take k)
 | [], k => by simp [flat]
 | x :: l, 0 => by simp [flat]
 | x :: l, k + 1 => by
  have := flat_take t l k
  unfold flat at this ⊢
  have e : (k + 1) * t.k = t.k + k * t.k := by rw [Nat.add_mul, Nat.one_mul, Nat.add_comm]
  rw [List.take_succ_cons, List.flatMap_cons, List.flatMap_cons, ← this, e, List.take_append, List.take_of_length_le (by rw [t.hk]; omega), t.hk, Nat.add_sub_cancel_left]
theorem flat_drop (t : Ty α) : ∀ (l : List α) (k : Nat), (flat t l).drop (k * t.k) = flat t (l.drop k)
 | [], k => by simp [flat]
 | x :: l, 0 => by simp [flat]
 | x :: l, k + 1 => by
  have := flat_drop t l k
  unfold flat at this ⊢
  have e : (k + 1) * t.k = t.k + k * t.k := by rw [Nat.add_mul, Nat.one_mul, Nat.add_comm]
  rw [List.drop_succ_cons, List.flatMap_cons, ← this, e, ← List.drop_drop]
  congr 1
  rw [List.drop_append_of_le_length (by rw [t.hk]; omega), List.drop_of_length_le (by rw [t.hk]; omega), List.nil_append]
theorem drop_splice {L cs : List Value} {o s : Nat} (hs : s ≤ o) : (splice L o cs).drop s = splice (L.drop s) (o - s) cs ∨ L.length < o := by
 rcases Nat.lt_or_ge L.length o with h | h
 ·exact Or.inr h
 ·left
  unfold splice
  rw [List.drop_append_of_le_length (by rw [List.length_take]; omega), List.drop_take, List.drop_drop]
  congr 3
  omega
theorem splice_take_end {L cs : List Value} {o : Nat} (ho : o ≤ L.length) (k : Nat) (hk : k = o + cs.length) : (splice L o cs).take k = L.take o ++ cs := by
 unfold splice
 have : (L.take o ++ cs).length = k := by rw [List.length_append, List.length_take]; omega
 rw [← List.append_assoc, ← this, List.take_left]
structure Lies (t : Ty α) (w : World) (g o cap : Nat) (cur : List Value) (l : List α) : Prop where
 blk : Blk w g cur t.E
 le : l.length ≤ cap
 most : cap ≤ maxLen
 fit : o + cap * t.k ≤ cur.length
 head : (cur.drop o).take (l.length * t.k) = flat t l
def Row (t : Ty α) (w : World) (v : Value) (l : List α) : Prop :=
 (v = .slice none 0 0 ∧ l = []) ∨ ∃ g o cap cur, v = .slice (some ⟨g, o, none⟩) l.length cap ∧ Lies t w g o cap cur l
theorem Row.none (t : Ty α) (w : World) : Row t w (.slice none 0 0) [] := Or.inl ⟨rfl, rfl⟩
theorem Lies.row {w : World} {g o cap : Nat} {cur : List Value} {l : List α} (h : Lies t w g o cap cur l) : Row t w (.slice (some ⟨g, o, none⟩) l.length cap) l := Or.inr ⟨g, o, cap, cur, rfl, h⟩
theorem Lies.cur_at {w : World} {g o cap : Nat} {cur : List Value} {l : List α} (h : Lies t w g o cap cur l) {j : Nat} (hj : j < l.length * t.k) : cur[o + j]? = (flat t l)[j]? := by
 rw [← h.head, List.getElem?_take, if_pos hj, List.getElem?_drop]
theorem Lies.cell {w : World} {g o cap : Nat} {cur : List Value} {l : List α} (h : Lies t w g o cap cur l) {i : Nat} {x : α} (hi : l[i]? = some x) {j : Nat} {u : Value} (hu : (t.enc x)[j]? = some u) : w.cell? ⟨g, o + i * t.k + j, none⟩ = some u := by
 have hj : j < t.k := by have := (List.getElem?_eq_some_iff.1 hu).1; rwa [t.hk] at this
 have hil := (List.getElem?_eq_some_iff.1 hi).1
 refine h.blk.cell ?_
 rw [Nat.add_assoc, h.cur_at ?_, flat_at t hi hj, hu]
 have : (i + 1) * t.k ≤ l.length * t.k := Nat.mul_le_mul_right _ hil
 rw [Nat.add_mul, Nat.one_mul] at this
 omega
theorem Lies.kept {w w' : World} {F : Nat → Prop} {g o cap : Nat} {cur : List Value} {l : List α} (h : Lies t w g o cap cur l) (k : Kept F w w') (hF : ¬ F g) : Lies t w' g o cap cur l := ⟨k.blk h.blk hF, h.le, h.most, h.fit, h.head⟩
theorem Lies.drew {w : World} {g o cap : Nat} {cur : List Value} {l : List α} (h : Lies t w g o cap cur l) : Lies t w.drew g o cap cur l := ⟨h.blk.drew, h.le, h.most, h.fit, h.head⟩
theorem Row.kept {w w' : World} {F : Nat → Prop} {v : Value} {l : List α} (h : Row t w v l) (k : Kept F w w') (hF : ∀ g, v.ownBlock = some g → ¬ F g) : Row t w' v l := by
 rcases h with h | ⟨g, o, cap, cur, rfl, h⟩
 ·exact Or.inl h
 ·exact (h.kept k (hF g rfl)).row
theorem Row.old {w w' : World} {v : Value} {l : List α} (h : Row t w v l) (k : Kept (fun _ => False) w w') : Row t w' v l := h.kept k (fun _ _ f => f)
theorem Row.lt {w : World} {v : Value} {l : List α} (h : Row t w v l) : ∀ g, v.ownBlock = some g → g < w.heap.size := by
 rcases h with ⟨rfl, _⟩ | ⟨g, o, cap, cur, rfl, h⟩
 ·intro g e; cases e
 ·intro g' e; cases e; exact h.blk.lt
theorem Row.slice {w : World} {v : Value} {l : List α} (h : Row t w v l) : ∃ a c, v = .slice a l.length c ∧ l.length ≤ c ∧ c ≤ maxLen := by
 rcases h with ⟨rfl, rfl⟩ | ⟨g, o, cap, cur, rfl, h2⟩
 ·exact ⟨_, 0, rfl, Nat.le_refl _, by decide⟩
 ·exact ⟨_, cap, rfl, h2.le, h2.most⟩
theorem of_rw {w : World} {base : Nat} {v : Value} {l : List α} (h : Rw.Row t w base v l) : Row t w v l := by
 rcases h.form with ⟨rfl, rfl⟩ | ⟨g, cap, cur, rfl, _, h2⟩
 ·exact Or.inl ⟨rfl, rfl⟩
 ·exact Or.inr ⟨g, 0, cap, cur, rfl, ⟨h2.blk, h2.le, h2.most, by rw [h2.len]; omega, by rw [List.drop_zero]; exact h2.head⟩⟩
theorem Lies.part {w : World} {g o cap : Nat} {cur : List Value} {l : List α} (h : Lies t w g o cap cur l) (i n : Nat) (hn : i + n ≤ l.length) : ∀ j u, (flat t ((l.drop i).take n))[j]? = some u → w.cell? ((⟨g, o + i * t.k, none⟩ : Addr).add j) = some u := by
 intro j u hj
 have hjl := (List.getElem?_eq_some_iff.1 hj).1
 rw [flat_len, List.length_take, List.length_drop, Nat.min_eq_left (by omega)] at hjl
 have hm : (i + n) * t.k ≤ l.length * t.k := Nat.mul_le_mul_right _ hn
 rw [Nat.add_mul] at hm
 rw [← flat_take, List.getElem?_take, if_pos hjl, ← flat_drop, List.getElem?_drop] at hj
 rw [Go.WideShapes.add_plain, Nat.add_assoc]
 refine h.blk.cell ?_
 rw [h.cur_at (by omega)]
 exact hj
theorem Lies.src {w : World} {g o cap : Nat} {cur : List Value} {l : List α} (h : Lies t w g o cap cur l) (i n c : Nat) (hn : i + n ≤ l.length) : Src t w (.slice (some ⟨g, o + i * t.k, none⟩) n c) ((l.drop i).take n) := by
 have hl : ((l.drop i).take n).length = n := by rw [List.length_take, List.length_drop]; omega
 exact Or.inr ⟨_, c, by rw [hl], h.part i n hn⟩
theorem Row.src {w : World} {v : Value} {l : List α} (h : Row t w v l) : Src t w v l := by
 rcases h with ⟨rfl, rfl⟩ | ⟨g, o, cap, cur, rfl, h2⟩
 ·exact Or.inl ⟨rfl, rfl⟩
 ·have := h2.src 0 l.length cap (by omega)
  rw [List.drop_zero, List.take_length, Nat.zero_mul, Nat.add_zero] at this
  exact this
theorem Lies.cut {w : World} {g o cap : Nat} {cur : List Value} {l : List α} (h : Lies t w g o cap cur l) {n : Nat} (hn : n ≤ l.length) : Row t w (.slice (some ⟨g, o + n * t.k, none⟩) (l.length - n) (cap - n)) (l.drop n) := by
 have hl : (l.drop n).length = l.length - n := List.length_drop
 have hc := h.le
 have hf := h.fit
 have hnk : (n + (cap - n)) * t.k = cap * t.k := by rw [Nat.add_sub_cancel' (by omega)]
 rw [Nat.add_mul] at hnk
 refine Or.inr ⟨g, o + n * t.k, cap - n, cur, by rw [hl], ⟨h.blk, by omega, by have := h.most; omega, by omega, ?_⟩⟩
 have e : (n + (l.length - n)) * t.k = l.length * t.k := by rw [Nat.add_sub_cancel' hn]
 rw [Nat.add_mul] at e
 rw [hl, ← List.drop_drop, ← flat_drop, ← h.head, List.drop_take, show l.length * t.k - n * t.k = (l.length - n) * t.k by omega]
theorem Lies.cut_all {w : World} {g o cap : Nat} {cur : List Value} {l : List α} (h : Lies t w g o cap cur l) : Row t w (.slice (some ⟨g, o, none⟩) 0 0) (l.drop l.length) := by
 have hf := h.fit
 rw [List.drop_length]
 exact Or.inr ⟨g, o, 0, cur, rfl, ⟨h.blk, Nat.le_refl _, by decide, by omega, by simp [flat]⟩⟩
theorem row_set {w : World} {g : Nat} {cur : List Value} {T : TypeId} (hB : Blk w g cur T) (cs : List Value) : Blk (w.setRow g cs.toArray) g cs T ∧ Kept (fun k => k = g) w (w.setRow g cs.toArray) :=
 ⟨setRow_heap w g _ _ _ _ hB, ⟨rfl, rfl, rfl, by simp [World.setRow], fun k _ hk => setRow_other w g k _ (fun e => hk e)⟩⟩
def zeros (t : Ty α) (n : Nat) : List Value := (Builtin.zeroCells t.z.cells n).toList
theorem zeros_len (t : Ty α) (n : Nat) : (zeros t n).length = n * t.k := by unfold zeros; rw [Array.length_toList, size_zeroCells, t.hz]
structure Apd (t : Ty α) (w : World) (v : Value) (l : List α) (v' : Value) (w' : World) : Prop where
 row : Row t w' v' l
 kept : Kept (fun k => v.ownBlock = some k) w w'
 lies : ∀ g, v'.ownBlock = some g → v.ownBlock = some g ∨ w.heap.size ≤ g
theorem grown {w : World} {v : Value} (t : Ty α) (l : List α) {c : Nat} (h : l.length ≤ c) (hM : c ≤ maxLen) : Apd t w v l (.slice (some ⟨w.heap.size, 0, none⟩) l.length c) (w.drew.alloc (.cells (flat t l ++ zeros t (c - l.length)).toArray t.E)) := by
 have hB := Blk.new w.drew (flat t l ++ zeros t (c - l.length)) t.E
 have e : (l.length + (c - l.length)) * t.k = c * t.k := by rw [Nat.add_sub_cancel' h]
 rw [Nat.add_mul] at e
 refine ⟨Or.inr ⟨w.heap.size, 0, c, _, rfl, ⟨hB, h, hM, ?_, ?_⟩⟩, ((Kept.refl (fun _ => False) w).drew.alloc _).mono (fun _ _ f => f.elim), fun g hg => ?_⟩
 ·rw [List.length_append, flat_len, zeros_len]; omega
 ·rw [List.drop_zero, ← flat_len, List.take_left]
 ·cases hg; exact Or.inr (Nat.le_refl _)
theorem run_room {w : World} {g o cap : Nat} {cur : List Value} {l K : List α} (h : Lies t w g o cap cur l) (ty : TypeId) (a : Addr) (c : Nat) (hc : ∀ j u, (flat t K)[j]? = some u → w.cell? (a.add j) = some u) (hr : l.length + K.length ≤ cap) :
  ∃ w', (Builtin.append_ #[t.L, t.L] ty #[.slice (some ⟨g, o, none⟩) l.length cap, .slice (some a) K.length c]).run Tryz.prog w = .ok (.slice (some ⟨g, o, none⟩) (l.length + K.length) cap) w' ∧ Blk w' g (splice cur (o + l.length * t.k) (flat t K)) t.E ∧ Kept (fun k => k = g) w w' := by
 obtain ⟨i, hi, hz0, hz1, hz2⟩ := info_parts t.hI
 have hk : (l.length + K.length) * t.k ≤ cap * t.k := Nat.mul_le_mul_right _ hr
 rw [Nat.add_mul] at hk
 have hf := h.fit
 have hfc := run_firstCells_some (P := Tryz.prog) w t.k K.length a K.length c (flat t K) (flat_len t K) hc
 have hst := run_storeCells_at Tryz.prog g (o + l.length * t.k) t.E (flat t K) 0 cur.toArray w h.blk (by rw [flat_len, List.size_toArray]; omega) (flat_one t)
 simp only [Nat.add_zero] at hst
 have hs := row_set h.blk (splice cur (o + l.length * t.k) (flat t K))
 refine ⟨_, ?_, hs.1, hs.2⟩
 have e2 : cur.toArray.toList.take (o + l.length * t.k) ++ flat t K ++ cur.toArray.toList.drop (o + l.length * t.k + (flat t K).length) = splice cur (o + l.length * t.k) (flat t K) := by simp [splice]
 rw [e2] at hst
 simp [Builtin.append_, run_underlying t.hL, sizeOf, typeInfo, hi, Builtin.lenOf, hr, hfc, Go.WideShapes.add_plain, hz1, hst]
theorem room_lies {w w' : World} {g o cap : Nat} {cur : List Value} {l K : List α} (h : Lies t w g o cap cur l) (hr : l.length + K.length ≤ cap) (hB : Blk w' g (splice cur (o + l.length * t.k) (flat t K)) t.E) : Lies t w' g o cap (splice cur (o + l.length * t.k) (flat t K)) (l ++ K) := by
 have hk : (l.length + K.length) * t.k ≤ cap * t.k := Nat.mul_le_mul_right _ hr
 rw [Nat.add_mul] at hk
 have hf := h.fit
 have hfl := flat_len t K
 refine ⟨hB, by rw [List.length_append]; exact hr, h.most, by rw [length_splice _ _ _ (by omega)]; exact hf, ?_⟩
 rw [(drop_splice (Nat.le_add_right o (l.length * t.k))).resolve_right (by omega), Nat.add_sub_cancel_left, List.length_append, Nat.add_mul, splice_take_end (by rw [List.length_drop]; omega) _ (by omega), h.head, flat_append]
theorem run_app {w : World} {v v2 : Value} {K K2 : List α} (ty : TypeId) (h1 : Row t w v K) (h2 : Src t w v2 K2) (hsm : K.length + K2.length ≤ 1000000) :
  ∃ v' w', (Builtin.append_ #[t.L, t.L] ty #[v, v2]).run Tryz.prog w = .ok v' w' ∧ Apd t w v (K ++ K2) v' w' := by
 obtain ⟨ti, hti, hz0, hz1, hz2⟩ := info_parts t.hI
 have hbb : (K.length + K2.length) * t.bz ≤ 1000000 * 128 := Nat.mul_le_mul hsm t.hb
 have nothing : ∀ v2, (Builtin.lenOf v2).run Tryz.prog w = .ok 0 w → (Builtin.firstCells ti.size 0 v2).run Tryz.prog w = .ok #[] w → (Builtin.append_ #[t.L, t.L] ty #[v, v2]).run Tryz.prog w = .ok v w := by
  intro v2 e1 e2
  rcases h1 with ⟨rfl, rfl⟩ | ⟨g, o, cap, cur, rfl, h1⟩
  ·simp [Builtin.append_, run_underlying t.hL, sizeOf, typeInfo, hti, e1, e2]
  ·have := h1.le
   simp [Builtin.append_, run_underlying t.hL, sizeOf, typeInfo, hti, e1, e2, this, storeCells]
 rcases h2 with ⟨rfl, rfl⟩ | ⟨a, c, rfl, hc⟩
 ·exact ⟨v, w, nothing _ (by simp [Builtin.lenOf]) (by simp [Builtin.firstCells]), ⟨by rw [List.append_nil]; exact h1, Kept.refl _ w, fun g hg => Or.inl hg⟩⟩
 ·rcases h1 with ⟨rfl, rfl⟩ | ⟨g, o, cap, cur, rfl, h1⟩
  ·by_cases hm : K2.length = 0
   ·obtain rfl := List.length_eq_zero_iff.1 hm
    refine ⟨_, w, nothing _ (by simp [Builtin.lenOf]) (by simp [Builtin.firstCells, loadCells, loadCellsFrom]), ⟨Or.inl ⟨rfl, rfl⟩, Kept.refl _ w, fun g hg => Or.inl hg⟩⟩
   ·have hr := run_append_nil (P := Tryz.prog) w t.L ty t.E ti t.z t.hL hti hz0 a K2.length c (flat t K2) (by rw [hz1]; exact flat_len t K2) hc (by omega) (by simp at hsm; omega) (by rw [hz2]; simp at hbb; omega)
    refine ⟨_, _, hr, ?_⟩
    have hg := grown (w := w) (v := .slice none 0 0) t K2 (grownCap_ge w K2.length 0 t.E) (grownCap_le_maxLen w K2.length 0 t.E (by simp at hsm; unfold maxLen; omega))
    have e : (flat t K2).toArray ++ Builtin.zeroCells t.z.cells (grownCap w K2.length 0 t.E - K2.length) = (flat t K2 ++ zeros t (grownCap w K2.length 0 t.E - K2.length)).toArray := by apply Array.ext'; simp [zeros]
    rw [e]
    exact hg
  ·rcases Nat.lt_or_ge cap (K.length + K2.length) with hg | hg
   ·have hr := run_append_grow (P := Tryz.prog) w t.L ty t.E ti t.z t.hL hti hz0 ⟨g, o, none⟩ K.length cap (flat t K) (by rw [hz1]; exact flat_len t K)
     (fun j u hj => by
      have := h1.part 0 K.length (by omega) j u
      rw [List.drop_zero, List.take_length, Nat.zero_mul, Nat.add_zero] at this
      exact this hj)
     a K2.length c (flat t K2) (by rw [hz1]; exact flat_len t K2) hc hg (by omega) (growslice_fits hg (by rw [hz2]; omega))
    refine ⟨_, _, hr, ?_⟩
    have hl : (K ++ K2).length = K.length + K2.length := List.length_append
    have hgr := grown (w := w) (v := .slice (some ⟨g, o, none⟩) K.length cap) t (K ++ K2) (c := grownCap w (K.length + K2.length) cap t.E) (by rw [hl]; exact grownCap_ge w _ cap t.E) (grownCap_le_maxLen w _ cap t.E (by unfold maxLen; omega))
    rw [hl, flat_append] at hgr
    have e : (flat t K).toArray ++ (flat t K2).toArray ++ Builtin.zeroCells t.z.cells (grownCap w (K.length + K2.length) cap t.E - (K.length + K2.length)) = (flat t K ++ flat t K2 ++ zeros t (grownCap w (K.length + K2.length) cap t.E - (K.length + K2.length))).toArray := by apply Array.ext'; simp [zeros]
    rw [e]
    exact hgr
   ·obtain ⟨w', hr, hB, hk⟩ := run_room h1 ty a c hc hg
    have hL := room_lies h1 hg hB
    have hrow := hL.row
    rw [List.length_append] at hrow
    exact ⟨_, w', hr, ⟨hrow, hk.mono (fun k _ e => by rw [e]; rfl), fun q hq => by cases hq; exact Or.inl rfl⟩⟩
theorem wp_app {w : World} {o : Oper} {a : Act} {K0 : Act → World → Prop} {Q : Exit → Act → World → Prop} (t : Ty α) (s x : Operand)
  (ho : o.op = .call { callee := .builtin .append, args := #[s, x], argTypes := #[t.L, t.L] })
  {v v2 : Value} {K K2 : List α} (hs : a.eval s = v) (h1 : Row t w v K) (hx : a.eval x = v2) (h2 : Src t w v2 K2) (hsm : K.length + K2.length ≤ 1000000)
  (h : ∀ v' w', Apd t w v (K ++ K2) v' w' → K0 (a.put o.dst v') w') : o.wp Tryz.prog a w K0 Q := by
 obtain ⟨v', w', hr, hA⟩ := run_app o.type h1 h2 hsm
 unfold Oper.wp execOp
 simp only [ho, resolve, invoke, builtin, Sem.run_bind, Sem.run_pure, Result.andThen_ok, List.map_toArray, List.map_cons, List.map_nil, hs, hx, hr]
 exact h v' w' hA
theorem wpList_app {w : World} {ops : Array Oper} {rest : List Oper} {o : Oper} {a : Act} {Q : Exit → Act → World → Prop} (t : Ty α) (hgd : o.guard = none) (s x : Operand)
  (ho : o.op = .call { callee := .builtin .append, args := #[s, x], argTypes := #[t.L, t.L] })
  {v v2 : Value} {K K2 : List α} (hs : a.eval s = v) (h1 : Row t w v K) (hx : a.eval x = v2) (h2 : Src t w v2 K2) (hsm : K.length + K2.length ≤ 1000000)
  (h : ∀ v' w', Apd t w v (K ++ K2) v' w' → wpList Tryz.prog ops Q rest (a.put o.dst v') w') : wpList Tryz.prog ops Q (o :: rest) a w :=
 wpList_plain hgd fun _ hK => wp_app t s x ho hs h1 hx h2 hsm fun v' w' hA => hK _ _ (h v' w' hA)
theorem step_app {ops : Array Oper} {o : Oper} {a : Act} {w : World} {K0 : Act → World → Prop} {Q : Exit → Act → World → Prop} {E : Prop} (t : Ty α)
  (hg : o.guard = none) (s x : Operand) (ho : o.op = .call { callee := .builtin .append, args := #[s, x], argTypes := #[t.L, t.L] })
  {v v2 : Value} {K K2 : List α} (hs : a.eval s = v) (h1 : Row t w v K) (hx : a.eval x = v2) (h2 : Src t w v2 K2) (hsm : K.length + K2.length ≤ 1000000)
  (h : ∀ v' w', Apd t w v (K ++ K2) v' w' → K0 (a.put o.dst v') w') :
  if Region.wanted o (yielded ops a.tmps) = true then Oper.wp Tryz.prog o a w K0 Q else E := by
 have hw : Region.wanted o (yielded ops a.tmps) = true := by simp [Region.wanted, hg]
 rw [if_pos hw]
 exact wp_app t s x ho hs h1 hx h2 hsm h
end Go.Proofs.YtpogpibjkolioaaGreat.Ro

/- What came to a host: an inbox in memory; how many, put, take, close up, list. Conditions: each theorem's own. -/
namespace Go.Proofs.YtpogpibjkolioaaGreat.Fb
open Go.RowKit Hp QuM QuN Rw Qu NumM NumC Po
attribute [local go_sem ↓] Go.wp_at_zero Go.wp_at_succ
@[reducible] def fT : Rw.Ty Bx where
 E := 35
 L := 58
 k := 10
 bz := 96
 enc x := [.int .i64 x.f.kind, .int .i64 x.f.src, .int .i64 x.f.dst, .int .i64 x.f.prio, .int .u64 (x.f.msg : Int), .int .i64 x.f.off, .int .i64 x.f.len, .int .i64 x.f.total, .int .i64 x.f.num, .slice x.s x.f.data.length x.c]
 z := .agg #[.int .i64 0, .int .i64 0, .int .i64 0, .int .i64 0, .int .u64 0, .int .i64 0, .int .i64 0, .int .i64 0, .int .i64 0, .slice none 0 0]
 hL := Tryz.underlying58
 hI := by kernel_rfl
 hz := rfl
 hk _ := rfl
 h1 x v hv := by simp at hv; rcases hv with rfl | rfl | rfl | rfl | rfl | rfl | rfl | rfl | rfl | rfl <;> rfl
 k0 := by decide
 hb := by decide
abbrev fv (x : Bx) : Value := .agg #[.int .i64 x.f.kind, .int .i64 x.f.src, .int .i64 x.f.dst, .int .i64 x.f.prio, .int .u64 (x.f.msg : Int), .int .i64 x.f.off, .int .i64 x.f.len, .int .i64 x.f.total, .int .i64 x.f.num, .slice x.s x.f.data.length x.c]
theorem ict_any {w : World} {b o n z c : Nat} {a : Option Addr} (h0 : w.cell? ⟨b, o, none⟩ = some (.slice a n c)) (h1 : w.cell? ⟨b, o + 1, none⟩ = some (.int .i64 (z : Nat))) (hz : z ≤ n) (hn : n ≤ 1000000) :
  Calls Tryz.prog 55 #[.pointer (some ⟨b, o, none⟩)] w fun e w' => e = .returned (.int .i64 ((n : Int) - (z : Nat))) ∧ ∃ m, w' = w.drewN m := by
 have hw : IntKind.i64.wrap ((n : Int) - (z : Nat)) = (n : Int) - (z : Nat) := by rw [IntKind.wrap_i64]; omega
 clear hz hn
 go_enter Tryz.func55, Tryz.ntmps55
 go_upto_region 1 with fail
 go_quiet (fail)
 go_wp2_with fail
 go_ret
 exact ⟨rfl, _, rfl⟩
abbrev setF (w : World) (g p : Nat) (x : Bx) : World := (((((((((w.setCell ⟨g, p * 10, none⟩ (.int .i64 x.f.kind)).setCell ⟨g, p * 10 + 1, none⟩ (.int .i64 x.f.src)).setCell ⟨g, p * 10 + 2, none⟩ (.int .i64 x.f.dst)).setCell ⟨g, p * 10 + 3, none⟩ (.int .i64 x.f.prio)).setCell ⟨g, p * 10 + 4, none⟩ (.int .u64 (x.f.msg : Int))).setCell ⟨g, p * 10 + 5, none⟩ (.int .i64 x.f.off)).setCell ⟨g, p * 10 + 6, none⟩ (.int .i64 x.f.len)).setCell ⟨g, p * 10 + 7, none⟩ (.int .i64 x.f.total)).setCell ⟨g, p * 10 + 8, none⟩ (.int .i64 x.f.num)).setCell ⟨g, p * 10 + 9, none⟩ (.slice x.s x.f.data.length x.c)
theorem setF_eq (w : World) (g p : Nat) (x : Bx) : setF w g p x = setW w g (p * 10) (fT.enc x) := by
 show _ = setW w g (p * 10) [.int .i64 x.f.kind, .int .i64 x.f.src, .int .i64 x.f.dst, .int .i64 x.f.prio, .int .u64 (x.f.msg : Int), .int .i64 x.f.off, .int .i64 x.f.len, .int .i64 x.f.total, .int .i64 x.f.num, .slice x.s x.f.data.length x.c]
 simp only [setW, Nat.add_assoc, Nat.reduceAdd]
theorem setF_lies {w : World} {g cap : Nat} {cur : List Value} {l : List Bx} (h : Lies fT w g cap cur l) {i : Nat} (hi : i < l.length) (x : Bx) : Lies fT (setF w g i x) g cap (setsL cur (i * 10) (fT.enc x)) (l.set i x) := by
 rw [setF_eq]; exact lies_set h hi x
theorem setF_kept (w : World) (g p : Nat) (x : Bx) : Kept (fun i => i = g) w (setF w g p x) := by
 rw [setF_eq]; exact setW_kept _ w _
theorem fr_cells {w : World} {g cap : Nat} {cur : List Value} {l : List Bx} (h : Lies fT w g cap cur l) {i : Nat} {x : Bx} (hi : l[i]? = some x) :
  w.cell? ⟨g, i * 10, none⟩ = some (.int .i64 x.f.kind) ∧ w.cell? ⟨g, i * 10 + 1, none⟩ = some (.int .i64 x.f.src) ∧ w.cell? ⟨g, i * 10 + 2, none⟩ = some (.int .i64 x.f.dst) ∧ w.cell? ⟨g, i * 10 + 3, none⟩ = some (.int .i64 x.f.prio) ∧ w.cell? ⟨g, i * 10 + 4, none⟩ = some (.int .u64 (x.f.msg : Int)) ∧ w.cell? ⟨g, i * 10 + 5, none⟩ = some (.int .i64 x.f.off) ∧ w.cell? ⟨g, i * 10 + 6, none⟩ = some (.int .i64 x.f.len) ∧ w.cell? ⟨g, i * 10 + 7, none⟩ = some (.int .i64 x.f.total) ∧ w.cell? ⟨g, i * 10 + 8, none⟩ = some (.int .i64 x.f.num) ∧ w.cell? ⟨g, i * 10 + 9, none⟩ = some (.slice x.s x.f.data.length x.c) :=
 ⟨by have := h.cell (t := fT) hi (j := 0) (u := .int .i64 x.f.kind) rfl; simpa using this, by have := h.cell (t := fT) hi (j := 1) (u := .int .i64 x.f.src) rfl; simpa using this, by have := h.cell (t := fT) hi (j := 2) (u := .int .i64 x.f.dst) rfl; simpa using this, by have := h.cell (t := fT) hi (j := 3) (u := .int .i64 x.f.prio) rfl; simpa using this, by have := h.cell (t := fT) hi (j := 4) (u := .int .u64 (x.f.msg : Int)) rfl; simpa using this, by have := h.cell (t := fT) hi (j := 5) (u := .int .i64 x.f.off) rfl; simpa using this, by have := h.cell (t := fT) hi (j := 6) (u := .int .i64 x.f.len) rfl; simpa using this, by have := h.cell (t := fT) hi (j := 7) (u := .int .i64 x.f.total) rfl; simpa using this, by have := h.cell (t := fT) hi (j := 8) (u := .int .i64 x.f.num) rfl; simpa using this, by have := h.cell (t := fT) hi (j := 9) (u := .slice x.s x.f.data.length x.c) rfl; simpa using this⟩
theorem iput_any {w : World} {b o base : Nat} {T : TypeId} {cc : List Value} {v : Value} {K : List Bx} {x : Bx} (hB : Blk w b cc T) (h0 : cc[o]? = some v) (hR : Rw.Row fT w base v K) (hT : ∀ j, v.ownBlock = some j → j = b → False) (hK : K.length ≤ 100000) (hbase : base ≤ w.heap.size) :
  Calls Tryz.prog 41 #[.pointer (some ⟨b, o, none⟩), fv x] w fun e w' => e = .returned (.tuple #[]) ∧
   ∃ v', Blk w' b (cc.set o v') T ∧ Rw.Row fT w' base v' (K ++ [x]) ∧ Kept (fun i => i = b ∨ v.ownBlock = some i) w w' ∧ ∀ g, v'.ownBlock = some g → v.ownBlock = some g ∨ w.heap.size ≤ g := by
 obtain ⟨⟨x1, x2, x3, x4, x5, x6, x7, x8, x9, xd⟩, xa, xc, xq⟩ := x
 obtain ⟨av, cv, rfl, _⟩ := hR.slice
 go_enter Tryz.func41, Tryz.ntmps41
 go_upto_region 1 with fail
 have hO := Blk.new w [.int .i64 x1, .int .i64 x2, .int .i64 x3, .int .i64 x4, .int .u64 (x5 : Int), .int .i64 x6, .int .i64 x7, .int .i64 x8, .int .i64 x9, .slice xa xd.length xc] 35
 have hkk := (Kept.refl (fun _ => False) w).alloc (.cells [.int .i64 x1, .int .i64 x2, .int .i64 x3, .int .i64 x4, .int .u64 (x5 : Int), .int .i64 x6, .int .i64 x7, .int .i64 x8, .int .i64 x9, .slice xa xd.length xc].toArray 35)
 dsimp only [List.toArray] at hO hkk
 have HB1 := Lib.hid (hkk.blk hB (fun f => f))
 have HR1 := Lib.hid (hR.old hkk)
 have HKK := Lib.hid hkk
 have hsz : (w.alloc (.cells #[.int .i64 x1, .int .i64 x2, .int .i64 x3, .int .i64 x4, .int .u64 (x5 : Int), .int .i64 x6, .int .i64 x7, .int .i64 x8, .int .i64 x9, .slice xa xd.length xc] 35)).heap.size = w.heap.size + 1 := by simp
 have hblt := hB.lt
 generalize w.alloc (.cells #[.int .i64 x1, .int .i64 x2, .int .i64 x3, .int .i64 x4, .int .u64 (x5 : Int), .int .i64 x6, .int .i64 x7, .int .i64 x8, .int .i64 x9, .slice xa xd.length xc] 35) = w1 at *
 obtain ⟨ob, hob⟩ : ∃ ob, w.heap.size = ob := ⟨_, rfl⟩
 rw [hob] at hO hsz hblt hbase
 simp only [hob]
 have HOB := Lib.hid hob
 clear hob hkk hB hR
 have b0 := HB1.out.cell h0
 obtain ⟨e0, e1, e2, e3, e4, e5, e6, e7, e8, e9⟩ := cs10 hO
 have k2 := (Kept.refl (fun _ => False) w1).alloc (.cells #[.int .i64 x1, .int .i64 x2, .int .i64 x3, .int .i64 x4, .int .u64 (x5 : Int), .int .i64 x6, .int .i64 x7, .int .i64 x8, .int .i64 x9, .slice xa xd.length xc] 35)
 have HR2 : Hid (Rw.Row fT (w1.alloc (.cells #[.int .i64 x1, .int .i64 x2, .int .i64 x3, .int .i64 x4, .int .u64 (x5 : Int), .int .i64 x6, .int .i64 x7, .int .i64 x8, .int .i64 x9, .slice xa xd.length xc] 35)).drew base (.slice av K.length cv) K) := Lib.hid (HR1.out.old k2.drew)
 have HB2 : Hid (Blk (w1.alloc (.cells #[.int .i64 x1, .int .i64 x2, .int .i64 x3, .int .i64 x4, .int .u64 (x5 : Int), .int .i64 x6, .int .i64 x7, .int .i64 x8, .int .i64 x9, .slice xa xd.length xc] 35)).drew b cc T) := Lib.hid ((k2.blk HB1.out (fun f => f)).drew)
 have HK2 : Hid (Kept (fun _ => False) w (w1.alloc (.cells #[.int .i64 x1, .int .i64 x2, .int .i64 x3, .int .i64 x4, .int .u64 (x5 : Int), .int .i64 x6, .int .i64 x7, .int .i64 x8, .int .i64 x9, .slice xa xd.length xc] 35)).drew) := Lib.hid (HKK.out.trans k2.drew)
 have HS2 : Hid (Rw.Src fT (w1.alloc (.cells #[.int .i64 x1, .int .i64 x2, .int .i64 x3, .int .i64 x4, .int .u64 (x5 : Int), .int .i64 x6, .int .i64 x7, .int .i64 x8, .int .i64 x9, .slice xa xd.length xc] 35)).drew (.slice (some ⟨ob + 1, 0, none⟩) 1 1) [⟨⟨x1, x2, x3, x4, x5, x6, x7, x8, x9, xd⟩, xa, xc, xq⟩]) := by
  have h1 := Blk.new w1 [.int .i64 x1, .int .i64 x2, .int .i64 x3, .int .i64 x4, .int .u64 (x5 : Int), .int .i64 x6, .int .i64 x7, .int .i64 x8, .int .i64 x9, .slice xa xd.length xc] 35
  rw [hsz] at h1
  exact Lib.hid (Rw.src_blk (t := fT) (K := [⟨⟨x1, x2, x3, x4, x5, x6, x7, x8, x9, xd⟩, xa, xc, xq⟩]) 1 (Blk.drew h1))
 have hbs : Hid (base ≤ (w1.alloc (.cells #[.int .i64 x1, .int .i64 x2, .int .i64 x3, .int .i64 x4, .int .u64 (x5 : Int), .int .i64 x6, .int .i64 x7, .int .i64 x8, .int .i64 x9, .slice xa xd.length xc] 35)).drew.heap.size) := Lib.hid (Nat.le_trans hbase (by have := HK2.out.size; have := HOB.out; omega))
 have hsm : K.length + [(⟨⟨x1, x2, x3, x4, x5, x6, x7, x8, x9, xd⟩, xa, xc, xq⟩ : Bx)].length ≤ 1000000 := by rw [List.length_singleton]; omega
 have HSZ := Lib.hid hsz
 clear k2 hO HR1 HKK
 refine wp_region_noPanic ?_
 go_region_law (first | (refine Rw.step_app fT (by rfl) (.tmp 8) (.tmp 10) (by rfl) base (by rfl) (by exact HR2.out) (by rfl) (by exact HS2.out) (by exact hsm) (by exact hbs.out) ?_; intro v' w' hA; have HA := Lib.hid hA; obtain ⟨a', c', rfl, _⟩ := hA.row.slice; have hB4 := Blk.heap HB2.out (hA.kept.block b HB2.out.lt (fun e => hT b e rfl)); have tt := hB4.cell h0; have tf := hB4.frozen o; clear hA))
 all_goals
  refine NoPanic.normal ?_
  have HA' := HA.out
  rw [List.length_append, List.length_singleton] at HA'
  have k3 : Kept (fun i => i = b ∨ (Value.slice av K.length cv).ownBlock = some i) w w' := (HK2.out.mono (fun _ _ f => f.elim)).trans (HA'.kept.mono (fun i _ e => Or.inr e))
  have k4 := k3.set (b := b) (fun _ => Or.inl rfl) o (.slice a' (K.length + 1) c')
  have hB5 := hB4.set o (.slice a' (K.length + 1) c')
  have hR5 : Rw.Row fT (w'.setCell ⟨b, o, none⟩ (.slice a' (K.length + 1) c')) base (.slice a' (K.length + 1) c') (K ++ [⟨⟨x1, x2, x3, x4, x5, x6, x7, x8, x9, xd⟩, xa, xc, xq⟩]) := HA'.row.kept (Kept.one w' b o _) (fun j e1 e2 => by
   subst e2
   rcases HA'.lies j e1 with h | h
   ·exact hT j h rfl
   ·have h2 := HK2.out.size; have h3 := HB2.out.lt; have h4 := HOB.out; have h5 := hblt; have h6 := HSZ.out; omega)
  have hL5 : ∀ g, (Value.slice a' (K.length + 1) c').ownBlock = some g → (Value.slice av K.length cv).ownBlock = some g ∨ w.heap.size ≤ g := fun g e => (HA'.lies g e).imp id (fun h => by have := HK2.out.size; omega)
  have FIN := Lib.hid (And.intro hB5 (And.intro hR5 (And.intro k4 hL5)))
  clear HA' k4 hB5 hR5 hL5 tt tf hB4 b0 e0 e1 e2 e3 e4 e5 e6 e7 e8 e9 HA HR2 HB2 HK2 HS2 k3
  go_wp2_with fail
  go_end0
  exact ⟨rfl, _, FIN.out⟩
theorem src_cut {w : World} {base n c : Nat} {a : Option Addr} {Z L : List Bx} (h : Rw.Row fT w base (.slice a n c) (Z ++ L)) : Rw.Src fT w (.slice (if c = Z.length then a else Option.map (fun x => x.add (Z.length * 10)) a) (n - Z.length) (c - Z.length)) L := by
 rcases h.form with ⟨e, h0⟩ | ⟨g, cap, cur, e, h1, h2⟩
 ·cases e
  obtain ⟨rfl, rfl⟩ := List.append_eq_nil_iff.1 h0
  exact Or.inl ⟨rfl, rfl⟩
 ·cases e
  have hl := h2.le
  rw [List.length_append] at hl
  have key := h2.src Z.length L.length (c - Z.length) (by rw [List.length_append]; omega)
  rw [List.drop_left, List.take_length] at key
  have e1 : (Z ++ L).length - Z.length = L.length := by rw [List.length_append]; omega
  rw [e1]
  by_cases hc : c = Z.length
  ·have hL : L = [] := List.length_eq_zero_iff.1 (by omega)
   subst hL
   rw [if_pos hc]
   exact Or.inr ⟨_, _, rfl, fun j u hj => by simp [Rw.flat] at hj⟩
  ·rw [if_neg hc]
   have e2 : Option.map (fun x => Addr.add x (Z.length * 10)) (some (⟨g, 0, none⟩ : Addr)) = some ⟨g, Z.length * 10, none⟩ := by
    rw [Option.map_some, Go.WideShapes.add_plain, Nat.zero_add]
   rw [e2]
   exact key
theorem iclose_any {w : World} {b o base : Nat} {T : TypeId} {cc : List Value} {v : Value} {Z L : List Bx} (hB : Blk w b cc T) (h0 : cc[o]? = some v) (h1 : cc[o + 1]? = some (.int .i64 (Z.length : Nat))) (hR : Rw.Row fT w base v (Z ++ L)) (hK : (Z ++ L).length ≤ 100000) (hbase : base ≤ w.heap.size) :
  Calls Tryz.prog 76 #[.pointer (some ⟨b, o, none⟩)] w fun e w' => e = .returned (.tuple #[]) ∧
   ∃ v', Blk w' b ((cc.set o v').set (o + 1) (.int .i64 0)) T ∧ Rw.Row fT w' base v' L ∧ Kept (fun i => i = b) w w' ∧ ∀ g, v'.ownBlock = some g → w.heap.size ≤ g := by
 have hlt := hB.lt
 obtain ⟨av, cv, rfl, hc1, hc2⟩ : ∃ a c, v = .slice a (Z ++ L).length c ∧ (Z ++ L).length ≤ c ∧ c ≤ maxLen := hR.slice
 have b0 := hB.cell h0
 have b1 := hB.cell h1
 have fb0 := hB.frozen o
 have fb1 := hB.frozen (o + 1)
 have HS := Lib.hid (src_cut hR)
 have HS' := Lib.hid (src_cut (hR.old (Kept.refl (fun _ => False) w).drew))
 have HN := Lib.hid (Rw.Row.none fT w w.heap.size)
 have HN' := Lib.hid (Rw.Row.none fT w.drew w.heap.size)
 have hbs : Hid (w.heap.size ≤ w.heap.size) := Lib.hid (Nat.le_refl _)
 have hbs' : Hid (w.heap.size ≤ w.drew.heap.size) := Lib.hid (Nat.le_refl _)
 have hsm : ([] : List Bx).length + L.length ≤ 1000000 := by rw [List.length_append] at hK; rw [List.length_nil]; omega
 have hZ : Z.length ≤ (Z ++ L).length := by rw [List.length_append]; omega
 have HB := Lib.hid hB
 clear hB hR
 generalize hn : (Z ++ L).length = n at *
 generalize hz : Z.length = z at *
 go_enter Tryz.func76, Tryz.ntmps76
 go_upto_region 0 with fail
 refine wp_region_noPanic ?_
 go_region_law (refine Rw.step_app fT (by rfl) (.const (.slice none 0 0)) (.tmp 11) (by rfl) w.heap.size (by rfl) (by first | exact HN.out | exact HN'.out) (by rfl) (by first | exact HS.out | exact HS'.out) (by exact hsm) (by first | exact hbs.out | exact hbs'.out) ?_; intro v' w' hA; have HA := Lib.hid hA; obtain ⟨a', c', rfl, _⟩ := hA.row.slice; have hB4 := Blk.heap HB.out (hA.kept.block b HB.out.lt (fun e => by cases e)); have tt := hB4.cell h0; have tf := hB4.frozen o; clear hA)
 all_goals
  refine NoPanic.normal ?_
  rw [List.nil_append] at HA
  have HR' : Rw.Row fT w' w.heap.size (.slice a' L.length c') L := HA.out.row
  have HKk : Kept (fun _ => False) w w' := HA.out.kept.mono (fun _ _ e => by cases e) |> fun k => ⟨k.os, k.tape, k.output, k.size, k.block⟩
  have hlies : ∀ g, (Value.slice a' L.length c').ownBlock = some g → w.heap.size ≤ g := fun g e => (HR'.lt g e).1
  have k4 := ((HKk.mono (G := fun i => i = b) (fun _ _ f => f.elim)).set (b := b) (fun _ => rfl) o (.slice a' L.length c')).set (b := b) (fun _ => rfl) (o + 1) (.int .i64 0)
  have hB5 := (hB4.set o (.slice a' L.length c')).set (o + 1) (.int .i64 0)
  have hR5 := (HR'.kept (Kept.one w' b o (.slice a' L.length c')) (fun j e1 e2 => by have := hlies j e1; omega)).kept (Kept.one _ b (o + 1) (.int .i64 0)) (fun j e1 e2 => by have := hlies j e1; omega)
  have FIN := Lib.hid (And.intro hB5 (And.intro (hR5.base (b' := base) (fun g e => Nat.le_trans hbase (hlies g e))) (And.intro k4 hlies)))
  have tt1 := hB4.frozen (o + 1)
  have tt2 := hB4.cell h1
  clear HR' HKk hlies k4 hB5 hR5 tt tf hB4 b0 b1 HA HS HS' HN HN' hbs hbs' hsm fb0 fb1
  generalize (if cv = z then av else Option.map (fun x => x.add (z * 10)) av) = sa at *
  go_wp2_with fail
  go_end0
  exact ⟨rfl, _, FIN.out⟩
end Go.Proofs.YtpogpibjkolioaaGreat.Fb

/- A net in memory; its readers: has, leafOf, Leaf, Leaves, Ports, Up, Hops, spineOf, the numbers of ports. Conditions: each theorem's own. -/
namespace Go.Proofs.YtpogpibjkolioaaGreat.Tp
open Go.RowKit Hp TpM
attribute [local go_sem ↓] Go.wp_at_zero Go.wp_at_succ
abbrev NV (w : World) (b : Nat) (H S : Int) : Prop := Blk w b [.int .i64 H, .int .i64 S] 108
abbrev ptr (b : Nat) : Value := .pointer (some ⟨b, 0, none⟩)
variable {w : World} {b : Nat} {H S : Int}
theorem ret_int {k : IntKind} {a b : Int} (h : a = b) : Ending.returned (.int k a) = .returned (.int k b) := by rw [h]
theorem has_yes (hB : NV w b H S) {x : Int} (h0 : 0 ≤ x) (h1 : x < H) : Calls Tryz.prog 63 #[ptr b, .int .i64 x] w fun e w' => e = .returned (.bool true) ∧ w = w' := by
 have c0 := hB.cell (o := 0) rfl
 go_enter Tryz.func63, Tryz.ntmps63
 go_wp2_with fail
 go_ret
 exact ⟨rfl, rfl⟩
theorem has_no (hB : NV w b H S) {x : Int} (h : x < 0 ∨ H ≤ x) : Calls Tryz.prog 63 #[ptr b, .int .i64 x] w fun e w' => e = .returned (.bool false) ∧ w = w' := by
 have c0 := hB.cell (o := 0) rfl
 rcases (show ¬ 0 ≤ x ∨ (0 ≤ x ∧ ¬ x < H) by omega) with h1 | ⟨h1, h2⟩
 all_goals
  go_enter Tryz.func63, Tryz.ntmps63
  go_wp2_with fail
  go_ret
  exact ⟨rfl, rfl⟩
theorem leafOf_any {x : Int} (h0 : 0 ≤ x) (h1 : x < 1000) (w : World) : Calls Tryz.prog 71 #[.int .i64 x] w fun e w' => e = .returned (.int .i64 (x / 2)) ∧ w = w' := by
 go_enter Tryz.func71, Tryz.ntmps71
 go_wp2_with fail
 go_ret
 exact ⟨rfl, rfl⟩
theorem up1_any (x : Int) (w : World) : Calls Tryz.prog 64 #[.int .i64 x] w fun e w' => e = .returned (.int .i64 x) ∧ w = w' := by
 go_enter Tryz.func64, Tryz.ntmps64
 go_wp2_with fail
 go_ret
 exact ⟨rfl, rfl⟩
theorem leaves_any (hB : NV w b H S) (n : Net H S) : Calls Tryz.prog 83 #[ptr b] w fun e w' => e = .returned (.int .i64 (lv H)) ∧ w = w' := by
 have c0 := hB.cell (o := 0) rfl
 have h0 := n.h0
 have h1 := n.h1
 go_enter Tryz.func83, Tryz.ntmps83
 go_wp2_with fail
 go_ret
 exact ⟨ret_int (by unfold lv; omega), rfl⟩
theorem l2h_any (hB : NV w b H S) (n : Net H S) {x : Int} (h0 : 0 ≤ x) (h1 : x ≤ 8) : Calls Tryz.prog 74 #[ptr b, .int .i64 x] w fun e w' => e = .returned (.int .i64 (H + x)) ∧ w = w' := by
 have c0 := hB.cell (o := 0) rfl
 have h2 := n.h0
 have h3 := n.h1
 go_enter Tryz.func74, Tryz.ntmps74
 go_wp2_with fail
 go_ret
 exact ⟨rfl, rfl⟩
theorem mul_small {l n : Int} (h0 : 0 ≤ l) (h1 : l ≤ 4) (h2 : 0 ≤ n) (h3 : n ≤ 4) : 0 ≤ l * n ∧ l * n ≤ 16 := by
 have e : l = 0 ∨ l = 1 ∨ l = 2 ∨ l = 3 ∨ l = 4 := by omega
 rcases e with rfl | rfl | rfl | rfl | rfl <;> omega
theorem l2s_any (hB : NV w b H S) (n : Net H S) {l x : Int} (h0 : 0 ≤ l) (h1 : l ≤ 4) (h2 : 0 ≤ x) (h3 : x ≤ 4) : Calls Tryz.prog 72 #[ptr b, .int .i64 l, .int .i64 x] w fun e w' => e = .returned (.int .i64 (2 * H + (l * S + x))) ∧ ∃ m, w' = w.drewN m := by
 have c0 := hB.cell (o := 0) rfl
 have c1 := hB.cell (o := 1) rfl
 have C := Lib.hid fun k => l2h_any (hB.drewN k) n (x := H) (by have := n.h0; omega) n.h1
 have ⟨m0, m1⟩ := mul_small h0 h1 (n := S) (by have := n.s0; omega) n.s1
 have g0 := n.h0
 have g1 := n.h1
 obtain ⟨p, hp⟩ : ∃ p, p = l * S := ⟨_, rfl⟩
 rw [← hp] at m0 m1 ⊢
 have hw : IntKind.i64.wrap (l * S) = p := by rw [← hp, IntKind.wrap_i64]; omega
 clear hp
 go_enter Tryz.func72, Tryz.ntmps72
 go_upto_region 1 with fail
 go_quiet ((go_at_call 74; exact Calls.quiet_of_same ((C.out _).mono fun _ _ ⟨e1, e2⟩ => ⟨e1, e2.symm⟩)))
 go_wp2_with fail
 go_ret
 exact ⟨ret_int (by omega), _, rfl⟩
theorem s2l_any (hB : NV w b H S) (n : Net H S) {x l : Int} (h0 : 0 ≤ x) (h1 : x ≤ 4) (h2 : 0 ≤ l) (h3 : l ≤ 4) : Calls Tryz.prog 56 #[ptr b, .int .i64 x, .int .i64 l] w fun e w' => e = .returned (.int .i64 (2 * H + mm H S + (x * lv H + l))) ∧ ∃ m, w' = w.drewN m := by
 have hl := lv_in n
 have L := Lib.hid fun k => leaves_any (hB.drewN k) n
 have C := Lib.hid (l2s_any hB n (l := lv H) (x := 0) (by omega) hl.2.1 (by omega) (by omega))
 have ⟨m0, m1⟩ := mul_small h0 h1 (n := lv H) (by omega) hl.2.1
 have ⟨m2, m3⟩ := mm_in n
 have L0 := Lib.hid (leaves_any hB n)
 have g0 := n.h0
 have g1 := n.h1
 have e : lv H * S = mm H S := rfl
 rw [e] at C
 clear e
 generalize mm H S = M at *
 generalize lv H = q at *
 obtain ⟨p, hp⟩ : ∃ p, p = x * q := ⟨_, rfl⟩
 rw [← hp] at m0 m1 ⊢
 have hw : IntKind.i64.wrap (x * q) = p := by rw [← hp, IntKind.wrap_i64]; omega
 clear hp
 go_enter Tryz.func56, Tryz.ntmps56
 go_wp2_with fail
 with_reducible refine Calls.mono L0.out ?_
 rintro e w' ⟨rfl, rfl⟩
 go_wp2_with fail
 with_reducible refine Calls.mono C.out ?_
 rintro e w' ⟨rfl, k, rfl⟩
 go_wp2_with fail
 with_reducible refine Calls.mono (L.out k) ?_
 rintro e w' ⟨rfl, rfl⟩
 go_wp2_with fail
 go_ret
 exact ⟨ret_int (by omega), _, rfl⟩
theorem ports_any (hB : NV w b H S) (n : Net H S) : Calls Tryz.prog 26 #[ptr b] w fun e w' => e = .returned (.int .i64 (pts H S)) ∧ ∃ m, w' = w.drewN m := by
 have c1 := hB.cell (o := 1) rfl
 have C := Lib.hid (s2l_any hB n (x := S) (l := 0) (by have := n.s0; omega) n.s1 (by omega) (by omega))
 have e : 2 * H + mm H S + (S * lv H + 0) = pts H S := by have : S * lv H = mm H S := Int.mul_comm _ _; unfold pts; omega
 rw [e] at C
 clear e
 go_enter Tryz.func26, Tryz.ntmps26
 go_wp2_with fail
 with_reducible refine Calls.mono C.out ?_
 rintro e w' ⟨rfl, k, rfl⟩
 go_wp2_with fail
 go_ret
 exact ⟨rfl, _, rfl⟩
theorem spine_any (hB : NV w b H S) (n : Net H S) {q : Int} : Calls Tryz.prog 73 #[ptr b, .int .i64 q] w fun e w' => e = .returned (.int .i64 (sp S q)) ∧ w = w' := by
 have c1 := hB.cell (o := 1) rfl
 have hs := sp_in n q
 have g0 := n.s0
 have g1 := n.s1
 have hne : ¬ S = 0 := by omega
 have hne2 : (S == 0) = false := by rw [beq_eq_false_iff_ne]; exact hne
 have h1 : q.tmod S < S := Int.tmod_lt_of_pos q (by omega)
 unfold sp at hs ⊢
 obtain ⟨r, hr⟩ : ∃ r, q.tmod S = r := ⟨_, rfl⟩
 rw [hr] at hs h1 ⊢
 by_cases h : r < 0
 ·rw [if_pos h] at hs ⊢
  go_enter Tryz.func73, Tryz.ntmps73
  go_wp2_with fail
  go_ret
  exact ⟨rfl, rfl⟩
 ·rw [if_neg h] at hs ⊢
  go_enter Tryz.func73, Tryz.ntmps73
  go_wp2_with fail
  go_ret
  exact ⟨rfl, rfl⟩
theorem up_yes (hB : NV w b H S) {x : Int} (h0 : 0 ≤ x) (h1 : x < H) : Calls Tryz.prog 34 #[ptr b, .int .i64 x] w fun e w' => e = .returned (.int .i64 x) ∧ w = w' := by
 have C := Lib.hid (has_yes hB h0 h1)
 have D := Lib.hid fun w => up1_any x w
 go_enter Tryz.func34, Tryz.ntmps34
 go_wp2_with fail
 with_reducible refine Calls.mono C.out ?_
 rintro e w' ⟨rfl, rfl⟩
 go_wp2_with fail
 with_reducible refine Calls.mono (D.out _) ?_
 rintro e w' ⟨rfl, rfl⟩
 go_wp2_with fail
 go_ret
 exact ⟨rfl, rfl⟩
theorem up_off {p : Value} {x : Int} (C : Hid (Calls Tryz.prog 63 #[p, .int .i64 x] w fun e w' => e = .returned (.bool false) ∧ w = w')) : Calls Tryz.prog 34 #[p, .int .i64 x] w fun e w' => e = .returned (.int .i64 (-1)) ∧ w = w' := by
 go_enter Tryz.func34, Tryz.ntmps34
 go_wp2_with fail
 with_reducible refine Calls.mono C.out ?_
 rintro e w' ⟨rfl, rfl⟩
 go_wp2_with fail
 go_ret
 exact ⟨rfl, rfl⟩
def upn (H x : Int) : Int := if x < 0 ∨ H ≤ x then -1 else x
theorem up_any (hB : NV w b H S) (x : Int) : Calls Tryz.prog 34 #[ptr b, .int .i64 x] w fun e w' => e = .returned (.int .i64 (upn H x)) ∧ w = w' := by
 unfold upn
 split
 ·rename_i h
  exact up_off (Lib.hid (has_no hB h))
 ·rename_i h
  exact up_yes hB (by omega) (by omega)
end Go.Proofs.YtpogpibjkolioaaGreat.Tp

