/- Rows of ranges in memory: how they lie; copy, clear, append over them. Conditions: each theorem's own. -/
import Derived.Test.YtfkcplapmkpkbaaHeap
import Derived.Test.YtfkcplapmkpkbaaIvMath
import Derived.Laws.CopyOwn
import Derived.Laws.AppendOwn
import Derived.Laws.AppendOwnNone
import Derived.Lib.AppendZeros
import Derived.Lib.Overlaps
import Derived.Laws.Externs
import Derived.Maps.AppendAt
import Derived.Carry
set_option linter.unusedVariables false
namespace Go.Proofs.Ytfkcplapmkpkbaa.IvR
open Go.RowKit Hp IvM
theorem infoR : (Try.prog.info? 59).map (fun i => (i.zero, i.size, i.bytes)) = some (some (.agg #[.int .i64 0, .int .i64 0]), 2, 16) := by kernel_rfl
/-- A range's two cells. -/
def rc (p : Rg) : List Value := [.int .i64 p.1, .int .i64 p.2]
def flat (l : List Rg) : List Value := l.flatMap rc
theorem flat_len : ∀ l : List Rg, (flat l).length = l.length * 2
  | [] => rfl
  | p :: l => by have := flat_len l; unfold flat at this ⊢; rw [List.flatMap_cons, List.length_append, this]; simp [rc]; omega
theorem flat_append (a b : List Rg) : flat (a ++ b) = flat a ++ flat b := by unfold flat; rw [List.flatMap_append]
theorem flat_take : ∀ (l : List Rg) (k : Nat), (flat l).take (k * 2) = flat (l.take k)
  | [], k => by simp [flat]
  | p :: l, 0 => by simp [flat]
  | p :: l, k + 1 => by
    have := flat_take l k
    unfold flat at this ⊢
    rw [List.take_succ_cons, List.flatMap_cons, List.flatMap_cons, ← this, show (k + 1) * 2 = 2 + k * 2 by omega]
    rw [List.take_append, List.take_of_length_le (by simp [rc])]
    simp [rc]
theorem flat_drop : ∀ (l : List Rg) (k : Nat), (flat l).drop (k * 2) = flat (l.drop k)
  | [], k => by simp [flat]
  | p :: l, 0 => by simp [flat]
  | p :: l, k + 1 => by
    have := flat_drop l k
    unfold flat at this ⊢
    rw [List.drop_succ_cons, List.flatMap_cons, ← this, show (k + 1) * 2 = 2 + k * 2 by omega, ← List.drop_drop]
    simp [rc]
theorem flat_at : ∀ (l : List Rg) (i : Nat) (h : i < l.length), (flat l)[i * 2]? = some (.int .i64 l[i].1) ∧ (flat l)[i * 2 + 1]? = some (.int .i64 l[i].2)
  | p :: l, 0, h => by simp [flat, rc]
  | p :: l, i + 1, h => by
    have := flat_at l i (by simpa using h)
    unfold flat at this ⊢
    rw [List.flatMap_cons, List.getElem?_append_right (by simp [rc]; omega), List.getElem?_append_right (by simp [rc]; omega)]
    rw [show (i + 1) * 2 - (rc p).length = i * 2 by simp [rc]; omega, show (i + 1) * 2 + 1 - (rc p).length = i * 2 + 1 by simp [rc]; omega]
    simpa using this
theorem flat_one {l : List Rg} : ∀ u ∈ flat l, u.oneCell' = true := by
  intro u hu
  obtain ⟨k, _, hk⟩ := List.mem_flatMap.1 hu
  simp only [rc, List.mem_cons, List.not_mem_nil, or_false] at hk
  rcases hk with rfl | rfl <;> rfl
/-- A row of ranges. -/
def Row (w : World) (base : Nat) (v : Value) (l : List Rg) : Prop := w.ownsRow base 59 2 v l.length (flat l)
/-- A row that has a block of its own. -/
structure Lies (w : World) (g cap : Nat) (cur : List Value) (l : List Rg) : Prop where
  blk : Blk w g cur 59
  le : l.length ≤ cap
  most : cap ≤ maxLen
  len : cur.length = cap * 2
  head : cur.take (l.length * 2) = flat l
theorem Row.form {w : World} {base : Nat} {v : Value} {l : List Rg} (h : Row w base v l) :
    (v = .slice none 0 0 ∧ l = []) ∨ ∃ g cap cur, v = .slice (some ⟨g, 0, none⟩) l.length cap ∧ base ≤ g ∧ Lies w g cap cur l := by
  rcases h.2 with ⟨rfl, h0⟩ | ⟨g, cap, cur, rfl, h1, h2, h3, h4, h5, h6⟩
  · exact Or.inl ⟨rfl, List.length_eq_zero_iff.1 h0⟩
  · exact Or.inr ⟨g, cap, cur.toList, rfl, h1, ⟨by unfold Blk; simpa using h2, h3, h4, by simpa using h5, h6⟩⟩
theorem Lies.row {w : World} {g cap base : Nat} {cur : List Value} {l : List Rg} (h : Lies w g cap cur l) (hb : base ≤ g) : Row w base (.slice (some ⟨g, 0, none⟩) l.length cap) l :=
  ⟨flat_len l, Or.inr ⟨g, cap, cur.toArray, rfl, hb, h.blk, h.le, h.most, by simpa using h.len, h.head⟩⟩
theorem Lies.cur_at {w : World} {g cap : Nat} {cur : List Value} {l : List Rg} (h : Lies w g cap cur l) {j : Nat} (hj : j < l.length * 2) : cur[j]? = (flat l)[j]? := by
  rw [← h.head, List.getElem?_take, if_pos hj]
theorem Lies.at {w : World} {g cap : Nat} {cur : List Value} {l : List Rg} (h : Lies w g cap cur l) {i : Nat} (hi : i < l.length) :
    w.cell? ⟨g, i * 2, none⟩ = some (.int .i64 l[i].1) ∧ w.cell? ⟨g, i * 2 + 1, none⟩ = some (.int .i64 l[i].2) := by
  have := flat_at l i hi
  exact ⟨h.blk.cell (by rw [h.cur_at (by omega)]; exact this.1), h.blk.cell (by rw [h.cur_at (by omega)]; exact this.2)⟩
/-- The cells of a part. -/
theorem Lies.part {w : World} {g cap : Nat} {cur : List Value} {l : List Rg} (h : Lies w g cap cur l) (k : Nat) : ∀ j u, (flat (l.drop k))[j]? = some u → w.cell? ((⟨g, k * 2, none⟩ : Addr).add j) = some u := by
  intro j u hj
  rw [← flat_drop, List.getElem?_drop] at hj
  rw [Go.WideShapes.add_plain]
  refine h.blk.cell ?_
  rw [h.cur_at (by have := (List.getElem?_eq_some_iff.1 hj).1; rw [flat_len] at this; omega)]
  exact hj
theorem Lies.kept {w w' : World} {F : Nat → Prop} {g cap : Nat} {cur : List Value} {l : List Rg} (h : Lies w g cap cur l) (k : Kept F w w') (hF : ¬ F g) : Lies w' g cap cur l := ⟨k.blk h.blk hF, h.le, h.most, h.len, h.head⟩
theorem Row.kept {w w' : World} {F : Nat → Prop} {base : Nat} {v : Value} {l : List Rg} (h : Row w base v l) (k : Kept F w w') (hF : ∀ g, v.ownBlock = some g → ¬ F g) : Row w' base v l := by
  rcases h.form with ⟨rfl, rfl⟩ | ⟨g, cap, cur, rfl, h1, h2⟩
  · exact ⟨rfl, Or.inl ⟨rfl, rfl⟩⟩
  · exact (h2.kept k (hF g rfl)).row h1
theorem Row.lt {w : World} {base : Nat} {v : Value} {l : List Rg} (h : Row w base v l) : ∀ g, v.ownBlock = some g → base ≤ g ∧ g < w.heap.size := fun g hg => World.ownsRow.lt h g hg
theorem Row.base {w : World} {b b' : Nat} {v : Value} {l : List Rg} (h : Row w b v l) (hb : ∀ g, v.ownBlock = some g → b' ≤ g) : Row w b' v l := by
  rcases h.form with ⟨rfl, rfl⟩ | ⟨g, cap, cur, rfl, h1, h2⟩
  · exact ⟨rfl, Or.inl ⟨rfl, rfl⟩⟩
  · exact h2.row (hb g rfl)
theorem Row.none (w : World) (b : Nat) : Row w b (.slice none 0 0) [] := ⟨rfl, Or.inl ⟨rfl, rfl⟩⟩
theorem row_set {w : World} {g : Nat} {cur : List Value} (hB : Blk w g cur 59) (cs : List Value) : Blk (w.setRow g cs.toArray) g cs 59 ∧ Kept (fun k => k = g) w (w.setRow g cs.toArray) :=
  ⟨setRow_heap w g _ _ _ _ hB, ⟨rfl, rfl, rfl, by simp [World.setRow], fun k _ hk => setRow_other w g k _ (fun e => hk e)⟩⟩
theorem run_cp {w : World} {g : Nat} {cur : List Value} (hB : Blk w g cur 59) (ty : TypeId) (o dLen dCap : Nat) (a : Addr) (sLen sCap n : Nat) (cs : List Value) (hn : n = Nat.min sLen dLen) (hl : cs.length = n * 2)
    (hsrc : ∀ j v, cs[j]? = some v → w.cell? (a.add j) = some v) (hfit : o + cs.length ≤ cur.length) (h1 : ∀ v ∈ cs, v.oneCell' = true) :
    ∃ w', (Builtin.copy_ #[38, 38] ty #[.slice (some ⟨g, o, none⟩) dLen dCap, .slice (some a) sLen sCap]).run Try.prog w = .ok (goInt n) w' ∧ Blk w' g (splice cur o cs) 59 ∧ Kept (fun k => k = g) w w' := by
  obtain ⟨i, hi, hz0, hz1, hz2⟩ := info_parts infoR
  have hld := run_loadCells_list (P := Try.prog) w a cs hsrc
  have hst := run_storeCells_at Try.prog g o 59 cs 0 cur.toArray w hB (by simpa using hfit) h1
  simp only [Nat.add_zero] at hst
  have hs := row_set hB (splice cur o cs)
  refine ⟨_, ?_, hs.1, hs.2⟩
  have e : Nat.min sLen dLen * 2 = cs.length := by rw [hl, hn]
  have e2 : cur.toArray.toList.take o ++ cs ++ cur.toArray.toList.drop (o + cs.length) = splice cur o cs := by simp [splice]
  rw [e2] at hst
  simp [Builtin.copy_, run_underlying Try.underlying38, Builtin.lenOf, Builtin.firstCells, sizeOf, typeInfo, hi, hz1, e, hld, hst, hn]
theorem zeroR (w : World) : (zeroValue 59).run Try.prog w = .ok (.agg #[.int .i64 0, .int .i64 0]) w := by kernel_rfl
/-- So many zero cells. -/
def zeros (n : Nat) : List Value := (Builtin.zeroCells (Value.agg #[.int .i64 0, .int .i64 0]).cells n).toList
theorem zeros_len (n : Nat) : (zeros n).length = n * 2 := by unfold zeros; rw [Array.length_toList, size_zeroCells]; rfl
theorem zeros_one (n : Nat) : ∀ v ∈ zeros n, v.oneCell' = true := by
  intro v hv
  unfold zeros Builtin.zeroCells at hv
  simp only [Array.toList_map, List.mem_map] at hv
  obtain ⟨i, _, rfl⟩ := hv
  have : i % (Value.agg #[.int .i64 0, .int .i64 0]).cells.size = 0 ∨ i % (Value.agg #[.int .i64 0, .int .i64 0]).cells.size = 1 := by
    show i % 2 = 0 ∨ i % 2 = 1
    omega
  rcases this with h | h <;> rw [h] <;> rfl
theorem run_clr {w : World} {g : Nat} {cur : List Value} (hB : Blk w g cur 59) (ty : TypeId) (o n c : Nat) (h0 : 0 < n) (hfit : o + n * 2 ≤ cur.length) :
    ∃ w', (Builtin.clear_ #[38] ty #[.slice (some ⟨g, o, none⟩) n c]).run Try.prog w = .ok (.tuple #[]) w' ∧ Blk w' g (splice cur o (zeros n)) 59 ∧ Kept (fun k => k = g) w w' := by
  have hst := run_storeCells_at Try.prog g o 59 (zeros n) 0 cur.toArray w hB (by rw [zeros_len]; simpa using hfit) (zeros_one n)
  simp only [Nat.add_zero] at hst
  have hs := row_set hB (splice cur o (zeros n))
  refine ⟨_, ?_, hs.1, hs.2⟩
  have e2 : cur.toArray.toList.take o ++ zeros n ++ cur.toArray.toList.drop (o + (zeros n).length) = splice cur o (zeros n) := by simp [splice]
  rw [e2] at hst
  obtain ⟨m, rfl⟩ : ∃ m, n = m + 1 := ⟨n - 1, by omega⟩
  unfold zeros at hst
  have hz := zeroR w
  simp [Builtin.clear_, run_underlying Try.underlying38, hz]
  rw [hst]
  rfl
theorem run_clr0 (w : World) (ty : TypeId) (a : Option Addr) (c : Nat) : (Builtin.clear_ #[38] ty #[.slice a 0 c]).run Try.prog w = .ok (.tuple #[]) w := by
  cases a <;> simp [Builtin.clear_, run_underlying Try.underlying38]
/-- 'append(s[:i], make([]T, m)...)' where it must grow. -/
theorem run_zeros {w : World} {g cap : Nat} {cur : List Value} {l : List Rg} (h : Lies w g cap cur l) (ty : TypeId) (i m : Nat) (hi : i ≤ l.length) (hg : cap < i + m) (hsm : i + m ≤ 1000000) :
    ∃ c' r, (Builtin.append_ #[38, 3] ty #[.slice (some ⟨g, 0, none⟩) i cap, .int .i64 (m : Int)]).run Try.prog w =
      .ok (.slice (some ⟨w.heap.size, 0, none⟩) (i + m) c') (w.drew.alloc (.cells (flat (l.take i) ++ (zeros m ++ zeros r)).toArray 59)) ∧ i + m + r = c' ∧ c' ≤ maxLen := by
  obtain ⟨ti, hti, hz0, hz1, hz2⟩ := info_parts infoR
  have hge := grownCap_ge w (i + m) cap 59
  refine ⟨grownCap w (i + m) cap 59, grownCap w (i + m) cap 59 - (i + m), ?_, by omega, grownCap_le_maxLen w (i + m) cap _ (by unfold maxLen; omega)⟩
  have hw : IntKind.i64.wrap (m : Int) = m := by rw [IntKind.wrap_i64]; omega
  have hneg : ¬ ((m : Int) < 0) := by omega
  have hm : 0 < m := by have := h.le; omega
  have hns : ¬ (m * 2 = 0) := by omega
  have hn : ¬ (i + m ≤ cap) := by omega
  have h63' : ¬ (9223372036854775807 < ((i : Int) + (m : Int))) := by omega
  have h48i : ¬ (281474976710656 < (m : Int) * 16) := by omega
  have h48' : ¬ (281474976710656 < Builtin.nextslicecap (i + m) cap * 16) := by have := growslice_fits (bytes := 16) hg (by omega); omega
  have hfo := run_firstCells_some (P := Try.prog) w.drew 2 i ⟨g, 0, none⟩ i cap (flat (l.take i)) (by rw [flat_len, List.length_take]; congr 1; omega) (fun j v hj => by
    have hj' := (List.getElem?_eq_some_iff.1 hj).1
    rw [flat_len, List.length_take] at hj'
    rw [Go.WideShapes.add_plain, Nat.zero_add]
    refine Blk.cell (Blk.drew h.blk) ?_
    rw [h.cur_at (by omega), ← hj, ← flat_take, List.getElem?_take, if_pos (by omega)])
  unfold zeros
  simp [Builtin.append_, run_underlying Try.underlying38, run_underlying Try.underlying3, sizeOf, typeInfo, zeroValue, hti, hz0, hz1, hz2, asInt, asIntOf, hw, hneg, hns, h48i, hn, h63', h48', Question.forced, hfo, newRow, grownCap]
  try (congr 2)
  try (apply Array.ext'; simp)
/-- 'append(s[:i], v...)' where there is room. -/
theorem run_room {w : World} {g cap : Nat} {cur : List Value} {l : List Rg} (h : Lies w g cap cur l) (ty : TypeId) (i : Nat) (hi : i ≤ l.length) (hr : i + 1 ≤ cap) (a : Addr) (c : Nat) (p : Rg) (hp : ∀ j u, (rc p)[j]? = some u → w.cell? (a.add j) = some u) :
    ∃ w', (Builtin.append_ #[38, 38] ty #[.slice (some ⟨g, 0, none⟩) i cap, .slice (some a) 1 c]).run Try.prog w = .ok (.slice (some ⟨g, 0, none⟩) (i + 1) cap) w' ∧ Blk w' g (splice cur (i * 2) (rc p)) 59 ∧ Kept (fun k => k = g) w w' := by
  obtain ⟨ti, hti, hz0, hz1, hz2⟩ := info_parts infoR
  have hl := h.len
  have hs := row_set h.blk (splice cur (i * 2) (rc p))
  refine ⟨_, ?_, hs.1, hs.2⟩
  have := run_append_room (P := Try.prog) w 38 ty 59 ti Try.underlying38 hti g i cap cur.toArray h.blk a 1 c (rc p) (by rw [hz1]; rfl) hp (by intro u hu; simp [rc] at hu; rcases hu with rfl | rfl <;> rfl) hr (by rw [hz1]; simp [rc]; omega)
  rw [this, hz1]
  congr 3
  simp [splice]
theorem splice_take_end {L cs : List Value} {o : Nat} (ho : o ≤ L.length) (k : Nat) (hk : k = o + cs.length) : (splice L o cs).take k = L.take o ++ cs := by
  unfold splice
  have : (L.take o ++ cs).length = k := by rw [List.length_append, List.length_take]; omega
  rw [← List.append_assoc, ← this, List.take_left]
theorem splice_take_more {L cs : List Value} {o : Nat} (ho : o ≤ L.length) (k m : Nat) (hk : k = o + cs.length + m) : (splice L o cs).take k = L.take o ++ (cs ++ (L.drop (o + cs.length)).take m) := by
  unfold splice
  have e : (L.take o).length = o := by rw [List.length_take]; omega
  rw [List.take_append, List.take_of_length_le (l := L.take o) (by rw [e]; omega), e, List.take_append, List.take_of_length_le (l := cs) (by omega)]
  congr 3
  omega
theorem splice_take_le {L cs : List Value} {o : Nat} (ho : o ≤ L.length) {k : Nat} (hk : k ≤ o) : (splice L o cs).take k = L.take k := by
  unfold splice
  have e : (L.take o).length = o := by rw [List.length_take]; omega
  rw [List.take_append_of_le_length (by omega), List.take_take]
  congr 1; omega
theorem splice_mid {L cs : List Value} {o : Nat} (ho : o ≤ L.length) (k : Nat) (hk : k = cs.length) : ((splice L o cs).drop o).take k = cs := by
  unfold splice
  have e : (L.take o).length = o := by rw [List.length_take]; omega
  subst hk
  rw [List.drop_append_of_le_length (by omega), List.drop_of_length_le (by omega), List.nil_append, List.take_left]
theorem splice_get {L cs : List Value} {o : Nat} (ho : o ≤ L.length) {k : Nat} (hk : o + cs.length ≤ k) : (splice L o cs)[k]? = L[k]? := by
  unfold splice
  have e : (L.take o).length = o := by rw [List.length_take]; omega
  rw [List.getElem?_append_right (by omega), e, List.getElem?_append_right (by omega), List.getElem?_drop]
  congr 1; omega
/-- What 'append' adds. -/
def Src (w : World) (v : Value) (K : List Rg) : Prop :=
  (K = [] ∧ v = .slice none 0 0) ∨ ∃ a c, v = .slice (some a) K.length c ∧ ∀ j u, (flat K)[j]? = some u → w.cell? (a.add j) = some u
/-- What an append leaves: a row that was there or is new. -/
structure Apd (w : World) (base : Nat) (v : Value) (l : List Rg) (v' : Value) (w' : World) : Prop where
  row : Row w' base v' l
  kept : Kept (fun k => v.ownBlock = some k) w w'
  lies : ∀ g, v'.ownBlock = some g → v.ownBlock = some g ∨ w.heap.size ≤ g
theorem grown_kept {w w' : World} {row : Option Nat} (h : w.grownBy w' row) : Kept (fun k => row = some k) w w' := ⟨h.os, h.tape, h.output, h.size, fun k hk hr => h.block k hk (fun e => hr e.symm)⟩
theorem run_app {w : World} (base : Nat) {v v2 : Value} {K K2 : List Rg} (ty : TypeId) (h1 : Row w base v K) (h2 : Src w v2 K2) (hsm : K.length + K2.length ≤ 1000000) (hbase : base ≤ w.heap.size) :
    ∃ v' w', (Builtin.append_ #[38, 38] ty #[v, v2]).run Try.prog w = .ok v' w' ∧ Apd w base v (K ++ K2) v' w' := by
  obtain ⟨ti, hti, hz0, hz1, hz2⟩ := info_parts infoR
  rcases h2 with ⟨rfl, rfl⟩ | ⟨a, c, rfl, hc⟩
  · have hr := run_append_owned_none (P := Try.prog) w base 38 ty 59 ti 2 Try.underlying38 hti v _ _ h1
    exact ⟨v, w, hr, ⟨by rw [List.append_nil]; exact h1, Kept.refl _ w, fun g hg => Or.inl hg⟩⟩
  · obtain ⟨v', w', hr, r2, r3, _, r5⟩ := run_append_own_at (P := Try.prog) w base 38 ty 59 ti _ 2 16 Try.underlying38 hti hz0 hz1 hz2 rfl (by decide) v _ _ h1 a K2.length c _ (flat_len K2) hc flat_one (by unfold maxLen; omega) (by omega) hbase
    refine ⟨v', w', hr, ⟨?_, grown_kept r3, fun g hg => ?_⟩⟩
    · unfold Row
      rw [List.length_append, flat_append]
      exact r2
    · rcases r5 with r5 | r5
      · left; rw [← r5]; exact hg
      · right
        rw [r5] at hg
        cases hg
        exact Nat.le_refl _
theorem wp_app {w : World} {o : Oper} {a : Act} {K0 : Act → World → Prop} {Q : Exit → Act → World → Prop} (s x : Operand)
    (ho : o.op = .call { callee := .builtin .append, args := #[s, x], argTypes := #[38, 38] })
    (base : Nat) {v v2 : Value} {K K2 : List Rg} (hs : a.eval s = v) (h1 : Row w base v K) (hx : a.eval x = v2) (h2 : Src w v2 K2) (hsm : K.length + K2.length ≤ 1000000) (hbase : base ≤ w.heap.size)
    (h : ∀ v' w', Apd w base v (K ++ K2) v' w' → K0 (a.put o.dst v') w') : o.wp Try.prog a w K0 Q := by
  obtain ⟨v', w', hr, hA⟩ := run_app base o.type h1 h2 hsm hbase
  unfold Oper.wp execOp
  simp only [ho, resolve, invoke, builtin, Sem.run_bind, Sem.run_pure, Result.andThen_ok, List.map_toArray, List.map_cons, List.map_nil, hs, hx, hr]
  exact h v' w' hA
/-- In a plain region. -/
theorem wpList_app {w : World} {ops : Array Oper} {rest : List Oper} {o : Oper} {a : Act} {Q : Exit → Act → World → Prop} (hgd : o.guard = none) (s x : Operand)
    (ho : o.op = .call { callee := .builtin .append, args := #[s, x], argTypes := #[38, 38] })
    (base : Nat) {v v2 : Value} {K K2 : List Rg} (hs : a.eval s = v) (h1 : Row w base v K) (hx : a.eval x = v2) (h2 : Src w v2 K2) (hsm : K.length + K2.length ≤ 1000000) (hbase : base ≤ w.heap.size)
    (h : ∀ v' w', Apd w base v (K ++ K2) v' w' → wpList Try.prog ops Q rest (a.put o.dst v') w') : wpList Try.prog ops Q (o :: rest) a w :=
  wpList_plain hgd fun _ hK => wp_app s x ho base hs h1 hx h2 hsm hbase fun v' w' hA => hK _ _ (h v' w' hA)
theorem wp_copy_run {w : World} {o : Oper} {a : Act} {K : Act → World → Prop} {Q : Exit → Act → World → Prop} (d s : Operand) (t t' : TypeId)
    (ho : o.op = .call { callee := .builtin .copy, args := #[d, s], argTypes := #[t, t'] }) {v u : Value} (hd : a.eval d = v) (hs : a.eval s = u) {v' : Value} {w' : World}
    (hr : (Builtin.copy_ #[t, t'] o.type #[v, u]).run Try.prog w = .ok v' w') (h : K (a.put o.dst v') w') : o.wp Try.prog a w K Q := by
  unfold Oper.wp execOp
  simp only [ho, resolve, invoke, builtin, Sem.run_bind, Sem.run_pure, Result.andThen_ok, List.map_toArray, List.map_cons, List.map_nil, hd, hs, hr]
  exact h
theorem wpList_copy_run {w : World} {ops : Array Oper} {rest : List Oper} {o : Oper} {a : Act} {Q : Exit → Act → World → Prop} (hgd : o.guard = none) (d s : Operand) (t t' : TypeId)
    (ho : o.op = .call { callee := .builtin .copy, args := #[d, s], argTypes := #[t, t'] }) {v u : Value} (hd : a.eval d = v) (hs : a.eval s = u) {v' : Value} {w' : World}
    (hr : (Builtin.copy_ #[t, t'] o.type #[v, u]).run Try.prog w = .ok v' w') (h : wpList Try.prog ops Q rest (a.put o.dst v') w') : wpList Try.prog ops Q (o :: rest) a w :=
  wpList_plain hgd fun _ hK => wp_copy_run d s t t' ho hd hs hr (hK _ _ h)
theorem step_copy_run {ops : Array Oper} {o : Oper} {a : Act} {w : World} {K : Act → World → Prop} {Q : Exit → Act → World → Prop} {E : Prop}
    (hg : o.guard = none) (d x : Operand) (dT sT : TypeId) (hop : o.op = Op.call { callee := Callee.builtin Builtin.copy, args := #[d, x], argTypes := #[dT, sT] })
    {v u : Value} (hd : a.eval d = v) (hx : a.eval x = u) {v' : Value} {w' : World} (hr : (Builtin.copy_ #[dT, sT] o.type #[v, u]).run Try.prog w = .ok v' w') (hK : K (a.put o.dst v') w') :
    if Region.wanted o (yielded ops a.tmps) = true then Oper.wp Try.prog o a w K Q else E := by
  have hw : Region.wanted o (yielded ops a.tmps) = true := by simp [Region.wanted, hg]
  rw [if_pos hw]
  exact wp_copy_run d x dT sT hop hd hx hr hK
theorem wpList_clear_run {w : World} {ops : Array Oper} {rest : List Oper} {o : Oper} {a : Act} {Q : Exit → Act → World → Prop} (hgd : o.guard = none) (d : Operand) (t : TypeId)
    (ho : o.op = .call { callee := .builtin .clear, args := #[d], argTypes := #[t] }) {v : Value} (hd : a.eval d = v) {v' : Value} {w' : World}
    (hr : (Builtin.clear_ #[t] o.type #[v]).run Try.prog w = .ok v' w') (h : wpList Try.prog ops Q rest (a.put o.dst v') w') : wpList Try.prog ops Q (o :: rest) a w :=
  wpList_plain hgd fun _ hK => by
    unfold Oper.wp execOp
    simp only [ho, resolve, invoke, builtin, Sem.run_bind, Sem.run_pure, Result.andThen_ok, List.map_toArray, List.map_cons, List.map_nil, hd, hr]
    exact hK _ _ h
end Go.Proofs.Ytfkcplapmkpkbaa.IvR
