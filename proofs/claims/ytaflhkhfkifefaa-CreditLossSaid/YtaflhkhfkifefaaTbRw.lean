/- Rows of elements of whatever cells, of the call's own: how they lie, append, make. Conditions: each theorem's own. -/
import Derived.Test.YtaflhkhfkifefaaHeap
import Derived.Laws.AppendOwn
import Derived.Laws.AppendOwnNone
import Derived.Laws.OwnMore
import Derived.Maps.AppendAt
import Derived.OwnWalk
import Derived.Carry
set_option linter.unusedVariables false
namespace Go.Proofs.Ytaflhkhfkifefaa.Rw
open Go.RowKit Hp
/-- A type of elements: how one lies. -/
structure Ty (α : Type) where
  E : TypeId
  L : TypeId
  k : Nat
  bz : Nat
  enc : α → List Value
  z : Value
  hL : Try.prog.underlying L = some (.slice E)
  hI : (Try.prog.info? E).map (fun i => (i.zero, i.size, i.bytes)) = some (some z, k, bz)
  hz : z.cells.size = k
  hk : ∀ x, (enc x).length = k
  h1 : ∀ x, ∀ v ∈ enc x, v.oneCell' = true
  k0 : 0 < k
  hb : bz ≤ 128
variable {α : Type} {t : Ty α}
def flat (t : Ty α) (l : List α) : List Value := l.flatMap t.enc
theorem flat_len (t : Ty α) : ∀ l : List α, (flat t l).length = l.length * t.k
  | [] => by simp [flat]
  | x :: l => by
    have := flat_len t l
    unfold flat at this ⊢
    rw [List.flatMap_cons, List.length_append, this, t.hk, List.length_cons, Nat.add_mul, Nat.one_mul, Nat.add_comm]
theorem flat_append (t : Ty α) (a b : List α) : flat t (a ++ b) = flat t a ++ flat t b := by unfold flat; rw [List.flatMap_append]
theorem flat_at (t : Ty α) : ∀ {l : List α} {i : Nat} {x : α} (h : l[i]? = some x) {j : Nat} (hj : j < t.k), (flat t l)[i * t.k + j]? = (t.enc x)[j]?
  | [], i, x, h, j, hj => by simp at h
  | y :: l, 0, x, h, j, hj => by
    simp at h; subst h
    unfold flat
    rw [List.flatMap_cons, List.getElem?_append_left (by rw [t.hk]; omega)]
    congr 1; omega
  | y :: l, i + 1, x, h, j, hj => by
    have := flat_at t (l := l) (i := i) (x := x) (by simpa using h) hj
    unfold flat at this ⊢
    have e : (i + 1) * t.k + j = t.k + (i * t.k + j) := by rw [Nat.add_mul, Nat.one_mul]; omega
    rw [List.flatMap_cons, e, List.getElem?_append_right (by rw [t.hk]; omega), t.hk, Nat.add_sub_cancel_left, this]
theorem flat_one (t : Ty α) {l : List α} : ∀ u ∈ flat t l, u.oneCell' = true := by
  intro u hu
  obtain ⟨x, _, hx⟩ := List.mem_flatMap.1 hu
  exact t.h1 x u hx
/-- A row. -/
def Row (t : Ty α) (w : World) (base : Nat) (v : Value) (l : List α) : Prop := w.ownsRow base t.E t.k v l.length (flat t l)
/-- A row that has a block of its own. -/
structure Lies (t : Ty α) (w : World) (g cap : Nat) (cur : List Value) (l : List α) : Prop where
  blk : Blk w g cur t.E
  le : l.length ≤ cap
  most : cap ≤ maxLen
  len : cur.length = cap * t.k
  head : cur.take (l.length * t.k) = flat t l
theorem Row.form {w : World} {base : Nat} {v : Value} {l : List α} (h : Row t w base v l) :
    (v = .slice none 0 0 ∧ l = []) ∨ ∃ g cap cur, v = .slice (some ⟨g, 0, none⟩) l.length cap ∧ base ≤ g ∧ Lies t w g cap cur l := by
  rcases h.2 with ⟨rfl, h0⟩ | ⟨g, cap, cur, rfl, h1, h2, h3, h4, h5, h6⟩
  · exact Or.inl ⟨rfl, List.length_eq_zero_iff.1 h0⟩
  · exact Or.inr ⟨g, cap, cur.toList, rfl, h1, ⟨by unfold Blk; simpa using h2, h3, h4, by simpa using h5, h6⟩⟩
theorem Lies.row {w : World} {g cap base : Nat} {cur : List Value} {l : List α} (h : Lies t w g cap cur l) (hb : base ≤ g) : Row t w base (.slice (some ⟨g, 0, none⟩) l.length cap) l :=
  ⟨flat_len t l, Or.inr ⟨g, cap, cur.toArray, rfl, hb, h.blk, h.le, h.most, by simpa using h.len, h.head⟩⟩
theorem Lies.cur_at {w : World} {g cap : Nat} {cur : List Value} {l : List α} (h : Lies t w g cap cur l) {j : Nat} (hj : j < l.length * t.k) : cur[j]? = (flat t l)[j]? := by
  rw [← h.head, List.getElem?_take, if_pos hj]
theorem Lies.cell {w : World} {g cap : Nat} {cur : List Value} {l : List α} (h : Lies t w g cap cur l) {i : Nat} {x : α} (hi : l[i]? = some x) {j : Nat} {u : Value} (hu : (t.enc x)[j]? = some u) : w.cell? ⟨g, i * t.k + j, none⟩ = some u := by
  have hj : j < t.k := by have := (List.getElem?_eq_some_iff.1 hu).1; rwa [t.hk] at this
  have hil := (List.getElem?_eq_some_iff.1 hi).1
  refine h.blk.cell ?_
  rw [h.cur_at ?_, flat_at t hi hj, hu]
  have : (i + 1) * t.k ≤ l.length * t.k := Nat.mul_le_mul_right _ hil
  rw [Nat.add_mul, Nat.one_mul] at this
  omega
theorem Lies.kept {w w' : World} {F : Nat → Prop} {g cap : Nat} {cur : List Value} {l : List α} (h : Lies t w g cap cur l) (k : Kept F w w') (hF : ¬ F g) : Lies t w' g cap cur l := ⟨k.blk h.blk hF, h.le, h.most, h.len, h.head⟩
theorem Row.kept {w w' : World} {F : Nat → Prop} {base : Nat} {v : Value} {l : List α} (h : Row t w base v l) (k : Kept F w w') (hF : ∀ g, v.ownBlock = some g → ¬ F g) : Row t w' base v l := by
  rcases h.form with ⟨rfl, rfl⟩ | ⟨g, cap, cur, rfl, h1, h2⟩
  · exact ⟨by simp [flat], Or.inl ⟨rfl, rfl⟩⟩
  · exact (h2.kept k (hF g rfl)).row h1
theorem Row.old {w w' : World} {base : Nat} {v : Value} {l : List α} (h : Row t w base v l) (k : Kept (fun _ => False) w w') : Row t w' base v l := h.kept k (fun _ _ f => f)
theorem Row.lt {w : World} {base : Nat} {v : Value} {l : List α} (h : Row t w base v l) : ∀ g, v.ownBlock = some g → base ≤ g ∧ g < w.heap.size := fun g hg => World.ownsRow.lt h g hg
theorem Row.base {w : World} {b b' : Nat} {v : Value} {l : List α} (h : Row t w b v l) (hb : ∀ g, v.ownBlock = some g → b' ≤ g) : Row t w b' v l := by
  rcases h.form with ⟨rfl, rfl⟩ | ⟨g, cap, cur, rfl, h1, h2⟩
  · exact ⟨by simp [flat], Or.inl ⟨rfl, rfl⟩⟩
  · exact h2.row (hb g rfl)
theorem Row.none (t : Ty α) (w : World) (b : Nat) : Row t w b (.slice none 0 0) [] := ⟨by simp [flat], Or.inl ⟨rfl, rfl⟩⟩
theorem Row.slice {w : World} {base : Nat} {v : Value} {l : List α} (h : Row t w base v l) : ∃ a c, v = .slice a l.length c ∧ l.length ≤ c ∧ c ≤ maxLen := by
  rcases h.form with ⟨rfl, rfl⟩ | ⟨g, cap, cur, rfl, h1, h2⟩
  · exact ⟨_, 0, rfl, Nat.le_refl _, by decide⟩
  · exact ⟨_, cap, rfl, h2.le, h2.most⟩
/-- What 'append' adds. -/
def Src (t : Ty α) (w : World) (v : Value) (K : List α) : Prop :=
  (K = [] ∧ v = .slice none 0 0) ∨ ∃ a c, v = .slice (some a) K.length c ∧ ∀ j u, (flat t K)[j]? = some u → w.cell? (a.add j) = some u
theorem Src.old {w w' : World} {v : Value} {K : List α} (h : Src t w v K) (hc : ∀ a u, w.cell? a = some u → w'.cell? a = some u) : Src t w' v K := by
  rcases h with h | ⟨a, c, rfl, h⟩
  · exact Or.inl h
  · exact Or.inr ⟨a, c, rfl, fun j u hj => hc _ _ (h j u hj)⟩
theorem src_blk {w : World} {g : Nat} {K : List α} (c : Nat) (h : Blk w g (flat t K) t.E) : Src t w (.slice (some ⟨g, 0, none⟩) K.length c) K :=
  Or.inr ⟨_, c, rfl, fun j u hj => by rw [Go.WideShapes.add_plain, Nat.zero_add]; exact h.cell hj⟩
/-- A part of a row. -/
theorem Lies.src {w : World} {g cap : Nat} {cur : List Value} {l : List α} (h : Lies t w g cap cur l) (i n c : Nat) (hn : i + n ≤ l.length) : Src t w (.slice (some ⟨g, i * t.k, none⟩) n c) ((l.drop i).take n) := by
  have hl : ((l.drop i).take n).length = n := by rw [List.length_take, List.length_drop]; omega
  refine Or.inr ⟨_, c, by rw [hl], fun j u hj => ?_⟩
  have hjl := (List.getElem?_eq_some_iff.1 hj).1
  rw [flat_len, hl] at hjl
  rw [Go.WideShapes.add_plain]
  refine h.blk.cell ?_
  have hm : (i + n) * t.k ≤ l.length * t.k := Nat.mul_le_mul_right _ hn
  rw [Nat.add_mul] at hm
  rw [h.cur_at (by omega)]
  have hq : j / t.k < n := Nat.div_lt_of_lt_mul (by rw [Nat.mul_comm]; exact hjl)
  have hr : j % t.k < t.k := Nat.mod_lt _ t.k0
  have hj2 : j = (j / t.k) * t.k + j % t.k := by rw [Nat.mul_comm]; exact (Nat.div_add_mod j t.k).symm
  have hx : ((l.drop i).take n)[j / t.k]? = some l[i + j / t.k] := by
    rw [List.getElem?_take, if_pos hq, List.getElem?_drop, List.getElem?_eq_getElem (by omega)]
  rw [hj2] at hj
  rw [flat_at t hx hr] at hj
  rw [hj2, show i * t.k + (j / t.k * t.k + j % t.k) = (i + j / t.k) * t.k + j % t.k by rw [Nat.add_mul]; omega, flat_at t (List.getElem?_eq_getElem (by omega)) hr]
  exact hj
/-- What an append leaves: a row that was there or is new. -/
structure Apd (t : Ty α) (w : World) (base : Nat) (v : Value) (l : List α) (v' : Value) (w' : World) : Prop where
  row : Row t w' base v' l
  kept : Kept (fun k => v.ownBlock = some k) w w'
  lies : ∀ g, v'.ownBlock = some g → v.ownBlock = some g ∨ w.heap.size ≤ g
theorem grown_kept {w w' : World} {row : Option Nat} (h : w.grownBy w' row) : Kept (fun k => row = some k) w w' := ⟨h.os, h.tape, h.output, h.size, fun k hk hr => h.block k hk (fun e => hr e.symm)⟩
theorem run_app {w : World} (base : Nat) {v v2 : Value} {K K2 : List α} (ty : TypeId) (h1 : Row t w base v K) (h2 : Src t w v2 K2) (hsm : K.length + K2.length ≤ 1000000) (hbase : base ≤ w.heap.size) :
    ∃ v' w', (Builtin.append_ #[t.L, t.L] ty #[v, v2]).run Try.prog w = .ok v' w' ∧ Apd t w base v (K ++ K2) v' w' := by
  obtain ⟨ti, hti, hz0, hz1, hz2⟩ := info_parts t.hI
  rcases h2 with ⟨rfl, rfl⟩ | ⟨a, c, rfl, hc⟩
  · have hr := run_append_owned_none (P := Try.prog) w base t.L ty t.E ti t.k t.hL hti v _ _ h1
    exact ⟨v, w, hr, ⟨by rw [List.append_nil]; exact h1, Kept.refl _ w, fun g hg => Or.inl hg⟩⟩
  · have hbb : (K.length + K2.length) * t.bz ≤ 1000000 * 128 := Nat.mul_le_mul hsm t.hb
    obtain ⟨v', w', hr, r2, r3, _, r5⟩ := run_append_own_at (P := Try.prog) w base t.L ty t.E ti _ t.k t.bz t.hL hti hz0 hz1 hz2 t.hz t.k0 v _ _ h1 a K2.length c _ (flat_len t K2) hc (flat_one t) (by unfold maxLen; omega) (by omega) hbase
    refine ⟨v', w', hr, ⟨?_, grown_kept r3, fun g hg => ?_⟩⟩
    · unfold Row
      rw [List.length_append, flat_append]
      exact r2
    · rcases r5 with r5 | r5
      · left; rw [← r5]; exact hg
      · right
        rw [r5] at hg
        cases hg
        exact Nat.le_refl _
theorem wp_app {w : World} {o : Oper} {a : Act} {K0 : Act → World → Prop} {Q : Exit → Act → World → Prop} (t : Ty α) (s x : Operand)
    (ho : o.op = .call { callee := .builtin .append, args := #[s, x], argTypes := #[t.L, t.L] })
    (base : Nat) {v v2 : Value} {K K2 : List α} (hs : a.eval s = v) (h1 : Row t w base v K) (hx : a.eval x = v2) (h2 : Src t w v2 K2) (hsm : K.length + K2.length ≤ 1000000) (hbase : base ≤ w.heap.size)
    (h : ∀ v' w', Apd t w base v (K ++ K2) v' w' → K0 (a.put o.dst v') w') : o.wp Try.prog a w K0 Q := by
  obtain ⟨v', w', hr, hA⟩ := run_app base o.type h1 h2 hsm hbase
  unfold Oper.wp execOp
  simp only [ho, resolve, invoke, builtin, Sem.run_bind, Sem.run_pure, Result.andThen_ok, List.map_toArray, List.map_cons, List.map_nil, hs, hx, hr]
  exact h v' w' hA
/-- In a plain region. -/
theorem wpList_app {w : World} {ops : Array Oper} {rest : List Oper} {o : Oper} {a : Act} {Q : Exit → Act → World → Prop} (t : Ty α) (hgd : o.guard = none) (s x : Operand)
    (ho : o.op = .call { callee := .builtin .append, args := #[s, x], argTypes := #[t.L, t.L] })
    (base : Nat) {v v2 : Value} {K K2 : List α} (hs : a.eval s = v) (h1 : Row t w base v K) (hx : a.eval x = v2) (h2 : Src t w v2 K2) (hsm : K.length + K2.length ≤ 1000000) (hbase : base ≤ w.heap.size)
    (h : ∀ v' w', Apd t w base v (K ++ K2) v' w' → wpList Try.prog ops Q rest (a.put o.dst v') w') : wpList Try.prog ops Q (o :: rest) a w :=
  wpList_plain hgd fun _ hK => wp_app t s x ho base hs h1 hx h2 hsm hbase fun v' w' hA => hK _ _ (h v' w' hA)
/-- In a region that draws. -/
theorem step_app {ops : Array Oper} {o : Oper} {a : Act} {w : World} {K0 : Act → World → Prop} {Q : Exit → Act → World → Prop} {E : Prop} (t : Ty α)
    (hg : o.guard = none) (s x : Operand) (ho : o.op = .call { callee := .builtin .append, args := #[s, x], argTypes := #[t.L, t.L] })
    (base : Nat) {v v2 : Value} {K K2 : List α} (hs : a.eval s = v) (h1 : Row t w base v K) (hx : a.eval x = v2) (h2 : Src t w v2 K2) (hsm : K.length + K2.length ≤ 1000000) (hbase : base ≤ w.heap.size)
    (h : ∀ v' w', Apd t w base v (K ++ K2) v' w' → K0 (a.put o.dst v') w') :
    if Region.wanted o (yielded ops a.tmps) = true then Oper.wp Try.prog o a w K0 Q else E := by
  have hw : Region.wanted o (yielded ops a.tmps) = true := by simp [Region.wanted, hg]
  rw [if_pos hw]
  exact wp_app t s x ho base hs h1 hx h2 hsm hbase h
/-- A row made with room for n. -/
theorem wpList_make {w : World} {ops : Array Oper} {rest : List Oper} {o : Oper} {a : Act} {Q : Exit → Act → World → Prop} (t : Ty α) (hg : o.guard = none) (l c : Operand) (hop : o.op = Op.makeSlice t.L l c)
    (C : Int) (n : Nat) (hl : a.eval l = .int .i64 0) (hc : a.eval c = .int .i64 C) (hC : C = (n : Int)) (hn : n ≤ 1000000)
    (hK : ∀ w', Row t w' w.heap.size (.slice (some ⟨w.heap.size, 0, none⟩) 0 n) [] → Kept (fun _ => False) w w' → wpList Try.prog ops Q rest (a.put o.dst (.slice (some ⟨w.heap.size, 0, none⟩) 0 n)) w') :
    wpList Try.prog ops Q (o :: rest) a w := by
  obtain ⟨ti, hti, hz0, hz1, hz2⟩ := info_parts t.hI
  have hbb : t.bz * n ≤ 128 * 1000000 := Nat.mul_le_mul t.hb hn
  refine wpList_make_own (P := Try.prog) w hg l c t.L hop w.heap.size t.E ti t.z t.k t.hL hti hz0 hz1 .i64 .i64 C n hl hc hC (by rw [hz2]; omega) (by unfold maxLen; omega) (Nat.le_refl _) ?_
  intro w' hR hG
  exact hK w' hR ((grown_kept hG).mono (fun _ _ e => by cases e))
end Go.Proofs.Ytaflhkhfkifefaa.Rw
