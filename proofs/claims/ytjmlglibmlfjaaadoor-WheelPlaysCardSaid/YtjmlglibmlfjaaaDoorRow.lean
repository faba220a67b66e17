/- The reference's rows of what comes due: append of a part of one, anywhere. Conditions: each theorem's own. -/
import Derived.Test.YtjmlglibmlfjaaaDoorWk2
import Derived.Maps.AppendAt
import Derived.Deep.RegionLaw
set_option linter.unusedVariables false
namespace Go.Proofs.YtjmlglibmlfjaaaDoor.Rf
open Go.RowKit Hp BitsC Tree Im Wk Go.Proofs.YtjmlglibmlfjaaaDoor.End
open Wheel (owns_kept grown_kept)
def TD : TypeId := 47
theorem infoRef : (Tryd.prog.info? 47).map (fun i => (i.zero, i.size, i.bytes)) = some (some (.agg #[.int .i64 0, .int .i64 0, .int .i64 0]), 3, 24) := by kernel_rfl
/-- A row of the reference's. -/
def RRow (w : World) (base : Nat) (v : Value) (K : List Key) : Prop := w.ownsRow base 47 3 v K.length (K.flatMap kcells)
/-- The slice v shows the keys K. -/
def Src (w : World) (v : Value) (K : List Key) : Prop :=
  (K = [] ∧ v = .slice none 0 0) ∨ ∃ a c, v = .slice (some a) K.length c ∧ ∀ j u, (K.flatMap kcells)[j]? = some u → w.cell? (a.add j) = some u
theorem RRow.form {w : World} {base : Nat} {v : Value} {K : List Key} (h : RRow w base v K) : ∃ s cap, v = .slice s K.length cap ∧ K.length ≤ cap ∧ ((s = none ∧ K = [] ∧ cap = 0) ∨ ∃ g, s = some ⟨g, 0, none⟩ ∧ base ≤ g ∧ g < w.heap.size) := by
  rcases h.2 with ⟨rfl, h0⟩ | ⟨g, cap, cur, rfl, h1, h2, h3, _⟩
  · exact ⟨none, 0, by rw [h0], by omega, Or.inl ⟨rfl, List.length_eq_zero_iff.1 h0, rfl⟩⟩
  · exact ⟨_, cap, rfl, h3, Or.inr ⟨g, rfl, h1, (h.lt g rfl).2⟩⟩
theorem RRow.kept {w w' : World} {F : Nat → Prop} {base : Nat} {v : Value} {K : List Key} (h : RRow w base v K) (k : Kept F w w') (hF : ∀ g, v.ownBlock = some g → ¬ F g) : RRow w' base v K := by
  rcases h.2 with ⟨rfl, h0⟩ | ⟨g, cap, cur, rfl, h1, h2, h3⟩
  · exact ⟨h.1, Or.inl ⟨rfl, h0⟩⟩
  · exact ⟨h.1, Or.inr ⟨g, cap, cur, rfl, h1, by rw [k.block g (h.lt g rfl).2 (hF g rfl)]; exact h2, h3⟩⟩
theorem RRow.base {w : World} {b b' : Nat} {v : Value} {K : List Key} (h : RRow w b v K) (hb : ∀ g, v.ownBlock = some g → b' ≤ g) : RRow w b' v K := by
  rcases h.2 with ⟨rfl, h0⟩ | ⟨g, cap, cur, rfl, h1, h2, h3⟩
  · exact ⟨h.1, Or.inl ⟨rfl, h0⟩⟩
  · exact ⟨h.1, Or.inr ⟨g, cap, cur, rfl, hb g rfl, h2, h3⟩⟩
theorem RRow.lt {w : World} {base : Nat} {v : Value} {K : List Key} (h : RRow w base v K) : ∀ g, v.ownBlock = some g → base ≤ g ∧ g < w.heap.size := fun g hg => World.ownsRow.lt h g hg
theorem RRow.at {w : World} {base g cap n : Nat} {K : List Key} (h : RRow w base (.slice (some ⟨g, 0, none⟩) n cap) K) {i : Nat} (hi : i < K.length) :
    w.cell? ⟨g, i * 3, none⟩ = some (.int .i64 K[i].1) ∧ w.cell? ⟨g, i * 3 + 1, none⟩ = some (.int .i64 K[i].2.1) ∧ w.cell? ⟨g, i * 3 + 2, none⟩ = some (.int .i64 K[i].2.2) := by
  rcases h.2 with ⟨_, h0⟩ | ⟨g', cap', cur, hv, h1, _⟩
  · omega
  · simp only [Value.slice.injEq, Option.some.injEq, Addr.mk.injEq] at hv
    obtain ⟨⟨rfl, _⟩, rfl, rfl⟩ := hv
    have hr : w.ownsRow base 47 3 (.slice (some ⟨g, 0, none⟩) K.length cap) K.length (K.flatMap kcells) := h
    have c0 := hr.cellAt (i * 3 + 0) (by omega)
    have c1 := hr.cellAt (i * 3 + 1) (by omega)
    have c2 := hr.cellAt (i * 3 + 2) (by omega)
    rw [flat3 K i hi _ (by omega)] at c0 c1 c2
    exact ⟨c0, c1, c2⟩
theorem flat_len : ∀ K : List Key, (K.flatMap kcells).length = K.length * 3
  | [] => rfl
  | k :: K => by rw [List.flatMap_cons, List.length_append, flat_len K]; simp [kcells]; omega
/-- The first k of a row. -/
theorem RRow.first {w : World} {base g cap n : Nat} {K : List Key} (h : RRow w base (.slice (some ⟨g, 0, none⟩) n cap) K) (k : Nat) (hk : k ≤ K.length) (c : Nat) : Src w (.slice (some ⟨g, 0, none⟩) k c) (K.take k) := by
  have hl : (K.take k).length = k := by rw [List.length_take]; omega
  refine Or.inr ⟨⟨g, 0, none⟩, c, by rw [hl], fun j u hj => ?_⟩
  have e : ((K.take k).flatMap kcells)[j]? = (K.flatMap kcells)[j]? := by
    conv => rhs; rw [← List.take_append_drop k K, List.flatMap_append]
    rw [List.getElem?_append_left]
    exact (List.getElem?_eq_some_iff.1 hj).1
  rw [e] at hj
  have hn : n = K.length := by
    rcases h.2 with ⟨h0, _⟩ | ⟨_, _, _, hv, _⟩
    · cases h0
    · simp only [Value.slice.injEq] at hv; exact hv.2.1
  subst hn
  have hr : w.ownsRow base 47 3 (.slice (some ⟨g, 0, none⟩) K.length cap) K.length (K.flatMap kcells) := h
  have hj2 : j < K.length * 3 := by rw [← flat_len]; exact (List.getElem?_eq_some_iff.1 hj).1
  have := hr.cellAt j hj2
  rw [hj] at this
  simpa [Addr.add] using (show w.cell? ((⟨g, 0, none⟩ : Addr).add j) = some u by
    rw [Go.WideShapes.add_plain, Nat.zero_add]; exact this)
/-- The others. -/
theorem RRow.rest {w : World} {base g cap n : Nat} {K : List Key} (h : RRow w base (.slice (some ⟨g, 0, none⟩) n cap) K) (k m : Nat) (hk : k ≤ K.length) (hm : m = K.length - k) (c : Nat) : Src w (.slice (some ⟨g, k * 3, none⟩) m c) (K.drop k) := by
  have hl : (K.drop k).length = m := by rw [List.length_drop]; omega
  refine Or.inr ⟨⟨g, k * 3, none⟩, c, by rw [hl], fun j u hj => ?_⟩
  have e : ((K.drop k).flatMap kcells)[j]? = (K.flatMap kcells)[k * 3 + j]? := by
    conv => rhs; rw [← List.take_append_drop k K, List.flatMap_append]
    have ht : ((K.take k).flatMap kcells).length = k * 3 := by rw [flat_len, List.length_take]; congr 1; omega
    rw [List.getElem?_append_right (by omega), ht]
    congr 1; omega
  rw [e] at hj
  have hn : n = K.length := by
    rcases h.2 with ⟨h0, _⟩ | ⟨_, _, _, hv, _⟩
    · cases h0
    · simp only [Value.slice.injEq] at hv; exact hv.2.1
  subst hn
  have hr : w.ownsRow base 47 3 (.slice (some ⟨g, 0, none⟩) K.length cap) K.length (K.flatMap kcells) := h
  have hj2 : k * 3 + j < K.length * 3 := by rw [← flat_len]; exact (List.getElem?_eq_some_iff.1 hj).1
  have := hr.cellAt (k * 3 + j) hj2
  rw [hj] at this
  rw [Go.WideShapes.add_plain]
  exact this
/-- What an append leaves: the keys of both, in a row that was there or is new. -/
structure Apd (w : World) (base : Nat) (v : Value) (K K2 : List Key) (v' : Value) (w' : World) : Prop where
  row : RRow w' base v' (K ++ K2)
  kept : Kept (fun k => v.ownBlock = some k) w w'
  lies : ∀ g, v'.ownBlock = some g → v.ownBlock = some g ∨ w.heap.size ≤ g
theorem run_app {w : World} (base : Nat) {v v2 : Value} {K K2 : List Key} (ty : TypeId) (h1 : RRow w base v K) (h2 : Src w v2 K2) (hsm : K.length + K2.length ≤ 1000000) (hbase : base ≤ w.heap.size) :
    ∃ v' w', (Builtin.append_ #[29, 29] ty #[v, v2]).run Tryd.prog w = .ok v' w' ∧ Apd w base v K K2 v' w' := by
  obtain ⟨ti, hti, hz0, hz1, hz2⟩ := info_parts infoRef
  rcases h2 with ⟨rfl, rfl⟩ | ⟨a, c, rfl, hc⟩
  · have hr := run_append_owned_none (P := Tryd.prog) w base 29 ty 47 ti 3 Tryd.underlying29 hti v _ _ h1
    exact ⟨v, w, hr, ⟨by rw [List.append_nil]; exact h1, Kept.refl _ w, fun g hg => Or.inl hg⟩⟩
  · obtain ⟨v', w', hr, r2, r3, _, r5⟩ := run_append_own_at (P := Tryd.prog) w base 29 ty 47 ti _ 3 24 Tryd.underlying29 hti hz0 hz1 hz2 rfl (by decide) v _ _ h1 a K2.length c _ (flat_len K2) hc kcells_one (by unfold maxLen; omega) (by omega) hbase
    refine ⟨v', w', hr, ⟨?_, grown_kept r3, fun g hg => ?_⟩⟩
    · unfold RRow
      rw [List.length_append, List.flatMap_append]
      exact r2
    · rcases r5 with r5 | r5
      · left; rw [← r5]; exact hg
      · right
        rw [r5] at hg
        cases hg
        exact Nat.le_refl _
theorem wp_app {w : World} {o : Oper} {a : Act} {K0 : Act → World → Prop} {Q : Exit → Act → World → Prop} (s x : Operand)
    (ho : o.op = .call { callee := .builtin .append, args := #[s, x], argTypes := #[29, 29] })
    (base : Nat) {v v2 : Value} {K K2 : List Key} (hs : a.eval s = v) (h1 : RRow w base v K) (hx : a.eval x = v2) (h2 : Src w v2 K2) (hsm : K.length + K2.length ≤ 1000000) (hbase : base ≤ w.heap.size)
    (h : ∀ v' w', Apd w base v K K2 v' w' → K0 (a.put o.dst v') w') : o.wp Tryd.prog a w K0 Q := by
  obtain ⟨v', w', hr, hA⟩ := run_app base o.type h1 h2 hsm hbase
  unfold Oper.wp execOp
  simp only [ho, resolve, invoke, builtin, Sem.run_bind, Sem.run_pure, Result.andThen_ok, List.map_toArray, List.map_cons, List.map_nil, hs, hx, hr]
  exact h v' w' hA
/-- In a plain region. -/
theorem wpList_app {w : World} {ops : Array Oper} {rest : List Oper} {o : Oper} {a : Act} {Q : Exit → Act → World → Prop} (hgd : o.guard = none) (s x : Operand)
    (ho : o.op = .call { callee := .builtin .append, args := #[s, x], argTypes := #[29, 29] })
    (base : Nat) {v v2 : Value} {K K2 : List Key} (hs : a.eval s = v) (h1 : RRow w base v K) (hx : a.eval x = v2) (h2 : Src w v2 K2) (hsm : K.length + K2.length ≤ 1000000) (hbase : base ≤ w.heap.size)
    (h : ∀ v' w', Apd w base v K K2 v' w' → wpList Tryd.prog ops Q rest (a.put o.dst v') w') : wpList Tryd.prog ops Q (o :: rest) a w :=
  wpList_plain hgd fun _ hK => wp_app s x ho base hs h1 hx h2 hsm hbase fun v' w' hA => hK _ _ (h v' w' hA)
/-- At a step of a region that draws its order. -/
theorem step_app {w : World} {ops : Array Oper} {o : Oper} {a : Act} {K0 : Act → World → Prop} {Q : Exit → Act → World → Prop} {E : Prop} (hgd : o.guard = none) (s x : Operand)
    (ho : o.op = .call { callee := .builtin .append, args := #[s, x], argTypes := #[29, 29] })
    (base : Nat) {v v2 : Value} {K K2 : List Key} (hs : a.eval s = v) (h1 : RRow w base v K) (hx : a.eval x = v2) (h2 : Src w v2 K2) (hsm : K.length + K2.length ≤ 1000000) (hbase : base ≤ w.heap.size)
    (h : ∀ v' w', Apd w base v K K2 v' w' → K0 (a.put o.dst v') w') : if Region.wanted o (yielded ops a.tmps) = true then Oper.wp Tryd.prog o a w K0 Q else E := by
  have hw : Region.wanted o (yielded ops a.tmps) = true := by simp [Region.wanted, hgd]
  rw [if_pos hw]
  exact wp_app s x ho base hs h1 hx h2 hsm hbase h
theorem RRow.form2 {w : World} {base : Nat} {v : Value} {K : List Key} (h : RRow w base v K) : ∃ s n cap, v = .slice s n cap := by
  obtain ⟨s, cap, e, _⟩ := h.form
  exact ⟨s, _, cap, e⟩
theorem src_none {w : World} {K : List Key} (k m : Nat) (hk : K.length ≤ k) (hm : m = K.length - k) (a : Addr) (c : Nat) : Src w (.slice (some a) m c) (K.drop k) := by
  have e : K.drop k = [] := List.drop_eq_nil_of_le hk
  rw [e]
  exact Or.inr ⟨a, c, by rw [hm]; simp; omega, fun j u hj => by simp at hj⟩
theorem RRow.fresh (w : World) : RRow (w.alloc (.cells #[] 47)) w.heap.size (.slice (some ⟨w.heap.size, 0, none⟩) 0 0) [] :=
  ⟨rfl, Or.inr ⟨w.heap.size, 0, #[], rfl, Nat.le_refl _, heap_alloc_new w _, Nat.le_refl _, by unfold maxLen; omega, rfl, rfl⟩⟩
/-- An append to a new row leaves all that was there. -/
theorem Apd.old {w w0 : World} {base : Nat} {v v' : Value} {K K2 : List Key} {w' : World} (h : Apd w base v K K2 v' w') (k : Kept (fun _ => False) w0 w) (hv : ∀ g, v.ownBlock = some g → w0.heap.size ≤ g) : Kept (fun _ => False) w0 w' :=
  k.trans' h.kept (fun i hi e => by have := hv i e; omega)
end Go.Proofs.YtjmlglibmlfjaaaDoor.Rf
