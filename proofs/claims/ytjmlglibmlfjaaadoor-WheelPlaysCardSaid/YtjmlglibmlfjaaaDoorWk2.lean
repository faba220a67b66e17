/- Rows of what came due, numbers handed in, and what waits after Adds in a row. Conditions: each theorem's own. -/
import Derived.Test.YtjmlglibmlfjaaaDoorWk
import Derived.OpenShut
set_option linter.unusedVariables false
namespace Go.Proofs.YtjmlglibmlfjaaaDoor.Wk
open Go.RowKit Hp BitsC Tree Im Go.Proofs.YtjmlglibmlfjaaaDoor.End
open Wheel (infoDue owns_kept grown_kept)
open Wh (Tab)
/-- A slice of numbers that was there at the call. -/
def Ints (w : World) (s : Option Addr) (cap : Nat) (zs : List Int) : Prop :=
  zs.length ≤ cap ∧ (∀ n ∈ zs, (Lit.int .i64 n).wf = true) ∧ (zs = [] ∨ ∃ b off, s = some ⟨b, off, none⟩ ∧ b < w.heap.size ∧ ∀ j, j < zs.length → w.cell? ⟨b, off + j, none⟩ = some (.int .i64 (zs.getD j 0)))
theorem Ints.at {w w' : World} {s : Option Addr} {cap : Nat} {zs : List Int} (h : Ints w s cap zs) (k : Old w w') {j : Nat} (hj : j < zs.length) :
    ∃ b off, s = some ⟨b, off, none⟩ ∧ b < w.heap.size ∧ w'.cell? ⟨b, off + j, none⟩ = some (.int .i64 zs[j]) := by
  rcases h.2.2 with rfl | ⟨b, off, rfl, hb, hc⟩
  · simp at hj
  · refine ⟨b, off, rfl, hb, ?_⟩
    rw [kept_cell k hb (fun h => h) (off + j), hc j hj]
    simp [List.getD, List.getElem?_eq_getElem hj]
theorem Ints.wf {w : World} {s : Option Addr} {cap : Nat} {zs : List Int} (h : Ints w s cap zs) {j : Nat} (hj : j < zs.length) : -9223372036854775808 ≤ zs[j] ∧ zs[j] ≤ 9223372036854775807 :=
  bounds_i64 (h.2.1 _ (List.getElem_mem hj))
theorem flat3 : ∀ (K : List Key) (i : Nat) (h : i < K.length) (o : Nat) (ho : o < 3), (K.flatMap kcells)[i * 3 + o]? = (kcells K[i])[o]?
  | k :: K, 0, h, o, ho => by
    rw [List.flatMap_cons, List.getElem?_append_left (by simp [kcells]; omega)]
    simp
  | k :: K, i + 1, h, o, ho => by
    rw [List.flatMap_cons, List.getElem?_append_right (by simp [kcells]; omega)]
    have : (i + 1) * 3 + o - (kcells k).length = i * 3 + o := by simp [kcells]; omega
    rw [this, flat3 K i (by simpa using h) o ho]
    rfl
/-- A row of what came due. -/
def Row (w : World) (base : Nat) (v : Value) (K : List Key) : Prop := w.ownsRow base 64 3 v K.length (K.flatMap kcells)
theorem Row.form {w : World} {base : Nat} {v : Value} {K : List Key} (h : Row w base v K) : ∃ s cap, v = .slice s K.length cap ∧ K.length ≤ cap ∧ (s = none ∨ ∃ g, s = some ⟨g, 0, none⟩ ∧ base ≤ g ∧ g < w.heap.size) := by
  rcases h.2 with ⟨rfl, h0⟩ | ⟨g, cap, cur, rfl, h1, h2, h3, _⟩
  · exact ⟨none, 0, by rw [h0], by omega, Or.inl rfl⟩
  · refine ⟨_, cap, rfl, h3, Or.inr ⟨g, rfl, h1, ?_⟩⟩
    exact (h.lt g rfl).2
theorem Row.at {w : World} {base : Nat} {s : Option Addr} {n cap : Nat} {K : List Key} (h : Row w base (.slice s n cap) K) {i : Nat} (hi : i < K.length) :
    ∃ g, s = some ⟨g, 0, none⟩ ∧ base ≤ g ∧ w.cell? ⟨g, i * 3, none⟩ = some (.int .i64 K[i].1) ∧ w.cell? ⟨g, i * 3 + 1, none⟩ = some (.int .i64 K[i].2.1) ∧ w.cell? ⟨g, i * 3 + 2, none⟩ = some (.int .i64 K[i].2.2) := by
  rcases h.2 with ⟨_, h0⟩ | ⟨g, cap, cur, hv, h1, _⟩
  · omega
  · simp only [Value.slice.injEq] at hv
    obtain ⟨rfl, rfl, rfl⟩ := hv
    have hr : w.ownsRow base 64 3 (.slice (some ⟨g, 0, none⟩) K.length cap) K.length (K.flatMap kcells) := h
    have c0 := hr.cellAt (i * 3 + 0) (by omega)
    have c1 := hr.cellAt (i * 3 + 1) (by omega)
    have c2 := hr.cellAt (i * 3 + 2) (by omega)
    rw [flat3 K i hi _ (by omega)] at c0 c1 c2
    exact ⟨g, rfl, h1, c0, c1, c2⟩
theorem Row.kept {w w' : World} {F : Nat → Prop} {base : Nat} {v : Value} {K : List Key} (h : Row w base v K) (k : Kept F w w') (hF : ∀ g, base ≤ g → g < w.heap.size → ¬ F g) : Row w' base v K := by
  rcases h.2 with ⟨rfl, h0⟩ | ⟨g, cap, cur, rfl, h1, h2, h3⟩
  · exact ⟨h.1, Or.inl ⟨rfl, h0⟩⟩
  · have hg := (h.lt g rfl).2
    exact ⟨h.1, Or.inr ⟨g, cap, cur, rfl, h1, by rw [k.block g hg (hF g h1 hg)]; exact h2, h3⟩⟩
theorem Row.kept' {w w' : World} {F : Nat → Prop} {base : Nat} {v : Value} {K : List Key} (h : Row w base v K) (k : Kept F w w') (hF : ∀ g, v.ownBlock = some g → ¬ F g) : Row w' base v K := by
  rcases h.2 with ⟨rfl, h0⟩ | ⟨g, cap, cur, rfl, h1, h2, h3⟩
  · exact ⟨h.1, Or.inl ⟨rfl, h0⟩⟩
  · exact ⟨h.1, Or.inr ⟨g, cap, cur, rfl, h1, by rw [k.block g (h.lt g rfl).2 (hF g rfl)]; exact h2, h3⟩⟩
theorem Row.shape {w : World} {base : Nat} {v : Value} {K : List Key} (h : Row w base v K) {n : Nat} (hn : K.length = n) : ∃ s cap, v = .slice s n cap ∧ n ≤ cap := by
  subst hn
  obtain ⟨s, cap, e, hc, _⟩ := h.form
  exact ⟨s, cap, e, hc⟩
theorem kcells_one : ∀ {K : List Key}, ∀ u ∈ K.flatMap kcells, u.oneCell' = true := by
  intro K u hu
  obtain ⟨k, _, hk⟩ := List.mem_flatMap.1 hu
  simp only [kcells, List.mem_cons, List.not_mem_nil, or_false] at hk
  rcases hk with rfl | rfl | rfl <;> rfl
/-- 'append(b, a...)' of two rows. -/
theorem wp_append_rows {w : World} {ops : Array Oper} {rest : List Oper} {o : Oper} {a : Act} {Q : Exit → Act → World → Prop} (hgd : o.guard = none) (s x : Operand)
    (ho : o.op = .call { callee := .builtin .append, args := #[s, x], argTypes := #[41, 41] })
    (base base2 : Nat) {v v2 : Value} {K K2 : List Key} (hs : a.eval s = v) (h1 : Row w base v K) (hx : a.eval x = v2) (h2 : Row w base2 v2 K2) (hsm : K.length + K2.length ≤ 1000000) (hbase : base ≤ w.heap.size)
    (h : ∀ v' w', Row w' base v' (K ++ K2) → Kept (fun k => v.ownBlock = some k) w w' → wpList Tryd.prog ops Q rest (a.put o.dst v') w') : wpList Tryd.prog ops Q (o :: rest) a w := by
  obtain ⟨ti, hti, hz0, hz1, hz2⟩ := info_parts infoDue
  rcases h2.2 with ⟨rfl, h0⟩ | ⟨g, cap, cur, rfl, g1, g2, g3, _⟩
  · obtain rfl : K2 = [] := List.length_eq_zero_iff.1 h0
    have hr := run_append_owned_none (P := Tryd.prog) w base 41 o.type 64 ti 3 Tryd.underlying41 hti v _ _ h1
    refine wpList_plain hgd fun KK hK => ?_
    unfold Oper.wp execOp
    simp only [ho, resolve, invoke, builtin, Sem.run_bind, Sem.run_pure, Result.andThen_ok, List.map_toArray, List.map_cons, List.map_nil, hs, hx, hr]
    exact hK _ _ (h v w (by rw [List.append_nil]; exact h1) (Kept.refl _ w))
  · refine wpList_append_own w hgd s x 41 ho base 64 ti _ 3 24 Tryd.underlying41 hti hz0 hz1 hz2 rfl (by decide) v _ _ hs h1 ⟨g, 0, none⟩ K2.length cap _ hx h2.1 ?_ kcells_one (by unfold maxLen; omega) (by omega) hbase ?_
    · exact h2.cells (g := g) rfl
    · intro v' w' r1 r2 _
      refine h v' w' ?_ (grown_kept r2 |>.mono (fun i _ e => e))
      unfold Row
      rw [List.length_append, List.flatMap_append]
      exact r1
/-- What waits when the numbers zs have been added, i of them: the i-th at zs[i], of value i. -/
def built (zs : List Int) : Nat → List Key
  | 0 => []
  | i + 1 => ins ((zs.getD i 0).toNat, i + 1, (i : Int)) (built zs i)
theorem built_len (zs : List Int) : ∀ i, (built zs i).length = i
  | 0 => rfl
  | i + 1 => by rw [built, ins_len, built_len zs i]
theorem mem_ins {x k : Key} {K : List Key} (h : k ∈ ins x K) : k = x ∨ k ∈ K := by
  unfold ins at h
  rcases List.mem_append.1 h with h | h
  · exact Or.inr (List.mem_filter.1 h).1
  · rcases List.mem_cons.1 h with h | h
    · exact Or.inl h
    · exact Or.inr (List.mem_filter.1 h).1
theorem built_mem (zs : List Int) : ∀ i, ∀ k ∈ built zs i, ∃ v : Nat, v < i ∧ k = ((zs.getD v 0).toNat, v + 1, (v : Int))
  | 0, k, h => by simp [built] at h
  | i + 1, k, h => by
    rcases mem_ins h with rfl | h
    · exact ⟨i, by omega, rfl⟩
    · obtain ⟨v, hv, e⟩ := built_mem zs i k h
      exact ⟨v, by omega, e⟩
/-- By time, then by number. -/
def Rises (a b : Key) : Prop := a.1 < b.1 ∨ (a.1 = b.1 ∧ a.2.1 < b.2.1)
theorem ins_rises {x : Key} {K : List Key} (h : K.Pairwise Rises) (hx : ∀ k ∈ K, k.2.1 < x.2.1) : (ins x K).Pairwise Rises := by
  unfold ins
  rw [List.pairwise_append, List.pairwise_cons]
  refine ⟨h.filter _, ⟨fun k hk => ?_, h.filter _⟩, fun k hk k' hk' => ?_⟩
  · have := of_decide_eq_true (List.mem_filter.1 hk).2
    exact Or.inl this
  · have h1 := of_decide_eq_true (List.mem_filter.1 hk).2
    rcases List.mem_cons.1 hk' with rfl | hk'
    · have := hx k (List.mem_filter.1 hk).1
      unfold Rises
      omega
    · have h2 := of_decide_eq_true (List.mem_filter.1 hk').2
      exact Or.inl (by omega)
theorem built_rises (zs : List Int) : ∀ i, (built zs i).Pairwise Rises
  | 0 => List.Pairwise.nil
  | i + 1 => ins_rises (built_rises zs i) (fun k hk => by obtain ⟨v, hv, rfl⟩ := built_mem zs i k hk; show v + 1 < i + 1; omega)
theorem cut_rises (n : Nat) : ∀ {K : List Key}, K.Pairwise Rises → upTo n K ++ past n K = K
  | [], _ => rfl
  | k :: K, h => by
    have h1 := List.pairwise_cons.1 h
    have ih := cut_rises n h1.2
    unfold upTo past at ih ⊢
    by_cases hk : k.1 ≤ n
    · rw [List.filter_cons, List.filter_cons, if_pos (decide_eq_true hk), if_neg (by simp; omega), List.cons_append, ih]
    · have e : K.filter (fun k => decide (k.1 ≤ n)) = [] := filter_none (fun y hy => by have := h1.1 y hy; unfold Rises at this; simp; omega)
      rw [e] at ih
      rw [List.filter_cons, List.filter_cons, if_neg (by simpa using hk), if_pos (by simp; omega), e, List.nil_append, ← List.nil_append (K.filter _), ih]
theorem upTo_all {n : Nat} {K : List Key} (h : ∀ k ∈ K, k.1 ≤ n) : upTo n K = K := filter_all (fun k hk => decide_eq_true (h k hk))
theorem past_all {n : Nat} {K : List Key} (h : ∀ k ∈ K, k.1 ≤ n) : past n K = [] := filter_none (fun k hk => by have := h k hk; simp; omega)
end Go.Proofs.YtjmlglibmlfjaaaDoor.Wk
