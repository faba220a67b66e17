/- The set of ranges: New, Add in one, Sum, Front, Full, Ranges. Conditions: each theorem's own. -/
import Derived.Test.YtagggadjmnclfaaIvAdd3
import Derived.WalkSpells
import Derived.Lib.SliceRun
set_option linter.unusedVariables false
namespace Go.Proofs.Ytagggadjmnclfaa.Iv
open Go.RowKit Hp IvM IvR IvN
attribute [local go_sem ↓] Go.wp_at_zero Go.wp_at_succ
theorem Own.of {b : Nat} {v : Value} {k : Nat} (h : Own b v k) : k = b ∨ v.ownBlock = some k := h
/-- What any Add leaves. -/
def AddQ (w : World) (base b : Nat) (v : Value) (n : Int) (l : List Rg) (f t : Int) (e : Ending) (w' : World) : Prop :=
  ∃ v' L k, e = .returned (.tuple #[.int .i64 (size L - size l), .int .i64 k]) ∧ Added w base b v n L v' w' ∧ L.length ≤ l.length + 1 ∧ (∀ x, IvM.Has L x ↔ IvM.Has l x ∨ (May n f t ∧ f ≤ x ∧ x < t))
theorem added_same {w : World} {base b : Nat} {v : Value} {n : Int} {l : List Rg} (h : SetV w base b v n l) : Added w base b v n l v w := ⟨h, Kept.refl _ w, fun g hg => Or.inl hg⟩
theorem add_any {w : World} {base b : Nat} {v : Value} {n : Int} {l : List Rg} (h : SetV w base b v n l) (hbase : base ≤ w.heap.size) (f t : Int) (hfew : l.length < 900000) :
    Calls Try.prog 8 #[.pointer (some ⟨b, 0, none⟩), .int .i64 f, .int .i64 t] w (AddQ w base b v n l f t) := by
  by_cases hm : May n f t
  · by_cases hne : f = t
    · subst hne
      refine (add_none h hm).mono ?_
      rintro e w' ⟨rfl, rfl⟩
      exact ⟨v, l, 0, by rw [Int.sub_self], added_same h, by omega, fun x => ⟨Or.inl, fun hx => hx.elim id (fun ⟨_, _, _⟩ => by omega)⟩⟩
    · refine (add_yes h hbase hm hne hfew).mono ?_
      rintro e w' ⟨L, ⟨v', rfl, hA⟩, hl, hx⟩
      exact ⟨v', L, 0, rfl, hA, hl, fun x => (hx x).trans ⟨fun h => h.elim Or.inl (fun h => Or.inr ⟨hm, h⟩), fun h => h.elim Or.inl (fun h => Or.inr h.2)⟩⟩
  · refine (add_no h hm).mono ?_
    rintro e w' ⟨rfl, rfl⟩
    exact ⟨v, l, 1, by rw [Int.sub_self], added_same h, by omega, fun x => ⟨Or.inl, fun hx => hx.elim id (fun ⟨h, _⟩ => absurd h hm)⟩⟩
theorem new_no {n : Int} (h : n < 0 ∨ 1073741824 < n) (w : World) : Calls Try.prog 7 #[.int .i64 n] w fun e w' => e = .returned (.tuple #[.pointer none, .int .i64 1]) ∧ w = w' := by
  have hc : n < 0 ∨ (¬ n < 0 ∧ 1073741824 < n) := by omega
  rcases hc with h1 | ⟨h1, h2⟩
  all_goals
    go_enter Try.func7, Try.ntmps7
    go_wp2_with fail
    go_ret2
    exact ⟨rfl, rfl⟩
def NewP (w : World) (n : Int) (e : Ending) (w' : World) : Prop := ∃ b, e = .returned (.tuple #[.pointer (some ⟨b, 0, none⟩), .int .i64 0]) ∧ SetV w' w.heap.size b (.slice none 0 0) n [] ∧ Kept (fun _ => False) w w'
theorem new_yes {n : Int} (h0 : 0 ≤ n) (h1 : n ≤ 1073741824) (w : World) : Calls Try.prog 7 #[.int .i64 n] w (NewP w n) := by
  have h2 : ¬ 1073741824 < n := by omega
  have h3 : ¬ n < 0 := by omega
  go_enter Try.func7, Try.ntmps7
  go_wp2_with fail
  go_ret2
  exact ⟨w.heap.size, rfl, ⟨Blk.new w [.int .i64 n, .slice none 0 0, .int .i64 0] _, Row.none _ _, by simp [Value.ownBlock], Nat.le_refl _, IvM.Good.nil n, ⟨h0, h1⟩, by simp⟩, (Kept.refl _ w).alloc _⟩
theorem sum_nil (w : World) : Calls Try.prog 11 #[.pointer none] w fun e w' => e = .returned (.int .i64 0) ∧ w = w' := by
  go_enter Try.func11, Try.ntmps11
  go_wp2_with fail
  go_ret
  exact ⟨rfl, rfl⟩
theorem sum_any {w : World} {base b : Nat} {v : Value} {n : Int} {l : List Rg} (h : SetV w base b v n l) : Calls Try.prog 11 #[.pointer (some ⟨b, 0, none⟩)] w fun e w' => e = .returned (.int .i64 (size l)) ∧ w = w' := by
  have c2 := h.blk.cell (o := 2) rfl
  clear h
  go_enter Try.func11, Try.ntmps11
  go_wp2_with fail
  go_ret
  exact ⟨rfl, rfl⟩
theorem front_nil (w : World) : Calls Try.prog 16 #[.pointer none] w fun e w' => e = .returned (.int .i64 0) ∧ w = w' := by
  go_enter Try.func16, Try.ntmps16
  go_wp2_with fail
  go_ret
  exact ⟨rfl, rfl⟩
set_option maxHeartbeats 2000000 in
theorem front_any {w : World} {base b : Nat} {v : Value} {n : Int} {l : List Rg} (h : SetV w base b v n l) : Calls Try.prog 16 #[.pointer (some ⟨b, 0, none⟩)] w fun e w' => e = .returned (.int .i64 (front l)) ∧ w = w' := by
  have c1 := h.blk.cell (o := 1) rfl
  obtain ⟨s, cap, rfl, q1, q2, q3⟩ := h.runs
  cases l with
  | nil =>
    clear q3 h
    go_enter Try.func16, Try.ntmps16
    go_wp2_with fail
    go_ret
    exact ⟨rfl, rfl⟩
  | cons p r =>
    obtain ⟨g, rfl, g1, g2, g3, g4⟩ := q3.resolve_left (fun e => by simp at e)
    obtain ⟨x, y⟩ := p
    have e0 : w.cell? ⟨g, 0, none⟩ = some (.int .i64 x) := by simpa using (g4 0 (by simp)).1
    have e1 : w.cell? ⟨g, 1, none⟩ = some (.int .i64 y) := by simpa using (g4 0 (by simp)).2
    obtain ⟨m, hm⟩ : ∃ m, ((x, y) :: r).length = m := ⟨_, rfl⟩
    rw [hm] at c1
    have hm0 : 0 < m := by rw [← hm]; simp
    have hm1 : ((m : Int) == 0) = false := by rw [beq_eq_false_iff_ne]; omega
    clear q3 h g4 q1 hm
    by_cases hx : 0 < x
    · have e : front ((x, y) :: r) = 0 := if_pos hx
      rw [e]
      clear e
      go_enter Try.func16, Try.ntmps16
      go_wp2_with fail
      go_ret
      exact ⟨rfl, rfl⟩
    · have e : front ((x, y) :: r) = y := if_neg hx
      rw [e]
      clear e
      go_enter Try.func16, Try.ntmps16
      go_wp2_with fail
      go_ret
      exact ⟨rfl, rfl⟩
theorem full_nil (w : World) : Calls Try.prog 12 #[.pointer none] w fun e w' => e = .returned (.bool false) ∧ Kept (fun _ => False) w w' := by
  go_enter Try.func12, Try.ntmps12
  go_wp2_with fail
  go_quiet (fail)
  go_wp2_with fail
  go_ret
  exact ⟨rfl, (Kept.refl _ w).drewN _⟩
theorem full_any {w : World} {base b : Nat} {v : Value} {n : Int} {l : List Rg} (h : SetV w base b v n l) : Calls Try.prog 12 #[.pointer (some ⟨b, 0, none⟩)] w fun e w' => e = .returned (.bool (front l == n)) ∧ Kept (fun _ => False) w w' := by
  have c0 := h.blk.cell (o := 0) rfl
  have F := Lib.hid fun (q : Nat) => front_any (h.drewN q)
  clear h
  generalize front l = y at *
  go_enter Try.func12, Try.ntmps12
  go_wp2_with fail
  go_quiet ((go_at_call 16; exact Calls.quiet_of_same ((F.out _).mono fun _ _ ⟨e1, e2⟩ => ⟨e1, e2.symm⟩)))
  go_wp2_with fail
  go_ret
  exact ⟨rfl, (Kept.refl _ w).drewN _⟩
def CloneP (w : World) (l : List Rg) (e : Ending) (w' : World) : Prop := ∃ v', e = .returned v' ∧ Row w' w.heap.size v' l ∧ Kept (fun _ => False) w w'
theorem row_src {w : World} {base : Nat} {v : Value} {l : List Rg} (h : Row w base v l) : Src w v l := by
  rcases h.form with ⟨rfl, rfl⟩ | ⟨g, cap, cur, rfl, h1, h2⟩
  · exact Or.inl ⟨rfl, rfl⟩
  · refine Or.inr ⟨⟨g, 0, none⟩, cap, rfl, fun j u hj => ?_⟩
    have := h2.part 0 j u (by simpa using hj)
    simpa using this
theorem src_kept {w w' : World} {v : Value} {l : List Rg} (h : Src w v l) (k : Kept (fun _ => False) w w') : Src w' v l := by
  rcases h with h | ⟨a, c, e, hc⟩
  · exact Or.inl h
  · refine Or.inr ⟨a, c, e, fun j u hj => ?_⟩
    have h1 := hc j u hj
    have h2 : (a.add j).block < w.heap.size := World.block_lt_of_cell? w _ h1
    rw [← h1]
    simp [World.cell?, k.block _ h2 (fun f => f)]
theorem row_fresh (w : World) : Row (w.alloc (.cells #[] 31)) w.heap.size (.slice (some ⟨w.heap.size, 0, none⟩) 0 0) [] :=
  ⟨rfl, Or.inr ⟨w.heap.size, 0, #[], rfl, Nat.le_refl _, heap_alloc_new w _, Nat.le_refl _, by unfold maxLen; omega, rfl, rfl⟩⟩
set_option maxHeartbeats 2000000 in
theorem clone_any {w : World} {base : Nat} {v : Value} {l : List Rg} (h : Row w base v l) (hsm : l.length ≤ 900000) : Calls Try.prog 24 #[v] w (CloneP w l) := by
  have hS := Lib.hid (src_kept (row_src h) ((Kept.refl _ w).alloc (.cells #[] 31)))
  have hR := Lib.hid (row_fresh w)
  rcases h.form with ⟨rfl, rfl⟩ | ⟨g, cap, cur, rfl, h1, h2⟩
  · have hnil := fun (w : World) => Lib.run_eql_slice_nil (P := Try.prog) w 22 31 none 0 0 0 0 Try.underlying22
    go_enter Try.func24, Try.ntmps24
    go_wp2_with fail
    go_ret
    exact ⟨_, rfl, Row.none _ _, Kept.refl _ w⟩
  · clear h h2
    have hnil := fun (w : World) => Lib.run_eql_slice_nil (P := Try.prog) w 22 31 (some ⟨g, 0, none⟩) l.length cap 0 0 Try.underlying22
    go_enter Try.func24, Try.ntmps24
    go_wp2_with (at_builtin; refine wpList_app rfl _ _ rfl w.heap.size (v := .slice (some ⟨w.heap.size, 0, none⟩) 0 0) rfl hR.out rfl hS.out (by simp; omega) (by simp) ?_; intro v' w' hA)
    go_ret
    exact ⟨_, rfl, by simpa using hA.row, ((Kept.refl (fun _ => False) w).alloc (.cells #[] 31)).trans' hA.kept (fun i hi e => by cases e; exact absurd hi (Nat.lt_irrefl _))⟩
theorem ranges_nil (w : World) : Calls Try.prog 9 #[.pointer none] w fun e w' => e = .returned (.slice none 0 0) ∧ w = w' := by
  go_enter Try.func9, Try.ntmps9
  go_wp2_with fail
  go_ret
  exact ⟨rfl, rfl⟩
theorem ranges_any {w : World} {base b : Nat} {v : Value} {n : Int} {l : List Rg} (h : SetV w base b v n l) : Calls Try.prog 9 #[.pointer (some ⟨b, 0, none⟩)] w (CloneP w l) := by
  have c1 := h.blk.cell (o := 1) rfl
  have C := Lib.hid (clone_any h.row h.few)
  clear h
  go_enter Try.func9, Try.ntmps9
  go_wp2_with (go_at_call 24; refine C.out.mono ?_; rintro e w' ⟨v', rfl, hR, hk⟩)
  go_ret
  exact ⟨_, rfl, hR, hk⟩
end Go.Proofs.Ytagggadjmnclfaa.Iv
