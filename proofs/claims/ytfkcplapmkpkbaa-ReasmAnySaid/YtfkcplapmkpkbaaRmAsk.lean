/- The set of ranges: New, Add in one, Sum, Front, Full. Conditions: each theorem's own. -/
import Derived.Test.YtfkcplapmkpkbaaIvAdd3
import Derived.WalkSpells
import Derived.Lib.SliceRun
set_option linter.unusedVariables false
namespace Go.Proofs.Ytfkcplapmkpkbaa.Iv
open Go.RowKit Hp IvM IvR IvN
attribute [local go_sem ↓] Go.wp_at_zero Go.wp_at_succ
theorem Own.of {b : Nat} {v : Value} {k : Nat} (h : Own b v k) : k = b ∨ v.ownBlock = some k := h
/-- What any Add leaves. -/
def AddQ (w : World) (base b : Nat) (v : Value) (n : Int) (l : List Rg) (f t : Int) (e : Ending) (w' : World) : Prop :=
  ∃ v' L k, e = .returned (.tuple #[.int .i64 (size L - size l), .int .i64 k]) ∧ Added w base b v n L v' w' ∧ L.length ≤ l.length + 1 ∧ (∀ x, IvM.Has L x ↔ IvM.Has l x ∨ (May n f t ∧ f ≤ x ∧ x < t))
theorem added_same {w : World} {base b : Nat} {v : Value} {n : Int} {l : List Rg} (h : SetV w base b v n l) : Added w base b v n l v w := ⟨h, Kept.refl _ w, fun g hg => Or.inl hg⟩
theorem add_any {w : World} {base b : Nat} {v : Value} {n : Int} {l : List Rg} (h : SetV w base b v n l) (hbase : base ≤ w.heap.size) (f t : Int) (hfew : l.length < 900000) :
    Calls Try.prog 18 #[.pointer (some ⟨b, 0, none⟩), .int .i64 f, .int .i64 t] w (AddQ w base b v n l f t) := by
  by_cases hm : May n f t
  · by_cases hne : f = t
    · subst hne
      refine (add_none h hm).mono ?_
      rintro e w' ⟨rfl, rfl⟩
      exact ⟨v, l, 0, by rw [Int.sub_self], added_same h, by omega, fun x => ⟨Or.inl, fun hx => hx.elim id (fun ⟨_, _, _⟩ => by omega)⟩⟩
    · refine (add_yes h hbase hm hne hfew).mono ?_
      rintro e w' ⟨L, ⟨v', rfl, hA⟩, hl, hx⟩
      exact ⟨v', L, 0, rfl, hA, hl, fun x => (hx x).trans ⟨fun h => h.elim Or.inl (fun h => Or.inr ⟨hm, h⟩), fun h => h.elim Or.inl (fun h => Or.inr h.2)⟩⟩
  · refine (add_no h hm).mono ?_
    rintro e w' ⟨rfl, rfl⟩
    exact ⟨v, l, 1, by rw [Int.sub_self], added_same h, by omega, fun x => ⟨Or.inl, fun hx => hx.elim id (fun ⟨h, _⟩ => absurd h hm)⟩⟩
theorem new_no {n : Int} (h : n < 0 ∨ 1073741824 < n) (w : World) : Calls Try.prog 15 #[.int .i64 n] w fun e w' => e = .returned (.tuple #[.pointer none, .int .i64 1]) ∧ w = w' := by
  have hc : n < 0 ∨ (¬ n < 0 ∧ 1073741824 < n) := by omega
  rcases hc with h1 | ⟨h1, h2⟩
  all_goals
    go_enter Try.func15, Try.ntmps15
    go_wp2_with fail
    go_ret2
    exact ⟨rfl, rfl⟩
def NewP (w : World) (n : Int) (e : Ending) (w' : World) : Prop := ∃ b, e = .returned (.tuple #[.pointer (some ⟨b, 0, none⟩), .int .i64 0]) ∧ SetV w' w.heap.size b (.slice none 0 0) n [] ∧ Kept (fun _ => False) w w'
theorem new_yes {n : Int} (h0 : 0 ≤ n) (h1 : n ≤ 1073741824) (w : World) : Calls Try.prog 15 #[.int .i64 n] w (NewP w n) := by
  have h2 : ¬ 1073741824 < n := by omega
  have h3 : ¬ n < 0 := by omega
  go_enter Try.func15, Try.ntmps15
  go_wp2_with fail
  go_ret2
  exact ⟨w.heap.size, rfl, ⟨Blk.new w [.int .i64 n, .slice none 0 0, .int .i64 0] _, Row.none _ _, by simp [Value.ownBlock], Nat.le_refl _, IvM.Good.nil n, ⟨h0, h1⟩, by simp⟩, (Kept.refl _ w).alloc _⟩
theorem sum_nil (w : World) : Calls Try.prog 21 #[.pointer none] w fun e w' => e = .returned (.int .i64 0) ∧ w = w' := by
  go_enter Try.func21, Try.ntmps21
  go_wp2_with fail
  go_ret
  exact ⟨rfl, rfl⟩
theorem sum_any {w : World} {base b : Nat} {v : Value} {n : Int} {l : List Rg} (h : SetV w base b v n l) : Calls Try.prog 21 #[.pointer (some ⟨b, 0, none⟩)] w fun e w' => e = .returned (.int .i64 (size l)) ∧ w = w' := by
  have c2 := h.blk.cell (o := 2) rfl
  clear h
  go_enter Try.func21, Try.ntmps21
  go_wp2_with fail
  go_ret
  exact ⟨rfl, rfl⟩
theorem front_nil (w : World) : Calls Try.prog 22 #[.pointer none] w fun e w' => e = .returned (.int .i64 0) ∧ w = w' := by
  go_enter Try.func22, Try.ntmps22
  go_wp2_with fail
  go_ret
  exact ⟨rfl, rfl⟩
set_option maxHeartbeats 2000000 in
theorem front_any {w : World} {base b : Nat} {v : Value} {n : Int} {l : List Rg} (h : SetV w base b v n l) : Calls Try.prog 22 #[.pointer (some ⟨b, 0, none⟩)] w fun e w' => e = .returned (.int .i64 (front l)) ∧ w = w' := by
  have c1 := h.blk.cell (o := 1) rfl
  obtain ⟨s, cap, rfl, q1, q2, q3⟩ := h.runs
  cases l with
  | nil =>
    clear q3 h
    go_enter Try.func22, Try.ntmps22
    go_wp2_with fail
    go_ret
    exact ⟨rfl, rfl⟩
  | cons p r =>
    obtain ⟨g, rfl, g1, g2, g3, g4⟩ := q3.resolve_left (fun e => by simp at e)
    obtain ⟨x, y⟩ := p
    have e0 : w.cell? ⟨g, 0, none⟩ = some (.int .i64 x) := by simpa using (g4 0 (by simp)).1
    have e1 : w.cell? ⟨g, 1, none⟩ = some (.int .i64 y) := by simpa using (g4 0 (by simp)).2
    obtain ⟨m, hm⟩ : ∃ m, ((x, y) :: r).length = m := ⟨_, rfl⟩
    rw [hm] at c1
    have hm0 : 0 < m := by rw [← hm]; simp
    have hm1 : ((m : Int) == 0) = false := by rw [beq_eq_false_iff_ne]; omega
    clear q3 h g4 q1 hm
    by_cases hx : 0 < x
    · have e : front ((x, y) :: r) = 0 := if_pos hx
      rw [e]
      clear e
      go_enter Try.func22, Try.ntmps22
      go_wp2_with fail
      go_ret
      exact ⟨rfl, rfl⟩
    · have e : front ((x, y) :: r) = y := if_neg hx
      rw [e]
      clear e
      go_enter Try.func22, Try.ntmps22
      go_wp2_with fail
      go_ret
      exact ⟨rfl, rfl⟩
theorem full_nil (w : World) : Calls Try.prog 19 #[.pointer none] w fun e w' => e = .returned (.bool false) ∧ Kept (fun _ => False) w w' := by
  go_enter Try.func19, Try.ntmps19
  go_wp2_with fail
  go_quiet (fail)
  go_wp2_with fail
  go_ret
  exact ⟨rfl, (Kept.refl _ w).drewN _⟩
theorem full_any {w : World} {base b : Nat} {v : Value} {n : Int} {l : List Rg} (h : SetV w base b v n l) : Calls Try.prog 19 #[.pointer (some ⟨b, 0, none⟩)] w fun e w' => e = .returned (.bool (front l == n)) ∧ Kept (fun _ => False) w w' := by
  have c0 := h.blk.cell (o := 0) rfl
  have F := Lib.hid fun (q : Nat) => front_any (h.drewN q)
  clear h
  generalize front l = y at *
  go_enter Try.func19, Try.ntmps19
  go_wp2_with fail
  go_quiet ((go_at_call 22; exact Calls.quiet_of_same ((F.out _).mono fun _ _ ⟨e1, e2⟩ => ⟨e1, e2.symm⟩)))
  go_wp2_with fail
  go_ret
  exact ⟨rfl, (Kept.refl _ w).drewN _⟩
end Go.Proofs.Ytfkcplapmkpkbaa.Iv
