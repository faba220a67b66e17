/- The set of ranges: what it may be asked, which runs are touched. Conditions: each theorem's own. -/
import Derived.Test.YtfkcplapmkpkbaaIvRep
import Derived.Test.YtfkcplapmkpkbaaIvNum
set_option linter.unusedVariables false
namespace Go.Proofs.Ytfkcplapmkpkbaa.Iv
open Go.RowKit Hp IvM IvR IvN
attribute [local go_sem ↓] Go.wp_at_zero Go.wp_at_succ
structure SetV (w : World) (base b : Nat) (v : Value) (n : Int) (l : List Rg) : Prop where
  blk : Blk w b [.int .i64 n, v, .int .i64 (size l)] 52
  row : Row w base v l
  own : v.ownBlock ≠ some b
  low : base ≤ b
  good : IvM.Good n l
  top : 0 ≤ n ∧ n ≤ 1073741824
  few : l.length ≤ 900000
theorem SetV.kept {w w' : World} {F : Nat → Prop} {base b : Nat} {v : Value} {n : Int} {l : List Rg} (h : SetV w base b v n l) (k : Kept F w w') (hb : ¬ F b) (hv : ∀ g, v.ownBlock = some g → ¬ F g) : SetV w' base b v n l :=
  ⟨k.blk h.blk hb, h.row.kept k hv, h.own, h.low, h.good, h.top, h.few⟩
theorem SetV.old {w w' : World} {base b : Nat} {v : Value} {n : Int} {l : List Rg} (h : SetV w base b v n l) (k : Kept (fun _ => False) w w') : SetV w' base b v n l := h.kept k (fun f => f) (fun _ _ f => f)
theorem SetV.drewN {w : World} {base b : Nat} {v : Value} {n : Int} {l : List Rg} (h : SetV w base b v n l) (q : Nat) : SetV (w.drewN q) base b v n l := h.old ((Kept.refl _ w).drewN q)
theorem wider {w w' : World} (h : Kept (fun _ => False) w w') (F : Nat → Prop) : Kept F w w' := h.mono (fun _ _ f => f.elim)
def May (n f t : Int) : Prop := 0 ≤ f ∧ f ≤ t ∧ t ≤ n
instance (n f t : Int) : Decidable (May n f t) := by unfold May; infer_instance
theorem may_nil (f t : Int) (w : World) : Calls Try.prog 26 #[.pointer none, .int .i64 f, .int .i64 t] w fun e w' => e = .returned (.bool false) ∧ w = w' := by
  go_enter Try.func26, Try.ntmps26
  go_wp2_with fail
  go_ret
  exact ⟨rfl, rfl⟩
theorem may_yes {w : World} {base b : Nat} {v : Value} {n : Int} {l : List Rg} (h : SetV w base b v n l) {f t : Int} (hm : May n f t) :
    Calls Try.prog 26 #[.pointer (some ⟨b, 0, none⟩), .int .i64 f, .int .i64 t] w fun e w' => e = .returned (.bool true) ∧ w = w' := by
  have c0 := h.blk.cell (o := 0) rfl
  obtain ⟨h1, h2, h3⟩ := hm
  clear h
  go_enter Try.func26, Try.ntmps26
  go_wp2_with fail
  go_ret
  exact ⟨rfl, rfl⟩
theorem may_no {w : World} {base b : Nat} {v : Value} {n : Int} {l : List Rg} (h : SetV w base b v n l) {f t : Int} (hm : ¬ May n f t) :
    Calls Try.prog 26 #[.pointer (some ⟨b, 0, none⟩), .int .i64 f, .int .i64 t] w fun e w' => e = .returned (.bool false) ∧ w = w' := by
  have c0 := h.blk.cell (o := 0) rfl
  have hc : ¬ (0 ≤ f) ∨ (0 ≤ f ∧ ¬ f ≤ t) ∨ (0 ≤ f ∧ f ≤ t ∧ decide (t ≤ n) = false) := by rw [decide_eq_false_iff_not]; unfold May at hm; omega
  clear h hm
  rcases hc with h1 | ⟨h1, h2⟩ | ⟨h1, h2, h3⟩
  all_goals
    go_enter Try.func26, Try.ntmps26
    go_wp2_with fail
    go_ret
    exact ⟨rfl, rfl⟩
set_option maxHeartbeats 2000000 in
theorem clos1 {W : World} {b g cap bs bf i : Nat} {n x y s f : Int} {len : Nat} (hi : i < len) (cs : W.cell? ⟨bs, 0, none⟩ = some (.pointer (some ⟨b, 0, none⟩))) (cf : W.cell? ⟨bf, 0, none⟩ = some (.int .i64 f))
    (c1 : W.cell? ⟨b, 1, none⟩ = some (.slice (some ⟨g, 0, none⟩) len cap)) (ce : W.cell? ⟨g, i * 2 + 1, none⟩ = some (.int .i64 x)) :
    Calls Try.prog 36 (#[.int .i64 i] ++ #[.pointer (some ⟨bs, 0, none⟩), .pointer (some ⟨bf, 0, none⟩)]) W fun e w' => e = .returned (.bool (decide (f ≤ x))) ∧ ∃ q, w' = W.drewN q := by
  have hiz : (i : Int) < (len : Int) := by omega
  go_enter Try.func36, Try.ntmps36
  go_wp2_with fail
  go_quiet (fail)
  go_wp2_with fail
  go_ret
  exact ⟨rfl, nq, rfl⟩
set_option maxHeartbeats 2000000 in
theorem clos2 {W : World} {b g cap bs bf i : Nat} {n x y s f : Int} {len : Nat} (hi : i < len) (cs : W.cell? ⟨bs, 0, none⟩ = some (.pointer (some ⟨b, 0, none⟩))) (cf : W.cell? ⟨bf, 0, none⟩ = some (.int .i64 f))
    (c1 : W.cell? ⟨b, 1, none⟩ = some (.slice (some ⟨g, 0, none⟩) len cap)) (ce : W.cell? ⟨g, i * 2, none⟩ = some (.int .i64 x)) :
    Calls Try.prog 37 (#[.int .i64 i] ++ #[.pointer (some ⟨bs, 0, none⟩), .pointer (some ⟨bf, 0, none⟩)]) W fun e w' => e = .returned (.bool (decide (f < x))) ∧ ∃ q, w' = W.drewN q := by
  have hiz : (i : Int) < (len : Int) := by omega
  go_enter Try.func37, Try.ntmps37
  go_wp2_with fail
  go_quiet (fail)
  go_wp2_with fail
  go_ret
  exact ⟨rfl, nq, rfl⟩
end Go.Proofs.Ytfkcplapmkpkbaa.Iv
