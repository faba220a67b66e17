/- Two rows of numbers alike; two meters beside each other. Conditions: each theorem's own. -/
import Derived.Test.YtkggnbibjcogeaaCoSt
set_option linter.unusedVariables false
namespace Go.Proofs.Ytkggnbibjcogeaa.Co
open Go.RowKit Hp CoM CoS NumM NumC Go.Proofs.Ytkggnbibjcogeaa.End
attribute [local go_sem ↓] Go.wp_at_zero Go.wp_at_succ
theorem alike_any {w : World} {v v2 : Value} {l : List Int} (h : Ro.Row nT w v l) (h2 : Ro.Row nT w v2 l) (hsm : l.length ≤ 900000) :
    Calls Try.prog 11 #[v, v2] w fun e w' => e = .returned (.bool true) ∧ Kept (fun _ => False) w w' := by
  obtain ⟨a, c, rfl, hc1, hc2⟩ := h.slice
  obtain ⟨a2, c3, rfl, hc3, hc4⟩ := h2.slice
  unfold maxLen at hc2 hc4
  have H := Lib.hid h
  have H2 := Lib.hid h2
  clear h h2
  obtain ⟨n, hn⟩ : ∃ n, l.length = n := ⟨_, rfl⟩
  have HN := Lib.hid hn
  rw [hn] at H H2 hc1 hc3 hsm ⊢
  clear hn
  go_enter Try.func11, Try.ntmps11
  go_wp2_with fail
  go_loopg [5] n (fun m s5 wr => ∃ (i : Nat), Hid (n - i ≤ m) ∧ i ≤ n ∧ s5 = .int .i64 (i : Nat) ∧ Hid (Kept (fun _ => False) w wr))
  case atStart => exact ⟨0, Lib.hid (by omega), by omega, rfl, Lib.hid (Kept.refl _ w)⟩
  case round =>
    obtain ⟨i, hm, hi, rfl, hk⟩ := hrel
    rcases Nat.lt_or_ge i n with hlt | hge
    · obtain ⟨x, hx⟩ : ∃ x, l[i]? = some x := ⟨_, List.getElem?_eq_getElem (by rw [HN.out]; exact hlt)⟩
      obtain ⟨g, o, rfl, e0⟩ := row_cell (H.out.old hk.out) hx
      obtain ⟨g2, o2, rfl, e1⟩ := row_cell (H2.out.old hk.out) hx
      have hlt2 : (i : Int) < (n : Int) := by omega
      clear hx
      go_wp2_with fail
      go_quiet (fail)
      have HK := Lib.hid (hk.out.drewN nq)
      clear e0 e1 hk
      generalize wr.drewN nq = w2 at *
      go_wp2_with fail
      go_roundg (n - (i + 1))
      case measure => have := hm.out; omega
      case rel => exact ⟨i + 1, Lib.hid (Nat.le_refl _), by omega, by go_num, HK⟩
    · obtain rfl : i = n := by omega
      have hlt2 : decide ((i : Int) < (i : Int)) = false := by simp
      go_wp2_with fail
      go_ret
      exact ⟨rfl, hk.out⟩
theorem St.base {w0 w1 w : World} {b L M : Nat} {l : List Int} {F : Nat → Prop} (h : St w1 b L M l F w) (k : Kept (fun _ => False) w0 w1) : St w0 b L M l F w := by
  obtain ⟨h0, v, h1, h2, h3, h4⟩ := h
  exact ⟨k.trans h0, v, h1, h2, h3, fun i hi => ⟨Nat.le_trans k.size (h4 i hi).1, (h4 i hi).2⟩⟩
/-- Two meters, nothing in common. -/
def Two (w0 : World) (b b2 L M : Nat) (l l2 : List Int) (w : World) : Prop := ∃ F F2, St w0 b L M l F w ∧ St w0 b2 L M l2 F2 w ∧ ∀ i, F i → F2 i → False
theorem Two.kept {w0 w : World} {b b2 L M : Nat} {l l2 : List Int} (h : Two w0 b b2 L M l l2 w) : Kept (fun _ => False) w0 w := by obtain ⟨F, F2, h1, _⟩ := h; exact h1.1
theorem Two.old {w0 w w' : World} {b b2 L M : Nat} {l l2 : List Int} (h : Two w0 b b2 L M l l2 w) (k : Kept (fun _ => False) w w') : Two w0 b b2 L M l l2 w' := by
  obtain ⟨F, F2, h1, h2, h3⟩ := h
  exact ⟨F, F2, h1.old k, h2.old k, h3⟩
theorem Two.add1 {w0 w : World} {b b2 L M : Nat} {l l2 : List Int} (h : Two w0 b b2 L M l l2 w) (x : Int) :
    Calls Try.prog 9 #[.pointer (some ⟨b, 0, none⟩), .int .i64 x] w fun e w' => e = .returned (.tuple #[]) ∧ Two w0 b b2 L M (keep M l (cl x)) l2 w' := by
  obtain ⟨F, F2, h1, h2, h3⟩ := h
  refine (add_st h1 x).mono ?_
  rintro e w' ⟨rfl, F', g1, g2⟩
  exact ⟨rfl, F', F2, g1, h2.far g2.1 h3 (fun i hi => (h1.own i hi).1), fun i hi hj => (g2.2 i hi).elim (fun q => h3 i q hj) (fun q => by have := (h2.own i hj).2; omega)⟩
theorem Two.add2 {w0 w : World} {b b2 L M : Nat} {l l2 : List Int} (h : Two w0 b b2 L M l l2 w) (x : Int) :
    Calls Try.prog 9 #[.pointer (some ⟨b2, 0, none⟩), .int .i64 x] w fun e w' => e = .returned (.tuple #[]) ∧ Two w0 b b2 L M l (keep M l2 (cl x)) w' := by
  obtain ⟨F, F2, h1, h2, h3⟩ := h
  refine (add_st h2 x).mono ?_
  rintro e w' ⟨rfl, F', g1, g2⟩
  exact ⟨rfl, F, F', h1.far g2.1 (fun i hi hj => h3 i hj hi) (fun i hi => (h2.own i hi).1), g1, fun i hi hj => (g2.2 i hj).elim (fun q => h3 i hi q) (fun q => by have := (h1.own i hi).2; omega)⟩
theorem Two.cuts1 {w0 w : World} {b b2 L M : Nat} {l l2 : List Int} (h : Two w0 b b2 L M l l2 w) (window : Int) :
    Calls Try.prog 12 #[.pointer (some ⟨b, 0, none⟩), .int .i64 window] w fun e w' => ∃ v', e = .returned v' ∧ Ro.Row nT w' v' (cutsM L l window) ∧ Kept (fun _ => False) w w' := by
  obtain ⟨F, F2, h1, h2, h3⟩ := h
  exact cuts_st h1 window
theorem Two.cuts2 {w0 w : World} {b b2 L M : Nat} {l l2 : List Int} (h : Two w0 b b2 L M l l2 w) (window : Int) :
    Calls Try.prog 12 #[.pointer (some ⟨b2, 0, none⟩), .int .i64 window] w fun e w' => ∃ v', e = .returned v' ∧ Ro.Row nT w' v' (cutsM L l2 window) ∧ Kept (fun _ => False) w w' := by
  obtain ⟨F, F2, h1, h2, h3⟩ := h
  exact cuts_st h2 window
theorem Two.len1 {w0 w : World} {b b2 L M : Nat} {l l2 : List Int} (h : Two w0 b b2 L M l l2 w) : Calls Try.prog 16 #[.pointer (some ⟨b, 0, none⟩)] w fun e w' => e = .returned (.int .i64 (l.length : Nat)) ∧ w = w' := by
  obtain ⟨F, F2, h1, h2, h3⟩ := h
  exact len_st h1
theorem Two.len2 {w0 w : World} {b b2 L M : Nat} {l l2 : List Int} (h : Two w0 b b2 L M l l2 w) : Calls Try.prog 16 #[.pointer (some ⟨b2, 0, none⟩)] w fun e w' => e = .returned (.int .i64 (l2.length : Nat)) ∧ w = w' := by
  obtain ⟨F, F2, h1, h2, h3⟩ := h
  exact len_st h2
theorem Two.bd {w0 w : World} {b b2 L M : Nat} {l l2 : List Int} (h : Two w0 b b2 L M l l2 w) : 1 ≤ L ∧ L ≤ 8 := by obtain ⟨F, F2, h1, _⟩ := h; exact ⟨h1.bd.1, h1.bd.2.1⟩
end Go.Proofs.Ytkggnbibjcogeaa.Co
