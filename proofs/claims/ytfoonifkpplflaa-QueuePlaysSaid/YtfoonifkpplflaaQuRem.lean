/- A queue in memory: Remove. Conditions: each theorem's own. -/
import Derived.Test.YtfoonifkpplflaaQuSee
set_option linter.unusedVariables false
namespace Go.Proofs.Ytfoonifkpplflaa.Qu
open Go.RowKit Hp QuM QuN Rw
attribute [local go_sem ↓] Go.wp_at_zero Go.wp_at_succ
set_option maxHeartbeats 4000000 in
/-- There is no such one. -/
theorem remove_off {q : Option Addr} {p k : Int} {w : World}
    (h : q = none ∨ ¬ (0 ≤ p ∧ p < 8) ∨ k < 0 ∨ ∃ (b j n : Nat), q = some ⟨b, 0, none⟩ ∧ p = (j : Nat) ∧ j < 8 ∧ (n : Int) ≤ k ∧ ∀ w', Kept (fun _ => False) w w' → w'.cell? ⟨b, 2 + j * 3 + 2, none⟩ = some (.int .i64 (n : Nat))) :
    Calls Try.prog 14 #[.pointer q, .int .i64 p, .int .i64 k] w fun e w' => e = .returned (.tuple #[bv (0, 0), .bool false]) ∧ Kept (fun _ => False) w w' := by
  have hB1 := Blk.new w [.int .i64 0, .int .i64 0] bT.E
  have hk1 : Kept (fun _ => False) w (w.alloc (.cells [.int .i64 0, .int .i64 0].toArray bT.E)) := (Kept.refl _ w).alloc _
  have HB1 := Lib.hid hB1
  have HK1 := Lib.hid hk1
  dsimp only [List.toArray] at HB1 HK1
  clear hB1 hk1
  have IP := Lib.hid fun w => isPrio_any p w
  have h' : q = none ∨ (∃ a, q = some a ∧ ¬ (0 ≤ p ∧ p < 8)) ∨ (∃ a, q = some a ∧ (0 ≤ p ∧ p < 8) ∧ k < 0) ∨ (∃ (b j n : Nat), q = some ⟨b, 0, none⟩ ∧ (0 ≤ p ∧ p < 8) ∧ p = (j : Nat) ∧ j < 8 ∧ decide (k < 0) = false ∧ (n : Int) ≤ k ∧ Hid (∀ w', Kept (fun _ => False) w w' → w'.cell? ⟨b, 2 + j * 3 + 2, none⟩ = some (.int .i64 (n : Nat)))) := by
    rcases q with _ | a
    · exact Or.inl rfl
    · right
      by_cases hp : 0 ≤ p ∧ p < 8
      · right
        by_cases hk : k < 0
        · exact Or.inl ⟨a, rfl, hp, hk⟩
        · right
          rcases h with h | h | h | ⟨b, j, n, h1, h2, h3, h4, h5⟩
          · cases h
          · exact absurd hp h
          · exact absurd h hk
          · exact ⟨b, j, n, h1, hp, h2, h3, decide_eq_false hk, h4, Lib.hid h5⟩
      · exact Or.inl ⟨a, rfl, hp⟩
  clear h
  rcases h' with rfl | ⟨a, rfl, hp⟩ | ⟨a, rfl, hp, hk⟩ | ⟨b, j, n, rfl, hp, rfl, hj, hk, hn, HC⟩
  all_goals
    try rw [decide_eq_true hp] at IP
    try rw [decide_eq_false hp] at IP
    go_enter Try.func14, Try.ntmps14
    go_upto_region 1 with fail
    generalize w.alloc (.cells #[.int .i64 0, .int .i64 0] 29) = w1 at *
    obtain ⟨rb, hrb⟩ : ∃ rb, w.heap.size = rb := ⟨_, rfl⟩
    rw [hrb] at HB1
    simp only [hrb]
    have HRB := Lib.hid hrb
    clear hrb
    try have q2 := HC.out w1 HK1.out
    go_upto_region 2 with (go_at_call 20; (with_reducible refine Calls.mono (IP.out _) ?_); rintro e w2 ⟨rfl, rfl⟩)
    have hB2 := Blk.new w1 [.int .i64 0, .int .i64 0] bT.E
    have hk2 : Kept (fun _ => False) w1 (w1.alloc (.cells [.int .i64 0, .int .i64 0].toArray bT.E)) := (Kept.refl _ w1).alloc _
    have hr2 := hk2.blk HB1.out (fun f => f)
    have HK2 := Lib.hid (HK1.out.trans hk2)
    dsimp only [List.toArray] at hB2 hr2 HK2
    go_upto_region 3 with fail
    generalize w1.alloc (.cells #[.int .i64 0, .int .i64 0] 29) = w2 at *
    generalize w1.heap.size = zb at *
    have t0 := hB2.cell (o := 0) rfl
    have t1 := hB2.cell (o := 1) rfl
    have e0 := hr2.cell (o := 0) rfl
    have e1 := hr2.cell (o := 1) rfl
    have f0 := hr2.frozen 0
    have f1 := hr2.frozen 1
    have hr3 := (hr2.set 0 (.int .i64 0)).set 1 (.int .i64 0)
    have z0 := hr3.cell (o := 0) rfl
    have z1 := hr3.cell (o := 1) rfl
    have R : Hid (Kept (fun _ => False) w ((w2.setCell ⟨rb, 0, none⟩ (.int .i64 0)).setCell ⟨rb, 1, none⟩ (.int .i64 0))) :=
      Lib.hid ((HK2.out.set (b := rb) (fun h => by have := HRB.out; omega) _ _).set (b := rb) (fun h => by have := HRB.out; omega) _ _)
    clear hB2 hk2 hr2 hr3
    go_wp2_with fail
    exact bodyPost_ret (v := .tuple #[bv (0, 0), .bool false]) (by simp [results, Try.results14, go_sem, z0, z1]) rfl ⟨rfl, R.out⟩
theorem remove_no {w0 w : World} {b : Nat} {room : Int} {ls : Nat → List Bx} {F : Nat → Prop} (h : St w0 b room ls F w) {p k : Int} (hx : ¬ (0 ≤ p ∧ p < 8 ∧ 0 ≤ k ∧ k < ((ls p.toNat).length : Nat))) :
    Calls Try.prog 14 #[.pointer (some ⟨b, 0, none⟩), .int .i64 p, .int .i64 k] w fun e w' => e = .returned (.tuple #[bv (0, 0), .bool false]) ∧ Kept (fun _ => False) w w' := by
  refine remove_off ?_
  by_cases hp : 0 ≤ p ∧ p < 8
  · by_cases hk : k < 0
    · exact Or.inr (Or.inr (Or.inl hk))
    · obtain ⟨h0, hr0, c, vs, fs, h1, h2, h3, h4⟩ := h
      exact Or.inr (Or.inr (Or.inr ⟨b, p.toNat, (ls p.toNat).length, rfl, by omega, by omega, by omega, fun w' hk => (hk.blk h1.blk (fun f => f)).cell (h1.cn p.toNat (by omega))⟩))
  · exact Or.inr (Or.inl hp)
theorem remove_nil (p k : Int) (w : World) :
    Calls Try.prog 14 #[.pointer none, .int .i64 p, .int .i64 k] w fun e w' => e = .returned (.tuple #[bv (0, 0), .bool false]) ∧ Kept (fun _ => False) w w' :=
  remove_off (Or.inl rfl)
set_option maxHeartbeats 4000000 in
theorem remove_yes {w0 w : World} {b : Nat} {room : Int} {ls : Nat → List Bx} {F : Nat → Prop} (h : St w0 b room ls F w) {p k : Nat} {P K : Int} (hP : P = (p : Nat)) (hK : K = (k : Nat)) (hp : p < 8) {x : Bx} (hx : (ls p)[k]? = some x) (hl : (ls p).length ≤ 100000) :
    Calls Try.prog 14 #[.pointer (some ⟨b, 0, none⟩), .int .i64 P, .int .i64 K] w fun e w' => e = .returned (.tuple #[bv x, .bool true]) ∧ ∃ F', St w0 b room (upd ls p ((ls p).eraseIdx k)) F' w' ∧ Next F w F' w' := by
  subst hP
  subst hK
  obtain ⟨x1, x2⟩ := x
  have hkl := (List.getElem?_eq_some_iff.1 hx).1
  have IP := Lib.hid fun w => isPrio_any (p : Int) w
  rw [decide_eq_true (show 0 ≤ (p : Int) ∧ (p : Int) < 8 by omega)] at IP
  have TK := Lib.hid fun (w' : World) (hk : Kept (fun _ => False) w w') => qtake_any (P := (p : Nat)) (K := (k : Nat)) (h.old hk) rfl rfl hp hx hl
  have HC : Hid (∀ w', Kept (fun _ => False) w w' → w'.cell? ⟨b, 2 + p * 3 + 2, none⟩ = some (.int .i64 ((ls p).length : Nat))) := by
    obtain ⟨h0, hr0, c, vs, fs, h1, h2, h3, h4⟩ := id h
    exact Lib.hid fun w' hk => (hk.blk h1.blk (fun f => f)).cell (h1.cn p hp)
  have H0 := Lib.hid h
  have hB1 := Blk.new w [.int .i64 0, .int .i64 0] bT.E
  have hk1 : Kept (fun _ => False) w (w.alloc (.cells [.int .i64 0, .int .i64 0].toArray bT.E)) := (Kept.refl _ w).alloc _
  have HB1 := Lib.hid hB1
  have HK1 := Lib.hid hk1
  dsimp only [List.toArray] at HB1 HK1
  clear hB1 hk1 hx h
  obtain ⟨L', hL'⟩ : ∃ L', (ls p).eraseIdx k = L' := ⟨_, rfl⟩
  rw [hL'] at TK ⊢
  clear hL'
  generalize (ls p).length = n at *
  have hp' : (p : Int) < 8 := by omega
  have g1 : decide ((k : Int) < 0) = false := by rw [decide_eq_false_iff_not]; omega
  have g2 : ¬ ((n : Int) ≤ (k : Int)) := by omega
  go_enter Try.func14, Try.ntmps14
  go_upto_region 1 with fail
  generalize w.alloc (.cells #[.int .i64 0, .int .i64 0] 29) = w1 at *
  obtain ⟨rb, hrb⟩ : ∃ rb, w.heap.size = rb := ⟨_, rfl⟩
  rw [hrb] at HB1
  simp only [hrb]
  have HRB := Lib.hid hrb
  clear hrb
  have q2 := HC.out w1 HK1.out
  go_upto_region 4 with (go_at_call 20; (with_reducible refine Calls.mono (IP.out _) ?_); rintro e w2 ⟨rfl, rfl⟩)
  go_wp2_with fail
  with_reducible refine Calls.mono (TK.out _ HK1.out) ?_
  rintro e w2 ⟨rfl, F', hS2, hN2⟩
  have hrF : ¬ F rb := fun e => by have := (H0.out.own rb e).2; have := HRB.out; omega
  have hr2 := hN2.1.blk HB1.out hrF
  have hrF' : ¬ F' rb := fun e => (hN2.2 rb e).elim hrF (fun h => by have := HB1.out.lt; omega)
  have e0 := hr2.cell (o := 0) rfl
  have e1 := hr2.cell (o := 1) rfl
  have f0 := hr2.frozen 0
  have f1 := hr2.frozen 1
  have hr3 := (hr2.set 0 (.int .i64 x1)).set 1 (.int .i64 x2)
  have z0 := hr3.cell (o := 0) rfl
  have z1 := hr3.cell (o := 1) rfl
  have k3 : Kept (fun i => i = rb) w2 ((w2.setCell ⟨rb, 0, none⟩ (.int .i64 x1)).setCell ⟨rb, 1, none⟩ (.int .i64 x2)) :=
    ((Kept.refl (fun i => i = rb) w2).set (b := rb) (fun _ => rfl) _ _).set (b := rb) (fun _ => rfl) _ _
  have R : Hid (∃ F', St w0 b room (upd ls p L') F' ((w2.setCell ⟨rb, 0, none⟩ (.int .i64 x1)).setCell ⟨rb, 1, none⟩ (.int .i64 x2)) ∧ Next F w F' ((w2.setCell ⟨rb, 0, none⟩ (.int .i64 x1)).setCell ⟨rb, 1, none⟩ (.int .i64 x2))) := by
    refine Lib.hid ⟨F', hS2.far k3 (fun i e f => hrF' (e ▸ f)) (fun i e => by subst e; have := H0.out.1.size; have := HRB.out; omega), ?_, fun i hi => (hN2.2 i hi).imp id (fun h => Nat.le_trans HK1.out.size h)⟩
    exact ((HK1.out.mono (fun _ _ f => f.elim)).trans hN2.1).trans' k3 (fun i hi e => by have := HRB.out; omega)
  clear hS2 hN2 hr2 hr3 k3 TK HB1 IP
  go_wp2_with fail
  exact bodyPost_ret (v := .tuple #[bv (x1, x2), .bool true]) (by simp [results, Try.results14, go_sem, z0, z1]) rfl ⟨rfl, R.out⟩
end Go.Proofs.Ytfoonifkpplflaa.Qu
