/- A queue in memory: Remove. Conditions: each theorem's own. -/
import Derived.Test.YtiffnlcpemfmoaaPqSee
set_option linter.unusedVariables false
namespace Go.Proofs.Ytiffnlcpemfmoaa.Qu
open Go.RowKit Hp QuM QuN Rw
attribute [local go_sem ↓] Go.wp_at_zero Go.wp_at_succ
/-- Of none, or of no such line. -/
theorem count_off {q : Option Addr} {p : Int} (h : q = none ∨ ¬ (0 ≤ p ∧ p < 8)) (w : World) :
    Calls Try.prog 29 #[.pointer q, .int .i64 p] w fun e w' => e = .returned (.int .i64 0) ∧ w = w' := by
  by_cases hq : q = none
  · subst hq
    go_enter Try.func29, Try.ntmps29
    go_wp2_with fail
    go_ret
    exact ⟨rfl, rfl⟩
  · obtain ⟨a, rfl⟩ := Option.ne_none_iff_exists'.1 hq
    have IP := Lib.hid fun w => isPrio_any p w
    rw [decide_eq_false (h.resolve_left hq)] at IP
    clear h hq
    go_enter Try.func29, Try.ntmps29
    go_wp2_with fail
    with_reducible refine Calls.mono (IP.out _) ?_
    rintro e w2 ⟨rfl, rfl⟩
    go_wp2_with fail
    go_ret
    exact ⟨rfl, rfl⟩
/-- How many stand in a line. -/
theorem count_at {b j n : Nat} {w : World} {p : Int} (hp : p = (j : Nat)) (hj : j < 8) (h : w.cell? ⟨b, 2 + j * 3 + 2, none⟩ = some (.int .i64 (n : Nat))) :
    Calls Try.prog 29 #[.pointer (some ⟨b, 0, none⟩), .int .i64 p] w fun e w' => e = .returned (.int .i64 (n : Nat)) ∧ w = w' := by
  subst hp
  have IP := Lib.hid fun w => isPrio_any (j : Nat) w
  rw [decide_eq_true (show 0 ≤ (j : Int) ∧ (j : Int) < 8 by omega)] at IP
  have hp' : (j : Int) < 8 := by omega
  go_enter Try.func29, Try.ntmps29
  go_wp2_with fail
  with_reducible refine Calls.mono (IP.out _) ?_
  rintro e w2 ⟨rfl, rfl⟩
  go_wp2_with fail
  go_ret
  exact ⟨rfl, rfl⟩
/-- There is no such one. -/
theorem has_no {q : Option Addr} {p k : Int} {w : World} (h : q = none ∨ ¬ (0 ≤ p ∧ p < 8) ∨ k < 0 ∨ ∃ (b j n : Nat), q = some ⟨b, 0, none⟩ ∧ p = (j : Nat) ∧ j < 8 ∧ (n : Int) ≤ k ∧ w.cell? ⟨b, 2 + j * 3 + 2, none⟩ = some (.int .i64 (n : Nat))) :
    Calls Try.prog 30 #[.pointer q, .int .i64 p, .int .i64 k] w fun e w' => e = .returned (.bool false) ∧ w = w' := by
  by_cases hk : k < 0
  · have g0 : decide (0 ≤ k) = false := by rw [decide_eq_false_iff_not]; omega
    clear h hk
    go_enter Try.func30, Try.ntmps30
    go_wp2_with fail
    go_ret
    exact ⟨rfl, rfl⟩
  · have g0 : decide (0 ≤ k) = true := by rw [decide_eq_true_iff]; omega
    obtain ⟨n, hn, hC⟩ : ∃ n : Int, n ≤ k ∧ Calls Try.prog 29 #[.pointer q, .int .i64 p] w fun e w' => e = .returned (.int .i64 n) ∧ w = w' := by
      rcases h with h | h | h | ⟨b, j, n, h1, h2, h3, h4, h5⟩
      · exact ⟨0, by omega, count_off (Or.inl h) w⟩
      · exact ⟨0, by omega, count_off (Or.inr h) w⟩
      · exact absurd h hk
      · subst h1; exact ⟨n, h4, count_at h2 h3 h5⟩
    have HC := Lib.hid hC
    have g1 : decide (k < n) = false := by rw [decide_eq_false_iff_not]; omega
    clear h hk hC hn
    go_enter Try.func30, Try.ntmps30
    go_wp2_with fail
    with_reducible refine Calls.mono HC.out ?_
    rintro e w2 ⟨rfl, rfl⟩
    go_wp2_with fail
    go_ret
    exact ⟨rfl, rfl⟩
/-- There is such one. -/
theorem has_yes {b j n : Nat} {w : World} {p k : Int} (hp : p = (j : Nat)) (hj : j < 8) (h : w.cell? ⟨b, 2 + j * 3 + 2, none⟩ = some (.int .i64 (n : Nat))) (hk : 0 ≤ k) (hn : k < (n : Nat)) :
    Calls Try.prog 30 #[.pointer (some ⟨b, 0, none⟩), .int .i64 p, .int .i64 k] w fun e w' => e = .returned (.bool true) ∧ w = w' := by
  have HC := Lib.hid (count_at hp hj h)
  have g0 : decide (0 ≤ k) = true := by rw [decide_eq_true_iff]; omega
  have g1 : decide (k < (n : Int)) = true := by rw [decide_eq_true_iff]; omega
  clear hp hj h hk hn
  go_enter Try.func30, Try.ntmps30
  go_wp2_with fail
  with_reducible refine Calls.mono HC.out ?_
  rintro e w2 ⟨rfl, rfl⟩
  go_wp2_with fail
  go_ret
  exact ⟨rfl, rfl⟩
set_option maxHeartbeats 4000000 in
/-- There is no such one. -/
theorem remove_off {q : Option Addr} {p k : Int} {w : World}
    (h : q = none ∨ ¬ (0 ≤ p ∧ p < 8) ∨ k < 0 ∨ ∃ (b j n : Nat), q = some ⟨b, 0, none⟩ ∧ p = (j : Nat) ∧ j < 8 ∧ (n : Int) ≤ k ∧ ∀ w', Kept (fun _ => False) w w' → w'.cell? ⟨b, 2 + j * 3 + 2, none⟩ = some (.int .i64 (n : Nat))) :
    Calls Try.prog 17 #[.pointer q, .int .i64 p, .int .i64 k] w fun e w' => e = .returned (.tuple #[bv zB, .bool false]) ∧ Kept (fun _ => False) w w' := by
  have hB1 := Blk.new w [.int .i64 0, .int .i64 0, .int .i64 0, .int .i64 0, .int .u64 0, .int .i64 0, .int .i64 0, .int .i64 0, .int .i64 0, .slice none 0 0, .int .i64 0] bT.E
  have hk1 : Kept (fun _ => False) w (w.alloc (.cells [.int .i64 0, .int .i64 0, .int .i64 0, .int .i64 0, .int .u64 0, .int .i64 0, .int .i64 0, .int .i64 0, .int .i64 0, .slice none 0 0, .int .i64 0].toArray bT.E)) := (Kept.refl _ w).alloc _
  have HB1 := Lib.hid hB1
  have HK1 := Lib.hid hk1
  dsimp only [List.toArray] at HB1 HK1
  clear hB1 hk1
  have HN : Hid (∀ w', Kept (fun _ => False) w w' → Calls Try.prog 30 #[.pointer q, .int .i64 p, .int .i64 k] w' fun e w'' => e = .returned (.bool false) ∧ w' = w'') := Lib.hid fun w' hk => has_no (by
    rcases h with h | h | h | ⟨b, j, n, h1, h2, h3, h4, h5⟩
    · exact Or.inl h
    · exact Or.inr (Or.inl h)
    · exact Or.inr (Or.inr (Or.inl h))
    · exact Or.inr (Or.inr (Or.inr ⟨b, j, n, h1, h2, h3, h4, h5 w' hk⟩)))
  clear h
  go_enter Try.func17, Try.ntmps17
  go_upto_region 1 with fail
  generalize w.alloc (.cells #[.int .i64 0, .int .i64 0, .int .i64 0, .int .i64 0, .int .u64 0, .int .i64 0, .int .i64 0, .int .i64 0, .int .i64 0, .slice none 0 0, .int .i64 0] 28) = w1 at *
  obtain ⟨rb, hrb⟩ : ∃ rb, w.heap.size = rb := ⟨_, rfl⟩
  rw [hrb] at HB1
  simp only [hrb]
  have HRB := Lib.hid hrb
  clear hrb
  go_wp2_with fail
  with_reducible refine Calls.mono (HN.out _ HK1.out) ?_
  rintro e w2 ⟨rfl, rfl⟩
  go_upto_region 2 with fail
  have hB2 := Blk.new w1 [.int .i64 0, .int .i64 0, .int .i64 0, .int .i64 0, .int .u64 0, .int .i64 0, .int .i64 0, .int .i64 0, .int .i64 0, .slice none 0 0, .int .i64 0] bT.E
  have hk2 : Kept (fun _ => False) w1 (w1.alloc (.cells [.int .i64 0, .int .i64 0, .int .i64 0, .int .i64 0, .int .u64 0, .int .i64 0, .int .i64 0, .int .i64 0, .int .i64 0, .slice none 0 0, .int .i64 0].toArray bT.E)) := (Kept.refl _ w1).alloc _
  have hr2 := hk2.blk HB1.out (fun f => f)
  have HK2 := Lib.hid (HK1.out.trans hk2)
  dsimp only [List.toArray] at hB2 hr2 HK2
  go_upto_region 3 with fail
  generalize w1.alloc (.cells #[.int .i64 0, .int .i64 0, .int .i64 0, .int .i64 0, .int .u64 0, .int .i64 0, .int .i64 0, .int .i64 0, .int .i64 0, .slice none 0 0, .int .i64 0] 28) = w2 at *
  generalize w1.heap.size = zb at *
  have t0 := hB2.cell (o := 0) rfl
  have t1 := hB2.cell (o := 1) rfl
  have t2 := hB2.cell (o := 2) rfl
  have t3 := hB2.cell (o := 3) rfl
  have t4 := hB2.cell (o := 4) rfl
  have t5 := hB2.cell (o := 5) rfl
  have t6 := hB2.cell (o := 6) rfl
  have t7 := hB2.cell (o := 7) rfl
  have t8 := hB2.cell (o := 8) rfl
  have t9 := hB2.cell (o := 9) rfl
  have t10 := hB2.cell (o := 10) rfl
  have e0 := hr2.cell (o := 0) rfl
  have e1 := hr2.cell (o := 1) rfl
  have e2 := hr2.cell (o := 2) rfl
  have e3 := hr2.cell (o := 3) rfl
  have e4 := hr2.cell (o := 4) rfl
  have e5 := hr2.cell (o := 5) rfl
  have e6 := hr2.cell (o := 6) rfl
  have e7 := hr2.cell (o := 7) rfl
  have e8 := hr2.cell (o := 8) rfl
  have e9 := hr2.cell (o := 9) rfl
  have e10 := hr2.cell (o := 10) rfl
  have fz0 := hr2.frozen 0
  have fz1 := hr2.frozen 1
  have fz2 := hr2.frozen 2
  have fz3 := hr2.frozen 3
  have fz4 := hr2.frozen 4
  have fz5 := hr2.frozen 5
  have fz6 := hr2.frozen 6
  have fz7 := hr2.frozen 7
  have fz8 := hr2.frozen 8
  have fz9 := hr2.frozen 9
  have fz10 := hr2.frozen 10
  have hr3 := ((((((((((hr2.set 0 (.int .i64 0)).set 1 (.int .i64 0)).set 2 (.int .i64 0)).set 3 (.int .i64 0)).set 4 (.int .u64 0)).set 5 (.int .i64 0)).set 6 (.int .i64 0)).set 7 (.int .i64 0)).set 8 (.int .i64 0)).set 9 (.slice none 0 0)).set 10 (.int .i64 0)
  have z0 := hr3.cell (o := 0) rfl
  have z1 := hr3.cell (o := 1) rfl
  have z2 := hr3.cell (o := 2) rfl
  have z3 := hr3.cell (o := 3) rfl
  have z4 := hr3.cell (o := 4) rfl
  have z5 := hr3.cell (o := 5) rfl
  have z6 := hr3.cell (o := 6) rfl
  have z7 := hr3.cell (o := 7) rfl
  have z8 := hr3.cell (o := 8) rfl
  have z9 := hr3.cell (o := 9) rfl
  have z10 := hr3.cell (o := 10) rfl
  have R : Hid (Kept (fun _ => False) w (((((((((((w2.setCell ⟨rb, 0, none⟩ (.int .i64 0)).setCell ⟨rb, 1, none⟩ (.int .i64 0)).setCell ⟨rb, 2, none⟩ (.int .i64 0)).setCell ⟨rb, 3, none⟩ (.int .i64 0)).setCell ⟨rb, 4, none⟩ (.int .u64 0)).setCell ⟨rb, 5, none⟩ (.int .i64 0)).setCell ⟨rb, 6, none⟩ (.int .i64 0)).setCell ⟨rb, 7, none⟩ (.int .i64 0)).setCell ⟨rb, 8, none⟩ (.int .i64 0)).setCell ⟨rb, 9, none⟩ (.slice none 0 0)).setCell ⟨rb, 10, none⟩ (.int .i64 0))) :=
    Lib.hid (((((((((((HK2.out.set (b := rb) (fun h => by have := HRB.out; omega) _ _).set (b := rb) (fun h => by have := HRB.out; omega) _ _).set (b := rb) (fun h => by have := HRB.out; omega) _ _).set (b := rb) (fun h => by have := HRB.out; omega) _ _).set (b := rb) (fun h => by have := HRB.out; omega) _ _).set (b := rb) (fun h => by have := HRB.out; omega) _ _).set (b := rb) (fun h => by have := HRB.out; omega) _ _).set (b := rb) (fun h => by have := HRB.out; omega) _ _).set (b := rb) (fun h => by have := HRB.out; omega) _ _).set (b := rb) (fun h => by have := HRB.out; omega) _ _).set (b := rb) (fun h => by have := HRB.out; omega) _ _)
  clear hB2 hk2 hr2 hr3
  go_wp2_with fail
  exact bodyPost_ret (v := .tuple #[bv zB, .bool false]) (by simp [results, Try.results17, go_sem, z0, z1, z2, z3, z4, z5, z6, z7, z8, z9, z10]) rfl ⟨rfl, R.out⟩
theorem remove_no {w0 w : World} {b : Nat} {room : Int} {ls : Nat → List Bx} {F : Nat → Prop} (h : St w0 b room ls F w) {p k : Int} (hx : ¬ (0 ≤ p ∧ p < 8 ∧ 0 ≤ k ∧ k < ((ls p.toNat).length : Nat))) :
    Calls Try.prog 17 #[.pointer (some ⟨b, 0, none⟩), .int .i64 p, .int .i64 k] w fun e w' => e = .returned (.tuple #[bv zB, .bool false]) ∧ Kept (fun _ => False) w w' := by
  refine remove_off ?_
  by_cases hp : 0 ≤ p ∧ p < 8
  · by_cases hk : k < 0
    · exact Or.inr (Or.inr (Or.inl hk))
    · obtain ⟨h0, hr0, c, vs, fs, h1, h2, h3, h4⟩ := h
      exact Or.inr (Or.inr (Or.inr ⟨b, p.toNat, (ls p.toNat).length, rfl, by omega, by omega, by omega, fun w' hk => (hk.blk h1.blk (fun f => f)).cell (h1.cn p.toNat (by omega))⟩))
  · exact Or.inr (Or.inl hp)
theorem remove_nil (p k : Int) (w : World) :
    Calls Try.prog 17 #[.pointer none, .int .i64 p, .int .i64 k] w fun e w' => e = .returned (.tuple #[bv zB, .bool false]) ∧ Kept (fun _ => False) w w' :=
  remove_off (Or.inl rfl)
set_option maxHeartbeats 4000000 in
theorem remove_yes {w0 w : World} {b : Nat} {room : Int} {ls : Nat → List Bx} {F : Nat → Prop} (h : St w0 b room ls F w) {p k : Nat} {P K : Int} (hP : P = (p : Nat)) (hK : K = (k : Nat)) (hp : p < 8) {x : Bx} (hx : (ls p)[k]? = some x) (hl : (ls p).length ≤ 100000) :
    Calls Try.prog 17 #[.pointer (some ⟨b, 0, none⟩), .int .i64 P, .int .i64 K] w fun e w' => e = .returned (.tuple #[bv x, .bool true]) ∧ ∃ F', St w0 b room (upd ls p ((ls p).eraseIdx k)) F' w' ∧ Next F w F' w' := by
  subst hP
  subst hK
  obtain ⟨⟨x1, x2, x3, x4, x5, x6, x7, x8, x9, xd⟩, xa, xc, xq⟩ := x
  have hkl := (List.getElem?_eq_some_iff.1 hx).1
  have TK := Lib.hid fun (w' : World) (hk : Kept (fun _ => False) w w') => qtake_any (P := (p : Nat)) (K := (k : Nat)) (h.old hk) rfl rfl hp hx hl
  have HC : Hid (∀ w', Kept (fun _ => False) w w' → w'.cell? ⟨b, 2 + p * 3 + 2, none⟩ = some (.int .i64 ((ls p).length : Nat))) := by
    obtain ⟨h0, hr0, c, vs, fs, h1, h2, h3, h4⟩ := id h
    exact Lib.hid fun w' hk => (hk.blk h1.blk (fun f => f)).cell (h1.cn p hp)
  have HY := Lib.hid fun (w' : World) (hk : Kept (fun _ => False) w w') => has_yes (p := (p : Nat)) (k := (k : Nat)) rfl hp (HC.out w' hk) (by omega) (by omega)
  clear HC
  have H0 := Lib.hid h
  have hB1 := Blk.new w [.int .i64 0, .int .i64 0, .int .i64 0, .int .i64 0, .int .u64 0, .int .i64 0, .int .i64 0, .int .i64 0, .int .i64 0, .slice none 0 0, .int .i64 0] bT.E
  have hk1 : Kept (fun _ => False) w (w.alloc (.cells [.int .i64 0, .int .i64 0, .int .i64 0, .int .i64 0, .int .u64 0, .int .i64 0, .int .i64 0, .int .i64 0, .int .i64 0, .slice none 0 0, .int .i64 0].toArray bT.E)) := (Kept.refl _ w).alloc _
  have HB1 := Lib.hid hB1
  have HK1 := Lib.hid hk1
  dsimp only [List.toArray] at HB1 HK1
  clear hB1 hk1 hx h
  obtain ⟨L', hL'⟩ : ∃ L', (ls p).eraseIdx k = L' := ⟨_, rfl⟩
  rw [hL'] at TK ⊢
  clear hL'
  clear hkl
  go_enter Try.func17, Try.ntmps17
  go_upto_region 1 with fail
  generalize w.alloc (.cells #[.int .i64 0, .int .i64 0, .int .i64 0, .int .i64 0, .int .u64 0, .int .i64 0, .int .i64 0, .int .i64 0, .int .i64 0, .slice none 0 0, .int .i64 0] 28) = w1 at *
  obtain ⟨rb, hrb⟩ : ∃ rb, w.heap.size = rb := ⟨_, rfl⟩
  rw [hrb] at HB1
  simp only [hrb]
  have HRB := Lib.hid hrb
  clear hrb
  go_wp2_with fail
  with_reducible refine Calls.mono (HY.out _ HK1.out) ?_
  rintro e w2 ⟨rfl, rfl⟩
  go_wp2_with fail
  with_reducible refine Calls.mono (TK.out _ HK1.out) ?_
  rintro e w2 ⟨rfl, F', hS2, hN2⟩
  have hrF : ¬ F rb := fun e => by have := (H0.out.own rb e).2; have := HRB.out; omega
  have hr2 := hN2.1.blk HB1.out hrF
  have hrF' : ¬ F' rb := fun e => (hN2.2 rb e).elim hrF (fun h => by have := HB1.out.lt; omega)
  have e0 := hr2.cell (o := 0) rfl
  have e1 := hr2.cell (o := 1) rfl
  have e2 := hr2.cell (o := 2) rfl
  have e3 := hr2.cell (o := 3) rfl
  have e4 := hr2.cell (o := 4) rfl
  have e5 := hr2.cell (o := 5) rfl
  have e6 := hr2.cell (o := 6) rfl
  have e7 := hr2.cell (o := 7) rfl
  have e8 := hr2.cell (o := 8) rfl
  have e9 := hr2.cell (o := 9) rfl
  have e10 := hr2.cell (o := 10) rfl
  have fz0 := hr2.frozen 0
  have fz1 := hr2.frozen 1
  have fz2 := hr2.frozen 2
  have fz3 := hr2.frozen 3
  have fz4 := hr2.frozen 4
  have fz5 := hr2.frozen 5
  have fz6 := hr2.frozen 6
  have fz7 := hr2.frozen 7
  have fz8 := hr2.frozen 8
  have fz9 := hr2.frozen 9
  have fz10 := hr2.frozen 10
  have hr3 := ((((((((((hr2.set 0 (.int .i64 x1)).set 1 (.int .i64 x2)).set 2 (.int .i64 x3)).set 3 (.int .i64 x4)).set 4 (.int .u64 (x5 : Int))).set 5 (.int .i64 x6)).set 6 (.int .i64 x7)).set 7 (.int .i64 x8)).set 8 (.int .i64 x9)).set 9 (.slice xa xd.length xc)).set 10 (.int .i64 xq)
  have z0 := hr3.cell (o := 0) rfl
  have z1 := hr3.cell (o := 1) rfl
  have z2 := hr3.cell (o := 2) rfl
  have z3 := hr3.cell (o := 3) rfl
  have z4 := hr3.cell (o := 4) rfl
  have z5 := hr3.cell (o := 5) rfl
  have z6 := hr3.cell (o := 6) rfl
  have z7 := hr3.cell (o := 7) rfl
  have z8 := hr3.cell (o := 8) rfl
  have z9 := hr3.cell (o := 9) rfl
  have z10 := hr3.cell (o := 10) rfl
  have k3 : Kept (fun i => i = rb) w2 (((((((((((w2.setCell ⟨rb, 0, none⟩ (.int .i64 x1)).setCell ⟨rb, 1, none⟩ (.int .i64 x2)).setCell ⟨rb, 2, none⟩ (.int .i64 x3)).setCell ⟨rb, 3, none⟩ (.int .i64 x4)).setCell ⟨rb, 4, none⟩ (.int .u64 (x5 : Int))).setCell ⟨rb, 5, none⟩ (.int .i64 x6)).setCell ⟨rb, 6, none⟩ (.int .i64 x7)).setCell ⟨rb, 7, none⟩ (.int .i64 x8)).setCell ⟨rb, 8, none⟩ (.int .i64 x9)).setCell ⟨rb, 9, none⟩ (.slice xa xd.length xc)).setCell ⟨rb, 10, none⟩ (.int .i64 xq)) :=
    (((((((((((Kept.refl (fun i => i = rb) w2).set (b := rb) (fun _ => rfl) _ _).set (b := rb) (fun _ => rfl) _ _).set (b := rb) (fun _ => rfl) _ _).set (b := rb) (fun _ => rfl) _ _).set (b := rb) (fun _ => rfl) _ _).set (b := rb) (fun _ => rfl) _ _).set (b := rb) (fun _ => rfl) _ _).set (b := rb) (fun _ => rfl) _ _).set (b := rb) (fun _ => rfl) _ _).set (b := rb) (fun _ => rfl) _ _).set (b := rb) (fun _ => rfl) _ _
  have R : Hid (∃ F', St w0 b room (upd ls p L') F' (((((((((((w2.setCell ⟨rb, 0, none⟩ (.int .i64 x1)).setCell ⟨rb, 1, none⟩ (.int .i64 x2)).setCell ⟨rb, 2, none⟩ (.int .i64 x3)).setCell ⟨rb, 3, none⟩ (.int .i64 x4)).setCell ⟨rb, 4, none⟩ (.int .u64 (x5 : Int))).setCell ⟨rb, 5, none⟩ (.int .i64 x6)).setCell ⟨rb, 6, none⟩ (.int .i64 x7)).setCell ⟨rb, 7, none⟩ (.int .i64 x8)).setCell ⟨rb, 8, none⟩ (.int .i64 x9)).setCell ⟨rb, 9, none⟩ (.slice xa xd.length xc)).setCell ⟨rb, 10, none⟩ (.int .i64 xq)) ∧ Next F w F' (((((((((((w2.setCell ⟨rb, 0, none⟩ (.int .i64 x1)).setCell ⟨rb, 1, none⟩ (.int .i64 x2)).setCell ⟨rb, 2, none⟩ (.int .i64 x3)).setCell ⟨rb, 3, none⟩ (.int .i64 x4)).setCell ⟨rb, 4, none⟩ (.int .u64 (x5 : Int))).setCell ⟨rb, 5, none⟩ (.int .i64 x6)).setCell ⟨rb, 6, none⟩ (.int .i64 x7)).setCell ⟨rb, 7, none⟩ (.int .i64 x8)).setCell ⟨rb, 8, none⟩ (.int .i64 x9)).setCell ⟨rb, 9, none⟩ (.slice xa xd.length xc)).setCell ⟨rb, 10, none⟩ (.int .i64 xq))) := by
    refine Lib.hid ⟨F', hS2.far k3 (fun i e f => hrF' (e ▸ f)) (fun i e => by subst e; have := H0.out.1.size; have := HRB.out; omega), ?_, fun i hi => (hN2.2 i hi).imp id (fun h => Nat.le_trans HK1.out.size h)⟩
    exact ((HK1.out.mono (fun _ _ f => f.elim)).trans hN2.1).trans' k3 (fun i hi e => by have := HRB.out; omega)
  clear hS2 hN2 hr2 hr3 k3 TK HB1 HY
  go_wp2_with fail
  exact bodyPost_ret (v := .tuple #[bv (⟨⟨x1, x2, x3, x4, x5, x6, x7, x8, x9, xd⟩, xa, xc, xq⟩ : Bx), .bool true]) (by simp [results, Try.results17, go_sem, z0, z1, z2, z3, z4, z5, z6, z7, z8, z9, z10]) rfl ⟨rfl, R.out⟩
end Go.Proofs.Ytiffnlcpemfmoaa.Qu
