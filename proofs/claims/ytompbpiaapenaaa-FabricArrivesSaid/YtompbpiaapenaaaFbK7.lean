/- A queue in memory: Remove. Conditions: each theorem's own. -/
import Derived.Test.YtompbpiaapenaaaFbK6
import Derived.Test.YtompbpiaapenaaaFbK1
import Derived.Laws.AppendOwn
import Derived.Laws.AppendOwnNone
import Derived.Laws.BytesArg
import Derived.Laws.IdiomStrings
import Derived.Maps.AppendAt
import Derived.Carry
import Derived.WalkKit
set_option linter.unusedVariables false
set_option linter.unusedSimpArgs false
namespace Go.Proofs.Ytompbpiaapenaaa.Qu
open Go.RowKit Hp QuM QuN Rw
attribute [local go_sem ↓] Go.wp_at_zero Go.wp_at_succ
/-- Of none, or of no such line. -/
theorem count_off {q : Option Addr} {p : Int} (h : q = none ∨ ¬ (0 ≤ p ∧ p < 8)) (w : World) :
    Calls Try.prog 82 #[.pointer q, .int .i64 p] w fun e w' => e = .returned (.int .i64 0) ∧ w = w' := by
  by_cases hq : q = none
  · subst hq
    go_enter Try.func82, Try.ntmps82
    go_wp2_with fail
    go_ret
    exact ⟨rfl, rfl⟩
  · obtain ⟨a, rfl⟩ := Option.ne_none_iff_exists'.1 hq
    have IP := Lib.hid fun w => isPrio_any p w
    rw [decide_eq_false (h.resolve_left hq)] at IP
    clear h hq
    go_enter Try.func82, Try.ntmps82
    go_wp2_with fail
    with_reducible refine Calls.mono (IP.out _) ?_
    rintro e w2 ⟨rfl, rfl⟩
    go_wp2_with fail
    go_ret
    exact ⟨rfl, rfl⟩
/-- How many stand in a line. -/
theorem count_at {b j n : Nat} {w : World} {p : Int} (hp : p = (j : Nat)) (hj : j < 8) (h : w.cell? ⟨b, 2 + j * 3 + 2, none⟩ = some (.int .i64 (n : Nat))) :
    Calls Try.prog 82 #[.pointer (some ⟨b, 0, none⟩), .int .i64 p] w fun e w' => e = .returned (.int .i64 (n : Nat)) ∧ w = w' := by
  subst hp
  have IP := Lib.hid fun w => isPrio_any (j : Nat) w
  rw [decide_eq_true (show 0 ≤ (j : Int) ∧ (j : Int) < 8 by omega)] at IP
  have hp' : (j : Int) < 8 := by omega
  go_enter Try.func82, Try.ntmps82
  go_wp2_with fail
  with_reducible refine Calls.mono (IP.out _) ?_
  rintro e w2 ⟨rfl, rfl⟩
  go_wp2_with fail
  go_ret
  exact ⟨rfl, rfl⟩
/-- There is no such one. -/
theorem has_no {q : Option Addr} {p k : Int} {w : World} (h : q = none ∨ ¬ (0 ≤ p ∧ p < 8) ∨ k < 0 ∨ ∃ (b j n : Nat), q = some ⟨b, 0, none⟩ ∧ p = (j : Nat) ∧ j < 8 ∧ (n : Int) ≤ k ∧ w.cell? ⟨b, 2 + j * 3 + 2, none⟩ = some (.int .i64 (n : Nat))) :
    Calls Try.prog 83 #[.pointer q, .int .i64 p, .int .i64 k] w fun e w' => e = .returned (.bool false) ∧ w = w' := by
  by_cases hk : k < 0
  · have g0 : decide (0 ≤ k) = false := by rw [decide_eq_false_iff_not]; omega
    clear h hk
    go_enter Try.func83, Try.ntmps83
    go_wp2_with fail
    go_ret
    exact ⟨rfl, rfl⟩
  · have g0 : decide (0 ≤ k) = true := by rw [decide_eq_true_iff]; omega
    obtain ⟨n, hn, hC⟩ : ∃ n : Int, n ≤ k ∧ Calls Try.prog 82 #[.pointer q, .int .i64 p] w fun e w' => e = .returned (.int .i64 n) ∧ w = w' := by
      rcases h with h | h | h | ⟨b, j, n, h1, h2, h3, h4, h5⟩
      · exact ⟨0, by omega, count_off (Or.inl h) w⟩
      · exact ⟨0, by omega, count_off (Or.inr h) w⟩
      · exact absurd h hk
      · subst h1; exact ⟨n, h4, count_at h2 h3 h5⟩
    have HC := Lib.hid hC
    have g1 : decide (k < n) = false := by rw [decide_eq_false_iff_not]; omega
    clear h hk hC hn
    go_enter Try.func83, Try.ntmps83
    go_wp2_with fail
    with_reducible refine Calls.mono HC.out ?_
    rintro e w2 ⟨rfl, rfl⟩
    go_wp2_with fail
    go_ret
    exact ⟨rfl, rfl⟩
/-- There is such one. -/
theorem has_yes {b j n : Nat} {w : World} {p k : Int} (hp : p = (j : Nat)) (hj : j < 8) (h : w.cell? ⟨b, 2 + j * 3 + 2, none⟩ = some (.int .i64 (n : Nat))) (hk : 0 ≤ k) (hn : k < (n : Nat)) :
    Calls Try.prog 83 #[.pointer (some ⟨b, 0, none⟩), .int .i64 p, .int .i64 k] w fun e w' => e = .returned (.bool true) ∧ w = w' := by
  have HC := Lib.hid (count_at hp hj h)
  have g0 : decide (0 ≤ k) = true := by rw [decide_eq_true_iff]; omega
  have g1 : decide (k < (n : Int)) = true := by rw [decide_eq_true_iff]; omega
  clear hp hj h hk hn
  go_enter Try.func83, Try.ntmps83
  go_wp2_with fail
  with_reducible refine Calls.mono HC.out ?_
  rintro e w2 ⟨rfl, rfl⟩
  go_wp2_with fail
  go_ret
  exact ⟨rfl, rfl⟩
set_option maxHeartbeats 4000000 in
/-- There is no such one. -/
theorem remove_off {q : Option Addr} {p k : Int} {w : World}
    (h : q = none ∨ ¬ (0 ≤ p ∧ p < 8) ∨ k < 0 ∨ ∃ (b j n : Nat), q = some ⟨b, 0, none⟩ ∧ p = (j : Nat) ∧ j < 8 ∧ (n : Int) ≤ k ∧ ∀ w', Kept (fun _ => False) w w' → w'.cell? ⟨b, 2 + j * 3 + 2, none⟩ = some (.int .i64 (n : Nat))) :
    Calls Try.prog 53 #[.pointer q, .int .i64 p, .int .i64 k] w fun e w' => e = .returned (.tuple #[bv zB, .bool false]) ∧ Kept (fun _ => False) w w' := by
  have hB1 := Blk.new w [.int .i64 0, .int .i64 0, .int .i64 0, .int .i64 0, .int .u64 0, .int .i64 0, .int .i64 0, .int .i64 0, .int .i64 0, .slice none 0 0, .int .i64 0] bT.E
  have hk1 : Kept (fun _ => False) w (w.alloc (.cells [.int .i64 0, .int .i64 0, .int .i64 0, .int .i64 0, .int .u64 0, .int .i64 0, .int .i64 0, .int .i64 0, .int .i64 0, .slice none 0 0, .int .i64 0].toArray bT.E)) := (Kept.refl _ w).alloc _
  have HB1 := Lib.hid hB1
  have HK1 := Lib.hid hk1
  dsimp only [List.toArray] at HB1 HK1
  clear hB1 hk1
  have HN : Hid (∀ w', Kept (fun _ => False) w w' → Calls Try.prog 83 #[.pointer q, .int .i64 p, .int .i64 k] w' fun e w'' => e = .returned (.bool false) ∧ w' = w'') := Lib.hid fun w' hk => has_no (by
    rcases h with h | h | h | ⟨b, j, n, h1, h2, h3, h4, h5⟩
    · exact Or.inl h
    · exact Or.inr (Or.inl h)
    · exact Or.inr (Or.inr (Or.inl h))
    · exact Or.inr (Or.inr (Or.inr ⟨b, j, n, h1, h2, h3, h4, h5 w' hk⟩)))
  clear h
  go_enter Try.func53, Try.ntmps53
  go_upto_region 1 with fail
  generalize w.alloc (.cells #[.int .i64 0, .int .i64 0, .int .i64 0, .int .i64 0, .int .u64 0, .int .i64 0, .int .i64 0, .int .i64 0, .int .i64 0, .slice none 0 0, .int .i64 0] 40) = w1 at *
  obtain ⟨rb, hrb⟩ : ∃ rb, w.heap.size = rb := ⟨_, rfl⟩
  rw [hrb] at HB1
  simp only [hrb]
  have HRB := Lib.hid hrb
  clear hrb
  go_wp2_with fail
  with_reducible refine Calls.mono (HN.out _ HK1.out) ?_
  rintro e w2 ⟨rfl, rfl⟩
  go_upto_region 2 with fail
  have hB2 := Blk.new w1 [.int .i64 0, .int .i64 0, .int .i64 0, .int .i64 0, .int .u64 0, .int .i64 0, .int .i64 0, .int .i64 0, .int .i64 0, .slice none 0 0, .int .i64 0] bT.E
  have hk2 : Kept (fun _ => False) w1 (w1.alloc (.cells [.int .i64 0, .int .i64 0, .int .i64 0, .int .i64 0, .int .u64 0, .int .i64 0, .int .i64 0, .int .i64 0, .int .i64 0, .slice none 0 0, .int .i64 0].toArray bT.E)) := (Kept.refl _ w1).alloc _
  have hr2 := hk2.blk HB1.out (fun f => f)
  have HK2 := Lib.hid (HK1.out.trans hk2)
  dsimp only [List.toArray] at hB2 hr2 HK2
  go_upto_region 3 with fail
  generalize w1.alloc (.cells #[.int .i64 0, .int .i64 0, .int .i64 0, .int .i64 0, .int .u64 0, .int .i64 0, .int .i64 0, .int .i64 0, .int .i64 0, .slice none 0 0, .int .i64 0] 40) = w2 at *
  generalize w1.heap.size = zb at *
  have t0 := hB2.cell (o := 0) rfl
  have t1 := hB2.cell (o := 1) rfl
  have t2 := hB2.cell (o := 2) rfl
  have t3 := hB2.cell (o := 3) rfl
  have t4 := hB2.cell (o := 4) rfl
  have t5 := hB2.cell (o := 5) rfl
  have t6 := hB2.cell (o := 6) rfl
  have t7 := hB2.cell (o := 7) rfl
  have t8 := hB2.cell (o := 8) rfl
  have t9 := hB2.cell (o := 9) rfl
  have t10 := hB2.cell (o := 10) rfl
  have e0 := hr2.cell (o := 0) rfl
  have e1 := hr2.cell (o := 1) rfl
  have e2 := hr2.cell (o := 2) rfl
  have e3 := hr2.cell (o := 3) rfl
  have e4 := hr2.cell (o := 4) rfl
  have e5 := hr2.cell (o := 5) rfl
  have e6 := hr2.cell (o := 6) rfl
  have e7 := hr2.cell (o := 7) rfl
  have e8 := hr2.cell (o := 8) rfl
  have e9 := hr2.cell (o := 9) rfl
  have e10 := hr2.cell (o := 10) rfl
  have fz0 := hr2.frozen 0
  have fz1 := hr2.frozen 1
  have fz2 := hr2.frozen 2
  have fz3 := hr2.frozen 3
  have fz4 := hr2.frozen 4
  have fz5 := hr2.frozen 5
  have fz6 := hr2.frozen 6
  have fz7 := hr2.frozen 7
  have fz8 := hr2.frozen 8
  have fz9 := hr2.frozen 9
  have fz10 := hr2.frozen 10
  have hr3 := ((((((((((hr2.set 0 (.int .i64 0)).set 1 (.int .i64 0)).set 2 (.int .i64 0)).set 3 (.int .i64 0)).set 4 (.int .u64 0)).set 5 (.int .i64 0)).set 6 (.int .i64 0)).set 7 (.int .i64 0)).set 8 (.int .i64 0)).set 9 (.slice none 0 0)).set 10 (.int .i64 0)
  have z0 := hr3.cell (o := 0) rfl
  have z1 := hr3.cell (o := 1) rfl
  have z2 := hr3.cell (o := 2) rfl
  have z3 := hr3.cell (o := 3) rfl
  have z4 := hr3.cell (o := 4) rfl
  have z5 := hr3.cell (o := 5) rfl
  have z6 := hr3.cell (o := 6) rfl
  have z7 := hr3.cell (o := 7) rfl
  have z8 := hr3.cell (o := 8) rfl
  have z9 := hr3.cell (o := 9) rfl
  have z10 := hr3.cell (o := 10) rfl
  have R : Hid (Kept (fun _ => False) w (((((((((((w2.setCell ⟨rb, 0, none⟩ (.int .i64 0)).setCell ⟨rb, 1, none⟩ (.int .i64 0)).setCell ⟨rb, 2, none⟩ (.int .i64 0)).setCell ⟨rb, 3, none⟩ (.int .i64 0)).setCell ⟨rb, 4, none⟩ (.int .u64 0)).setCell ⟨rb, 5, none⟩ (.int .i64 0)).setCell ⟨rb, 6, none⟩ (.int .i64 0)).setCell ⟨rb, 7, none⟩ (.int .i64 0)).setCell ⟨rb, 8, none⟩ (.int .i64 0)).setCell ⟨rb, 9, none⟩ (.slice none 0 0)).setCell ⟨rb, 10, none⟩ (.int .i64 0))) :=
    Lib.hid (((((((((((HK2.out.set (b := rb) (fun h => by have := HRB.out; omega) _ _).set (b := rb) (fun h => by have := HRB.out; omega) _ _).set (b := rb) (fun h => by have := HRB.out; omega) _ _).set (b := rb) (fun h => by have := HRB.out; omega) _ _).set (b := rb) (fun h => by have := HRB.out; omega) _ _).set (b := rb) (fun h => by have := HRB.out; omega) _ _).set (b := rb) (fun h => by have := HRB.out; omega) _ _).set (b := rb) (fun h => by have := HRB.out; omega) _ _).set (b := rb) (fun h => by have := HRB.out; omega) _ _).set (b := rb) (fun h => by have := HRB.out; omega) _ _).set (b := rb) (fun h => by have := HRB.out; omega) _ _)
  clear hB2 hk2 hr2 hr3
  go_wp2_with fail
  exact bodyPost_ret (v := .tuple #[bv zB, .bool false]) (by simp [results, Try.results53, go_sem, z0, z1, z2, z3, z4, z5, z6, z7, z8, z9, z10]) rfl ⟨rfl, R.out⟩
theorem remove_no {w0 w : World} {b : Nat} {room : Int} {ls : Nat → List Bx} {F : Nat → Prop} (h : St w0 b room ls F w) {p k : Int} (hx : ¬ (0 ≤ p ∧ p < 8 ∧ 0 ≤ k ∧ k < ((ls p.toNat).length : Nat))) :
    Calls Try.prog 53 #[.pointer (some ⟨b, 0, none⟩), .int .i64 p, .int .i64 k] w fun e w' => e = .returned (.tuple #[bv zB, .bool false]) ∧ Kept (fun _ => False) w w' := by
  refine remove_off ?_
  by_cases hp : 0 ≤ p ∧ p < 8
  · by_cases hk : k < 0
    · exact Or.inr (Or.inr (Or.inl hk))
    · obtain ⟨h0, hr0, c, vs, fs, h1, h2, h3, h4⟩ := h
      exact Or.inr (Or.inr (Or.inr ⟨b, p.toNat, (ls p.toNat).length, rfl, by omega, by omega, by omega, fun w' hk => (hk.blk h1.blk (fun f => f)).cell (h1.cn p.toNat (by omega))⟩))
  · exact Or.inr (Or.inl hp)
theorem remove_nil (p k : Int) (w : World) :
    Calls Try.prog 53 #[.pointer none, .int .i64 p, .int .i64 k] w fun e w' => e = .returned (.tuple #[bv zB, .bool false]) ∧ Kept (fun _ => False) w w' :=
  remove_off (Or.inl rfl)
set_option maxHeartbeats 4000000 in
theorem remove_yes {w0 w : World} {b : Nat} {room : Int} {ls : Nat → List Bx} {F : Nat → Prop} (h : St w0 b room ls F w) {p k : Nat} {P K : Int} (hP : P = (p : Nat)) (hK : K = (k : Nat)) (hp : p < 8) {x : Bx} (hx : (ls p)[k]? = some x) (hl : (ls p).length ≤ 100000) :
    Calls Try.prog 53 #[.pointer (some ⟨b, 0, none⟩), .int .i64 P, .int .i64 K] w fun e w' => e = .returned (.tuple #[bv x, .bool true]) ∧ ∃ F', St w0 b room (upd ls p ((ls p).eraseIdx k)) F' w' ∧ Next F w F' w' := by
  subst hP
  subst hK
  obtain ⟨⟨x1, x2, x3, x4, x5, x6, x7, x8, x9, xd⟩, xa, xc, xq⟩ := x
  have hkl := (List.getElem?_eq_some_iff.1 hx).1
  have TK := Lib.hid fun (w' : World) (hk : Kept (fun _ => False) w w') => qtake_any (P := (p : Nat)) (K := (k : Nat)) (h.old hk) rfl rfl hp hx hl
  have HC : Hid (∀ w', Kept (fun _ => False) w w' → w'.cell? ⟨b, 2 + p * 3 + 2, none⟩ = some (.int .i64 ((ls p).length : Nat))) := by
    obtain ⟨h0, hr0, c, vs, fs, h1, h2, h3, h4⟩ := id h
    exact Lib.hid fun w' hk => (hk.blk h1.blk (fun f => f)).cell (h1.cn p hp)
  have HY := Lib.hid fun (w' : World) (hk : Kept (fun _ => False) w w') => has_yes (p := (p : Nat)) (k := (k : Nat)) rfl hp (HC.out w' hk) (by omega) (by omega)
  clear HC
  have H0 := Lib.hid h
  have hB1 := Blk.new w [.int .i64 0, .int .i64 0, .int .i64 0, .int .i64 0, .int .u64 0, .int .i64 0, .int .i64 0, .int .i64 0, .int .i64 0, .slice none 0 0, .int .i64 0] bT.E
  have hk1 : Kept (fun _ => False) w (w.alloc (.cells [.int .i64 0, .int .i64 0, .int .i64 0, .int .i64 0, .int .u64 0, .int .i64 0, .int .i64 0, .int .i64 0, .int .i64 0, .slice none 0 0, .int .i64 0].toArray bT.E)) := (Kept.refl _ w).alloc _
  have HB1 := Lib.hid hB1
  have HK1 := Lib.hid hk1
  dsimp only [List.toArray] at HB1 HK1
  clear hB1 hk1 hx h
  obtain ⟨L', hL'⟩ : ∃ L', (ls p).eraseIdx k = L' := ⟨_, rfl⟩
  rw [hL'] at TK ⊢
  clear hL'
  clear hkl
  go_enter Try.func53, Try.ntmps53
  go_upto_region 1 with fail
  generalize w.alloc (.cells #[.int .i64 0, .int .i64 0, .int .i64 0, .int .i64 0, .int .u64 0, .int .i64 0, .int .i64 0, .int .i64 0, .int .i64 0, .slice none 0 0, .int .i64 0] 40) = w1 at *
  obtain ⟨rb, hrb⟩ : ∃ rb, w.heap.size = rb := ⟨_, rfl⟩
  rw [hrb] at HB1
  simp only [hrb]
  have HRB := Lib.hid hrb
  clear hrb
  go_wp2_with fail
  with_reducible refine Calls.mono (HY.out _ HK1.out) ?_
  rintro e w2 ⟨rfl, rfl⟩
  go_wp2_with fail
  with_reducible refine Calls.mono (TK.out _ HK1.out) ?_
  rintro e w2 ⟨rfl, F', hS2, hN2⟩
  have hrF : ¬ F rb := fun e => by have := (H0.out.own rb e).2; have := HRB.out; omega
  have hr2 := hN2.1.blk HB1.out hrF
  have hrF' : ¬ F' rb := fun e => (hN2.2 rb e).elim hrF (fun h => by have := HB1.out.lt; omega)
  have e0 := hr2.cell (o := 0) rfl
  have e1 := hr2.cell (o := 1) rfl
  have e2 := hr2.cell (o := 2) rfl
  have e3 := hr2.cell (o := 3) rfl
  have e4 := hr2.cell (o := 4) rfl
  have e5 := hr2.cell (o := 5) rfl
  have e6 := hr2.cell (o := 6) rfl
  have e7 := hr2.cell (o := 7) rfl
  have e8 := hr2.cell (o := 8) rfl
  have e9 := hr2.cell (o := 9) rfl
  have e10 := hr2.cell (o := 10) rfl
  have fz0 := hr2.frozen 0
  have fz1 := hr2.frozen 1
  have fz2 := hr2.frozen 2
  have fz3 := hr2.frozen 3
  have fz4 := hr2.frozen 4
  have fz5 := hr2.frozen 5
  have fz6 := hr2.frozen 6
  have fz7 := hr2.frozen 7
  have fz8 := hr2.frozen 8
  have fz9 := hr2.frozen 9
  have fz10 := hr2.frozen 10
  have hr3 := ((((((((((hr2.set 0 (.int .i64 x1)).set 1 (.int .i64 x2)).set 2 (.int .i64 x3)).set 3 (.int .i64 x4)).set 4 (.int .u64 (x5 : Int))).set 5 (.int .i64 x6)).set 6 (.int .i64 x7)).set 7 (.int .i64 x8)).set 8 (.int .i64 x9)).set 9 (.slice xa xd.length xc)).set 10 (.int .i64 xq)
  have z0 := hr3.cell (o := 0) rfl
  have z1 := hr3.cell (o := 1) rfl
  have z2 := hr3.cell (o := 2) rfl
  have z3 := hr3.cell (o := 3) rfl
  have z4 := hr3.cell (o := 4) rfl
  have z5 := hr3.cell (o := 5) rfl
  have z6 := hr3.cell (o := 6) rfl
  have z7 := hr3.cell (o := 7) rfl
  have z8 := hr3.cell (o := 8) rfl
  have z9 := hr3.cell (o := 9) rfl
  have z10 := hr3.cell (o := 10) rfl
  have k3 : Kept (fun i => i = rb) w2 (((((((((((w2.setCell ⟨rb, 0, none⟩ (.int .i64 x1)).setCell ⟨rb, 1, none⟩ (.int .i64 x2)).setCell ⟨rb, 2, none⟩ (.int .i64 x3)).setCell ⟨rb, 3, none⟩ (.int .i64 x4)).setCell ⟨rb, 4, none⟩ (.int .u64 (x5 : Int))).setCell ⟨rb, 5, none⟩ (.int .i64 x6)).setCell ⟨rb, 6, none⟩ (.int .i64 x7)).setCell ⟨rb, 7, none⟩ (.int .i64 x8)).setCell ⟨rb, 8, none⟩ (.int .i64 x9)).setCell ⟨rb, 9, none⟩ (.slice xa xd.length xc)).setCell ⟨rb, 10, none⟩ (.int .i64 xq)) :=
    (((((((((((Kept.refl (fun i => i = rb) w2).set (b := rb) (fun _ => rfl) _ _).set (b := rb) (fun _ => rfl) _ _).set (b := rb) (fun _ => rfl) _ _).set (b := rb) (fun _ => rfl) _ _).set (b := rb) (fun _ => rfl) _ _).set (b := rb) (fun _ => rfl) _ _).set (b := rb) (fun _ => rfl) _ _).set (b := rb) (fun _ => rfl) _ _).set (b := rb) (fun _ => rfl) _ _).set (b := rb) (fun _ => rfl) _ _).set (b := rb) (fun _ => rfl) _ _
  have R : Hid (∃ F', St w0 b room (upd ls p L') F' (((((((((((w2.setCell ⟨rb, 0, none⟩ (.int .i64 x1)).setCell ⟨rb, 1, none⟩ (.int .i64 x2)).setCell ⟨rb, 2, none⟩ (.int .i64 x3)).setCell ⟨rb, 3, none⟩ (.int .i64 x4)).setCell ⟨rb, 4, none⟩ (.int .u64 (x5 : Int))).setCell ⟨rb, 5, none⟩ (.int .i64 x6)).setCell ⟨rb, 6, none⟩ (.int .i64 x7)).setCell ⟨rb, 7, none⟩ (.int .i64 x8)).setCell ⟨rb, 8, none⟩ (.int .i64 x9)).setCell ⟨rb, 9, none⟩ (.slice xa xd.length xc)).setCell ⟨rb, 10, none⟩ (.int .i64 xq)) ∧ Next F w F' (((((((((((w2.setCell ⟨rb, 0, none⟩ (.int .i64 x1)).setCell ⟨rb, 1, none⟩ (.int .i64 x2)).setCell ⟨rb, 2, none⟩ (.int .i64 x3)).setCell ⟨rb, 3, none⟩ (.int .i64 x4)).setCell ⟨rb, 4, none⟩ (.int .u64 (x5 : Int))).setCell ⟨rb, 5, none⟩ (.int .i64 x6)).setCell ⟨rb, 6, none⟩ (.int .i64 x7)).setCell ⟨rb, 7, none⟩ (.int .i64 x8)).setCell ⟨rb, 8, none⟩ (.int .i64 x9)).setCell ⟨rb, 9, none⟩ (.slice xa xd.length xc)).setCell ⟨rb, 10, none⟩ (.int .i64 xq))) := by
    refine Lib.hid ⟨F', hS2.far k3 (fun i e f => hrF' (e ▸ f)) (fun i e => by subst e; have := H0.out.1.size; have := HRB.out; omega), ?_, fun i hi => (hN2.2 i hi).imp id (fun h => Nat.le_trans HK1.out.size h)⟩
    exact ((HK1.out.mono (fun _ _ f => f.elim)).trans hN2.1).trans' k3 (fun i hi e => by have := HRB.out; omega)
  clear hS2 hN2 hr2 hr3 k3 TK HB1 HY
  go_wp2_with fail
  exact bodyPost_ret (v := .tuple #[bv (⟨⟨x1, x2, x3, x4, x5, x6, x7, x8, x9, xd⟩, xa, xc, xq⟩ : Bx), .bool true]) (by simp [results, Try.results53, go_sem, z0, z1, z2, z3, z4, z5, z6, z7, z8, z9, z10]) rfl ⟨rfl, R.out⟩
end Go.Proofs.Ytompbpiaapenaaa.Qu

/- Bytes: a slice of them as an argument, as a row of one's own, as a source; append, as a string. Conditions: each theorem's own. -/
namespace Go.Proofs.Ytompbpiaapenaaa.Byt
open Go.ChangeShapes Go.WideShapes Go.RowKit Go.Deep Hp Go.Proofs.Ytompbpiaapenaaa.End
theorem infoB : (Try.prog.info? 5).map (fun i => (i.zero, i.size, i.bytes)) = some (some (.int .u8 0), 1, 1) := by kernel_rfl
theorem keptAt {F : Nat → Prop} {w w' : World} (h : Kept F w w') {k : Nat} (hk : k < w.heap.size) (hF : ¬ F k) (o : Nat) : w'.cell? ⟨k, o, none⟩ = w.cell? ⟨k, o, none⟩ := by
  simp [World.cell?, h.block k hk hF]
/-- A byte's cell. -/
def bv (x : UInt8) : Value := .int .u8 (x.toNat : Int)
def bvs (l : List UInt8) : List Value := l.map bv
theorem bvs_len (l : List UInt8) : (bvs l).length = l.length * 1 := by simp [bvs]
theorem bvs_append (a b : List UInt8) : bvs (a ++ b) = bvs a ++ bvs b := by simp [bvs]
theorem bvs_at {l : List UInt8} {j : Nat} (hj : j < l.length) : (bvs l)[j]? = some (bv l[j]) := by simp [bvs, List.getElem?_eq_getElem hj]
theorem bvs_one {l : List UInt8} : ∀ u ∈ bvs l, u.oneCell' = true := by
  intro u hu
  obtain ⟨k, _, rfl⟩ := List.mem_map.1 hu
  rfl
/-- Bytes that may be read. -/
def Src (w : World) (v : Value) (l : List UInt8) : Prop :=
  ∃ s c, v = .slice s l.length c ∧ l.length ≤ c ∧ (l = [] ∨ ∃ b o, s = some ⟨b, o, none⟩ ∧ b < w.heap.size ∧ ∀ j (hj : j < l.length), w.cell? ⟨b, o + j, none⟩ = some (bv l[j])) ∧ (s = none → c = 0)
theorem Src.kept {w w' : World} {v : Value} {l : List UInt8} (h : Src w v l) (k : Kept (fun _ => False) w w') : Src w' v l := by
  obtain ⟨s, c, rfl, hc, h, hn⟩ := h
  refine ⟨s, c, rfl, hc, ?_, hn⟩
  rcases h with h | ⟨b, o, rfl, hb, hc⟩
  · exact Or.inl h
  · exact Or.inr ⟨b, o, rfl, Nat.lt_of_lt_of_le hb k.size, fun j hj => (keptAt k hb (fun f => f) _).trans (hc j hj)⟩
/-- A row of bytes of one's own. -/
def Row (w : World) (base : Nat) (v : Value) (l : List UInt8) : Prop := w.ownsRow base 5 1 v l.length (bvs l)
theorem row_nil (w : World) (b : Nat) : Row w b (.slice none 0 0) [] := ⟨rfl, Or.inl ⟨rfl, rfl⟩⟩
theorem Row.form {w : World} {base : Nat} {v : Value} {l : List UInt8} (h : Row w base v l) :
    (v = .slice none 0 0 ∧ l = []) ∨ ∃ g cap cur, v = .slice (some ⟨g, 0, none⟩) l.length cap ∧ base ≤ g ∧ Blk w g cur 5 ∧ l.length ≤ cap ∧ cap ≤ maxLen ∧ cur.length = cap ∧ cur.take l.length = bvs l := by
  rcases h.2 with ⟨rfl, h0⟩ | ⟨g, cap, cur, rfl, h1, h2, h3, h4, h5, h6⟩
  · exact Or.inl ⟨rfl, List.length_eq_zero_iff.1 h0⟩
  · exact Or.inr ⟨g, cap, cur.toList, rfl, h1, by unfold Blk; simpa using h2, h3, h4, by simpa using h5, by simpa using h6⟩
theorem Row.src {w : World} {base : Nat} {v : Value} {l : List UInt8} (h : Row w base v l) : Src w v l := by
  rcases h.form with ⟨rfl, rfl⟩ | ⟨g, cap, cur, rfl, h1, h2, h3, h4, h5, h6⟩
  · exact ⟨none, 0, rfl, Nat.le_refl _, Or.inl rfl, fun _ => rfl⟩
  · refine ⟨_, cap, rfl, h3, Or.inr ⟨g, 0, rfl, h2.lt, fun j hj => ?_⟩, fun h => by cases h⟩
    rw [Nat.zero_add]
    refine h2.cell ?_
    have := bvs_at hj
    rw [← h6, List.getElem?_take, if_pos hj] at this
    exact this
theorem Row.base {w : World} {b b' : Nat} {v : Value} {l : List UInt8} (h : Row w b v l) (hb : ∀ g, v.ownBlock = some g → b' ≤ g) : Row w b' v l := by
  rcases h.2 with ⟨rfl, h0⟩ | ⟨g, cap, cur, rfl, h1, h2, h3, h4, h5, h6⟩
  · exact ⟨h.1, Or.inl ⟨rfl, h0⟩⟩
  · exact ⟨h.1, Or.inr ⟨g, cap, cur, rfl, hb g rfl, h2, h3, h4, h5, h6⟩⟩
theorem Row.kept {w w' : World} {F : Nat → Prop} {base : Nat} {v : Value} {l : List UInt8} (h : Row w base v l) (k : Kept F w w') (hF : ∀ g, v.ownBlock = some g → ¬ F g) : Row w' base v l := by
  rcases h.2 with ⟨rfl, h0⟩ | ⟨g, cap, cur, rfl, h1, h2, h3, h4, h5, h6⟩
  · exact ⟨h.1, Or.inl ⟨rfl, h0⟩⟩
  · have hb : Blk w g cur.toList 5 := by unfold Blk; simpa using h2
    have := k.blk hb (hF g rfl)
    exact ⟨h.1, Or.inr ⟨g, cap, cur, rfl, h1, by unfold Blk at this; simpa using this, h3, h4, h5, h6⟩⟩
theorem Row.lt {w : World} {base : Nat} {v : Value} {l : List UInt8} (h : Row w base v l) : ∀ g, v.ownBlock = some g → base ≤ g ∧ g < w.heap.size := fun g hg => World.ownsRow.lt h g hg
theorem Row.slice {w : World} {base : Nat} {v : Value} {l : List UInt8} (h : Row w base v l) : ∃ s c, v = .slice s l.length c ∧ l.length ≤ c := by
  rcases h.form with ⟨rfl, rfl⟩ | ⟨g, cap, cur, rfl, _, _, h3, _⟩
  · exact ⟨_, _, rfl, Nat.le_refl _⟩
  · exact ⟨_, _, rfl, h3⟩
theorem row_new (w : World) : Row (w.alloc (.cells #[] 5)) w.heap.size (.slice (some ⟨w.heap.size, 0, none⟩) 0 0) [] :=
  ⟨rfl, Or.inr ⟨w.heap.size, 0, #[], rfl, Nat.le_refl _, heap_alloc_new w _, Nat.le_refl _, by unfold maxLen; omega, rfl, rfl⟩⟩
/-- What an append leaves. -/
structure Apd (w : World) (base : Nat) (v : Value) (l : List UInt8) (v' : Value) (w' : World) : Prop where
  row : Row w' base v' l
  kept : Kept (fun k => v.ownBlock = some k) w w'
  lies : ∀ g, v'.ownBlock = some g → v.ownBlock = some g ∨ w.heap.size ≤ g
theorem grown_kept {w w' : World} {row : Option Nat} (h : w.grownBy w' row) : Kept (fun k => row = some k) w w' := ⟨h.os, h.tape, h.output, h.size, fun k hk hr => h.block k hk (fun e => hr e.symm)⟩
theorem run_app {w : World} (base : Nat) {v v2 : Value} {K K2 : List UInt8} (ty : TypeId) (h1 : Row w base v K) (h2 : Src w v2 K2) (hsm : K.length + K2.length ≤ 1000000000) (hbase : base ≤ w.heap.size) :
    ∃ v' w', (Builtin.append_ #[33, 33] ty #[v, v2]).run Try.prog w = .ok v' w' ∧ Apd w base v (K ++ K2) v' w' := by
  obtain ⟨ti, hti, hz0, hz1, hz2⟩ := info_parts infoB
  obtain ⟨s, c, rfl, hcap, hs, hn⟩ := h2
  cases s with
  | none =>
    obtain rfl := hn rfl
    obtain rfl : K2 = [] := List.length_eq_zero_iff.1 (by omega)
    have hr := run_append_owned_none (P := Try.prog) w base 33 ty 5 ti 1 Try.underlying33 hti v _ _ h1
    exact ⟨v, w, hr, ⟨by rw [List.append_nil]; exact h1, Kept.refl _ w, fun g hg => Or.inl hg⟩⟩
  | some a =>
    have hc : ∀ j u, (bvs K2)[j]? = some u → w.cell? (a.add j) = some u := fun j u hj => by
      have hj2 : j < K2.length := by have := (List.getElem?_eq_some_iff.1 hj).1; rw [bvs_len] at this; omega
      obtain ⟨b, o, e, _, hcell⟩ := hs.resolve_left (fun e => by rw [e] at hj2; simp at hj2)
      cases e
      rw [Go.WideShapes.add_plain, hcell j hj2, ← hj, bvs_at hj2]
    obtain ⟨v', w', hr, r2, r3, _, r5⟩ := run_append_own_at (P := Try.prog) w base 33 ty 5 ti _ 1 1 Try.underlying33 hti hz0 hz1 hz2 rfl (by decide) v _ _ h1 a K2.length c _ (bvs_len K2) hc bvs_one (by unfold maxLen; omega) (by omega) hbase
    refine ⟨v', w', hr, ⟨?_, grown_kept r3, fun g hg => ?_⟩⟩
    · unfold Row
      rw [List.length_append, bvs_append]
      exact r2
    · rcases r5 with r5 | r5
      · left; rw [← r5]; exact hg
      · right
        rw [r5] at hg
        cases hg
        exact Nat.le_refl _
theorem wp_app {w : World} {o : Oper} {a : Act} {K0 : Act → World → Prop} {Q : Exit → Act → World → Prop} (s x : Operand)
    (ho : o.op = .call { callee := .builtin .append, args := #[s, x], argTypes := #[33, 33] })
    (base : Nat) {v v2 : Value} {K K2 : List UInt8} (hs : a.eval s = v) (h1 : Row w base v K) (hx : a.eval x = v2) (h2 : Src w v2 K2) (hsm : K.length + K2.length ≤ 1000000000) (hbase : base ≤ w.heap.size)
    (h : ∀ v' w', Apd w base v (K ++ K2) v' w' → K0 (a.put o.dst v') w') : o.wp Try.prog a w K0 Q := by
  obtain ⟨v', w', hr, hA⟩ := run_app base o.type h1 h2 hsm hbase
  unfold Oper.wp execOp
  simp only [ho, resolve, invoke, builtin, Sem.run_bind, Sem.run_pure, Result.andThen_ok, List.map_toArray, List.map_cons, List.map_nil, hs, hx, hr]
  exact h v' w' hA
theorem wpList_app {w : World} {ops : Array Oper} {rest : List Oper} {o : Oper} {a : Act} {Q : Exit → Act → World → Prop} (hgd : o.guard = none) (s x : Operand)
    (ho : o.op = .call { callee := .builtin .append, args := #[s, x], argTypes := #[33, 33] })
    (base : Nat) {v v2 : Value} {K K2 : List UInt8} (hs : a.eval s = v) (h1 : Row w base v K) (hx : a.eval x = v2) (h2 : Src w v2 K2) (hsm : K.length + K2.length ≤ 1000000000) (hbase : base ≤ w.heap.size)
    (h : ∀ v' w', Apd w base v (K ++ K2) v' w' → wpList Try.prog ops Q rest (a.put o.dst v') w') : wpList Try.prog ops Q (o :: rest) a w :=
  wpList_plain hgd fun _ hK => wp_app s x ho base hs h1 hx h2 hsm hbase fun v' w' hA => hK _ _ (h v' w' hA)
/-- As a string. -/
theorem run_str {w : World} {v : Value} {l : List UInt8} (h : Src w v l) : (convert 33 9 v).run Try.prog w = .ok (.string ⟨l.toArray⟩) w := by
  obtain ⟨s, c, rfl, hcap, hs, hn⟩ := h
  cases s with
  | none =>
    obtain rfl := hn rfl
    obtain rfl : l = [] := List.length_eq_zero_iff.1 (by omega)
    exact run_convert_bytes_nil (P := Try.prog) w 33 5 Try.underlying33 Try.underlying5 0 0 9 Try.underlying9
  | some a =>
    refine run_convert_bytes_back (P := Try.prog) w 33 9 5 a c l Try.underlying33 Try.underlying5 Try.underlying9 (fun j hj => ?_)
    obtain ⟨b, o, e, _, hcell⟩ := hs.resolve_left (fun e => by rw [e] at hj; simp at hj)
    cases e
    rw [Go.WideShapes.add_plain]
    exact hcell j hj
end Go.Proofs.Ytompbpiaapenaaa.Byt
namespace Go.Proofs.Ytompbpiaapenaaa.Opn
open Go.ChangeShapes Go.WideShapes Go.RowKit Go.Deep Hp Go.Proofs.Ytompbpiaapenaaa.End Byt
/-- A slice of bytes that was there at the call. -/
def Byts (w : World) (s : Option Addr) (cap : Nat) (l : List UInt8) : Prop := Src w (.slice s l.length cap) l ∧ cap ≤ 9223372036854775807
set_option maxRecDepth 100000 in
theorem bytes_of {H : Type} {enc : TypeId × Value → H} {W : World} {base : Nat} {v : Value} {d : DataW H} {p : List MemPlace}
    (hv : Value.okWide Try.prog W .any base 33 v) (h : DataW.Trod enc Try.prog W 0 (fun _ => true) true 33 v d p) : ∃ s cap l, v = .slice s (List.length l) cap ∧ Byts W s cap l := by
  obtain ⟨a, len, cap, rfl⟩ := okWide_slice Try.underlying33 hv
  obtain ⟨_, hf⟩ := h
  rcases open_ints Try.underlying33 Try.underlying5 (by kernel_rfl) hf with ⟨hcs, hx⟩ | ⟨a', len', cap', zs, hcs, _, hl, hm, hz, hx, hcell, hwz⟩
  · simp [Value.cells] at hcs
    obtain ⟨rfl, rfl, rfl⟩ := hcs
    exact ⟨none, 0, [], rfl, ⟨none, 0, rfl, Nat.le_refl _, Or.inl rfl, fun _ => rfl⟩, by omega⟩
  · simp [Value.cells] at hcs
    obtain ⟨rfl, rfl, rfl⟩ := hcs
    simp only [if_true] at hz
    unfold maxLen at hm
    have hlen : ((zs.take len).map fun n => UInt8.ofNat n.toNat).length = len := by rw [List.length_map, List.length_take]; omega
    refine ⟨some a', cap, (zs.take len).map fun n => UInt8.ofNat n.toNat, by rw [hlen], ⟨_, _, rfl, by omega, ?_, fun h => by cases h⟩, by omega⟩
    by_cases h0 : len = 0
    · left; rw [h0]; rfl
    · right
      obtain ⟨b, off, rfl, hc⟩ := ints_at hcell (by omega)
      refine ⟨b, off, rfl, World.block_lt_of_cell? W _ (hc 0 (by omega)), fun j hj => ?_⟩
      rw [hlen] at hj
      rw [hc j (by omega)]
      have hb := range_u8 hwz j
      have e : zs.getD j 0 = zs[j]'(by omega) := by simp [List.getD, List.getElem?_eq_getElem (show j < zs.length by omega)]
      rw [e]
      rw [List.getD_eq_getElem?_getD] at e
      rw [e] at hb
      unfold bv
      simp only [List.getElem_map, List.getElem_take, UInt8.toNat_ofNat']
      congr 2
      omega
end Go.Proofs.Ytompbpiaapenaaa.Opn

/- An item copied, trimmed. Conditions: each theorem's own. -/
namespace Go.Proofs.Ytompbpiaapenaaa.Po
open Go.RowKit Hp QuM QuN Rw Qu
attribute [local go_sem ↓] Go.wp_at_zero Go.wp_at_succ
/-- Bytes that are copied. -/
def CloneP (w : World) (l : List UInt8) (e : Ending) (w' : World) : Prop := ∃ s c, e = .returned (.slice s l.length c) ∧ Byt.Row w' w.heap.size (.slice s l.length c) l ∧ Kept (fun _ => False) w w'
theorem clone_any {w : World} {v : Value} {l : List UInt8} (h : Byt.Src w v l) (hsm : l.length ≤ 900000000) : Calls Try.prog 99 #[v] w (CloneP w l) := by
  have hS := Lib.hid (h.kept ((Kept.refl _ w).alloc (.cells #[] 5)))
  have hR := Lib.hid (Byt.row_new w)
  obtain ⟨s, c, rfl, hc, hs, hn⟩ := h
  cases s with
  | none =>
    obtain rfl := hn rfl
    obtain rfl : l = [] := List.length_eq_zero_iff.1 (by omega)
    have hnil := fun (w : World) => Lib.run_eql_slice_nil (P := Try.prog) w 33 5 none 0 0 0 0 Try.underlying33
    clear hs hn hS hR
    go_enter Try.func99, Try.ntmps99
    go_wp2_with fail
    go_ret
    exact ⟨_, _, rfl, Byt.row_nil _ _, Kept.refl _ w⟩
  | some a =>
    have hnil := fun (w : World) => Lib.run_eql_slice_nil (P := Try.prog) w 33 5 (some a) l.length c 0 0 Try.underlying33
    clear hs hn
    go_enter Try.func99, Try.ntmps99
    go_wp2_with (at_builtin; refine Byt.wpList_app rfl _ _ rfl w.heap.size (v := .slice (some ⟨w.heap.size, 0, none⟩) 0 0) rfl hR.out rfl hS.out (by simp; omega) (by simp) ?_; intro v' w' hA)
    have hrow : Byt.Row w' w.heap.size v' l := by simpa using hA.row
    obtain ⟨s', c', e, _⟩ := hrow.slice
    subst e
    go_ret
    exact ⟨_, _, rfl, hrow, ((Kept.refl (fun _ => False) w).alloc (.cells #[] 5)).trans' hA.kept (fun i hi e => by cases e; exact absurd hi (Nat.lt_irrefl _))⟩
/-- Its data may be read. -/
def Rd (w : World) (x : Bx) : Prop := Byt.Src w (.slice x.s x.f.data.length x.c) x.f.data ∧ x.f.data.length ≤ 1000000
theorem Rd.old {w w' : World} {x : Bx} (h : Rd w x) (k : Kept (fun _ => False) w w') : Rd w' x := ⟨h.1.kept k, h.2⟩
/-- The world with an item set. -/
abbrev set11 (w : World) (g : Nat) (x : Bx) : World := ((((((((((w.setCell ⟨g, 0, none⟩ (.int .i64 x.f.kind)).setCell ⟨g, 1, none⟩ (.int .i64 x.f.src)).setCell ⟨g, 2, none⟩ (.int .i64 x.f.dst)).setCell ⟨g, 3, none⟩ (.int .i64 x.f.prio)).setCell ⟨g, 4, none⟩ (.int .u64 (x.f.msg : Int))).setCell ⟨g, 5, none⟩ (.int .i64 x.f.off)).setCell ⟨g, 6, none⟩ (.int .i64 x.f.len)).setCell ⟨g, 7, none⟩ (.int .i64 x.f.total)).setCell ⟨g, 8, none⟩ (.int .i64 x.f.num)).setCell ⟨g, 9, none⟩ (.slice x.s x.f.data.length x.c)).setCell ⟨g, 10, none⟩ (.int .i64 x.q)
theorem set11_eq (w : World) (g : Nat) (x : Bx) : set11 w g x = setW w g 0 (bT.enc x) := by
  show _ = setW w g 0 [.int .i64 x.f.kind, .int .i64 x.f.src, .int .i64 x.f.dst, .int .i64 x.f.prio, .int .u64 (x.f.msg : Int), .int .i64 x.f.off, .int .i64 x.f.len, .int .i64 x.f.total, .int .i64 x.f.num, .slice x.s x.f.data.length x.c, .int .i64 x.q]
  simp only [setW, Nat.zero_add, Nat.reduceAdd]
theorem set11_blk {w : World} {g : Nat} {T : TypeId} {c : List Value} (h : Blk w g c T) (hc : c.length = 11) (x : Bx) : Blk (set11 w g x) g (bT.enc x) T := by
  rw [set11_eq]; exact set_all h _ hc
theorem set11_kept (w : World) (g : Nat) (x : Bx) : Kept (fun i => i = g) w (set11 w g x) := by
  rw [set11_eq]; exact setW_kept _ w 0
set_option maxRecDepth 100000 in
set_option maxHeartbeats 8000000 in
theorem copied_any {w : World} {x : Bx} (h : Rd w x) : Calls Try.prog 77 #[bv x] w fun e w' =>
    ∃ s c, e = .returned (bv ⟨x.f, s, c, x.q⟩) ∧ Byt.Row w' w.heap.size (.slice s x.f.data.length c) x.f.data ∧ Kept (fun _ => False) w w' := by
  have CL := Lib.hid fun (w' : World) (k : Kept (fun _ => False) w w') => clone_any (h.1.kept k) (Nat.le_trans h.2 (by decide))
  obtain ⟨⟨x1, x2, x3, x4, x5, x6, x7, x8, x9, xd⟩, xa, xc, xq⟩ := x
  clear h
  dsimp only at CL ⊢
  go_enter Try.func77, Try.ntmps77
  go_upto_region 1 with fail
  have hB := Blk.new w [.int .i64 x1, .int .i64 x2, .int .i64 x3, .int .i64 x4, .int .u64 (x5 : Int), .int .i64 x6, .int .i64 x7, .int .i64 x8, .int .i64 x9, .slice xa xd.length xc, .int .i64 xq] 40
  have hk1 := (Kept.refl (fun _ => False) w).alloc (.cells [.int .i64 x1, .int .i64 x2, .int .i64 x3, .int .i64 x4, .int .u64 (x5 : Int), .int .i64 x6, .int .i64 x7, .int .i64 x8, .int .i64 x9, .slice xa xd.length xc, .int .i64 xq].toArray 40)
  have hs1 : (w.alloc (.cells #[.int .i64 x1, .int .i64 x2, .int .i64 x3, .int .i64 x4, .int .u64 (x5 : Int), .int .i64 x6, .int .i64 x7, .int .i64 x8, .int .i64 x9, .slice xa xd.length xc, .int .i64 xq] 40)).heap.size = w.heap.size + 1 := by simp
  dsimp only [List.toArray] at hB hk1
  generalize w.alloc (.cells #[.int .i64 x1, .int .i64 x2, .int .i64 x3, .int .i64 x4, .int .u64 (x5 : Int), .int .i64 x6, .int .i64 x7, .int .i64 x8, .int .i64 x9, .slice xa xd.length xc, .int .i64 xq] 40) = w1 at *
  have hO := Blk.new w1 [.int .i64 0, .int .i64 0, .int .i64 0, .int .i64 0, .int .u64 0, .int .i64 0, .int .i64 0, .int .i64 0, .int .i64 0, .slice none 0 0, .int .i64 0] 40
  have hk2 := (Kept.refl (fun _ => False) w1).alloc (.cells [.int .i64 0, .int .i64 0, .int .i64 0, .int .i64 0, .int .u64 0, .int .i64 0, .int .i64 0, .int .i64 0, .int .i64 0, .slice none 0 0, .int .i64 0].toArray 40)
  have hB2 := hk2.blk hB (fun f => f)
  dsimp only [List.toArray] at hO hk2 hB2
  rw [hs1] at hO
  generalize w1.alloc (.cells #[.int .i64 0, .int .i64 0, .int .i64 0, .int .i64 0, .int .u64 0, .int .i64 0, .int .i64 0, .int .i64 0, .int .i64 0, .slice none 0 0, .int .i64 0] 40) = w2 at *
  have HK2 := Lib.hid (hk1.trans hk2)
  have hlt2 := hO.lt
  have HB2 := Lib.hid hB2
  have HO2 := Lib.hid hO
  obtain ⟨rb, hrb⟩ : ∃ rb, w.heap.size = rb := ⟨_, rfl⟩
  rw [hrb] at HB2 HO2 hlt2
  simp only [hrb]
  have HRB := Lib.hid hrb
  clear hrb hs1 hk1 hk2 hB hB2 hO
  have c9 := HB2.out.cell (o := 9) rfl
  go_wp2_with fail
  with_reducible refine Calls.mono (CL.out _ HK2.out) ?_
  rintro e w3 ⟨s, c, rfl, hR3, hk3⟩
  have hB3 := hk3.blk HB2.out (fun f => f)
  have hO3 := hk3.blk HO2.out (fun f => f)
  have HR3 := Lib.hid hR3
  have HK3 := Lib.hid (HK2.out.trans hk3)
  have HB3 := Lib.hid hB3
  have HO3 := Lib.hid hO3
  clear c9 hR3 hk3 hB3 hO3 HB2 HO2 HK2 CL
  have c9 := HB3.out.cell (o := 9) rfl
  have f9 := HB3.out.frozen 9
  go_upto_region 2 with fail
  have hB4 := HB3.out.set 9 (.slice s xd.length c)
  dsimp only [List.set] at hB4
  have k4 := Kept.one w3 rb 9 (.slice s xd.length c)
  have hO4 := k4.blk HO3.out (by omega)
  generalize w3.setCell ⟨rb, 9, none⟩ (.slice s xd.length c) = w4 at *
  have HR4 : Hid (Byt.Row w4 w2.heap.size (.slice s xd.length c) xd) := Lib.hid (HR3.out.kept k4 (fun g hg e => by have := (HR3.out.lt g hg).1; omega))
  have HK4 : Hid (Kept (fun _ => False) w w4) := Lib.hid (HK3.out.trans' k4 (fun i hi e => by have := HRB.out; omega))
  clear c9 f9 HR3 HK3 HB3 HO3 k4
  have e0 := hB4.cell (o := 0) rfl
  have e1 := hB4.cell (o := 1) rfl
  have e2 := hB4.cell (o := 2) rfl
  have e3 := hB4.cell (o := 3) rfl
  have e4 := hB4.cell (o := 4) rfl
  have e5 := hB4.cell (o := 5) rfl
  have e6 := hB4.cell (o := 6) rfl
  have e7 := hB4.cell (o := 7) rfl
  have e8 := hB4.cell (o := 8) rfl
  have e9 := hB4.cell (o := 9) rfl
  have e10 := hB4.cell (o := 10) rfl
  have n0 := hO4.cell (o := 0) rfl
  have n1 := hO4.cell (o := 1) rfl
  have n2 := hO4.cell (o := 2) rfl
  have n3 := hO4.cell (o := 3) rfl
  have n4 := hO4.cell (o := 4) rfl
  have n5 := hO4.cell (o := 5) rfl
  have n6 := hO4.cell (o := 6) rfl
  have n7 := hO4.cell (o := 7) rfl
  have n8 := hO4.cell (o := 8) rfl
  have n9 := hO4.cell (o := 9) rfl
  have n10 := hO4.cell (o := 10) rfl
  have fz0 := hO4.frozen 0
  have fz1 := hO4.frozen 1
  have fz2 := hO4.frozen 2
  have fz3 := hO4.frozen 3
  have fz4 := hO4.frozen 4
  have fz5 := hO4.frozen 5
  have fz6 := hO4.frozen 6
  have fz7 := hO4.frozen 7
  have fz8 := hO4.frozen 8
  have fz9 := hO4.frozen 9
  have fz10 := hO4.frozen 10
  have hO5 := set11_blk hO4 rfl ⟨⟨x1, x2, x3, x4, x5, x6, x7, x8, x9, xd⟩, s, c, xq⟩
  have k5 := set11_kept w4 (rb + 1) ⟨⟨x1, x2, x3, x4, x5, x6, x7, x8, x9, xd⟩, s, c, xq⟩
  have HR5 : Hid (Byt.Row (set11 w4 (rb + 1) ⟨⟨x1, x2, x3, x4, x5, x6, x7, x8, x9, xd⟩, s, c, xq⟩) w.heap.size (.slice s xd.length c) xd) := Lib.hid ((HR4.out.kept k5 (fun g hg e => by have := (HR4.out.lt g hg).1; omega)).base (fun g hg => by have := (HR4.out.lt g hg).1; have := HRB.out; omega))
  have HK5 : Hid (Kept (fun _ => False) w (set11 w4 (rb + 1) ⟨⟨x1, x2, x3, x4, x5, x6, x7, x8, x9, xd⟩, s, c, xq⟩)) := Lib.hid (HK4.out.trans' k5 (fun i hi e => by have := HRB.out; omega))
  unfold set11 at HR5 HK5 hO5
  dsimp only at HR5 HK5 hO5
  have z0 := hO5.cell (o := 0) rfl
  have z1 := hO5.cell (o := 1) rfl
  have z2 := hO5.cell (o := 2) rfl
  have z3 := hO5.cell (o := 3) rfl
  have z4 := hO5.cell (o := 4) rfl
  have z5 := hO5.cell (o := 5) rfl
  have z6 := hO5.cell (o := 6) rfl
  have z7 := hO5.cell (o := 7) rfl
  have z8 := hO5.cell (o := 8) rfl
  have z9 := hO5.cell (o := 9) rfl
  have z10 := hO5.cell (o := 10) rfl
  clear hB4 hO4 hO5 k5 HR4 HK4
  go_wp2_with fail
  exact bodyPost_ret (v := bv ⟨⟨x1, x2, x3, x4, x5, x6, x7, x8, x9, xd⟩, s, c, xq⟩) (by simp [results, Try.results77, go_sem, z0, z1, z2, z3, z4, z5, z6, z7, z8, z9, z10]) rfl ⟨s, c, rfl, HR5.out, HK5.out⟩
end Go.Proofs.Ytompbpiaapenaaa.Po

/- Plain mathematics of numbers that are held within 0 to 2^50: no program here. -/
namespace Go.Proofs.Ytompbpiaapenaaa.NumM
def clampI (v low high : Int) : Int := if v < low then low else if high < v then high else v
theorem clampI_lo {v low high : Int} (h : v < low) : clampI v low high = low := by unfold clampI; rw [if_pos h]
theorem clampI_hi {v low high : Int} (h : low ≤ v) (h2 : high < v) : clampI v low high = high := by unfold clampI; rw [if_neg (by omega), if_pos h2]
theorem clampI_in {v low high : Int} (h : low ≤ v) (h2 : v ≤ high) : clampI v low high = v := by unfold clampI; rw [if_neg (by omega), if_neg (by omega)]
theorem clampI_bd (v : Int) {low high : Int} (h : low ≤ high) : low ≤ clampI v low high ∧ clampI v low high ≤ high := by unfold clampI; split <;> (try split) <;> omega
def hold (v : Int) : Int := clampI v 0 1125899906842624
theorem hold_lo (v : Int) : 0 ≤ hold v := by unfold hold clampI; split <;> (try split) <;> omega
theorem hold_hi (v : Int) : hold v ≤ 1125899906842624 := by unfold hold clampI; split <;> (try split) <;> omega
def addI (a b : Int) : Int := hold (hold a + hold b)
def subI (a b : Int) : Int := hold (hold a - hold b)
def mulI (a b : Int) : Int := hold (hold a * hold b)
theorem mul_bd {p q P Q: Int} (h0 : 0 ≤ p) (h1 : p ≤ P) (h2 : 0 ≤ q) (h3 : q ≤ Q) : 0 ≤ p*q ∧ p * q ≤ P*Q :=
  ⟨Int.mul_nonneg h0 h2, Int.mul_le_mul h1 h3 h2 (by omega)⟩
theorem prod_split (a b : Int) : a * b = 1125899906842624 * ((a/33554432) * (b/33554432)) + 33554432 * ((a/33554432) * (b%33554432) + (a%33554432)*(b/33554432)) + (a%33554432)*(b%33554432) := by
  have ha := Int.mul_ediv_add_emod a 33554432
  have hb := Int.mul_ediv_add_emod b 33554432
  generalize a/33554432 = p at *
  generalize a%33554432 = q at *
  generalize b/33554432 = r at *
  generalize b%33554432 = s at *
  subst ha hb
  grind
def prodU (a b : Int) : Int := a * b / 1125899906842624
def prodL (a b : Int) : Int := a * b % 1125899906842624
def fixI (a b : Int) : Int := hold (hold a * hold b / 65536)
theorem hold_top {v : Int} (h : 1125899906842624 ≤ v) : hold v = 1125899906842624 := by unfold hold clampI; split <;> (try split) <;> omega
theorem hold_zero {v : Int} (h : v ≤ 0) : hold v = 0 := by unfold hold clampI; split <;> (try split) <;> omega
theorem hold_in {v : Int} (h : 0 ≤ v) (h2 : v ≤ 1125899906842624) : hold v = v := clampI_in h h2
end Go.Proofs.Ytompbpiaapenaaa.NumM

