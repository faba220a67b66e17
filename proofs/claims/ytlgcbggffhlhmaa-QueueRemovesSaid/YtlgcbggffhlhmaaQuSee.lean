/- A queue in memory: Peek, Line, Remove. Conditions: each theorem's own. -/
import Derived.Test.YtlgcbggffhlhmaaQuTk
set_option linter.unusedVariables false
namespace Go.Proofs.Ytlgcbggffhlhmaa.Qu
open Go.RowKit Hp QuM QuN Rw
attribute [local go_sem ↓] Go.wp_at_zero Go.wp_at_succ
set_option maxHeartbeats 4000000 in
theorem peek_some {w0 w : World} {b : Nat} {room : Int} {ls : Nat → List Bx} {F : Nat → Prop} (h : St w0 b room ls F w) {p : Nat} (ht : top ls 8 = some p) {x : Bx} {L' : List Bx} (hx : ls p = x :: L') :
    Calls Try.prog 37 #[.pointer (some ⟨b, 0, none⟩)] w fun e w' => e = .returned (.tuple #[bv x, .int .i64 (p : Nat), .bool true]) ∧ Kept (fun _ => False) w w' := by
  obtain ⟨x1, x2⟩ := x
  have hp := (top_some ht).1
  have HG := Lib.hid fun (w' : World) (hk : Kept (fun _ => False) w w') => highest_some (h.old hk) ht
  obtain ⟨h0, hr0, c, vs, fs, h1, h2, h3, h4⟩ := h
  have hrg := h1.ring p hp
  have hcv := h1.cv p hp
  have hcf := h1.cf p hp
  rw [hx] at hrg
  obtain ⟨g, P, f, hf, hv, hblk, hpow, hring⟩ : ∃ g P f, f = fs p ∧ vs p = .slice (some ⟨g, 0, none⟩) P.length P.length ∧ Blk w g (flat iT P) iT.E ∧ Pow P.length ∧ Ring P f ((((x1, x2) :: L')).map it) := by
    generalize vs p = v at *
    generalize fs p = f at *
    generalize hM : ((x1, x2) :: L').map it = M at *
    cases hrg with
    | nil => simp at hM
    | lies g P f L blk pow four ring => exact ⟨g, P, f, rfl, rfl, blk, pow, ring⟩
  have hat := hring.at' 0 (it (x1, x2)) rfl
  have PL := Lib.hid fun (w' : World) (hk : Kept (fun _ => False) w w') =>
    place_any (w := w') (b := b) (o := 2 + p * 3) (g := g) (f := f) (n := P.length) (k := 0) (K := 0) ((hk.blk h1.blk (fun f => f)).cell (by rw [hcv, hv])) ((hk.blk h1.blk (fun f => f)).cell (by rw [hcf, hf])) hpow hring.f0 (by have := hpow.pos; omega) rfl
  have HBK := Lib.hid hblk
  have HAT := Lib.hid hat
  have hp' : (p : Int) < 8 := by omega
  have hB1 := Blk.new w [.int .i64 0, .int .i64 0] bT.E
  have hk1 : Kept (fun _ => False) w (w.alloc (.cells [.int .i64 0, .int .i64 0].toArray bT.E)) := (Kept.refl _ w).alloc _
  have HB1 := Lib.hid hB1
  have HK1 := Lib.hid hk1
  dsimp only [List.toArray] at HB1 HK1
  clear hB1 hk1 hx ht h0 hr0 h1 h2 h3 h4 hrg hcv hcf hf hv hblk hpow hring hat
  generalize (f + 0) % P.length = i at *
  go_enter Try.func37, Try.ntmps37
  go_upto_region 1 with fail
  generalize w.alloc (.cells #[.int .i64 0, .int .i64 0] 67) = w1 at *
  obtain ⟨rb, hrb⟩ : ∃ rb, w.heap.size = rb := ⟨_, rfl⟩
  rw [hrb] at HB1
  simp only [hrb]
  have HRB := Lib.hid hrb
  clear hrb
  go_wp2_with fail
  with_reducible refine Calls.mono (HG.out _ HK1.out) ?_
  rintro e w2 ⟨rfl, rfl⟩
  go_wp2_with fail
  with_reducible refine Calls.mono (PL.out _ HK1.out) ?_
  rintro e w2 ⟨rfl, hk2⟩
  have hr2 := hk2.blk HB1.out (fun f => f)
  obtain ⟨d0, d1, d2⟩ := it_cells ((HK1.out.trans hk2).blk HBK.out (fun f => f)) HAT.out
  have d0' : w2.cell? ⟨g, i * 3, none⟩ = some (.int .i64 x1) := d0
  have d1' : w2.cell? ⟨g, i * 3 + 1, none⟩ = some (.int .i64 x2) := d1
  clear d0 d1 d2
  have e0 := hr2.cell (o := 0) rfl
  have e1 := hr2.cell (o := 1) rfl
  have f0 := hr2.frozen 0
  have f1 := hr2.frozen 1
  have hr3 := (hr2.set 0 (.int .i64 x1)).set 1 (.int .i64 x2)
  have z0 := hr3.cell (o := 0) rfl
  have z1 := hr3.cell (o := 1) rfl
  have R : Hid (Kept (fun _ => False) w ((w2.setCell ⟨rb, 0, none⟩ (.int .i64 x1)).setCell ⟨rb, 1, none⟩ (.int .i64 x2))) :=
    Lib.hid (((HK1.out.trans hk2).set (b := rb) (fun h => by have := HRB.out; omega) _ _).set (b := rb) (fun h => by have := HRB.out; omega) _ _)
  clear hk2 hr2 hr3 HG PL HB1
  go_wp2_with fail
  exact bodyPost_ret (v := .tuple #[bv (x1, x2), .int .i64 (p : Nat), .bool true]) (by simp [results, Try.results37, go_sem, z0, z1]) rfl ⟨rfl, R.out⟩
/-- No such line, or nothing. -/
theorem line_no {q : Option Addr} {p : Int} (h : q = none ∨ ¬ (0 ≤ p ∧ p < 8)) (w : World) :
    Calls Try.prog 39 #[.pointer q, .int .i64 p] w fun e w' => e = .returned (.slice none 0 0) ∧ w = w' := by
  by_cases hq : q = none
  · subst hq
    go_enter Try.func39, Try.ntmps39
    go_wp2_with fail
    go_ret
    exact ⟨rfl, rfl⟩
  · obtain ⟨a, rfl⟩ := Option.ne_none_iff_exists'.1 hq
    have IP := Lib.hid fun w => isPrio_any p w
    rw [decide_eq_false (h.resolve_left hq)] at IP
    clear h hq
    go_enter Try.func39, Try.ntmps39
    go_wp2_with fail
    with_reducible refine Calls.mono (IP.out _) ?_
    rintro e w2 ⟨rfl, rfl⟩
    go_wp2_with fail
    go_ret
    exact ⟨rfl, rfl⟩
theorem line_yes {w0 w : World} {b : Nat} {room : Int} {ls : Nat → List Bx} {F : Nat → Prop} (h : St w0 b room ls F w) {p : Nat} {K : Int} (hK : K = (p : Nat)) (hp : p < 8) (hl : (ls p).length ≤ 100000) :
    Calls Try.prog 39 #[.pointer (some ⟨b, 0, none⟩), .int .i64 K] w fun e w' => ∃ v', e = .returned v' ∧ Row bT w' w.heap.size v' (ls p) ∧ Kept (fun _ => False) w w' := by
  subst hK
  have IP := Lib.hid fun w => isPrio_any (p : Int) w
  rw [decide_eq_true (show 0 ≤ (p : Int) ∧ (p : Int) < 8 by omega)] at IP
  obtain ⟨h0, hr0, c, vs, fs, h1, h2, h3, h4⟩ := h
  have LS := list_any h1.blk (h1.cv p hp) (h1.cf p hp) (by rw [List.length_map]; exact h1.cn p hp) (h1.ring p hp) (by rw [List.length_map]; omega)
  rw [map_bx] at LS
  have LS := Lib.hid LS
  have hp' : (p : Int) < 8 := by omega
  clear h0 hr0 h1 h2 h3 h4
  go_enter Try.func39, Try.ntmps39
  go_wp2_with fail
  with_reducible refine Calls.mono (IP.out _) ?_
  rintro e w2 ⟨rfl, rfl⟩
  go_wp2_with fail
  with_reducible refine Calls.mono LS.out ?_
  rintro e w2 ⟨v', rfl, hr, hk⟩
  have HR := Lib.hid hr
  clear hr
  go_wp2_with fail
  go_ret
  exact ⟨_, rfl, HR.out, hk⟩
end Go.Proofs.Ytlgcbggffhlhmaa.Qu
