/- A queue in memory: Peek, Line, Remove. Conditions: each theorem's own. -/
import Derived.Test.YtiffnlcpemfmoaaPqTk
set_option linter.unusedVariables false
namespace Go.Proofs.Ytiffnlcpemfmoaa.Qu
open Go.RowKit Hp QuM QuN Rw
attribute [local go_sem ↓] Go.wp_at_zero Go.wp_at_succ
/-- No such line, or nothing. -/
theorem line_no {q : Option Addr} {p : Int} (h : q = none ∨ ¬ (0 ≤ p ∧ p < 8)) (w : World) :
    Calls Try.prog 22 #[.pointer q, .int .i64 p] w fun e w' => e = .returned (.slice none 0 0) ∧ w = w' := by
  by_cases hq : q = none
  · subst hq
    go_enter Try.func22, Try.ntmps22
    go_wp2_with fail
    go_ret
    exact ⟨rfl, rfl⟩
  · obtain ⟨a, rfl⟩ := Option.ne_none_iff_exists'.1 hq
    have IP := Lib.hid fun w => isPrio_any p w
    rw [decide_eq_false (h.resolve_left hq)] at IP
    clear h hq
    go_enter Try.func22, Try.ntmps22
    go_wp2_with fail
    with_reducible refine Calls.mono (IP.out _) ?_
    rintro e w2 ⟨rfl, rfl⟩
    go_wp2_with fail
    go_ret
    exact ⟨rfl, rfl⟩
theorem line_yes {w0 w : World} {b : Nat} {room : Int} {ls : Nat → List Bx} {F : Nat → Prop} (h : St w0 b room ls F w) {p : Nat} {K : Int} (hK : K = (p : Nat)) (hp : p < 8) (hl : (ls p).length ≤ 100000) :
    Calls Try.prog 22 #[.pointer (some ⟨b, 0, none⟩), .int .i64 K] w fun e w' => ∃ v', e = .returned v' ∧ Row bT w' w.heap.size v' (ls p) ∧ Kept (fun _ => False) w w' := by
  subst hK
  have IP := Lib.hid fun w => isPrio_any (p : Int) w
  rw [decide_eq_true (show 0 ≤ (p : Int) ∧ (p : Int) < 8 by omega)] at IP
  obtain ⟨h0, hr0, c, vs, fs, h1, h2, h3, h4⟩ := h
  have LS := list_any h1.blk (h1.cv p hp) (h1.cf p hp) (by rw [List.length_map]; exact h1.cn p hp) (h1.ring p hp) (by rw [List.length_map]; omega)
  rw [map_bx] at LS
  have LS := Lib.hid LS
  have hp' : (p : Int) < 8 := by omega
  clear h0 hr0 h1 h2 h3 h4
  go_enter Try.func22, Try.ntmps22
  go_wp2_with fail
  with_reducible refine Calls.mono (IP.out _) ?_
  rintro e w2 ⟨rfl, rfl⟩
  go_wp2_with fail
  with_reducible refine Calls.mono LS.out ?_
  rintro e w2 ⟨v', rfl, hr, hk⟩
  have HR := Lib.hid hr
  clear hr
  go_wp2_with fail
  go_ret
  exact ⟨_, rfl, HR.out, hk⟩
end Go.Proofs.Ytiffnlcpemfmoaa.Qu
