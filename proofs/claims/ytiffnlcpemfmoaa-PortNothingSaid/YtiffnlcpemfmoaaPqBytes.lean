/- What one counts as; which lines there are. Conditions: each theorem's own. -/
import Derived.Test.YtiffnlcpemfmoaaHeap
import Derived.Test.YtiffnlcpemfmoaaPqSum
import Derived.Test.YtiffnlcpemfmoaaPqSz
import Derived.WalkKit
import Derived.Defers
import Derived.Recover
import Derived.Handy
import Derived.Deep.DrawnRows
set_option linter.unusedVariables false
namespace Go.Proofs.Ytiffnlcpemfmoaa.Qu
open Go.RowKit Hp QuM
attribute [local go_sem ↓] Go.wp_at_zero Go.wp_at_succ
/-- A frame's own bytes may be told. -/
def Sane (x : Bx) : Prop := 0 ≤ Wr.dl x.f ∧ Wr.dl x.f ≤ 1000000
theorem nb_eq (x : Bx) : nb x = 26 + Wr.dl x.f := rfl
abbrev bv (x : Bx) : Value := .agg #[.int .i64 x.f.kind, .int .i64 x.f.src, .int .i64 x.f.dst, .int .i64 x.f.prio, .int .u64 (x.f.msg : Int), .int .i64 x.f.off, .int .i64 x.f.len, .int .i64 x.f.total, .int .i64 x.f.num, .slice x.s x.f.data.length x.c, .int .i64 x.q]
theorem bytes_any {x : Bx} (hx : Sane x) (w : World) : Calls Try.prog 26 #[bv x] w fun e w' => e = .returned (.int .i64 (nb x)) ∧ Kept (fun _ => False) w w' := by
  have SZ := Lib.hid fun w => Wr.size_any hx.1 hx.2 x.s x.c w
  rw [nb_eq]
  generalize 26 + Wr.dl x.f = n at *
  unfold Wr.fv Wr.fcs at SZ
  obtain ⟨⟨x1, x2, x3, x4, x5, x6, x7, x8, x9, xd⟩, xa, xc, xq⟩ := x
  clear hx
  go_enter Try.func26, Try.ntmps26
  go_upto_region 1 with fail
  have hB := Blk.new w [.int .i64 x1, .int .i64 x2, .int .i64 x3, .int .i64 x4, .int .u64 (x5 : Int), .int .i64 x6, .int .i64 x7, .int .i64 x8, .int .i64 x9, .slice xa xd.length xc, .int .i64 xq] 28
  have hk := (Kept.refl (fun _ => False) w).alloc (.cells [.int .i64 x1, .int .i64 x2, .int .i64 x3, .int .i64 x4, .int .u64 (x5 : Int), .int .i64 x6, .int .i64 x7, .int .i64 x8, .int .i64 x9, .slice xa xd.length xc, .int .i64 xq].toArray 28)
  dsimp only [List.toArray] at hB hk
  generalize w.alloc (.cells #[.int .i64 x1, .int .i64 x2, .int .i64 x3, .int .i64 x4, .int .u64 (x5 : Int), .int .i64 x6, .int .i64 x7, .int .i64 x8, .int .i64 x9, .slice xa xd.length xc, .int .i64 xq] 28) = w1 at *
  generalize w.heap.size = rb at *
  have e0 := hB.cell (o := 0) rfl
  have e1 := hB.cell (o := 1) rfl
  have e2 := hB.cell (o := 2) rfl
  have e3 := hB.cell (o := 3) rfl
  have e4 := hB.cell (o := 4) rfl
  have e5 := hB.cell (o := 5) rfl
  have e6 := hB.cell (o := 6) rfl
  have e7 := hB.cell (o := 7) rfl
  have e8 := hB.cell (o := 8) rfl
  have e9 := hB.cell (o := 9) rfl
  have e10 := hB.cell (o := 10) rfl
  clear hB
  go_wp2_with fail
  with_reducible refine Calls.mono (SZ.out _) ?_
  rintro e w2 ⟨rfl, k2⟩
  have HK := Lib.hid (hk.trans k2)
  clear hk k2 SZ
  go_wp2_with fail
  go_ret
  exact ⟨rfl, HK.out⟩
theorem idle_b (w : World) :
    CallsD Try.prog 49 #[] .returning w fun e u' w' => e = .returned (.tuple #[]) ∧ u' = .returning ∧ w' = w := by
  refine callsD_of_wpS Try.func49 rfl fun c₀ cs hu => ?_
  apply wpS_region
  simp [wpOpsS, go_sem, recoverD, hu, Try.ntmps49]
  cases c₀
  simp_all [bodyPostS, results, Try.results49]
theorem bytesOf_any {x : Bx} (hx : Sane x) (w : World) : Calls Try.prog 42 #[bv x] w fun e w' => e = .returned (.tuple #[.int .i64 (szI (nb x)), .bool true]) ∧ Kept (fun _ => False) w w' := by
  have BY := Lib.hid fun w => bytes_any hx w
  obtain ⟨m, s, h1, h2, h3⟩ := szI_if (nb x)
  rw [h3]
  clear h3 hx
  generalize nb x = n at *
  obtain ⟨⟨x1, x2, x3, x4, x5, x6, x7, x8, x9, xd⟩, xa, xc, xq⟩ := x
  try dsimp only at *
  go_enter_defers Try.func42, Try.ntmps42
  go_wp2_with fail
  with_reducible refine Calls.mono (BY.out _) ?_
  rintro e w2 ⟨rfl, hk2⟩
  have HK2 := Lib.hid (((Kept.refl (fun _ => False) w).alloc _).trans hk2)
  clear hk2 BY
  go_wp2_with fail
  refine leaves_cons (f := 49) (args := #[]) (by simp) (by simp [go_sem]) ?_
  refine (idle_b _).mono ?_
  rintro e u' w'' ⟨rfl, rfl, rfl⟩
  exact ⟨.tuple #[.int .i64 s, .bool true], by simp [results, Try.results42, go_sem], rfl, HK2.out⟩
/-- Such a line there is. -/
theorem isPrio_any (p : Int) (w : World) : Calls Try.prog 35 #[.int .i64 p] w fun e w' => e = .returned (.bool (decide (0 ≤ p ∧ p < 8))) ∧ w = w' := by
  by_cases h : 0 ≤ p
  · by_cases h2 : p < 8
    · have hd : decide (0 ≤ p ∧ p < 8) = true := decide_eq_true ⟨h, h2⟩
      rw [hd]
      clear hd
      go_enter Try.func35, Try.ntmps35
      go_wp2_with fail
      go_ret
      exact ⟨rfl, rfl⟩
    · have hd : decide (0 ≤ p ∧ p < 8) = false := decide_eq_false (fun e => h2 e.2)
      rw [hd]
      clear hd
      go_enter Try.func35, Try.ntmps35
      go_wp2_with fail
      go_ret
      exact ⟨rfl, rfl⟩
  · have hd : decide (0 ≤ p ∧ p < 8) = false := decide_eq_false (fun e => h e.1)
    rw [hd]
    clear hd
    go_enter Try.func35, Try.ntmps35
    go_wp2_with fail
    go_ret
    exact ⟨rfl, rfl⟩
end Go.Proofs.Ytiffnlcpemfmoaa.Qu
