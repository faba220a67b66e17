/- Two messages compared; the closures by which their places are sorted. Conditions: each theorem's own. -/
import Derived.Test.YtbohigfhbjconaaSrMay
import Derived.Test.YtbohigfhbjconaaSoStb
import Derived.Deep.RegionHeld3
set_option linter.unusedVariables false
set_option linter.unusedSimpArgs false
namespace Go.Proofs.Ytbohigfhbjconaa.Sr
open Go.RowKit Hp Go.Proofs.Ytbohigfhbjconaa.End Opn SrM So
theorem compare_int (a b : Int) (w : World) : Calls Try.prog 40 #[.int .i64 a, .int .i64 b] w fun e w' => e = .returned (.int .i64 (cmpI a b)) ∧ w = w' := by
  unfold cmpI
  have hc : (a < b) ∨ (decide (a < b) = false ∧ b < a) ∨ (decide (a < b) = false ∧ decide (b < a) = false) := by rw [decide_eq_false_iff_not, decide_eq_false_iff_not]; omega
  rcases hc with h1 | ⟨h1, h2⟩ | ⟨h1, h2⟩
  · rw [if_pos h1]
    go_enter Try.func40, Try.ntmps40
    go_wp2
    go_ret
    exact ⟨rfl, rfl⟩
  · rw [if_neg (by simpa using h1), if_pos h2]
    go_enter Try.func40, Try.ntmps40
    go_wp2
    go_ret
    exact ⟨rfl, rfl⟩
  · rw [if_neg (by simpa using h1), if_neg (by simpa using h2)]
    go_enter Try.func40, Try.ntmps40
    go_wp2
    go_ret
    exact ⟨rfl, rfl⟩
theorem compare_uint (a b : Int) (w : World) : Calls Try.prog 41 #[.int .u64 a, .int .u64 b] w fun e w' => e = .returned (.int .i64 (cmpI a b)) ∧ w = w' := by
  unfold cmpI
  have hc : (a < b) ∨ (decide (a < b) = false ∧ b < a) ∨ (decide (a < b) = false ∧ decide (b < a) = false) := by rw [decide_eq_false_iff_not, decide_eq_false_iff_not]; omega
  rcases hc with h1 | ⟨h1, h2⟩ | ⟨h1, h2⟩
  · rw [if_pos h1]
    go_enter Try.func41, Try.ntmps41
    go_wp2
    go_ret
    exact ⟨rfl, rfl⟩
  · rw [if_neg (by simpa using h1), if_pos h2]
    go_enter Try.func41, Try.ntmps41
    go_wp2
    go_ret
    exact ⟨rfl, rfl⟩
  · rw [if_neg (by simpa using h1), if_neg (by simpa using h2)]
    go_enter Try.func41, Try.ntmps41
    go_wp2
    go_ret
    exact ⟨rfl, rfl⟩
theorem newAt {w : World} {n : Nat} (a b c : Int) (h : n = w.heap.size) : (w.alloc (.cells #[.int .i64 a, .int .i64 b, .int .i64 c] 3)).drew.cell? ⟨n, 0, none⟩ = some (.int .i64 a) ∧ (w.alloc (.cells #[.int .i64 a, .int .i64 b, .int .i64 c] 3)).drew.cell? ⟨n, 1, none⟩ = some (.int .i64 b) ∧ (w.alloc (.cells #[.int .i64 a, .int .i64 b, .int .i64 c] 3)).drew.cell? ⟨n, 2, none⟩ = some (.int .i64 c) := by
  subst h
  have hB := (Blk.new w [.int .i64 a, .int .i64 b, .int .i64 c] 3).drew
  exact ⟨hB.cell rfl, hB.cell rfl, hB.cell rfl⟩
theorem or_any (a b c r : Int) (g : Nat) (w : World) (h0 : w.cell? ⟨g, 0, none⟩ = some (.int .i64 a)) (h1 : w.cell? ⟨g, 1, none⟩ = some (.int .i64 b)) (h2 : w.cell? ⟨g, 2, none⟩ = some (.int .i64 c)) (hr : r = or3 a b c) :
    Calls Try.prog 39 #[.slice (some ⟨g, 0, none⟩) 3 3] w fun e w' => e = .returned (.int .i64 r) ∧ w = w' := by
  have HR := Lib.hid hr
  clear hr
  have hca : (a != 0) = true ∨ (a = 0 ∧ ((b != 0) = true ∨ (b = 0 ∧ ((c != 0) = true ∨ c = 0)))) := by rw [bne_iff_ne, bne_iff_ne, bne_iff_ne]; omega
  rcases hca with h3 | ⟨rfl, h3 | ⟨rfl, h3 | rfl⟩⟩
  · have E := Lib.hid (show r = a by rw [HR.out]; unfold or3; simp_all)
    clear HR
    go_enter Try.func39, Try.ntmps39
    go_wp2_with fail
    refine wp_loop_rounds 1 ?_
    rw [rounds_succ]
    go_wp2_with fail
    go_ret
    exact ⟨congrArg (fun z => Ending.returned (Value.int .i64 z)) E.out.symm, rfl⟩
  · have E := Lib.hid (show r = b by rw [HR.out]; unfold or3; simp_all)
    clear HR
    go_enter Try.func39, Try.ntmps39
    go_wp2_with fail
    refine wp_loop_rounds 2 ?_
    rw [rounds_succ]
    go_wp2_with fail
    rw [rounds_succ]
    go_wp2_with fail
    go_ret
    exact ⟨congrArg (fun z => Ending.returned (Value.int .i64 z)) E.out.symm, rfl⟩
  · have E := Lib.hid (show r = c by rw [HR.out]; unfold or3; simp_all)
    clear HR
    go_enter Try.func39, Try.ntmps39
    go_wp2_with fail
    refine wp_loop_rounds 3 ?_
    rw [rounds_succ]
    go_wp2_with fail
    rw [rounds_succ]
    go_wp2_with fail
    rw [rounds_succ]
    go_wp2_with fail
    go_ret
    exact ⟨congrArg (fun z => Ending.returned (Value.int .i64 z)) E.out.symm, rfl⟩
  · have E := Lib.hid (show r = 0 by rw [HR.out]; unfold or3; simp_all)
    clear HR
    go_enter Try.func39, Try.ntmps39
    go_wp2_with fail
    refine wp_loop_rounds 4 ?_
    rw [rounds_succ]
    go_wp2_with fail
    rw [rounds_succ]
    go_wp2_with fail
    rw [rounds_succ]
    go_wp2_with fail
    rw [rounds_succ]
    go_wp2_with fail
    go_ret
    exact ⟨congrArg (fun z => Ending.returned (Value.int .i64 z)) E.out.symm, rfl⟩
set_option maxHeartbeats 4000000 in
theorem shorter_any (x y : M) (hx : may x = true) (hy : may y = true) (w : World) : Calls Try.prog 26 #[mv x, mv y] w fun e w' => e = .returned (.int .i64 (cmpM false x y)) ∧ Gr w w' := by
  have R1 := Lib.hid fun w => rem_any x hx w
  have R2 := Lib.hid fun w => rem_any y hy w
  have HD := Lib.hid (show cmpM false x y = or3 (cmpI (x.t - x.h) (y.t - y.h)) (cmpI x.p y.p) (cmpI x.i y.i) from rfl)
  clear hx hy
  generalize cmpM false x y = r at HD ⊢
  obtain ⟨xp, xi, xt, xh, xg, xb⟩ := x
  obtain ⟨yp, yi, yt, yh, yg, yb⟩ := y
  unfold mv ml at R1 R2
  unfold mv
  dsimp only at R1 R2 HD ⊢
  have C1 := Lib.hid fun w => compare_int (xt - xh) (yt - yh) w
  have C2 := Lib.hid fun w => compare_int xp yp w
  have C3 := Lib.hid fun w => compare_uint xi yi w
  generalize cmpI (xt - xh) (yt - yh) = c1 at C1 HD
  generalize cmpI xp yp = c2 at C2 HD
  generalize cmpI xi yi = c3 at C3 HD
  have OR := Lib.hid fun g w h0 h1 h2 => or_any c1 c2 c3 r g w h0 h1 h2 HD.out
  clear HD
  go_enter Try.func26, Try.ntmps26
  go_upto_region 1 with fail
  have hX := (Blk.new w [.int .i64 xp, .int .u64 xi, .int .i64 xt, .int .i64 xh, .int .i64 xg, .int .i64 xb] 39).old (.cells #[.int .i64 yp, .int .u64 yi, .int .i64 yt, .int .i64 yh, .int .i64 yg, .int .i64 yb] 39)
  have hY := Blk.new (w.alloc (.cells [.int .i64 xp, .int .u64 xi, .int .i64 xt, .int .i64 xh, .int .i64 xg, .int .i64 xb].toArray 39)) [.int .i64 yp, .int .u64 yi, .int .i64 yt, .int .i64 yh, .int .i64 yg, .int .i64 yb] 39
  have hG := Lib.hid (((Gr.refl w).alloc (.cells #[.int .i64 xp, .int .u64 xi, .int .i64 xt, .int .i64 xh, .int .i64 xg, .int .i64 xb] 39)).alloc (.cells #[.int .i64 yp, .int .u64 yi, .int .i64 yt, .int .i64 yh, .int .i64 yg, .int .i64 yb] 39))
  rw [World.size_alloc] at hY
  dsimp only [List.toArray] at hX hY
  have HX := Lib.hid hX
  have HY := Lib.hid hY
  clear hX hY
  generalize (w.alloc (.cells #[.int .i64 xp, .int .u64 xi, .int .i64 xt, .int .i64 xh, .int .i64 xg, .int .i64 xb] 39)).alloc (.cells #[.int .i64 yp, .int .u64 yi, .int .i64 yt, .int .i64 yh, .int .i64 yg, .int .i64 yb] 39) = w1 at *
  generalize w.heap.size = q at *
  have KS := Lib.hid fun (w' : World) (k : Kept (fun _ => False) w1 w') => (show w'.cell? ⟨q, 0, none⟩ = some (.int .i64 xp) ∧ w'.cell? ⟨q, 1, none⟩ = some (.int .u64 xi) ∧ w'.cell? ⟨q, 2, none⟩ = some (.int .i64 xt) ∧ w'.cell? ⟨q, 3, none⟩ = some (.int .i64 xh) ∧ w'.cell? ⟨q, 4, none⟩ = some (.int .i64 xg) ∧ w'.cell? ⟨q, 5, none⟩ = some (.int .i64 xb) ∧ w'.cell? ⟨q + 1, 0, none⟩ = some (.int .i64 yp) ∧ w'.cell? ⟨q + 1, 1, none⟩ = some (.int .u64 yi) ∧ w'.cell? ⟨q + 1, 2, none⟩ = some (.int .i64 yt) ∧ w'.cell? ⟨q + 1, 3, none⟩ = some (.int .i64 yh) ∧ w'.cell? ⟨q + 1, 4, none⟩ = some (.int .i64 yg) ∧ w'.cell? ⟨q + 1, 5, none⟩ = some (.int .i64 yb) from
    ⟨(k.blk HX.out (fun f => f)).cell rfl, (k.blk HX.out (fun f => f)).cell rfl, (k.blk HX.out (fun f => f)).cell rfl, (k.blk HX.out (fun f => f)).cell rfl, (k.blk HX.out (fun f => f)).cell rfl, (k.blk HX.out (fun f => f)).cell rfl, (k.blk HY.out (fun f => f)).cell rfl, (k.blk HY.out (fun f => f)).cell rfl, (k.blk HY.out (fun f => f)).cell rfl, (k.blk HY.out (fun f => f)).cell rfl, (k.blk HY.out (fun f => f)).cell rfl, (k.blk HY.out (fun f => f)).cell rfl⟩)
  go_region_held3 (fun w' => w'.cell? ⟨q, 0, none⟩ = some (.int .i64 xp) ∧ w'.cell? ⟨q, 1, none⟩ = some (.int .u64 xi) ∧ w'.cell? ⟨q, 2, none⟩ = some (.int .i64 xt) ∧ w'.cell? ⟨q, 3, none⟩ = some (.int .i64 xh) ∧ w'.cell? ⟨q, 4, none⟩ = some (.int .i64 xg) ∧ w'.cell? ⟨q, 5, none⟩ = some (.int .i64 xb) ∧ w'.cell? ⟨q + 1, 0, none⟩ = some (.int .i64 yp) ∧ w'.cell? ⟨q + 1, 1, none⟩ = some (.int .u64 yi) ∧ w'.cell? ⟨q + 1, 2, none⟩ = some (.int .i64 yt) ∧ w'.cell? ⟨q + 1, 3, none⟩ = some (.int .i64 yh) ∧ w'.cell? ⟨q + 1, 4, none⟩ = some (.int .i64 yg) ∧ w'.cell? ⟨q + 1, 5, none⟩ = some (.int .i64 yb)) ((refine KS.out _ ?_; repeat (first | exact Kept.refl _ _ | (with_reducible refine Kept.drew ?_) | (with_reducible refine Kept.alloc ?_ _))))
    (first | (go_at_call 37; with_reducible refine Calls.mono (R1.out _) ?_; rintro e w' ⟨rfl, rfl⟩) | (go_at_call 37; with_reducible refine Calls.mono (R2.out _) ?_; rintro e w' ⟨rfl, rfl⟩) | (go_at_call 40; with_reducible refine Calls.mono (C1.out _) ?_; rintro e w' ⟨rfl, rfl⟩) | (go_at_call 40; with_reducible refine Calls.mono (C2.out _) ?_; rintro e w' ⟨rfl, rfl⟩) | (go_at_call 41; with_reducible refine Calls.mono (C3.out _) ?_; rintro e w' ⟨rfl, rfl⟩) | (go_at_call 39; refine Calls.mono (OR.out _ _ (newAt c1 c2 c3 (by simp only [World.size_alloc])).1 (newAt c1 c2 c3 (by simp only [World.size_alloc])).2.1 (newAt c1 c2 c3 (by simp only [World.size_alloc])).2.2) ?_; rintro e w' ⟨rfl, rfl⟩))
  all_goals
    go_wp2_with fail
    go_ret
    refine ⟨rfl, ?_⟩
    repeat (first | exact hG.out | (with_reducible refine Gr.drew ?_) | (with_reducible refine Gr.alloc ?_ _))
set_option maxHeartbeats 4000000 in
theorem older_any (x y : M) (hx : may x = true) (hy : may y = true) (w : World) : Calls Try.prog 30 #[mv x, mv y] w fun e w' => e = .returned (.int .i64 (cmpM true x y)) ∧ Gr w w' := by
  have R1 := Lib.hid fun w => rem_any x hx w
  have R2 := Lib.hid fun w => rem_any y hy w
  have HD := Lib.hid (show cmpM true x y = or3 (cmpI x.b y.b) (cmpI x.p y.p) (cmpI x.i y.i) from rfl)
  clear hx hy
  generalize cmpM true x y = r at HD ⊢
  obtain ⟨xp, xi, xt, xh, xg, xb⟩ := x
  obtain ⟨yp, yi, yt, yh, yg, yb⟩ := y
  unfold mv ml at R1 R2
  unfold mv
  dsimp only at R1 R2 HD ⊢
  have C1 := Lib.hid fun w => compare_int xb yb w
  have C2 := Lib.hid fun w => compare_int xp yp w
  have C3 := Lib.hid fun w => compare_uint xi yi w
  generalize cmpI xb yb = c1 at C1 HD
  generalize cmpI xp yp = c2 at C2 HD
  generalize cmpI xi yi = c3 at C3 HD
  have OR := Lib.hid fun g w h0 h1 h2 => or_any c1 c2 c3 r g w h0 h1 h2 HD.out
  clear HD
  go_enter Try.func30, Try.ntmps30
  go_upto_region 1 with fail
  have hX := (Blk.new w [.int .i64 xp, .int .u64 xi, .int .i64 xt, .int .i64 xh, .int .i64 xg, .int .i64 xb] 39).old (.cells #[.int .i64 yp, .int .u64 yi, .int .i64 yt, .int .i64 yh, .int .i64 yg, .int .i64 yb] 39)
  have hY := Blk.new (w.alloc (.cells [.int .i64 xp, .int .u64 xi, .int .i64 xt, .int .i64 xh, .int .i64 xg, .int .i64 xb].toArray 39)) [.int .i64 yp, .int .u64 yi, .int .i64 yt, .int .i64 yh, .int .i64 yg, .int .i64 yb] 39
  have hG := Lib.hid (((Gr.refl w).alloc (.cells #[.int .i64 xp, .int .u64 xi, .int .i64 xt, .int .i64 xh, .int .i64 xg, .int .i64 xb] 39)).alloc (.cells #[.int .i64 yp, .int .u64 yi, .int .i64 yt, .int .i64 yh, .int .i64 yg, .int .i64 yb] 39))
  rw [World.size_alloc] at hY
  dsimp only [List.toArray] at hX hY
  have HX := Lib.hid hX
  have HY := Lib.hid hY
  clear hX hY
  generalize (w.alloc (.cells #[.int .i64 xp, .int .u64 xi, .int .i64 xt, .int .i64 xh, .int .i64 xg, .int .i64 xb] 39)).alloc (.cells #[.int .i64 yp, .int .u64 yi, .int .i64 yt, .int .i64 yh, .int .i64 yg, .int .i64 yb] 39) = w1 at *
  generalize w.heap.size = q at *
  have KS := Lib.hid fun (w' : World) (k : Kept (fun _ => False) w1 w') => (show w'.cell? ⟨q, 0, none⟩ = some (.int .i64 xp) ∧ w'.cell? ⟨q, 1, none⟩ = some (.int .u64 xi) ∧ w'.cell? ⟨q, 2, none⟩ = some (.int .i64 xt) ∧ w'.cell? ⟨q, 3, none⟩ = some (.int .i64 xh) ∧ w'.cell? ⟨q, 4, none⟩ = some (.int .i64 xg) ∧ w'.cell? ⟨q, 5, none⟩ = some (.int .i64 xb) ∧ w'.cell? ⟨q + 1, 0, none⟩ = some (.int .i64 yp) ∧ w'.cell? ⟨q + 1, 1, none⟩ = some (.int .u64 yi) ∧ w'.cell? ⟨q + 1, 2, none⟩ = some (.int .i64 yt) ∧ w'.cell? ⟨q + 1, 3, none⟩ = some (.int .i64 yh) ∧ w'.cell? ⟨q + 1, 4, none⟩ = some (.int .i64 yg) ∧ w'.cell? ⟨q + 1, 5, none⟩ = some (.int .i64 yb) from
    ⟨(k.blk HX.out (fun f => f)).cell rfl, (k.blk HX.out (fun f => f)).cell rfl, (k.blk HX.out (fun f => f)).cell rfl, (k.blk HX.out (fun f => f)).cell rfl, (k.blk HX.out (fun f => f)).cell rfl, (k.blk HX.out (fun f => f)).cell rfl, (k.blk HY.out (fun f => f)).cell rfl, (k.blk HY.out (fun f => f)).cell rfl, (k.blk HY.out (fun f => f)).cell rfl, (k.blk HY.out (fun f => f)).cell rfl, (k.blk HY.out (fun f => f)).cell rfl, (k.blk HY.out (fun f => f)).cell rfl⟩)
  go_region_held3 (fun w' => w'.cell? ⟨q, 0, none⟩ = some (.int .i64 xp) ∧ w'.cell? ⟨q, 1, none⟩ = some (.int .u64 xi) ∧ w'.cell? ⟨q, 2, none⟩ = some (.int .i64 xt) ∧ w'.cell? ⟨q, 3, none⟩ = some (.int .i64 xh) ∧ w'.cell? ⟨q, 4, none⟩ = some (.int .i64 xg) ∧ w'.cell? ⟨q, 5, none⟩ = some (.int .i64 xb) ∧ w'.cell? ⟨q + 1, 0, none⟩ = some (.int .i64 yp) ∧ w'.cell? ⟨q + 1, 1, none⟩ = some (.int .u64 yi) ∧ w'.cell? ⟨q + 1, 2, none⟩ = some (.int .i64 yt) ∧ w'.cell? ⟨q + 1, 3, none⟩ = some (.int .i64 yh) ∧ w'.cell? ⟨q + 1, 4, none⟩ = some (.int .i64 yg) ∧ w'.cell? ⟨q + 1, 5, none⟩ = some (.int .i64 yb)) ((refine KS.out _ ?_; repeat (first | exact Kept.refl _ _ | (with_reducible refine Kept.drew ?_) | (with_reducible refine Kept.alloc ?_ _))))
    (first | (go_at_call 37; with_reducible refine Calls.mono (R1.out _) ?_; rintro e w' ⟨rfl, rfl⟩) | (go_at_call 37; with_reducible refine Calls.mono (R2.out _) ?_; rintro e w' ⟨rfl, rfl⟩) | (go_at_call 40; with_reducible refine Calls.mono (C1.out _) ?_; rintro e w' ⟨rfl, rfl⟩) | (go_at_call 40; with_reducible refine Calls.mono (C2.out _) ?_; rintro e w' ⟨rfl, rfl⟩) | (go_at_call 41; with_reducible refine Calls.mono (C3.out _) ?_; rintro e w' ⟨rfl, rfl⟩) | (go_at_call 39; refine Calls.mono (OR.out _ _ (newAt c1 c2 c3 (by simp only [World.size_alloc])).1 (newAt c1 c2 c3 (by simp only [World.size_alloc])).2.1 (newAt c1 c2 c3 (by simp only [World.size_alloc])).2.2) ?_; rintro e w' ⟨rfl, rfl⟩))
  all_goals
    go_wp2_with fail
    go_ret
    refine ⟨rfl, ?_⟩
    repeat (first | exact hG.out | (with_reducible refine Gr.drew ?_) | (with_reducible refine Gr.alloc ?_ _))
end Go.Proofs.Ytbohigfhbjconaa.Sr
