/- The reference's net: NewNet, Ports, Leaf, Hops, kind, Next. Conditions: each theorem's own. -/
import Derived.Test.YtoieogembfdmfaaDoorTpAw
set_option linter.unusedVariables false
set_option linter.unusedSimpArgs false
namespace Go.Proofs.YtoieogembfdmfaaDoor.Tp
open Go.RowKit Hp TpM
attribute [local go_sem ↓] Go.wp_at_zero Go.wp_at_succ
/-- A net of the reference's. -/
abbrev MV (w : World) (b : Nat) (H S : Int) : Prop := Blk w b [.int .i64 H, .int .i64 (lv H), .int .i64 S] 35
variable {w : World} {b : Nat} {H S : Int}
theorem netR_yes (n : Net H S) (w : World) : Calls Tryd.prog 7 #[.int .i64 H, .int .i64 S] w fun e w' => ∃ b, e = .returned (.tuple #[ptr b, .int .i64 0]) ∧ MV w' b H S ∧ Kept (fun _ => False) w w' := by
  obtain ⟨h0, h1, h2, h3⟩ := n
  have d1 : decide (8 < H) = false := by rw [decide_eq_false_iff_not]; omega
  have d2 : decide (S < 1) = false := by rw [decide_eq_false_iff_not]; omega
  have d3 : decide (4 < S) = false := by rw [decide_eq_false_iff_not]; omega
  go_enter Tryd.func7, Tryd.ntmps7
  go_wp2_with fail
  exact bodyPost_ret (v := .tuple #[ptr w.heap.size, .int .i64 0]) (by simp [results, Tryd.results7, go_sem]) rfl ⟨_, rfl, Blk.new w _ _, (Kept.refl _ w).alloc _⟩
theorem netR_no (h : ¬ Net H S) (w : World) : Calls Tryd.prog 7 #[.int .i64 H, .int .i64 S] w fun e w' => e = .returned (.tuple #[.pointer none, .int .i64 1]) ∧ w = w' := by
  have h := net_no h
  rcases h with h0 | ⟨h0, h1⟩ | ⟨h0, h1, h2⟩ | ⟨h0, h1, h2, h3⟩
  all_goals
    go_enter Tryd.func7, Tryd.ntmps7
    go_wp2_with fail
    exact bodyPost_ret (v := .tuple #[.pointer none, .int .i64 1]) (by simp [results, Tryd.results7, go_sem]) rfl ⟨rfl, rfl⟩
/-- The product, as the walk meets it. -/
theorem mm_wrap (n : Net H S) : IntKind.i64.wrap (lv H * S) = mm H S := by have := mm_in n; unfold mm at *; rw [IntKind.wrap_i64]; omega
theorem mm_wrap2 (n : Net H S) : IntKind.i64.wrap (2 * lv H * S) = 2 * mm H S := by have := mm_in n; unfold mm at *; rw [Int.mul_assoc, IntKind.wrap_i64]; omega
theorem portsR_any (hB : MV w b H S) (n : Net H S) : Calls Tryd.prog 9 #[ptr b] w fun e w' => e = .returned (.int .i64 (pts H S)) ∧ ∃ m, w' = w.drewN m := by
  have c0 := hB.cell (o := 0) rfl
  have c1 := hB.cell (o := 1) rfl
  have c2 := hB.cell (o := 2) rfl
  have w1 := mm_wrap2 n
  have hm := mm_in n
  have hl := lv_in n
  have h0 := n.h0
  have h1 := n.h1
  have HP : Hid (pts H S = 2 * H + 2 * mm H S) := Lib.hid rfl
  generalize mm H S = M at *
  generalize lv H = L at *
  generalize pts H S = P at *
  go_enter Tryd.func9, Tryd.ntmps9
  go_upto_region 1 with fail
  go_quiet (fail)
  go_wp2_with fail
  go_ret
  exact ⟨ret_int (by have := HP.out; omega), _, rfl⟩
theorem leafR_any (hB : MV w b H S) (n : Net H S) (x : Int) : Calls Tryd.prog 17 #[ptr b, .int .i64 x] w fun e w' => e = .returned (.int .i64 (lf H x)) ∧ w = w' := by
  have c0 := hB.cell (o := 0) rfl
  have h1 := n.h1
  rcases (show x < 0 ∨ (¬ x < 0 ∧ H ≤ x) ∨ (¬ x < 0 ∧ ¬ H ≤ x) by omega) with g0 | ⟨g0, g1⟩ | ⟨g0, g1⟩
  · have e : lf H x = -1 := by unfold lf; rw [if_pos (Or.inl g0)]
    rw [e]
    go_enter Tryd.func17, Tryd.ntmps17
    go_wp2_with fail
    go_ret
    exact ⟨rfl, rfl⟩
  · have e : lf H x = -1 := by unfold lf; rw [if_pos (Or.inr g1)]
    rw [e]
    go_enter Tryd.func17, Tryd.ntmps17
    go_wp2_with fail
    go_ret
    exact ⟨rfl, rfl⟩
  · have e : lf H x = x / 2 := by unfold lf; rw [if_neg (by omega)]
    rw [e]
    have d1 : decide (H ≤ x) = false := decide_eq_false g1
    go_enter Tryd.func17, Tryd.ntmps17
    go_wp2_with fail
    go_ret
    exact ⟨rfl, rfl⟩
theorem hopsR_any (hB : MV w b H S) (n : Net H S) (x y : Int) : Calls Tryd.prog 20 #[ptr b, .int .i64 x, .int .i64 y] w fun e w' => e = .returned (.int .i64 (hp H x y)) ∧ w = w' := by
  have c0 := hB.cell (o := 0) rfl
  have h1 := n.h1
  by_cases g : (x < 0 ∨ H ≤ x) ∨ (y < 0 ∨ H ≤ y)
  · have e : hp H x y = 0 := by unfold hp; rw [if_pos g]
    rw [e]
    have h := (show x < 0 ∨ (¬ x < 0 ∧ y < 0) ∨ (¬ x < 0 ∧ ¬ y < 0 ∧ H ≤ x) ∨ (¬ x < 0 ∧ ¬ y < 0 ∧ ¬ H ≤ x ∧ H ≤ y) by omega)
    clear g e
    rcases h with g0 | ⟨g0, g1⟩ | ⟨g0, g1, g2⟩ | ⟨g0, g1, g2, g3⟩
    all_goals
      go_enter Tryd.func20, Tryd.ntmps20
      go_wp2_with fail
      go_ret
      exact ⟨rfl, rfl⟩
  · have g0 : ¬ x < 0 := by omega
    have g1 : ¬ y < 0 := by omega
    have g2 : ¬ H ≤ x := by omega
    have g3 : ¬ H ≤ y := by omega
    have g4 : decide (H ≤ y) = false := decide_eq_false g3
    have r1 : x.tdiv 2 = x / 2 := Int.tdiv_eq_ediv_of_nonneg (by omega)
    have r2 : y.tdiv 2 = y / 2 := Int.tdiv_eq_ediv_of_nonneg (by omega)
    by_cases e2 : x / 2 = y / 2
    · have e : hp H x y = 2 := by unfold hp; rw [if_neg g, if_pos e2]
      have b2 : (x / 2 == y / 2) = true := by rw [beq_iff_eq]; exact e2
      rw [e]
      clear e g e2
      go_enter Tryd.func20, Tryd.ntmps20
      go_wp2_with fail
      go_ret
      exact ⟨rfl, rfl⟩
    · have e : hp H x y = 4 := by unfold hp; rw [if_neg g, if_neg e2]
      have b2 : (x / 2 == y / 2) = false := by rw [beq_eq_false_iff_ne]; exact e2
      rw [e]
      clear e g e2
      go_enter Tryd.func20, Tryd.ntmps20
      go_wp2_with fail
      go_ret
      exact ⟨rfl, rfl⟩
theorem drew2 (w : World) (a b : Nat) : (w.drewN a).drewN b = w.drewN (a + b) := by simp [World.drewN]; try omega
/-- What kind answers. -/
def kv (t : Int × Int × Int) : Value := .tuple #[.int .i64 (t.1 - 1), .int .i64 t.2.1, .int .i64 (if t.1 = 1 then 0 else t.2.2)]
set_option maxRecDepth 100000 in
set_option maxHeartbeats 4000000 in
theorem kindR_neg (hB : MV w b H S) (n : Net H S) {x : Int} (h : x < 0) : Calls Tryd.prog 29 #[ptr b, .int .i64 x] w fun e w' => e = .returned (kv (0, 0, 0)) ∧ ∃ m, w' = w.drewN m := by
  have c0 := hB.cell (o := 0) rfl
  have c1 := hB.cell (o := 1) rfl
  have c2 := hB.cell (o := 2) rfl
  have PT := Lib.hid fun w h => portsR_any (w := w) (b := b) h n
  have HB := Lib.hid hB
  have ww := mm_wrap n
  have hm := mm_in n
  have hl := lv_in n
  have n0 := n.h0
  have n1 := n.h1
  have n2 := n.s0
  have n3 := n.s1
  have HP : Hid (pts H S = 2 * H + 2 * mm H S) := Lib.hid rfl
  have EV : kv (0, 0, 0) = .tuple #[.int .i64 (-1), .int .i64 0, .int .i64 0] := by unfold kv; simp
  rw [EV]
  clear EV
  generalize mm H S = M at *
  generalize pts H S = P at *
  generalize lv H = L at *
  go_enter Tryd.func29, Tryd.ntmps29
  go_upto_region 1 with fail
  go_quiet (fail)
  go_wp2_with fail
  exact bodyPost_ret (v := .tuple #[.int .i64 (-1), .int .i64 0, .int .i64 0]) (by simp [results, Tryd.results29, go_sem]) rfl ⟨rfl, _, by first | rfl | exact drew2 _ _ _⟩
set_option maxRecDepth 100000 in
set_option maxHeartbeats 4000000 in
theorem kindR_far (hB : MV w b H S) (n : Net H S) {x : Int} (h : ¬ x < 0) (h2 : pts H S ≤ x) : Calls Tryd.prog 29 #[ptr b, .int .i64 x] w fun e w' => e = .returned (kv (0, 0, 0)) ∧ ∃ m, w' = w.drewN m := by
  have c0 := hB.cell (o := 0) rfl
  have c1 := hB.cell (o := 1) rfl
  have c2 := hB.cell (o := 2) rfl
  have PT := Lib.hid fun w h => portsR_any (w := w) (b := b) h n
  have HB := Lib.hid hB
  have ww := mm_wrap n
  have hm := mm_in n
  have hl := lv_in n
  have n0 := n.h0
  have n1 := n.h1
  have n2 := n.s0
  have n3 := n.s1
  have HP : Hid (pts H S = 2 * H + 2 * mm H S) := Lib.hid rfl
  have EV : kv (0, 0, 0) = .tuple #[.int .i64 (-1), .int .i64 0, .int .i64 0] := by unfold kv; simp
  rw [EV]
  clear EV
  generalize mm H S = M at *
  generalize pts H S = P at *
  generalize lv H = L at *
  go_enter Tryd.func29, Tryd.ntmps29
  go_upto_region 1 with fail
  go_quiet (fail)
  go_wp2_with fail
  with_reducible refine Calls.mono (PT.out _ (HB.out.drewN _)) ?_
  rintro e w' ⟨rfl, m, rfl⟩
  go_wp2_with fail
  exact bodyPost_ret (v := .tuple #[.int .i64 (-1), .int .i64 0, .int .i64 0]) (by simp [results, Tryd.results29, go_sem]) rfl ⟨rfl, _, by first | rfl | exact drew2 _ _ _⟩
set_option maxRecDepth 100000 in
set_option maxHeartbeats 4000000 in
theorem kindR_up (hB : MV w b H S) (n : Net H S) {x : Int} (h0 : 0 ≤ x) (h1 : x < H) : Calls Tryd.prog 29 #[ptr b, .int .i64 x] w fun e w' => e = .returned (kv (1, x, x / 2)) ∧ ∃ m, w' = w.drewN m := by
  have c0 := hB.cell (o := 0) rfl
  have c1 := hB.cell (o := 1) rfl
  have c2 := hB.cell (o := 2) rfl
  have PT := Lib.hid fun w h => portsR_any (w := w) (b := b) h n
  have HB := Lib.hid hB
  have ww := mm_wrap n
  have hm := mm_in n
  have hl := lv_in n
  have n0 := n.h0
  have n1 := n.h1
  have n2 := n.s0
  have n3 := n.s1
  have HP : Hid (pts H S = 2 * H + 2 * mm H S) := Lib.hid rfl
  have g0 : ¬ x < 0 := by omega
  have g1 : ¬ pts H S ≤ x := by have := HP.out; omega
  have d1 : decide (pts H S ≤ x) = false := decide_eq_false g1
  have EV : kv (1, x, x / 2) = .tuple #[.int .i64 0, .int .i64 x, .int .i64 0] := by unfold kv; simp
  rw [EV]
  clear EV
  generalize mm H S = M at *
  generalize pts H S = P at *
  generalize lv H = L at *
  go_enter Tryd.func29, Tryd.ntmps29
  go_upto_region 1 with fail
  go_quiet (fail)
  go_wp2_with fail
  with_reducible refine Calls.mono (PT.out _ (HB.out.drewN _)) ?_
  rintro e w' ⟨rfl, m, rfl⟩
  go_wp2_with fail
  exact bodyPost_ret (v := .tuple #[.int .i64 0, .int .i64 x, .int .i64 0]) (by simp [results, Tryd.results29, go_sem]) rfl ⟨rfl, _, by first | rfl | exact drew2 _ _ _⟩
set_option maxRecDepth 100000 in
set_option maxHeartbeats 4000000 in
theorem kindR_down (hB : MV w b H S) (n : Net H S) {x : Int} (h0 : H ≤ x) (h1 : x < 2 * H) : Calls Tryd.prog 29 #[ptr b, .int .i64 x] w fun e w' => e = .returned (kv (2, (x - H) / 2, x - H)) ∧ ∃ m, w' = w.drewN m := by
  have c0 := hB.cell (o := 0) rfl
  have c1 := hB.cell (o := 1) rfl
  have c2 := hB.cell (o := 2) rfl
  have PT := Lib.hid fun w h => portsR_any (w := w) (b := b) h n
  have HB := Lib.hid hB
  have ww := mm_wrap n
  have hm := mm_in n
  have hl := lv_in n
  have n0 := n.h0
  have n1 := n.h1
  have n2 := n.s0
  have n3 := n.s1
  have HP : Hid (pts H S = 2 * H + 2 * mm H S) := Lib.hid rfl
  have g0 : ¬ x < 0 := by omega
  have g1 : ¬ pts H S ≤ x := by have := HP.out; omega
  have d1 : decide (pts H S ≤ x) = false := decide_eq_false g1
  have g2 : ¬ x < H := by omega
  have EV : kv (2, (x - H) / 2, x - H) = .tuple #[.int .i64 1, .int .i64 ((x - H) / 2), .int .i64 (x - H)] := by unfold kv; simp
  rw [EV]
  clear EV
  generalize mm H S = M at *
  generalize pts H S = P at *
  generalize lv H = L at *
  go_enter Tryd.func29, Tryd.ntmps29
  go_upto_region 1 with fail
  go_quiet (fail)
  go_wp2_with fail
  with_reducible refine Calls.mono (PT.out _ (HB.out.drewN _)) ?_
  rintro e w' ⟨rfl, m, rfl⟩
  go_wp2_with fail
  go_quiet (fail)
  go_wp2_with fail
  exact bodyPost_ret (v := .tuple #[.int .i64 1, .int .i64 ((x - H) / 2), .int .i64 (x - H)]) (by simp [results, Tryd.results29, go_sem]) rfl ⟨rfl, _, by first | rfl | exact drew2 _ _ _⟩
set_option maxRecDepth 100000 in
set_option maxHeartbeats 4000000 in
theorem kindR_lup (hB : MV w b H S) (n : Net H S) {x : Int} (h0 : 2 * H ≤ x) (h1 : x < 2 * H + mm H S) : Calls Tryd.prog 29 #[ptr b, .int .i64 x] w fun e w' => e = .returned (kv (3, (x - 2 * H) / S, (x - 2 * H) % S)) ∧ ∃ m, w' = w.drewN m := by
  have c0 := hB.cell (o := 0) rfl
  have c1 := hB.cell (o := 1) rfl
  have c2 := hB.cell (o := 2) rfl
  have PT := Lib.hid fun w h => portsR_any (w := w) (b := b) h n
  have HB := Lib.hid hB
  have ww := mm_wrap n
  have hm := mm_in n
  have hl := lv_in n
  have n0 := n.h0
  have n1 := n.h1
  have n2 := n.s0
  have n3 := n.s1
  have HP : Hid (pts H S = 2 * H + 2 * mm H S) := Lib.hid rfl
  have g0 : ¬ x < 0 := by omega
  have g1 : ¬ pts H S ≤ x := by have := HP.out; omega
  have d1 : decide (pts H S ≤ x) = false := decide_eq_false g1
  have g2 : ¬ x < H := by omega
  have g3 : ¬ x < 2 * H := by omega
  have dv := div_in (k := x - 2 * H) (n := S) (L := lv H) n2 (by omega) (by show _ < mm H S; omega)
  have hS0 : ¬ S = 0 := by omega
  have hS1 : (S == 0) = false := by rw [beq_eq_false_iff_ne]; exact hS0
  have EV : kv (3, (x - 2 * H) / S, (x - 2 * H) % S) = .tuple #[.int .i64 2, .int .i64 ((x - 2 * H) / S), .int .i64 ((x - 2 * H) % S)] := by unfold kv; simp
  rw [EV]
  clear EV
  generalize mm H S = M at *
  generalize pts H S = P at *
  generalize lv H = L at *
  go_enter Tryd.func29, Tryd.ntmps29
  go_upto_region 1 with fail
  go_quiet (fail)
  go_wp2_with fail
  with_reducible refine Calls.mono (PT.out _ (HB.out.drewN _)) ?_
  rintro e w' ⟨rfl, m, rfl⟩
  go_wp2_with fail
  go_quiet (fail)
  go_wp2_with fail
  exact bodyPost_ret (v := .tuple #[.int .i64 2, .int .i64 ((x - 2 * H) / S), .int .i64 ((x - 2 * H) % S)]) (by simp [results, Tryd.results29, go_sem]) rfl ⟨rfl, _, by first | rfl | exact drew2 _ _ _⟩
set_option maxRecDepth 100000 in
set_option maxHeartbeats 4000000 in
theorem kindR_sdn (hB : MV w b H S) (n : Net H S) {x : Int} (h0 : 2 * H + mm H S ≤ x) (h1 : x < 2 * H + 2 * mm H S) : Calls Tryd.prog 29 #[ptr b, .int .i64 x] w fun e w' => e = .returned (kv (4, (x - 2 * H - mm H S) / lv H, (x - 2 * H - mm H S) % lv H)) ∧ ∃ m, w' = w.drewN m := by
  have c0 := hB.cell (o := 0) rfl
  have c1 := hB.cell (o := 1) rfl
  have c2 := hB.cell (o := 2) rfl
  have PT := Lib.hid fun w h => portsR_any (w := w) (b := b) h n
  have HB := Lib.hid hB
  have ww := mm_wrap n
  have hm := mm_in n
  have hl := lv_in n
  have n0 := n.h0
  have n1 := n.h1
  have n2 := n.s0
  have n3 := n.s1
  have HP : Hid (pts H S = 2 * H + 2 * mm H S) := Lib.hid rfl
  have g0 : ¬ x < 0 := by omega
  have g1 : ¬ pts H S ≤ x := by have := HP.out; omega
  have d1 : decide (pts H S ≤ x) = false := decide_eq_false g1
  have g2 : ¬ x < H := by omega
  have g3 : ¬ x < 2 * H := by omega
  have g4 : ¬ x < 2 * H + mm H S := by omega
  have e4 : S * lv H = mm H S := Int.mul_comm _ _
  have dv := div_in (k := x - 2 * H - mm H S) (n := lv H) (L := S) hl.1 (by omega) (by rw [e4]; omega)
  have hS0 : ¬ lv H = 0 := by omega
  have hS1 : (lv H == 0) = false := by rw [beq_eq_false_iff_ne]; exact hS0
  clear e4
  have EV : kv (4, (x - 2 * H - mm H S) / lv H, (x - 2 * H - mm H S) % lv H) = .tuple #[.int .i64 3, .int .i64 ((x - 2 * H - mm H S) / lv H), .int .i64 ((x - 2 * H - mm H S) % lv H)] := by unfold kv; simp
  rw [EV]
  clear EV
  generalize mm H S = M at *
  generalize pts H S = P at *
  generalize lv H = L at *
  go_enter Tryd.func29, Tryd.ntmps29
  go_upto_region 1 with fail
  go_quiet (fail)
  go_wp2_with fail
  with_reducible refine Calls.mono (PT.out _ (HB.out.drewN _)) ?_
  rintro e w' ⟨rfl, m, rfl⟩
  go_wp2_with fail
  go_quiet (fail)
  go_wp2_with fail
  exact bodyPost_ret (v := .tuple #[.int .i64 3, .int .i64 ((x - 2 * H - M) / L), .int .i64 ((x - 2 * H - M) % L)]) (by simp [results, Tryd.results29, go_sem]) rfl ⟨rfl, _, by first | rfl | exact drew2 _ _ _⟩
theorem kindR_any (hB : MV w b H S) (n : Net H S) (x : Int) : Calls Tryd.prog 29 #[ptr b, .int .i64 x] w fun e w' => e = .returned (kv (kd H S x)) ∧ ∃ m, w' = w.drewN m := by
  rcases five n x with h | ⟨h, h2⟩ | ⟨h, h2⟩ | ⟨h, h2⟩ | ⟨h, h2⟩
  · rw [kd_none h]
    by_cases h2 : x < 0
    · exact kindR_neg hB n h2
    · exact kindR_far hB n h2 (by omega)
  · rw [kd_up n h h2]; exact kindR_up hB n h h2
  · rw [kd_down n h h2]; exact kindR_down hB n h h2
  · rw [kd_lup n h h2]; exact kindR_lup hB n h h2
  · rw [kd_sdn n h h2]; exact kindR_sdn hB n h h2
end Go.Proofs.YtoieogembfdmfaaDoor.Tp
