/- The reference's net: NewNet, Ports, Leaf, Hops, kind, Next. Conditions: each theorem's own. -/
import Derived.Test.YtpogpibjkolioaaGreatFpK29
import Derived.Test.YtpogpibjkolioaaGreatFpK20
set_option linter.unusedVariables false
set_option linter.unusedSimpArgs false
namespace Go.Proofs.YtpogpibjkolioaaGreat.Tp
open Go.RowKit Hp TpM
attribute [local go_sem ↓] Go.wp_at_zero Go.wp_at_succ
abbrev MV (w : World) (b : Nat) (H S : Int) : Prop := Blk w b [.int .i64 H, .int .i64 (lv H), .int .i64 S] 85
variable {w : World} {b : Nat} {H S : Int}
theorem netR_yes (n : Net H S) (w : World) : Calls Tryz.prog 28 #[.int .i64 H, .int .i64 S] w fun e w' => ∃ b, e = .returned (.tuple #[ptr b, .int .i64 0]) ∧ MV w' b H S ∧ Kept (fun _ => False) w w' := by
 obtain ⟨h0, h1, h2, h3⟩ := n
 have d1 : decide (8 < H) = false := by rw [decide_eq_false_iff_not]; omega
 have d2 : decide (S < 1) = false := by rw [decide_eq_false_iff_not]; omega
 have d3 : decide (4 < S) = false := by rw [decide_eq_false_iff_not]; omega
 go_enter Tryz.func28, Tryz.ntmps28
 go_wp2_with fail
 exact bodyPost_ret (v := .tuple #[ptr w.heap.size, .int .i64 0]) (by simp [results, Tryz.results28, go_sem]) rfl ⟨_, rfl, Blk.new w _ _, (Kept.refl _ w).alloc _⟩
theorem netR_no (h : ¬ Net H S) (w : World) : Calls Tryz.prog 28 #[.int .i64 H, .int .i64 S] w fun e w' => e = .returned (.tuple #[.pointer none, .int .i64 1]) ∧ w = w' := by
 have h := net_no h
 rcases h with h0 | ⟨h0, h1⟩ | ⟨h0, h1, h2⟩ | ⟨h0, h1, h2, h3⟩
 all_goals
  go_enter Tryz.func28, Tryz.ntmps28
  go_wp2_with fail
  exact bodyPost_ret (v := .tuple #[.pointer none, .int .i64 1]) (by simp [results, Tryz.results28, go_sem]) rfl ⟨rfl, rfl⟩
theorem mm_wrap (n : Net H S) : IntKind.i64.wrap (lv H * S) = mm H S := by have := mm_in n; unfold mm at *; rw [IntKind.wrap_i64]; omega
theorem mm_wrap2 (n : Net H S) : IntKind.i64.wrap (2 * lv H * S) = 2 * mm H S := by have := mm_in n; unfold mm at *; rw [Int.mul_assoc, IntKind.wrap_i64]; omega
theorem portsR_any (hB : MV w b H S) (n : Net H S) : Calls Tryz.prog 29 #[ptr b] w fun e w' => e = .returned (.int .i64 (pts H S)) ∧ ∃ m, w' = w.drewN m := by
 have c0 := hB.cell (o := 0) rfl
 have c1 := hB.cell (o := 1) rfl
 have c2 := hB.cell (o := 2) rfl
 have w1 := mm_wrap2 n
 have hm := mm_in n
 have hl := lv_in n
 have h0 := n.h0
 have h1 := n.h1
 have HP : Hid (pts H S = 2 * H + 2 * mm H S) := Lib.hid rfl
 generalize mm H S = M at *
 generalize lv H = L at *
 generalize pts H S = P at *
 go_enter Tryz.func29, Tryz.ntmps29
 go_upto_region 1 with fail
 go_quiet (fail)
 go_wp2_with fail
 go_ret
 exact ⟨ret_int (by have := HP.out; omega), _, rfl⟩
theorem drew2 (w : World) (a b : Nat) : (w.drewN a).drewN b = w.drewN (a + b) := by simp [World.drewN]; try omega
def kv (t : Int × Int × Int) : Value := .tuple #[.int .i64 (t.1 - 1), .int .i64 t.2.1, .int .i64 (if t.1 = 1 then 0 else t.2.2)]
set_option maxRecDepth 100000 in
set_option maxHeartbeats 4000000 in
theorem kindR_neg (hB : MV w b H S) (n : Net H S) {x : Int} (h : x < 0) : Calls Tryz.prog 75 #[ptr b, .int .i64 x] w fun e w' => e = .returned (kv (0, 0, 0)) ∧ ∃ m, w' = w.drewN m := by
 have c0 := hB.cell (o := 0) rfl
 have c1 := hB.cell (o := 1) rfl
 have c2 := hB.cell (o := 2) rfl
 have PT := Lib.hid fun w h => portsR_any (w := w) (b := b) h n
 have HB := Lib.hid hB
 have ww := mm_wrap n
 have hm := mm_in n
 have hl := lv_in n
 have n0 := n.h0
 have n1 := n.h1
 have n2 := n.s0
 have n3 := n.s1
 have HP : Hid (pts H S = 2 * H + 2 * mm H S) := Lib.hid rfl
 have EV : kv (0, 0, 0) = .tuple #[.int .i64 (-1), .int .i64 0, .int .i64 0] := by unfold kv; simp
 rw [EV]
 clear EV
 generalize mm H S = M at *
 generalize pts H S = P at *
 generalize lv H = L at *
 go_enter Tryz.func75, Tryz.ntmps75
 go_upto_region 1 with fail
 go_quiet (fail)
 go_wp2_with fail
 exact bodyPost_ret (v := .tuple #[.int .i64 (-1), .int .i64 0, .int .i64 0]) (by simp [results, Tryz.results75, go_sem]) rfl ⟨rfl, _, by first | rfl | exact drew2 _ _ _⟩
set_option maxRecDepth 100000 in
set_option maxHeartbeats 4000000 in
theorem kindR_far (hB : MV w b H S) (n : Net H S) {x : Int} (h : ¬ x < 0) (h2 : pts H S ≤ x) : Calls Tryz.prog 75 #[ptr b, .int .i64 x] w fun e w' => e = .returned (kv (0, 0, 0)) ∧ ∃ m, w' = w.drewN m := by
 have c0 := hB.cell (o := 0) rfl
 have c1 := hB.cell (o := 1) rfl
 have c2 := hB.cell (o := 2) rfl
 have PT := Lib.hid fun w h => portsR_any (w := w) (b := b) h n
 have HB := Lib.hid hB
 have ww := mm_wrap n
 have hm := mm_in n
 have hl := lv_in n
 have n0 := n.h0
 have n1 := n.h1
 have n2 := n.s0
 have n3 := n.s1
 have HP : Hid (pts H S = 2 * H + 2 * mm H S) := Lib.hid rfl
 have EV : kv (0, 0, 0) = .tuple #[.int .i64 (-1), .int .i64 0, .int .i64 0] := by unfold kv; simp
 rw [EV]
 clear EV
 generalize mm H S = M at *
 generalize pts H S = P at *
 generalize lv H = L at *
 go_enter Tryz.func75, Tryz.ntmps75
 go_upto_region 1 with fail
 go_quiet (fail)
 go_wp2_with fail
 with_reducible refine Calls.mono (PT.out _ (HB.out.drewN _)) ?_
 rintro e w' ⟨rfl, m, rfl⟩
 go_wp2_with fail
 exact bodyPost_ret (v := .tuple #[.int .i64 (-1), .int .i64 0, .int .i64 0]) (by simp [results, Tryz.results75, go_sem]) rfl ⟨rfl, _, by first | rfl | exact drew2 _ _ _⟩
set_option maxRecDepth 100000 in
set_option maxHeartbeats 4000000 in
theorem kindR_up (hB : MV w b H S) (n : Net H S) {x : Int} (h0 : 0 ≤ x) (h1 : x < H) : Calls Tryz.prog 75 #[ptr b, .int .i64 x] w fun e w' => e = .returned (kv (1, x, x / 2)) ∧ ∃ m, w' = w.drewN m := by
 have c0 := hB.cell (o := 0) rfl
 have c1 := hB.cell (o := 1) rfl
 have c2 := hB.cell (o := 2) rfl
 have PT := Lib.hid fun w h => portsR_any (w := w) (b := b) h n
 have HB := Lib.hid hB
 have ww := mm_wrap n
 have hm := mm_in n
 have hl := lv_in n
 have n0 := n.h0
 have n1 := n.h1
 have n2 := n.s0
 have n3 := n.s1
 have HP : Hid (pts H S = 2 * H + 2 * mm H S) := Lib.hid rfl
 have g0 : ¬ x < 0 := by omega
 have g1 : ¬ pts H S ≤ x := by have := HP.out; omega
 have d1 : decide (pts H S ≤ x) = false := decide_eq_false g1
 have EV : kv (1, x, x / 2) = .tuple #[.int .i64 0, .int .i64 x, .int .i64 0] := by unfold kv; simp
 rw [EV]
 clear EV
 generalize mm H S = M at *
 generalize pts H S = P at *
 generalize lv H = L at *
 go_enter Tryz.func75, Tryz.ntmps75
 go_upto_region 1 with fail
 go_quiet (fail)
 go_wp2_with fail
 with_reducible refine Calls.mono (PT.out _ (HB.out.drewN _)) ?_
 rintro e w' ⟨rfl, m, rfl⟩
 go_wp2_with fail
 exact bodyPost_ret (v := .tuple #[.int .i64 0, .int .i64 x, .int .i64 0]) (by simp [results, Tryz.results75, go_sem]) rfl ⟨rfl, _, by first | rfl | exact drew2 _ _ _⟩
set_option maxRecDepth 100000 in
set_option maxHeartbeats 4000000 in
theorem kindR_down (hB : MV w b H S) (n : Net H S) {x : Int} (h0 : H ≤ x) (h1 : x < 2 * H) : Calls Tryz.prog 75 #[ptr b, .int .i64 x] w fun e w' => e = .returned (kv (2, (x - H) / 2, x - H)) ∧ ∃ m, w' = w.drewN m := by
 have c0 := hB.cell (o := 0) rfl
 have c1 := hB.cell (o := 1) rfl
 have c2 := hB.cell (o := 2) rfl
 have PT := Lib.hid fun w h => portsR_any (w := w) (b := b) h n
 have HB := Lib.hid hB
 have ww := mm_wrap n
 have hm := mm_in n
 have hl := lv_in n
 have n0 := n.h0
 have n1 := n.h1
 have n2 := n.s0
 have n3 := n.s1
 have HP : Hid (pts H S = 2 * H + 2 * mm H S) := Lib.hid rfl
 have g0 : ¬ x < 0 := by omega
 have g1 : ¬ pts H S ≤ x := by have := HP.out; omega
 have d1 : decide (pts H S ≤ x) = false := decide_eq_false g1
 have g2 : ¬ x < H := by omega
 have EV : kv (2, (x - H) / 2, x - H) = .tuple #[.int .i64 1, .int .i64 ((x - H) / 2), .int .i64 (x - H)] := by unfold kv; simp
 rw [EV]
 clear EV
 generalize mm H S = M at *
 generalize pts H S = P at *
 generalize lv H = L at *
 go_enter Tryz.func75, Tryz.ntmps75
 go_upto_region 1 with fail
 go_quiet (fail)
 go_wp2_with fail
 with_reducible refine Calls.mono (PT.out _ (HB.out.drewN _)) ?_
 rintro e w' ⟨rfl, m, rfl⟩
 go_wp2_with fail
 go_quiet (fail)
 go_wp2_with fail
 exact bodyPost_ret (v := .tuple #[.int .i64 1, .int .i64 ((x - H) / 2), .int .i64 (x - H)]) (by simp [results, Tryz.results75, go_sem]) rfl ⟨rfl, _, by first | rfl | exact drew2 _ _ _⟩
set_option maxRecDepth 100000 in
set_option maxHeartbeats 4000000 in
theorem kindR_lup (hB : MV w b H S) (n : Net H S) {x : Int} (h0 : 2 * H ≤ x) (h1 : x < 2 * H + mm H S) : Calls Tryz.prog 75 #[ptr b, .int .i64 x] w fun e w' => e = .returned (kv (3, (x - 2 * H) / S, (x - 2 * H) % S)) ∧ ∃ m, w' = w.drewN m := by
 have c0 := hB.cell (o := 0) rfl
 have c1 := hB.cell (o := 1) rfl
 have c2 := hB.cell (o := 2) rfl
 have PT := Lib.hid fun w h => portsR_any (w := w) (b := b) h n
 have HB := Lib.hid hB
 have ww := mm_wrap n
 have hm := mm_in n
 have hl := lv_in n
 have n0 := n.h0
 have n1 := n.h1
 have n2 := n.s0
 have n3 := n.s1
 have HP : Hid (pts H S = 2 * H + 2 * mm H S) := Lib.hid rfl
 have g0 : ¬ x < 0 := by omega
 have g1 : ¬ pts H S ≤ x := by have := HP.out; omega
 have d1 : decide (pts H S ≤ x) = false := decide_eq_false g1
 have g2 : ¬ x < H := by omega
 have g3 : ¬ x < 2 * H := by omega
 have dv := div_in (k := x - 2 * H) (n := S) (L := lv H) n2 (by omega) (by show _ < mm H S; omega)
 have hS0 : ¬ S = 0 := by omega
 have hS1 : (S == 0) = false := by rw [beq_eq_false_iff_ne]; exact hS0
 have EV : kv (3, (x - 2 * H) / S, (x - 2 * H) % S) = .tuple #[.int .i64 2, .int .i64 ((x - 2 * H) / S), .int .i64 ((x - 2 * H) % S)] := by unfold kv; simp
 rw [EV]
 clear EV
 generalize mm H S = M at *
 generalize pts H S = P at *
 generalize lv H = L at *
 go_enter Tryz.func75, Tryz.ntmps75
 go_upto_region 1 with fail
 go_quiet (fail)
 go_wp2_with fail
 with_reducible refine Calls.mono (PT.out _ (HB.out.drewN _)) ?_
 rintro e w' ⟨rfl, m, rfl⟩
 go_wp2_with fail
 go_quiet (fail)
 go_wp2_with fail
 exact bodyPost_ret (v := .tuple #[.int .i64 2, .int .i64 ((x - 2 * H) / S), .int .i64 ((x - 2 * H) % S)]) (by simp [results, Tryz.results75, go_sem]) rfl ⟨rfl, _, by first | rfl | exact drew2 _ _ _⟩
set_option maxRecDepth 100000 in
set_option maxHeartbeats 4000000 in
theorem kindR_sdn (hB : MV w b H S) (n : Net H S) {x : Int} (h0 : 2 * H + mm H S ≤ x) (h1 : x < 2 * H + 2 * mm H S) : Calls Tryz.prog 75 #[ptr b, .int .i64 x] w fun e w' => e = .returned (kv (4, (x - 2 * H - mm H S) / lv H, (x - 2 * H - mm H S) % lv H)) ∧ ∃ m, w' = w.drewN m := by
 have c0 := hB.cell (o := 0) rfl
 have c1 := hB.cell (o := 1) rfl
 have c2 := hB.cell (o := 2) rfl
 have PT := Lib.hid fun w h => portsR_any (w := w) (b := b) h n
 have HB := Lib.hid hB
 have ww := mm_wrap n
 have hm := mm_in n
 have hl := lv_in n
 have n0 := n.h0
 have n1 := n.h1
 have n2 := n.s0
 have n3 := n.s1
 have HP : Hid (pts H S = 2 * H + 2 * mm H S) := Lib.hid rfl
 have g0 : ¬ x < 0 := by omega
 have g1 : ¬ pts H S ≤ x := by have := HP.out; omega
 have d1 : decide (pts H S ≤ x) = false := decide_eq_false g1
 have g2 : ¬ x < H := by omega
 have g3 : ¬ x < 2 * H := by omega
 have g4 : ¬ x < 2 * H + mm H S := by omega
 have e4 : S * lv H = mm H S := Int.mul_comm _ _
 have dv := div_in (k := x - 2 * H - mm H S) (n := lv H) (L := S) hl.1 (by omega) (by rw [e4]; omega)
 have hS0 : ¬ lv H = 0 := by omega
 have hS1 : (lv H == 0) = false := by rw [beq_eq_false_iff_ne]; exact hS0
 clear e4
 have EV : kv (4, (x - 2 * H - mm H S) / lv H, (x - 2 * H - mm H S) % lv H) = .tuple #[.int .i64 3, .int .i64 ((x - 2 * H - mm H S) / lv H), .int .i64 ((x - 2 * H - mm H S) % lv H)] := by unfold kv; simp
 rw [EV]
 clear EV
 generalize mm H S = M at *
 generalize pts H S = P at *
 generalize lv H = L at *
 go_enter Tryz.func75, Tryz.ntmps75
 go_upto_region 1 with fail
 go_quiet (fail)
 go_wp2_with fail
 with_reducible refine Calls.mono (PT.out _ (HB.out.drewN _)) ?_
 rintro e w' ⟨rfl, m, rfl⟩
 go_wp2_with fail
 go_quiet (fail)
 go_wp2_with fail
 exact bodyPost_ret (v := .tuple #[.int .i64 3, .int .i64 ((x - 2 * H - M) / L), .int .i64 ((x - 2 * H - M) % L)]) (by simp [results, Tryz.results75, go_sem]) rfl ⟨rfl, _, by first | rfl | exact drew2 _ _ _⟩
theorem kindR_any (hB : MV w b H S) (n : Net H S) (x : Int) : Calls Tryz.prog 75 #[ptr b, .int .i64 x] w fun e w' => e = .returned (kv (kd H S x)) ∧ ∃ m, w' = w.drewN m := by
 rcases five n x with h | ⟨h, h2⟩ | ⟨h, h2⟩ | ⟨h, h2⟩ | ⟨h, h2⟩
 ·rw [kd_none h]
  by_cases h2 : x < 0
  ·exact kindR_neg hB n h2
  ·exact kindR_far hB n h2 (by omega)
 ·rw [kd_up n h h2]; exact kindR_up hB n h h2
 ·rw [kd_down n h h2]; exact kindR_down hB n h h2
 ·rw [kd_lup n h h2]; exact kindR_lup hB n h h2
 ·rw [kd_sdn n h h2]; exact kindR_sdn hB n h h2
end Go.Proofs.YtpogpibjkolioaaGreat.Tp

/- The reference's Next. Conditions: each theorem's own. -/
namespace Go.Proofs.YtpogpibjkolioaaGreat.Tp
open Go.RowKit Hp TpM
attribute [local go_sem ↓] Go.wp_at_zero Go.wp_at_succ
variable {w : World} {b : Nat} {H S : Int}
theorem kv_none : kv (0, 0, 0) = .tuple #[.int .i64 (-1), .int .i64 0, .int .i64 0] := by unfold kv; simp
theorem kv_up (a c : Int) : kv (1, a, c) = .tuple #[.int .i64 0, .int .i64 a, .int .i64 0] := by unfold kv; simp
theorem kv_down (a c : Int) : kv (2, a, c) = .tuple #[.int .i64 1, .int .i64 a, .int .i64 c] := by unfold kv; simp
theorem kv_lup (a c : Int) : kv (3, a, c) = .tuple #[.int .i64 2, .int .i64 a, .int .i64 c] := by unfold kv; simp
theorem kv_sdn (a c : Int) : kv (4, a, c) = .tuple #[.int .i64 3, .int .i64 a, .int .i64 c] := by unfold kv; simp
theorem sp_cases (n : Net H S) (q : Int) : (q.tmod S < 0 ∧ sp S q = q.tmod S + S ∧ -S ≤ q.tmod S) ∨ (¬ q.tmod S < 0 ∧ sp S q = q.tmod S ∧ q.tmod S < S) := by
 have h := sp_in n q
 unfold sp at h ⊢
 split
 ·rename_i g; rw [if_pos g] at h; exact Or.inl ⟨g, rfl, by omega⟩
 ·rename_i g; rw [if_neg g] at h; exact Or.inr ⟨g, rfl, by omega⟩
theorem nextR_none (hB : MV w b H S) (n : Net H S) {x d q : Int} (hk : kd H S x = (0, 0, 0)) : Calls Tryz.prog 43 #[ptr b, .int .i64 x, .int .i64 d, .int .i64 q] w fun e w' => e = .returned (nv (-1, false)) ∧ Kept (fun _ => False) w w' := by
 have CK := kindR_any hB n x
 rw [hk, kv_none] at CK
 have CK := Lib.hid CK
 clear hk
 go_enter Tryz.func43, Tryz.ntmps43
 go_wp2_with fail
 with_reducible refine Calls.mono CK.out ?_
 rintro e w' ⟨rfl, m, rfl⟩
 go_wp2_with fail
 exact bodyPost_ret (v := nv (-1, false)) (by simp [results, Tryz.results43, go_sem]) rfl ⟨rfl, (Kept.refl _ w).drewN m⟩
theorem nextR_off (hB : MV w b H S) (n : Net H S) {x d q g a c : Int} (hv : kv (kd H S x) = .tuple #[.int .i64 g, .int .i64 a, .int .i64 c]) (hg : ¬ g < 0) (hd : d < 0 ∨ (¬ d < 0 ∧ H ≤ d)) : Calls Tryz.prog 43 #[ptr b, .int .i64 x, .int .i64 d, .int .i64 q] w fun e w' => e = .returned (nv (-1, false)) ∧ Kept (fun _ => False) w w' := by
 have CK := kindR_any hB n x
 rw [hv] at CK
 have CK := Lib.hid CK
 have c0 := hB.cell (o := 0) rfl
 clear hv
 rcases hd with h1 | ⟨h1, h2⟩
 all_goals
  go_enter Tryz.func43, Tryz.ntmps43
  go_wp2_with fail
  with_reducible refine Calls.mono CK.out ?_
  rintro e w' ⟨rfl, m, rfl⟩
  go_wp2_with fail
  exact bodyPost_ret (v := nv (-1, false)) (by simp [results, Tryz.results43, go_sem]) rfl ⟨rfl, (Kept.refl _ w).drewN m⟩
set_option maxHeartbeats 4000000 in
set_option maxRecDepth 100000 in
theorem nextR_up2 (hB : MV w b H S) (n : Net H S) {x d q a c : Int} (d0 : 0 ≤ d) (d1 : d < H) (e : a / 2 = d / 2) (hk : kd H S x = (1, a, c)) : Calls Tryz.prog 43 #[ptr b, .int .i64 x, .int .i64 d, .int .i64 q] w fun e w' => e = .returned (nv (H + d, false)) ∧ Kept (fun _ => False) w w' := by
 have CK := kindR_any hB n x
 rw [hk, kv_up] at CK
 have CK := Lib.hid CK
 have hin := kd_in n x
 rw [hk] at hin
 dsimp only at hin
 clear hk
 have c0 := hB.cell (o := 0) rfl
 have c1 := hB.cell (o := 1) rfl
 have c2 := hB.cell (o := 2) rfl
 have ww := mm_wrap n
 have hm := mm_in n
 have hl := lv_in n
 have n0 := n.h0
 have n1 := n.h1
 have n2 := n.s0
 have n3 := n.s1
 have hS0 : ¬ S = 0 := by omega
 have hS1 : (S == 0) = false := by rw [beq_eq_false_iff_ne]; exact hS0
 have f0 : ¬ d < 0 := by omega
 have f1 : ¬ H ≤ d := by omega
 have f2 : decide (H ≤ d) = false := decide_eq_false f1
 have hsp := sp_cases n q
 have hsi := sp_in n q
 have hp0 := mul_small (l := a / 2) (n := S) (by omega) (by omega) (by omega) n3
 have hw : IntKind.i64.wrap (a / 2 * S) = a / 2 * S := by rw [IntKind.wrap_i64]; omega
 have r1 : a.tdiv 2 = a / 2 := Int.tdiv_eq_ediv_of_nonneg (by omega)
 have r2 : d.tdiv 2 = d / 2 := Int.tdiv_eq_ediv_of_nonneg (by omega)
 have b2 : (a / 2 == d / 2) = true := by rw [beq_iff_eq]; exact e
 clear e
 generalize sp S q = s at *
 generalize mm H S = M at *
 generalize lv H = L at *
 obtain ⟨r, hq⟩ : ∃ r, q.tmod S = r := ⟨_, rfl⟩
 rw [hq] at hsp
 rcases hsp with ⟨hr, hs, hb⟩ | ⟨hr, hs, hb⟩
 all_goals
  have HS := Lib.hid hs
  clear hs
  go_enter Tryz.func43, Tryz.ntmps43
  go_wp2_with fail
  with_reducible refine Calls.mono CK.out ?_
  rintro e w' ⟨rfl, m, rfl⟩
  go_wp2_with fail
  exact bodyPost_ret (v := nv (H + d, false)) (by simp [results, Tryz.results43, go_sem]) rfl ⟨rfl, (by first | exact (Kept.refl _ w).drewN _ | exact ((Kept.refl _ w).drewN _).drewN _)⟩
set_option maxHeartbeats 4000000 in
set_option maxRecDepth 100000 in
theorem nextR_up (hB : MV w b H S) (n : Net H S) {x d q a c : Int} (d0 : 0 ≤ d) (d1 : d < H) (e : a / 2 ≠ d / 2) (hk : kd H S x = (1, a, c)) : Calls Tryz.prog 43 #[ptr b, .int .i64 x, .int .i64 d, .int .i64 q] w fun e w' => e = .returned (nv (2 * H + (a / 2 * S + sp S q), false)) ∧ Kept (fun _ => False) w w' := by
 have CK := kindR_any hB n x
 rw [hk, kv_up] at CK
 have CK := Lib.hid CK
 have hin := kd_in n x
 rw [hk] at hin
 dsimp only at hin
 clear hk
 have c0 := hB.cell (o := 0) rfl
 have c1 := hB.cell (o := 1) rfl
 have c2 := hB.cell (o := 2) rfl
 have ww := mm_wrap n
 have hm := mm_in n
 have hl := lv_in n
 have n0 := n.h0
 have n1 := n.h1
 have n2 := n.s0
 have n3 := n.s1
 have hS0 : ¬ S = 0 := by omega
 have hS1 : (S == 0) = false := by rw [beq_eq_false_iff_ne]; exact hS0
 have f0 : ¬ d < 0 := by omega
 have f1 : ¬ H ≤ d := by omega
 have f2 : decide (H ≤ d) = false := decide_eq_false f1
 have hsp := sp_cases n q
 have hsi := sp_in n q
 have hp0 := mul_small (l := a / 2) (n := S) (by omega) (by omega) (by omega) n3
 have hw : IntKind.i64.wrap (a / 2 * S) = a / 2 * S := by rw [IntKind.wrap_i64]; omega
 have r1 : a.tdiv 2 = a / 2 := Int.tdiv_eq_ediv_of_nonneg (by omega)
 have r2 : d.tdiv 2 = d / 2 := Int.tdiv_eq_ediv_of_nonneg (by omega)
 have b2 : (a / 2 == d / 2) = false := by rw [beq_eq_false_iff_ne]; exact e
 clear e hw
 obtain ⟨p, hp⟩ : ∃ p, p = a / 2 * S := ⟨_, rfl⟩
 rw [← hp] at hp0 ⊢
 have hw : IntKind.i64.wrap (a / 2 * S) = p := by rw [← hp, IntKind.wrap_i64]; omega
 clear hp
 generalize sp S q = s at *
 generalize mm H S = M at *
 generalize lv H = L at *
 obtain ⟨r, hq⟩ : ∃ r, q.tmod S = r := ⟨_, rfl⟩
 rw [hq] at hsp
 rcases hsp with ⟨hr, hs, hb⟩ | ⟨hr, hs, hb⟩
 all_goals
  have HS := Lib.hid hs
  clear hs
  go_enter Tryz.func43, Tryz.ntmps43
  go_wp2_with fail
  with_reducible refine Calls.mono CK.out ?_
  rintro e w' ⟨rfl, m, rfl⟩
  go_wp2_with fail
  go_quiet (fail)
  go_wp2_with fail
  have hs := HS.out
  first
   | exact bodyPost_ret (v := nv (2 * H + (p + s), false)) (by simp [results, Tryz.results43, go_sem]; omega) rfl ⟨rfl, (by first | exact (Kept.refl _ w).drewN _ | exact ((Kept.refl _ w).drewN _).drewN _)⟩
set_option maxHeartbeats 4000000 in
set_option maxRecDepth 100000 in
theorem nextR_down (hB : MV w b H S) (n : Net H S) {x d q a c : Int} (d0 : 0 ≤ d) (d1 : d < H) (hk : kd H S x = (2, a, c)) : Calls Tryz.prog 43 #[ptr b, .int .i64 x, .int .i64 d, .int .i64 q] w fun e w' => e = .returned (nv (-1, true)) ∧ Kept (fun _ => False) w w' := by
 have CK := kindR_any hB n x
 rw [hk, kv_down] at CK
 have CK := Lib.hid CK
 have hin := kd_in n x
 rw [hk] at hin
 dsimp only at hin
 clear hk
 have c0 := hB.cell (o := 0) rfl
 have c1 := hB.cell (o := 1) rfl
 have c2 := hB.cell (o := 2) rfl
 have ww := mm_wrap n
 have hm := mm_in n
 have hl := lv_in n
 have n0 := n.h0
 have n1 := n.h1
 have n2 := n.s0
 have n3 := n.s1
 have hS0 : ¬ S = 0 := by omega
 have hS1 : (S == 0) = false := by rw [beq_eq_false_iff_ne]; exact hS0
 have f0 : ¬ d < 0 := by omega
 have f1 : ¬ H ≤ d := by omega
 have f2 : decide (H ≤ d) = false := decide_eq_false f1
 have hsp := sp_cases n q
 have hsi := sp_in n q
 generalize sp S q = s at *
 generalize mm H S = M at *
 generalize lv H = L at *
 obtain ⟨r, hq⟩ : ∃ r, q.tmod S = r := ⟨_, rfl⟩
 rw [hq] at hsp
 rcases hsp with ⟨hr, hs, hb⟩ | ⟨hr, hs, hb⟩
 all_goals
  have HS := Lib.hid hs
  clear hs
  go_enter Tryz.func43, Tryz.ntmps43
  go_wp2_with fail
  with_reducible refine Calls.mono CK.out ?_
  rintro e w' ⟨rfl, m, rfl⟩
  go_wp2_with fail
  exact bodyPost_ret (v := nv (-1, true)) (by simp [results, Tryz.results43, go_sem]) rfl ⟨rfl, (by first | exact (Kept.refl _ w).drewN _ | exact ((Kept.refl _ w).drewN _).drewN _)⟩
set_option maxHeartbeats 4000000 in
set_option maxRecDepth 100000 in
theorem nextR_lup (hB : MV w b H S) (n : Net H S) {x d q a c : Int} (d0 : 0 ≤ d) (d1 : d < H) (hcl : 0 ≤ c ∧ c ≤ 4) (hk : kd H S x = (3, a, c)) : Calls Tryz.prog 43 #[ptr b, .int .i64 x, .int .i64 d, .int .i64 q] w fun e w' => e = .returned (nv (2 * H + mm H S + (c * lv H + d / 2), false)) ∧ Kept (fun _ => False) w w' := by
 have CK := kindR_any hB n x
 rw [hk, kv_lup] at CK
 have CK := Lib.hid CK
 have hin := kd_in n x
 rw [hk] at hin
 dsimp only at hin
 clear hk
 have c0 := hB.cell (o := 0) rfl
 have c1 := hB.cell (o := 1) rfl
 have c2 := hB.cell (o := 2) rfl
 have ww := mm_wrap n
 have hm := mm_in n
 have hl := lv_in n
 have n0 := n.h0
 have n1 := n.h1
 have n2 := n.s0
 have n3 := n.s1
 have hS0 : ¬ S = 0 := by omega
 have hS1 : (S == 0) = false := by rw [beq_eq_false_iff_ne]; exact hS0
 have f0 : ¬ d < 0 := by omega
 have f1 : ¬ H ≤ d := by omega
 have f2 : decide (H ≤ d) = false := decide_eq_false f1
 have hsp := sp_cases n q
 have hsi := sp_in n q
 have hp0 := mul_small (l := c) (n := lv H) hcl.1 hcl.2 (by omega) hl.2.1
 have r2 : d.tdiv 2 = d / 2 := Int.tdiv_eq_ediv_of_nonneg (by omega)
 obtain ⟨p, hp⟩ : ∃ p, p = c * lv H := ⟨_, rfl⟩
 rw [← hp] at hp0 ⊢
 have hw : IntKind.i64.wrap (c * lv H) = p := by rw [← hp, IntKind.wrap_i64]; omega
 clear hp
 generalize sp S q = s at *
 generalize mm H S = M at *
 generalize lv H = L at *
 obtain ⟨r, hq⟩ : ∃ r, q.tmod S = r := ⟨_, rfl⟩
 rw [hq] at hsp
 rcases hsp with ⟨hr, hs, hb⟩ | ⟨hr, hs, hb⟩
 all_goals
  have HS := Lib.hid hs
  clear hs
  go_enter Tryz.func43, Tryz.ntmps43
  go_wp2_with fail
  with_reducible refine Calls.mono CK.out ?_
  rintro e w' ⟨rfl, m, rfl⟩
  go_wp2_with fail
  go_quiet (fail)
  go_wp2_with fail
  exact bodyPost_ret (v := nv (2 * H + M + (p + d / 2), false)) (by simp [results, Tryz.results43, go_sem]; omega) rfl ⟨rfl, (by first | exact (Kept.refl _ w).drewN _ | exact ((Kept.refl _ w).drewN _).drewN _)⟩
set_option maxHeartbeats 4000000 in
set_option maxRecDepth 100000 in
theorem nextR_sdn (hB : MV w b H S) (n : Net H S) {x d q a c : Int} (d0 : 0 ≤ d) (d1 : d < H) (e : c ≠ d / 2) (hk : kd H S x = (4, a, c)) : Calls Tryz.prog 43 #[ptr b, .int .i64 x, .int .i64 d, .int .i64 q] w fun e w' => e = .returned (nv (-1, false)) ∧ Kept (fun _ => False) w w' := by
 have CK := kindR_any hB n x
 rw [hk, kv_sdn] at CK
 have CK := Lib.hid CK
 have hin := kd_in n x
 rw [hk] at hin
 dsimp only at hin
 clear hk
 have c0 := hB.cell (o := 0) rfl
 have c1 := hB.cell (o := 1) rfl
 have c2 := hB.cell (o := 2) rfl
 have ww := mm_wrap n
 have hm := mm_in n
 have hl := lv_in n
 have n0 := n.h0
 have n1 := n.h1
 have n2 := n.s0
 have n3 := n.s1
 have hS0 : ¬ S = 0 := by omega
 have hS1 : (S == 0) = false := by rw [beq_eq_false_iff_ne]; exact hS0
 have f0 : ¬ d < 0 := by omega
 have f1 : ¬ H ≤ d := by omega
 have f2 : decide (H ≤ d) = false := decide_eq_false f1
 have hsp := sp_cases n q
 have hsi := sp_in n q
 have b2 : (c == d / 2) = false := by rw [beq_eq_false_iff_ne]; exact e
 have b3 : (c != d / 2) = true := by rw [bne_iff_ne]; exact e
 have r2 : d.tdiv 2 = d / 2 := Int.tdiv_eq_ediv_of_nonneg (by omega)
 clear e
 generalize sp S q = s at *
 generalize mm H S = M at *
 generalize lv H = L at *
 obtain ⟨r, hq⟩ : ∃ r, q.tmod S = r := ⟨_, rfl⟩
 rw [hq] at hsp
 rcases hsp with ⟨hr, hs, hb⟩ | ⟨hr, hs, hb⟩
 all_goals
  have HS := Lib.hid hs
  clear hs
  go_enter Tryz.func43, Tryz.ntmps43
  go_wp2_with fail
  with_reducible refine Calls.mono CK.out ?_
  rintro e w' ⟨rfl, m, rfl⟩
  go_wp2_with fail
  exact bodyPost_ret (v := nv (-1, false)) (by simp [results, Tryz.results43, go_sem]) rfl ⟨rfl, (by first | exact (Kept.refl _ w).drewN _ | exact ((Kept.refl _ w).drewN _).drewN _)⟩
set_option maxHeartbeats 4000000 in
set_option maxRecDepth 100000 in
theorem nextR_sdn2 (hB : MV w b H S) (n : Net H S) {x d q a c : Int} (d0 : 0 ≤ d) (d1 : d < H) (e : c = d / 2) (hk : kd H S x = (4, a, c)) : Calls Tryz.prog 43 #[ptr b, .int .i64 x, .int .i64 d, .int .i64 q] w fun e w' => e = .returned (nv (H + d, false)) ∧ Kept (fun _ => False) w w' := by
 have CK := kindR_any hB n x
 rw [hk, kv_sdn] at CK
 have CK := Lib.hid CK
 have hin := kd_in n x
 rw [hk] at hin
 dsimp only at hin
 clear hk
 have c0 := hB.cell (o := 0) rfl
 have c1 := hB.cell (o := 1) rfl
 have c2 := hB.cell (o := 2) rfl
 have ww := mm_wrap n
 have hm := mm_in n
 have hl := lv_in n
 have n0 := n.h0
 have n1 := n.h1
 have n2 := n.s0
 have n3 := n.s1
 have hS0 : ¬ S = 0 := by omega
 have hS1 : (S == 0) = false := by rw [beq_eq_false_iff_ne]; exact hS0
 have f0 : ¬ d < 0 := by omega
 have f1 : ¬ H ≤ d := by omega
 have f2 : decide (H ≤ d) = false := decide_eq_false f1
 have hsp := sp_cases n q
 have hsi := sp_in n q
 have b2 : (c == d / 2) = true := by rw [beq_iff_eq]; exact e
 have b3 : (c != d / 2) = false := by rw [bne_eq_false_iff_eq]; exact e
 have r2 : d.tdiv 2 = d / 2 := Int.tdiv_eq_ediv_of_nonneg (by omega)
 have E := Lib.hid e
 clear e
 generalize sp S q = s at *
 generalize mm H S = M at *
 generalize lv H = L at *
 obtain ⟨r, hq⟩ : ∃ r, q.tmod S = r := ⟨_, rfl⟩
 rw [hq] at hsp
 rcases hsp with ⟨hr, hs, hb⟩ | ⟨hr, hs, hb⟩
 all_goals
  have HS := Lib.hid hs
  clear hs
  go_enter Tryz.func43, Tryz.ntmps43
  go_wp2_with fail
  with_reducible refine Calls.mono CK.out ?_
  rintro e w' ⟨rfl, m, rfl⟩
  go_wp2_with fail
  exact bodyPost_ret (v := nv (H + d, false)) (by simp [results, Tryz.results43, go_sem]) rfl ⟨rfl, (by first | exact (Kept.refl _ w).drewN _ | exact ((Kept.refl _ w).drewN _).drewN _)⟩
theorem nextR_any (hB : MV w b H S) (n : Net H S) (x d q : Int) : Calls Tryz.prog 43 #[ptr b, .int .i64 x, .int .i64 d, .int .i64 q] w fun e w' => e = .returned (nv (nx H S x d q)) ∧ Kept (fun _ => False) w w' := by
 have hl := lv_in n
 have hm := mm_in n
 have n0 := n.h0
 have n1 := n.h1
 by_cases hd : d < 0 ∨ H ≤ d
 ·rw [nx_off hd]
  have hd2 : d < 0 ∨ (¬ d < 0 ∧ H ≤ d) := by omega
  rcases five n x with h | ⟨h, h2⟩ | ⟨h, h2⟩ | ⟨h, h2⟩ | ⟨h, h2⟩
  ·exact nextR_none hB n (kd_none h)
  ·exact nextR_off hB n (by rw [kd_up n h h2, kv_up]) (by decide) hd2
  ·exact nextR_off hB n (by rw [kd_down n h h2, kv_down]) (by decide) hd2
  ·exact nextR_off hB n (by rw [kd_lup n h h2, kv_lup]) (by decide) hd2
  ·exact nextR_off hB n (by rw [kd_sdn n h h2, kv_sdn]) (by decide) hd2
 have d0 : 0 ≤ d := by omega
 have d1 : d < H := by omega
 rcases five n x with h | ⟨h, h2⟩ | ⟨h, h2⟩ | ⟨h, h2⟩ | ⟨h, h2⟩
 ·rw [nx_none h]; exact nextR_none hB n (kd_none h)
 ·rw [nx_up n d0 d1 h h2]
  split
  ·exact nextR_up2 hB n d0 d1 (by assumption) (kd_up n h h2)
  ·exact nextR_up hB n d0 d1 (by assumption) (kd_up n h h2)
 ·rw [nx_down n d0 d1 h h2]; exact nextR_down hB n d0 d1 (kd_down n h h2)
 ·rw [nx_lup n d0 d1 h h2]
  have := div_in (k := x - 2 * H) (n := S) (L := lv H) n.s0 (by omega) (by show _ < mm H S; omega)
  exact nextR_lup hB n d0 d1 ⟨this.2.2.1, by have := n.s1; omega⟩ (kd_lup n h h2)
 ·rw [nx_sdn n d0 d1 h h2]
  split
  ·exact nextR_sdn2 hB n d0 d1 (by assumption) (kd_sdn n h h2)
  ·exact nextR_sdn hB n d0 d1 (by assumption) (kd_sdn n h h2)
end Go.Proofs.YtpogpibjkolioaaGreat.Tp

/- The document's own fabric in memory: how it lies, what a port's call leaves of it. Conditions: each theorem's own. -/
namespace Go.Proofs.YtpogpibjkolioaaGreat.Fc
open Go.RowKit Hp QuM Rw Qu Po NumM NumC FbM TpM Tp Go.Proofs.YtpogpibjkolioaaGreat.Fb Rf
abbrev tFr : TypeId := 57
abbrev tPr : TypeId := 75
abbrev tFs : TypeId := 58
structure Ar where
 mb : Nat
 nb : Nat
 pb : Nat
 cp : Nat
 ib : Nat
 ms : Nat → Nat
 iv : Nat → Value
structure Rb (w0 : World) (K : Cf) (N : Mo) (X : Nat → Prop) (a : Ar) (w : World) : Prop where
 cf : K.Ok
 since : Kept (fun _ => False) w0 w
 xb : ∀ i, X i → w0.heap.size ≤ i ∧ i < w.heap.size
 blk : Blk w a.mb [ptr a.nb, .slice (some ⟨a.pb, 0, none⟩) K.n a.cp, .slice (some ⟨a.ib, 0, none⟩) K.hn K.hn, .int .i64 N.L] tFr
 mv : MV w a.nb K.H K.S
 prow : ∃ c, Blk w a.pb c tPr ∧ ∀ p, p < K.n → c[p]? = some (.pointer (some ⟨a.ms p, 0, none⟩))
 irow : ∃ c, Blk w a.ib c tFs ∧ ∀ h, h < K.hn → c[h]? = some (a.iv h)
 prt : ∀ p, p < K.n → ∃ R, RP w0 (a.ms p) K.room K.most K.trim (N.P p) R w ∧ ∀ i, R i → X i
 inb : ∀ h, h < K.hn → Ro.Row fT w (a.iv h) (N.I h)
 dat : ∀ h x, h < K.hn → x ∈ N.I h → Rok w0 x
 inj : ∀ p q, p < K.n → q < K.n → a.ms p = a.ms q → p = q
 xs : X a.mb ∧ X a.nb ∧ X a.pb ∧ X a.ib
 xi : ∀ h g, h < K.hn → (a.iv h).ownBlock = some g → X g
 few : K.n ≤ a.cp ∧ a.cp ≤ maxLen
variable {w0 w w' w'' : World} {K : Cf} {N : Mo} {X X' : Nat → Prop} {a : Ar} {mb : Nat}
theorem Rb.kept {G : Nat → Prop} (h : Rb w0 K N X a w) (k : Kept G w w') (hG : ∀ i, G i → X i → False) (hw : ∀ i, G i → w0.heap.size ≤ i) : Rb w0 K N X a w' := by
 obtain ⟨c1, h1, h2⟩ := h.prow
 obtain ⟨c2, h3, h4⟩ := h.irow
 exact { h with
  since := h.since.trans' k (fun i hi g => by have := hw i g; omega)
  xb := fun i hi => ⟨(h.xb i hi).1, Nat.lt_of_lt_of_le (h.xb i hi).2 k.size⟩
  blk := k.blk h.blk (fun g => hG _ g h.xs.1)
  mv := k.blk h.mv (fun g => hG _ g h.xs.2.1)
  prow := ⟨c1, k.blk h1 (fun g => hG _ g h.xs.2.2.1), h2⟩
  irow := ⟨c2, k.blk h3 (fun g => hG _ g h.xs.2.2.2), h4⟩
  prt := fun p hp => by
   obtain ⟨R, h5, h6⟩ := h.prt p hp
   exact ⟨R, h5.far k (fun i g e => hG i g (h6 i e)) hw, h6⟩
  inb := fun j hj => (h.inb j hj).kept k (fun g hg e => hG g e (h.xi j g hj hg)) }
theorem Rb.old (h : Rb w0 K N X a w) (k : Kept (fun _ => False) w w') : Rb w0 K N X a w' := h.kept k (fun _ f => f.elim) (fun _ f => f.elim)
theorem Rb.more (h : Rb w0 K N X a w) (hX : ∀ i, X i → X' i) (hb : ∀ i, X' i → w0.heap.size ≤ i ∧ i < w.heap.size) : Rb w0 K N X' a w :=
 { h with
  xb := hb
  prt := fun p hp => by
   obtain ⟨R, h5, h6⟩ := h.prt p hp
   exact ⟨R, h5, fun i e => hX i (h6 i e)⟩
  xs := ⟨hX _ h.xs.1, hX _ h.xs.2.1, hX _ h.xs.2.2.1, hX _ h.xs.2.2.2⟩
  xi := fun j g hj hg => hX g (h.xi j g hj hg) }
def gro (X : Nat → Prop) (w w' : World) (i : Nat) : Prop := X i ∨ (w.heap.size ≤ i ∧ i < w'.heap.size)
def Wr (X : Nat → Prop) (w w' : World) : Prop := ∃ G : Nat → Prop, Kept G w w' ∧ (∀ i, G i → X i) ∧ ∀ i, G i → i < w.heap.size → ∃ C T, Blk w i C T ∧ T ≠ 5
theorem Wr.size (h : Wr X w w') : w.heap.size ≤ w'.heap.size := by obtain ⟨G, h1, _⟩ := h; exact h1.size
theorem Wr.of_old (k : Kept (fun _ => False) w w') : Wr X w w' := ⟨_, k, fun _ f => f.elim, fun _ f => f.elim⟩
theorem Wr.trans (h : Wr X w w') (h2 : Wr (gro X w w') w' w'') : Wr X w w'' := by
 obtain ⟨G, h1, h3, h4⟩ := h
 obtain ⟨G2, h5, h6, h7⟩ := h2
 refine ⟨fun i => G i ∨ (i < w.heap.size ∧ G2 i), (h1.mono (fun i _ e => Or.inl e)).trans' h5 (fun i hi e => Or.inr ⟨hi, e⟩), ?_, ?_⟩
 ·rintro i (e | ⟨e1, e2⟩)
  ·exact h3 i e
  ·rcases h6 i e2 with e | e
   ·exact e
   ·omega
 ·intro i e hi
  by_cases hg : G i
  ·exact h4 i hg hi
  ·rcases e with e | ⟨_, e⟩
   ·exact absurd e hg
   ·obtain ⟨C, T, hB, hT⟩ := h7 i e (Nat.lt_of_lt_of_le hi h1.size)
    exact ⟨C, T, hB.heap (h1.block i hi hg).symm, hT⟩
theorem gro_gro (h1 : w.heap.size ≤ w'.heap.size) (h2 : w'.heap.size ≤ w''.heap.size) : ∀ i, gro (gro X w w') w' w'' i → gro X w w'' i := by
 rintro i ((e | e) | e)
 ·exact Or.inl e
 ·exact Or.inr ⟨e.1, by omega⟩
 ·exact Or.inr ⟨by omega, e.2⟩
def RB (w0 : World) (K : Cf) (N : Mo) (X : Nat → Prop) (mb : Nat) (w : World) : Prop := ∃ a : Ar, a.mb = mb ∧ Rb w0 K N X a w
theorem RB.old (h : RB w0 K N X mb w) (k : Kept (fun _ => False) w w') : RB w0 K N X mb w' := by obtain ⟨a, e, h⟩ := h; exact ⟨a, e, h.old k⟩
theorem RB.since (h : RB w0 K N X mb w) : Kept (fun _ => False) w0 w := by obtain ⟨a, e, h⟩ := h; exact h.since
theorem RB.xb (h : RB w0 K N X mb w) : ∀ i, X i → w0.heap.size ≤ i ∧ i < w.heap.size := by obtain ⟨a, e, h⟩ := h; exact h.xb
def Rc (w0 : World) (K : Cf) (X : Nat → Prop) (mb : Nat) (w : World) (N' : Mo) (w' : World) : Prop := RB w0 K N' (gro X w w') mb w' ∧ Wr X w w'
theorem gro_b (hX : ∀ i, X i → w0.heap.size ≤ i ∧ i < w.heap.size) (h0 : w0.heap.size ≤ w.heap.size) (hs : w.heap.size ≤ w'.heap.size) : ∀ i, gro X w w' i → w0.heap.size ≤ i ∧ i < w'.heap.size := by
 rintro i (e | e)
 ·have := hX i e; exact ⟨this.1, by omega⟩
 ·exact ⟨by omega, e.2⟩
theorem Rc.behind {N' : Mo} (k : Kept (fun _ => False) w w') (h : Rc w0 K X mb w' N' w'') (h0 : w0.heap.size ≤ w.heap.size) (hX : ∀ i, X i → w0.heap.size ≤ i ∧ i < w.heap.size) : Rc w0 K X mb w N' w'' := by
 obtain ⟨⟨a, e, h1⟩, h2⟩ := h
 have hs := h2.size
 have hk := k.size
 refine ⟨⟨a, e, h1.more (fun i hi => ?_) (gro_b hX h0 (by omega))⟩, ?_⟩
 ·rcases hi with hi | hi
  ·exact Or.inl hi
  ·exact Or.inr ⟨by omega, hi.2⟩
 ·obtain ⟨G, h3, h4, h5⟩ := h2
  refine ⟨G, (k.mono (fun _ _ f => f.elim)).trans h3, h4, fun i hi hlt => ?_⟩
  obtain ⟨C, T, hB, hT⟩ := h5 i hi (by omega)
  exact ⟨C, T, hB.heap (k.block i hlt (fun f => f)).symm, hT⟩
theorem RP.blk {m : Nat} {room most : Int} {trim : Bool} {P : Pt} {R : Nat → Prop} (h : RP w0 m room most trim P R w) : ∃ C, Blk w m C tR := by
 obtain ⟨_, _, _, vs, vc, h, _⟩ := h
 exact ⟨_, h.blk⟩
theorem RP.own {m : Nat} {room most : Int} {trim : Bool} {P : Pt} {R : Nat → Prop} (h : RP w0 m room most trim P R w) : R m ∧ w0.heap.size ≤ m := by
 obtain ⟨_, _, _, h⟩ := h
 exact h.own
theorem RP.only {m i : Nat} {room most : Int} {trim : Bool} {P : Pt} {R : Nat → Prop} {C : List Value} (h : RP w0 m room most trim P R w) (hi : R i) (hB : Blk w i C tR) : i = m := by
 obtain ⟨_, _, _, vs, vc, h, rfl⟩ := h
 rcases hi with e | ⟨k, hk, e⟩ | e
 ·exact e
 ·exact absurd rfl (row_ne (h.row k hk) hB e)
 ·exact absurd rfl (row_ne h.rowc hB e)
theorem frow_blk {v : Value} {l : List Bx} (h : Ro.Row fT w v l) {g : Nat} (hg : v.ownBlock = some g) : ∃ C, Blk w g C 35 := by
 rcases h with ⟨rfl, _⟩ | ⟨g', o, cap, cur, rfl, h2⟩
 ·cases hg
 ·cases hg; exact ⟨_, h2.blk⟩
theorem Rb.port (h : Rb w0 K N X a w) {p : Nat} (hp : p < K.n) {R R' : Nat → Prop} {P' : Pt} (hR : RP w0 (a.ms p) K.room K.most K.trim (N.P p) R w) (hX : ∀ i, R i → X i) (hR' : RP w0 (a.ms p) K.room K.most K.trim P' R' w') (hn : RN (a.ms p) R w R' w') :
  Rb w0 K { N with P := upd N.P p P' } (gro X w w') a w' ∧ Wr X w w' := by
 obtain ⟨k, hk2⟩ := hn
 obtain ⟨C, hB⟩ := RP.blk hR
 obtain ⟨hm1, hm2⟩ := RP.own hR
 obtain ⟨c1, h1, h2⟩ := h.prow
 obtain ⟨c2, h3, h4⟩ := h.irow
 have ne : ∀ {i : Nat} {D : List Value} {T : TypeId}, Blk w i D T → T ≠ tR → ¬ i = a.ms p := fun hD hT e => by subst e; exact hT (hD.inj hB).2
 have hs := k.size
 refine ⟨⟨h.cf, h.since.trans' k (fun i hi e => by omega), gro_b h.xb h.since.size hs, k.blk h.blk (ne h.blk (by decide)), k.blk h.mv (ne h.mv (by decide)), ⟨c1, k.blk h1 (ne h1 (by decide)), h2⟩, ⟨c2, k.blk h3 (ne h3 (by decide)), h4⟩, fun q hq => ?_, fun j hj => (h.inb j hj).kept k (fun g hg => by obtain ⟨D, hD⟩ := frow_blk (h.inb j hj) hg; exact ne hD (by decide)), h.dat, h.inj, ⟨Or.inl h.xs.1, Or.inl h.xs.2.1, Or.inl h.xs.2.2.1, Or.inl h.xs.2.2.2⟩, fun j g hj hg => Or.inl (h.xi j g hj hg), h.few⟩, ⟨_, k, fun i e => by subst e; exact hX _ hm1, fun i e _ => by subst e; exact ⟨C, tR, hB, by decide⟩⟩⟩
 by_cases e : q = p
 ·subst e
  show ∃ R, RP w0 (a.ms q) K.room K.most K.trim (upd N.P q P' q) R w' ∧ _
  rw [upd_self]
  refine ⟨R', hR', fun i hi => ?_⟩
  rcases hk2 i hi with e | e
  ·exact Or.inl (hX i e)
  ·exact Or.inr ⟨e, RP.bound hR' hi⟩
 ·show ∃ R, RP w0 (a.ms q) K.room K.most K.trim (upd N.P p P' q) R w' ∧ _
  rw [upd_ne _ _ e]
  obtain ⟨R2, h5, h6⟩ := h.prt q hq
  refine ⟨R2, h5.far k (fun i e1 e2 => ?_) (fun i e1 => by omega), fun i hi => Or.inl (h6 i hi)⟩
  subst e1
  exact e (h.inj q p hq hp (RP.only h5 e2 hB).symm)
theorem Rb.setL (h : Rb w0 K N X a w) (L : Int) : Rb w0 K { N with L := L } X a (w.setCell ⟨a.mb, 3, none⟩ (.int .i64 L)) ∧ Wr X w (w.setCell ⟨a.mb, 3, none⟩ (.int .i64 L)) := by
 have k : Kept (fun i => i = a.mb) w (w.setCell ⟨a.mb, 3, none⟩ (.int .i64 L)) := Kept.one w a.mb 3 _
 obtain ⟨c1, h1, h2⟩ := h.prow
 obtain ⟨c2, h3, h4⟩ := h.irow
 have ne : ∀ {i : Nat} {D : List Value} {T : TypeId}, Blk w i D T → T ≠ tFr → ¬ i = a.mb := fun hD hT e => by subst e; exact hT (hD.inj h.blk).2
 have hm := h.xb _ h.xs.1
 refine ⟨{ h with
  since := h.since.trans' k (fun i hi e => by omega)
  xb := fun i hi => ⟨(h.xb i hi).1, Nat.lt_of_lt_of_le (h.xb i hi).2 k.size⟩
  blk := h.blk.set 3 _
  mv := k.blk h.mv (ne h.mv (by decide))
  prow := ⟨c1, k.blk h1 (ne h1 (by decide)), h2⟩
  irow := ⟨c2, k.blk h3 (ne h3 (by decide)), h4⟩
  prt := fun p hp => by
   obtain ⟨R, h5, h6⟩ := h.prt p hp
   refine ⟨R, h5.far k (fun i e1 e2 => ?_) (fun i e1 => by omega), h6⟩
   subst e1
   obtain ⟨_, _, _, vs, vc, h7, rfl⟩ := h5
   rcases e2 with e | ⟨k, hk, e⟩ | e
   ·exact absurd (e ▸ h.blk |>.inj h7.blk).2 (by decide)
   ·rcases h7.row k hk with ⟨q, _⟩ | ⟨g', o, cap, cur, q, h8⟩
    ·rw [q] at e; cases e
    ·rw [q] at e; cases e; exact absurd (h.blk.inj h8.blk).2 (by decide)
   ·rcases h7.rowc with ⟨q, _⟩ | ⟨g', o, cap, cur, q, h8⟩
    ·rw [q] at e; cases e
    ·rw [q] at e; cases e; exact absurd (h.blk.inj h8.blk).2 (by decide)
  inb := fun j hj => (h.inb j hj).kept k (fun g hg => by obtain ⟨D, hD⟩ := frow_blk (h.inb j hj) hg; exact ne hD (by decide)) }, ⟨_, k, fun i e => by subst e; exact h.xs.1, fun i e _ => by subst e; exact ⟨_, tFr, h.blk, by decide⟩⟩⟩
def Rca (w0 : World) (K : Cf) (X : Nat → Prop) (a : Ar) (w : World) (N' : Mo) (w' : World) : Prop := Rb w0 K N' (gro X w w') a w' ∧ Wr X w w'
theorem Rca.rc {N' : Mo} (h : Rca w0 K X a w N' w') : Rc w0 K X a.mb w N' w' := ⟨⟨a, rfl, h.1⟩, h.2⟩
theorem Rca.behind {N' : Mo} (h0 : Rb w0 K N X a w) (k : Kept (fun _ => False) w w') (h : Rca w0 K X a w' N' w'') : Rca w0 K X a w N' w'' := by
 obtain ⟨h1, h2⟩ := h
 have hs := h2.size
 have hk := k.size
 refine ⟨h1.more (fun i hi => ?_) (gro_b h0.xb h0.since.size (by omega)), ?_⟩
 ·rcases hi with hi | hi
  ·exact Or.inl hi
  ·exact Or.inr ⟨by omega, hi.2⟩
 ·obtain ⟨G, h3, h4, h5⟩ := h2
  refine ⟨G, (k.mono (fun _ _ f => f.elim)).trans h3, h4, fun i hi hlt => ?_⟩
  obtain ⟨C, T, hB, hT⟩ := h5 i hi (by omega)
  exact ⟨C, T, hB.heap (k.block i hlt (fun f => f)).symm, hT⟩
theorem Rca.andThen {N' N'' : Mo} (h0 : Rb w0 K N X a w) (h : Rca w0 K X a w N' w') (h2 : Rca w0 K (gro X w w') a w' N'' w'') : Rca w0 K X a w N'' w'' := by
 obtain ⟨h1, h3⟩ := h
 obtain ⟨h4, h5⟩ := h2
 have hs := h3.size
 have hk := h5.size
 exact ⟨h4.more (fun i hi => gro_gro hs hk i hi) (gro_b h0.xb h0.since.size (by omega)), h3.trans h5⟩
theorem Rca.same (h : Rb w0 K N X a w) (k : Kept (fun _ => False) w w') : Rca w0 K X a w N w' := ⟨(h.old k).more (fun i hi => Or.inl hi) (gro_b h.xb h.since.size k.size), Wr.of_old k⟩
theorem Rca.old {N' : Mo} (h0 : Rb w0 K N X a w) (h : Rca w0 K X a w N' w') (k : Kept (fun _ => False) w' w'') : Rca w0 K X a w N' w'' := h.andThen h0 (Rca.same h.1 k)
theorem Rca.setL {N' : Mo} (h0 : Rb w0 K N X a w) (h : Rca w0 K X a w N' w') (L : Int) : Rca w0 K X a w { N' with L := L } (w'.setCell ⟨a.mb, 3, none⟩ (.int .i64 L)) := by
 obtain ⟨h1, h2⟩ := h.1.setL L
 exact h.andThen h0 ⟨h1.more (fun i hi => Or.inl hi) (gro_b h.1.xb h.1.since.size (by simp)), h2⟩
theorem Rca.port (h : Rb w0 K N X a w) {p : Nat} (hp : p < K.n) {R R' : Nat → Prop} {P' : Pt} (hR : RP w0 (a.ms p) K.room K.most K.trim (N.P p) R w) (hX : ∀ i, R i → X i) (hR' : RP w0 (a.ms p) K.room K.most K.trim P' R' w') (hn : RN (a.ms p) R w R' w') :
  Rca w0 K X a w { N with P := upd N.P p P' } w' := h.port hp hR hX hR' hn
end Go.Proofs.YtpogpibjkolioaaGreat.Fc

