/- The reference's Next. Conditions: each theorem's own. -/
import Derived.Test.YtoieogembfdmfaaDoorTpRf
set_option linter.unusedVariables false
set_option linter.unusedSimpArgs false
namespace Go.Proofs.YtoieogembfdmfaaDoor.Tp
open Go.RowKit Hp TpM
attribute [local go_sem ↓] Go.wp_at_zero Go.wp_at_succ
variable {w : World} {b : Nat} {H S : Int}
theorem kv_none : kv (0, 0, 0) = .tuple #[.int .i64 (-1), .int .i64 0, .int .i64 0] := by unfold kv; simp
theorem kv_up (a c : Int) : kv (1, a, c) = .tuple #[.int .i64 0, .int .i64 a, .int .i64 0] := by unfold kv; simp
theorem kv_down (a c : Int) : kv (2, a, c) = .tuple #[.int .i64 1, .int .i64 a, .int .i64 c] := by unfold kv; simp
theorem kv_lup (a c : Int) : kv (3, a, c) = .tuple #[.int .i64 2, .int .i64 a, .int .i64 c] := by unfold kv; simp
theorem kv_sdn (a c : Int) : kv (4, a, c) = .tuple #[.int .i64 3, .int .i64 a, .int .i64 c] := by unfold kv; simp
/-- The spine, as the reference reckons it. -/
theorem sp_cases (n : Net H S) (q : Int) : (q.tmod S < 0 ∧ sp S q = q.tmod S + S ∧ -S ≤ q.tmod S) ∨ (¬ q.tmod S < 0 ∧ sp S q = q.tmod S ∧ q.tmod S < S) := by
  have h := sp_in n q
  unfold sp at h ⊢
  split
  · rename_i g; rw [if_pos g] at h; exact Or.inl ⟨g, rfl, by omega⟩
  · rename_i g; rw [if_neg g] at h; exact Or.inr ⟨g, rfl, by omega⟩
theorem nextR_none (hB : MV w b H S) (n : Net H S) {x d q : Int} (hk : kd H S x = (0, 0, 0)) : Calls Tryd.prog 11 #[ptr b, .int .i64 x, .int .i64 d, .int .i64 q] w fun e w' => e = .returned (nv (-1, false)) ∧ Kept (fun _ => False) w w' := by
  have CK := kindR_any hB n x
  rw [hk, kv_none] at CK
  have CK := Lib.hid CK
  clear hk
  go_enter Tryd.func11, Tryd.ntmps11
  go_wp2_with fail
  with_reducible refine Calls.mono CK.out ?_
  rintro e w' ⟨rfl, m, rfl⟩
  go_wp2_with fail
  exact bodyPost_ret (v := nv (-1, false)) (by simp [results, Tryd.results11, go_sem]) rfl ⟨rfl, (Kept.refl _ w).drewN m⟩
theorem nextR_off (hB : MV w b H S) (n : Net H S) {x d q g a c : Int} (hv : kv (kd H S x) = .tuple #[.int .i64 g, .int .i64 a, .int .i64 c]) (hg : ¬ g < 0) (hd : d < 0 ∨ (¬ d < 0 ∧ H ≤ d)) : Calls Tryd.prog 11 #[ptr b, .int .i64 x, .int .i64 d, .int .i64 q] w fun e w' => e = .returned (nv (-1, false)) ∧ Kept (fun _ => False) w w' := by
  have CK := kindR_any hB n x
  rw [hv] at CK
  have CK := Lib.hid CK
  have c0 := hB.cell (o := 0) rfl
  clear hv
  rcases hd with h1 | ⟨h1, h2⟩
  all_goals
    go_enter Tryd.func11, Tryd.ntmps11
    go_wp2_with fail
    with_reducible refine Calls.mono CK.out ?_
    rintro e w' ⟨rfl, m, rfl⟩
    go_wp2_with fail
    exact bodyPost_ret (v := nv (-1, false)) (by simp [results, Tryd.results11, go_sem]) rfl ⟨rfl, (Kept.refl _ w).drewN m⟩
theorem ret_nv {a b : Int} (h : a = b) : Ending.returned (nv (a, false)) = .returned (nv (b, false)) := by rw [h]
set_option maxHeartbeats 4000000 in
set_option maxRecDepth 100000 in
theorem nextR_up2 (hB : MV w b H S) (n : Net H S) {x d q a c : Int} (d0 : 0 ≤ d) (d1 : d < H) (e : a / 2 = d / 2) (hk : kd H S x = (1, a, c)) : Calls Tryd.prog 11 #[ptr b, .int .i64 x, .int .i64 d, .int .i64 q] w fun e w' => e = .returned (nv (H + d, false)) ∧ Kept (fun _ => False) w w' := by
  have CK := kindR_any hB n x
  rw [hk, kv_up] at CK
  have CK := Lib.hid CK
  have hin := kd_in n x
  rw [hk] at hin
  dsimp only at hin
  clear hk
  have c0 := hB.cell (o := 0) rfl
  have c1 := hB.cell (o := 1) rfl
  have c2 := hB.cell (o := 2) rfl
  have ww := mm_wrap n
  have hm := mm_in n
  have hl := lv_in n
  have n0 := n.h0
  have n1 := n.h1
  have n2 := n.s0
  have n3 := n.s1
  have hS0 : ¬ S = 0 := by omega
  have hS1 : (S == 0) = false := by rw [beq_eq_false_iff_ne]; exact hS0
  have f0 : ¬ d < 0 := by omega
  have f1 : ¬ H ≤ d := by omega
  have f2 : decide (H ≤ d) = false := decide_eq_false f1
  have hsp := sp_cases n q
  have hsi := sp_in n q
  have hp0 := mul_small (l := a / 2) (n := S) (by omega) (by omega) (by omega) n3
  have hw : IntKind.i64.wrap (a / 2 * S) = a / 2 * S := by rw [IntKind.wrap_i64]; omega
  have r1 : a.tdiv 2 = a / 2 := Int.tdiv_eq_ediv_of_nonneg (by omega)
  have r2 : d.tdiv 2 = d / 2 := Int.tdiv_eq_ediv_of_nonneg (by omega)
  have b2 : (a / 2 == d / 2) = true := by rw [beq_iff_eq]; exact e
  clear e
  generalize sp S q = s at *
  generalize mm H S = M at *
  generalize lv H = L at *
  obtain ⟨r, hq⟩ : ∃ r, q.tmod S = r := ⟨_, rfl⟩
  rw [hq] at hsp
  rcases hsp with ⟨hr, hs, hb⟩ | ⟨hr, hs, hb⟩
  all_goals
    have HS := Lib.hid hs
    clear hs
    go_enter Tryd.func11, Tryd.ntmps11
    go_wp2_with fail
    with_reducible refine Calls.mono CK.out ?_
    rintro e w' ⟨rfl, m, rfl⟩
    go_wp2_with fail
    exact bodyPost_ret (v := nv (H + d, false)) (by simp [results, Tryd.results11, go_sem]) rfl ⟨rfl, (by first | exact (Kept.refl _ w).drewN _ | exact ((Kept.refl _ w).drewN _).drewN _)⟩
set_option maxHeartbeats 4000000 in
set_option maxRecDepth 100000 in
theorem nextR_up (hB : MV w b H S) (n : Net H S) {x d q a c : Int} (d0 : 0 ≤ d) (d1 : d < H) (e : a / 2 ≠ d / 2) (hk : kd H S x = (1, a, c)) : Calls Tryd.prog 11 #[ptr b, .int .i64 x, .int .i64 d, .int .i64 q] w fun e w' => e = .returned (nv (2 * H + (a / 2 * S + sp S q), false)) ∧ Kept (fun _ => False) w w' := by
  have CK := kindR_any hB n x
  rw [hk, kv_up] at CK
  have CK := Lib.hid CK
  have hin := kd_in n x
  rw [hk] at hin
  dsimp only at hin
  clear hk
  have c0 := hB.cell (o := 0) rfl
  have c1 := hB.cell (o := 1) rfl
  have c2 := hB.cell (o := 2) rfl
  have ww := mm_wrap n
  have hm := mm_in n
  have hl := lv_in n
  have n0 := n.h0
  have n1 := n.h1
  have n2 := n.s0
  have n3 := n.s1
  have hS0 : ¬ S = 0 := by omega
  have hS1 : (S == 0) = false := by rw [beq_eq_false_iff_ne]; exact hS0
  have f0 : ¬ d < 0 := by omega
  have f1 : ¬ H ≤ d := by omega
  have f2 : decide (H ≤ d) = false := decide_eq_false f1
  have hsp := sp_cases n q
  have hsi := sp_in n q
  have hp0 := mul_small (l := a / 2) (n := S) (by omega) (by omega) (by omega) n3
  have hw : IntKind.i64.wrap (a / 2 * S) = a / 2 * S := by rw [IntKind.wrap_i64]; omega
  have r1 : a.tdiv 2 = a / 2 := Int.tdiv_eq_ediv_of_nonneg (by omega)
  have r2 : d.tdiv 2 = d / 2 := Int.tdiv_eq_ediv_of_nonneg (by omega)
  have b2 : (a / 2 == d / 2) = false := by rw [beq_eq_false_iff_ne]; exact e
  clear e hw
  obtain ⟨p, hp⟩ : ∃ p, p = a / 2 * S := ⟨_, rfl⟩
  rw [← hp] at hp0 ⊢
  have hw : IntKind.i64.wrap (a / 2 * S) = p := by rw [← hp, IntKind.wrap_i64]; omega
  clear hp
  generalize sp S q = s at *
  generalize mm H S = M at *
  generalize lv H = L at *
  obtain ⟨r, hq⟩ : ∃ r, q.tmod S = r := ⟨_, rfl⟩
  rw [hq] at hsp
  rcases hsp with ⟨hr, hs, hb⟩ | ⟨hr, hs, hb⟩
  all_goals
    have HS := Lib.hid hs
    clear hs
    go_enter Tryd.func11, Tryd.ntmps11
    go_wp2_with fail
    with_reducible refine Calls.mono CK.out ?_
    rintro e w' ⟨rfl, m, rfl⟩
    go_wp2_with fail
    go_quiet (fail)
    go_wp2_with fail
    have hs := HS.out
    first
      | exact bodyPost_ret (v := nv (2 * H + (p + s), false)) (by simp [results, Tryd.results11, go_sem]; omega) rfl ⟨rfl, (by first | exact (Kept.refl _ w).drewN _ | exact ((Kept.refl _ w).drewN _).drewN _)⟩
set_option maxHeartbeats 4000000 in
set_option maxRecDepth 100000 in
theorem nextR_down (hB : MV w b H S) (n : Net H S) {x d q a c : Int} (d0 : 0 ≤ d) (d1 : d < H) (hk : kd H S x = (2, a, c)) : Calls Tryd.prog 11 #[ptr b, .int .i64 x, .int .i64 d, .int .i64 q] w fun e w' => e = .returned (nv (-1, true)) ∧ Kept (fun _ => False) w w' := by
  have CK := kindR_any hB n x
  rw [hk, kv_down] at CK
  have CK := Lib.hid CK
  have hin := kd_in n x
  rw [hk] at hin
  dsimp only at hin
  clear hk
  have c0 := hB.cell (o := 0) rfl
  have c1 := hB.cell (o := 1) rfl
  have c2 := hB.cell (o := 2) rfl
  have ww := mm_wrap n
  have hm := mm_in n
  have hl := lv_in n
  have n0 := n.h0
  have n1 := n.h1
  have n2 := n.s0
  have n3 := n.s1
  have hS0 : ¬ S = 0 := by omega
  have hS1 : (S == 0) = false := by rw [beq_eq_false_iff_ne]; exact hS0
  have f0 : ¬ d < 0 := by omega
  have f1 : ¬ H ≤ d := by omega
  have f2 : decide (H ≤ d) = false := decide_eq_false f1
  have hsp := sp_cases n q
  have hsi := sp_in n q
  generalize sp S q = s at *
  generalize mm H S = M at *
  generalize lv H = L at *
  obtain ⟨r, hq⟩ : ∃ r, q.tmod S = r := ⟨_, rfl⟩
  rw [hq] at hsp
  rcases hsp with ⟨hr, hs, hb⟩ | ⟨hr, hs, hb⟩
  all_goals
    have HS := Lib.hid hs
    clear hs
    go_enter Tryd.func11, Tryd.ntmps11
    go_wp2_with fail
    with_reducible refine Calls.mono CK.out ?_
    rintro e w' ⟨rfl, m, rfl⟩
    go_wp2_with fail
    exact bodyPost_ret (v := nv (-1, true)) (by simp [results, Tryd.results11, go_sem]) rfl ⟨rfl, (by first | exact (Kept.refl _ w).drewN _ | exact ((Kept.refl _ w).drewN _).drewN _)⟩
set_option maxHeartbeats 4000000 in
set_option maxRecDepth 100000 in
theorem nextR_lup (hB : MV w b H S) (n : Net H S) {x d q a c : Int} (d0 : 0 ≤ d) (d1 : d < H) (hcl : 0 ≤ c ∧ c ≤ 4) (hk : kd H S x = (3, a, c)) : Calls Tryd.prog 11 #[ptr b, .int .i64 x, .int .i64 d, .int .i64 q] w fun e w' => e = .returned (nv (2 * H + mm H S + (c * lv H + d / 2), false)) ∧ Kept (fun _ => False) w w' := by
  have CK := kindR_any hB n x
  rw [hk, kv_lup] at CK
  have CK := Lib.hid CK
  have hin := kd_in n x
  rw [hk] at hin
  dsimp only at hin
  clear hk
  have c0 := hB.cell (o := 0) rfl
  have c1 := hB.cell (o := 1) rfl
  have c2 := hB.cell (o := 2) rfl
  have ww := mm_wrap n
  have hm := mm_in n
  have hl := lv_in n
  have n0 := n.h0
  have n1 := n.h1
  have n2 := n.s0
  have n3 := n.s1
  have hS0 : ¬ S = 0 := by omega
  have hS1 : (S == 0) = false := by rw [beq_eq_false_iff_ne]; exact hS0
  have f0 : ¬ d < 0 := by omega
  have f1 : ¬ H ≤ d := by omega
  have f2 : decide (H ≤ d) = false := decide_eq_false f1
  have hsp := sp_cases n q
  have hsi := sp_in n q
  have hp0 := mul_small (l := c) (n := lv H) hcl.1 hcl.2 (by omega) hl.2.1
  have r2 : d.tdiv 2 = d / 2 := Int.tdiv_eq_ediv_of_nonneg (by omega)
  obtain ⟨p, hp⟩ : ∃ p, p = c * lv H := ⟨_, rfl⟩
  rw [← hp] at hp0 ⊢
  have hw : IntKind.i64.wrap (c * lv H) = p := by rw [← hp, IntKind.wrap_i64]; omega
  clear hp
  generalize sp S q = s at *
  generalize mm H S = M at *
  generalize lv H = L at *
  obtain ⟨r, hq⟩ : ∃ r, q.tmod S = r := ⟨_, rfl⟩
  rw [hq] at hsp
  rcases hsp with ⟨hr, hs, hb⟩ | ⟨hr, hs, hb⟩
  all_goals
    have HS := Lib.hid hs
    clear hs
    go_enter Tryd.func11, Tryd.ntmps11
    go_wp2_with fail
    with_reducible refine Calls.mono CK.out ?_
    rintro e w' ⟨rfl, m, rfl⟩
    go_wp2_with fail
    go_quiet (fail)
    go_wp2_with fail
    exact bodyPost_ret (v := nv (2 * H + M + (p + d / 2), false)) (by simp [results, Tryd.results11, go_sem]; omega) rfl ⟨rfl, (by first | exact (Kept.refl _ w).drewN _ | exact ((Kept.refl _ w).drewN _).drewN _)⟩
set_option maxHeartbeats 4000000 in
set_option maxRecDepth 100000 in
theorem nextR_sdn (hB : MV w b H S) (n : Net H S) {x d q a c : Int} (d0 : 0 ≤ d) (d1 : d < H) (e : c ≠ d / 2) (hk : kd H S x = (4, a, c)) : Calls Tryd.prog 11 #[ptr b, .int .i64 x, .int .i64 d, .int .i64 q] w fun e w' => e = .returned (nv (-1, false)) ∧ Kept (fun _ => False) w w' := by
  have CK := kindR_any hB n x
  rw [hk, kv_sdn] at CK
  have CK := Lib.hid CK
  have hin := kd_in n x
  rw [hk] at hin
  dsimp only at hin
  clear hk
  have c0 := hB.cell (o := 0) rfl
  have c1 := hB.cell (o := 1) rfl
  have c2 := hB.cell (o := 2) rfl
  have ww := mm_wrap n
  have hm := mm_in n
  have hl := lv_in n
  have n0 := n.h0
  have n1 := n.h1
  have n2 := n.s0
  have n3 := n.s1
  have hS0 : ¬ S = 0 := by omega
  have hS1 : (S == 0) = false := by rw [beq_eq_false_iff_ne]; exact hS0
  have f0 : ¬ d < 0 := by omega
  have f1 : ¬ H ≤ d := by omega
  have f2 : decide (H ≤ d) = false := decide_eq_false f1
  have hsp := sp_cases n q
  have hsi := sp_in n q
  have b2 : (c == d / 2) = false := by rw [beq_eq_false_iff_ne]; exact e
  have b3 : (c != d / 2) = true := by rw [bne_iff_ne]; exact e
  have r2 : d.tdiv 2 = d / 2 := Int.tdiv_eq_ediv_of_nonneg (by omega)
  clear e
  generalize sp S q = s at *
  generalize mm H S = M at *
  generalize lv H = L at *
  obtain ⟨r, hq⟩ : ∃ r, q.tmod S = r := ⟨_, rfl⟩
  rw [hq] at hsp
  rcases hsp with ⟨hr, hs, hb⟩ | ⟨hr, hs, hb⟩
  all_goals
    have HS := Lib.hid hs
    clear hs
    go_enter Tryd.func11, Tryd.ntmps11
    go_wp2_with fail
    with_reducible refine Calls.mono CK.out ?_
    rintro e w' ⟨rfl, m, rfl⟩
    go_wp2_with fail
    exact bodyPost_ret (v := nv (-1, false)) (by simp [results, Tryd.results11, go_sem]) rfl ⟨rfl, (by first | exact (Kept.refl _ w).drewN _ | exact ((Kept.refl _ w).drewN _).drewN _)⟩
set_option maxHeartbeats 4000000 in
set_option maxRecDepth 100000 in
theorem nextR_sdn2 (hB : MV w b H S) (n : Net H S) {x d q a c : Int} (d0 : 0 ≤ d) (d1 : d < H) (e : c = d / 2) (hk : kd H S x = (4, a, c)) : Calls Tryd.prog 11 #[ptr b, .int .i64 x, .int .i64 d, .int .i64 q] w fun e w' => e = .returned (nv (H + d, false)) ∧ Kept (fun _ => False) w w' := by
  have CK := kindR_any hB n x
  rw [hk, kv_sdn] at CK
  have CK := Lib.hid CK
  have hin := kd_in n x
  rw [hk] at hin
  dsimp only at hin
  clear hk
  have c0 := hB.cell (o := 0) rfl
  have c1 := hB.cell (o := 1) rfl
  have c2 := hB.cell (o := 2) rfl
  have ww := mm_wrap n
  have hm := mm_in n
  have hl := lv_in n
  have n0 := n.h0
  have n1 := n.h1
  have n2 := n.s0
  have n3 := n.s1
  have hS0 : ¬ S = 0 := by omega
  have hS1 : (S == 0) = false := by rw [beq_eq_false_iff_ne]; exact hS0
  have f0 : ¬ d < 0 := by omega
  have f1 : ¬ H ≤ d := by omega
  have f2 : decide (H ≤ d) = false := decide_eq_false f1
  have hsp := sp_cases n q
  have hsi := sp_in n q
  have b2 : (c == d / 2) = true := by rw [beq_iff_eq]; exact e
  have b3 : (c != d / 2) = false := by rw [bne_eq_false_iff_eq]; exact e
  have r2 : d.tdiv 2 = d / 2 := Int.tdiv_eq_ediv_of_nonneg (by omega)
  have E := Lib.hid e
  clear e
  generalize sp S q = s at *
  generalize mm H S = M at *
  generalize lv H = L at *
  obtain ⟨r, hq⟩ : ∃ r, q.tmod S = r := ⟨_, rfl⟩
  rw [hq] at hsp
  rcases hsp with ⟨hr, hs, hb⟩ | ⟨hr, hs, hb⟩
  all_goals
    have HS := Lib.hid hs
    clear hs
    go_enter Tryd.func11, Tryd.ntmps11
    go_wp2_with fail
    with_reducible refine Calls.mono CK.out ?_
    rintro e w' ⟨rfl, m, rfl⟩
    go_wp2_with fail
    exact bodyPost_ret (v := nv (H + d, false)) (by simp [results, Tryd.results11, go_sem]) rfl ⟨rfl, (by first | exact (Kept.refl _ w).drewN _ | exact ((Kept.refl _ w).drewN _).drewN _)⟩
theorem nextR_any (hB : MV w b H S) (n : Net H S) (x d q : Int) : Calls Tryd.prog 11 #[ptr b, .int .i64 x, .int .i64 d, .int .i64 q] w fun e w' => e = .returned (nv (nx H S x d q)) ∧ Kept (fun _ => False) w w' := by
  have hl := lv_in n
  have hm := mm_in n
  have n0 := n.h0
  have n1 := n.h1
  by_cases hd : d < 0 ∨ H ≤ d
  · rw [nx_off hd]
    have hd2 : d < 0 ∨ (¬ d < 0 ∧ H ≤ d) := by omega
    rcases five n x with h | ⟨h, h2⟩ | ⟨h, h2⟩ | ⟨h, h2⟩ | ⟨h, h2⟩
    · exact nextR_none hB n (kd_none h)
    · exact nextR_off hB n (by rw [kd_up n h h2, kv_up]) (by decide) hd2
    · exact nextR_off hB n (by rw [kd_down n h h2, kv_down]) (by decide) hd2
    · exact nextR_off hB n (by rw [kd_lup n h h2, kv_lup]) (by decide) hd2
    · exact nextR_off hB n (by rw [kd_sdn n h h2, kv_sdn]) (by decide) hd2
  have d0 : 0 ≤ d := by omega
  have d1 : d < H := by omega
  rcases five n x with h | ⟨h, h2⟩ | ⟨h, h2⟩ | ⟨h, h2⟩ | ⟨h, h2⟩
  · rw [nx_none h]; exact nextR_none hB n (kd_none h)
  · rw [nx_up n d0 d1 h h2]
    split
    · exact nextR_up2 hB n d0 d1 (by assumption) (kd_up n h h2)
    · exact nextR_up hB n d0 d1 (by assumption) (kd_up n h h2)
  · rw [nx_down n d0 d1 h h2]; exact nextR_down hB n d0 d1 (kd_down n h h2)
  · rw [nx_lup n d0 d1 h h2]
    have := div_in (k := x - 2 * H) (n := S) (L := lv H) n.s0 (by omega) (by show _ < mm H S; omega)
    exact nextR_lup hB n d0 d1 ⟨this.2.2.1, by have := n.s1; omega⟩ (kd_lup n h h2)
  · rw [nx_sdn n d0 d1 h h2]
    split
    · exact nextR_sdn2 hB n d0 d1 (by assumption) (kd_sdn n h h2)
    · exact nextR_sdn hB n d0 d1 (by assumption) (kd_sdn n h h2)
end Go.Proofs.YtoieogembfdmfaaDoor.Tp
