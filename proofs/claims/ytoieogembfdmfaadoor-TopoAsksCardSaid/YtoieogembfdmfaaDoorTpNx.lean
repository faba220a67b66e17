/- Where a frame goes: Next. Conditions: each theorem's own. -/
import Derived.Test.YtoieogembfdmfaaDoorTpW2
set_option linter.unusedVariables false
namespace Go.Proofs.YtoieogembfdmfaaDoor.Tp
open Go.RowKit Hp TpM
attribute [local go_sem ↓] Go.wp_at_zero Go.wp_at_succ
variable {w : World} {b : Nat} {H S : Int}
/-- What Next answers. -/
abbrev nv (t : Int × Bool) : Value := .tuple #[.int .i64 t.1, .bool t.2]
theorem way_any (hB : NV w b H S) (n : Net H S) (x : Int) : Calls Tryd.prog 23 #[ptr b, .int .i64 x] w fun e w' => e = .returned (wv (kd H S x)) ∧ Kept (fun _ => False) w w' := by
  rcases five n x with h | ⟨h, h2⟩ | ⟨h, h2⟩ | ⟨h, h2⟩ | ⟨h, h2⟩
  · rw [kd_none h]
    refine way_none ?_
    by_cases h2 : x < 0
    · exact Or.inl h2
    · exact Or.inr ⟨pts H S, h2, by omega, Lib.hid fun w' k => ports_any (k.blk hB (fun f => f)) n⟩
  · rw [kd_up n h h2]; exact way_up hB n h h2
  · rw [kd_down n h h2]; exact way_down hB n h h2
  · rw [kd_lup n h h2]; exact way_lup hB n h h2
  · rw [kd_sdn n h h2]; exact way_sdn hB n h h2
theorem next_off {p : Value} {x d q : Int} (C : Hid (Calls Tryd.prog 22 #[p, .int .i64 d] w fun e w' => e = .returned (.bool false) ∧ w = w')) :
    Calls Tryd.prog 10 #[p, .int .i64 x, .int .i64 d, .int .i64 q] w fun e w' => e = .returned (nv (-1, false)) ∧ Kept (fun _ => False) w w' := by
  go_enter Tryd.func10, Tryd.ntmps10
  go_wp2_with fail
  with_reducible refine Calls.mono C.out ?_
  rintro e w' ⟨rfl, rfl⟩
  go_wp2_with fail
  exact bodyPost_ret (v := nv (-1, false)) (by simp [results, Tryd.results10, go_sem]) rfl ⟨rfl, Kept.refl _ w⟩
set_option maxHeartbeats 4000000 in
set_option maxRecDepth 100000 in
theorem next_none (hB : NV w b H S) (n : Net H S) {x d q a c : Int} (d0 : 0 ≤ d) (d1 : d < H) (hk : kd H S x = (0, a, c)) : Calls Tryd.prog 10 #[ptr b, .int .i64 x, .int .i64 d, .int .i64 q] w fun e w' => e = .returned (nv (-1, false)) ∧ Kept (fun _ => False) w w' := by
  have CH := Lib.hid (has_yes hB d0 d1)
  have CW := way_any hB n x
  have hin := kd_in n x
  have hl := lv_in n
  rw [hk] at CW hin
  dsimp only at hin
  unfold wv at CW
  dsimp only at CW
  have CW := Lib.hid CW
  have n0 := n.h0
  have n1 := n.h1
  have CF := Lib.hid fun w => leafOf_any (x := d) d0 (by omega) w
  clear hk hin
  go_enter Tryd.func10, Tryd.ntmps10
  go_wp2_with fail
  with_reducible refine Calls.mono CH.out ?_
  rintro e w' ⟨rfl, rfl⟩
  go_wp2_with fail
  with_reducible refine Calls.mono CW.out ?_
  rintro e w2 ⟨rfl, hK⟩
  go_upto_region 4 with fail
  have hB2 := hK.blk hB (fun f => f)
  have hO := Blk.new w2 [.int .i64 0, .int .i64 a, .int .i64 c] tW
  have hk2 := (Kept.refl (fun _ => False) w2).alloc (.cells [.int .i64 0, .int .i64 a, .int .i64 c].toArray tW)
  dsimp only [List.toArray] at hO hk2
  have hB3 := hk2.blk hB2 (fun f => f)
  have HK := Lib.hid (hK.trans hk2)
  generalize w2.alloc (.cells #[.int .i64 0, .int .i64 a, .int .i64 c] tW) = w3 at *
  generalize w2.heap.size = ob at *
  have o0 := hO.cell (o := 0) rfl
  have o2 := hO.cell (o := 2) rfl
  have HB := Lib.hid hB3
  clear hO hk2 hB hB2 hB3 hK CH CW
  go_wp2_with fail
  exact bodyPost_ret (v := nv (-1, false)) (by simp [results, Tryd.results10, go_sem]) rfl ⟨rfl, HK.out⟩
set_option maxHeartbeats 4000000 in
set_option maxRecDepth 100000 in
theorem next_up (hB : NV w b H S) (n : Net H S) {x d q a c : Int} (d0 : 0 ≤ d) (d1 : d < H) (hcl : 0 ≤ c ∧ c ≤ 4) (e : c ≠ d / 2) (hk : kd H S x = (1, a, c)) : Calls Tryd.prog 10 #[ptr b, .int .i64 x, .int .i64 d, .int .i64 q] w fun e w' => e = .returned (nv (2 * H + (c * S + sp S q), false)) ∧ Kept (fun _ => False) w w' := by
  have CH := Lib.hid (has_yes hB d0 d1)
  have CW := way_any hB n x
  have hin := kd_in n x
  have hl := lv_in n
  rw [hk] at CW hin
  dsimp only at hin
  unfold wv at CW
  dsimp only at CW
  have CW := Lib.hid CW
  have n0 := n.h0
  have n1 := n.h1
  have CF := Lib.hid fun w => leafOf_any (x := d) d0 (by omega) w
  have s1 := sp_in n q
  have CS := Lib.hid fun w (h : NV w b H S) => spine_any h n (q := q)
  have CL := Lib.hid fun w (h : NV w b H S) => l2s_any h n (l := c) (x := sp S q) hcl.1 hcl.2 s1.1 (by have := n.s1; omega)
  have hne : (c == d / 2) = false := by rw [beq_eq_false_iff_ne]; exact e
  have hne2 : (c != d / 2) = true := by rw [bne_iff_ne]; exact e
  generalize sp S q = s at *
  clear s1
  clear hk hin
  go_enter Tryd.func10, Tryd.ntmps10
  go_wp2_with fail
  with_reducible refine Calls.mono CH.out ?_
  rintro e w' ⟨rfl, rfl⟩
  go_wp2_with fail
  with_reducible refine Calls.mono CW.out ?_
  rintro e w2 ⟨rfl, hK⟩
  go_upto_region 4 with fail
  have hB2 := hK.blk hB (fun f => f)
  have hO := Blk.new w2 [.int .i64 1, .int .i64 a, .int .i64 c] tW
  have hk2 := (Kept.refl (fun _ => False) w2).alloc (.cells [.int .i64 1, .int .i64 a, .int .i64 c].toArray tW)
  dsimp only [List.toArray] at hO hk2
  have hB3 := hk2.blk hB2 (fun f => f)
  have HK := Lib.hid (hK.trans hk2)
  generalize w2.alloc (.cells #[.int .i64 1, .int .i64 a, .int .i64 c] tW) = w3 at *
  generalize w2.heap.size = ob at *
  have o0 := hO.cell (o := 0) rfl
  have o2 := hO.cell (o := 2) rfl
  have HB := Lib.hid hB3
  clear hO hk2 hB hB2 hB3 hK CH CW
  generalize d / 2 = dd at *
  go_wp2_with fail
  go_quiet ((go_at_call 24; exact Calls.quiet_of_same ((CF.out _).mono fun _ _ ⟨e1, e2⟩ => ⟨e1, e2.symm⟩)))
  go_upto_region 7 with fail
  replace HB := Lib.hid (HB.out.drewN nq)
  replace HK := Lib.hid (HK.out.drewN nq)
  replace o2 : (w3.drewN nq).cell? ⟨ob, 2, none⟩ = some (.int .i64 c) := o2
  generalize w3.drewN nq = w4 at *
  go_quiet (first | (go_at_call 26; exact Calls.quiet_of_same ((CS.out _ (by first | exact HB.out.drewN _ | exact (HB.out.drewN _).drewN _)).mono fun _ _ ⟨e1, e2⟩ => ⟨e1, e2.symm⟩)) | (go_at_call 25; exact Calls.quiet_of (CL.out _ (by first | exact HB.out.drewN _ | exact (HB.out.drewN _).drewN _))))
  go_wp2_with fail
  exact bodyPost_ret (v := nv (2 * H + (c * S + s), false)) (by simp [results, Tryd.results10, go_sem]) rfl ⟨rfl, HK.out.drewN _⟩
set_option maxHeartbeats 4000000 in
set_option maxRecDepth 100000 in
theorem next_up2 (hB : NV w b H S) (n : Net H S) {x d q a c : Int} (d0 : 0 ≤ d) (d1 : d < H) (e : c = d / 2) (hk : kd H S x = (1, a, c)) : Calls Tryd.prog 10 #[ptr b, .int .i64 x, .int .i64 d, .int .i64 q] w fun e w' => e = .returned (nv (H + d, false)) ∧ Kept (fun _ => False) w w' := by
  have CH := Lib.hid (has_yes hB d0 d1)
  have CW := way_any hB n x
  have hin := kd_in n x
  have hl := lv_in n
  rw [hk] at CW hin
  dsimp only at hin
  unfold wv at CW
  dsimp only at CW
  have CW := Lib.hid CW
  have n0 := n.h0
  have n1 := n.h1
  have CF := Lib.hid fun w => leafOf_any (x := d) d0 (by omega) w
  have CL := Lib.hid fun w (h : NV w b H S) => l2h_any h n (x := d) d0 (by omega)
  have E := Lib.hid e
  clear e
  clear hk hin
  go_enter Tryd.func10, Tryd.ntmps10
  go_wp2_with fail
  with_reducible refine Calls.mono CH.out ?_
  rintro e w' ⟨rfl, rfl⟩
  go_wp2_with fail
  with_reducible refine Calls.mono CW.out ?_
  rintro e w2 ⟨rfl, hK⟩
  go_upto_region 4 with fail
  have hB2 := hK.blk hB (fun f => f)
  have hO := Blk.new w2 [.int .i64 1, .int .i64 a, .int .i64 c] tW
  have hk2 := (Kept.refl (fun _ => False) w2).alloc (.cells [.int .i64 1, .int .i64 a, .int .i64 c].toArray tW)
  dsimp only [List.toArray] at hO hk2
  have hB3 := hk2.blk hB2 (fun f => f)
  have HK := Lib.hid (hK.trans hk2)
  generalize w2.alloc (.cells #[.int .i64 1, .int .i64 a, .int .i64 c] tW) = w3 at *
  generalize w2.heap.size = ob at *
  have o0 := hO.cell (o := 0) rfl
  have o2 := hO.cell (o := 2) rfl
  have HB := Lib.hid hB3
  clear hO hk2 hB hB2 hB3 hK CH CW
  generalize d / 2 = dd at *
  obtain rfl := E.out
  go_wp2_with fail
  go_quiet ((go_at_call 24; exact Calls.quiet_of_same ((CF.out _).mono fun _ _ ⟨e1, e2⟩ => ⟨e1, e2.symm⟩)))
  go_wp2_with fail
  with_reducible refine Calls.mono (CL.out _ (HB.out.drewN _)) ?_
  rintro e w' ⟨rfl, rfl⟩
  go_wp2_with fail
  exact bodyPost_ret (v := nv (H + d, false)) (by simp [results, Tryd.results10, go_sem]) rfl ⟨rfl, HK.out.drewN _⟩
set_option maxHeartbeats 4000000 in
set_option maxRecDepth 100000 in
theorem next_down (hB : NV w b H S) (n : Net H S) {x d q a c : Int} (d0 : 0 ≤ d) (d1 : d < H) (hk : kd H S x = (2, a, c)) : Calls Tryd.prog 10 #[ptr b, .int .i64 x, .int .i64 d, .int .i64 q] w fun e w' => e = .returned (nv (-1, true)) ∧ Kept (fun _ => False) w w' := by
  have CH := Lib.hid (has_yes hB d0 d1)
  have CW := way_any hB n x
  have hin := kd_in n x
  have hl := lv_in n
  rw [hk] at CW hin
  dsimp only at hin
  unfold wv at CW
  dsimp only at CW
  have CW := Lib.hid CW
  have n0 := n.h0
  have n1 := n.h1
  have CF := Lib.hid fun w => leafOf_any (x := d) d0 (by omega) w
  clear hk hin
  go_enter Tryd.func10, Tryd.ntmps10
  go_wp2_with fail
  with_reducible refine Calls.mono CH.out ?_
  rintro e w' ⟨rfl, rfl⟩
  go_wp2_with fail
  with_reducible refine Calls.mono CW.out ?_
  rintro e w2 ⟨rfl, hK⟩
  go_upto_region 4 with fail
  have hB2 := hK.blk hB (fun f => f)
  have hO := Blk.new w2 [.int .i64 2, .int .i64 a, .int .i64 c] tW
  have hk2 := (Kept.refl (fun _ => False) w2).alloc (.cells [.int .i64 2, .int .i64 a, .int .i64 c].toArray tW)
  dsimp only [List.toArray] at hO hk2
  have hB3 := hk2.blk hB2 (fun f => f)
  have HK := Lib.hid (hK.trans hk2)
  generalize w2.alloc (.cells #[.int .i64 2, .int .i64 a, .int .i64 c] tW) = w3 at *
  generalize w2.heap.size = ob at *
  have o0 := hO.cell (o := 0) rfl
  have o2 := hO.cell (o := 2) rfl
  have HB := Lib.hid hB3
  clear hO hk2 hB hB2 hB3 hK CH CW
  go_wp2_with fail
  exact bodyPost_ret (v := nv (-1, true)) (by simp [results, Tryd.results10, go_sem]) rfl ⟨rfl, HK.out⟩
set_option maxHeartbeats 4000000 in
set_option maxRecDepth 100000 in
theorem next_lup (hB : NV w b H S) (n : Net H S) {x d q a c : Int} (d0 : 0 ≤ d) (d1 : d < H) (hcl : 0 ≤ c ∧ c ≤ 4) (hk : kd H S x = (3, a, c)) : Calls Tryd.prog 10 #[ptr b, .int .i64 x, .int .i64 d, .int .i64 q] w fun e w' => e = .returned (nv (2 * H + mm H S + (c * lv H + d / 2), false)) ∧ Kept (fun _ => False) w w' := by
  have CH := Lib.hid (has_yes hB d0 d1)
  have CW := way_any hB n x
  have hin := kd_in n x
  have hl := lv_in n
  rw [hk] at CW hin
  dsimp only at hin
  unfold wv at CW
  dsimp only at CW
  have CW := Lib.hid CW
  have n0 := n.h0
  have n1 := n.h1
  have CF := Lib.hid fun w => leafOf_any (x := d) d0 (by omega) w
  have CL := Lib.hid fun w (h : NV w b H S) => s2l_any h n (x := c) (l := d / 2) hcl.1 hcl.2 (by omega) (by omega)
  generalize d / 2 = dd at *
  clear hk hin
  go_enter Tryd.func10, Tryd.ntmps10
  go_wp2_with fail
  with_reducible refine Calls.mono CH.out ?_
  rintro e w' ⟨rfl, rfl⟩
  go_wp2_with fail
  with_reducible refine Calls.mono CW.out ?_
  rintro e w2 ⟨rfl, hK⟩
  go_upto_region 4 with fail
  have hB2 := hK.blk hB (fun f => f)
  have hO := Blk.new w2 [.int .i64 3, .int .i64 a, .int .i64 c] tW
  have hk2 := (Kept.refl (fun _ => False) w2).alloc (.cells [.int .i64 3, .int .i64 a, .int .i64 c].toArray tW)
  dsimp only [List.toArray] at hO hk2
  have hB3 := hk2.blk hB2 (fun f => f)
  have HK := Lib.hid (hK.trans hk2)
  generalize w2.alloc (.cells #[.int .i64 3, .int .i64 a, .int .i64 c] tW) = w3 at *
  generalize w2.heap.size = ob at *
  have o0 := hO.cell (o := 0) rfl
  have o2 := hO.cell (o := 2) rfl
  have HB := Lib.hid hB3
  clear hO hk2 hB hB2 hB3 hK CH CW
  go_wp2_with fail
  go_quiet (first | (go_at_call 24; exact Calls.quiet_of_same ((CF.out _).mono fun _ _ ⟨e1, e2⟩ => ⟨e1, e2.symm⟩)) | (go_at_call 28; exact Calls.quiet_of (CL.out _ (by first | exact HB.out.drewN _ | exact (HB.out.drewN _).drewN _))))
  go_wp2_with fail
  exact bodyPost_ret (v := nv (2 * H + mm H S + (c * lv H + dd), false)) (by simp [results, Tryd.results10, go_sem]) rfl ⟨rfl, HK.out.drewN _⟩
set_option maxHeartbeats 4000000 in
set_option maxRecDepth 100000 in
theorem next_sdn (hB : NV w b H S) (n : Net H S) {x d q a c : Int} (d0 : 0 ≤ d) (d1 : d < H) (e : c ≠ d / 2) (hk : kd H S x = (4, a, c)) : Calls Tryd.prog 10 #[ptr b, .int .i64 x, .int .i64 d, .int .i64 q] w fun e w' => e = .returned (nv (-1, false)) ∧ Kept (fun _ => False) w w' := by
  have CH := Lib.hid (has_yes hB d0 d1)
  have CW := way_any hB n x
  have hin := kd_in n x
  have hl := lv_in n
  rw [hk] at CW hin
  dsimp only at hin
  unfold wv at CW
  dsimp only at CW
  have CW := Lib.hid CW
  have n0 := n.h0
  have n1 := n.h1
  have CF := Lib.hid fun w => leafOf_any (x := d) d0 (by omega) w
  have hne : (c == d / 2) = false := by rw [beq_eq_false_iff_ne]; exact e
  have hne2 : (c != d / 2) = true := by rw [bne_iff_ne]; exact e
  clear hk hin
  go_enter Tryd.func10, Tryd.ntmps10
  go_wp2_with fail
  with_reducible refine Calls.mono CH.out ?_
  rintro e w' ⟨rfl, rfl⟩
  go_wp2_with fail
  with_reducible refine Calls.mono CW.out ?_
  rintro e w2 ⟨rfl, hK⟩
  go_upto_region 4 with fail
  have hB2 := hK.blk hB (fun f => f)
  have hO := Blk.new w2 [.int .i64 4, .int .i64 a, .int .i64 c] tW
  have hk2 := (Kept.refl (fun _ => False) w2).alloc (.cells [.int .i64 4, .int .i64 a, .int .i64 c].toArray tW)
  dsimp only [List.toArray] at hO hk2
  have hB3 := hk2.blk hB2 (fun f => f)
  have HK := Lib.hid (hK.trans hk2)
  generalize w2.alloc (.cells #[.int .i64 4, .int .i64 a, .int .i64 c] tW) = w3 at *
  generalize w2.heap.size = ob at *
  have o0 := hO.cell (o := 0) rfl
  have o2 := hO.cell (o := 2) rfl
  have HB := Lib.hid hB3
  clear hO hk2 hB hB2 hB3 hK CH CW
  generalize d / 2 = dd at *
  go_wp2_with fail
  go_quiet ((go_at_call 24; exact Calls.quiet_of_same ((CF.out _).mono fun _ _ ⟨e1, e2⟩ => ⟨e1, e2.symm⟩)))
  go_wp2_with fail
  exact bodyPost_ret (v := nv (-1, false)) (by simp [results, Tryd.results10, go_sem]) rfl ⟨rfl, HK.out.drewN _⟩
set_option maxHeartbeats 4000000 in
set_option maxRecDepth 100000 in
theorem next_sdn2 (hB : NV w b H S) (n : Net H S) {x d q a c : Int} (d0 : 0 ≤ d) (d1 : d < H) (e : c = d / 2) (hk : kd H S x = (4, a, c)) : Calls Tryd.prog 10 #[ptr b, .int .i64 x, .int .i64 d, .int .i64 q] w fun e w' => e = .returned (nv (H + d, false)) ∧ Kept (fun _ => False) w w' := by
  have CH := Lib.hid (has_yes hB d0 d1)
  have CW := way_any hB n x
  have hin := kd_in n x
  have hl := lv_in n
  rw [hk] at CW hin
  dsimp only at hin
  unfold wv at CW
  dsimp only at CW
  have CW := Lib.hid CW
  have n0 := n.h0
  have n1 := n.h1
  have CF := Lib.hid fun w => leafOf_any (x := d) d0 (by omega) w
  have CL := Lib.hid fun w (h : NV w b H S) => l2h_any h n (x := d) d0 (by omega)
  have E := Lib.hid e
  clear e
  clear hk hin
  go_enter Tryd.func10, Tryd.ntmps10
  go_wp2_with fail
  with_reducible refine Calls.mono CH.out ?_
  rintro e w' ⟨rfl, rfl⟩
  go_wp2_with fail
  with_reducible refine Calls.mono CW.out ?_
  rintro e w2 ⟨rfl, hK⟩
  go_upto_region 4 with fail
  have hB2 := hK.blk hB (fun f => f)
  have hO := Blk.new w2 [.int .i64 4, .int .i64 a, .int .i64 c] tW
  have hk2 := (Kept.refl (fun _ => False) w2).alloc (.cells [.int .i64 4, .int .i64 a, .int .i64 c].toArray tW)
  dsimp only [List.toArray] at hO hk2
  have hB3 := hk2.blk hB2 (fun f => f)
  have HK := Lib.hid (hK.trans hk2)
  generalize w2.alloc (.cells #[.int .i64 4, .int .i64 a, .int .i64 c] tW) = w3 at *
  generalize w2.heap.size = ob at *
  have o0 := hO.cell (o := 0) rfl
  have o2 := hO.cell (o := 2) rfl
  have HB := Lib.hid hB3
  clear hO hk2 hB hB2 hB3 hK CH CW
  generalize d / 2 = dd at *
  obtain rfl := E.out
  go_wp2_with fail
  go_quiet ((go_at_call 24; exact Calls.quiet_of_same ((CF.out _).mono fun _ _ ⟨e1, e2⟩ => ⟨e1, e2.symm⟩)))
  go_wp2_with fail
  with_reducible refine Calls.mono (CL.out _ (HB.out.drewN _)) ?_
  rintro e w' ⟨rfl, rfl⟩
  go_wp2_with fail
  exact bodyPost_ret (v := nv (H + d, false)) (by simp [results, Tryd.results10, go_sem]) rfl ⟨rfl, HK.out.drewN _⟩
theorem next_any (hB : NV w b H S) (n : Net H S) (x d q : Int) : Calls Tryd.prog 10 #[ptr b, .int .i64 x, .int .i64 d, .int .i64 q] w fun e w' => e = .returned (nv (nx H S x d q)) ∧ Kept (fun _ => False) w w' := by
  by_cases hd : d < 0 ∨ H ≤ d
  · rw [nx_off hd]
    exact next_off (Lib.hid (has_no hB hd))
  have d0 : 0 ≤ d := by omega
  have d1 : d < H := by omega
  have hl := lv_in n
  have hm := mm_in n
  have n0 := n.h0
  have n1 := n.h1
  rcases five n x with h | ⟨h, h2⟩ | ⟨h, h2⟩ | ⟨h, h2⟩ | ⟨h, h2⟩
  · rw [nx_none h]; exact next_none hB n d0 d1 (kd_none h)
  · rw [nx_up n d0 d1 h h2]
    split
    · exact next_up2 hB n d0 d1 (by assumption) (kd_up n h h2)
    · exact next_up hB n d0 d1 (by omega) (by assumption) (kd_up n h h2)
  · rw [nx_down n d0 d1 h h2]; exact next_down hB n d0 d1 (kd_down n h h2)
  · rw [nx_lup n d0 d1 h h2]
    have := div_in (k := x - 2 * H) (n := S) (L := lv H) n.s0 (by omega) (by show _ < mm H S; omega)
    exact next_lup hB n d0 d1 ⟨this.2.2.1, by have := n.s1; omega⟩ (kd_lup n h h2)
  · rw [nx_sdn n d0 d1 h h2]
    split
    · exact next_sdn2 hB n d0 d1 (by assumption) (kd_sdn n h h2)
    · exact next_sdn hB n d0 d1 (by assumption) (kd_sdn n h h2)
end Go.Proofs.YtoieogembfdmfaaDoor.Tp
