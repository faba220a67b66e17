/- A port by its number: way, Next. Conditions: each theorem's own. -/
import Derived.Test.YtpogpibjkolioaaGreatFpK12
set_option linter.unusedVariables false
set_option linter.unusedSimpArgs false
namespace Go.Proofs.YtpogpibjkolioaaGreat.Tp
open Go.RowKit Hp TpM
attribute [local go_sem ↓] Go.wp_at_zero Go.wp_at_succ
abbrev tW : TypeId := 129
def wv (t : Int × Int × Int) : Value := .agg #[.int .i64 t.1, .int .i64 t.2.1, .int .i64 t.2.2]
variable {w : World} {b : Nat} {H S : Int}
theorem set3 {w : World} {r : Nat} {a b c : Value} (hO : Blk w r [a, b, c] tW) (x y z : Value) :
  Blk (((w.setCell ⟨r, 0, none⟩ x).setCell ⟨r, 1, none⟩ y).setCell ⟨r, 2, none⟩ z) r [x, y, z] tW := ((hO.set 0 x).set 1 y).set 2 z
theorem kept3 {w0 w : World} {r : Nat} (hk : Kept (fun _ => False) w0 w) (hr : w0.heap.size = r) (x y z : Value) :
  Kept (fun _ => False) w0 (((w.setCell ⟨r, 0, none⟩ x).setCell ⟨r, 1, none⟩ y).setCell ⟨r, 2, none⟩ z) :=
 ((hk.set (b := r) (fun h => by omega) _ _).set (b := r) (fun h => by omega) _ _).set (b := r) (fun h => by omega) _ _
theorem way_none {p : Value} {x : Int} (h : (x < 0) ∨ ∃ P : Int, ¬ x < 0 ∧ P ≤ x ∧ Hid (∀ w', Kept (fun _ => False) w w' → Calls Tryz.prog 26 #[p] w' fun e w'' => e = .returned (.int .i64 P) ∧ ∃ m, w'' = w'.drewN m)) :
  Calls Tryz.prog 70 #[p, .int .i64 x] w fun e w' => e = .returned (wv (0, 0, 0)) ∧ Kept (fun _ => False) w w' := by
 go_enter Tryz.func70, Tryz.ntmps70
 go_upto_region 1 with fail
 have hO := Blk.new w [.int .i64 0, .int .i64 0, .int .i64 0] tW
 have hk := (Kept.refl (fun _ => False) w).alloc (.cells [.int .i64 0, .int .i64 0, .int .i64 0].toArray tW)
 dsimp only [List.toArray] at hO hk
 generalize w.alloc (.cells #[.int .i64 0, .int .i64 0, .int .i64 0] tW) = w1 at *
 obtain ⟨rb, hrb⟩ : ∃ rb, w.heap.size = rb := ⟨_, rfl⟩
 rw [hrb] at hO
 simp only [hrb]
 have HR := Lib.hid hrb
 clear hrb
 have f0 := hO.frozen 0
 have f1 := hO.frozen 1
 have f2 := hO.frozen 2
 have q0 := hO.cell (o := 0) rfl
 have q1 := hO.cell (o := 1) rfl
 have q2 := hO.cell (o := 2) rfl
 have hO2 := set3 hO (.int .i64 0) (.int .i64 0) (.int .i64 0)
 have HK := Lib.hid (kept3 hk HR.out (.int .i64 0) (.int .i64 0) (.int .i64 0))
 have HK1 := Lib.hid hk
 have HO := Lib.hid hO
 have z0 := hO2.cell (o := 0) rfl
 have z1 := hO2.cell (o := 1) rfl
 have z2 := hO2.cell (o := 2) rfl
 clear hO hO2 hk
 rcases h with h | ⟨P, h, h2, C⟩
 ·go_wp2_with fail
  exact bodyPost_ret (v := wv (0, 0, 0)) (by simp [results, Tryz.results70, go_sem, z0, z1, z2, wv]) rfl ⟨rfl, HK.out⟩
 ·go_wp2_with fail
  with_reducible refine Calls.mono (C.out _ HK1.out) ?_
  rintro e w2 ⟨rfl, m, rfl⟩
  have y0 := (set3 (HO.out.drewN m) (.int .i64 0) (.int .i64 0) (.int .i64 0)).cell (o := 0) rfl
  have y1 := (set3 (HO.out.drewN m) (.int .i64 0) (.int .i64 0) (.int .i64 0)).cell (o := 1) rfl
  have y2 := (set3 (HO.out.drewN m) (.int .i64 0) (.int .i64 0) (.int .i64 0)).cell (o := 2) rfl
  have HK2 := Lib.hid (kept3 (HK1.out.drewN m) HR.out (.int .i64 0) (.int .i64 0) (.int .i64 0))
  go_wp2_with fail
  exact bodyPost_ret (v := wv (0, 0, 0)) (by simp [results, Tryz.results70, go_sem, y0, y1, y2, wv]) rfl ⟨rfl, HK2.out⟩
end Go.Proofs.YtpogpibjkolioaaGreat.Tp

/- A port by its number: way, of each group. Conditions: each theorem's own. -/
namespace Go.Proofs.YtpogpibjkolioaaGreat.Tp
open Go.RowKit Hp TpM
attribute [local go_sem ↓] Go.wp_at_zero Go.wp_at_succ
variable {w : World} {b : Nat} {H S : Int}
def SW (w0 : World) (b : Nat) (H S : Int) (w : World) : Prop := Kept (fun _ => False) w0 w ∧ NV w b H S
theorem callW {w0 w : World} {v : Value} {f : Nat} {args : Array Value} (h : SW w0 b H S w) (c : Calls Tryz.prog f args w fun e w' => e = .returned v ∧ ∃ m, w' = w.drewN m) :
  Calls Tryz.prog f args w fun e w' => e = .returned v ∧ SW w0 b H S w' ∧ Kept (fun _ => False) w w' :=
 c.mono fun e w' ⟨h1, m, h2⟩ => ⟨h1, h2 ▸ ⟨h.1.drewN m, h.2.drewN m⟩, h2 ▸ (Kept.refl _ w).drewN m⟩
theorem drewAny {w w' : World} (h : NV w b H S) (e : ∃ k, w' = w.drewN k) : NV w' b H S := by obtain ⟨k, rfl⟩ := e; exact h.drewN k
set_option maxHeartbeats 4000000 in
set_option maxRecDepth 100000 in
theorem way_up (hB : NV w b H S) (n : Net H S) {x : Int} (h0 : 0 ≤ x) (h1 : x < H) : Calls Tryz.prog 70 #[ptr b, .int .i64 x] w fun e w' => e = .returned (wv (1, x, x / 2)) ∧ Kept (fun _ => False) w w' := by
 have CP := Lib.hid fun w' (h : SW w b H S w') => callW h (ports_any h.2 n)
 have CA := Lib.hid fun w' (h : SW w b H S w') => callW h (s2l_any h.2 n (x := 0) (l := 0) (by omega) (by omega) (by omega) (by omega))
 have CB := Lib.hid fun w' (h : SW w b H S w') => callW h (l2s_any h.2 n (l := 0) (x := 0) (by omega) (by omega) (by omega) (by omega))
 have CC := Lib.hid fun w' (h : SW w b H S w') => callW h (Calls.mono (l2h_any h.2 n (x := 0) (by omega) (by omega)) fun _ _ ⟨e1, e2⟩ => ⟨e1, 0, e2 ▸ rfl⟩)
 simp only [Int.zero_mul, Int.add_zero] at CA CB CC
 have hm := mm_in n
 have CF := Lib.hid fun w => leafOf_any h0 (by have := n.h1; omega) w
 have g0 : ¬ x < 0 := by omega
 have g1 : ¬ pts H S ≤ x := by have := n.h0; unfold pts; omega
 have g2 : ¬ 2 * H + mm H S ≤ x := by have := n.h0; omega
 have g3 : ¬ 2 * H ≤ x := by have := n.h0; omega
 have g4 : ¬ H ≤ x := by omega
 have d1 : decide (pts H S ≤ x) = false := decide_eq_false g1
 generalize pts H S = P at *
 generalize mm H S = M at *
 go_enter Tryz.func70, Tryz.ntmps70
 go_upto_region 1 with fail
 have hO := Blk.new w [.int .i64 0, .int .i64 0, .int .i64 0] tW
 have hk := (Kept.refl (fun _ => False) w).alloc (.cells [.int .i64 0, .int .i64 0, .int .i64 0].toArray tW)
 dsimp only [List.toArray] at hO hk
 generalize w.alloc (.cells #[.int .i64 0, .int .i64 0, .int .i64 0] tW) = w1 at *
 obtain ⟨rb, hrb⟩ : ∃ rb, w.heap.size = rb := ⟨_, rfl⟩
 rw [hrb] at hO
 simp only [hrb]
 have HR := Lib.hid hrb
 have HW : Hid (SW w b H S w1) := Lib.hid ⟨hk, hk.blk hB (fun f => f)⟩
 have HO := Lib.hid hO
 clear hrb hO hk hB
 go_wp2_with fail
 with_reducible refine Calls.mono (CP.out _ HW.out) ?_
 rintro e w2 ⟨rfl, hW, hk⟩
 have HO := Lib.hid (hk.blk HO.out (fun f => f))
 have HW := Lib.hid hW
 clear hW hk
 go_wp2_with fail
 with_reducible refine Calls.mono (CA.out _ HW.out) ?_
 rintro e w3 ⟨rfl, hW, hk⟩
 have HO := Lib.hid (hk.blk HO.out (fun f => f))
 have HW := Lib.hid hW
 clear hW hk
 go_wp2_with fail
 with_reducible refine Calls.mono (CB.out _ HW.out) ?_
 rintro e w4 ⟨rfl, hW, hk⟩
 have HO := Lib.hid (hk.blk HO.out (fun f => f))
 have HW := Lib.hid hW
 clear hW hk
 go_wp2_with fail
 with_reducible refine Calls.mono (CC.out _ HW.out) ?_
 rintro e w5 ⟨rfl, hW, hk⟩
 have HO := Lib.hid (hk.blk HO.out (fun f => f))
 have HW := Lib.hid hW
 clear hW hk
 go_upto_region 14 with fail
 have f0 := HO.out.frozen 0
 have f1 := HO.out.frozen 1
 have f2 := HO.out.frozen 2
 have q0 := HO.out.cell (o := 0) rfl
 have q1 := HO.out.cell (o := 1) rfl
 have q2 := HO.out.cell (o := 2) rfl
 have c1 := HW.out.2.cell (o := 1) rfl
 have z0 := fun k => (set3 (HO.out.drewN k) (.int .i64 1) (.int .i64 x) (.int .i64 (x / 2))).cell (o := 0) rfl
 have z1 := fun k => (set3 (HO.out.drewN k) (.int .i64 1) (.int .i64 x) (.int .i64 (x / 2))).cell (o := 1) rfl
 have z2 := fun k => (set3 (HO.out.drewN k) (.int .i64 1) (.int .i64 x) (.int .i64 (x / 2))).cell (o := 2) rfl
 have y0 := (set3 HO.out (.int .i64 1) (.int .i64 x) (.int .i64 (x / 2))).cell (o := 0) rfl
 have y1 := (set3 HO.out (.int .i64 1) (.int .i64 x) (.int .i64 (x / 2))).cell (o := 1) rfl
 have y2 := (set3 HO.out (.int .i64 1) (.int .i64 x) (.int .i64 (x / 2))).cell (o := 2) rfl
 have HK := Lib.hid fun k => kept3 (HW.out.1.drewN k) HR.out (.int .i64 1) (.int .i64 x) (.int .i64 (x / 2))
 have HK0 := Lib.hid (kept3 HW.out.1 HR.out (.int .i64 1) (.int .i64 x) (.int .i64 (x / 2)))
 go_wp2_with fail
 with_reducible refine Calls.mono (CF.out _) ?_
 rintro e w' ⟨rfl, rfl⟩
 go_wp2_with fail
 exact bodyPost_ret (v := wv (1, x, x / 2)) (by simp [results, Tryz.results70, go_sem, z0, z1, z2, y0, y1, y2, wv]) rfl ⟨rfl, HK0.out⟩
set_option maxHeartbeats 4000000 in
set_option maxRecDepth 100000 in
theorem way_down (hB : NV w b H S) (n : Net H S) {x : Int} (h0 : H ≤ x) (h1 : x < 2 * H) : Calls Tryz.prog 70 #[ptr b, .int .i64 x] w fun e w' => e = .returned (wv (2, (x - H) / 2, x - H)) ∧ Kept (fun _ => False) w w' := by
 have CP := Lib.hid fun w' (h : SW w b H S w') => callW h (ports_any h.2 n)
 have CA := Lib.hid fun w' (h : SW w b H S w') => callW h (s2l_any h.2 n (x := 0) (l := 0) (by omega) (by omega) (by omega) (by omega))
 have CB := Lib.hid fun w' (h : SW w b H S w') => callW h (l2s_any h.2 n (l := 0) (x := 0) (by omega) (by omega) (by omega) (by omega))
 have CC := Lib.hid fun w' (h : SW w b H S w') => callW h (Calls.mono (l2h_any h.2 n (x := 0) (by omega) (by omega)) fun _ _ ⟨e1, e2⟩ => ⟨e1, 0, e2 ▸ rfl⟩)
 simp only [Int.zero_mul, Int.add_zero] at CA CB CC
 have hm := mm_in n
 have CF := Lib.hid fun w => leafOf_any (x := x - H) (by omega) (by have := n.h1; omega) w
 have n0 := n.h0
 have n1 := n.h1
 have g0 : ¬ x < 0 := by omega
 have g1 : ¬ pts H S ≤ x := by unfold pts; omega
 have g2 : ¬ 2 * H + mm H S ≤ x := by omega
 have g3 : ¬ 2 * H ≤ x := by omega
 have d1 : decide (pts H S ≤ x) = false := decide_eq_false g1
 generalize pts H S = P at *
 generalize mm H S = M at *
 go_enter Tryz.func70, Tryz.ntmps70
 go_upto_region 1 with fail
 have hO := Blk.new w [.int .i64 0, .int .i64 0, .int .i64 0] tW
 have hk := (Kept.refl (fun _ => False) w).alloc (.cells [.int .i64 0, .int .i64 0, .int .i64 0].toArray tW)
 dsimp only [List.toArray] at hO hk
 generalize w.alloc (.cells #[.int .i64 0, .int .i64 0, .int .i64 0] tW) = w1 at *
 obtain ⟨rb, hrb⟩ : ∃ rb, w.heap.size = rb := ⟨_, rfl⟩
 rw [hrb] at hO
 simp only [hrb]
 have HR := Lib.hid hrb
 have HW : Hid (SW w b H S w1) := Lib.hid ⟨hk, hk.blk hB (fun f => f)⟩
 have HO := Lib.hid hO
 clear hrb hO hk hB
 go_wp2_with fail
 with_reducible refine Calls.mono (CP.out _ HW.out) ?_
 rintro e w2 ⟨rfl, hW, hk⟩
 have HO := Lib.hid (hk.blk HO.out (fun f => f))
 have HW := Lib.hid hW
 clear hW hk
 go_wp2_with fail
 with_reducible refine Calls.mono (CA.out _ HW.out) ?_
 rintro e w3 ⟨rfl, hW, hk⟩
 have HO := Lib.hid (hk.blk HO.out (fun f => f))
 have HW := Lib.hid hW
 clear hW hk
 go_wp2_with fail
 with_reducible refine Calls.mono (CB.out _ HW.out) ?_
 rintro e w4 ⟨rfl, hW, hk⟩
 have HO := Lib.hid (hk.blk HO.out (fun f => f))
 have HW := Lib.hid hW
 clear hW hk
 go_wp2_with fail
 with_reducible refine Calls.mono (CC.out _ HW.out) ?_
 rintro e w5 ⟨rfl, hW, hk⟩
 have HO := Lib.hid (hk.blk HO.out (fun f => f))
 have HW := Lib.hid hW
 clear hW hk
 go_upto_region 13 with fail
 have f0 := HO.out.frozen 0
 have f1 := HO.out.frozen 1
 have f2 := HO.out.frozen 2
 have q0 := HO.out.cell (o := 0) rfl
 have q1 := HO.out.cell (o := 1) rfl
 have q2 := HO.out.cell (o := 2) rfl
 have c1 := HW.out.2.cell (o := 1) rfl
 have z0 := fun k => (set3 (HO.out.drewN k) (.int .i64 2) (.int .i64 ((x - H) / 2)) (.int .i64 (x - H))).cell (o := 0) rfl
 have z1 := fun k => (set3 (HO.out.drewN k) (.int .i64 2) (.int .i64 ((x - H) / 2)) (.int .i64 (x - H))).cell (o := 1) rfl
 have z2 := fun k => (set3 (HO.out.drewN k) (.int .i64 2) (.int .i64 ((x - H) / 2)) (.int .i64 (x - H))).cell (o := 2) rfl
 have y0 := (set3 HO.out (.int .i64 2) (.int .i64 ((x - H) / 2)) (.int .i64 (x - H))).cell (o := 0) rfl
 have y1 := (set3 HO.out (.int .i64 2) (.int .i64 ((x - H) / 2)) (.int .i64 (x - H))).cell (o := 1) rfl
 have y2 := (set3 HO.out (.int .i64 2) (.int .i64 ((x - H) / 2)) (.int .i64 (x - H))).cell (o := 2) rfl
 have HK := Lib.hid fun k => kept3 (HW.out.1.drewN k) HR.out (.int .i64 2) (.int .i64 ((x - H) / 2)) (.int .i64 (x - H))
 have HK0 := Lib.hid (kept3 HW.out.1 HR.out (.int .i64 2) (.int .i64 ((x - H) / 2)) (.int .i64 (x - H)))
 go_wp2_with fail
 with_reducible refine Calls.mono (CF.out _) ?_
 rintro e w' ⟨rfl, rfl⟩
 go_wp2_with fail
 exact bodyPost_ret (v := wv (2, (x - H) / 2, x - H)) (by simp [results, Tryz.results70, go_sem, z0, z1, z2, y0, y1, y2, wv]) rfl ⟨rfl, HK0.out⟩
set_option maxHeartbeats 4000000 in
set_option maxRecDepth 100000 in
theorem way_lup (hB : NV w b H S) (n : Net H S) {x : Int} (h0 : 2 * H ≤ x) (h1 : x < 2 * H + mm H S) : Calls Tryz.prog 70 #[ptr b, .int .i64 x] w fun e w' => e = .returned (wv (3, (x - 2 * H) / S, (x - 2 * H) % S)) ∧ Kept (fun _ => False) w w' := by
 have CP := Lib.hid fun w' (h : SW w b H S w') => callW h (ports_any h.2 n)
 have CA := Lib.hid fun w' (h : SW w b H S w') => callW h (s2l_any h.2 n (x := 0) (l := 0) (by omega) (by omega) (by omega) (by omega))
 have CB := Lib.hid fun w' (h : SW w b H S w') => callW h (l2s_any h.2 n (l := 0) (x := 0) (by omega) (by omega) (by omega) (by omega))
 have CC := Lib.hid fun w' (h : SW w b H S w') => callW h (Calls.mono (l2h_any h.2 n (x := 0) (by omega) (by omega)) fun _ _ ⟨e1, e2⟩ => ⟨e1, 0, e2 ▸ rfl⟩)
 simp only [Int.zero_mul, Int.add_zero] at CA CB CC
 have hm := mm_in n
 have n0 := n.h0
 have n1 := n.h1
 have n2 := n.s0
 have n3 := n.s1
 have dv := div_in (k := x - 2 * H) (n := S) (L := lv H) n2 (by omega) (by show _ < mm H S; omega)
 have hl := lv_in n
 have hS0 : ¬ S = 0 := by omega
 have hS1 : (S == 0) = false := by rw [beq_eq_false_iff_ne]; exact hS0
 have g0 : ¬ x < 0 := by omega
 have g1 : ¬ pts H S ≤ x := by unfold pts; omega
 have g2 : ¬ 2 * H + mm H S ≤ x := by omega
 have d1 : decide (pts H S ≤ x) = false := decide_eq_false g1
 generalize pts H S = P at *
 generalize mm H S = M at *
 generalize lv H = L at *
 have hy : 0 ≤ x - 2 * H := by omega
 go_enter Tryz.func70, Tryz.ntmps70
 go_upto_region 1 with fail
 have hO := Blk.new w [.int .i64 0, .int .i64 0, .int .i64 0] tW
 have hk := (Kept.refl (fun _ => False) w).alloc (.cells [.int .i64 0, .int .i64 0, .int .i64 0].toArray tW)
 dsimp only [List.toArray] at hO hk
 generalize w.alloc (.cells #[.int .i64 0, .int .i64 0, .int .i64 0] tW) = w1 at *
 obtain ⟨rb, hrb⟩ : ∃ rb, w.heap.size = rb := ⟨_, rfl⟩
 rw [hrb] at hO
 simp only [hrb]
 have HR := Lib.hid hrb
 have HW : Hid (SW w b H S w1) := Lib.hid ⟨hk, hk.blk hB (fun f => f)⟩
 have HO := Lib.hid hO
 clear hrb hO hk hB
 go_wp2_with fail
 with_reducible refine Calls.mono (CP.out _ HW.out) ?_
 rintro e w2 ⟨rfl, hW, hk⟩
 have HO := Lib.hid (hk.blk HO.out (fun f => f))
 have HW := Lib.hid hW
 clear hW hk
 go_wp2_with fail
 with_reducible refine Calls.mono (CA.out _ HW.out) ?_
 rintro e w3 ⟨rfl, hW, hk⟩
 have HO := Lib.hid (hk.blk HO.out (fun f => f))
 have HW := Lib.hid hW
 clear hW hk
 go_wp2_with fail
 with_reducible refine Calls.mono (CB.out _ HW.out) ?_
 rintro e w4 ⟨rfl, hW, hk⟩
 have HO := Lib.hid (hk.blk HO.out (fun f => f))
 have HW := Lib.hid hW
 clear hW hk
 go_upto_region 10 with fail
 have f0 := HO.out.frozen 0
 have f1 := HO.out.frozen 1
 have f2 := HO.out.frozen 2
 have q0 := HO.out.cell (o := 0) rfl
 have q1 := HO.out.cell (o := 1) rfl
 have q2 := HO.out.cell (o := 2) rfl
 have c1 := HW.out.2.cell (o := 1) rfl
 have z0 := fun k => (set3 (HO.out.drewN k) (.int .i64 3) (.int .i64 ((x - 2 * H) / S)) (.int .i64 ((x - 2 * H) % S))).cell (o := 0) rfl
 have z1 := fun k => (set3 (HO.out.drewN k) (.int .i64 3) (.int .i64 ((x - 2 * H) / S)) (.int .i64 ((x - 2 * H) % S))).cell (o := 1) rfl
 have z2 := fun k => (set3 (HO.out.drewN k) (.int .i64 3) (.int .i64 ((x - 2 * H) / S)) (.int .i64 ((x - 2 * H) % S))).cell (o := 2) rfl
 have y0 := (set3 HO.out (.int .i64 3) (.int .i64 ((x - 2 * H) / S)) (.int .i64 ((x - 2 * H) % S))).cell (o := 0) rfl
 have y1 := (set3 HO.out (.int .i64 3) (.int .i64 ((x - 2 * H) / S)) (.int .i64 ((x - 2 * H) % S))).cell (o := 1) rfl
 have y2 := (set3 HO.out (.int .i64 3) (.int .i64 ((x - 2 * H) / S)) (.int .i64 ((x - 2 * H) % S))).cell (o := 2) rfl
 have HK := Lib.hid fun k => kept3 (HW.out.1.drewN k) HR.out (.int .i64 3) (.int .i64 ((x - 2 * H) / S)) (.int .i64 ((x - 2 * H) % S))
 have HK0 := Lib.hid (kept3 HW.out.1 HR.out (.int .i64 3) (.int .i64 ((x - 2 * H) / S)) (.int .i64 ((x - 2 * H) % S)))
 go_region
 go_wp2_with fail
 exact bodyPost_ret (v := wv (3, (x - 2 * H) / S, (x - 2 * H) % S)) (by simp [results, Tryz.results70, go_sem, z0, z1, z2, y0, y1, y2, wv]) rfl ⟨rfl, HK.out _⟩
set_option maxHeartbeats 4000000 in
set_option maxRecDepth 100000 in
theorem way_sdn (hB : NV w b H S) (n : Net H S) {x : Int} (h0 : 2 * H + mm H S ≤ x) (h1 : x < 2 * H + 2 * mm H S) : Calls Tryz.prog 70 #[ptr b, .int .i64 x] w fun e w' => e = .returned (wv (4, (x - 2 * H - mm H S) / lv H, (x - 2 * H - mm H S) % lv H)) ∧ Kept (fun _ => False) w w' := by
 have CP := Lib.hid fun w' (h : SW w b H S w') => callW h (ports_any h.2 n)
 have CA := Lib.hid fun w' (h : SW w b H S w') => callW h (s2l_any h.2 n (x := 0) (l := 0) (by omega) (by omega) (by omega) (by omega))
 have CB := Lib.hid fun w' (h : SW w b H S w') => callW h (l2s_any h.2 n (l := 0) (x := 0) (by omega) (by omega) (by omega) (by omega))
 have CC := Lib.hid fun w' (h : SW w b H S w') => callW h (Calls.mono (l2h_any h.2 n (x := 0) (by omega) (by omega)) fun _ _ ⟨e1, e2⟩ => ⟨e1, 0, e2 ▸ rfl⟩)
 simp only [Int.zero_mul, Int.add_zero] at CA CB CC
 have CL := Lib.hid fun w' (h : NV w' b H S) => leaves_any h n
 have hm := mm_in n
 have n0 := n.h0
 have n1 := n.h1
 have hl := lv_in n
 have e4 : S * lv H = mm H S := Int.mul_comm _ _
 have dv := div_in (k := x - 2 * H - mm H S) (n := lv H) (L := S) hl.1 (by omega) (by rw [e4]; omega)
 have hS0 : ¬ lv H = 0 := by omega
 have hS1 : (lv H == 0) = false := by rw [beq_eq_false_iff_ne]; exact hS0
 have g0 : ¬ x < 0 := by omega
 have g1 : ¬ pts H S ≤ x := by unfold pts; omega
 have d1 : decide (pts H S ≤ x) = false := decide_eq_false g1
 clear e4
 generalize pts H S = P at *
 generalize mm H S = M at *
 generalize lv H = L at *
 obtain ⟨y, hy⟩ : ∃ y, y = x - 2 * H - M := ⟨_, rfl⟩
 rw [← hy] at dv ⊢
 have hy2 : x - (2 * H + M) = y := by omega
 have hy3 : 0 ≤ y ∧ y ≤ 1000 := by omega
 have e1 : y.tdiv L = y / L := Int.tdiv_eq_ediv_of_nonneg hy3.1
 have e2 : y.tmod L = y % L := Int.tmod_eq_emod_of_nonneg hy3.1
 have e3 : IntKind.i64.wrap (y / L) = y / L := by have := n.s1; rw [IntKind.wrap_i64]; omega
 clear hy
 go_enter Tryz.func70, Tryz.ntmps70
 go_upto_region 1 with fail
 have hO := Blk.new w [.int .i64 0, .int .i64 0, .int .i64 0] tW
 have hk := (Kept.refl (fun _ => False) w).alloc (.cells [.int .i64 0, .int .i64 0, .int .i64 0].toArray tW)
 dsimp only [List.toArray] at hO hk
 generalize w.alloc (.cells #[.int .i64 0, .int .i64 0, .int .i64 0] tW) = w1 at *
 obtain ⟨rb, hrb⟩ : ∃ rb, w.heap.size = rb := ⟨_, rfl⟩
 rw [hrb] at hO
 simp only [hrb]
 have HR := Lib.hid hrb
 have HW : Hid (SW w b H S w1) := Lib.hid ⟨hk, hk.blk hB (fun f => f)⟩
 have HO := Lib.hid hO
 clear hrb hO hk hB
 go_wp2_with fail
 with_reducible refine Calls.mono (CP.out _ HW.out) ?_
 rintro e w2 ⟨rfl, hW, hk⟩
 have HO := Lib.hid (hk.blk HO.out (fun f => f))
 have HW := Lib.hid hW
 clear hW hk
 go_wp2_with fail
 with_reducible refine Calls.mono (CA.out _ HW.out) ?_
 rintro e w3 ⟨rfl, hW, hk⟩
 have HO := Lib.hid (hk.blk HO.out (fun f => f))
 have HW := Lib.hid hW
 clear hW hk
 go_upto_region 6 with fail
 have f0 := HO.out.frozen 0
 have f1 := HO.out.frozen 1
 have f2 := HO.out.frozen 2
 have q0 := HO.out.cell (o := 0) rfl
 have q1 := HO.out.cell (o := 1) rfl
 have q2 := HO.out.cell (o := 2) rfl
 have c1 := HW.out.2.cell (o := 1) rfl
 have z0 := fun k => (set3 (HO.out.drewN k) (.int .i64 4) (.int .i64 (y / L)) (.int .i64 (y % L))).cell (o := 0) rfl
 have z1 := fun k => (set3 (HO.out.drewN k) (.int .i64 4) (.int .i64 (y / L)) (.int .i64 (y % L))).cell (o := 1) rfl
 have z2 := fun k => (set3 (HO.out.drewN k) (.int .i64 4) (.int .i64 (y / L)) (.int .i64 (y % L))).cell (o := 2) rfl
 have y0 := (set3 HO.out (.int .i64 4) (.int .i64 (y / L)) (.int .i64 (y % L))).cell (o := 0) rfl
 have y1 := (set3 HO.out (.int .i64 4) (.int .i64 (y / L)) (.int .i64 (y % L))).cell (o := 1) rfl
 have y2 := (set3 HO.out (.int .i64 4) (.int .i64 (y / L)) (.int .i64 (y % L))).cell (o := 2) rfl
 have HK := Lib.hid fun k => kept3 (HW.out.1.drewN k) HR.out (.int .i64 4) (.int .i64 (y / L)) (.int .i64 (y % L))
 have HK0 := Lib.hid (kept3 HW.out.1 HR.out (.int .i64 4) (.int .i64 (y / L)) (.int .i64 (y % L)))
 have HNV : Hid (NV w3 b H S) := Lib.hid HW.out.2
 go_region_with (first | (go_at_call 83; with_reducible refine Calls.mono (CL.out _ (drewAny HNV.out (by first | exact ⟨0, rfl⟩ | exact ⟨1, rfl⟩ | exact ⟨_, rfl⟩))) ?_; rintro e w' ⟨rfl, rfl⟩))
 all_goals
  go_wp2_with fail
  exact bodyPost_ret (v := wv (4, y / L, y % L)) (by simp [results, Tryz.results70, go_sem, z0, z1, z2, y0, y1, y2, wv]) rfl ⟨rfl, (by first | exact HK.out _ | exact HK0.out.drew | exact HK0.out.drewN _)⟩
end Go.Proofs.YtpogpibjkolioaaGreat.Tp

/- Where a frame goes: Next. Conditions: each theorem's own. -/
namespace Go.Proofs.YtpogpibjkolioaaGreat.Tp
open Go.RowKit Hp TpM
attribute [local go_sem ↓] Go.wp_at_zero Go.wp_at_succ
variable {w : World} {b : Nat} {H S : Int}
abbrev nv (t : Int × Bool) : Value := .tuple #[.int .i64 t.1, .bool t.2]
theorem way_any (hB : NV w b H S) (n : Net H S) (x : Int) : Calls Tryz.prog 70 #[ptr b, .int .i64 x] w fun e w' => e = .returned (wv (kd H S x)) ∧ Kept (fun _ => False) w w' := by
 rcases five n x with h | ⟨h, h2⟩ | ⟨h, h2⟩ | ⟨h, h2⟩ | ⟨h, h2⟩
 ·rw [kd_none h]
  refine way_none ?_
  by_cases h2 : x < 0
  ·exact Or.inl h2
  ·exact Or.inr ⟨pts H S, h2, by omega, Lib.hid fun w' k => ports_any (k.blk hB (fun f => f)) n⟩
 ·rw [kd_up n h h2]; exact way_up hB n h h2
 ·rw [kd_down n h h2]; exact way_down hB n h h2
 ·rw [kd_lup n h h2]; exact way_lup hB n h h2
 ·rw [kd_sdn n h h2]; exact way_sdn hB n h h2
theorem next_off {p : Value} {x d q : Int} (C : Hid (Calls Tryz.prog 63 #[p, .int .i64 d] w fun e w' => e = .returned (.bool false) ∧ w = w')) :
  Calls Tryz.prog 40 #[p, .int .i64 x, .int .i64 d, .int .i64 q] w fun e w' => e = .returned (nv (-1, false)) ∧ Kept (fun _ => False) w w' := by
 go_enter Tryz.func40, Tryz.ntmps40
 go_wp2_with fail
 with_reducible refine Calls.mono C.out ?_
 rintro e w' ⟨rfl, rfl⟩
 go_wp2_with fail
 exact bodyPost_ret (v := nv (-1, false)) (by simp [results, Tryz.results40, go_sem]) rfl ⟨rfl, Kept.refl _ w⟩
set_option maxHeartbeats 4000000 in
set_option maxRecDepth 100000 in
theorem next_none (hB : NV w b H S) (n : Net H S) {x d q a c : Int} (d0 : 0 ≤ d) (d1 : d < H) (hk : kd H S x = (0, a, c)) : Calls Tryz.prog 40 #[ptr b, .int .i64 x, .int .i64 d, .int .i64 q] w fun e w' => e = .returned (nv (-1, false)) ∧ Kept (fun _ => False) w w' := by
 have CH := Lib.hid (has_yes hB d0 d1)
 have CW := way_any hB n x
 have hin := kd_in n x
 have hl := lv_in n
 rw [hk] at CW hin
 dsimp only at hin
 unfold wv at CW
 dsimp only at CW
 have CW := Lib.hid CW
 have n0 := n.h0
 have n1 := n.h1
 have CF := Lib.hid fun w => leafOf_any (x := d) d0 (by omega) w
 clear hk hin
 go_enter Tryz.func40, Tryz.ntmps40
 go_wp2_with fail
 with_reducible refine Calls.mono CH.out ?_
 rintro e w' ⟨rfl, rfl⟩
 go_wp2_with fail
 with_reducible refine Calls.mono CW.out ?_
 rintro e w2 ⟨rfl, hK⟩
 go_upto_region 4 with fail
 have hB2 := hK.blk hB (fun f => f)
 have hO := Blk.new w2 [.int .i64 0, .int .i64 a, .int .i64 c] tW
 have hk2 := (Kept.refl (fun _ => False) w2).alloc (.cells [.int .i64 0, .int .i64 a, .int .i64 c].toArray tW)
 dsimp only [List.toArray] at hO hk2
 have hB3 := hk2.blk hB2 (fun f => f)
 have HK := Lib.hid (hK.trans hk2)
 generalize w2.alloc (.cells #[.int .i64 0, .int .i64 a, .int .i64 c] tW) = w3 at *
 generalize w2.heap.size = ob at *
 have o0 := hO.cell (o := 0) rfl
 have o2 := hO.cell (o := 2) rfl
 have HB := Lib.hid hB3
 clear hO hk2 hB hB2 hB3 hK CH CW
 go_wp2_with fail
 exact bodyPost_ret (v := nv (-1, false)) (by simp [results, Tryz.results40, go_sem]) rfl ⟨rfl, HK.out⟩
set_option maxHeartbeats 4000000 in
set_option maxRecDepth 100000 in
theorem next_up (hB : NV w b H S) (n : Net H S) {x d q a c : Int} (d0 : 0 ≤ d) (d1 : d < H) (hcl : 0 ≤ c ∧ c ≤ 4) (e : c ≠ d / 2) (hk : kd H S x = (1, a, c)) : Calls Tryz.prog 40 #[ptr b, .int .i64 x, .int .i64 d, .int .i64 q] w fun e w' => e = .returned (nv (2 * H + (c * S + sp S q), false)) ∧ Kept (fun _ => False) w w' := by
 have CH := Lib.hid (has_yes hB d0 d1)
 have CW := way_any hB n x
 have hin := kd_in n x
 have hl := lv_in n
 rw [hk] at CW hin
 dsimp only at hin
 unfold wv at CW
 dsimp only at CW
 have CW := Lib.hid CW
 have n0 := n.h0
 have n1 := n.h1
 have CF := Lib.hid fun w => leafOf_any (x := d) d0 (by omega) w
 have s1 := sp_in n q
 have CS := Lib.hid fun w (h : NV w b H S) => spine_any h n (q := q)
 have CL := Lib.hid fun w (h : NV w b H S) => l2s_any h n (l := c) (x := sp S q) hcl.1 hcl.2 s1.1 (by have := n.s1; omega)
 have hne : (c == d / 2) = false := by rw [beq_eq_false_iff_ne]; exact e
 have hne2 : (c != d / 2) = true := by rw [bne_iff_ne]; exact e
 generalize sp S q = s at *
 clear s1
 clear hk hin
 go_enter Tryz.func40, Tryz.ntmps40
 go_wp2_with fail
 with_reducible refine Calls.mono CH.out ?_
 rintro e w' ⟨rfl, rfl⟩
 go_wp2_with fail
 with_reducible refine Calls.mono CW.out ?_
 rintro e w2 ⟨rfl, hK⟩
 go_upto_region 4 with fail
 have hB2 := hK.blk hB (fun f => f)
 have hO := Blk.new w2 [.int .i64 1, .int .i64 a, .int .i64 c] tW
 have hk2 := (Kept.refl (fun _ => False) w2).alloc (.cells [.int .i64 1, .int .i64 a, .int .i64 c].toArray tW)
 dsimp only [List.toArray] at hO hk2
 have hB3 := hk2.blk hB2 (fun f => f)
 have HK := Lib.hid (hK.trans hk2)
 generalize w2.alloc (.cells #[.int .i64 1, .int .i64 a, .int .i64 c] tW) = w3 at *
 generalize w2.heap.size = ob at *
 have o0 := hO.cell (o := 0) rfl
 have o2 := hO.cell (o := 2) rfl
 have HB := Lib.hid hB3
 clear hO hk2 hB hB2 hB3 hK CH CW
 generalize d / 2 = dd at *
 go_wp2_with fail
 go_quiet ((go_at_call 71; exact Calls.quiet_of_same ((CF.out _).mono fun _ _ ⟨e1, e2⟩ => ⟨e1, e2.symm⟩)))
 go_upto_region 7 with fail
 replace HB := Lib.hid (HB.out.drewN nq)
 replace HK := Lib.hid (HK.out.drewN nq)
 replace o2 : (w3.drewN nq).cell? ⟨ob, 2, none⟩ = some (.int .i64 c) := o2
 generalize w3.drewN nq = w4 at *
 go_quiet (first | (go_at_call 73; exact Calls.quiet_of_same ((CS.out _ (by first | exact HB.out.drewN _ | exact (HB.out.drewN _).drewN _)).mono fun _ _ ⟨e1, e2⟩ => ⟨e1, e2.symm⟩)) | (go_at_call 72; exact Calls.quiet_of (CL.out _ (by first | exact HB.out.drewN _ | exact (HB.out.drewN _).drewN _))))
 go_wp2_with fail
 exact bodyPost_ret (v := nv (2 * H + (c * S + s), false)) (by simp [results, Tryz.results40, go_sem]) rfl ⟨rfl, HK.out.drewN _⟩
set_option maxHeartbeats 4000000 in
set_option maxRecDepth 100000 in
theorem next_up2 (hB : NV w b H S) (n : Net H S) {x d q a c : Int} (d0 : 0 ≤ d) (d1 : d < H) (e : c = d / 2) (hk : kd H S x = (1, a, c)) : Calls Tryz.prog 40 #[ptr b, .int .i64 x, .int .i64 d, .int .i64 q] w fun e w' => e = .returned (nv (H + d, false)) ∧ Kept (fun _ => False) w w' := by
 have CH := Lib.hid (has_yes hB d0 d1)
 have CW := way_any hB n x
 have hin := kd_in n x
 have hl := lv_in n
 rw [hk] at CW hin
 dsimp only at hin
 unfold wv at CW
 dsimp only at CW
 have CW := Lib.hid CW
 have n0 := n.h0
 have n1 := n.h1
 have CF := Lib.hid fun w => leafOf_any (x := d) d0 (by omega) w
 have CL := Lib.hid fun w (h : NV w b H S) => l2h_any h n (x := d) d0 (by omega)
 have E := Lib.hid e
 clear e
 clear hk hin
 go_enter Tryz.func40, Tryz.ntmps40
 go_wp2_with fail
 with_reducible refine Calls.mono CH.out ?_
 rintro e w' ⟨rfl, rfl⟩
 go_wp2_with fail
 with_reducible refine Calls.mono CW.out ?_
 rintro e w2 ⟨rfl, hK⟩
 go_upto_region 4 with fail
 have hB2 := hK.blk hB (fun f => f)
 have hO := Blk.new w2 [.int .i64 1, .int .i64 a, .int .i64 c] tW
 have hk2 := (Kept.refl (fun _ => False) w2).alloc (.cells [.int .i64 1, .int .i64 a, .int .i64 c].toArray tW)
 dsimp only [List.toArray] at hO hk2
 have hB3 := hk2.blk hB2 (fun f => f)
 have HK := Lib.hid (hK.trans hk2)
 generalize w2.alloc (.cells #[.int .i64 1, .int .i64 a, .int .i64 c] tW) = w3 at *
 generalize w2.heap.size = ob at *
 have o0 := hO.cell (o := 0) rfl
 have o2 := hO.cell (o := 2) rfl
 have HB := Lib.hid hB3
 clear hO hk2 hB hB2 hB3 hK CH CW
 generalize d / 2 = dd at *
 obtain rfl := E.out
 go_wp2_with fail
 go_quiet ((go_at_call 71; exact Calls.quiet_of_same ((CF.out _).mono fun _ _ ⟨e1, e2⟩ => ⟨e1, e2.symm⟩)))
 go_wp2_with fail
 with_reducible refine Calls.mono (CL.out _ (HB.out.drewN _)) ?_
 rintro e w' ⟨rfl, rfl⟩
 go_wp2_with fail
 exact bodyPost_ret (v := nv (H + d, false)) (by simp [results, Tryz.results40, go_sem]) rfl ⟨rfl, HK.out.drewN _⟩
set_option maxHeartbeats 4000000 in
set_option maxRecDepth 100000 in
theorem next_down (hB : NV w b H S) (n : Net H S) {x d q a c : Int} (d0 : 0 ≤ d) (d1 : d < H) (hk : kd H S x = (2, a, c)) : Calls Tryz.prog 40 #[ptr b, .int .i64 x, .int .i64 d, .int .i64 q] w fun e w' => e = .returned (nv (-1, true)) ∧ Kept (fun _ => False) w w' := by
 have CH := Lib.hid (has_yes hB d0 d1)
 have CW := way_any hB n x
 have hin := kd_in n x
 have hl := lv_in n
 rw [hk] at CW hin
 dsimp only at hin
 unfold wv at CW
 dsimp only at CW
 have CW := Lib.hid CW
 have n0 := n.h0
 have n1 := n.h1
 have CF := Lib.hid fun w => leafOf_any (x := d) d0 (by omega) w
 clear hk hin
 go_enter Tryz.func40, Tryz.ntmps40
 go_wp2_with fail
 with_reducible refine Calls.mono CH.out ?_
 rintro e w' ⟨rfl, rfl⟩
 go_wp2_with fail
 with_reducible refine Calls.mono CW.out ?_
 rintro e w2 ⟨rfl, hK⟩
 go_upto_region 4 with fail
 have hB2 := hK.blk hB (fun f => f)
 have hO := Blk.new w2 [.int .i64 2, .int .i64 a, .int .i64 c] tW
 have hk2 := (Kept.refl (fun _ => False) w2).alloc (.cells [.int .i64 2, .int .i64 a, .int .i64 c].toArray tW)
 dsimp only [List.toArray] at hO hk2
 have hB3 := hk2.blk hB2 (fun f => f)
 have HK := Lib.hid (hK.trans hk2)
 generalize w2.alloc (.cells #[.int .i64 2, .int .i64 a, .int .i64 c] tW) = w3 at *
 generalize w2.heap.size = ob at *
 have o0 := hO.cell (o := 0) rfl
 have o2 := hO.cell (o := 2) rfl
 have HB := Lib.hid hB3
 clear hO hk2 hB hB2 hB3 hK CH CW
 go_wp2_with fail
 exact bodyPost_ret (v := nv (-1, true)) (by simp [results, Tryz.results40, go_sem]) rfl ⟨rfl, HK.out⟩
set_option maxHeartbeats 4000000 in
set_option maxRecDepth 100000 in
theorem next_lup (hB : NV w b H S) (n : Net H S) {x d q a c : Int} (d0 : 0 ≤ d) (d1 : d < H) (hcl : 0 ≤ c ∧ c ≤ 4) (hk : kd H S x = (3, a, c)) : Calls Tryz.prog 40 #[ptr b, .int .i64 x, .int .i64 d, .int .i64 q] w fun e w' => e = .returned (nv (2 * H + mm H S + (c * lv H + d / 2), false)) ∧ Kept (fun _ => False) w w' := by
 have CH := Lib.hid (has_yes hB d0 d1)
 have CW := way_any hB n x
 have hin := kd_in n x
 have hl := lv_in n
 rw [hk] at CW hin
 dsimp only at hin
 unfold wv at CW
 dsimp only at CW
 have CW := Lib.hid CW
 have n0 := n.h0
 have n1 := n.h1
 have CF := Lib.hid fun w => leafOf_any (x := d) d0 (by omega) w
 have CL := Lib.hid fun w (h : NV w b H S) => s2l_any h n (x := c) (l := d / 2) hcl.1 hcl.2 (by omega) (by omega)
 generalize d / 2 = dd at *
 clear hk hin
 go_enter Tryz.func40, Tryz.ntmps40
 go_wp2_with fail
 with_reducible refine Calls.mono CH.out ?_
 rintro e w' ⟨rfl, rfl⟩
 go_wp2_with fail
 with_reducible refine Calls.mono CW.out ?_
 rintro e w2 ⟨rfl, hK⟩
 go_upto_region 4 with fail
 have hB2 := hK.blk hB (fun f => f)
 have hO := Blk.new w2 [.int .i64 3, .int .i64 a, .int .i64 c] tW
 have hk2 := (Kept.refl (fun _ => False) w2).alloc (.cells [.int .i64 3, .int .i64 a, .int .i64 c].toArray tW)
 dsimp only [List.toArray] at hO hk2
 have hB3 := hk2.blk hB2 (fun f => f)
 have HK := Lib.hid (hK.trans hk2)
 generalize w2.alloc (.cells #[.int .i64 3, .int .i64 a, .int .i64 c] tW) = w3 at *
 generalize w2.heap.size = ob at *
 have o0 := hO.cell (o := 0) rfl
 have o2 := hO.cell (o := 2) rfl
 have HB := Lib.hid hB3
 clear hO hk2 hB hB2 hB3 hK CH CW
 go_wp2_with fail
 go_quiet (first | (go_at_call 71; exact Calls.quiet_of_same ((CF.out _).mono fun _ _ ⟨e1, e2⟩ => ⟨e1, e2.symm⟩)) | (go_at_call 56; exact Calls.quiet_of (CL.out _ (by first | exact HB.out.drewN _ | exact (HB.out.drewN _).drewN _))))
 go_wp2_with fail
 exact bodyPost_ret (v := nv (2 * H + mm H S + (c * lv H + dd), false)) (by simp [results, Tryz.results40, go_sem]) rfl ⟨rfl, HK.out.drewN _⟩
set_option maxHeartbeats 4000000 in
set_option maxRecDepth 100000 in
theorem next_sdn (hB : NV w b H S) (n : Net H S) {x d q a c : Int} (d0 : 0 ≤ d) (d1 : d < H) (e : c ≠ d / 2) (hk : kd H S x = (4, a, c)) : Calls Tryz.prog 40 #[ptr b, .int .i64 x, .int .i64 d, .int .i64 q] w fun e w' => e = .returned (nv (-1, false)) ∧ Kept (fun _ => False) w w' := by
 have CH := Lib.hid (has_yes hB d0 d1)
 have CW := way_any hB n x
 have hin := kd_in n x
 have hl := lv_in n
 rw [hk] at CW hin
 dsimp only at hin
 unfold wv at CW
 dsimp only at CW
 have CW := Lib.hid CW
 have n0 := n.h0
 have n1 := n.h1
 have CF := Lib.hid fun w => leafOf_any (x := d) d0 (by omega) w
 have hne : (c == d / 2) = false := by rw [beq_eq_false_iff_ne]; exact e
 have hne2 : (c != d / 2) = true := by rw [bne_iff_ne]; exact e
 clear hk hin
 go_enter Tryz.func40, Tryz.ntmps40
 go_wp2_with fail
 with_reducible refine Calls.mono CH.out ?_
 rintro e w' ⟨rfl, rfl⟩
 go_wp2_with fail
 with_reducible refine Calls.mono CW.out ?_
 rintro e w2 ⟨rfl, hK⟩
 go_upto_region 4 with fail
 have hB2 := hK.blk hB (fun f => f)
 have hO := Blk.new w2 [.int .i64 4, .int .i64 a, .int .i64 c] tW
 have hk2 := (Kept.refl (fun _ => False) w2).alloc (.cells [.int .i64 4, .int .i64 a, .int .i64 c].toArray tW)
 dsimp only [List.toArray] at hO hk2
 have hB3 := hk2.blk hB2 (fun f => f)
 have HK := Lib.hid (hK.trans hk2)
 generalize w2.alloc (.cells #[.int .i64 4, .int .i64 a, .int .i64 c] tW) = w3 at *
 generalize w2.heap.size = ob at *
 have o0 := hO.cell (o := 0) rfl
 have o2 := hO.cell (o := 2) rfl
 have HB := Lib.hid hB3
 clear hO hk2 hB hB2 hB3 hK CH CW
 generalize d / 2 = dd at *
 go_wp2_with fail
 go_quiet ((go_at_call 71; exact Calls.quiet_of_same ((CF.out _).mono fun _ _ ⟨e1, e2⟩ => ⟨e1, e2.symm⟩)))
 go_wp2_with fail
 exact bodyPost_ret (v := nv (-1, false)) (by simp [results, Tryz.results40, go_sem]) rfl ⟨rfl, HK.out.drewN _⟩
set_option maxHeartbeats 4000000 in
set_option maxRecDepth 100000 in
theorem next_sdn2 (hB : NV w b H S) (n : Net H S) {x d q a c : Int} (d0 : 0 ≤ d) (d1 : d < H) (e : c = d / 2) (hk : kd H S x = (4, a, c)) : Calls Tryz.prog 40 #[ptr b, .int .i64 x, .int .i64 d, .int .i64 q] w fun e w' => e = .returned (nv (H + d, false)) ∧ Kept (fun _ => False) w w' := by
 have CH := Lib.hid (has_yes hB d0 d1)
 have CW := way_any hB n x
 have hin := kd_in n x
 have hl := lv_in n
 rw [hk] at CW hin
 dsimp only at hin
 unfold wv at CW
 dsimp only at CW
 have CW := Lib.hid CW
 have n0 := n.h0
 have n1 := n.h1
 have CF := Lib.hid fun w => leafOf_any (x := d) d0 (by omega) w
 have CL := Lib.hid fun w (h : NV w b H S) => l2h_any h n (x := d) d0 (by omega)
 have E := Lib.hid e
 clear e
 clear hk hin
 go_enter Tryz.func40, Tryz.ntmps40
 go_wp2_with fail
 with_reducible refine Calls.mono CH.out ?_
 rintro e w' ⟨rfl, rfl⟩
 go_wp2_with fail
 with_reducible refine Calls.mono CW.out ?_
 rintro e w2 ⟨rfl, hK⟩
 go_upto_region 4 with fail
 have hB2 := hK.blk hB (fun f => f)
 have hO := Blk.new w2 [.int .i64 4, .int .i64 a, .int .i64 c] tW
 have hk2 := (Kept.refl (fun _ => False) w2).alloc (.cells [.int .i64 4, .int .i64 a, .int .i64 c].toArray tW)
 dsimp only [List.toArray] at hO hk2
 have hB3 := hk2.blk hB2 (fun f => f)
 have HK := Lib.hid (hK.trans hk2)
 generalize w2.alloc (.cells #[.int .i64 4, .int .i64 a, .int .i64 c] tW) = w3 at *
 generalize w2.heap.size = ob at *
 have o0 := hO.cell (o := 0) rfl
 have o2 := hO.cell (o := 2) rfl
 have HB := Lib.hid hB3
 clear hO hk2 hB hB2 hB3 hK CH CW
 generalize d / 2 = dd at *
 obtain rfl := E.out
 go_wp2_with fail
 go_quiet ((go_at_call 71; exact Calls.quiet_of_same ((CF.out _).mono fun _ _ ⟨e1, e2⟩ => ⟨e1, e2.symm⟩)))
 go_wp2_with fail
 with_reducible refine Calls.mono (CL.out _ (HB.out.drewN _)) ?_
 rintro e w' ⟨rfl, rfl⟩
 go_wp2_with fail
 exact bodyPost_ret (v := nv (H + d, false)) (by simp [results, Tryz.results40, go_sem]) rfl ⟨rfl, HK.out.drewN _⟩
theorem next_any (hB : NV w b H S) (n : Net H S) (x d q : Int) : Calls Tryz.prog 40 #[ptr b, .int .i64 x, .int .i64 d, .int .i64 q] w fun e w' => e = .returned (nv (nx H S x d q)) ∧ Kept (fun _ => False) w w' := by
 by_cases hd : d < 0 ∨ H ≤ d
 ·rw [nx_off hd]
  exact next_off (Lib.hid (has_no hB hd))
 have d0 : 0 ≤ d := by omega
 have d1 : d < H := by omega
 have hl := lv_in n
 have hm := mm_in n
 have n0 := n.h0
 have n1 := n.h1
 rcases five n x with h | ⟨h, h2⟩ | ⟨h, h2⟩ | ⟨h, h2⟩ | ⟨h, h2⟩
 ·rw [nx_none h]; exact next_none hB n d0 d1 (kd_none h)
 ·rw [nx_up n d0 d1 h h2]
  split
  ·exact next_up2 hB n d0 d1 (by assumption) (kd_up n h h2)
  ·exact next_up hB n d0 d1 (by omega) (by assumption) (kd_up n h h2)
 ·rw [nx_down n d0 d1 h h2]; exact next_down hB n d0 d1 (kd_down n h h2)
 ·rw [nx_lup n d0 d1 h h2]
  have := div_in (k := x - 2 * H) (n := S) (L := lv H) n.s0 (by omega) (by show _ < mm H S; omega)
  exact next_lup hB n d0 d1 ⟨this.2.2.1, by have := n.s1; omega⟩ (kd_lup n h h2)
 ·rw [nx_sdn n d0 d1 h h2]
  split
  ·exact next_sdn2 hB n d0 d1 (by assumption) (kd_sdn n h h2)
  ·exact next_sdn hB n d0 d1 (by assumption) (kd_sdn n h h2)
end Go.Proofs.YtpogpibjkolioaaGreat.Tp

