/- Which of two messages goes ahead, by the reference. Conditions: each theorem's own. -/
import Derived.Test.YtbohigfhbjconaaSrIdx
import Derived.Test.YtbohigfhbjconaaSrBu
import Derived.Deep.CutBlock
import Derived.Deep.DeepCutAuto
import Derived.Deep.RegionHeld3
set_option linter.unusedVariables false
set_option linter.unusedSimpArgs false
namespace Go.Proofs.Ytbohigfhbjconaa.Sr
open Go.RowKit Hp Go.Proofs.Ytbohigfhbjconaa.End Opn SrM So SoM
theorem six {z : World} {b : Nat} {T : TypeId} {a0 a1 a2 a3 a4 a5 : Value} (h : Blk z b [a0, a1, a2, a3, a4, a5] T) (v0 v1 v2 v3 v4 v5 : Value) :
    Blk ((((((z.setCell ⟨b, 0, none⟩ v0).setCell ⟨b, 1, none⟩ v1).setCell ⟨b, 2, none⟩ v2).setCell ⟨b, 3, none⟩ v3).setCell ⟨b, 4, none⟩ v4).setCell ⟨b, 5, none⟩ v5) b [v0, v1, v2, v3, v4, v5] T :=
  (((((h.set 0 v0).set 1 v1).set 2 v2).set 3 v3).set 4 v4).set 5 v5
theorem six_far {z : World} {b p : Nat} {T : TypeId} {c : List Value} (h : Blk z b c T) (hp : p ≠ b) (v0 v1 v2 v3 v4 v5 : Value) :
    Blk ((((((z.setCell ⟨p, 0, none⟩ v0).setCell ⟨p, 1, none⟩ v1).setCell ⟨p, 2, none⟩ v2).setCell ⟨p, 3, none⟩ v3).setCell ⟨p, 4, none⟩ v4).setCell ⟨p, 5, none⟩ v5) b c T :=
  (((((h.far hp 0 v0).far hp 1 v1).far hp 2 v2).far hp 3 v3).far hp 4 v4).far hp 5 v5
theorem six_kept {w z : World} (k : Kept (fun _ => False) w z) {b : Nat} (hb : ¬ b < w.heap.size) (v0 v1 v2 v3 v4 v5 : Value) :
    Kept (fun _ => False) w ((((((z.setCell ⟨b, 0, none⟩ v0).setCell ⟨b, 1, none⟩ v1).setCell ⟨b, 2, none⟩ v2).setCell ⟨b, 3, none⟩ v3).setCell ⟨b, 4, none⟩ v4).setCell ⟨b, 5, none⟩ v5) :=
  (((((k.set (b := b) (fun h => absurd h hb) 0 v0).set (b := b) (fun h => absurd h hb) 1 v1).set (b := b) (fun h => absurd h hb) 2 v2).set (b := b) (fun h => absurd h hb) 3 v3).set (b := b) (fun h => absurd h hb) 4 v4).set (b := b) (fun h => absurd h hb) 5 v5
set_option maxHeartbeats 8000000 in
set_option maxRecDepth 100000 in
theorem first_any {l : List M} {v : Value} {w : World} (hl : Rd w v l) {i j : Nat} (hi : i < l.length) (hj : j < l.length) (hoi : ok (at' l (i : Int)) = true) (hoj : ok (at' l (j : Int)) = true) (born : Bool) :
    Calls Try.prog 42 #[v, .int .i64 (i : Nat), .int .i64 (j : Nat), .bool born] w fun e w' => e = .returned (.bool (ltm born l (i : Int) (j : Int))) ∧ Kept (fun _ => False) w w' := by
  obtain ⟨q, hq⟩ : ∃ q, ltm born l (i : Int) (j : Int) = q := ⟨_, rfl⟩
  have hqi : q = true ↔ Ltm born l (i : Int) (j : Int) := by rw [← hq]; exact ltm_iff
  rw [hq]
  clear hq
  unfold Ltm at hqi
  obtain ⟨a, c, rfl, hc⟩ := hl
  obtain ⟨lg, lo, rfl, hg, x0, x1, x2, x3, x4, x5⟩ := hc i _ (at_len hi)
  obtain ⟨_, _, ee, _, y0, y1, y2, y3, y4, y5⟩ := hc j _ (at_len hj)
  cases ee
  obtain ⟨bx, _, _⟩ := may_bd (ok_may hoi).1
  obtain ⟨by', _, _⟩ := may_bd (ok_may hoj).1
  unfold B1 at bx by'
  obtain ⟨n, hn⟩ : ∃ n, l.length = n := ⟨_, rfl⟩
  rw [hn] at hi hj ⊢
  generalize at' l (i : Int) = x at *
  generalize at' l (j : Int) = y at *
  obtain ⟨xp, xi, xt, xh, xg, xb⟩ := x
  obtain ⟨yp, yi, yt, yh, yg, yb⟩ := y
  unfold key at hqi
  dsimp only at hqi bx by' x0 x1 x2 x3 x4 x5 y0 y1 y2 y3 y4 y5
  have HQ := Lib.hid hqi
  obtain ⟨bx1, bx2, bx3, bx4⟩ := bx
  obtain ⟨by1, by2, by3, by4⟩ := by'
  have hiz : (i : Int) < (n : Int) := by omega
  have hjz : (j : Int) < (n : Int) := by omega
  have KS := Lib.hid fun (w' : World) (k : Kept (fun _ => False) w w') => (show w'.cell? ⟨lg, lo + i * 6, none⟩ = some (.int .i64 xp) ∧ w'.cell? ⟨lg, lo + i * 6 + 1, none⟩ = some (.int .u64 xi) ∧ w'.cell? ⟨lg, lo + i * 6 + 2, none⟩ = some (.int .i64 xt) ∧ w'.cell? ⟨lg, lo + i * 6 + 3, none⟩ = some (.int .i64 xh) ∧ w'.cell? ⟨lg, lo + i * 6 + 4, none⟩ = some (.int .i64 xg) ∧ w'.cell? ⟨lg, lo + i * 6 + 5, none⟩ = some (.int .i64 xb) ∧ w'.cell? ⟨lg, lo + j * 6, none⟩ = some (.int .i64 yp) ∧ w'.cell? ⟨lg, lo + j * 6 + 1, none⟩ = some (.int .u64 yi) ∧ w'.cell? ⟨lg, lo + j * 6 + 2, none⟩ = some (.int .i64 yt) ∧ w'.cell? ⟨lg, lo + j * 6 + 3, none⟩ = some (.int .i64 yh) ∧ w'.cell? ⟨lg, lo + j * 6 + 4, none⟩ = some (.int .i64 yg) ∧ w'.cell? ⟨lg, lo + j * 6 + 5, none⟩ = some (.int .i64 yb) from
    ⟨(keptCell k hg (fun f => f) _).trans x0, (keptCell k hg (fun f => f) _).trans x1, (keptCell k hg (fun f => f) _).trans x2, (keptCell k hg (fun f => f) _).trans x3, (keptCell k hg (fun f => f) _).trans x4, (keptCell k hg (fun f => f) _).trans x5, (keptCell k hg (fun f => f) _).trans y0, (keptCell k hg (fun f => f) _).trans y1, (keptCell k hg (fun f => f) _).trans y2, (keptCell k hg (fun f => f) _).trans y3, (keptCell k hg (fun f => f) _).trans y4, (keptCell k hg (fun f => f) _).trans y5⟩)
  clear hqi hc x0 x1 x2 x3 x4 x5 y0 y1 y2 y3 y4 y5 hoi hoj hn hg
  go_enter Try.func42, Try.ntmps42
  go_upto_region 1 with fail
  go_cut [9, 10] from 13 to 20 (fun s9 s10 wx => ∃ p r : Nat, s9 = .pointer (some ⟨p, 0, none⟩) ∧ s10 = .pointer (some ⟨r, 0, none⟩) ∧ Hid (Blk wx p [.int .i64 xp, .int .u64 xi, .int .i64 xt, .int .i64 xh, .int .i64 xg, .int .i64 xb] 41) ∧ Hid (Blk wx r [.int .i64 yp, .int .u64 yi, .int .i64 yt, .int .i64 yh, .int .i64 yg, .int .i64 yb] 41) ∧ Hid (Kept (fun _ => False) w wx))
  case first =>
    have K0 : Hid (Kept (fun _ => False) w w.drew) := (Kept.refl _ w).drew
    refine wp_region_held_drew (S := fun w' => w'.cell? ⟨lg, lo + i * 6, none⟩ = some (.int .i64 xp) ∧ w'.cell? ⟨lg, lo + i * 6 + 1, none⟩ = some (.int .u64 xi) ∧ w'.cell? ⟨lg, lo + i * 6 + 2, none⟩ = some (.int .i64 xt) ∧ w'.cell? ⟨lg, lo + i * 6 + 3, none⟩ = some (.int .i64 xh) ∧ w'.cell? ⟨lg, lo + i * 6 + 4, none⟩ = some (.int .i64 xg) ∧ w'.cell? ⟨lg, lo + i * 6 + 5, none⟩ = some (.int .i64 xb) ∧ w'.cell? ⟨lg, lo + j * 6, none⟩ = some (.int .i64 yp) ∧ w'.cell? ⟨lg, lo + j * 6 + 1, none⟩ = some (.int .u64 yi) ∧ w'.cell? ⟨lg, lo + j * 6 + 2, none⟩ = some (.int .i64 yt) ∧ w'.cell? ⟨lg, lo + j * 6 + 3, none⟩ = some (.int .i64 yh) ∧ w'.cell? ⟨lg, lo + j * 6 + 4, none⟩ = some (.int .i64 yg) ∧ w'.cell? ⟨lg, lo + j * 6 + 5, none⟩ = some (.int .i64 yb)) (by kernel_rfl) (KS.out _ K0.out) (fun hHeld => ?_)
    generalize w.drew = z0 at *
    refine wpAnyH_take (i := 0) (oi := { dst := some 13, op := Go.Op.move (Go.Operand.tmp 0), type := 22, pos := "pace.go:105", after := #[], guard := none }) (v := ?_) rfl (by kernel_rfl) (by kernel_rfl) (by kernel_rfl) (fun _ _ _ h => h) (Or.inl ⟨by rfl, ?_⟩) (by assumption) ?_
    rotate_left 1
    focus (intro w hSw; (try dsimp only at hSw); go_simp; try with_reducible rfl)
    try simp only [Act.put, List.setIfInBounds_toArray, List.set_cons_zero, List.set_cons_succ]
    refine wpAnyH_take (i := 1) (oi := { dst := some 14, op := Go.Op.move (Go.Operand.tmp 1), type := 3, pos := "pace.go:105", after := #[], guard := none }) (v := ?_) rfl (by kernel_rfl) (by kernel_rfl) (by kernel_rfl) (fun _ _ _ h => h) (Or.inl ⟨by rfl, ?_⟩) (by assumption) ?_
    rotate_left 1
    focus (intro w hSw; (try dsimp only at hSw); go_simp; try with_reducible rfl)
    try simp only [Act.put, List.setIfInBounds_toArray, List.set_cons_zero, List.set_cons_succ]
    refine wpAnyH_take (i := 2) (oi := { dst := some 15, op := Go.Op.indexAddr 22 (Go.Operand.tmp 13) (Go.Operand.tmp 14), type := 0, pos := "pace.go:105", after := #[{ on := 0, ground := Go.Ground.data }, { on := 1, ground := Go.Ground.data }], guard := none }) (v := ?_) rfl (by kernel_rfl) (by kernel_rfl) (by kernel_rfl) (fun _ _ _ h => h) (Or.inl ⟨by rfl, ?_⟩) (by assumption) ?_
    rotate_left 1
    focus (intro w hSw; (try dsimp only at hSw); go_simp; try with_reducible rfl)
    try simp only [Act.put, List.setIfInBounds_toArray, List.set_cons_zero, List.set_cons_succ]
    refine wpAnyH_take (i := 3) (oi := { dst := some 16, op := Go.Op.load 41 (Go.Operand.tmp 15), type := 41, pos := "pace.go:105", after := #[{ on := 2, ground := Go.Ground.data }], guard := none }) (v := ?_) rfl (by kernel_rfl) (by kernel_rfl) (by kernel_rfl) (fun _ _ _ h => h) (Or.inl ⟨by rfl, ?_⟩) (by assumption) ?_
    rotate_left 1
    focus (intro w hSw; (try dsimp only at hSw); go_simp; try with_reducible rfl)
    try simp only [Act.put, List.setIfInBounds_toArray, List.set_cons_zero, List.set_cons_succ]
    refine wpAnyH_take (i := 4) (oi := { dst := some 17, op := Go.Op.move (Go.Operand.tmp 0), type := 22, pos := "pace.go:105", after := #[{ on := 10, ground := Go.Ground.gcOnly Go.Departure.lateStores }], guard := none }) (v := ?_) rfl (by kernel_rfl) (by kernel_rfl) (by kernel_rfl) (fun _ _ _ h => h) (Or.inl ⟨by rfl, ?_⟩) (by assumption) ?_
    rotate_left 1
    focus (intro w hSw; (try dsimp only at hSw); go_simp; try with_reducible rfl)
    try simp only [Act.put, List.setIfInBounds_toArray, List.set_cons_zero, List.set_cons_succ]
    refine wpAnyH_take (i := 5) (oi := { dst := some 18, op := Go.Op.move (Go.Operand.tmp 2), type := 3, pos := "pace.go:105", after := #[{ on := 10, ground := Go.Ground.gcOnly Go.Departure.lateStores }], guard := none }) (v := ?_) rfl (by kernel_rfl) (by kernel_rfl) (by kernel_rfl) (fun _ _ _ h => h) (Or.inl ⟨by rfl, ?_⟩) (by assumption) ?_
    rotate_left 1
    focus (intro w hSw; (try dsimp only at hSw); go_simp; try with_reducible rfl)
    try simp only [Act.put, List.setIfInBounds_toArray, List.set_cons_zero, List.set_cons_succ]
    refine wpAnyH_take (i := 6) (oi := { dst := some 19, op := Go.Op.indexAddr 22 (Go.Operand.tmp 17) (Go.Operand.tmp 18), type := 0, pos := "pace.go:105", after := #[{ on := 4, ground := Go.Ground.data }, { on := 5, ground := Go.Ground.data }, { on := 10, ground := Go.Ground.gcOnly Go.Departure.lateStores }], guard := none }) (v := ?_) rfl (by kernel_rfl) (by kernel_rfl) (by kernel_rfl) (fun _ _ _ h => h) (Or.inl ⟨by rfl, ?_⟩) (by assumption) ?_
    rotate_left 1
    focus (intro w hSw; (try dsimp only at hSw); go_simp; try with_reducible rfl)
    try simp only [Act.put, List.setIfInBounds_toArray, List.set_cons_zero, List.set_cons_succ]
    refine wpAnyH_take (i := 7) (oi := { dst := some 20, op := Go.Op.load 41 (Go.Operand.tmp 19), type := 41, pos := "pace.go:105", after := #[{ on := 6, ground := Go.Ground.data }, { on := 10, ground := Go.Ground.gcOnly Go.Departure.lateStores }], guard := none }) (v := ?_) rfl (by kernel_rfl) (by kernel_rfl) (by kernel_rfl) (fun _ _ _ h => h) (Or.inl ⟨by rfl, ?_⟩) (by assumption) ?_
    rotate_left 1
    focus (intro w hSw; (try dsimp only at hSw); go_simp; try with_reducible rfl)
    try simp only [Act.put, List.setIfInBounds_toArray, List.set_cons_zero, List.set_cons_succ]
    refine wpAnyH_ready (rs := [8, 9]) (by kernel_rfl) (by simp) ?_
    refine AllReadyH.cons (o := { dst := some 9, op := Go.Op.alloc 41, type := 0, pos := "pace.go:105", after := #[], guard := none }) rfl (fun K hK => ?_) (AllReadyH.cons (o := { dst := some 10, op := Go.Op.alloc 41, type := 0, pos := "pace.go:105", after := #[], guard := none }) rfl (fun K hK => ?_) AllReadyH.nil)
    · have hB := Blk.new z0 [.int .i64 0, .int .u64 0, .int .i64 0, .int .i64 0, .int .i64 0, .int .i64 0] 41
      have hK1 := K0.out.alloc (.cells #[.int .i64 0, .int .u64 0, .int .i64 0, .int .i64 0, .int .i64 0, .int .i64 0] 41)
      have hM := K0.out.size
      have hC := Blk.new (z0.alloc (.cells #[.int .i64 0, .int .u64 0, .int .i64 0, .int .i64 0, .int .i64 0, .int .i64 0] 41)) [.int .i64 0, .int .u64 0, .int .i64 0, .int .i64 0, .int .i64 0, .int .i64 0] 41
      have hB2 := hB.old (.cells #[.int .i64 0, .int .u64 0, .int .i64 0, .int .i64 0, .int .i64 0, .int .i64 0] 41)
      have hK2 := hK1.alloc (.cells #[.int .i64 0, .int .u64 0, .int .i64 0, .int .i64 0, .int .i64 0, .int .i64 0] 41)
      rw [World.size_alloc] at hC
      dsimp only [List.toArray] at hB hC hB2
      have kA : Kept (fun _ => False) w (z0.alloc (.cells #[.int .i64 0, .int .u64 0, .int .i64 0, .int .i64 0, .int .i64 0, .int .i64 0] 41)) := K0.out.alloc _
      have kB := kA.alloc (.cells #[.int .i64 0, .int .u64 0, .int .i64 0, .int .i64 0, .int .i64 0, .int .i64 0] 41)
      go_simp
      refine hK.out _ _ (KS.out _ kA) (fun hHeld => ?_)
      clear hK K
      try simp only [Act.put, List.setIfInBounds_toArray, List.set_cons_zero, List.set_cons_succ]
      refine wpAnyH_ready (rs := [9]) (by kernel_rfl) (by simp) ?_
      refine AllReadyH.cons (o := { dst := some 10, op := Go.Op.alloc 41, type := 0, pos := "pace.go:105", after := #[], guard := none }) rfl (fun K hK => ?_) AllReadyH.nil
      go_simp
      refine hK.out _ _ (KS.out _ kB) (fun hHeld => ?_)
      clear hK K
      try simp only [Act.put, List.setIfInBounds_toArray, List.set_cons_zero, List.set_cons_succ]
      generalize z0.heap.size = q at *
      generalize (z0.alloc (.cells #[.int .i64 0, .int .u64 0, .int .i64 0, .int .i64 0, .int .i64 0, .int .i64 0] 41)).alloc (.cells #[.int .i64 0, .int .u64 0, .int .i64 0, .int .i64 0, .int .i64 0, .int .i64 0] 41) = z2 at *
      refine wpAnyH_ready (rs := [10]) (by kernel_rfl) (by simp) ?_
      refine AllReadyH.cons (o := { dst := none, op := Go.Op.store 41 (Go.Operand.tmp 9) (Go.Operand.tmp 16), type := 0, pos := "pace.go:105", after := #[{ on := 8, ground := Go.Ground.data }, { on := 3, ground := Go.Ground.data }, { on := 0, ground := Go.Ground.phase }, { on := 1, ground := Go.Ground.phase }, { on := 2, ground := Go.Ground.phase }, { on := 3, ground := Go.Ground.phase }, { on := 4, ground := Go.Ground.textOnly Go.Departure.lateStores }, { on := 5, ground := Go.Ground.textOnly Go.Departure.lateStores }, { on := 6, ground := Go.Ground.textOnly Go.Departure.lateStores }, { on := 7, ground := Go.Ground.textOnly Go.Departure.lateStores }, { on := 8, ground := Go.Ground.phase }, { on := 9, ground := Go.Ground.phase }], guard := none }) rfl (fun K hK => ?_) AllReadyH.nil
      have t0 := hB2.cell (o := 0) rfl
      have f0 := hB2.frozen 0
      have t1 := hB2.cell (o := 1) rfl
      have f1 := hB2.frozen 1
      have t2 := hB2.cell (o := 2) rfl
      have f2 := hB2.frozen 2
      have t3 := hB2.cell (o := 3) rfl
      have f3 := hB2.frozen 3
      have t4 := hB2.cell (o := 4) rfl
      have f4 := hB2.frozen 4
      have t5 := hB2.cell (o := 5) rfl
      have f5 := hB2.frozen 5
      have hN := six hB2 (.int .i64 xp) (.int .u64 xi) (.int .i64 xt) (.int .i64 xh) (.int .i64 xg) (.int .i64 xb)
      have hO := six_far hC (p := q) (by omega) (.int .i64 xp) (.int .u64 xi) (.int .i64 xt) (.int .i64 xh) (.int .i64 xg) (.int .i64 xb)
      have kC := six_kept kB (b := q) (by omega) (.int .i64 xp) (.int .u64 xi) (.int .i64 xt) (.int .i64 xh) (.int .i64 xg) (.int .i64 xb)
      go_simp
      refine hK.out _ _ (KS.out _ kC) (fun hHeld => ?_)
      clear hK K hB2 hC t0 f0 t1 f1 t2 f2 t3 f3 t4 f4 t5 f5
      try simp only [Act.put, List.setIfInBounds_toArray, List.set_cons_zero, List.set_cons_succ]
      generalize ((((((z2.setCell ⟨q, 0, none⟩ (.int .i64 xp)).setCell ⟨q, 1, none⟩ (.int .u64 xi)).setCell ⟨q, 2, none⟩ (.int .i64 xt)).setCell ⟨q, 3, none⟩ (.int .i64 xh)).setCell ⟨q, 4, none⟩ (.int .i64 xg)).setCell ⟨q, 5, none⟩ (.int .i64 xb)) = z3 at *
      have hB2 := hN
      have hC := hO
      clear hN hO
      refine wpAnyH_ready (rs := [11]) (by kernel_rfl) (by simp) ?_
      refine AllReadyH.cons (o := { dst := none, op := Go.Op.store 41 (Go.Operand.tmp 10) (Go.Operand.tmp 20), type := 0, pos := "pace.go:105", after := #[{ on := 9, ground := Go.Ground.data }, { on := 7, ground := Go.Ground.data }, { on := 10, ground := Go.Ground.chain }, { on := 0, ground := Go.Ground.phase }, { on := 1, ground := Go.Ground.phase }, { on := 2, ground := Go.Ground.phase }, { on := 3, ground := Go.Ground.phase }, { on := 4, ground := Go.Ground.phase }, { on := 5, ground := Go.Ground.phase }, { on := 6, ground := Go.Ground.phase }, { on := 7, ground := Go.Ground.phase }, { on := 8, ground := Go.Ground.phase }, { on := 9, ground := Go.Ground.phase }, { on := 10, ground := Go.Ground.phase }], guard := none }) rfl (fun K hK => ?_) AllReadyH.nil
      have t0 := hC.cell (o := 0) rfl
      have f0 := hC.frozen 0
      have t1 := hC.cell (o := 1) rfl
      have f1 := hC.frozen 1
      have t2 := hC.cell (o := 2) rfl
      have f2 := hC.frozen 2
      have t3 := hC.cell (o := 3) rfl
      have f3 := hC.frozen 3
      have t4 := hC.cell (o := 4) rfl
      have f4 := hC.frozen 4
      have t5 := hC.cell (o := 5) rfl
      have f5 := hC.frozen 5
      have hN := six hC (.int .i64 yp) (.int .u64 yi) (.int .i64 yt) (.int .i64 yh) (.int .i64 yg) (.int .i64 yb)
      have hO := six_far hB2 (p := q + 1) (by omega) (.int .i64 yp) (.int .u64 yi) (.int .i64 yt) (.int .i64 yh) (.int .i64 yg) (.int .i64 yb)
      have kD := six_kept kC (b := q + 1) (by omega) (.int .i64 yp) (.int .u64 yi) (.int .i64 yt) (.int .i64 yh) (.int .i64 yg) (.int .i64 yb)
      go_simp
      refine hK.out _ _ (KS.out _ kD) (fun hHeld => ?_)
      clear hK K hC hB2 t0 f0 t1 f1 t2 f2 t3 f3 t4 f4 t5 f5
      try simp only [Act.put, List.setIfInBounds_toArray, List.set_cons_zero, List.set_cons_succ]
      generalize ((((((z3.setCell ⟨q + 1, 0, none⟩ (.int .i64 yp)).setCell ⟨q + 1, 1, none⟩ (.int .u64 yi)).setCell ⟨q + 1, 2, none⟩ (.int .i64 yt)).setCell ⟨q + 1, 3, none⟩ (.int .i64 yh)).setCell ⟨q + 1, 4, none⟩ (.int .i64 yg)).setCell ⟨q + 1, 5, none⟩ (.int .i64 yb)) = z4 at *
      have hC := hN
      have hB2 := hO
      clear hN hO
      refine wpAnyH_done (by kernel_rfl) ?_ _
      go_wp2_with fail
      go_meet
      exact ⟨q, q + 1, rfl, rfl, hB2, hC, kD⟩
    · have hB := Blk.new z0 [.int .i64 0, .int .u64 0, .int .i64 0, .int .i64 0, .int .i64 0, .int .i64 0] 41
      have hK1 := K0.out.alloc (.cells #[.int .i64 0, .int .u64 0, .int .i64 0, .int .i64 0, .int .i64 0, .int .i64 0] 41)
      have hM := K0.out.size
      have hC := Blk.new (z0.alloc (.cells #[.int .i64 0, .int .u64 0, .int .i64 0, .int .i64 0, .int .i64 0, .int .i64 0] 41)) [.int .i64 0, .int .u64 0, .int .i64 0, .int .i64 0, .int .i64 0, .int .i64 0] 41
      have hB2 := hB.old (.cells #[.int .i64 0, .int .u64 0, .int .i64 0, .int .i64 0, .int .i64 0, .int .i64 0] 41)
      have hK2 := hK1.alloc (.cells #[.int .i64 0, .int .u64 0, .int .i64 0, .int .i64 0, .int .i64 0, .int .i64 0] 41)
      rw [World.size_alloc] at hC
      dsimp only [List.toArray] at hB hC hB2
      have kA : Kept (fun _ => False) w (z0.alloc (.cells #[.int .i64 0, .int .u64 0, .int .i64 0, .int .i64 0, .int .i64 0, .int .i64 0] 41)) := K0.out.alloc _
      have kB := kA.alloc (.cells #[.int .i64 0, .int .u64 0, .int .i64 0, .int .i64 0, .int .i64 0, .int .i64 0] 41)
      go_simp
      refine hK.out _ _ (KS.out _ kA) (fun hHeld => ?_)
      clear hK K
      try simp only [Act.put, List.setIfInBounds_toArray, List.set_cons_zero, List.set_cons_succ]
      refine wpAnyH_ready (rs := [8]) (by kernel_rfl) (by simp) ?_
      refine AllReadyH.cons (o := { dst := some 9, op := Go.Op.alloc 41, type := 0, pos := "pace.go:105", after := #[], guard := none }) rfl (fun K hK => ?_) AllReadyH.nil
      go_simp
      refine hK.out _ _ (KS.out _ kB) (fun hHeld => ?_)
      clear hK K
      try simp only [Act.put, List.setIfInBounds_toArray, List.set_cons_zero, List.set_cons_succ]
      generalize z0.heap.size = q at *
      generalize (z0.alloc (.cells #[.int .i64 0, .int .u64 0, .int .i64 0, .int .i64 0, .int .i64 0, .int .i64 0] 41)).alloc (.cells #[.int .i64 0, .int .u64 0, .int .i64 0, .int .i64 0, .int .i64 0, .int .i64 0] 41) = z2 at *
      refine wpAnyH_ready (rs := [10]) (by kernel_rfl) (by simp) ?_
      refine AllReadyH.cons (o := { dst := none, op := Go.Op.store 41 (Go.Operand.tmp 9) (Go.Operand.tmp 16), type := 0, pos := "pace.go:105", after := #[{ on := 8, ground := Go.Ground.data }, { on := 3, ground := Go.Ground.data }, { on := 0, ground := Go.Ground.phase }, { on := 1, ground := Go.Ground.phase }, { on := 2, ground := Go.Ground.phase }, { on := 3, ground := Go.Ground.phase }, { on := 4, ground := Go.Ground.textOnly Go.Departure.lateStores }, { on := 5, ground := Go.Ground.textOnly Go.Departure.lateStores }, { on := 6, ground := Go.Ground.textOnly Go.Departure.lateStores }, { on := 7, ground := Go.Ground.textOnly Go.Departure.lateStores }, { on := 8, ground := Go.Ground.phase }, { on := 9, ground := Go.Ground.phase }], guard := none }) rfl (fun K hK => ?_) AllReadyH.nil
      have t0 := hC.cell (o := 0) rfl
      have f0 := hC.frozen 0
      have t1 := hC.cell (o := 1) rfl
      have f1 := hC.frozen 1
      have t2 := hC.cell (o := 2) rfl
      have f2 := hC.frozen 2
      have t3 := hC.cell (o := 3) rfl
      have f3 := hC.frozen 3
      have t4 := hC.cell (o := 4) rfl
      have f4 := hC.frozen 4
      have t5 := hC.cell (o := 5) rfl
      have f5 := hC.frozen 5
      have hN := six hC (.int .i64 xp) (.int .u64 xi) (.int .i64 xt) (.int .i64 xh) (.int .i64 xg) (.int .i64 xb)
      have hO := six_far hB2 (p := q + 1) (by omega) (.int .i64 xp) (.int .u64 xi) (.int .i64 xt) (.int .i64 xh) (.int .i64 xg) (.int .i64 xb)
      have kC := six_kept kB (b := q + 1) (by omega) (.int .i64 xp) (.int .u64 xi) (.int .i64 xt) (.int .i64 xh) (.int .i64 xg) (.int .i64 xb)
      go_simp
      refine hK.out _ _ (KS.out _ kC) (fun hHeld => ?_)
      clear hK K hC hB2 t0 f0 t1 f1 t2 f2 t3 f3 t4 f4 t5 f5
      try simp only [Act.put, List.setIfInBounds_toArray, List.set_cons_zero, List.set_cons_succ]
      generalize ((((((z2.setCell ⟨q + 1, 0, none⟩ (.int .i64 xp)).setCell ⟨q + 1, 1, none⟩ (.int .u64 xi)).setCell ⟨q + 1, 2, none⟩ (.int .i64 xt)).setCell ⟨q + 1, 3, none⟩ (.int .i64 xh)).setCell ⟨q + 1, 4, none⟩ (.int .i64 xg)).setCell ⟨q + 1, 5, none⟩ (.int .i64 xb)) = z3 at *
      have hC := hN
      have hB2 := hO
      clear hN hO
      refine wpAnyH_ready (rs := [11]) (by kernel_rfl) (by simp) ?_
      refine AllReadyH.cons (o := { dst := none, op := Go.Op.store 41 (Go.Operand.tmp 10) (Go.Operand.tmp 20), type := 0, pos := "pace.go:105", after := #[{ on := 9, ground := Go.Ground.data }, { on := 7, ground := Go.Ground.data }, { on := 10, ground := Go.Ground.chain }, { on := 0, ground := Go.Ground.phase }, { on := 1, ground := Go.Ground.phase }, { on := 2, ground := Go.Ground.phase }, { on := 3, ground := Go.Ground.phase }, { on := 4, ground := Go.Ground.phase }, { on := 5, ground := Go.Ground.phase }, { on := 6, ground := Go.Ground.phase }, { on := 7, ground := Go.Ground.phase }, { on := 8, ground := Go.Ground.phase }, { on := 9, ground := Go.Ground.phase }, { on := 10, ground := Go.Ground.phase }], guard := none }) rfl (fun K hK => ?_) AllReadyH.nil
      have t0 := hB2.cell (o := 0) rfl
      have f0 := hB2.frozen 0
      have t1 := hB2.cell (o := 1) rfl
      have f1 := hB2.frozen 1
      have t2 := hB2.cell (o := 2) rfl
      have f2 := hB2.frozen 2
      have t3 := hB2.cell (o := 3) rfl
      have f3 := hB2.frozen 3
      have t4 := hB2.cell (o := 4) rfl
      have f4 := hB2.frozen 4
      have t5 := hB2.cell (o := 5) rfl
      have f5 := hB2.frozen 5
      have hN := six hB2 (.int .i64 yp) (.int .u64 yi) (.int .i64 yt) (.int .i64 yh) (.int .i64 yg) (.int .i64 yb)
      have hO := six_far hC (p := q) (by omega) (.int .i64 yp) (.int .u64 yi) (.int .i64 yt) (.int .i64 yh) (.int .i64 yg) (.int .i64 yb)
      have kD := six_kept kC (b := q) (by omega) (.int .i64 yp) (.int .u64 yi) (.int .i64 yt) (.int .i64 yh) (.int .i64 yg) (.int .i64 yb)
      go_simp
      refine hK.out _ _ (KS.out _ kD) (fun hHeld => ?_)
      clear hK K hB2 hC t0 f0 t1 f1 t2 f2 t3 f3 t4 f4 t5 f5
      try simp only [Act.put, List.setIfInBounds_toArray, List.set_cons_zero, List.set_cons_succ]
      generalize ((((((z3.setCell ⟨q, 0, none⟩ (.int .i64 yp)).setCell ⟨q, 1, none⟩ (.int .u64 yi)).setCell ⟨q, 2, none⟩ (.int .i64 yt)).setCell ⟨q, 3, none⟩ (.int .i64 yh)).setCell ⟨q, 4, none⟩ (.int .i64 yg)).setCell ⟨q, 5, none⟩ (.int .i64 yb)) = z4 at *
      have hB2 := hN
      have hC := hO
      clear hN hO
      refine wpAnyH_done (by kernel_rfl) ?_ _
      go_wp2_with fail
      go_meet
      exact ⟨q + 1, q, rfl, rfl, hC, hB2, kD⟩
  case rest =>
    obtain ⟨p, r, rfl, rfl, HX, HY, HK⟩ := hcut
    have x0 := HX.out.cell (o := 0) rfl
    have x1 := HX.out.cell (o := 1) rfl
    have x2 := HX.out.cell (o := 2) rfl
    have x3 := HX.out.cell (o := 3) rfl
    have x5 := HX.out.cell (o := 5) rfl
    have y0 := HY.out.cell (o := 0) rfl
    have y1 := HY.out.cell (o := 1) rfl
    have y2 := HY.out.cell (o := 2) rfl
    have y3 := HY.out.cell (o := 3) rfl
    have y5 := HY.out.cell (o := 5) rfl
    have sx : 0 ≤ xt - xh := by omega
    have sy : 0 ≤ yt - yh := by omega
    have tx : xt - xh ≤ 9223372036854775807 := by omega
    have ty : yt - yh ≤ 9223372036854775807 := by omega
    cases born with
    | false =>
      simp only [Bool.false_eq_true, if_false] at HQ
      go_wp2_with fail
      go_quiet (fail)
      go_wp2_with fail
      all_goals
        go_ret
        refine ⟨congrArg (fun z => Ending.returned (Value.bool z)) ?_, HK.out.drewN _⟩
        have HQ := HQ.out
        refine Bool.eq_iff_iff.mpr ?_
        rw [HQ]
        simp only [bne_iff_ne, ne_eq, bne_eq_false_iff_eq, decide_eq_true_eq] at *
        omega
    | true =>
      simp only [if_true] at HQ
      go_wp2_with fail
      go_quiet (fail)
      go_wp2_with fail
      go_quiet (fail)
      go_wp2_with fail
      all_goals
        go_ret
        refine ⟨congrArg (fun z => Ending.returned (Value.bool z)) ?_, HK.out.drewN _⟩
        have HQ := HQ.out
        refine Bool.eq_iff_iff.mpr ?_
        rw [HQ]
        simp only [bne_iff_ne, ne_eq, bne_eq_false_iff_eq, decide_eq_true_eq] at *
        omega
end Go.Proofs.Ytbohigfhbjconaa.Sr
