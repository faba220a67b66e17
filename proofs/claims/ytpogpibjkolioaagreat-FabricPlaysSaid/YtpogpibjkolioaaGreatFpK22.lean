/- The reference's port: a line laid anew with one more. Conditions: each theorem's own. -/
import Derived.Test.YtpogpibjkolioaaGreatFpK21
set_option linter.unusedVariables false
set_option linter.unusedSimpArgs false
namespace Go.Proofs.YtpogpibjkolioaaGreat.Rf
open Go.RowKit Hp QuM Rw Qu Po Go.Proofs.YtpogpibjkolioaaGreat.End Opn
attribute [local go_sem ↓] Go.wp_at_zero Go.wp_at_succ
noncomputable def push3C : Code := ((Tryz.f87.body.bind (findRegion 3)).getD .skip)
set_option maxRecDepth 100000 in
set_option maxHeartbeats 8000000 in
theorem push3 {w : World} {m xb cc : Nat} {a : Option Addr} {L : List Bx} {p : Nat} {x1 x2 x3 x4 : Int} {x5 : Nat} {x6 x7 x8 x9 : Int} {xd : List UInt8} {xa : Option Addr} {xc : Nat} {xq : Int} (Q : Exit → Act → World → Prop) (u2 u3 u4 u6 u7 u8 u9 u10 u11 u12 u13 u14 u15 u16 u17 u18 u19 u20 u21 u22 u23 u24 u25 u26 u27 u28 u29 u30 u31 u32 u33 : Value)
  (h : Ro.Row rT w (.slice a L.length cc) L) (qm : w.cell? ⟨m, 3 + p, none⟩ = some (.slice a L.length cc)) (fm : w.frozen? ⟨m, 3 + p, none⟩ = false) (ip : (p : Int) < 8) (hl : L.length ≤ 1000) (hm : m < w.heap.size) (hx : Blk w xb [.int .i64 x1, .int .i64 x2, .int .i64 x3, .int .i64 x4, .int .u64 (x5 : Int), .int .i64 x6, .int .i64 x7, .int .i64 x8, .int .i64 x9, .slice xa xd.length xc, .int .i64 xq] 88) (hxm : xb ≠ m)
  (hQ : ∀ (v18 v19 v20 v21 v22 v23 v24 v25 v26 v27 v28 v29 v30 v31 v32 v33 v' : Value) (w' w2 : World), Ro.Row rT w' v' (L ++ [⟨⟨x1, x2, x3, x4, x5, x6, x7, x8, x9, xd⟩, xa, xc, xq⟩]) → Kept (fun i => w.heap.size ≤ i) w w' → (∀ g, v'.ownBlock = some g → w.heap.size ≤ g) → Kept (fun _ => False) (w'.setCell ⟨m, 3 + p, none⟩ v') w2 → Q .normal ⟨#[.pointer (some ⟨m, 0, none⟩), .int .i64 (p : Nat), u2, u3, u4, .pointer (some ⟨xb, 0, none⟩), u6, u7, u8, u9, u10, u11, u12, u13, u14, u15, u16, u17, v18, v19, v20, v21, v22, v23, v24, v25, v26, v27, v28, v29, v30, v31, v32, v33], []⟩ w2) :
  Code.wp Tryz.prog push3C Q ⟨#[.pointer (some ⟨m, 0, none⟩), .int .i64 (p : Nat), u2, u3, u4, .pointer (some ⟨xb, 0, none⟩), u6, u7, u8, u9, u10, u11, u12, u13, u14, u15, u16, u17, u18, u19, u20, u21, u22, u23, u24, u25, u26, u27, u28, u29, u30, u31, u32, u33], []⟩ w := by
 conv => arg 2; whnf
 have HL1 := Lib.hid hl
 have HL2 := Lib.hid hl
 have FR : Hid (∀ w', Kept (fun i => w.heap.size ≤ i) w w' → Rw.Src rT w' (.slice a L.length cc) L) := Lib.hid fun w' k => (past_row h k).src
 have CK : Hid (∀ w', Kept (fun i => w.heap.size ≤ i) w w' → w'.cell? ⟨m, 3 + p, none⟩ = some (.slice a L.length cc) ∧ w'.frozen? ⟨m, 3 + p, none⟩ = false) := Lib.hid fun w' k => ⟨(keptCell k hm (fun e => by omega) _).trans qm, by
  have := k.block m hm (fun e => by omega)
  simp only [World.frozen?, this] at fm ⊢
  exact fm⟩
 have hxl := hx.lt
 have BX : Hid (∀ w', Blk w' xb [.int .i64 x1, .int .i64 x2, .int .i64 x3, .int .i64 x4, .int .u64 (x5 : Int), .int .i64 x6, .int .i64 x7, .int .i64 x8, .int .i64 x9, .slice xa xd.length xc, .int .i64 xq] 88 → (fun w' => w'.cell? ⟨xb, 0, none⟩ = some (.int .i64 x1) ∧ w'.cell? ⟨xb, 1, none⟩ = some (.int .i64 x2) ∧ w'.cell? ⟨xb, 2, none⟩ = some (.int .i64 x3) ∧ w'.cell? ⟨xb, 3, none⟩ = some (.int .i64 x4) ∧ w'.cell? ⟨xb, 4, none⟩ = some (.int .u64 (x5 : Int)) ∧ w'.cell? ⟨xb, 5, none⟩ = some (.int .i64 x6) ∧ w'.cell? ⟨xb, 6, none⟩ = some (.int .i64 x7) ∧ w'.cell? ⟨xb, 7, none⟩ = some (.int .i64 x8) ∧ w'.cell? ⟨xb, 8, none⟩ = some (.int .i64 x9) ∧ w'.cell? ⟨xb, 9, none⟩ = some (.slice xa xd.length xc) ∧ w'.cell? ⟨xb, 10, none⟩ = some (.int .i64 xq)) w') := Lib.hid fun w' h => ⟨h.cell rfl, h.cell rfl, h.cell rfl, h.cell rfl, h.cell rfl, h.cell rfl, h.cell rfl, h.cell rfl, h.cell rfl, h.cell rfl, h.cell rfl⟩
 have KS : Hid (∀ w', Kept (fun i => w.heap.size ≤ i) w w' → (fun w' => w'.cell? ⟨xb, 0, none⟩ = some (.int .i64 x1) ∧ w'.cell? ⟨xb, 1, none⟩ = some (.int .i64 x2) ∧ w'.cell? ⟨xb, 2, none⟩ = some (.int .i64 x3) ∧ w'.cell? ⟨xb, 3, none⟩ = some (.int .i64 x4) ∧ w'.cell? ⟨xb, 4, none⟩ = some (.int .u64 (x5 : Int)) ∧ w'.cell? ⟨xb, 5, none⟩ = some (.int .i64 x6) ∧ w'.cell? ⟨xb, 6, none⟩ = some (.int .i64 x7) ∧ w'.cell? ⟨xb, 7, none⟩ = some (.int .i64 x8) ∧ w'.cell? ⟨xb, 8, none⟩ = some (.int .i64 x9) ∧ w'.cell? ⟨xb, 9, none⟩ = some (.slice xa xd.length xc) ∧ w'.cell? ⟨xb, 10, none⟩ = some (.int .i64 xq)) w') := Lib.hid fun w' k => BX.out _ (k.blk hx (by omega))
 have KX : Hid (∀ (w' w2 : World) (u : Value), Kept (fun i => w.heap.size ≤ i) w w' → Kept (fun _ => False) (w'.setCell ⟨m, 3 + p, none⟩ u) w2 → (fun w' => w'.cell? ⟨xb, 0, none⟩ = some (.int .i64 x1) ∧ w'.cell? ⟨xb, 1, none⟩ = some (.int .i64 x2) ∧ w'.cell? ⟨xb, 2, none⟩ = some (.int .i64 x3) ∧ w'.cell? ⟨xb, 3, none⟩ = some (.int .i64 x4) ∧ w'.cell? ⟨xb, 4, none⟩ = some (.int .u64 (x5 : Int)) ∧ w'.cell? ⟨xb, 5, none⟩ = some (.int .i64 x6) ∧ w'.cell? ⟨xb, 6, none⟩ = some (.int .i64 x7) ∧ w'.cell? ⟨xb, 7, none⟩ = some (.int .i64 x8) ∧ w'.cell? ⟨xb, 8, none⟩ = some (.int .i64 x9) ∧ w'.cell? ⟨xb, 9, none⟩ = some (.slice xa xd.length xc) ∧ w'.cell? ⟨xb, 10, none⟩ = some (.int .i64 xq)) w2) := Lib.hid fun w' w2 u k k2 =>
  BX.out _ (((Kept.one w' m (3 + p) u).trans (k2.mono (fun _ _ f => f.elim))).blk (k.blk hx (by omega)) hxm)
 have K0 := Lib.hid ((Kept.refl (fun _ => False) w).mono (G := fun i => w.heap.size ≤ i) (fun _ _ f => f.elim)).drew
 clear hx
 dsimp only [List.append]
 refine wp_region_noPanic ?_
 refine wp_region_held_drew (S := fun w' => w'.cell? ⟨xb, 0, none⟩ = some (.int .i64 x1) ∧ w'.cell? ⟨xb, 1, none⟩ = some (.int .i64 x2) ∧ w'.cell? ⟨xb, 2, none⟩ = some (.int .i64 x3) ∧ w'.cell? ⟨xb, 3, none⟩ = some (.int .i64 x4) ∧ w'.cell? ⟨xb, 4, none⟩ = some (.int .u64 (x5 : Int)) ∧ w'.cell? ⟨xb, 5, none⟩ = some (.int .i64 x6) ∧ w'.cell? ⟨xb, 6, none⟩ = some (.int .i64 x7) ∧ w'.cell? ⟨xb, 7, none⟩ = some (.int .i64 x8) ∧ w'.cell? ⟨xb, 8, none⟩ = some (.int .i64 x9) ∧ w'.cell? ⟨xb, 9, none⟩ = some (.slice xa xd.length xc) ∧ w'.cell? ⟨xb, 10, none⟩ = some (.int .i64 xq)) (by kernel_rfl) (KS.out _ K0.out) (fun hHeld => ?_)
 generalize w.drew = z0 at *
 refine tk 0 ⟨some 18, .move (.tmp 0), 75, "net.go:62", #[], none⟩ (v := ?_) rfl ?_ ?_
 rotate_left 1
 focus (intro w h; (try dsimp only at h); go_simp; try with_reducible rfl)
 try simp only [Act.put, ppA, ppB, ppC]
 refine tk 1 ⟨some 19, .move (.tmp 1), 3, "net.go:62", #[], none⟩ (v := ?_) rfl ?_ ?_
 rotate_left 1
 focus (intro w h; (try dsimp only at h); go_simp; try with_reducible rfl)
 try simp only [Act.put, ppA, ppB, ppC]
 refine tk 3 ⟨some 21, .move (.tmp 0), 75, "net.go:62", #[], none⟩ (v := ?_) rfl ?_ ?_
 rotate_left 1
 focus (intro w h; (try dsimp only at h); go_simp; try with_reducible rfl)
 try simp only [Act.put, ppA, ppB, ppC]
 refine tk 4 ⟨some 22, .move (.tmp 1), 3, "net.go:62", #[], none⟩ (v := ?_) rfl ?_ ?_
 rotate_left 1
 focus (intro w h; (try dsimp only at h); go_simp; try with_reducible rfl)
 try simp only [Act.put, ppA, ppB, ppC]
 refine tk 5 ⟨some 23, .nilCheck (.tmp 21), 0, "net.go:62", #[⟨3, .data⟩], none⟩ (v := ?_) rfl ?_ ?_
 rotate_left 1
 focus (intro w h; (try dsimp only at h); go_simp; try with_reducible rfl)
 try simp only [Act.put, ppA, ppB, ppC]
 refine tk 6 ⟨some 24, .fieldAddr 119 (.tmp 23) 3, 0, "net.go:62", #[⟨5, .data⟩], none⟩ (v := ?_) rfl ?_ ?_
 rotate_left 1
 focus (intro w h; (try dsimp only at h); go_simp; try with_reducible rfl)
 try simp only [Act.put, ppA, ppB, ppC]
 refine tk 7 ⟨some 25, .indexAddr 117 (.tmp 24) (.tmp 22), 0, "net.go:62", #[⟨6, .data⟩, ⟨4, .data⟩], none⟩ (v := ?_) rfl ?_ ?_
 rotate_left 1
 focus (intro w h; (try dsimp only at h); go_simp; try with_reducible rfl)
 try simp only [Act.put, ppA, ppB, ppC]
 refine tk 10 ⟨some 28, .load 88 (.tmp 5), 88, "net.go:62", #[], none⟩ (v := ?_) rfl ?_ ?_
 rotate_left 1
 focus (intro w h; (try dsimp only at h); go_simp; try with_reducible rfl)
 try simp only [Act.put, ppA, ppB, ppC]
 refine tk 13 ⟨some 31, .nilCheck (.tmp 18), 0, "net.go:62", #[⟨0, .data⟩], none⟩ (v := ?_) rfl ?_ ?_
 rotate_left 1
 focus (intro w h; (try dsimp only at h); go_simp; try with_reducible rfl)
 try simp only [Act.put, ppA, ppB, ppC]
 refine tk 14 ⟨some 32, .fieldAddr 119 (.tmp 31) 3, 0, "net.go:62", #[⟨13, .data⟩], none⟩ (v := ?_) rfl ?_ ?_
 rotate_left 1
 focus (intro w h; (try dsimp only at h); go_simp; try with_reducible rfl)
 try simp only [Act.put, ppA, ppB, ppC]
 refine wpAnyH_ready (rs := [2, 8, 11]) (by kernel_rfl) (by simp) ?_
 refine AllReadyH.cons (o := ⟨some 20, .buildSlice 103 0 #[], 103, "net.go:62", #[], none⟩) rfl (fun K hK => ?_) (AllReadyH.cons (o := ⟨some 26, .load 103 (.tmp 25), 103, "net.go:62", #[⟨7, .data⟩], none⟩) rfl (fun K hK => ?_) (AllReadyH.cons (o := ⟨some 29, .buildSlice 103 1 #[(0, .tmp 28)], 103, "net.go:62", #[⟨10, .data⟩], none⟩) rfl (fun K hK => ?_) AllReadyH.nil))
 ·have hB1 : Blk (z0.alloc (.cells #[] 88)) z0.heap.size [] 88 := Blk.new z0 [] 88
  have hk1 : Kept (fun _ => False) z0 (z0.alloc (.cells #[] 88)) := (Kept.refl _ z0).alloc _
  have hs1 : w.heap.size ≤ z0.heap.size := K0.out.size
  have hE1 : Rw.Row rT (z0.alloc (.cells #[] 88)) w.heap.size (.slice (some ⟨z0.heap.size, 0, none⟩) 0 0) [] := row_made hs1
  have K1 := Lib.hid (K0.out.alloc (.cells #[] 88))
  have HB1 := Lib.hid hB1
  have HE1 := Lib.hid hE1
  go_simp
  refine hK.out _ _ (KS.out _ K1.out) (fun hHeld => ?_)
  clear hK K
  try simp only [Act.put, ppA, ppB, ppC]
  clear hB1 hk1 hE1
  generalize z0.alloc (.cells #[] 88) = z1 at *
  generalize z0.heap.size = b1 at *
  refine wpAnyH_ready (rs := [8, 11]) (by kernel_rfl) (by simp) ?_
  refine AllReadyH.cons (o := ⟨some 26, .load 103 (.tmp 25), 103, "net.go:62", #[⟨7, .data⟩], none⟩) rfl (fun K hK => ?_) (AllReadyH.cons (o := ⟨some 29, .buildSlice 103 1 #[(0, .tmp 28)], 103, "net.go:62", #[⟨10, .data⟩], none⟩) rfl (fun K hK => ?_) AllReadyH.nil)
  ·have CC2 := CK.out _ K1.out
   have t3 := CC2.1
   go_simp
   refine hK.out _ _ (KS.out _ K1.out) (fun hHeld => ?_)
   clear hK K
   try simp only [Act.put, ppA, ppB, ppC]
   clear t3 CC2
   refine wpAnyH_ready (rs := [9, 11]) (by kernel_rfl) (by simp) ?_
   refine AllReadyH.cons (o := ⟨some 27, .call ⟨.builtin .append, #[.tmp 20, .tmp 26], #[103, 103]⟩, 103, "net.go:62", #[⟨2, .data⟩, ⟨8, .data⟩], none⟩) rfl (fun K hK => ?_) (AllReadyH.cons (o := ⟨some 29, .buildSlice 103 1 #[(0, .tmp 28)], 103, "net.go:62", #[⟨10, .data⟩], none⟩) rfl (fun K hK => ?_) AllReadyH.nil)
   ·refine Rw.step_app rT (by rfl) (.tmp 20) (.tmp 26) (by rfl) w.heap.size (K := []) (K2 := L) (by rfl) HE1.out (by rfl) (FR.out _ K1.out) (by have := HL1.out; have := HL2.out; simp; omega) K1.out.size ?_
    intro v3_ z3 A3
    have P3 := past_apd K1.out A3 (fun g hg => by have e : b1 = g := Option.some.inj hg; subst e; exact (HE1.out.lt _ rfl).1)
    have OW3 := Lib.hid P3
    have K3 := Lib.hid P3.1
    have RW3 := Lib.hid A3.row
    simp only [List.nil_append] at RW3
    obtain ⟨a3, n3, c3, rfl⟩ : ∃ a n c, v3_ = .slice a n c := (by obtain ⟨a, c, e, _⟩ := A3.row.slice; exact ⟨a, _, c, e⟩)
    clear P3 A3
    refine hK.out _ _ (KS.out _ K3.out) (fun hHeld => ?_)
    clear hK K
    try simp only [Act.put, ppA, ppB, ppC]
    refine wpAnyH_ready (rs := [11]) (by kernel_rfl) (by simp) ?_
    refine AllReadyH.cons (o := ⟨some 29, .buildSlice 103 1 #[(0, .tmp 28)], 103, "net.go:62", #[⟨10, .data⟩], none⟩) rfl (fun K hK => ?_) AllReadyH.nil
    have hB4 : Blk (z3.alloc (.cells #[.int .i64 x1, .int .i64 x2, .int .i64 x3, .int .i64 x4, .int .u64 (x5 : Int), .int .i64 x6, .int .i64 x7, .int .i64 x8, .int .i64 x9, .slice xa xd.length xc, .int .i64 xq] 88)) z3.heap.size [.int .i64 x1, .int .i64 x2, .int .i64 x3, .int .i64 x4, .int .u64 (x5 : Int), .int .i64 x6, .int .i64 x7, .int .i64 x8, .int .i64 x9, .slice xa xd.length xc, .int .i64 xq] 88 := Blk.new z3 [.int .i64 x1, .int .i64 x2, .int .i64 x3, .int .i64 x4, .int .u64 (x5 : Int), .int .i64 x6, .int .i64 x7, .int .i64 x8, .int .i64 x9, .slice xa xd.length xc, .int .i64 xq] 88
    have hk4 : Kept (fun _ => False) z3 (z3.alloc (.cells #[.int .i64 x1, .int .i64 x2, .int .i64 x3, .int .i64 x4, .int .u64 (x5 : Int), .int .i64 x6, .int .i64 x7, .int .i64 x8, .int .i64 x9, .slice xa xd.length xc, .int .i64 xq] 88)) := (Kept.refl _ z3).alloc _
    have hs4 : w.heap.size ≤ z3.heap.size := K3.out.size
    have RW34 := Lib.hid (RW3.out.old hk4)
    have K4 := Lib.hid (K3.out.alloc (.cells #[.int .i64 x1, .int .i64 x2, .int .i64 x3, .int .i64 x4, .int .u64 (x5 : Int), .int .i64 x6, .int .i64 x7, .int .i64 x8, .int .i64 x9, .slice xa xd.length xc, .int .i64 xq] 88))
    have HB4 := Lib.hid hB4
    go_simp
    refine hK.out _ _ (KS.out _ K4.out) (fun hHeld => ?_)
    clear hK K
    try simp only [Act.put, ppA, ppB, ppC]
    clear hB4 hk4
    generalize z3.alloc (.cells #[.int .i64 x1, .int .i64 x2, .int .i64 x3, .int .i64 x4, .int .u64 (x5 : Int), .int .i64 x6, .int .i64 x7, .int .i64 x8, .int .i64 x9, .slice xa xd.length xc, .int .i64 xq] 88) = z4 at *
    generalize z3.heap.size = b4 at *
    refine wpAnyH_ready (rs := [12]) (by kernel_rfl) (by simp) ?_
    refine AllReadyH.cons (o := ⟨some 30, .call ⟨.builtin .append, #[.tmp 27, .tmp 29], #[103, 103]⟩, 103, "net.go:62", #[⟨9, .data⟩, ⟨11, .data⟩, ⟨9, .chain⟩], none⟩) rfl (fun K hK => ?_) AllReadyH.nil
    refine Rw.step_app rT (by rfl) (.tmp 27) (.tmp 29) (by rfl) w.heap.size (K := L) (K2 := [⟨⟨x1, x2, x3, x4, x5, x6, x7, x8, x9, xd⟩, xa, xc, xq⟩]) (by rfl) RW34.out (by rfl) (Rw.src_blk (t := rT) (K := [⟨⟨x1, x2, x3, x4, x5, x6, x7, x8, x9, xd⟩, xa, xc, xq⟩]) 1 HB4.out) (by have := HL1.out; have := HL2.out; simp; omega) K4.out.size ?_
    intro v5_ z5 A5
    have P5 := past_apd K4.out A5 OW3.out.2
    have OW5 := Lib.hid P5
    have K5 := Lib.hid P5.1
    have RW5 := Lib.hid A5.row
    obtain ⟨a5, n5, c5, rfl⟩ : ∃ a n c, v5_ = .slice a n c := (by obtain ⟨a, c, e, _⟩ := A5.row.slice; exact ⟨a, _, c, e⟩)
    clear P5 A5
    refine hK.out _ _ (KS.out _ K5.out) (fun hHeld => ?_)
    clear hK K
    try simp only [Act.put, ppA, ppB, ppC]
    refine tk 15 ⟨some 33, .indexAddr 117 (.tmp 32) (.tmp 19), 0, "net.go:62", #[⟨14, .data⟩, ⟨1, .data⟩, ⟨0, .phase⟩, ⟨1, .phase⟩, ⟨2, .phase⟩, ⟨3, .phase⟩, ⟨4, .phase⟩, ⟨5, .phase⟩, ⟨6, .phase⟩, ⟨7, .phase⟩, ⟨8, .phase⟩, ⟨9, .phase⟩, ⟨10, .phase⟩, ⟨11, .phase⟩, ⟨12, .phase⟩], none⟩ (v := ?_) rfl ?_ ?_
    rotate_left 1
    focus (intro w h; (try dsimp only at h); go_simp; try with_reducible rfl)
    try simp only [Act.put, ppA, ppB, ppC]
    refine wpAnyH_ready (rs := [16]) (by kernel_rfl) (by simp) ?_
    refine AllReadyH.cons (o := ⟨none, .store 103 (.tmp 33) (.tmp 30), 0, "net.go:62", #[⟨15, .data⟩, ⟨12, .data⟩, ⟨12, .chain⟩, ⟨0, .phase⟩, ⟨1, .phase⟩, ⟨2, .phase⟩, ⟨3, .phase⟩, ⟨4, .phase⟩, ⟨5, .phase⟩, ⟨6, .phase⟩, ⟨7, .phase⟩, ⟨8, .phase⟩, ⟨9, .phase⟩, ⟨10, .phase⟩, ⟨11, .phase⟩, ⟨12, .phase⟩], none⟩) rfl (fun K hK => ?_) AllReadyH.nil
    have CC6 := CK.out _ K5.out
    have t3 := CC6.1
    have t4 := CC6.2
    go_simp
    refine hK.out _ _ (KX.out _ _ _ K5.out (Kept.refl _ _)) (fun hHeld => ?_)
    clear hK K
    try simp only [Act.put, ppA, ppB, ppC]
    refine wpAnyH_done (by kernel_rfl) ?_ _
    refine NoPanic.normal ?_
    exact hQ _ _ _ _ _ _ _ _ _ _ _ _ _ _ _ _ _ _ _ (Ro.of_rw RW5.out) OW5.out.1 OW5.out.2 (Kept.refl _ _)
   ·have hB7 : Blk (z1.alloc (.cells #[.int .i64 x1, .int .i64 x2, .int .i64 x3, .int .i64 x4, .int .u64 (x5 : Int), .int .i64 x6, .int .i64 x7, .int .i64 x8, .int .i64 x9, .slice xa xd.length xc, .int .i64 xq] 88)) z1.heap.size [.int .i64 x1, .int .i64 x2, .int .i64 x3, .int .i64 x4, .int .u64 (x5 : Int), .int .i64 x6, .int .i64 x7, .int .i64 x8, .int .i64 x9, .slice xa xd.length xc, .int .i64 xq] 88 := Blk.new z1 [.int .i64 x1, .int .i64 x2, .int .i64 x3, .int .i64 x4, .int .u64 (x5 : Int), .int .i64 x6, .int .i64 x7, .int .i64 x8, .int .i64 x9, .slice xa xd.length xc, .int .i64 xq] 88
    have hk7 : Kept (fun _ => False) z1 (z1.alloc (.cells #[.int .i64 x1, .int .i64 x2, .int .i64 x3, .int .i64 x4, .int .u64 (x5 : Int), .int .i64 x6, .int .i64 x7, .int .i64 x8, .int .i64 x9, .slice xa xd.length xc, .int .i64 xq] 88)) := (Kept.refl _ z1).alloc _
    have hs7 : w.heap.size ≤ z1.heap.size := K1.out.size
    have ne7 : b1 ≠ z1.heap.size := fun e => by have := HB1.out.lt; omega
    have HB17 := Lib.hid (hk7.blk HB1.out (fun f => f))
    have HE17 := Lib.hid (HE1.out.old hk7)
    have K7 := Lib.hid (K1.out.alloc (.cells #[.int .i64 x1, .int .i64 x2, .int .i64 x3, .int .i64 x4, .int .u64 (x5 : Int), .int .i64 x6, .int .i64 x7, .int .i64 x8, .int .i64 x9, .slice xa xd.length xc, .int .i64 xq] 88))
    have HB7 := Lib.hid hB7
    go_simp
    refine hK.out _ _ (KS.out _ K7.out) (fun hHeld => ?_)
    clear hK K
    try simp only [Act.put, ppA, ppB, ppC]
    clear hB7 hk7
    generalize z1.alloc (.cells #[.int .i64 x1, .int .i64 x2, .int .i64 x3, .int .i64 x4, .int .u64 (x5 : Int), .int .i64 x6, .int .i64 x7, .int .i64 x8, .int .i64 x9, .slice xa xd.length xc, .int .i64 xq] 88) = z7 at *
    generalize z1.heap.size = b7 at *
    refine wpAnyH_ready (rs := [9]) (by kernel_rfl) (by simp) ?_
    refine AllReadyH.cons (o := ⟨some 27, .call ⟨.builtin .append, #[.tmp 20, .tmp 26], #[103, 103]⟩, 103, "net.go:62", #[⟨2, .data⟩, ⟨8, .data⟩], none⟩) rfl (fun K hK => ?_) AllReadyH.nil
    refine Rw.step_app rT (by rfl) (.tmp 20) (.tmp 26) (by rfl) w.heap.size (K := []) (K2 := L) (by rfl) HE17.out (by rfl) (FR.out _ K7.out) (by have := HL1.out; have := HL2.out; simp; omega) K7.out.size ?_
    intro v8_ z8 A8
    have P8 := past_apd K7.out A8 (fun g hg => by have e : b1 = g := Option.some.inj hg; subst e; exact (HE17.out.lt _ rfl).1)
    have HB78 := Lib.hid (A8.kept.blk HB7.out (fun e => by have e2 : b1 = b7 := Option.some.inj e; omega))
    have OW8 := Lib.hid P8
    have K8 := Lib.hid P8.1
    have RW8 := Lib.hid A8.row
    simp only [List.nil_append] at RW8
    obtain ⟨a8, n8, c8, rfl⟩ : ∃ a n c, v8_ = .slice a n c := (by obtain ⟨a, c, e, _⟩ := A8.row.slice; exact ⟨a, _, c, e⟩)
    clear P8 A8
    refine hK.out _ _ (KS.out _ K8.out) (fun hHeld => ?_)
    clear hK K
    try simp only [Act.put, ppA, ppB, ppC]
    refine wpAnyH_ready (rs := [12]) (by kernel_rfl) (by simp) ?_
    refine AllReadyH.cons (o := ⟨some 30, .call ⟨.builtin .append, #[.tmp 27, .tmp 29], #[103, 103]⟩, 103, "net.go:62", #[⟨9, .data⟩, ⟨11, .data⟩, ⟨9, .chain⟩], none⟩) rfl (fun K hK => ?_) AllReadyH.nil
    refine Rw.step_app rT (by rfl) (.tmp 27) (.tmp 29) (by rfl) w.heap.size (K := L) (K2 := [⟨⟨x1, x2, x3, x4, x5, x6, x7, x8, x9, xd⟩, xa, xc, xq⟩]) (by rfl) RW8.out (by rfl) (Rw.src_blk (t := rT) (K := [⟨⟨x1, x2, x3, x4, x5, x6, x7, x8, x9, xd⟩, xa, xc, xq⟩]) 1 HB78.out) (by have := HL1.out; have := HL2.out; simp; omega) K8.out.size ?_
    intro v9_ z9 A9
    have P9 := past_apd K8.out A9 OW8.out.2
    have OW9 := Lib.hid P9
    have K9 := Lib.hid P9.1
    have RW9 := Lib.hid A9.row
    obtain ⟨a9, n9, c9, rfl⟩ : ∃ a n c, v9_ = .slice a n c := (by obtain ⟨a, c, e, _⟩ := A9.row.slice; exact ⟨a, _, c, e⟩)
    clear P9 A9
    refine hK.out _ _ (KS.out _ K9.out) (fun hHeld => ?_)
    clear hK K
    try simp only [Act.put, ppA, ppB, ppC]
    refine tk 15 ⟨some 33, .indexAddr 117 (.tmp 32) (.tmp 19), 0, "net.go:62", #[⟨14, .data⟩, ⟨1, .data⟩, ⟨0, .phase⟩, ⟨1, .phase⟩, ⟨2, .phase⟩, ⟨3, .phase⟩, ⟨4, .phase⟩, ⟨5, .phase⟩, ⟨6, .phase⟩, ⟨7, .phase⟩, ⟨8, .phase⟩, ⟨9, .phase⟩, ⟨10, .phase⟩, ⟨11, .phase⟩, ⟨12, .phase⟩], none⟩ (v := ?_) rfl ?_ ?_
    rotate_left 1
    focus (intro w h; (try dsimp only at h); go_simp; try with_reducible rfl)
    try simp only [Act.put, ppA, ppB, ppC]
    refine wpAnyH_ready (rs := [16]) (by kernel_rfl) (by simp) ?_
    refine AllReadyH.cons (o := ⟨none, .store 103 (.tmp 33) (.tmp 30), 0, "net.go:62", #[⟨15, .data⟩, ⟨12, .data⟩, ⟨12, .chain⟩, ⟨0, .phase⟩, ⟨1, .phase⟩, ⟨2, .phase⟩, ⟨3, .phase⟩, ⟨4, .phase⟩, ⟨5, .phase⟩, ⟨6, .phase⟩, ⟨7, .phase⟩, ⟨8, .phase⟩, ⟨9, .phase⟩, ⟨10, .phase⟩, ⟨11, .phase⟩, ⟨12, .phase⟩], none⟩) rfl (fun K hK => ?_) AllReadyH.nil
    have CC10 := CK.out _ K9.out
    have t3 := CC10.1
    have t4 := CC10.2
    go_simp
    refine hK.out _ _ (KX.out _ _ _ K9.out (Kept.refl _ _)) (fun hHeld => ?_)
    clear hK K
    try simp only [Act.put, ppA, ppB, ppC]
    refine wpAnyH_done (by kernel_rfl) ?_ _
    refine NoPanic.normal ?_
    exact hQ _ _ _ _ _ _ _ _ _ _ _ _ _ _ _ _ _ _ _ (Ro.of_rw RW9.out) OW9.out.1 OW9.out.2 (Kept.refl _ _)
  ·have hB11 : Blk (z1.alloc (.cells #[.int .i64 x1, .int .i64 x2, .int .i64 x3, .int .i64 x4, .int .u64 (x5 : Int), .int .i64 x6, .int .i64 x7, .int .i64 x8, .int .i64 x9, .slice xa xd.length xc, .int .i64 xq] 88)) z1.heap.size [.int .i64 x1, .int .i64 x2, .int .i64 x3, .int .i64 x4, .int .u64 (x5 : Int), .int .i64 x6, .int .i64 x7, .int .i64 x8, .int .i64 x9, .slice xa xd.length xc, .int .i64 xq] 88 := Blk.new z1 [.int .i64 x1, .int .i64 x2, .int .i64 x3, .int .i64 x4, .int .u64 (x5 : Int), .int .i64 x6, .int .i64 x7, .int .i64 x8, .int .i64 x9, .slice xa xd.length xc, .int .i64 xq] 88
   have hk11 : Kept (fun _ => False) z1 (z1.alloc (.cells #[.int .i64 x1, .int .i64 x2, .int .i64 x3, .int .i64 x4, .int .u64 (x5 : Int), .int .i64 x6, .int .i64 x7, .int .i64 x8, .int .i64 x9, .slice xa xd.length xc, .int .i64 xq] 88)) := (Kept.refl _ z1).alloc _
   have hs11 : w.heap.size ≤ z1.heap.size := K1.out.size
   have ne11 : b1 ≠ z1.heap.size := fun e => by have := HB1.out.lt; omega
   have HB111 := Lib.hid (hk11.blk HB1.out (fun f => f))
   have HE111 := Lib.hid (HE1.out.old hk11)
   have K11 := Lib.hid (K1.out.alloc (.cells #[.int .i64 x1, .int .i64 x2, .int .i64 x3, .int .i64 x4, .int .u64 (x5 : Int), .int .i64 x6, .int .i64 x7, .int .i64 x8, .int .i64 x9, .slice xa xd.length xc, .int .i64 xq] 88))
   have HB11 := Lib.hid hB11
   go_simp
   refine hK.out _ _ (KS.out _ K11.out) (fun hHeld => ?_)
   clear hK K
   try simp only [Act.put, ppA, ppB, ppC]
   clear hB11 hk11
   generalize z1.alloc (.cells #[.int .i64 x1, .int .i64 x2, .int .i64 x3, .int .i64 x4, .int .u64 (x5 : Int), .int .i64 x6, .int .i64 x7, .int .i64 x8, .int .i64 x9, .slice xa xd.length xc, .int .i64 xq] 88) = z11 at *
   generalize z1.heap.size = b11 at *
   refine wpAnyH_ready (rs := [8]) (by kernel_rfl) (by simp) ?_
   refine AllReadyH.cons (o := ⟨some 26, .load 103 (.tmp 25), 103, "net.go:62", #[⟨7, .data⟩], none⟩) rfl (fun K hK => ?_) AllReadyH.nil
   have CC12 := CK.out _ K11.out
   have t3 := CC12.1
   go_simp
   refine hK.out _ _ (KS.out _ K11.out) (fun hHeld => ?_)
   clear hK K
   try simp only [Act.put, ppA, ppB, ppC]
   clear t3 CC12
   refine wpAnyH_ready (rs := [9]) (by kernel_rfl) (by simp) ?_
   refine AllReadyH.cons (o := ⟨some 27, .call ⟨.builtin .append, #[.tmp 20, .tmp 26], #[103, 103]⟩, 103, "net.go:62", #[⟨2, .data⟩, ⟨8, .data⟩], none⟩) rfl (fun K hK => ?_) AllReadyH.nil
   refine Rw.step_app rT (by rfl) (.tmp 20) (.tmp 26) (by rfl) w.heap.size (K := []) (K2 := L) (by rfl) HE111.out (by rfl) (FR.out _ K11.out) (by have := HL1.out; have := HL2.out; simp; omega) K11.out.size ?_
   intro v13_ z13 A13
   have P13 := past_apd K11.out A13 (fun g hg => by have e : b1 = g := Option.some.inj hg; subst e; exact (HE111.out.lt _ rfl).1)
   have HB1113 := Lib.hid (A13.kept.blk HB11.out (fun e => by have e2 : b1 = b11 := Option.some.inj e; omega))
   have OW13 := Lib.hid P13
   have K13 := Lib.hid P13.1
   have RW13 := Lib.hid A13.row
   simp only [List.nil_append] at RW13
   obtain ⟨a13, n13, c13, rfl⟩ : ∃ a n c, v13_ = .slice a n c := (by obtain ⟨a, c, e, _⟩ := A13.row.slice; exact ⟨a, _, c, e⟩)
   clear P13 A13
   refine hK.out _ _ (KS.out _ K13.out) (fun hHeld => ?_)
   clear hK K
   try simp only [Act.put, ppA, ppB, ppC]
   refine wpAnyH_ready (rs := [12]) (by kernel_rfl) (by simp) ?_
   refine AllReadyH.cons (o := ⟨some 30, .call ⟨.builtin .append, #[.tmp 27, .tmp 29], #[103, 103]⟩, 103, "net.go:62", #[⟨9, .data⟩, ⟨11, .data⟩, ⟨9, .chain⟩], none⟩) rfl (fun K hK => ?_) AllReadyH.nil
   refine Rw.step_app rT (by rfl) (.tmp 27) (.tmp 29) (by rfl) w.heap.size (K := L) (K2 := [⟨⟨x1, x2, x3, x4, x5, x6, x7, x8, x9, xd⟩, xa, xc, xq⟩]) (by rfl) RW13.out (by rfl) (Rw.src_blk (t := rT) (K := [⟨⟨x1, x2, x3, x4, x5, x6, x7, x8, x9, xd⟩, xa, xc, xq⟩]) 1 HB1113.out) (by have := HL1.out; have := HL2.out; simp; omega) K13.out.size ?_
   intro v14_ z14 A14
   have P14 := past_apd K13.out A14 OW13.out.2
   have OW14 := Lib.hid P14
   have K14 := Lib.hid P14.1
   have RW14 := Lib.hid A14.row
   obtain ⟨a14, n14, c14, rfl⟩ : ∃ a n c, v14_ = .slice a n c := (by obtain ⟨a, c, e, _⟩ := A14.row.slice; exact ⟨a, _, c, e⟩)
   clear P14 A14
   refine hK.out _ _ (KS.out _ K14.out) (fun hHeld => ?_)
   clear hK K
   try simp only [Act.put, ppA, ppB, ppC]
   refine tk 15 ⟨some 33, .indexAddr 117 (.tmp 32) (.tmp 19), 0, "net.go:62", #[⟨14, .data⟩, ⟨1, .data⟩, ⟨0, .phase⟩, ⟨1, .phase⟩, ⟨2, .phase⟩, ⟨3, .phase⟩, ⟨4, .phase⟩, ⟨5, .phase⟩, ⟨6, .phase⟩, ⟨7, .phase⟩, ⟨8, .phase⟩, ⟨9, .phase⟩, ⟨10, .phase⟩, ⟨11, .phase⟩, ⟨12, .phase⟩], none⟩ (v := ?_) rfl ?_ ?_
   rotate_left 1
   focus (intro w h; (try dsimp only at h); go_simp; try with_reducible rfl)
   try simp only [Act.put, ppA, ppB, ppC]
   refine wpAnyH_ready (rs := [16]) (by kernel_rfl) (by simp) ?_
   refine AllReadyH.cons (o := ⟨none, .store 103 (.tmp 33) (.tmp 30), 0, "net.go:62", #[⟨15, .data⟩, ⟨12, .data⟩, ⟨12, .chain⟩, ⟨0, .phase⟩, ⟨1, .phase⟩, ⟨2, .phase⟩, ⟨3, .phase⟩, ⟨4, .phase⟩, ⟨5, .phase⟩, ⟨6, .phase⟩, ⟨7, .phase⟩, ⟨8, .phase⟩, ⟨9, .phase⟩, ⟨10, .phase⟩, ⟨11, .phase⟩, ⟨12, .phase⟩], none⟩) rfl (fun K hK => ?_) AllReadyH.nil
   have CC15 := CK.out _ K14.out
   have t3 := CC15.1
   have t4 := CC15.2
   go_simp
   refine hK.out _ _ (KX.out _ _ _ K14.out (Kept.refl _ _)) (fun hHeld => ?_)
   clear hK K
   try simp only [Act.put, ppA, ppB, ppC]
   refine wpAnyH_done (by kernel_rfl) ?_ _
   refine NoPanic.normal ?_
   exact hQ _ _ _ _ _ _ _ _ _ _ _ _ _ _ _ _ _ _ _ (Ro.of_rw RW14.out) OW14.out.1 OW14.out.2 (Kept.refl _ _)
 ·have CC16 := CK.out _ K0.out
  have t3 := CC16.1
  go_simp
  refine hK.out _ _ (KS.out _ K0.out) (fun hHeld => ?_)
  clear hK K
  try simp only [Act.put, ppA, ppB, ppC]
  clear t3 CC16
  refine wpAnyH_ready (rs := [2, 11]) (by kernel_rfl) (by simp) ?_
  refine AllReadyH.cons (o := ⟨some 20, .buildSlice 103 0 #[], 103, "net.go:62", #[], none⟩) rfl (fun K hK => ?_) (AllReadyH.cons (o := ⟨some 29, .buildSlice 103 1 #[(0, .tmp 28)], 103, "net.go:62", #[⟨10, .data⟩], none⟩) rfl (fun K hK => ?_) AllReadyH.nil)
  ·have hB17 : Blk (z0.alloc (.cells #[] 88)) z0.heap.size [] 88 := Blk.new z0 [] 88
   have hk17 : Kept (fun _ => False) z0 (z0.alloc (.cells #[] 88)) := (Kept.refl _ z0).alloc _
   have hs17 : w.heap.size ≤ z0.heap.size := K0.out.size
   have hE17 : Rw.Row rT (z0.alloc (.cells #[] 88)) w.heap.size (.slice (some ⟨z0.heap.size, 0, none⟩) 0 0) [] := row_made hs17
   have K17 := Lib.hid (K0.out.alloc (.cells #[] 88))
   have HB17 := Lib.hid hB17
   have HE17 := Lib.hid hE17
   go_simp
   refine hK.out _ _ (KS.out _ K17.out) (fun hHeld => ?_)
   clear hK K
   try simp only [Act.put, ppA, ppB, ppC]
   clear hB17 hk17 hE17
   generalize z0.alloc (.cells #[] 88) = z17 at *
   generalize z0.heap.size = b17 at *
   refine wpAnyH_ready (rs := [9, 11]) (by kernel_rfl) (by simp) ?_
   refine AllReadyH.cons (o := ⟨some 27, .call ⟨.builtin .append, #[.tmp 20, .tmp 26], #[103, 103]⟩, 103, "net.go:62", #[⟨2, .data⟩, ⟨8, .data⟩], none⟩) rfl (fun K hK => ?_) (AllReadyH.cons (o := ⟨some 29, .buildSlice 103 1 #[(0, .tmp 28)], 103, "net.go:62", #[⟨10, .data⟩], none⟩) rfl (fun K hK => ?_) AllReadyH.nil)
   ·refine Rw.step_app rT (by rfl) (.tmp 20) (.tmp 26) (by rfl) w.heap.size (K := []) (K2 := L) (by rfl) HE17.out (by rfl) (FR.out _ K17.out) (by have := HL1.out; have := HL2.out; simp; omega) K17.out.size ?_
    intro v18_ z18 A18
    have P18 := past_apd K17.out A18 (fun g hg => by have e : b17 = g := Option.some.inj hg; subst e; exact (HE17.out.lt _ rfl).1)
    have OW18 := Lib.hid P18
    have K18 := Lib.hid P18.1
    have RW18 := Lib.hid A18.row
    simp only [List.nil_append] at RW18
    obtain ⟨a18, n18, c18, rfl⟩ : ∃ a n c, v18_ = .slice a n c := (by obtain ⟨a, c, e, _⟩ := A18.row.slice; exact ⟨a, _, c, e⟩)
    clear P18 A18
    refine hK.out _ _ (KS.out _ K18.out) (fun hHeld => ?_)
    clear hK K
    try simp only [Act.put, ppA, ppB, ppC]
    refine wpAnyH_ready (rs := [11]) (by kernel_rfl) (by simp) ?_
    refine AllReadyH.cons (o := ⟨some 29, .buildSlice 103 1 #[(0, .tmp 28)], 103, "net.go:62", #[⟨10, .data⟩], none⟩) rfl (fun K hK => ?_) AllReadyH.nil
    have hB19 : Blk (z18.alloc (.cells #[.int .i64 x1, .int .i64 x2, .int .i64 x3, .int .i64 x4, .int .u64 (x5 : Int), .int .i64 x6, .int .i64 x7, .int .i64 x8, .int .i64 x9, .slice xa xd.length xc, .int .i64 xq] 88)) z18.heap.size [.int .i64 x1, .int .i64 x2, .int .i64 x3, .int .i64 x4, .int .u64 (x5 : Int), .int .i64 x6, .int .i64 x7, .int .i64 x8, .int .i64 x9, .slice xa xd.length xc, .int .i64 xq] 88 := Blk.new z18 [.int .i64 x1, .int .i64 x2, .int .i64 x3, .int .i64 x4, .int .u64 (x5 : Int), .int .i64 x6, .int .i64 x7, .int .i64 x8, .int .i64 x9, .slice xa xd.length xc, .int .i64 xq] 88
    have hk19 : Kept (fun _ => False) z18 (z18.alloc (.cells #[.int .i64 x1, .int .i64 x2, .int .i64 x3, .int .i64 x4, .int .u64 (x5 : Int), .int .i64 x6, .int .i64 x7, .int .i64 x8, .int .i64 x9, .slice xa xd.length xc, .int .i64 xq] 88)) := (Kept.refl _ z18).alloc _
    have hs19 : w.heap.size ≤ z18.heap.size := K18.out.size
    have RW1819 := Lib.hid (RW18.out.old hk19)
    have K19 := Lib.hid (K18.out.alloc (.cells #[.int .i64 x1, .int .i64 x2, .int .i64 x3, .int .i64 x4, .int .u64 (x5 : Int), .int .i64 x6, .int .i64 x7, .int .i64 x8, .int .i64 x9, .slice xa xd.length xc, .int .i64 xq] 88))
    have HB19 := Lib.hid hB19
    go_simp
    refine hK.out _ _ (KS.out _ K19.out) (fun hHeld => ?_)
    clear hK K
    try simp only [Act.put, ppA, ppB, ppC]
    clear hB19 hk19
    generalize z18.alloc (.cells #[.int .i64 x1, .int .i64 x2, .int .i64 x3, .int .i64 x4, .int .u64 (x5 : Int), .int .i64 x6, .int .i64 x7, .int .i64 x8, .int .i64 x9, .slice xa xd.length xc, .int .i64 xq] 88) = z19 at *
    generalize z18.heap.size = b19 at *
    refine wpAnyH_ready (rs := [12]) (by kernel_rfl) (by simp) ?_
    refine AllReadyH.cons (o := ⟨some 30, .call ⟨.builtin .append, #[.tmp 27, .tmp 29], #[103, 103]⟩, 103, "net.go:62", #[⟨9, .data⟩, ⟨11, .data⟩, ⟨9, .chain⟩], none⟩) rfl (fun K hK => ?_) AllReadyH.nil
    refine Rw.step_app rT (by rfl) (.tmp 27) (.tmp 29) (by rfl) w.heap.size (K := L) (K2 := [⟨⟨x1, x2, x3, x4, x5, x6, x7, x8, x9, xd⟩, xa, xc, xq⟩]) (by rfl) RW1819.out (by rfl) (Rw.src_blk (t := rT) (K := [⟨⟨x1, x2, x3, x4, x5, x6, x7, x8, x9, xd⟩, xa, xc, xq⟩]) 1 HB19.out) (by have := HL1.out; have := HL2.out; simp; omega) K19.out.size ?_
    intro v20_ z20 A20
    have P20 := past_apd K19.out A20 OW18.out.2
    have OW20 := Lib.hid P20
    have K20 := Lib.hid P20.1
    have RW20 := Lib.hid A20.row
    obtain ⟨a20, n20, c20, rfl⟩ : ∃ a n c, v20_ = .slice a n c := (by obtain ⟨a, c, e, _⟩ := A20.row.slice; exact ⟨a, _, c, e⟩)
    clear P20 A20
    refine hK.out _ _ (KS.out _ K20.out) (fun hHeld => ?_)
    clear hK K
    try simp only [Act.put, ppA, ppB, ppC]
    refine tk 15 ⟨some 33, .indexAddr 117 (.tmp 32) (.tmp 19), 0, "net.go:62", #[⟨14, .data⟩, ⟨1, .data⟩, ⟨0, .phase⟩, ⟨1, .phase⟩, ⟨2, .phase⟩, ⟨3, .phase⟩, ⟨4, .phase⟩, ⟨5, .phase⟩, ⟨6, .phase⟩, ⟨7, .phase⟩, ⟨8, .phase⟩, ⟨9, .phase⟩, ⟨10, .phase⟩, ⟨11, .phase⟩, ⟨12, .phase⟩], none⟩ (v := ?_) rfl ?_ ?_
    rotate_left 1
    focus (intro w h; (try dsimp only at h); go_simp; try with_reducible rfl)
    try simp only [Act.put, ppA, ppB, ppC]
    refine wpAnyH_ready (rs := [16]) (by kernel_rfl) (by simp) ?_
    refine AllReadyH.cons (o := ⟨none, .store 103 (.tmp 33) (.tmp 30), 0, "net.go:62", #[⟨15, .data⟩, ⟨12, .data⟩, ⟨12, .chain⟩, ⟨0, .phase⟩, ⟨1, .phase⟩, ⟨2, .phase⟩, ⟨3, .phase⟩, ⟨4, .phase⟩, ⟨5, .phase⟩, ⟨6, .phase⟩, ⟨7, .phase⟩, ⟨8, .phase⟩, ⟨9, .phase⟩, ⟨10, .phase⟩, ⟨11, .phase⟩, ⟨12, .phase⟩], none⟩) rfl (fun K hK => ?_) AllReadyH.nil
    have CC21 := CK.out _ K20.out
    have t3 := CC21.1
    have t4 := CC21.2
    go_simp
    refine hK.out _ _ (KX.out _ _ _ K20.out (Kept.refl _ _)) (fun hHeld => ?_)
    clear hK K
    try simp only [Act.put, ppA, ppB, ppC]
    refine wpAnyH_done (by kernel_rfl) ?_ _
    refine NoPanic.normal ?_
    exact hQ _ _ _ _ _ _ _ _ _ _ _ _ _ _ _ _ _ _ _ (Ro.of_rw RW20.out) OW20.out.1 OW20.out.2 (Kept.refl _ _)
   ·have hB22 : Blk (z17.alloc (.cells #[.int .i64 x1, .int .i64 x2, .int .i64 x3, .int .i64 x4, .int .u64 (x5 : Int), .int .i64 x6, .int .i64 x7, .int .i64 x8, .int .i64 x9, .slice xa xd.length xc, .int .i64 xq] 88)) z17.heap.size [.int .i64 x1, .int .i64 x2, .int .i64 x3, .int .i64 x4, .int .u64 (x5 : Int), .int .i64 x6, .int .i64 x7, .int .i64 x8, .int .i64 x9, .slice xa xd.length xc, .int .i64 xq] 88 := Blk.new z17 [.int .i64 x1, .int .i64 x2, .int .i64 x3, .int .i64 x4, .int .u64 (x5 : Int), .int .i64 x6, .int .i64 x7, .int .i64 x8, .int .i64 x9, .slice xa xd.length xc, .int .i64 xq] 88
    have hk22 : Kept (fun _ => False) z17 (z17.alloc (.cells #[.int .i64 x1, .int .i64 x2, .int .i64 x3, .int .i64 x4, .int .u64 (x5 : Int), .int .i64 x6, .int .i64 x7, .int .i64 x8, .int .i64 x9, .slice xa xd.length xc, .int .i64 xq] 88)) := (Kept.refl _ z17).alloc _
    have hs22 : w.heap.size ≤ z17.heap.size := K17.out.size
    have ne22 : b17 ≠ z17.heap.size := fun e => by have := HB17.out.lt; omega
    have HB1722 := Lib.hid (hk22.blk HB17.out (fun f => f))
    have HE1722 := Lib.hid (HE17.out.old hk22)
    have K22 := Lib.hid (K17.out.alloc (.cells #[.int .i64 x1, .int .i64 x2, .int .i64 x3, .int .i64 x4, .int .u64 (x5 : Int), .int .i64 x6, .int .i64 x7, .int .i64 x8, .int .i64 x9, .slice xa xd.length xc, .int .i64 xq] 88))
    have HB22 := Lib.hid hB22
    go_simp
    refine hK.out _ _ (KS.out _ K22.out) (fun hHeld => ?_)
    clear hK K
    try simp only [Act.put, ppA, ppB, ppC]
    clear hB22 hk22
    generalize z17.alloc (.cells #[.int .i64 x1, .int .i64 x2, .int .i64 x3, .int .i64 x4, .int .u64 (x5 : Int), .int .i64 x6, .int .i64 x7, .int .i64 x8, .int .i64 x9, .slice xa xd.length xc, .int .i64 xq] 88) = z22 at *
    generalize z17.heap.size = b22 at *
    refine wpAnyH_ready (rs := [9]) (by kernel_rfl) (by simp) ?_
    refine AllReadyH.cons (o := ⟨some 27, .call ⟨.builtin .append, #[.tmp 20, .tmp 26], #[103, 103]⟩, 103, "net.go:62", #[⟨2, .data⟩, ⟨8, .data⟩], none⟩) rfl (fun K hK => ?_) AllReadyH.nil
    refine Rw.step_app rT (by rfl) (.tmp 20) (.tmp 26) (by rfl) w.heap.size (K := []) (K2 := L) (by rfl) HE1722.out (by rfl) (FR.out _ K22.out) (by have := HL1.out; have := HL2.out; simp; omega) K22.out.size ?_
    intro v23_ z23 A23
    have P23 := past_apd K22.out A23 (fun g hg => by have e : b17 = g := Option.some.inj hg; subst e; exact (HE1722.out.lt _ rfl).1)
    have HB2223 := Lib.hid (A23.kept.blk HB22.out (fun e => by have e2 : b17 = b22 := Option.some.inj e; omega))
    have OW23 := Lib.hid P23
    have K23 := Lib.hid P23.1
    have RW23 := Lib.hid A23.row
    simp only [List.nil_append] at RW23
    obtain ⟨a23, n23, c23, rfl⟩ : ∃ a n c, v23_ = .slice a n c := (by obtain ⟨a, c, e, _⟩ := A23.row.slice; exact ⟨a, _, c, e⟩)
    clear P23 A23
    refine hK.out _ _ (KS.out _ K23.out) (fun hHeld => ?_)
    clear hK K
    try simp only [Act.put, ppA, ppB, ppC]
    refine wpAnyH_ready (rs := [12]) (by kernel_rfl) (by simp) ?_
    refine AllReadyH.cons (o := ⟨some 30, .call ⟨.builtin .append, #[.tmp 27, .tmp 29], #[103, 103]⟩, 103, "net.go:62", #[⟨9, .data⟩, ⟨11, .data⟩, ⟨9, .chain⟩], none⟩) rfl (fun K hK => ?_) AllReadyH.nil
    refine Rw.step_app rT (by rfl) (.tmp 27) (.tmp 29) (by rfl) w.heap.size (K := L) (K2 := [⟨⟨x1, x2, x3, x4, x5, x6, x7, x8, x9, xd⟩, xa, xc, xq⟩]) (by rfl) RW23.out (by rfl) (Rw.src_blk (t := rT) (K := [⟨⟨x1, x2, x3, x4, x5, x6, x7, x8, x9, xd⟩, xa, xc, xq⟩]) 1 HB2223.out) (by have := HL1.out; have := HL2.out; simp; omega) K23.out.size ?_
    intro v24_ z24 A24
    have P24 := past_apd K23.out A24 OW23.out.2
    have OW24 := Lib.hid P24
    have K24 := Lib.hid P24.1
    have RW24 := Lib.hid A24.row
    obtain ⟨a24, n24, c24, rfl⟩ : ∃ a n c, v24_ = .slice a n c := (by obtain ⟨a, c, e, _⟩ := A24.row.slice; exact ⟨a, _, c, e⟩)
    clear P24 A24
    refine hK.out _ _ (KS.out _ K24.out) (fun hHeld => ?_)
    clear hK K
    try simp only [Act.put, ppA, ppB, ppC]
    refine tk 15 ⟨some 33, .indexAddr 117 (.tmp 32) (.tmp 19), 0, "net.go:62", #[⟨14, .data⟩, ⟨1, .data⟩, ⟨0, .phase⟩, ⟨1, .phase⟩, ⟨2, .phase⟩, ⟨3, .phase⟩, ⟨4, .phase⟩, ⟨5, .phase⟩, ⟨6, .phase⟩, ⟨7, .phase⟩, ⟨8, .phase⟩, ⟨9, .phase⟩, ⟨10, .phase⟩, ⟨11, .phase⟩, ⟨12, .phase⟩], none⟩ (v := ?_) rfl ?_ ?_
    rotate_left 1
    focus (intro w h; (try dsimp only at h); go_simp; try with_reducible rfl)
    try simp only [Act.put, ppA, ppB, ppC]
    refine wpAnyH_ready (rs := [16]) (by kernel_rfl) (by simp) ?_
    refine AllReadyH.cons (o := ⟨none, .store 103 (.tmp 33) (.tmp 30), 0, "net.go:62", #[⟨15, .data⟩, ⟨12, .data⟩, ⟨12, .chain⟩, ⟨0, .phase⟩, ⟨1, .phase⟩, ⟨2, .phase⟩, ⟨3, .phase⟩, ⟨4, .phase⟩, ⟨5, .phase⟩, ⟨6, .phase⟩, ⟨7, .phase⟩, ⟨8, .phase⟩, ⟨9, .phase⟩, ⟨10, .phase⟩, ⟨11, .phase⟩, ⟨12, .phase⟩], none⟩) rfl (fun K hK => ?_) AllReadyH.nil
    have CC25 := CK.out _ K24.out
    have t3 := CC25.1
    have t4 := CC25.2
    go_simp
    refine hK.out _ _ (KX.out _ _ _ K24.out (Kept.refl _ _)) (fun hHeld => ?_)
    clear hK K
    try simp only [Act.put, ppA, ppB, ppC]
    refine wpAnyH_done (by kernel_rfl) ?_ _
    refine NoPanic.normal ?_
    exact hQ _ _ _ _ _ _ _ _ _ _ _ _ _ _ _ _ _ _ _ (Ro.of_rw RW24.out) OW24.out.1 OW24.out.2 (Kept.refl _ _)
  ·have hB26 : Blk (z0.alloc (.cells #[.int .i64 x1, .int .i64 x2, .int .i64 x3, .int .i64 x4, .int .u64 (x5 : Int), .int .i64 x6, .int .i64 x7, .int .i64 x8, .int .i64 x9, .slice xa xd.length xc, .int .i64 xq] 88)) z0.heap.size [.int .i64 x1, .int .i64 x2, .int .i64 x3, .int .i64 x4, .int .u64 (x5 : Int), .int .i64 x6, .int .i64 x7, .int .i64 x8, .int .i64 x9, .slice xa xd.length xc, .int .i64 xq] 88 := Blk.new z0 [.int .i64 x1, .int .i64 x2, .int .i64 x3, .int .i64 x4, .int .u64 (x5 : Int), .int .i64 x6, .int .i64 x7, .int .i64 x8, .int .i64 x9, .slice xa xd.length xc, .int .i64 xq] 88
   have hk26 : Kept (fun _ => False) z0 (z0.alloc (.cells #[.int .i64 x1, .int .i64 x2, .int .i64 x3, .int .i64 x4, .int .u64 (x5 : Int), .int .i64 x6, .int .i64 x7, .int .i64 x8, .int .i64 x9, .slice xa xd.length xc, .int .i64 xq] 88)) := (Kept.refl _ z0).alloc _
   have hs26 : w.heap.size ≤ z0.heap.size := K0.out.size
   have K26 := Lib.hid (K0.out.alloc (.cells #[.int .i64 x1, .int .i64 x2, .int .i64 x3, .int .i64 x4, .int .u64 (x5 : Int), .int .i64 x6, .int .i64 x7, .int .i64 x8, .int .i64 x9, .slice xa xd.length xc, .int .i64 xq] 88))
   have HB26 := Lib.hid hB26
   go_simp
   refine hK.out _ _ (KS.out _ K26.out) (fun hHeld => ?_)
   clear hK K
   try simp only [Act.put, ppA, ppB, ppC]
   clear hB26 hk26
   generalize z0.alloc (.cells #[.int .i64 x1, .int .i64 x2, .int .i64 x3, .int .i64 x4, .int .u64 (x5 : Int), .int .i64 x6, .int .i64 x7, .int .i64 x8, .int .i64 x9, .slice xa xd.length xc, .int .i64 xq] 88) = z26 at *
   generalize z0.heap.size = b26 at *
   refine wpAnyH_ready (rs := [2]) (by kernel_rfl) (by simp) ?_
   refine AllReadyH.cons (o := ⟨some 20, .buildSlice 103 0 #[], 103, "net.go:62", #[], none⟩) rfl (fun K hK => ?_) AllReadyH.nil
   have hB27 : Blk (z26.alloc (.cells #[] 88)) z26.heap.size [] 88 := Blk.new z26 [] 88
   have hk27 : Kept (fun _ => False) z26 (z26.alloc (.cells #[] 88)) := (Kept.refl _ z26).alloc _
   have hs27 : w.heap.size ≤ z26.heap.size := K26.out.size
   have hE27 : Rw.Row rT (z26.alloc (.cells #[] 88)) w.heap.size (.slice (some ⟨z26.heap.size, 0, none⟩) 0 0) [] := row_made hs27
   have ne27 : b26 ≠ z26.heap.size := fun e => by have := HB26.out.lt; omega
   have HB2627 := Lib.hid (hk27.blk HB26.out (fun f => f))
   have K27 := Lib.hid (K26.out.alloc (.cells #[] 88))
   have HB27 := Lib.hid hB27
   have HE27 := Lib.hid hE27
   go_simp
   refine hK.out _ _ (KS.out _ K27.out) (fun hHeld => ?_)
   clear hK K
   try simp only [Act.put, ppA, ppB, ppC]
   clear hB27 hk27 hE27
   generalize z26.alloc (.cells #[] 88) = z27 at *
   generalize z26.heap.size = b27 at *
   refine wpAnyH_ready (rs := [9]) (by kernel_rfl) (by simp) ?_
   refine AllReadyH.cons (o := ⟨some 27, .call ⟨.builtin .append, #[.tmp 20, .tmp 26], #[103, 103]⟩, 103, "net.go:62", #[⟨2, .data⟩, ⟨8, .data⟩], none⟩) rfl (fun K hK => ?_) AllReadyH.nil
   refine Rw.step_app rT (by rfl) (.tmp 20) (.tmp 26) (by rfl) w.heap.size (K := []) (K2 := L) (by rfl) HE27.out (by rfl) (FR.out _ K27.out) (by have := HL1.out; have := HL2.out; simp; omega) K27.out.size ?_
   intro v28_ z28 A28
   have P28 := past_apd K27.out A28 (fun g hg => by have e : b27 = g := Option.some.inj hg; subst e; exact (HE27.out.lt _ rfl).1)
   have HB262728 := Lib.hid (A28.kept.blk HB2627.out (fun e => by have e2 : b27 = b26 := Option.some.inj e; omega))
   have OW28 := Lib.hid P28
   have K28 := Lib.hid P28.1
   have RW28 := Lib.hid A28.row
   simp only [List.nil_append] at RW28
   obtain ⟨a28, n28, c28, rfl⟩ : ∃ a n c, v28_ = .slice a n c := (by obtain ⟨a, c, e, _⟩ := A28.row.slice; exact ⟨a, _, c, e⟩)
   clear P28 A28
   refine hK.out _ _ (KS.out _ K28.out) (fun hHeld => ?_)
   clear hK K
   try simp only [Act.put, ppA, ppB, ppC]
   refine wpAnyH_ready (rs := [12]) (by kernel_rfl) (by simp) ?_
   refine AllReadyH.cons (o := ⟨some 30, .call ⟨.builtin .append, #[.tmp 27, .tmp 29], #[103, 103]⟩, 103, "net.go:62", #[⟨9, .data⟩, ⟨11, .data⟩, ⟨9, .chain⟩], none⟩) rfl (fun K hK => ?_) AllReadyH.nil
   refine Rw.step_app rT (by rfl) (.tmp 27) (.tmp 29) (by rfl) w.heap.size (K := L) (K2 := [⟨⟨x1, x2, x3, x4, x5, x6, x7, x8, x9, xd⟩, xa, xc, xq⟩]) (by rfl) RW28.out (by rfl) (Rw.src_blk (t := rT) (K := [⟨⟨x1, x2, x3, x4, x5, x6, x7, x8, x9, xd⟩, xa, xc, xq⟩]) 1 HB262728.out) (by have := HL1.out; have := HL2.out; simp; omega) K28.out.size ?_
   intro v29_ z29 A29
   have P29 := past_apd K28.out A29 OW28.out.2
   have OW29 := Lib.hid P29
   have K29 := Lib.hid P29.1
   have RW29 := Lib.hid A29.row
   obtain ⟨a29, n29, c29, rfl⟩ : ∃ a n c, v29_ = .slice a n c := (by obtain ⟨a, c, e, _⟩ := A29.row.slice; exact ⟨a, _, c, e⟩)
   clear P29 A29
   refine hK.out _ _ (KS.out _ K29.out) (fun hHeld => ?_)
   clear hK K
   try simp only [Act.put, ppA, ppB, ppC]
   refine tk 15 ⟨some 33, .indexAddr 117 (.tmp 32) (.tmp 19), 0, "net.go:62", #[⟨14, .data⟩, ⟨1, .data⟩, ⟨0, .phase⟩, ⟨1, .phase⟩, ⟨2, .phase⟩, ⟨3, .phase⟩, ⟨4, .phase⟩, ⟨5, .phase⟩, ⟨6, .phase⟩, ⟨7, .phase⟩, ⟨8, .phase⟩, ⟨9, .phase⟩, ⟨10, .phase⟩, ⟨11, .phase⟩, ⟨12, .phase⟩], none⟩ (v := ?_) rfl ?_ ?_
   rotate_left 1
   focus (intro w h; (try dsimp only at h); go_simp; try with_reducible rfl)
   try simp only [Act.put, ppA, ppB, ppC]
   refine wpAnyH_ready (rs := [16]) (by kernel_rfl) (by simp) ?_
   refine AllReadyH.cons (o := ⟨none, .store 103 (.tmp 33) (.tmp 30), 0, "net.go:62", #[⟨15, .data⟩, ⟨12, .data⟩, ⟨12, .chain⟩, ⟨0, .phase⟩, ⟨1, .phase⟩, ⟨2, .phase⟩, ⟨3, .phase⟩, ⟨4, .phase⟩, ⟨5, .phase⟩, ⟨6, .phase⟩, ⟨7, .phase⟩, ⟨8, .phase⟩, ⟨9, .phase⟩, ⟨10, .phase⟩, ⟨11, .phase⟩, ⟨12, .phase⟩], none⟩) rfl (fun K hK => ?_) AllReadyH.nil
   have CC30 := CK.out _ K29.out
   have t3 := CC30.1
   have t4 := CC30.2
   go_simp
   refine hK.out _ _ (KX.out _ _ _ K29.out (Kept.refl _ _)) (fun hHeld => ?_)
   clear hK K
   try simp only [Act.put, ppA, ppB, ppC]
   refine wpAnyH_done (by kernel_rfl) ?_ _
   refine NoPanic.normal ?_
   exact hQ _ _ _ _ _ _ _ _ _ _ _ _ _ _ _ _ _ _ _ (Ro.of_rw RW29.out) OW29.out.1 OW29.out.2 (Kept.refl _ _)
 ·have hB31 : Blk (z0.alloc (.cells #[.int .i64 x1, .int .i64 x2, .int .i64 x3, .int .i64 x4, .int .u64 (x5 : Int), .int .i64 x6, .int .i64 x7, .int .i64 x8, .int .i64 x9, .slice xa xd.length xc, .int .i64 xq] 88)) z0.heap.size [.int .i64 x1, .int .i64 x2, .int .i64 x3, .int .i64 x4, .int .u64 (x5 : Int), .int .i64 x6, .int .i64 x7, .int .i64 x8, .int .i64 x9, .slice xa xd.length xc, .int .i64 xq] 88 := Blk.new z0 [.int .i64 x1, .int .i64 x2, .int .i64 x3, .int .i64 x4, .int .u64 (x5 : Int), .int .i64 x6, .int .i64 x7, .int .i64 x8, .int .i64 x9, .slice xa xd.length xc, .int .i64 xq] 88
  have hk31 : Kept (fun _ => False) z0 (z0.alloc (.cells #[.int .i64 x1, .int .i64 x2, .int .i64 x3, .int .i64 x4, .int .u64 (x5 : Int), .int .i64 x6, .int .i64 x7, .int .i64 x8, .int .i64 x9, .slice xa xd.length xc, .int .i64 xq] 88)) := (Kept.refl _ z0).alloc _
  have hs31 : w.heap.size ≤ z0.heap.size := K0.out.size
  have K31 := Lib.hid (K0.out.alloc (.cells #[.int .i64 x1, .int .i64 x2, .int .i64 x3, .int .i64 x4, .int .u64 (x5 : Int), .int .i64 x6, .int .i64 x7, .int .i64 x8, .int .i64 x9, .slice xa xd.length xc, .int .i64 xq] 88))
  have HB31 := Lib.hid hB31
  go_simp
  refine hK.out _ _ (KS.out _ K31.out) (fun hHeld => ?_)
  clear hK K
  try simp only [Act.put, ppA, ppB, ppC]
  clear hB31 hk31
  generalize z0.alloc (.cells #[.int .i64 x1, .int .i64 x2, .int .i64 x3, .int .i64 x4, .int .u64 (x5 : Int), .int .i64 x6, .int .i64 x7, .int .i64 x8, .int .i64 x9, .slice xa xd.length xc, .int .i64 xq] 88) = z31 at *
  generalize z0.heap.size = b31 at *
  refine wpAnyH_ready (rs := [2, 8]) (by kernel_rfl) (by simp) ?_
  refine AllReadyH.cons (o := ⟨some 20, .buildSlice 103 0 #[], 103, "net.go:62", #[], none⟩) rfl (fun K hK => ?_) (AllReadyH.cons (o := ⟨some 26, .load 103 (.tmp 25), 103, "net.go:62", #[⟨7, .data⟩], none⟩) rfl (fun K hK => ?_) AllReadyH.nil)
  ·have hB32 : Blk (z31.alloc (.cells #[] 88)) z31.heap.size [] 88 := Blk.new z31 [] 88
   have hk32 : Kept (fun _ => False) z31 (z31.alloc (.cells #[] 88)) := (Kept.refl _ z31).alloc _
   have hs32 : w.heap.size ≤ z31.heap.size := K31.out.size
   have hE32 : Rw.Row rT (z31.alloc (.cells #[] 88)) w.heap.size (.slice (some ⟨z31.heap.size, 0, none⟩) 0 0) [] := row_made hs32
   have ne32 : b31 ≠ z31.heap.size := fun e => by have := HB31.out.lt; omega
   have HB3132 := Lib.hid (hk32.blk HB31.out (fun f => f))
   have K32 := Lib.hid (K31.out.alloc (.cells #[] 88))
   have HB32 := Lib.hid hB32
   have HE32 := Lib.hid hE32
   go_simp
   refine hK.out _ _ (KS.out _ K32.out) (fun hHeld => ?_)
   clear hK K
   try simp only [Act.put, ppA, ppB, ppC]
   clear hB32 hk32 hE32
   generalize z31.alloc (.cells #[] 88) = z32 at *
   generalize z31.heap.size = b32 at *
   refine wpAnyH_ready (rs := [8]) (by kernel_rfl) (by simp) ?_
   refine AllReadyH.cons (o := ⟨some 26, .load 103 (.tmp 25), 103, "net.go:62", #[⟨7, .data⟩], none⟩) rfl (fun K hK => ?_) AllReadyH.nil
   have CC33 := CK.out _ K32.out
   have t3 := CC33.1
   go_simp
   refine hK.out _ _ (KS.out _ K32.out) (fun hHeld => ?_)
   clear hK K
   try simp only [Act.put, ppA, ppB, ppC]
   clear t3 CC33
   refine wpAnyH_ready (rs := [9]) (by kernel_rfl) (by simp) ?_
   refine AllReadyH.cons (o := ⟨some 27, .call ⟨.builtin .append, #[.tmp 20, .tmp 26], #[103, 103]⟩, 103, "net.go:62", #[⟨2, .data⟩, ⟨8, .data⟩], none⟩) rfl (fun K hK => ?_) AllReadyH.nil
   refine Rw.step_app rT (by rfl) (.tmp 20) (.tmp 26) (by rfl) w.heap.size (K := []) (K2 := L) (by rfl) HE32.out (by rfl) (FR.out _ K32.out) (by have := HL1.out; have := HL2.out; simp; omega) K32.out.size ?_
   intro v34_ z34 A34
   have P34 := past_apd K32.out A34 (fun g hg => by have e : b32 = g := Option.some.inj hg; subst e; exact (HE32.out.lt _ rfl).1)
   have HB313234 := Lib.hid (A34.kept.blk HB3132.out (fun e => by have e2 : b32 = b31 := Option.some.inj e; omega))
   have OW34 := Lib.hid P34
   have K34 := Lib.hid P34.1
   have RW34 := Lib.hid A34.row
   simp only [List.nil_append] at RW34
   obtain ⟨a34, n34, c34, rfl⟩ : ∃ a n c, v34_ = .slice a n c := (by obtain ⟨a, c, e, _⟩ := A34.row.slice; exact ⟨a, _, c, e⟩)
   clear P34 A34
   refine hK.out _ _ (KS.out _ K34.out) (fun hHeld => ?_)
   clear hK K
   try simp only [Act.put, ppA, ppB, ppC]
   refine wpAnyH_ready (rs := [12]) (by kernel_rfl) (by simp) ?_
   refine AllReadyH.cons (o := ⟨some 30, .call ⟨.builtin .append, #[.tmp 27, .tmp 29], #[103, 103]⟩, 103, "net.go:62", #[⟨9, .data⟩, ⟨11, .data⟩, ⟨9, .chain⟩], none⟩) rfl (fun K hK => ?_) AllReadyH.nil
   refine Rw.step_app rT (by rfl) (.tmp 27) (.tmp 29) (by rfl) w.heap.size (K := L) (K2 := [⟨⟨x1, x2, x3, x4, x5, x6, x7, x8, x9, xd⟩, xa, xc, xq⟩]) (by rfl) RW34.out (by rfl) (Rw.src_blk (t := rT) (K := [⟨⟨x1, x2, x3, x4, x5, x6, x7, x8, x9, xd⟩, xa, xc, xq⟩]) 1 HB313234.out) (by have := HL1.out; have := HL2.out; simp; omega) K34.out.size ?_
   intro v35_ z35 A35
   have P35 := past_apd K34.out A35 OW34.out.2
   have OW35 := Lib.hid P35
   have K35 := Lib.hid P35.1
   have RW35 := Lib.hid A35.row
   obtain ⟨a35, n35, c35, rfl⟩ : ∃ a n c, v35_ = .slice a n c := (by obtain ⟨a, c, e, _⟩ := A35.row.slice; exact ⟨a, _, c, e⟩)
   clear P35 A35
   refine hK.out _ _ (KS.out _ K35.out) (fun hHeld => ?_)
   clear hK K
   try simp only [Act.put, ppA, ppB, ppC]
   refine tk 15 ⟨some 33, .indexAddr 117 (.tmp 32) (.tmp 19), 0, "net.go:62", #[⟨14, .data⟩, ⟨1, .data⟩, ⟨0, .phase⟩, ⟨1, .phase⟩, ⟨2, .phase⟩, ⟨3, .phase⟩, ⟨4, .phase⟩, ⟨5, .phase⟩, ⟨6, .phase⟩, ⟨7, .phase⟩, ⟨8, .phase⟩, ⟨9, .phase⟩, ⟨10, .phase⟩, ⟨11, .phase⟩, ⟨12, .phase⟩], none⟩ (v := ?_) rfl ?_ ?_
   rotate_left 1
   focus (intro w h; (try dsimp only at h); go_simp; try with_reducible rfl)
   try simp only [Act.put, ppA, ppB, ppC]
   refine wpAnyH_ready (rs := [16]) (by kernel_rfl) (by simp) ?_
   refine AllReadyH.cons (o := ⟨none, .store 103 (.tmp 33) (.tmp 30), 0, "net.go:62", #[⟨15, .data⟩, ⟨12, .data⟩, ⟨12, .chain⟩, ⟨0, .phase⟩, ⟨1, .phase⟩, ⟨2, .phase⟩, ⟨3, .phase⟩, ⟨4, .phase⟩, ⟨5, .phase⟩, ⟨6, .phase⟩, ⟨7, .phase⟩, ⟨8, .phase⟩, ⟨9, .phase⟩, ⟨10, .phase⟩, ⟨11, .phase⟩, ⟨12, .phase⟩], none⟩) rfl (fun K hK => ?_) AllReadyH.nil
   have CC36 := CK.out _ K35.out
   have t3 := CC36.1
   have t4 := CC36.2
   go_simp
   refine hK.out _ _ (KX.out _ _ _ K35.out (Kept.refl _ _)) (fun hHeld => ?_)
   clear hK K
   try simp only [Act.put, ppA, ppB, ppC]
   refine wpAnyH_done (by kernel_rfl) ?_ _
   refine NoPanic.normal ?_
   exact hQ _ _ _ _ _ _ _ _ _ _ _ _ _ _ _ _ _ _ _ (Ro.of_rw RW35.out) OW35.out.1 OW35.out.2 (Kept.refl _ _)
  ·have CC37 := CK.out _ K31.out
   have t3 := CC37.1
   go_simp
   refine hK.out _ _ (KS.out _ K31.out) (fun hHeld => ?_)
   clear hK K
   try simp only [Act.put, ppA, ppB, ppC]
   clear t3 CC37
   refine wpAnyH_ready (rs := [2]) (by kernel_rfl) (by simp) ?_
   refine AllReadyH.cons (o := ⟨some 20, .buildSlice 103 0 #[], 103, "net.go:62", #[], none⟩) rfl (fun K hK => ?_) AllReadyH.nil
   have hB38 : Blk (z31.alloc (.cells #[] 88)) z31.heap.size [] 88 := Blk.new z31 [] 88
   have hk38 : Kept (fun _ => False) z31 (z31.alloc (.cells #[] 88)) := (Kept.refl _ z31).alloc _
   have hs38 : w.heap.size ≤ z31.heap.size := K31.out.size
   have hE38 : Rw.Row rT (z31.alloc (.cells #[] 88)) w.heap.size (.slice (some ⟨z31.heap.size, 0, none⟩) 0 0) [] := row_made hs38
   have ne38 : b31 ≠ z31.heap.size := fun e => by have := HB31.out.lt; omega
   have HB3138 := Lib.hid (hk38.blk HB31.out (fun f => f))
   have K38 := Lib.hid (K31.out.alloc (.cells #[] 88))
   have HB38 := Lib.hid hB38
   have HE38 := Lib.hid hE38
   go_simp
   refine hK.out _ _ (KS.out _ K38.out) (fun hHeld => ?_)
   clear hK K
   try simp only [Act.put, ppA, ppB, ppC]
   clear hB38 hk38 hE38
   generalize z31.alloc (.cells #[] 88) = z38 at *
   generalize z31.heap.size = b38 at *
   refine wpAnyH_ready (rs := [9]) (by kernel_rfl) (by simp) ?_
   refine AllReadyH.cons (o := ⟨some 27, .call ⟨.builtin .append, #[.tmp 20, .tmp 26], #[103, 103]⟩, 103, "net.go:62", #[⟨2, .data⟩, ⟨8, .data⟩], none⟩) rfl (fun K hK => ?_) AllReadyH.nil
   refine Rw.step_app rT (by rfl) (.tmp 20) (.tmp 26) (by rfl) w.heap.size (K := []) (K2 := L) (by rfl) HE38.out (by rfl) (FR.out _ K38.out) (by have := HL1.out; have := HL2.out; simp; omega) K38.out.size ?_
   intro v39_ z39 A39
   have P39 := past_apd K38.out A39 (fun g hg => by have e : b38 = g := Option.some.inj hg; subst e; exact (HE38.out.lt _ rfl).1)
   have HB313839 := Lib.hid (A39.kept.blk HB3138.out (fun e => by have e2 : b38 = b31 := Option.some.inj e; omega))
   have OW39 := Lib.hid P39
   have K39 := Lib.hid P39.1
   have RW39 := Lib.hid A39.row
   simp only [List.nil_append] at RW39
   obtain ⟨a39, n39, c39, rfl⟩ : ∃ a n c, v39_ = .slice a n c := (by obtain ⟨a, c, e, _⟩ := A39.row.slice; exact ⟨a, _, c, e⟩)
   clear P39 A39
   refine hK.out _ _ (KS.out _ K39.out) (fun hHeld => ?_)
   clear hK K
   try simp only [Act.put, ppA, ppB, ppC]
   refine wpAnyH_ready (rs := [12]) (by kernel_rfl) (by simp) ?_
   refine AllReadyH.cons (o := ⟨some 30, .call ⟨.builtin .append, #[.tmp 27, .tmp 29], #[103, 103]⟩, 103, "net.go:62", #[⟨9, .data⟩, ⟨11, .data⟩, ⟨9, .chain⟩], none⟩) rfl (fun K hK => ?_) AllReadyH.nil
   refine Rw.step_app rT (by rfl) (.tmp 27) (.tmp 29) (by rfl) w.heap.size (K := L) (K2 := [⟨⟨x1, x2, x3, x4, x5, x6, x7, x8, x9, xd⟩, xa, xc, xq⟩]) (by rfl) RW39.out (by rfl) (Rw.src_blk (t := rT) (K := [⟨⟨x1, x2, x3, x4, x5, x6, x7, x8, x9, xd⟩, xa, xc, xq⟩]) 1 HB313839.out) (by have := HL1.out; have := HL2.out; simp; omega) K39.out.size ?_
   intro v40_ z40 A40
   have P40 := past_apd K39.out A40 OW39.out.2
   have OW40 := Lib.hid P40
   have K40 := Lib.hid P40.1
   have RW40 := Lib.hid A40.row
   obtain ⟨a40, n40, c40, rfl⟩ : ∃ a n c, v40_ = .slice a n c := (by obtain ⟨a, c, e, _⟩ := A40.row.slice; exact ⟨a, _, c, e⟩)
   clear P40 A40
   refine hK.out _ _ (KS.out _ K40.out) (fun hHeld => ?_)
   clear hK K
   try simp only [Act.put, ppA, ppB, ppC]
   refine tk 15 ⟨some 33, .indexAddr 117 (.tmp 32) (.tmp 19), 0, "net.go:62", #[⟨14, .data⟩, ⟨1, .data⟩, ⟨0, .phase⟩, ⟨1, .phase⟩, ⟨2, .phase⟩, ⟨3, .phase⟩, ⟨4, .phase⟩, ⟨5, .phase⟩, ⟨6, .phase⟩, ⟨7, .phase⟩, ⟨8, .phase⟩, ⟨9, .phase⟩, ⟨10, .phase⟩, ⟨11, .phase⟩, ⟨12, .phase⟩], none⟩ (v := ?_) rfl ?_ ?_
   rotate_left 1
   focus (intro w h; (try dsimp only at h); go_simp; try with_reducible rfl)
   try simp only [Act.put, ppA, ppB, ppC]
   refine wpAnyH_ready (rs := [16]) (by kernel_rfl) (by simp) ?_
   refine AllReadyH.cons (o := ⟨none, .store 103 (.tmp 33) (.tmp 30), 0, "net.go:62", #[⟨15, .data⟩, ⟨12, .data⟩, ⟨12, .chain⟩, ⟨0, .phase⟩, ⟨1, .phase⟩, ⟨2, .phase⟩, ⟨3, .phase⟩, ⟨4, .phase⟩, ⟨5, .phase⟩, ⟨6, .phase⟩, ⟨7, .phase⟩, ⟨8, .phase⟩, ⟨9, .phase⟩, ⟨10, .phase⟩, ⟨11, .phase⟩, ⟨12, .phase⟩], none⟩) rfl (fun K hK => ?_) AllReadyH.nil
   have CC41 := CK.out _ K40.out
   have t3 := CC41.1
   have t4 := CC41.2
   go_simp
   refine hK.out _ _ (KX.out _ _ _ K40.out (Kept.refl _ _)) (fun hHeld => ?_)
   clear hK K
   try simp only [Act.put, ppA, ppB, ppC]
   refine wpAnyH_done (by kernel_rfl) ?_ _
   refine NoPanic.normal ?_
   exact hQ _ _ _ _ _ _ _ _ _ _ _ _ _ _ _ _ _ _ _ (Ro.of_rw RW40.out) OW40.out.1 OW40.out.2 (Kept.refl _ _)
end Go.Proofs.YtpogpibjkolioaaGreat.Rf

