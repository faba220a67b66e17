/- The reference's port: Take. Conditions: each theorem's own. -/
import Derived.Test.YtpogpibjkolioaaGreatFpK25
set_option linter.unusedVariables false
set_option linter.unusedSimpArgs false
namespace Go.Proofs.YtpogpibjkolioaaGreat.Rf
open Go.RowKit Hp QuM Rw Qu Po NumM NumC
attribute [local go_sem ↓] Go.wp_at_zero Go.wp_at_succ
variable {w0 w w' : World} {m : Nat} {room most : Int} {trim : Bool} {ls : Nat → List Bx} {cr : List Bx} {now last : Int} {ever : Bool} {vs : Nat → Value} {vc : Value} {R G : Nat → Prop}
set_option maxRecDepth 100000 in
set_option maxHeartbeats 8000000 in
theorem rtake_cr_new (h : Rf w0 m room most trim ls cr now last false vs vc w) {t mm : Int} (hmm : clampI t now 1125899906842624 = mm) (hn0 : 0 ≤ now ∧ 0 ≤ last ∧ last ≤ now) (hn1 : now ≤ 1125899906842624) (hcl : cr.length ≤ 1000) (hmode : 0 < cr.length) {x : Bx} {L : List Bx} (hx : cr = x :: L) :
  Calls Tryz.prog 42 #[.pointer (some ⟨m, 0, none⟩), .int .i64 t] w fun e w' => e = .returned (.tuple #[bv x, .bool true]) ∧ ∃ R', RS w0 m room most trim ls L mm mm true R' w' ∧ RN m (frp m vs vc) w R' w' := by
 have hmn : ∀ (ts : Array TypeId) (ty : TypeId) (w : World), (Builtin.min_ ts ty #[.int .i64 t, .int .i64 1125899906842624]).run Tryz.prog w = .ok (.int .i64 (if 1125899906842624 < t then 1125899906842624 else t)) w := fun ts ty w => run_min_int2 ..
 obtain ⟨q, hq⟩ : ∃ q : Int, (if 1125899906842624 < t then 1125899906842624 else t) = q := ⟨_, rfl⟩
 have hmx : ∀ (ts : Array TypeId) (ty : TypeId) (w : World), (Builtin.max_ ts ty #[.int .i64 now, .int .i64 q]).run Tryz.prog w = .ok (.int .i64 mm) w := by
  intro ts ty w
  rw [run_max_int2]
  congr 2
  rw [← hmm, ← hq]
  unfold clampI
  split <;> split <;> (try split) <;> omega
 rw [hq] at hmn
 have hl0 := hn0.2.1
 have hlb : last ≤ 1125899906842624 := by omega
 have hmb : 0 ≤ mm ∧ mm ≤ 1125899906842624 := by
  have := clampI_bd t (low := now) (high := 1125899906842624) hn1
  rw [hmm] at this
  omega
 clear hq hmm hn0 hn1
 obtain ⟨ca, cc, hvc, hcc1, hcc2⟩ := h.rowc.slice
 have HVC := Lib.hid hvc
 have H := Lib.hid h
 have HXX := Lib.hid hx
 have hml := h.blk.lt
 clear h hvc hcc2 hx
 obtain ⟨cn, hcn⟩ : ∃ cn, cr.length = cn := ⟨_, rfl⟩
 have HCN := Lib.hid hcn
 rw [hcn] at HVC hcc1 hcl hmode
 clear hcn
 have hlen : (0 : Int) < (cn : Int) := by omega
 go_enter Tryz.func42, Tryz.ntmps42
 go_upto_region 1 with fail
 have hO := Blk.new w [.int .i64 0, .int .i64 0, .int .i64 0, .int .i64 0, .int .u64 0, .int .i64 0, .int .i64 0, .int .i64 0, .int .i64 0, .slice none 0 0, .int .i64 0] tI
 have hk1 := (Kept.refl (fun _ => False) w).alloc (.cells [.int .i64 0, .int .i64 0, .int .i64 0, .int .i64 0, .int .u64 0, .int .i64 0, .int .i64 0, .int .i64 0, .int .i64 0, .slice none 0 0, .int .i64 0].toArray tI)
 dsimp only [List.toArray] at hO hk1
 generalize w.alloc (.cells #[.int .i64 0, .int .i64 0, .int .i64 0, .int .i64 0, .int .u64 0, .int .i64 0, .int .i64 0, .int .i64 0, .int .i64 0, .slice none 0 0, .int .i64 0] 88) = w1 at *
 obtain ⟨rb, hrb⟩ : ∃ rb, w.heap.size = rb := ⟨_, rfl⟩
 rw [hrb] at hO hml
 simp only [hrb]
 have HRB := Lib.hid hrb
 have H1 := Lib.hid (H.out.old hk1)
 have HK1 := Lib.hid hk1
 have HO1 := Lib.hid hO
 clear hrb hk1 hO
 have d12 := H1.out.blk.cell (o := 12) rfl
 have f12 := H1.out.blk.frozen 12
 go_upto_region 2 with fail
 have H2 := Lib.hid (H1.out.setN mm)
 have k2 := Kept.one w1 m 12 (.int .i64 mm)
 have HO2 := Lib.hid (k2.blk HO1.out (by omega))
 have HK2 : Hid (Kept (fun i => i = m) w (w1.setCell ⟨m, 12, none⟩ (.int .i64 mm))) := Lib.hid ((HK1.out.mono (fun _ _ f => f.elim)).trans k2)
 generalize w1.setCell ⟨m, 12, none⟩ (.int .i64 mm) = w2 at *
 clear d12 f12 k2 H1 HO1 HK1 hmn hmx
 have hBz := H2.out.blk
 have KS : Hid (∀ w', Kept (fun _ => False) w2 w' → w'.cell? ⟨m, 11, none⟩ = some (.slice ca cn cc) ∧ w'.cell? ⟨m, 12, none⟩ = some (.int .i64 mm) ∧ w'.cell? ⟨m, 13, none⟩ = some (.int .i64 last) ∧ w'.cell? ⟨m, 14, none⟩ = some (.bool false)) := by
  refine Lib.hid fun w' k => ?_
  have h1 := k.blk H2.out.blk (fun f => f)
  exact ⟨by rw [← HVC.out]; exact h1.cell rfl, h1.cell rfl, h1.cell rfl, h1.cell rfl⟩
 have K0 : Hid (Kept (fun _ => False) w2 w2.drew) := Lib.hid (Kept.refl _ w2).drew
 have HZ := Lib.hid (H2.out.old K0.out)
 have HOZ := Lib.hid (K0.out.blk HO2.out (fun f => f))
 have HKZ := Lib.hid (HK2.out.drew)
 clear hBz
 refine wp_region_held_drew (S := (fun w' => w'.cell? ⟨m, 11, none⟩ = some (.slice ca cn cc) ∧ w'.cell? ⟨m, 12, none⟩ = some (.int .i64 mm) ∧ w'.cell? ⟨m, 13, none⟩ = some (.int .i64 last) ∧ w'.cell? ⟨m, 14, none⟩ = some (.bool false))) (by kernel_rfl) (KS.out _ K0.out) (fun hHeld => ?_)
 generalize w2.drew = z0 at *
 refine tk 0 ⟨some 19, .move (.tmp 0), 75, "net.go:92", #[], none⟩ (v := ?_) rfl ?_ ?_
 rotate_left 1
 focus (intro w h; (try dsimp only at h); go_simp; try with_reducible rfl)
 try simp only [Act.put, ppA, ppB, ppC]
 refine tk 1 ⟨some 20, .nilCheck (.tmp 19), 0, "net.go:92", #[⟨0, .data⟩], none⟩ (v := ?_) rfl ?_ ?_
 rotate_left 1
 focus (intro w h; (try dsimp only at h); go_simp; try with_reducible rfl)
 try simp only [Act.put, ppA, ppB, ppC]
 refine tk 2 ⟨some 21, .fieldAddr 119 (.tmp 20) 4, 0, "net.go:92", #[⟨1, .data⟩], none⟩ (v := ?_) rfl ?_ ?_
 rotate_left 1
 focus (intro w h; (try dsimp only at h); go_simp; try with_reducible rfl)
 try simp only [Act.put, ppA, ppB, ppC]
 refine tk 3 ⟨some 22, .load 103 (.tmp 21), 103, "net.go:92", #[⟨2, .data⟩], none⟩ (v := ?_) rfl ?_ ?_
 rotate_left 1
 focus (intro w h; (try dsimp only at h); go_simp; try with_reducible rfl)
 try simp only [Act.put, ppA, ppB, ppC]
 refine tk 4 ⟨some 23, .call ⟨.builtin .len, #[.tmp 22], #[103]⟩, 3, "net.go:92", #[⟨3, .data⟩], none⟩ (v := ?_) rfl ?_ ?_
 rotate_left 1
 focus (intro w h; (try dsimp only at h); go_simp; try with_reducible rfl)
 try simp only [Act.put, ppA, ppB, ppC]
 refine tk 5 ⟨some 24, .binOp .gtr 3 (.tmp 23) (.const (.int .i64 0)) 3, 4, "net.go:92", #[⟨4, .data⟩], none⟩ (v := ?_) rfl ?_ ?_
 rotate_left 1
 focus (intro w h; (try dsimp only at h); go_simp; try with_reducible rfl)
 try simp only [Act.put, ppA, ppB, ppC]
 refine tk 6 ⟨some 25, .move (.tmp 24), 4, "net.go:92", #[⟨5, .data⟩], none⟩ (v := ?_) rfl ?_ ?_
 rotate_left 1
 focus (intro w h; (try dsimp only at h); go_simp; try with_reducible rfl)
 try simp only [Act.put, ppA, ppB, ppC]
 refine tk 7 ⟨some 26, .move (.tmp 0), 75, "net.go:92", #[⟨6, .guard⟩], some (6, true)⟩ (v := ?_) rfl ?_ ?_
 rotate_left 1
 focus (intro w h; (try dsimp only at h); go_simp; try with_reducible rfl)
 try simp only [Act.put, ppA, ppB, ppC]
 refine tk 8 ⟨some 27, .nilCheck (.tmp 26), 0, "net.go:92", #[⟨7, .data⟩, ⟨6, .guard⟩], some (6, true)⟩ (v := ?_) rfl ?_ ?_
 rotate_left 1
 focus (intro w h; (try dsimp only at h); go_simp; try with_reducible rfl)
 try simp only [Act.put, ppA, ppB, ppC]
 refine tk 9 ⟨some 28, .fieldAddr 119 (.tmp 27) 7, 0, "net.go:92", #[⟨8, .data⟩, ⟨6, .guard⟩], some (6, true)⟩ (v := ?_) rfl ?_ ?_
 rotate_left 1
 focus (intro w h; (try dsimp only at h); go_simp; try with_reducible rfl)
 try simp only [Act.put, ppA, ppB, ppC]
 refine tk 10 ⟨some 29, .load 4 (.tmp 28), 4, "net.go:92", #[⟨9, .data⟩, ⟨6, .guard⟩], some (6, true)⟩ (v := ?_) rfl ?_ ?_
 rotate_left 1
 focus (intro w h; (try dsimp only at h); go_simp; try with_reducible rfl)
 try simp only [Act.put, ppA, ppB, ppC]
 refine tk 11 ⟨some 30, .unOp .not 4 (.tmp 29), 4, "net.go:92", #[⟨10, .data⟩, ⟨6, .guard⟩], some (6, true)⟩ (v := ?_) rfl ?_ ?_
 rotate_left 1
 focus (intro w h; (try dsimp only at h); go_simp; try with_reducible rfl)
 try simp only [Act.put, ppA, ppB, ppC]
 refine tk 12 ⟨some 31, .move (.tmp 30), 4, "net.go:92", #[⟨11, .data⟩, ⟨6, .chain⟩, ⟨6, .guard⟩], some (6, true)⟩ (v := ?_) rfl ?_ ?_
 rotate_left 1
 focus (intro w h; (try dsimp only at h); go_simp; try with_reducible rfl)
 try simp only [Act.put, ppA, ppB, ppC]
 refine tko 13 ⟨some 32, .move (.tmp 0), 75, "net.go:92", #[⟨12, .guard⟩], some (12, false)⟩ rfl ?_
 try simp only [Act.put, ppA, ppB, ppC]
 refine tko 14 ⟨some 33, .nilCheck (.tmp 32), 0, "net.go:92", #[⟨13, .data⟩, ⟨12, .guard⟩], some (12, false)⟩ rfl ?_
 try simp only [Act.put, ppA, ppB, ppC]
 refine tko 15 ⟨some 34, .fieldAddr 119 (.tmp 33) 5, 0, "net.go:92", #[⟨14, .data⟩, ⟨12, .guard⟩], some (12, false)⟩ rfl ?_
 try simp only [Act.put, ppA, ppB, ppC]
 refine tko 16 ⟨some 35, .load 3 (.tmp 34), 3, "net.go:92", #[⟨15, .data⟩, ⟨12, .guard⟩], some (12, false)⟩ rfl ?_
 try simp only [Act.put, ppA, ppB, ppC]
 refine tko 17 ⟨some 36, .move (.tmp 0), 75, "net.go:92", #[⟨12, .guard⟩], some (12, false)⟩ rfl ?_
 try simp only [Act.put, ppA, ppB, ppC]
 refine tko 18 ⟨some 37, .nilCheck (.tmp 36), 0, "net.go:92", #[⟨17, .data⟩, ⟨12, .guard⟩], some (12, false)⟩ rfl ?_
 try simp only [Act.put, ppA, ppB, ppC]
 refine tko 19 ⟨some 38, .fieldAddr 119 (.tmp 37) 6, 0, "net.go:92", #[⟨18, .data⟩, ⟨12, .guard⟩], some (12, false)⟩ rfl ?_
 try simp only [Act.put, ppA, ppB, ppC]
 refine tko 20 ⟨some 39, .load 3 (.tmp 38), 3, "net.go:92", #[⟨19, .data⟩, ⟨12, .guard⟩], some (12, false)⟩ rfl ?_
 try simp only [Act.put, ppA, ppB, ppC]
 refine tko 21 ⟨some 40, .binOp .sub 3 (.tmp 35) (.tmp 39) 3, 3, "net.go:92", #[⟨16, .data⟩, ⟨20, .data⟩, ⟨12, .guard⟩], some (12, false)⟩ rfl ?_
 try simp only [Act.put, ppA, ppB, ppC]
 refine tko 22 ⟨some 41, .binOp .geq 3 (.tmp 40) (.const (.int .i64 4)) 3, 4, "net.go:92", #[⟨21, .data⟩, ⟨12, .guard⟩], some (12, false)⟩ rfl ?_
 try simp only [Act.put, ppA, ppB, ppC]
 refine tk 23 ⟨some 42, .pick (.tmp 31) (.const (.bool true)) (.tmp 41), 4, "net.go:92", #[⟨12, .data⟩, ⟨22, .data⟩, ⟨6, .guard⟩], some (6, true)⟩ (v := ?_) rfl ?_ ?_
 rotate_left 1
 focus (intro w h; (try dsimp only at h); go_simp; try with_reducible rfl)
 try simp only [Act.put, ppA, ppB, ppC]
 refine tk 24 ⟨some 43, .pick (.tmp 25) (.tmp 42) (.const (.bool false)), 4, "net.go:92", #[⟨6, .data⟩, ⟨23, .data⟩], none⟩ (v := ?_) rfl ?_ ?_
 rotate_left 1
 focus (intro w h; (try dsimp only at h); go_simp; try with_reducible rfl)
 try simp only [Act.put, ppA, ppB, ppC]
 refine wpAnyH_done (by kernel_rfl) ?_ _
 clear KS K0 H2 HO2 HK2
 have hrow := HZ.out.rowc
 rw [HXX.out] at hrow
 obtain ⟨g, o, c9, cur, hvv, hle9, hL9⟩ := ro_head hrow
 have hva : Value.slice ca cn cc = .slice (some ⟨g, o, none⟩) (L.length + 1) c9 := by rw [← HVC.out]; exact hvv
 cases hva
 obtain ⟨d0, d1, d2, d3, d4, d5, d6, d7, d8, d9, d10⟩ := ro_cells hL9 (i := 0) rfl
 simp only [Nat.zero_mul, Nat.add_zero] at d0 d1 d2 d3 d4 d5 d6 d7 d8 d9 d10
 have c11 := HZ.out.blk.cell (o := 11) rfl
 rw [hvv] at c11
 have hrow2 := hrow
 rw [hvv] at hrow2
 have tl := ro_tail hrow2
 have TL := Lib.hid tl
 simp only [Option.map_some, Go.WideShapes.add_plain] at TL
 have hl1 : (1 : Int) ≤ ((L.length + 1 : Nat) : Int) := by omega
 have hc1 : (1 : Int) ≤ (cc : Int) := by omega
 have hl2 : 1 ≤ L.length + 1 := by omega
 have hc2 : 1 ≤ cc := by omega
 have hv9 := HVC.out
 have HROW := Lib.hid hrow
 have hlr : L.length + 1 - 1 = L.length := by omega
 clear hrow hrow2 tl hvv hL9 c11
 obtain ⟨ln, hln⟩ : ∃ ln, L.length + 1 = ln := ⟨_, rfl⟩
 have HLN := Lib.hid hln
 rw [hln] at hl1 hl2 hmode hcl hcc1 hlr hlen
 simp only [hln]
 have HSUB : Hid (∀ y, y ∈ L → y ∈ cr ∨ Rok w0 y) := Lib.hid fun y hy => Or.inl (by rw [HXX.out]; exact List.mem_cons_of_mem _ hy)
 have TL1 : Hid (∀ w', Kept (fun _ => False) z0 w' → Ro.Row rT w' (.slice (if cc = 1 then some ⟨g, o, none⟩ else some ⟨g, o + 11, none⟩) (ln - 1) (cc - 1)) L) := Lib.hid fun w' k => by have := TL.out.1.old k; rw [← hlr] at this; exact this
 have TL2 : Hid (∀ g', (Value.slice (if cc = 1 then some ⟨g, o, none⟩ else some ⟨g, o + 11, none⟩) (ln - 1) (cc - 1)).ownBlock = some g' → vc.ownBlock = some g') := Lib.hid fun g' hg => by rw [hv9]; exact TL.out.2 g' (by rw [← hlr]; exact hg)
 have ROUT : Hid (¬ frp m vs (.slice (if cc = 1 then some ⟨g, o, none⟩ else some ⟨g, o + 11, none⟩) (ln - 1) (cc - 1)) rb) := by
  refine Lib.hid fun f => ?_
  have hh : frp m vs vc rb := by
   rcases f with e | ⟨k, hk, e⟩ | e
   ·exact Or.inl e
   ·exact Or.inr (Or.inl ⟨k, hk, e⟩)
   ·exact Or.inr (Or.inr (TL2.out _ e))
  have := H.out.bound hh
  have := HRB.out
  omega
 have RNW : Hid (∀ i, frp m vs (.slice (if cc = 1 then some ⟨g, o, none⟩ else some ⟨g, o + 11, none⟩) (ln - 1) (cc - 1)) i → frp m vs vc i ∨ w.heap.size ≤ i) := Lib.hid fun i f => Or.inl (by
  rcases f with e | ⟨k, hk, e⟩ | e
  ·exact Or.inl e
  ·exact Or.inr (Or.inl ⟨k, hk, e⟩)
  ·exact Or.inr (Or.inr (TL2.out _ e)))
 clear hln hlr hv9 hle9
 obtain ⟨⟨x1, x2, x3, x4, x5, x6, x7, x8, x9, xd⟩, xa, xc, xq⟩ := x
 go_upto_region 4 with fail
 have hI := Blk.new z0 [.int .i64 x1, .int .i64 x2, .int .i64 x3, .int .i64 x4, .int .u64 (x5 : Int), .int .i64 x6, .int .i64 x7, .int .i64 x8, .int .i64 x9, .slice xa xd.length xc, .int .i64 xq] tI
 have hk3 := (Kept.refl (fun _ => False) z0).alloc (.cells [.int .i64 x1, .int .i64 x2, .int .i64 x3, .int .i64 x4, .int .u64 (x5 : Int), .int .i64 x6, .int .i64 x7, .int .i64 x8, .int .i64 x9, .slice xa xd.length xc, .int .i64 xq].toArray tI)
 dsimp only [List.toArray] at hI hk3
 have HZ3 := Lib.hid (HZ.out.old hk3)
 have HO3 := Lib.hid (hk3.blk HOZ.out (fun f => f))
 have HK3 := Lib.hid (HKZ.out.trans (hk3.mono (fun _ _ f => f.elim)))
 have TR3 := Lib.hid (TL1.out _ hk3)
 have hob : rb < z0.heap.size := HOZ.out.lt
 have HI := Lib.hid hI
 clear hk3 hI d0 d1 d2 d3 d4 d5 d6 d7 d8 d9 d10
 generalize z0.alloc (.cells #[.int .i64 x1, .int .i64 x2, .int .i64 x3, .int .i64 x4, .int .u64 (x5 : Int), .int .i64 x6, .int .i64 x7, .int .i64 x8, .int .i64 x9, .slice xa xd.length xc, .int .i64 xq] 88) = w3 at *
 have him : z0.heap.size ≠ m := by omega
 generalize z0.heap.size = ib at *
 have c11 : w3.cell? ⟨m, 11, none⟩ = some (.slice (some ⟨g, o, none⟩) ln cc) := by have := HZ3.out.blk.cell (o := 11) rfl; rw [HVC.out] at this; rw [← HLN.out]; exact this
 have f11 := HZ3.out.blk.frozen 11
 have HZ4 := Lib.hid (HZ3.out.recred TR3.out HSUB.out)
 have k4 := Kept.one w3 m 11 (.slice (if cc = 1 then some ⟨g, o, none⟩ else some ⟨g, o + 11, none⟩) (ln - 1) (cc - 1))
 have HO4 := Lib.hid (k4.blk HO3.out (by omega))
 have HI4 := Lib.hid (k4.blk HI.out him)
 have HK4 := Lib.hid (HK3.out.trans k4)
 go_upto_region 5 with fail
 generalize w3.setCell ⟨m, 11, none⟩ (.slice (if cc = 1 then some ⟨g, o, none⟩ else some ⟨g, o + 11, none⟩) (ln - 1) (cc - 1)) = w4 at *
 generalize Value.slice (if cc = 1 then some ⟨g, o, none⟩ else some ⟨g, o + 11, none⟩) (ln - 1) (cc - 1) = sv at *
 clear c11 f11 k4 HZ3 HO3 HI HK3 TR3
 have c12 := HZ4.out.blk.cell (o := 12) rfl
 have f13 := HZ4.out.blk.frozen 13
 have c13 := HZ4.out.blk.cell (o := 13) rfl
 have HZ5 := Lib.hid (HZ4.out.setL mm)
 have k5 := Kept.one w4 m 13 (.int .i64 mm)
 have HO5 := Lib.hid (k5.blk HO4.out (by omega))
 have HI5 := Lib.hid (k5.blk HI4.out him)
 have HK5 := Lib.hid (HK4.out.trans k5)
 go_upto_region 6 with fail
 generalize w4.setCell ⟨m, 13, none⟩ (.int .i64 mm) = w5 at *
 clear c12 f13 c13 k5 HZ4 HO4 HI4 HK4
 have c14 := HZ5.out.blk.cell (o := 14) rfl
 have f14 := HZ5.out.blk.frozen 14
 have HZ6 := Lib.hid HZ5.out.setE
 have k6 := Kept.one w5 m 14 (.bool true)
 have hO6 := k6.blk HO5.out (by omega)
 have hI6 := k6.blk HI5.out him
 have HK6 := Lib.hid (HK5.out.trans k6)
 go_upto_region 7 with fail
 generalize w5.setCell ⟨m, 14, none⟩ (.bool true) = w6 at *
 clear c14 f14 k6 HZ5 HO5 HI5 HK5
 obtain ⟨i0, i1, i2, i3, i4, i5, i6, i7, i8, i9, i10⟩ := cs11 hI6
 obtain ⟨n0, n1, n2, n3, n4, n5, n6, n7, n8, n9, n10⟩ := cs11 hO6
 obtain ⟨fz0, fz1, fz2, fz3, fz4, fz5, fz6, fz7, fz8, fz9, fz10⟩ := fz11 hO6
 have hO7 := set11_blk hO6 rfl ⟨⟨x1, x2, x3, x4, x5, x6, x7, x8, x9, xd⟩, xa, xc, xq⟩
 have k7 := set11_kept w6 rb ⟨⟨x1, x2, x3, x4, x5, x6, x7, x8, x9, xd⟩, xa, xc, xq⟩
 have hZ7 := HZ6.out.kept k7 (fun i e f => by subst e; exact ROUT.out f) (fun i e => by have := H.out.since.size; have := HRB.out; omega)
 have HK7 : Hid (Kept (fun i => i = m) w (set11 w6 rb ⟨⟨x1, x2, x3, x4, x5, x6, x7, x8, x9, xd⟩, xa, xc, xq⟩)) := Lib.hid (HK6.out.trans' k7 (fun i hi e => by have := HRB.out; omega))
 have RES : Hid (∃ R', RS w0 m room most trim (ls) (L) mm mm true R' (set11 w6 rb ⟨⟨x1, x2, x3, x4, x5, x6, x7, x8, x9, xd⟩, xa, xc, xq⟩) ∧ RN m (frp m vs vc) w R' (set11 w6 rb ⟨⟨x1, x2, x3, x4, x5, x6, x7, x8, x9, xd⟩, xa, xc, xq⟩)) := Lib.hid ⟨_, ⟨_, _, hZ7, rfl⟩, HK7.out, RNW.out⟩
 unfold set11 at RES hO7
 dsimp only at RES hO7
 obtain ⟨z0, z1, z2, z3, z4, z5, z6, z7, z8, z9, z10⟩ := cs11 hO7
 clear hI6 hO6 hO7 k7 hZ7 HK7
 go_wp2_with fail
 exact bodyPost_ret (v := .tuple #[bv ⟨⟨x1, x2, x3, x4, x5, x6, x7, x8, x9, xd⟩, xa, xc, xq⟩, .bool true]) (by simp [results, Tryz.results42, go_sem, z0, z1, z2, z3, z4, z5, z6, z7, z8, z9, z10]) rfl ⟨rfl, RES.out⟩
set_option maxRecDepth 100000 in
set_option maxHeartbeats 8000000 in
theorem rtake_cr_yes (h : Rf w0 m room most trim ls cr now last true vs vc w) {t mm : Int} (hmm : clampI t now 1125899906842624 = mm) (hn0 : 0 ≤ now ∧ 0 ≤ last ∧ last ≤ now) (hn1 : now ≤ 1125899906842624) (hcl : cr.length ≤ 1000) (hmode : 0 < cr.length) (hge : 4 ≤ mm - last) {x : Bx} {L : List Bx} (hx : cr = x :: L) :
  Calls Tryz.prog 42 #[.pointer (some ⟨m, 0, none⟩), .int .i64 t] w fun e w' => e = .returned (.tuple #[bv x, .bool true]) ∧ ∃ R', RS w0 m room most trim ls L mm mm true R' w' ∧ RN m (frp m vs vc) w R' w' := by
 have hmn : ∀ (ts : Array TypeId) (ty : TypeId) (w : World), (Builtin.min_ ts ty #[.int .i64 t, .int .i64 1125899906842624]).run Tryz.prog w = .ok (.int .i64 (if 1125899906842624 < t then 1125899906842624 else t)) w := fun ts ty w => run_min_int2 ..
 obtain ⟨q, hq⟩ : ∃ q : Int, (if 1125899906842624 < t then 1125899906842624 else t) = q := ⟨_, rfl⟩
 have hmx : ∀ (ts : Array TypeId) (ty : TypeId) (w : World), (Builtin.max_ ts ty #[.int .i64 now, .int .i64 q]).run Tryz.prog w = .ok (.int .i64 mm) w := by
  intro ts ty w
  rw [run_max_int2]
  congr 2
  rw [← hmm, ← hq]
  unfold clampI
  split <;> split <;> (try split) <;> omega
 rw [hq] at hmn
 have hl0 := hn0.2.1
 have hlb : last ≤ 1125899906842624 := by omega
 have hl0' := hn0.2.1
 have hmb : 0 ≤ mm ∧ mm ≤ 1125899906842624 := by
  have := clampI_bd t (low := now) (high := 1125899906842624) hn1
  rw [hmm] at this
  omega
 clear hq hmm hn0 hn1
 obtain ⟨ca, cc, hvc, hcc1, hcc2⟩ := h.rowc.slice
 have HVC := Lib.hid hvc
 have H := Lib.hid h
 have HXX := Lib.hid hx
 have hml := h.blk.lt
 clear h hvc hcc2 hx
 obtain ⟨cn, hcn⟩ : ∃ cn, cr.length = cn := ⟨_, rfl⟩
 have HCN := Lib.hid hcn
 rw [hcn] at HVC hcc1 hcl hmode
 clear hcn
 have hlen : (0 : Int) < (cn : Int) := by omega
 have hwl : IntKind.i64.wrap (mm - last) = mm - last := by rw [IntKind.wrap_i64]; omega
 have hgd : decide (4 ≤ mm - last) = true := decide_eq_true hge
 clear hge
 go_enter Tryz.func42, Tryz.ntmps42
 go_upto_region 1 with fail
 have hO := Blk.new w [.int .i64 0, .int .i64 0, .int .i64 0, .int .i64 0, .int .u64 0, .int .i64 0, .int .i64 0, .int .i64 0, .int .i64 0, .slice none 0 0, .int .i64 0] tI
 have hk1 := (Kept.refl (fun _ => False) w).alloc (.cells [.int .i64 0, .int .i64 0, .int .i64 0, .int .i64 0, .int .u64 0, .int .i64 0, .int .i64 0, .int .i64 0, .int .i64 0, .slice none 0 0, .int .i64 0].toArray tI)
 dsimp only [List.toArray] at hO hk1
 generalize w.alloc (.cells #[.int .i64 0, .int .i64 0, .int .i64 0, .int .i64 0, .int .u64 0, .int .i64 0, .int .i64 0, .int .i64 0, .int .i64 0, .slice none 0 0, .int .i64 0] 88) = w1 at *
 obtain ⟨rb, hrb⟩ : ∃ rb, w.heap.size = rb := ⟨_, rfl⟩
 rw [hrb] at hO hml
 simp only [hrb]
 have HRB := Lib.hid hrb
 have H1 := Lib.hid (H.out.old hk1)
 have HK1 := Lib.hid hk1
 have HO1 := Lib.hid hO
 clear hrb hk1 hO
 have d12 := H1.out.blk.cell (o := 12) rfl
 have f12 := H1.out.blk.frozen 12
 go_upto_region 2 with fail
 have H2 := Lib.hid (H1.out.setN mm)
 have k2 := Kept.one w1 m 12 (.int .i64 mm)
 have HO2 := Lib.hid (k2.blk HO1.out (by omega))
 have HK2 : Hid (Kept (fun i => i = m) w (w1.setCell ⟨m, 12, none⟩ (.int .i64 mm))) := Lib.hid ((HK1.out.mono (fun _ _ f => f.elim)).trans k2)
 generalize w1.setCell ⟨m, 12, none⟩ (.int .i64 mm) = w2 at *
 clear d12 f12 k2 H1 HO1 HK1 hmn hmx
 have hBz := H2.out.blk
 have KS : Hid (∀ w', Kept (fun _ => False) w2 w' → w'.cell? ⟨m, 11, none⟩ = some (.slice ca cn cc) ∧ w'.cell? ⟨m, 12, none⟩ = some (.int .i64 mm) ∧ w'.cell? ⟨m, 13, none⟩ = some (.int .i64 last) ∧ w'.cell? ⟨m, 14, none⟩ = some (.bool true)) := by
  refine Lib.hid fun w' k => ?_
  have h1 := k.blk H2.out.blk (fun f => f)
  exact ⟨by rw [← HVC.out]; exact h1.cell rfl, h1.cell rfl, h1.cell rfl, h1.cell rfl⟩
 have K0 : Hid (Kept (fun _ => False) w2 w2.drew) := Lib.hid (Kept.refl _ w2).drew
 have HZ := Lib.hid (H2.out.old K0.out)
 have HOZ := Lib.hid (K0.out.blk HO2.out (fun f => f))
 have HKZ := Lib.hid (HK2.out.drew)
 clear hBz
 refine wp_region_held_drew (S := (fun w' => w'.cell? ⟨m, 11, none⟩ = some (.slice ca cn cc) ∧ w'.cell? ⟨m, 12, none⟩ = some (.int .i64 mm) ∧ w'.cell? ⟨m, 13, none⟩ = some (.int .i64 last) ∧ w'.cell? ⟨m, 14, none⟩ = some (.bool true))) (by kernel_rfl) (KS.out _ K0.out) (fun hHeld => ?_)
 generalize w2.drew = z0 at *
 refine tk 0 ⟨some 19, .move (.tmp 0), 75, "net.go:92", #[], none⟩ (v := ?_) rfl ?_ ?_
 rotate_left 1
 focus (intro w h; (try dsimp only at h); go_simp; try with_reducible rfl)
 try simp only [Act.put, ppA, ppB, ppC]
 refine tk 1 ⟨some 20, .nilCheck (.tmp 19), 0, "net.go:92", #[⟨0, .data⟩], none⟩ (v := ?_) rfl ?_ ?_
 rotate_left 1
 focus (intro w h; (try dsimp only at h); go_simp; try with_reducible rfl)
 try simp only [Act.put, ppA, ppB, ppC]
 refine tk 2 ⟨some 21, .fieldAddr 119 (.tmp 20) 4, 0, "net.go:92", #[⟨1, .data⟩], none⟩ (v := ?_) rfl ?_ ?_
 rotate_left 1
 focus (intro w h; (try dsimp only at h); go_simp; try with_reducible rfl)
 try simp only [Act.put, ppA, ppB, ppC]
 refine tk 3 ⟨some 22, .load 103 (.tmp 21), 103, "net.go:92", #[⟨2, .data⟩], none⟩ (v := ?_) rfl ?_ ?_
 rotate_left 1
 focus (intro w h; (try dsimp only at h); go_simp; try with_reducible rfl)
 try simp only [Act.put, ppA, ppB, ppC]
 refine tk 4 ⟨some 23, .call ⟨.builtin .len, #[.tmp 22], #[103]⟩, 3, "net.go:92", #[⟨3, .data⟩], none⟩ (v := ?_) rfl ?_ ?_
 rotate_left 1
 focus (intro w h; (try dsimp only at h); go_simp; try with_reducible rfl)
 try simp only [Act.put, ppA, ppB, ppC]
 refine tk 5 ⟨some 24, .binOp .gtr 3 (.tmp 23) (.const (.int .i64 0)) 3, 4, "net.go:92", #[⟨4, .data⟩], none⟩ (v := ?_) rfl ?_ ?_
 rotate_left 1
 focus (intro w h; (try dsimp only at h); go_simp; try with_reducible rfl)
 try simp only [Act.put, ppA, ppB, ppC]
 refine tk 6 ⟨some 25, .move (.tmp 24), 4, "net.go:92", #[⟨5, .data⟩], none⟩ (v := ?_) rfl ?_ ?_
 rotate_left 1
 focus (intro w h; (try dsimp only at h); go_simp; try with_reducible rfl)
 try simp only [Act.put, ppA, ppB, ppC]
 refine tk 7 ⟨some 26, .move (.tmp 0), 75, "net.go:92", #[⟨6, .guard⟩], some (6, true)⟩ (v := ?_) rfl ?_ ?_
 rotate_left 1
 focus (intro w h; (try dsimp only at h); go_simp; try with_reducible rfl)
 try simp only [Act.put, ppA, ppB, ppC]
 refine tk 8 ⟨some 27, .nilCheck (.tmp 26), 0, "net.go:92", #[⟨7, .data⟩, ⟨6, .guard⟩], some (6, true)⟩ (v := ?_) rfl ?_ ?_
 rotate_left 1
 focus (intro w h; (try dsimp only at h); go_simp; try with_reducible rfl)
 try simp only [Act.put, ppA, ppB, ppC]
 refine tk 9 ⟨some 28, .fieldAddr 119 (.tmp 27) 7, 0, "net.go:92", #[⟨8, .data⟩, ⟨6, .guard⟩], some (6, true)⟩ (v := ?_) rfl ?_ ?_
 rotate_left 1
 focus (intro w h; (try dsimp only at h); go_simp; try with_reducible rfl)
 try simp only [Act.put, ppA, ppB, ppC]
 refine tk 10 ⟨some 29, .load 4 (.tmp 28), 4, "net.go:92", #[⟨9, .data⟩, ⟨6, .guard⟩], some (6, true)⟩ (v := ?_) rfl ?_ ?_
 rotate_left 1
 focus (intro w h; (try dsimp only at h); go_simp; try with_reducible rfl)
 try simp only [Act.put, ppA, ppB, ppC]
 refine tk 11 ⟨some 30, .unOp .not 4 (.tmp 29), 4, "net.go:92", #[⟨10, .data⟩, ⟨6, .guard⟩], some (6, true)⟩ (v := ?_) rfl ?_ ?_
 rotate_left 1
 focus (intro w h; (try dsimp only at h); go_simp; try with_reducible rfl)
 try simp only [Act.put, ppA, ppB, ppC]
 refine tk 12 ⟨some 31, .move (.tmp 30), 4, "net.go:92", #[⟨11, .data⟩, ⟨6, .chain⟩, ⟨6, .guard⟩], some (6, true)⟩ (v := ?_) rfl ?_ ?_
 rotate_left 1
 focus (intro w h; (try dsimp only at h); go_simp; try with_reducible rfl)
 try simp only [Act.put, ppA, ppB, ppC]
 refine tk 13 ⟨some 32, .move (.tmp 0), 75, "net.go:92", #[⟨12, .guard⟩], some (12, false)⟩ (v := ?_) rfl ?_ ?_
 rotate_left 1
 focus (intro w h; (try dsimp only at h); go_simp; try with_reducible rfl)
 try simp only [Act.put, ppA, ppB, ppC]
 refine tk 14 ⟨some 33, .nilCheck (.tmp 32), 0, "net.go:92", #[⟨13, .data⟩, ⟨12, .guard⟩], some (12, false)⟩ (v := ?_) rfl ?_ ?_
 rotate_left 1
 focus (intro w h; (try dsimp only at h); go_simp; try with_reducible rfl)
 try simp only [Act.put, ppA, ppB, ppC]
 refine tk 15 ⟨some 34, .fieldAddr 119 (.tmp 33) 5, 0, "net.go:92", #[⟨14, .data⟩, ⟨12, .guard⟩], some (12, false)⟩ (v := ?_) rfl ?_ ?_
 rotate_left 1
 focus (intro w h; (try dsimp only at h); go_simp; try with_reducible rfl)
 try simp only [Act.put, ppA, ppB, ppC]
 refine tk 16 ⟨some 35, .load 3 (.tmp 34), 3, "net.go:92", #[⟨15, .data⟩, ⟨12, .guard⟩], some (12, false)⟩ (v := ?_) rfl ?_ ?_
 rotate_left 1
 focus (intro w h; (try dsimp only at h); go_simp; try with_reducible rfl)
 try simp only [Act.put, ppA, ppB, ppC]
 refine tk 17 ⟨some 36, .move (.tmp 0), 75, "net.go:92", #[⟨12, .guard⟩], some (12, false)⟩ (v := ?_) rfl ?_ ?_
 rotate_left 1
 focus (intro w h; (try dsimp only at h); go_simp; try with_reducible rfl)
 try simp only [Act.put, ppA, ppB, ppC]
 refine tk 18 ⟨some 37, .nilCheck (.tmp 36), 0, "net.go:92", #[⟨17, .data⟩, ⟨12, .guard⟩], some (12, false)⟩ (v := ?_) rfl ?_ ?_
 rotate_left 1
 focus (intro w h; (try dsimp only at h); go_simp; try with_reducible rfl)
 try simp only [Act.put, ppA, ppB, ppC]
 refine tk 19 ⟨some 38, .fieldAddr 119 (.tmp 37) 6, 0, "net.go:92", #[⟨18, .data⟩, ⟨12, .guard⟩], some (12, false)⟩ (v := ?_) rfl ?_ ?_
 rotate_left 1
 focus (intro w h; (try dsimp only at h); go_simp; try with_reducible rfl)
 try simp only [Act.put, ppA, ppB, ppC]
 refine tk 20 ⟨some 39, .load 3 (.tmp 38), 3, "net.go:92", #[⟨19, .data⟩, ⟨12, .guard⟩], some (12, false)⟩ (v := ?_) rfl ?_ ?_
 rotate_left 1
 focus (intro w h; (try dsimp only at h); go_simp; try with_reducible rfl)
 try simp only [Act.put, ppA, ppB, ppC]
 refine tk 21 ⟨some 40, .binOp .sub 3 (.tmp 35) (.tmp 39) 3, 3, "net.go:92", #[⟨16, .data⟩, ⟨20, .data⟩, ⟨12, .guard⟩], some (12, false)⟩ (v := ?_) rfl ?_ ?_
 rotate_left 1
 focus (intro w h; (try dsimp only at h); go_simp; try with_reducible rfl)
 try simp only [Act.put, ppA, ppB, ppC]
 refine tk 22 ⟨some 41, .binOp .geq 3 (.tmp 40) (.const (.int .i64 4)) 3, 4, "net.go:92", #[⟨21, .data⟩, ⟨12, .guard⟩], some (12, false)⟩ (v := ?_) rfl ?_ ?_
 rotate_left 1
 focus (intro w h; (try dsimp only at h); go_simp; try with_reducible rfl)
 try simp only [Act.put, ppA, ppB, ppC]
 refine tk 23 ⟨some 42, .pick (.tmp 31) (.const (.bool true)) (.tmp 41), 4, "net.go:92", #[⟨12, .data⟩, ⟨22, .data⟩, ⟨6, .guard⟩], some (6, true)⟩ (v := ?_) rfl ?_ ?_
 rotate_left 1
 focus (intro w h; (try dsimp only at h); go_simp; try with_reducible rfl)
 try simp only [Act.put, ppA, ppB, ppC]
 refine tk 24 ⟨some 43, .pick (.tmp 25) (.tmp 42) (.const (.bool false)), 4, "net.go:92", #[⟨6, .data⟩, ⟨23, .data⟩], none⟩ (v := ?_) rfl ?_ ?_
 rotate_left 1
 focus (intro w h; (try dsimp only at h); go_simp; try with_reducible rfl)
 try simp only [Act.put, ppA, ppB, ppC]
 refine wpAnyH_done (by kernel_rfl) ?_ _
 clear KS K0 H2 HO2 HK2
 have hrow := HZ.out.rowc
 rw [HXX.out] at hrow
 obtain ⟨g, o, c9, cur, hvv, hle9, hL9⟩ := ro_head hrow
 have hva : Value.slice ca cn cc = .slice (some ⟨g, o, none⟩) (L.length + 1) c9 := by rw [← HVC.out]; exact hvv
 cases hva
 obtain ⟨d0, d1, d2, d3, d4, d5, d6, d7, d8, d9, d10⟩ := ro_cells hL9 (i := 0) rfl
 simp only [Nat.zero_mul, Nat.add_zero] at d0 d1 d2 d3 d4 d5 d6 d7 d8 d9 d10
 have c11 := HZ.out.blk.cell (o := 11) rfl
 rw [hvv] at c11
 have hrow2 := hrow
 rw [hvv] at hrow2
 have tl := ro_tail hrow2
 have TL := Lib.hid tl
 simp only [Option.map_some, Go.WideShapes.add_plain] at TL
 have hl1 : (1 : Int) ≤ ((L.length + 1 : Nat) : Int) := by omega
 have hc1 : (1 : Int) ≤ (cc : Int) := by omega
 have hl2 : 1 ≤ L.length + 1 := by omega
 have hc2 : 1 ≤ cc := by omega
 have hv9 := HVC.out
 have HROW := Lib.hid hrow
 have hlr : L.length + 1 - 1 = L.length := by omega
 clear hrow hrow2 tl hvv hL9 c11
 obtain ⟨ln, hln⟩ : ∃ ln, L.length + 1 = ln := ⟨_, rfl⟩
 have HLN := Lib.hid hln
 rw [hln] at hl1 hl2 hmode hcl hcc1 hlr hlen
 simp only [hln]
 have HSUB : Hid (∀ y, y ∈ L → y ∈ cr ∨ Rok w0 y) := Lib.hid fun y hy => Or.inl (by rw [HXX.out]; exact List.mem_cons_of_mem _ hy)
 have TL1 : Hid (∀ w', Kept (fun _ => False) z0 w' → Ro.Row rT w' (.slice (if cc = 1 then some ⟨g, o, none⟩ else some ⟨g, o + 11, none⟩) (ln - 1) (cc - 1)) L) := Lib.hid fun w' k => by have := TL.out.1.old k; rw [← hlr] at this; exact this
 have TL2 : Hid (∀ g', (Value.slice (if cc = 1 then some ⟨g, o, none⟩ else some ⟨g, o + 11, none⟩) (ln - 1) (cc - 1)).ownBlock = some g' → vc.ownBlock = some g') := Lib.hid fun g' hg => by rw [hv9]; exact TL.out.2 g' (by rw [← hlr]; exact hg)
 have ROUT : Hid (¬ frp m vs (.slice (if cc = 1 then some ⟨g, o, none⟩ else some ⟨g, o + 11, none⟩) (ln - 1) (cc - 1)) rb) := by
  refine Lib.hid fun f => ?_
  have hh : frp m vs vc rb := by
   rcases f with e | ⟨k, hk, e⟩ | e
   ·exact Or.inl e
   ·exact Or.inr (Or.inl ⟨k, hk, e⟩)
   ·exact Or.inr (Or.inr (TL2.out _ e))
  have := H.out.bound hh
  have := HRB.out
  omega
 have RNW : Hid (∀ i, frp m vs (.slice (if cc = 1 then some ⟨g, o, none⟩ else some ⟨g, o + 11, none⟩) (ln - 1) (cc - 1)) i → frp m vs vc i ∨ w.heap.size ≤ i) := Lib.hid fun i f => Or.inl (by
  rcases f with e | ⟨k, hk, e⟩ | e
  ·exact Or.inl e
  ·exact Or.inr (Or.inl ⟨k, hk, e⟩)
  ·exact Or.inr (Or.inr (TL2.out _ e)))
 clear hln hlr hv9 hle9
 obtain ⟨⟨x1, x2, x3, x4, x5, x6, x7, x8, x9, xd⟩, xa, xc, xq⟩ := x
 go_upto_region 4 with fail
 have hI := Blk.new z0 [.int .i64 x1, .int .i64 x2, .int .i64 x3, .int .i64 x4, .int .u64 (x5 : Int), .int .i64 x6, .int .i64 x7, .int .i64 x8, .int .i64 x9, .slice xa xd.length xc, .int .i64 xq] tI
 have hk3 := (Kept.refl (fun _ => False) z0).alloc (.cells [.int .i64 x1, .int .i64 x2, .int .i64 x3, .int .i64 x4, .int .u64 (x5 : Int), .int .i64 x6, .int .i64 x7, .int .i64 x8, .int .i64 x9, .slice xa xd.length xc, .int .i64 xq].toArray tI)
 dsimp only [List.toArray] at hI hk3
 have HZ3 := Lib.hid (HZ.out.old hk3)
 have HO3 := Lib.hid (hk3.blk HOZ.out (fun f => f))
 have HK3 := Lib.hid (HKZ.out.trans (hk3.mono (fun _ _ f => f.elim)))
 have TR3 := Lib.hid (TL1.out _ hk3)
 have hob : rb < z0.heap.size := HOZ.out.lt
 have HI := Lib.hid hI
 clear hk3 hI d0 d1 d2 d3 d4 d5 d6 d7 d8 d9 d10
 generalize z0.alloc (.cells #[.int .i64 x1, .int .i64 x2, .int .i64 x3, .int .i64 x4, .int .u64 (x5 : Int), .int .i64 x6, .int .i64 x7, .int .i64 x8, .int .i64 x9, .slice xa xd.length xc, .int .i64 xq] 88) = w3 at *
 have him : z0.heap.size ≠ m := by omega
 generalize z0.heap.size = ib at *
 have c11 : w3.cell? ⟨m, 11, none⟩ = some (.slice (some ⟨g, o, none⟩) ln cc) := by have := HZ3.out.blk.cell (o := 11) rfl; rw [HVC.out] at this; rw [← HLN.out]; exact this
 have f11 := HZ3.out.blk.frozen 11
 have HZ4 := Lib.hid (HZ3.out.recred TR3.out HSUB.out)
 have k4 := Kept.one w3 m 11 (.slice (if cc = 1 then some ⟨g, o, none⟩ else some ⟨g, o + 11, none⟩) (ln - 1) (cc - 1))
 have HO4 := Lib.hid (k4.blk HO3.out (by omega))
 have HI4 := Lib.hid (k4.blk HI.out him)
 have HK4 := Lib.hid (HK3.out.trans k4)
 go_upto_region 5 with fail
 generalize w3.setCell ⟨m, 11, none⟩ (.slice (if cc = 1 then some ⟨g, o, none⟩ else some ⟨g, o + 11, none⟩) (ln - 1) (cc - 1)) = w4 at *
 generalize Value.slice (if cc = 1 then some ⟨g, o, none⟩ else some ⟨g, o + 11, none⟩) (ln - 1) (cc - 1) = sv at *
 clear c11 f11 k4 HZ3 HO3 HI HK3 TR3
 have c12 := HZ4.out.blk.cell (o := 12) rfl
 have f13 := HZ4.out.blk.frozen 13
 have c13 := HZ4.out.blk.cell (o := 13) rfl
 have HZ5 := Lib.hid (HZ4.out.setL mm)
 have k5 := Kept.one w4 m 13 (.int .i64 mm)
 have HO5 := Lib.hid (k5.blk HO4.out (by omega))
 have HI5 := Lib.hid (k5.blk HI4.out him)
 have HK5 := Lib.hid (HK4.out.trans k5)
 go_upto_region 6 with fail
 generalize w4.setCell ⟨m, 13, none⟩ (.int .i64 mm) = w5 at *
 clear c12 f13 c13 k5 HZ4 HO4 HI4 HK4
 have c14 := HZ5.out.blk.cell (o := 14) rfl
 have f14 := HZ5.out.blk.frozen 14
 have HZ6 := Lib.hid HZ5.out.setE
 have k6 := Kept.one w5 m 14 (.bool true)
 have hO6 := k6.blk HO5.out (by omega)
 have hI6 := k6.blk HI5.out him
 have HK6 := Lib.hid (HK5.out.trans k6)
 go_upto_region 7 with fail
 generalize w5.setCell ⟨m, 14, none⟩ (.bool true) = w6 at *
 clear c14 f14 k6 HZ5 HO5 HI5 HK5
 obtain ⟨i0, i1, i2, i3, i4, i5, i6, i7, i8, i9, i10⟩ := cs11 hI6
 obtain ⟨n0, n1, n2, n3, n4, n5, n6, n7, n8, n9, n10⟩ := cs11 hO6
 obtain ⟨fz0, fz1, fz2, fz3, fz4, fz5, fz6, fz7, fz8, fz9, fz10⟩ := fz11 hO6
 have hO7 := set11_blk hO6 rfl ⟨⟨x1, x2, x3, x4, x5, x6, x7, x8, x9, xd⟩, xa, xc, xq⟩
 have k7 := set11_kept w6 rb ⟨⟨x1, x2, x3, x4, x5, x6, x7, x8, x9, xd⟩, xa, xc, xq⟩
 have hZ7 := HZ6.out.kept k7 (fun i e f => by subst e; exact ROUT.out f) (fun i e => by have := H.out.since.size; have := HRB.out; omega)
 have HK7 : Hid (Kept (fun i => i = m) w (set11 w6 rb ⟨⟨x1, x2, x3, x4, x5, x6, x7, x8, x9, xd⟩, xa, xc, xq⟩)) := Lib.hid (HK6.out.trans' k7 (fun i hi e => by have := HRB.out; omega))
 have RES : Hid (∃ R', RS w0 m room most trim (ls) (L) mm mm true R' (set11 w6 rb ⟨⟨x1, x2, x3, x4, x5, x6, x7, x8, x9, xd⟩, xa, xc, xq⟩) ∧ RN m (frp m vs vc) w R' (set11 w6 rb ⟨⟨x1, x2, x3, x4, x5, x6, x7, x8, x9, xd⟩, xa, xc, xq⟩)) := Lib.hid ⟨_, ⟨_, _, hZ7, rfl⟩, HK7.out, RNW.out⟩
 unfold set11 at RES hO7
 dsimp only at RES hO7
 obtain ⟨z0, z1, z2, z3, z4, z5, z6, z7, z8, z9, z10⟩ := cs11 hO7
 clear hI6 hO6 hO7 k7 hZ7 HK7
 go_wp2_with fail
 exact bodyPost_ret (v := .tuple #[bv ⟨⟨x1, x2, x3, x4, x5, x6, x7, x8, x9, xd⟩, xa, xc, xq⟩, .bool true]) (by simp [results, Tryz.results42, go_sem, z0, z1, z2, z3, z4, z5, z6, z7, z8, z9, z10]) rfl ⟨rfl, RES.out⟩
end Go.Proofs.YtpogpibjkolioaaGreat.Rf

