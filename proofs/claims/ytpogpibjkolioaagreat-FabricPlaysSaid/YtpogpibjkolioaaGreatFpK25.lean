/- The reference's port: a row without its k-th. Conditions: each theorem's own. -/
import Derived.Test.YtpogpibjkolioaaGreatFpK21
import Derived.Test.YtpogpibjkolioaaGreatFpK24
set_option linter.unusedVariables false
set_option linter.unusedSimpArgs false
namespace Go.Proofs.YtpogpibjkolioaaGreat.Rf
open Go.RowKit Hp QuM Rw Qu Po Go.Proofs.YtpogpibjkolioaaGreat.End Opn
attribute [local go_sem ↓] Go.wp_at_zero Go.wp_at_succ
noncomputable def wo1C : Code := ((Tryz.f79.body.bind (findRegion 1)).getD .skip)
set_option maxRecDepth 100000 in
set_option maxHeartbeats 8000000 in
theorem wo1 {w : World} {cc k : Nat} {a : Option Addr} {L : List Bx} (Q : Exit → Act → World → Prop) (u2 u3 u4 u5 u6 u7 u8 u9 u10 u11 u12 u13 u14 : Value)
  (h : Ro.Row rT w (.slice a L.length cc) L) (hk : k < L.length) (hl : L.length ≤ 1000) (hc : L.length ≤ cc)
  (hQ : ∀ (v5 v6 v7 v8 v9 v10 v11 v12 v13 v' : Value) (w' : World), Ro.Row rT w' v' (L.take k ++ L.drop (k + 1)) → Kept (fun i => w.heap.size ≤ i) w w' → (∀ g, v'.ownBlock = some g → w.heap.size ≤ g) → Q .normal ⟨#[.slice a L.length cc, .int .i64 (k : Nat), u2, u3, v', v5, v6, v7, v8, v9, v10, v11, v12, v13, v'], []⟩ w') :
  Code.wp Tryz.prog wo1C Q ⟨#[.slice a L.length cc, .int .i64 (k : Nat), u2, u3, u4, u5, u6, u7, u8, u9, u10, u11, u12, u13, u14], []⟩ w := by
 conv => arg 2; whnf
 have HL1 := Lib.hid hl
 have HL2 := Lib.hid hl
 have i1 : (0 : Int) ≤ (k : Int) := by omega
 have i2 : (k : Int) ≤ (cc : Int) := by omega
 have i3 : (k : Int) ≤ (L.length : Int) := by omega
 have i4 : (0 : Int) ≤ (k : Int) + 1 := by omega
 have i5 : (k : Int) + 1 ≤ (L.length : Int) := by omega
 have i6 : IntKind.i64.wrap ((k : Int) + 1) = (k : Int) + 1 := by rw [IntKind.wrap_i64]; omega
 have i7 : ((k : Int) + 1).toNat = k + 1 := by omega
 have n1 : k ≤ cc := by omega
 have n2 : k + 1 ≤ L.length := hk
 have FR : Hid (∀ w', Kept (fun i => w.heap.size ≤ i) w w' → Rw.Src rT w' (.slice a k cc) (L.take k)) := Lib.hid fun w' kk => front (past_row h kk) (by omega)
 have BK : Hid (∀ w', Kept (fun i => w.heap.size ≤ i) w w' → Rw.Src rT w' (.slice (if cc = k + 1 then a else a.map (fun x => x.add ((k + 1) * 11))) (L.length - (k + 1)) (cc - (k + 1))) (L.drop (k + 1))) := Lib.hid fun w' kk => rest_any (past_row h kk) (by omega)
 have KS : Hid (∀ w', Kept (fun i => w.heap.size ≤ i) w w' → ((fun _ : World => True) w')) := Lib.hid fun _ _ => trivial
 have K0 := Lib.hid ((Kept.refl (fun _ => False) w).mono (G := fun i => w.heap.size ≤ i) (fun _ _ f => f.elim)).drew
 try dsimp only [List.append]
 refine wp_region_noPanic ?_
 refine wp_region_held_drew (S := fun _ => True) (by kernel_rfl) (KS.out _ K0.out) (fun hHeld => ?_)
 generalize w.drew = z0 at *
 refine tk 1 ⟨some 6, .move (.tmp 0), 103, "net.go:119", #[], none⟩ (v := ?_) rfl ?_ ?_
 rotate_left 1
 focus (intro w h; (try dsimp only at h); go_simp; try with_reducible rfl)
 try simp only [Act.put, ppA, ppB, ppC]
 refine tk 2 ⟨some 7, .move (.tmp 1), 3, "net.go:119", #[], none⟩ (v := ?_) rfl ?_ ?_
 rotate_left 1
 focus (intro w h; (try dsimp only at h); go_simp; try with_reducible rfl)
 try simp only [Act.put, ppA, ppB, ppC]
 refine tk 3 ⟨some 8, .slice 103 (.tmp 6) none (some (.tmp 7)) none, 103, "net.go:119", #[⟨1, .data⟩, ⟨2, .data⟩], none⟩ (v := ?_) rfl ?_ ?_
 rotate_left 1
 focus (intro w h; (try dsimp only at h); go_simp; try with_reducible rfl)
 try simp only [Act.put, ppA, ppB, ppC]
 refine tk 5 ⟨some 10, .move (.tmp 0), 103, "net.go:119", #[], none⟩ (v := ?_) rfl ?_ ?_
 rotate_left 1
 focus (intro w h; (try dsimp only at h); go_simp; try with_reducible rfl)
 try simp only [Act.put, ppA, ppB, ppC]
 refine tk 6 ⟨some 11, .move (.tmp 1), 3, "net.go:119", #[], none⟩ (v := ?_) rfl ?_ ?_
 rotate_left 1
 focus (intro w h; (try dsimp only at h); go_simp; try with_reducible rfl)
 try simp only [Act.put, ppA, ppB, ppC]
 refine tk 7 ⟨some 12, .binOp .add 3 (.tmp 11) (.const (.int .i64 1)) 3, 3, "net.go:119", #[⟨6, .data⟩], none⟩ (v := ?_) rfl ?_ ?_
 rotate_left 1
 focus (intro w h; (try dsimp only at h); go_simp; try with_reducible rfl)
 try simp only [Act.put, ppA, ppB, ppC]
 refine tk 8 ⟨some 13, .slice 103 (.tmp 10) (some (.tmp 12)) none none, 103, "net.go:119", #[⟨5, .data⟩, ⟨7, .data⟩], none⟩ (v := ?_) rfl ?_ ?_
 rotate_left 1
 focus (intro w h; (try dsimp only at h); go_simp; try with_reducible rfl)
 try simp only [Act.put, ppA, ppB, ppC]
 refine wpAnyH_ready (rs := [0]) (by kernel_rfl) (by simp) ?_
 refine AllReadyH.cons (o := ⟨some 5, .buildSlice 103 0 #[], 103, "net.go:119", #[], none⟩) rfl (fun K hK => ?_) AllReadyH.nil
 have hB1 : Blk (z0.alloc (.cells #[] 88)) z0.heap.size [] 88 := Blk.new z0 [] 88
 have hk1 : Kept (fun _ => False) z0 (z0.alloc (.cells #[] 88)) := (Kept.refl _ z0).alloc _
 have hs1 : w.heap.size ≤ z0.heap.size := K0.out.size
 have hE1 : Rw.Row rT (z0.alloc (.cells #[] 88)) w.heap.size (.slice (some ⟨z0.heap.size, 0, none⟩) 0 0) [] := row_made hs1
 have K1 := Lib.hid (K0.out.alloc (.cells #[] 88))
 have HB1 := Lib.hid hB1
 have HE1 := Lib.hid hE1
 go_simp
 refine hK.out _ _ (KS.out _ K1.out) (fun hHeld => ?_)
 clear hK K
 try simp only [Act.put, ppA, ppB, ppC]
 clear hB1 hk1 hE1
 generalize z0.alloc (.cells #[] 88) = z1 at *
 generalize z0.heap.size = b1 at *
 refine wpAnyH_ready (rs := [4]) (by kernel_rfl) (by simp) ?_
 refine AllReadyH.cons (o := ⟨some 9, .call ⟨.builtin .append, #[.tmp 5, .tmp 8], #[103, 103]⟩, 103, "net.go:119", #[⟨0, .data⟩, ⟨3, .data⟩], none⟩) rfl (fun K hK => ?_) AllReadyH.nil
 refine Rw.step_app rT (by rfl) (.tmp 5) (.tmp 8) (by rfl) w.heap.size (K := []) (K2 := L.take k) (by rfl) HE1.out (by rfl) (FR.out _ K1.out) (by have := HL1.out; have := HL2.out; simp; omega) K1.out.size ?_
 intro v2_ z2 A2
 have P2 := past_apd K1.out A2 (fun g hg => by have e : b1 = g := Option.some.inj hg; subst e; exact (HE1.out.lt _ rfl).1)
 have OW2 := Lib.hid P2
 have K2 := Lib.hid P2.1
 have RW2 := Lib.hid A2.row
 simp only [List.nil_append] at RW2
 obtain ⟨a2, n2, c2, rfl⟩ : ∃ a n c, v2_ = .slice a n c := (by obtain ⟨a, c, e, _⟩ := A2.row.slice; exact ⟨a, _, c, e⟩)
 clear P2 A2
 refine hK.out _ _ (KS.out _ K2.out) (fun hHeld => ?_)
 clear hK K
 try simp only [Act.put, ppA, ppB, ppC]
 refine wpAnyH_ready (rs := [9]) (by kernel_rfl) (by simp) ?_
 refine AllReadyH.cons (o := ⟨some 14, .call ⟨.builtin .append, #[.tmp 9, .tmp 13], #[103, 103]⟩, 103, "net.go:119", #[⟨4, .data⟩, ⟨8, .data⟩, ⟨4, .chain⟩], none⟩) rfl (fun K hK => ?_) AllReadyH.nil
 refine Rw.step_app rT (by rfl) (.tmp 9) (.tmp 13) (by rfl) w.heap.size (K := L.take k) (K2 := L.drop (k + 1)) (by rfl) RW2.out (by rfl) (BK.out _ K2.out) (by have := HL1.out; have := HL2.out; simp; omega) K2.out.size ?_
 intro v3_ z3 A3
 have P3 := past_apd K2.out A3 OW2.out.2
 have OW3 := Lib.hid P3
 have K3 := Lib.hid P3.1
 have RW3 := Lib.hid A3.row
 obtain ⟨a3, n3, c3, rfl⟩ : ∃ a n c, v3_ = .slice a n c := (by obtain ⟨a, c, e, _⟩ := A3.row.slice; exact ⟨a, _, c, e⟩)
 clear P3 A3
 refine hK.out _ _ (KS.out _ K3.out) (fun hHeld => ?_)
 clear hK K
 try simp only [Act.put, ppA, ppB, ppC]
 refine tk 10 ⟨some 4, .assign (.tmp 14), 103, "net.go:119", #[⟨9, .data⟩, ⟨9, .chain⟩, ⟨0, .phase⟩, ⟨1, .phase⟩, ⟨2, .phase⟩, ⟨3, .phase⟩, ⟨4, .phase⟩, ⟨5, .phase⟩, ⟨6, .phase⟩, ⟨7, .phase⟩, ⟨8, .phase⟩, ⟨9, .phase⟩], none⟩ (v := ?_) rfl ?_ ?_
 rotate_left 1
 focus (intro w h; (try dsimp only at h); go_simp; try with_reducible rfl)
 try simp only [Act.put, ppA, ppB, ppC]
 refine wpAnyH_done (by kernel_rfl) ?_ _
 refine NoPanic.normal ?_
 exact hQ _ _ _ _ _ _ _ _ _ _ _ (Ro.of_rw RW3.out) OW3.out.1 OW3.out.2
set_option maxRecDepth 100000 in
set_option maxHeartbeats 4000000 in
theorem without_any {w : World} {v : Value} {k : Nat} {L : List Bx} (h : Ro.Row rT w v L) (hk : k < L.length) (hl : L.length ≤ 1000) :
  Calls Tryz.prog 79 #[v, .int .i64 (k : Nat)] w fun e w' => ∃ v', e = .returned v' ∧ Ro.Row rT w' v' (L.eraseIdx k) ∧ (∀ g, v'.ownBlock = some g → w.heap.size ≤ g) ∧ Kept (fun _ => False) w w' := by
 obtain ⟨a, cc, rfl, hc1, hc2⟩ := h.slice
 have H := Lib.hid h
 clear h
 go_enter Tryz.func79, Tryz.ntmps79
 go_upto_region 1 with fail
 refine wo1 _ _ _ _ _ _ _ _ _ _ _ _ _ _ H.out hk hl hc1 ?_
 intro v5 v6 v7 v8 v9 v10 v11 v12 v13 v' w' hr h1 h2
 have R : Hid (Ro.Row rT w' v' (L.eraseIdx k) ∧ (∀ g, v'.ownBlock = some g → w.heap.size ≤ g) ∧ Kept (fun _ => False) w w') := Lib.hid ⟨by rw [List.eraseIdx_eq_take_drop_succ]; exact hr, h2, h1.mono (fun i hi e => by omega)⟩
 obtain ⟨a', c', e, _⟩ := hr.slice
 subst e
 clear hr h1 h2
 go_wp2_with fail
 go_ret
 exact ⟨_, rfl, R.out⟩
end Go.Proofs.YtpogpibjkolioaaGreat.Rf

/- The reference's port, relaid. Conditions: each theorem's own. -/
namespace Go.Proofs.YtpogpibjkolioaaGreat.Rf
open Go.RowKit Hp QuM Rw Qu Po NumM NumC
variable {w0 w w' : World} {m : Nat} {room most : Int} {trim : Bool} {ls : Nat → List Bx} {cr : List Bx} {now last : Int} {ever : Bool} {vs : Nat → Value} {vc : Value} {R G : Nat → Prop}
theorem Rf.reline (h : Rf w0 m room most trim ls cr now last ever vs vc w) {p : Nat} (hp : p < 8) {v' : Value} {L' : List Bx} (hrow : Ro.Row rT w v' L') (hsub : ∀ y, y ∈ L' → y ∈ ls p ∨ Rok w0 y) : Rf w0 m room most trim (upd ls p L') cr now last ever (upd vs p v') vc (w.setCell ⟨m, 3 + p, none⟩ v') := by
 have ks := Kept.one w m (3 + p) v'
 have hb2 := h.blk.set (3 + p) v'
 rw [rcs_set _ _ _ _ _ _ _ _ hp] at hb2
 refine ⟨h.since.trans' ks (fun i hi e => by have := h.low; omega), hb2, fun k hk => ?_, h.rowc.kept ks (fun g hg e => row_ne h.rowc h.blk hg e), h.low, fun k y hk hy => ?_, h.okc, h.lim⟩
 ·by_cases e : k = p
  ·subst e; rw [upd_self, upd_self]; exact hrow.kept ks (fun g hg e => row_ne hrow h.blk hg e)
  ·rw [upd_ne _ _ e, upd_ne _ _ e]; exact (h.row k hk).kept ks (fun g hg e2 => row_ne (h.row k hk) h.blk hg e2)
 ·by_cases e : k = p
  ·subst e
   rw [upd_self] at hy
   exact (hsub y hy).elim (h.ok k y hk) id
  ·rw [upd_ne _ _ e] at hy; exact h.ok k y hk hy
theorem Rf.recred (h : Rf w0 m room most trim ls cr now last ever vs vc w) {v' : Value} {L' : List Bx} (hrow : Ro.Row rT w v' L') (hsub : ∀ y, y ∈ L' → y ∈ cr ∨ Rok w0 y) : Rf w0 m room most trim ls L' now last ever vs v' (w.setCell ⟨m, 11, none⟩ v') := by
 have ks := Kept.one w m 11 v'
 exact ⟨h.since.trans' ks (fun i hi e => by have := h.low; omega), h.blk.set 11 v', fun k hk => (h.row k hk).kept ks (fun g hg e2 => row_ne (h.row k hk) h.blk hg e2), hrow.kept ks (fun g hg e => row_ne hrow h.blk hg e), h.low, h.ok, fun y hy => (hsub y hy).elim (h.okc y) id, h.lim⟩
theorem Rf.setN (h : Rf w0 m room most trim ls cr now last ever vs vc w) (n' : Int) : Rf w0 m room most trim ls cr n' last ever vs vc (w.setCell ⟨m, 12, none⟩ (.int .i64 n')) := by
 have ks := Kept.one w m 12 (.int .i64 n')
 exact ⟨h.since.trans' ks (fun i hi e => by have := h.low; omega), h.blk.set 12 _, fun k hk => (h.row k hk).kept ks (fun g hg e2 => row_ne (h.row k hk) h.blk hg e2), h.rowc.kept ks (fun g hg e => row_ne h.rowc h.blk hg e), h.low, h.ok, h.okc, h.lim⟩
theorem Rf.setL (h : Rf w0 m room most trim ls cr now last ever vs vc w) (n' : Int) : Rf w0 m room most trim ls cr now n' ever vs vc (w.setCell ⟨m, 13, none⟩ (.int .i64 n')) := by
 have ks := Kept.one w m 13 (.int .i64 n')
 exact ⟨h.since.trans' ks (fun i hi e => by have := h.low; omega), h.blk.set 13 _, fun k hk => (h.row k hk).kept ks (fun g hg e2 => row_ne (h.row k hk) h.blk hg e2), h.rowc.kept ks (fun g hg e => row_ne h.rowc h.blk hg e), h.low, h.ok, h.okc, h.lim⟩
theorem Rf.setE (h : Rf w0 m room most trim ls cr now last ever vs vc w) : Rf w0 m room most trim ls cr now last true vs vc (w.setCell ⟨m, 14, none⟩ (.bool true)) := by
 have ks := Kept.one w m 14 (.bool true)
 exact ⟨h.since.trans' ks (fun i hi e => by have := h.low; omega), h.blk.set 14 _, fun k hk => (h.row k hk).kept ks (fun g hg e2 => row_ne (h.row k hk) h.blk hg e2), h.rowc.kept ks (fun g hg e => row_ne h.rowc h.blk hg e), h.low, h.ok, h.okc, h.lim⟩
theorem ro_tail {w : World} {a : Option Addr} {cc : Nat} {x : Bx} {L : List Bx} (h : Ro.Row rT w (.slice a (L.length + 1) cc) (x :: L)) :
  Ro.Row rT w (.slice (if cc = 1 then a else a.map (fun z => z.add 11)) L.length (cc - 1)) L ∧ ∀ g, (Value.slice (if cc = 1 then a else a.map (fun z => z.add 11)) L.length (cc - 1)).ownBlock = some g → (Value.slice a (L.length + 1) cc).ownBlock = some g := by
 rcases h with ⟨e, h⟩ | ⟨g, o, cap, cur, e, h2⟩
 ·cases h
 ·cases e
  have hle := h2.le
  rw [List.length_cons] at hle
  by_cases e : cc = 1
  ·rw [if_pos e]
   have hL : L = [] := List.length_eq_zero_iff.1 (by omega)
   subst hL
   subst e
   exact ⟨h2.cut_all, fun g hg => hg⟩
  ·rw [if_neg e]
   have := h2.cut (n := 1) (by rw [List.length_cons]; omega)
   simp only [Option.map_some, Go.WideShapes.add_plain]
   exact ⟨by simpa using this, fun g hg => hg⟩
theorem ro_head {w : World} {v : Value} {x : Bx} {L : List Bx} (h : Ro.Row rT w v (x :: L)) : ∃ g o cc cur, v = .slice (some ⟨g, o, none⟩) (L.length + 1) cc ∧ L.length + 1 ≤ cc ∧ Ro.Lies rT w g o cc cur (x :: L) := by
 rcases h with ⟨e, h⟩ | ⟨g, o, cap, cur, e, h2⟩
 ·cases h
 ·exact ⟨g, o, cap, cur, e, by have := h2.le; rwa [List.length_cons] at this, h2⟩
end Go.Proofs.YtpogpibjkolioaaGreat.Rf

