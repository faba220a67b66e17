/- The reference's port: a row without its k-th. Conditions: each theorem's own. -/
import Derived.Test.YtompbpiaapenaaaRg1
import Derived.Test.YtompbpiaapenaaaRg3
set_option linter.unusedVariables false
namespace Go.Proofs.Ytompbpiaapenaaa.Rf
open Go.RowKit Hp QuM Rw Qu Po Go.Proofs.Ytompbpiaapenaaa.End Opn
attribute [local go_sem ↓] Go.wp_at_zero Go.wp_at_succ
noncomputable def wo1C : Code := ((Try.f54.body.bind (findRegion 1)).getD .skip)
set_option maxRecDepth 100000 in
set_option maxHeartbeats 8000000 in
theorem wo1 {w : World} {cc k : Nat} {a : Option Addr} {L : List Bx} (Q : Exit → Act → World → Prop) (u2 u3 u4 u5 u6 u7 u8 u9 u10 u11 u12 u13 u14 : Value)
    (h : Ro.Row rT w (.slice a L.length cc) L) (hk : k < L.length) (hl : L.length ≤ 1000) (hc : L.length ≤ cc)
    (hQ : ∀ (v5 v6 v7 v8 v9 v10 v11 v12 v13 v' : Value) (w' : World), Ro.Row rT w' v' (L.take k ++ L.drop (k + 1)) → Kept (fun i => w.heap.size ≤ i) w w' → (∀ g, v'.ownBlock = some g → w.heap.size ≤ g) → Q .normal ⟨#[.slice a L.length cc, .int .i64 (k : Nat), u2, u3, v', v5, v6, v7, v8, v9, v10, v11, v12, v13, v'], []⟩ w') :
    Code.wp Try.prog wo1C Q ⟨#[.slice a L.length cc, .int .i64 (k : Nat), u2, u3, u4, u5, u6, u7, u8, u9, u10, u11, u12, u13, u14], []⟩ w := by
  conv => arg 2; whnf
  have HL1 := Lib.hid hl
  have HL2 := Lib.hid hl
  have i1 : (0 : Int) ≤ (k : Int) := by omega
  have i2 : (k : Int) ≤ (cc : Int) := by omega
  have i3 : (k : Int) ≤ (L.length : Int) := by omega
  have i4 : (0 : Int) ≤ (k : Int) + 1 := by omega
  have i5 : (k : Int) + 1 ≤ (L.length : Int) := by omega
  have i6 : IntKind.i64.wrap ((k : Int) + 1) = (k : Int) + 1 := by rw [IntKind.wrap_i64]; omega
  have i7 : ((k : Int) + 1).toNat = k + 1 := by omega
  have n1 : k ≤ cc := by omega
  have n2 : k + 1 ≤ L.length := hk
  have FR : Hid (∀ w', Kept (fun i => w.heap.size ≤ i) w w' → Rw.Src rT w' (.slice a k cc) (L.take k)) := Lib.hid fun w' kk => front (past_row h kk) (by omega)
  have BK : Hid (∀ w', Kept (fun i => w.heap.size ≤ i) w w' → Rw.Src rT w' (.slice (if cc = k + 1 then a else a.map (fun x => x.add ((k + 1) * 11))) (L.length - (k + 1)) (cc - (k + 1))) (L.drop (k + 1))) := Lib.hid fun w' kk => rest_any (past_row h kk) (by omega)
  have KS : Hid (∀ w', Kept (fun i => w.heap.size ≤ i) w w' → ((fun _ : World => True) w')) := Lib.hid fun _ _ => trivial
  have K0 := Lib.hid ((Kept.refl (fun _ => False) w).mono (G := fun i => w.heap.size ≤ i) (fun _ _ f => f.elim)).drew
  try dsimp only [List.append]
  refine wp_region_noPanic ?_
  refine wp_region_held_drew (S := fun _ => True) (by kernel_rfl) (KS.out _ K0.out) (fun hHeld => ?_)
  generalize w.drew = z0 at *
  refine wpAnyH_take (i := 1) (oi := { dst := some 6, op := Go.Op.move (Go.Operand.tmp 0), type := 48, pos := "net.go:119", after := #[], guard := none }) (v := ?_) rfl (by kernel_rfl) (by kernel_rfl) (by kernel_rfl) (fun _ _ _ h => h) (Or.inl ⟨by rfl, ?_⟩) (by assumption) ?_
  rotate_left 1
  focus (intro w hSw; (try dsimp only at hSw); go_simp; try with_reducible rfl)
  try simp only [Act.put, List.setIfInBounds_toArray, List.set_cons_zero, List.set_cons_succ]
  refine wpAnyH_take (i := 2) (oi := { dst := some 7, op := Go.Op.move (Go.Operand.tmp 1), type := 3, pos := "net.go:119", after := #[], guard := none }) (v := ?_) rfl (by kernel_rfl) (by kernel_rfl) (by kernel_rfl) (fun _ _ _ h => h) (Or.inl ⟨by rfl, ?_⟩) (by assumption) ?_
  rotate_left 1
  focus (intro w hSw; (try dsimp only at hSw); go_simp; try with_reducible rfl)
  try simp only [Act.put, List.setIfInBounds_toArray, List.set_cons_zero, List.set_cons_succ]
  refine wpAnyH_take (i := 3) (oi := { dst := some 8, op := Go.Op.slice 48 (Go.Operand.tmp 6) none (some (Go.Operand.tmp 7)) none, type := 48, pos := "net.go:119", after := #[{ on := 1, ground := Go.Ground.data }, { on := 2, ground := Go.Ground.data }], guard := none }) (v := ?_) rfl (by kernel_rfl) (by kernel_rfl) (by kernel_rfl) (fun _ _ _ h => h) (Or.inl ⟨by rfl, ?_⟩) (by assumption) ?_
  rotate_left 1
  focus (intro w hSw; (try dsimp only at hSw); go_simp; try with_reducible rfl)
  try simp only [Act.put, List.setIfInBounds_toArray, List.set_cons_zero, List.set_cons_succ]
  refine wpAnyH_take (i := 5) (oi := { dst := some 10, op := Go.Op.move (Go.Operand.tmp 0), type := 48, pos := "net.go:119", after := #[], guard := none }) (v := ?_) rfl (by kernel_rfl) (by kernel_rfl) (by kernel_rfl) (fun _ _ _ h => h) (Or.inl ⟨by rfl, ?_⟩) (by assumption) ?_
  rotate_left 1
  focus (intro w hSw; (try dsimp only at hSw); go_simp; try with_reducible rfl)
  try simp only [Act.put, List.setIfInBounds_toArray, List.set_cons_zero, List.set_cons_succ]
  refine wpAnyH_take (i := 6) (oi := { dst := some 11, op := Go.Op.move (Go.Operand.tmp 1), type := 3, pos := "net.go:119", after := #[], guard := none }) (v := ?_) rfl (by kernel_rfl) (by kernel_rfl) (by kernel_rfl) (fun _ _ _ h => h) (Or.inl ⟨by rfl, ?_⟩) (by assumption) ?_
  rotate_left 1
  focus (intro w hSw; (try dsimp only at hSw); go_simp; try with_reducible rfl)
  try simp only [Act.put, List.setIfInBounds_toArray, List.set_cons_zero, List.set_cons_succ]
  refine wpAnyH_take (i := 7) (oi := { dst := some 12, op := Go.Op.binOp Go.BinOp.add 3 (Go.Operand.tmp 11) (Go.Operand.const (Go.Value.int Go.IntKind.i64 1)) 3, type := 3, pos := "net.go:119", after := #[{ on := 6, ground := Go.Ground.data }], guard := none }) (v := ?_) rfl (by kernel_rfl) (by kernel_rfl) (by kernel_rfl) (fun _ _ _ h => h) (Or.inl ⟨by rfl, ?_⟩) (by assumption) ?_
  rotate_left 1
  focus (intro w hSw; (try dsimp only at hSw); go_simp; try with_reducible rfl)
  try simp only [Act.put, List.setIfInBounds_toArray, List.set_cons_zero, List.set_cons_succ]
  refine wpAnyH_take (i := 8) (oi := { dst := some 13, op := Go.Op.slice 48 (Go.Operand.tmp 10) (some (Go.Operand.tmp 12)) none none, type := 48, pos := "net.go:119", after := #[{ on := 5, ground := Go.Ground.data }, { on := 7, ground := Go.Ground.data }], guard := none }) (v := ?_) rfl (by kernel_rfl) (by kernel_rfl) (by kernel_rfl) (fun _ _ _ h => h) (Or.inl ⟨by rfl, ?_⟩) (by assumption) ?_
  rotate_left 1
  focus (intro w hSw; (try dsimp only at hSw); go_simp; try with_reducible rfl)
  try simp only [Act.put, List.setIfInBounds_toArray, List.set_cons_zero, List.set_cons_succ]
  refine wpAnyH_ready (rs := [0]) (by kernel_rfl) (by simp) ?_
  refine AllReadyH.cons (o := { dst := some 5, op := Go.Op.buildSlice 48 0 #[], type := 48, pos := "net.go:119", after := #[], guard := none }) rfl (fun K hK => ?_) AllReadyH.nil
  have hB1 : Blk (z0.alloc (.cells #[] 42)) z0.heap.size [] 42 := Blk.new z0 [] 42
  have hk1 : Kept (fun _ => False) z0 (z0.alloc (.cells #[] 42)) := (Kept.refl _ z0).alloc _
  have hs1 : w.heap.size ≤ z0.heap.size := K0.out.size
  have hE1 : Rw.Row rT (z0.alloc (.cells #[] 42)) w.heap.size (.slice (some ⟨z0.heap.size, 0, none⟩) 0 0) [] := row_made hs1
  have K1 := Lib.hid (K0.out.alloc (.cells #[] 42))
  have HB1 := Lib.hid hB1
  have HE1 := Lib.hid hE1
  go_simp
  refine hK.out _ _ (KS.out _ K1.out) (fun hHeld => ?_)
  clear hK K
  try simp only [Act.put, List.setIfInBounds_toArray, List.set_cons_zero, List.set_cons_succ]
  clear hB1 hk1 hE1
  generalize z0.alloc (.cells #[] 42) = z1 at *
  generalize z0.heap.size = b1 at *
  refine wpAnyH_ready (rs := [4]) (by kernel_rfl) (by simp) ?_
  refine AllReadyH.cons (o := { dst := some 9, op := Go.Op.call { callee := Go.Callee.builtin Go.Builtin.append, args := #[Go.Operand.tmp 5, Go.Operand.tmp 8], argTypes := #[48, 48] }, type := 48, pos := "net.go:119", after := #[{ on := 0, ground := Go.Ground.data }, { on := 3, ground := Go.Ground.data }], guard := none }) rfl (fun K hK => ?_) AllReadyH.nil
  refine Rw.step_app rT (by rfl) (.tmp 5) (.tmp 8) (by rfl) w.heap.size (K := []) (K2 := L.take k) (by rfl) HE1.out (by rfl) (FR.out _ K1.out) (by have := HL1.out; have := HL2.out; simp; omega) K1.out.size ?_
  intro v2_ z2 A2
  have P2 := past_apd K1.out A2 (fun g hg => by have e : b1 = g := Option.some.inj hg; subst e; exact (HE1.out.lt _ rfl).1)
  have OW2 := Lib.hid P2
  have K2 := Lib.hid P2.1
  have RW2 := Lib.hid A2.row
  simp only [List.nil_append] at RW2
  obtain ⟨a2, n2, c2, rfl⟩ : ∃ a n c, v2_ = .slice a n c := (by obtain ⟨a, c, e, _⟩ := A2.row.slice; exact ⟨a, _, c, e⟩)
  clear P2 A2
  refine hK.out _ _ (KS.out _ K2.out) (fun hHeld => ?_)
  clear hK K
  try simp only [Act.put, List.setIfInBounds_toArray, List.set_cons_zero, List.set_cons_succ]
  refine wpAnyH_ready (rs := [9]) (by kernel_rfl) (by simp) ?_
  refine AllReadyH.cons (o := { dst := some 14, op := Go.Op.call { callee := Go.Callee.builtin Go.Builtin.append, args := #[Go.Operand.tmp 9, Go.Operand.tmp 13], argTypes := #[48, 48] }, type := 48, pos := "net.go:119", after := #[{ on := 4, ground := Go.Ground.data }, { on := 8, ground := Go.Ground.data }, { on := 4, ground := Go.Ground.chain }], guard := none }) rfl (fun K hK => ?_) AllReadyH.nil
  refine Rw.step_app rT (by rfl) (.tmp 9) (.tmp 13) (by rfl) w.heap.size (K := L.take k) (K2 := L.drop (k + 1)) (by rfl) RW2.out (by rfl) (BK.out _ K2.out) (by have := HL1.out; have := HL2.out; simp; omega) K2.out.size ?_
  intro v3_ z3 A3
  have P3 := past_apd K2.out A3 OW2.out.2
  have OW3 := Lib.hid P3
  have K3 := Lib.hid P3.1
  have RW3 := Lib.hid A3.row
  obtain ⟨a3, n3, c3, rfl⟩ : ∃ a n c, v3_ = .slice a n c := (by obtain ⟨a, c, e, _⟩ := A3.row.slice; exact ⟨a, _, c, e⟩)
  clear P3 A3
  refine hK.out _ _ (KS.out _ K3.out) (fun hHeld => ?_)
  clear hK K
  try simp only [Act.put, List.setIfInBounds_toArray, List.set_cons_zero, List.set_cons_succ]
  refine wpAnyH_take (i := 10) (oi := { dst := some 4, op := Go.Op.assign (Go.Operand.tmp 14), type := 48, pos := "net.go:119", after := #[{ on := 9, ground := Go.Ground.data }, { on := 9, ground := Go.Ground.chain }, { on := 0, ground := Go.Ground.phase }, { on := 1, ground := Go.Ground.phase }, { on := 2, ground := Go.Ground.phase }, { on := 3, ground := Go.Ground.phase }, { on := 4, ground := Go.Ground.phase }, { on := 5, ground := Go.Ground.phase }, { on := 6, ground := Go.Ground.phase }, { on := 7, ground := Go.Ground.phase }, { on := 8, ground := Go.Ground.phase }, { on := 9, ground := Go.Ground.phase }], guard := none }) (v := ?_) rfl (by kernel_rfl) (by kernel_rfl) (by kernel_rfl) (fun _ _ _ h => h) (Or.inl ⟨by rfl, ?_⟩) (by assumption) ?_
  rotate_left 1
  focus (intro w hSw; (try dsimp only at hSw); go_simp; try with_reducible rfl)
  try simp only [Act.put, List.setIfInBounds_toArray, List.set_cons_zero, List.set_cons_succ]
  refine wpAnyH_done (by kernel_rfl) ?_ _
  refine NoPanic.normal ?_
  exact hQ _ _ _ _ _ _ _ _ _ _ _ (Ro.of_rw RW3.out) OW3.out.1 OW3.out.2

set_option maxRecDepth 100000 in
set_option maxHeartbeats 4000000 in
theorem without_any {w : World} {v : Value} {k : Nat} {L : List Bx} (h : Ro.Row rT w v L) (hk : k < L.length) (hl : L.length ≤ 1000) :
    Calls Try.prog 54 #[v, .int .i64 (k : Nat)] w fun e w' => ∃ v', e = .returned v' ∧ Ro.Row rT w' v' (L.eraseIdx k) ∧ (∀ g, v'.ownBlock = some g → w.heap.size ≤ g) ∧ Kept (fun _ => False) w w' := by
  obtain ⟨a, cc, rfl, hc1, hc2⟩ := h.slice
  have H := Lib.hid h
  clear h
  go_enter Try.func54, Try.ntmps54
  go_upto_region 1 with fail
  refine wo1 _ _ _ _ _ _ _ _ _ _ _ _ _ _ H.out hk hl hc1 ?_
  intro v5 v6 v7 v8 v9 v10 v11 v12 v13 v' w' hr h1 h2
  have R : Hid (Ro.Row rT w' v' (L.eraseIdx k) ∧ (∀ g, v'.ownBlock = some g → w.heap.size ≤ g) ∧ Kept (fun _ => False) w w') := Lib.hid ⟨by rw [List.eraseIdx_eq_take_drop_succ]; exact hr, h2, h1.mono (fun i hi e => by omega)⟩
  obtain ⟨a', c', e, _⟩ := hr.slice
  subst e
  clear hr h1 h2
  go_wp2_with fail
  go_ret
  exact ⟨_, rfl, R.out⟩
end Go.Proofs.Ytompbpiaapenaaa.Rf

/- The reference's port, relaid. Conditions: each theorem's own. -/
namespace Go.Proofs.Ytompbpiaapenaaa.Rf
open Go.RowKit Hp QuM Rw Qu Po NumM NumC
variable {w0 w w' : World} {m : Nat} {room most : Int} {trim : Bool} {ls : Nat → List Bx} {cr : List Bx} {now last : Int} {ever : Bool} {vs : Nat → Value} {vc : Value} {R G : Nat → Prop}
theorem Rf.reline (h : Rf w0 m room most trim ls cr now last ever vs vc w) {p : Nat} (hp : p < 8) {v' : Value} {L' : List Bx} (hrow : Ro.Row rT w v' L') (hsub : ∀ y, y ∈ L' → y ∈ ls p ∨ Rok w0 y) : Rf w0 m room most trim (upd ls p L') cr now last ever (upd vs p v') vc (w.setCell ⟨m, 3 + p, none⟩ v') := by
  have ks := Kept.one w m (3 + p) v'
  have hb2 := h.blk.set (3 + p) v'
  rw [rcs_set _ _ _ _ _ _ _ _ hp] at hb2
  refine ⟨h.since.trans' ks (fun i hi e => by have := h.low; omega), hb2, fun k hk => ?_, h.rowc.kept ks (fun g hg e => row_ne h.rowc h.blk hg e), h.low, fun k y hk hy => ?_, h.okc, h.lim⟩
  · by_cases e : k = p
    · subst e; rw [upd_self, upd_self]; exact hrow.kept ks (fun g hg e => row_ne hrow h.blk hg e)
    · rw [upd_ne _ _ e, upd_ne _ _ e]; exact (h.row k hk).kept ks (fun g hg e2 => row_ne (h.row k hk) h.blk hg e2)
  · by_cases e : k = p
    · subst e
      rw [upd_self] at hy
      exact (hsub y hy).elim (h.ok k y hk) id
    · rw [upd_ne _ _ e] at hy; exact h.ok k y hk hy
theorem Rf.recred (h : Rf w0 m room most trim ls cr now last ever vs vc w) {v' : Value} {L' : List Bx} (hrow : Ro.Row rT w v' L') (hsub : ∀ y, y ∈ L' → y ∈ cr ∨ Rok w0 y) : Rf w0 m room most trim ls L' now last ever vs v' (w.setCell ⟨m, 11, none⟩ v') := by
  have ks := Kept.one w m 11 v'
  exact ⟨h.since.trans' ks (fun i hi e => by have := h.low; omega), h.blk.set 11 v', fun k hk => (h.row k hk).kept ks (fun g hg e2 => row_ne (h.row k hk) h.blk hg e2), hrow.kept ks (fun g hg e => row_ne hrow h.blk hg e), h.low, h.ok, fun y hy => (hsub y hy).elim (h.okc y) id, h.lim⟩
theorem Rf.setN (h : Rf w0 m room most trim ls cr now last ever vs vc w) (n' : Int) : Rf w0 m room most trim ls cr n' last ever vs vc (w.setCell ⟨m, 12, none⟩ (.int .i64 n')) := by
  have ks := Kept.one w m 12 (.int .i64 n')
  exact ⟨h.since.trans' ks (fun i hi e => by have := h.low; omega), h.blk.set 12 _, fun k hk => (h.row k hk).kept ks (fun g hg e2 => row_ne (h.row k hk) h.blk hg e2), h.rowc.kept ks (fun g hg e => row_ne h.rowc h.blk hg e), h.low, h.ok, h.okc, h.lim⟩
theorem Rf.setL (h : Rf w0 m room most trim ls cr now last ever vs vc w) (n' : Int) : Rf w0 m room most trim ls cr now n' ever vs vc (w.setCell ⟨m, 13, none⟩ (.int .i64 n')) := by
  have ks := Kept.one w m 13 (.int .i64 n')
  exact ⟨h.since.trans' ks (fun i hi e => by have := h.low; omega), h.blk.set 13 _, fun k hk => (h.row k hk).kept ks (fun g hg e2 => row_ne (h.row k hk) h.blk hg e2), h.rowc.kept ks (fun g hg e => row_ne h.rowc h.blk hg e), h.low, h.ok, h.okc, h.lim⟩
theorem Rf.setE (h : Rf w0 m room most trim ls cr now last ever vs vc w) : Rf w0 m room most trim ls cr now last true vs vc (w.setCell ⟨m, 14, none⟩ (.bool true)) := by
  have ks := Kept.one w m 14 (.bool true)
  exact ⟨h.since.trans' ks (fun i hi e => by have := h.low; omega), h.blk.set 14 _, fun k hk => (h.row k hk).kept ks (fun g hg e2 => row_ne (h.row k hk) h.blk hg e2), h.rowc.kept ks (fun g hg e => row_ne h.rowc h.blk hg e), h.low, h.ok, h.okc, h.lim⟩
/-- Without the first one. -/
theorem ro_tail {w : World} {a : Option Addr} {cc : Nat} {x : Bx} {L : List Bx} (h : Ro.Row rT w (.slice a (L.length + 1) cc) (x :: L)) :
    Ro.Row rT w (.slice (if cc = 1 then a else a.map (fun z => z.add 11)) L.length (cc - 1)) L ∧ ∀ g, (Value.slice (if cc = 1 then a else a.map (fun z => z.add 11)) L.length (cc - 1)).ownBlock = some g → (Value.slice a (L.length + 1) cc).ownBlock = some g := by
  rcases h with ⟨e, h⟩ | ⟨g, o, cap, cur, e, h2⟩
  · cases h
  · cases e
    have hle := h2.le
    rw [List.length_cons] at hle
    by_cases e : cc = 1
    · rw [if_pos e]
      have hL : L = [] := List.length_eq_zero_iff.1 (by omega)
      subst hL
      subst e
      exact ⟨h2.cut_all, fun g hg => hg⟩
    · rw [if_neg e]
      have := h2.cut (n := 1) (by rw [List.length_cons]; omega)
      simp only [Option.map_some, Go.WideShapes.add_plain]
      exact ⟨by simpa using this, fun g hg => hg⟩
/-- The first of a row, its cells. -/
theorem ro_head {w : World} {v : Value} {x : Bx} {L : List Bx} (h : Ro.Row rT w v (x :: L)) : ∃ g o cc cur, v = .slice (some ⟨g, o, none⟩) (L.length + 1) cc ∧ L.length + 1 ≤ cc ∧ Ro.Lies rT w g o cc cur (x :: L) := by
  rcases h with ⟨e, h⟩ | ⟨g, o, cap, cur, e, h2⟩
  · cases h
  · exact ⟨g, o, cap, cur, e, by have := h2.le; rwa [List.length_cons] at this, h2⟩
end Go.Proofs.Ytompbpiaapenaaa.Rf

/- The reference's port: Take. Conditions: each theorem's own. -/
namespace Go.Proofs.Ytompbpiaapenaaa.Rf
open Go.RowKit Hp QuM Rw Qu Po NumM NumC
attribute [local go_sem ↓] Go.wp_at_zero Go.wp_at_succ
variable {w0 w w' : World} {m : Nat} {room most : Int} {trim : Bool} {ls : Nat → List Bx} {cr : List Bx} {now last : Int} {ever : Bool} {vs : Nat → Value} {vc : Value} {R G : Nat → Prop}
set_option maxRecDepth 100000 in
set_option maxHeartbeats 8000000 in
theorem rtake_cr_new (h : Rf w0 m room most trim ls cr now last false vs vc w) {t mm : Int} (hmm : clampI t now 1125899906842624 = mm) (hn0 : 0 ≤ now ∧ 0 ≤ last ∧ last ≤ now) (hn1 : now ≤ 1125899906842624) (hcl : cr.length ≤ 1000) (hmode : 0 < cr.length) {x : Bx} {L : List Bx} (hx : cr = x :: L) :
    Calls Try.prog 14 #[.pointer (some ⟨m, 0, none⟩), .int .i64 t] w fun e w' => e = .returned (.tuple #[bv x, .bool true]) ∧ ∃ R', RS w0 m room most trim ls L mm mm true R' w' ∧ RN m (frp m vs vc) w R' w' := by
  have hmn : ∀ (ts : Array TypeId) (ty : TypeId) (w : World), (Builtin.min_ ts ty #[.int .i64 t, .int .i64 1125899906842624]).run Try.prog w = .ok (.int .i64 (if 1125899906842624 < t then 1125899906842624 else t)) w := fun ts ty w => run_min_int2 ..
  obtain ⟨q, hq⟩ : ∃ q : Int, (if 1125899906842624 < t then 1125899906842624 else t) = q := ⟨_, rfl⟩
  have hmx : ∀ (ts : Array TypeId) (ty : TypeId) (w : World), (Builtin.max_ ts ty #[.int .i64 now, .int .i64 q]).run Try.prog w = .ok (.int .i64 mm) w := by
    intro ts ty w
    rw [run_max_int2]
    congr 2
    rw [← hmm, ← hq]
    unfold clampI
    split <;> split <;> (try split) <;> omega
  rw [hq] at hmn
  have hl0 := hn0.2.1
  have hlb : last ≤ 1125899906842624 := by omega
  have hmb : 0 ≤ mm ∧ mm ≤ 1125899906842624 := by
    have := clampI_bd t (low := now) (high := 1125899906842624) hn1
    rw [hmm] at this
    omega
  clear hq hmm hn0 hn1
  obtain ⟨ca, cc, hvc, hcc1, hcc2⟩ := h.rowc.slice
  have HVC := Lib.hid hvc
  have H := Lib.hid h
  have HXX := Lib.hid hx
  have hml := h.blk.lt
  clear h hvc hcc2 hx
  obtain ⟨cn, hcn⟩ : ∃ cn, cr.length = cn := ⟨_, rfl⟩
  have HCN := Lib.hid hcn
  rw [hcn] at HVC hcc1 hcl hmode
  clear hcn
  have hlen : (0 : Int) < (cn : Int) := by omega
  go_enter Try.func14, Try.ntmps14
  go_upto_region 1 with fail
  have hO := Blk.new w [.int .i64 0, .int .i64 0, .int .i64 0, .int .i64 0, .int .u64 0, .int .i64 0, .int .i64 0, .int .i64 0, .int .i64 0, .slice none 0 0, .int .i64 0] tI
  have hk1 := (Kept.refl (fun _ => False) w).alloc (.cells [.int .i64 0, .int .i64 0, .int .i64 0, .int .i64 0, .int .u64 0, .int .i64 0, .int .i64 0, .int .i64 0, .int .i64 0, .slice none 0 0, .int .i64 0].toArray tI)
  dsimp only [List.toArray] at hO hk1
  generalize w.alloc (.cells #[.int .i64 0, .int .i64 0, .int .i64 0, .int .i64 0, .int .u64 0, .int .i64 0, .int .i64 0, .int .i64 0, .int .i64 0, .slice none 0 0, .int .i64 0] 42) = w1 at *
  obtain ⟨rb, hrb⟩ : ∃ rb, w.heap.size = rb := ⟨_, rfl⟩
  rw [hrb] at hO hml
  simp only [hrb]
  have HRB := Lib.hid hrb
  have H1 := Lib.hid (H.out.old hk1)
  have HK1 := Lib.hid hk1
  have HO1 := Lib.hid hO
  clear hrb hk1 hO
  have d12 := H1.out.blk.cell (o := 12) rfl
  have f12 := H1.out.blk.frozen 12
  go_upto_region 2 with fail
  have H2 := Lib.hid (H1.out.setN mm)
  have k2 := Kept.one w1 m 12 (.int .i64 mm)
  have HO2 := Lib.hid (k2.blk HO1.out (by omega))
  have HK2 : Hid (Kept (fun i => i = m) w (w1.setCell ⟨m, 12, none⟩ (.int .i64 mm))) := Lib.hid ((HK1.out.mono (fun _ _ f => f.elim)).trans k2)
  generalize w1.setCell ⟨m, 12, none⟩ (.int .i64 mm) = w2 at *
  clear d12 f12 k2 H1 HO1 HK1 hmn hmx
  have hBz := H2.out.blk
  have KS : Hid (∀ w', Kept (fun _ => False) w2 w' → w'.cell? ⟨m, 11, none⟩ = some (.slice ca cn cc) ∧ w'.cell? ⟨m, 12, none⟩ = some (.int .i64 mm) ∧ w'.cell? ⟨m, 13, none⟩ = some (.int .i64 last) ∧ w'.cell? ⟨m, 14, none⟩ = some (.bool false)) := by
    refine Lib.hid fun w' k => ?_
    have h1 := k.blk H2.out.blk (fun f => f)
    exact ⟨by rw [← HVC.out]; exact h1.cell rfl, h1.cell rfl, h1.cell rfl, h1.cell rfl⟩
  have K0 : Hid (Kept (fun _ => False) w2 w2.drew) := Lib.hid (Kept.refl _ w2).drew
  have HZ := Lib.hid (H2.out.old K0.out)
  have HOZ := Lib.hid (K0.out.blk HO2.out (fun f => f))
  have HKZ := Lib.hid (HK2.out.drew)
  clear hBz
  refine wp_region_held_drew (S := (fun w' => w'.cell? ⟨m, 11, none⟩ = some (.slice ca cn cc) ∧ w'.cell? ⟨m, 12, none⟩ = some (.int .i64 mm) ∧ w'.cell? ⟨m, 13, none⟩ = some (.int .i64 last) ∧ w'.cell? ⟨m, 14, none⟩ = some (.bool false))) (by kernel_rfl) (KS.out _ K0.out) (fun hHeld => ?_)
  generalize w2.drew = z0 at *
  refine wpAnyH_take (i := 0) (oi := { dst := some 19, op := Go.Op.move (Go.Operand.tmp 0), type := 29, pos := "net.go:92", after := #[], guard := none }) (v := ?_) rfl (by kernel_rfl) (by kernel_rfl) (by kernel_rfl) (fun _ _ _ h => h) (Or.inl ⟨by rfl, ?_⟩) (by assumption) ?_
  rotate_left 1
  focus (intro w hSw; (try dsimp only at hSw); go_simp; try with_reducible rfl)
  try simp only [Act.put, List.setIfInBounds_toArray, List.set_cons_zero, List.set_cons_succ]
  refine wpAnyH_take (i := 1) (oi := { dst := some 20, op := Go.Op.nilCheck (Go.Operand.tmp 19), type := 0, pos := "net.go:92", after := #[{ on := 0, ground := Go.Ground.data }], guard := none }) (v := ?_) rfl (by kernel_rfl) (by kernel_rfl) (by kernel_rfl) (fun _ _ _ h => h) (Or.inl ⟨by rfl, ?_⟩) (by assumption) ?_
  rotate_left 1
  focus (intro w hSw; (try dsimp only at hSw); go_simp; try with_reducible rfl)
  try simp only [Act.put, List.setIfInBounds_toArray, List.set_cons_zero, List.set_cons_succ]
  refine wpAnyH_take (i := 2) (oi := { dst := some 21, op := Go.Op.fieldAddr 89 (Go.Operand.tmp 20) 4, type := 0, pos := "net.go:92", after := #[{ on := 1, ground := Go.Ground.data }], guard := none }) (v := ?_) rfl (by kernel_rfl) (by kernel_rfl) (by kernel_rfl) (fun _ _ _ h => h) (Or.inl ⟨by rfl, ?_⟩) (by assumption) ?_
  rotate_left 1
  focus (intro w hSw; (try dsimp only at hSw); go_simp; try with_reducible rfl)
  try simp only [Act.put, List.setIfInBounds_toArray, List.set_cons_zero, List.set_cons_succ]
  refine wpAnyH_take (i := 3) (oi := { dst := some 22, op := Go.Op.load 48 (Go.Operand.tmp 21), type := 48, pos := "net.go:92", after := #[{ on := 2, ground := Go.Ground.data }], guard := none }) (v := ?_) rfl (by kernel_rfl) (by kernel_rfl) (by kernel_rfl) (fun _ _ _ h => h) (Or.inl ⟨by rfl, ?_⟩) (by assumption) ?_
  rotate_left 1
  focus (intro w hSw; (try dsimp only at hSw); go_simp; try with_reducible rfl)
  try simp only [Act.put, List.setIfInBounds_toArray, List.set_cons_zero, List.set_cons_succ]
  refine wpAnyH_take (i := 4) (oi := { dst := some 23, op := Go.Op.call { callee := Go.Callee.builtin Go.Builtin.len, args := #[Go.Operand.tmp 22], argTypes := #[48] }, type := 3, pos := "net.go:92", after := #[{ on := 3, ground := Go.Ground.data }], guard := none }) (v := ?_) rfl (by kernel_rfl) (by kernel_rfl) (by kernel_rfl) (fun _ _ _ h => h) (Or.inl ⟨by rfl, ?_⟩) (by assumption) ?_
  rotate_left 1
  focus (intro w hSw; (try dsimp only at hSw); go_simp; try with_reducible rfl)
  try simp only [Act.put, List.setIfInBounds_toArray, List.set_cons_zero, List.set_cons_succ]
  refine wpAnyH_take (i := 5) (oi := { dst := some 24, op := Go.Op.binOp Go.BinOp.gtr 3 (Go.Operand.tmp 23) (Go.Operand.const (Go.Value.int Go.IntKind.i64 0)) 3, type := 4, pos := "net.go:92", after := #[{ on := 4, ground := Go.Ground.data }], guard := none }) (v := ?_) rfl (by kernel_rfl) (by kernel_rfl) (by kernel_rfl) (fun _ _ _ h => h) (Or.inl ⟨by rfl, ?_⟩) (by assumption) ?_
  rotate_left 1
  focus (intro w hSw; (try dsimp only at hSw); go_simp; try with_reducible rfl)
  try simp only [Act.put, List.setIfInBounds_toArray, List.set_cons_zero, List.set_cons_succ]
  refine wpAnyH_take (i := 6) (oi := { dst := some 25, op := Go.Op.move (Go.Operand.tmp 24), type := 4, pos := "net.go:92", after := #[{ on := 5, ground := Go.Ground.data }], guard := none }) (v := ?_) rfl (by kernel_rfl) (by kernel_rfl) (by kernel_rfl) (fun _ _ _ h => h) (Or.inl ⟨by rfl, ?_⟩) (by assumption) ?_
  rotate_left 1
  focus (intro w hSw; (try dsimp only at hSw); go_simp; try with_reducible rfl)
  try simp only [Act.put, List.setIfInBounds_toArray, List.set_cons_zero, List.set_cons_succ]
  refine wpAnyH_take (i := 7) (oi := { dst := some 26, op := Go.Op.move (Go.Operand.tmp 0), type := 29, pos := "net.go:92", after := #[{ on := 6, ground := Go.Ground.guard }], guard := some (6, true) }) (v := ?_) rfl (by kernel_rfl) (by kernel_rfl) (by kernel_rfl) (fun _ _ _ h => h) (Or.inl ⟨by rfl, ?_⟩) (by assumption) ?_
  rotate_left 1
  focus (intro w hSw; (try dsimp only at hSw); go_simp; try with_reducible rfl)
  try simp only [Act.put, List.setIfInBounds_toArray, List.set_cons_zero, List.set_cons_succ]
  refine wpAnyH_take (i := 8) (oi := { dst := some 27, op := Go.Op.nilCheck (Go.Operand.tmp 26), type := 0, pos := "net.go:92", after := #[{ on := 7, ground := Go.Ground.data }, { on := 6, ground := Go.Ground.guard }], guard := some (6, true) }) (v := ?_) rfl (by kernel_rfl) (by kernel_rfl) (by kernel_rfl) (fun _ _ _ h => h) (Or.inl ⟨by rfl, ?_⟩) (by assumption) ?_
  rotate_left 1
  focus (intro w hSw; (try dsimp only at hSw); go_simp; try with_reducible rfl)
  try simp only [Act.put, List.setIfInBounds_toArray, List.set_cons_zero, List.set_cons_succ]
  refine wpAnyH_take (i := 9) (oi := { dst := some 28, op := Go.Op.fieldAddr 89 (Go.Operand.tmp 27) 7, type := 0, pos := "net.go:92", after := #[{ on := 8, ground := Go.Ground.data }, { on := 6, ground := Go.Ground.guard }], guard := some (6, true) }) (v := ?_) rfl (by kernel_rfl) (by kernel_rfl) (by kernel_rfl) (fun _ _ _ h => h) (Or.inl ⟨by rfl, ?_⟩) (by assumption) ?_
  rotate_left 1
  focus (intro w hSw; (try dsimp only at hSw); go_simp; try with_reducible rfl)
  try simp only [Act.put, List.setIfInBounds_toArray, List.set_cons_zero, List.set_cons_succ]
  refine wpAnyH_take (i := 10) (oi := { dst := some 29, op := Go.Op.load 4 (Go.Operand.tmp 28), type := 4, pos := "net.go:92", after := #[{ on := 9, ground := Go.Ground.data }, { on := 6, ground := Go.Ground.guard }], guard := some (6, true) }) (v := ?_) rfl (by kernel_rfl) (by kernel_rfl) (by kernel_rfl) (fun _ _ _ h => h) (Or.inl ⟨by rfl, ?_⟩) (by assumption) ?_
  rotate_left 1
  focus (intro w hSw; (try dsimp only at hSw); go_simp; try with_reducible rfl)
  try simp only [Act.put, List.setIfInBounds_toArray, List.set_cons_zero, List.set_cons_succ]
  refine wpAnyH_take (i := 11) (oi := { dst := some 30, op := Go.Op.unOp Go.UnOp.not 4 (Go.Operand.tmp 29), type := 4, pos := "net.go:92", after := #[{ on := 10, ground := Go.Ground.data }, { on := 6, ground := Go.Ground.guard }], guard := some (6, true) }) (v := ?_) rfl (by kernel_rfl) (by kernel_rfl) (by kernel_rfl) (fun _ _ _ h => h) (Or.inl ⟨by rfl, ?_⟩) (by assumption) ?_
  rotate_left 1
  focus (intro w hSw; (try dsimp only at hSw); go_simp; try with_reducible rfl)
  try simp only [Act.put, List.setIfInBounds_toArray, List.set_cons_zero, List.set_cons_succ]
  refine wpAnyH_take (i := 12) (oi := { dst := some 31, op := Go.Op.move (Go.Operand.tmp 30), type := 4, pos := "net.go:92", after := #[{ on := 11, ground := Go.Ground.data }, { on := 6, ground := Go.Ground.chain }, { on := 6, ground := Go.Ground.guard }], guard := some (6, true) }) (v := ?_) rfl (by kernel_rfl) (by kernel_rfl) (by kernel_rfl) (fun _ _ _ h => h) (Or.inl ⟨by rfl, ?_⟩) (by assumption) ?_
  rotate_left 1
  focus (intro w hSw; (try dsimp only at hSw); go_simp; try with_reducible rfl)
  try simp only [Act.put, List.setIfInBounds_toArray, List.set_cons_zero, List.set_cons_succ]
  refine wpAnyH_take (i := 13) (oi := { dst := some 32, op := Go.Op.move (Go.Operand.tmp 0), type := 29, pos := "net.go:92", after := #[{ on := 12, ground := Go.Ground.guard }], guard := some (12, false) }) (v := undef) rfl (by kernel_rfl) (by kernel_rfl) (by kernel_rfl) (fun _ _ _ h => h) (Or.inr ⟨by rfl, rfl⟩) (by assumption) ?_
  try simp only [Act.put, List.setIfInBounds_toArray, List.set_cons_zero, List.set_cons_succ]
  refine wpAnyH_take (i := 14) (oi := { dst := some 33, op := Go.Op.nilCheck (Go.Operand.tmp 32), type := 0, pos := "net.go:92", after := #[{ on := 13, ground := Go.Ground.data }, { on := 12, ground := Go.Ground.guard }], guard := some (12, false) }) (v := undef) rfl (by kernel_rfl) (by kernel_rfl) (by kernel_rfl) (fun _ _ _ h => h) (Or.inr ⟨by rfl, rfl⟩) (by assumption) ?_
  try simp only [Act.put, List.setIfInBounds_toArray, List.set_cons_zero, List.set_cons_succ]
  refine wpAnyH_take (i := 15) (oi := { dst := some 34, op := Go.Op.fieldAddr 89 (Go.Operand.tmp 33) 5, type := 0, pos := "net.go:92", after := #[{ on := 14, ground := Go.Ground.data }, { on := 12, ground := Go.Ground.guard }], guard := some (12, false) }) (v := undef) rfl (by kernel_rfl) (by kernel_rfl) (by kernel_rfl) (fun _ _ _ h => h) (Or.inr ⟨by rfl, rfl⟩) (by assumption) ?_
  try simp only [Act.put, List.setIfInBounds_toArray, List.set_cons_zero, List.set_cons_succ]
  refine wpAnyH_take (i := 16) (oi := { dst := some 35, op := Go.Op.load 3 (Go.Operand.tmp 34), type := 3, pos := "net.go:92", after := #[{ on := 15, ground := Go.Ground.data }, { on := 12, ground := Go.Ground.guard }], guard := some (12, false) }) (v := undef) rfl (by kernel_rfl) (by kernel_rfl) (by kernel_rfl) (fun _ _ _ h => h) (Or.inr ⟨by rfl, rfl⟩) (by assumption) ?_
  try simp only [Act.put, List.setIfInBounds_toArray, List.set_cons_zero, List.set_cons_succ]
  refine wpAnyH_take (i := 17) (oi := { dst := some 36, op := Go.Op.move (Go.Operand.tmp 0), type := 29, pos := "net.go:92", after := #[{ on := 12, ground := Go.Ground.guard }], guard := some (12, false) }) (v := undef) rfl (by kernel_rfl) (by kernel_rfl) (by kernel_rfl) (fun _ _ _ h => h) (Or.inr ⟨by rfl, rfl⟩) (by assumption) ?_
  try simp only [Act.put, List.setIfInBounds_toArray, List.set_cons_zero, List.set_cons_succ]
  refine wpAnyH_take (i := 18) (oi := { dst := some 37, op := Go.Op.nilCheck (Go.Operand.tmp 36), type := 0, pos := "net.go:92", after := #[{ on := 17, ground := Go.Ground.data }, { on := 12, ground := Go.Ground.guard }], guard := some (12, false) }) (v := undef) rfl (by kernel_rfl) (by kernel_rfl) (by kernel_rfl) (fun _ _ _ h => h) (Or.inr ⟨by rfl, rfl⟩) (by assumption) ?_
  try simp only [Act.put, List.setIfInBounds_toArray, List.set_cons_zero, List.set_cons_succ]
  refine wpAnyH_take (i := 19) (oi := { dst := some 38, op := Go.Op.fieldAddr 89 (Go.Operand.tmp 37) 6, type := 0, pos := "net.go:92", after := #[{ on := 18, ground := Go.Ground.data }, { on := 12, ground := Go.Ground.guard }], guard := some (12, false) }) (v := undef) rfl (by kernel_rfl) (by kernel_rfl) (by kernel_rfl) (fun _ _ _ h => h) (Or.inr ⟨by rfl, rfl⟩) (by assumption) ?_
  try simp only [Act.put, List.setIfInBounds_toArray, List.set_cons_zero, List.set_cons_succ]
  refine wpAnyH_take (i := 20) (oi := { dst := some 39, op := Go.Op.load 3 (Go.Operand.tmp 38), type := 3, pos := "net.go:92", after := #[{ on := 19, ground := Go.Ground.data }, { on := 12, ground := Go.Ground.guard }], guard := some (12, false) }) (v := undef) rfl (by kernel_rfl) (by kernel_rfl) (by kernel_rfl) (fun _ _ _ h => h) (Or.inr ⟨by rfl, rfl⟩) (by assumption) ?_
  try simp only [Act.put, List.setIfInBounds_toArray, List.set_cons_zero, List.set_cons_succ]
  refine wpAnyH_take (i := 21) (oi := { dst := some 40, op := Go.Op.binOp Go.BinOp.sub 3 (Go.Operand.tmp 35) (Go.Operand.tmp 39) 3, type := 3, pos := "net.go:92", after := #[{ on := 16, ground := Go.Ground.data }, { on := 20, ground := Go.Ground.data }, { on := 12, ground := Go.Ground.guard }], guard := some (12, false) }) (v := undef) rfl (by kernel_rfl) (by kernel_rfl) (by kernel_rfl) (fun _ _ _ h => h) (Or.inr ⟨by rfl, rfl⟩) (by assumption) ?_
  try simp only [Act.put, List.setIfInBounds_toArray, List.set_cons_zero, List.set_cons_succ]
  refine wpAnyH_take (i := 22) (oi := { dst := some 41, op := Go.Op.binOp Go.BinOp.geq 3 (Go.Operand.tmp 40) (Go.Operand.const (Go.Value.int Go.IntKind.i64 4)) 3, type := 4, pos := "net.go:92", after := #[{ on := 21, ground := Go.Ground.data }, { on := 12, ground := Go.Ground.guard }], guard := some (12, false) }) (v := undef) rfl (by kernel_rfl) (by kernel_rfl) (by kernel_rfl) (fun _ _ _ h => h) (Or.inr ⟨by rfl, rfl⟩) (by assumption) ?_
  try simp only [Act.put, List.setIfInBounds_toArray, List.set_cons_zero, List.set_cons_succ]
  refine wpAnyH_take (i := 23) (oi := { dst := some 42, op := Go.Op.pick (Go.Operand.tmp 31) (Go.Operand.const (Go.Value.bool true)) (Go.Operand.tmp 41), type := 4, pos := "net.go:92", after := #[{ on := 12, ground := Go.Ground.data }, { on := 22, ground := Go.Ground.data }, { on := 6, ground := Go.Ground.guard }], guard := some (6, true) }) (v := ?_) rfl (by kernel_rfl) (by kernel_rfl) (by kernel_rfl) (fun _ _ _ h => h) (Or.inl ⟨by rfl, ?_⟩) (by assumption) ?_
  rotate_left 1
  focus (intro w hSw; (try dsimp only at hSw); go_simp; try with_reducible rfl)
  try simp only [Act.put, List.setIfInBounds_toArray, List.set_cons_zero, List.set_cons_succ]
  refine wpAnyH_take (i := 24) (oi := { dst := some 43, op := Go.Op.pick (Go.Operand.tmp 25) (Go.Operand.tmp 42) (Go.Operand.const (Go.Value.bool false)), type := 4, pos := "net.go:92", after := #[{ on := 6, ground := Go.Ground.data }, { on := 23, ground := Go.Ground.data }], guard := none }) (v := ?_) rfl (by kernel_rfl) (by kernel_rfl) (by kernel_rfl) (fun _ _ _ h => h) (Or.inl ⟨by rfl, ?_⟩) (by assumption) ?_
  rotate_left 1
  focus (intro w hSw; (try dsimp only at hSw); go_simp; try with_reducible rfl)
  try simp only [Act.put, List.setIfInBounds_toArray, List.set_cons_zero, List.set_cons_succ]
  refine wpAnyH_done (by kernel_rfl) ?_ _
  clear KS K0 H2 HO2 HK2
  have hrow := HZ.out.rowc
  rw [HXX.out] at hrow
  obtain ⟨g, o, c9, cur, hvv, hle9, hL9⟩ := ro_head hrow
  have hva : Value.slice ca cn cc = .slice (some ⟨g, o, none⟩) (L.length + 1) c9 := by rw [← HVC.out]; exact hvv
  cases hva
  obtain ⟨d0, d1, d2, d3, d4, d5, d6, d7, d8, d9, d10⟩ := ro_cells hL9 (i := 0) rfl
  simp only [Nat.zero_mul, Nat.add_zero] at d0 d1 d2 d3 d4 d5 d6 d7 d8 d9 d10
  have c11 := HZ.out.blk.cell (o := 11) rfl
  rw [hvv] at c11
  have hrow2 := hrow
  rw [hvv] at hrow2
  have tl := ro_tail hrow2
  have TL := Lib.hid tl
  simp only [Option.map_some, Go.WideShapes.add_plain] at TL
  have hl1 : (1 : Int) ≤ ((L.length + 1 : Nat) : Int) := by omega
  have hc1 : (1 : Int) ≤ (cc : Int) := by omega
  have hl2 : 1 ≤ L.length + 1 := by omega
  have hc2 : 1 ≤ cc := by omega
  have hv9 := HVC.out
  have HROW := Lib.hid hrow
  have hlr : L.length + 1 - 1 = L.length := by omega
  clear hrow hrow2 tl hvv hL9 c11
  obtain ⟨ln, hln⟩ : ∃ ln, L.length + 1 = ln := ⟨_, rfl⟩
  have HLN := Lib.hid hln
  rw [hln] at hl1 hl2 hmode hcl hcc1 hlr hlen
  simp only [hln]
  have HSUB : Hid (∀ y, y ∈ L → y ∈ cr ∨ Rok w0 y) := Lib.hid fun y hy => Or.inl (by rw [HXX.out]; exact List.mem_cons_of_mem _ hy)
  have TL1 : Hid (∀ w', Kept (fun _ => False) z0 w' → Ro.Row rT w' (.slice (if cc = 1 then some ⟨g, o, none⟩ else some ⟨g, o + 11, none⟩) (ln - 1) (cc - 1)) L) := Lib.hid fun w' k => by have := TL.out.1.old k; rw [← hlr] at this; exact this
  have TL2 : Hid (∀ g', (Value.slice (if cc = 1 then some ⟨g, o, none⟩ else some ⟨g, o + 11, none⟩) (ln - 1) (cc - 1)).ownBlock = some g' → vc.ownBlock = some g') := Lib.hid fun g' hg => by rw [hv9]; exact TL.out.2 g' (by rw [← hlr]; exact hg)
  have ROUT : Hid (¬ frp m vs (.slice (if cc = 1 then some ⟨g, o, none⟩ else some ⟨g, o + 11, none⟩) (ln - 1) (cc - 1)) rb) := by
    refine Lib.hid fun f => ?_
    have hh : frp m vs vc rb := by
      rcases f with e | ⟨k, hk, e⟩ | e
      · exact Or.inl e
      · exact Or.inr (Or.inl ⟨k, hk, e⟩)
      · exact Or.inr (Or.inr (TL2.out _ e))
    have := H.out.bound hh
    have := HRB.out
    omega
  have RNW : Hid (∀ i, frp m vs (.slice (if cc = 1 then some ⟨g, o, none⟩ else some ⟨g, o + 11, none⟩) (ln - 1) (cc - 1)) i → frp m vs vc i ∨ w.heap.size ≤ i) := Lib.hid fun i f => Or.inl (by
    rcases f with e | ⟨k, hk, e⟩ | e
    · exact Or.inl e
    · exact Or.inr (Or.inl ⟨k, hk, e⟩)
    · exact Or.inr (Or.inr (TL2.out _ e)))
  clear hln hlr hv9 hle9
  obtain ⟨⟨x1, x2, x3, x4, x5, x6, x7, x8, x9, xd⟩, xa, xc, xq⟩ := x
  go_upto_region 4 with fail
  have hI := Blk.new z0 [.int .i64 x1, .int .i64 x2, .int .i64 x3, .int .i64 x4, .int .u64 (x5 : Int), .int .i64 x6, .int .i64 x7, .int .i64 x8, .int .i64 x9, .slice xa xd.length xc, .int .i64 xq] tI
  have hk3 := (Kept.refl (fun _ => False) z0).alloc (.cells [.int .i64 x1, .int .i64 x2, .int .i64 x3, .int .i64 x4, .int .u64 (x5 : Int), .int .i64 x6, .int .i64 x7, .int .i64 x8, .int .i64 x9, .slice xa xd.length xc, .int .i64 xq].toArray tI)
  dsimp only [List.toArray] at hI hk3
  have HZ3 := Lib.hid (HZ.out.old hk3)
  have HO3 := Lib.hid (hk3.blk HOZ.out (fun f => f))
  have HK3 := Lib.hid (HKZ.out.trans (hk3.mono (fun _ _ f => f.elim)))
  have TR3 := Lib.hid (TL1.out _ hk3)
  have hob : rb < z0.heap.size := HOZ.out.lt
  have HI := Lib.hid hI
  clear hk3 hI d0 d1 d2 d3 d4 d5 d6 d7 d8 d9 d10
  generalize z0.alloc (.cells #[.int .i64 x1, .int .i64 x2, .int .i64 x3, .int .i64 x4, .int .u64 (x5 : Int), .int .i64 x6, .int .i64 x7, .int .i64 x8, .int .i64 x9, .slice xa xd.length xc, .int .i64 xq] 42) = w3 at *
  have him : z0.heap.size ≠ m := by omega
  generalize z0.heap.size = ib at *
  have c11 : w3.cell? ⟨m, 11, none⟩ = some (.slice (some ⟨g, o, none⟩) ln cc) := by have := HZ3.out.blk.cell (o := 11) rfl; rw [HVC.out] at this; rw [← HLN.out]; exact this
  have f11 := HZ3.out.blk.frozen 11
  have HZ4 := Lib.hid (HZ3.out.recred TR3.out HSUB.out)
  have k4 := Kept.one w3 m 11 (.slice (if cc = 1 then some ⟨g, o, none⟩ else some ⟨g, o + 11, none⟩) (ln - 1) (cc - 1))
  have HO4 := Lib.hid (k4.blk HO3.out (by omega))
  have HI4 := Lib.hid (k4.blk HI.out him)
  have HK4 := Lib.hid (HK3.out.trans k4)
  go_upto_region 5 with fail
  generalize w3.setCell ⟨m, 11, none⟩ (.slice (if cc = 1 then some ⟨g, o, none⟩ else some ⟨g, o + 11, none⟩) (ln - 1) (cc - 1)) = w4 at *
  generalize Value.slice (if cc = 1 then some ⟨g, o, none⟩ else some ⟨g, o + 11, none⟩) (ln - 1) (cc - 1) = sv at *
  clear c11 f11 k4 HZ3 HO3 HI HK3 TR3
  have c12 := HZ4.out.blk.cell (o := 12) rfl
  have f13 := HZ4.out.blk.frozen 13
  have c13 := HZ4.out.blk.cell (o := 13) rfl
  have HZ5 := Lib.hid (HZ4.out.setL mm)
  have k5 := Kept.one w4 m 13 (.int .i64 mm)
  have HO5 := Lib.hid (k5.blk HO4.out (by omega))
  have HI5 := Lib.hid (k5.blk HI4.out him)
  have HK5 := Lib.hid (HK4.out.trans k5)
  go_upto_region 6 with fail
  generalize w4.setCell ⟨m, 13, none⟩ (.int .i64 mm) = w5 at *
  clear c12 f13 c13 k5 HZ4 HO4 HI4 HK4
  have c14 := HZ5.out.blk.cell (o := 14) rfl
  have f14 := HZ5.out.blk.frozen 14
  have HZ6 := Lib.hid HZ5.out.setE
  have k6 := Kept.one w5 m 14 (.bool true)
  have hO6 := k6.blk HO5.out (by omega)
  have hI6 := k6.blk HI5.out him
  have HK6 := Lib.hid (HK5.out.trans k6)
  go_upto_region 7 with fail
  generalize w5.setCell ⟨m, 14, none⟩ (.bool true) = w6 at *
  clear c14 f14 k6 HZ5 HO5 HI5 HK5
  have i0 := hI6.cell (o := 0) rfl
  have i1 := hI6.cell (o := 1) rfl
  have i2 := hI6.cell (o := 2) rfl
  have i3 := hI6.cell (o := 3) rfl
  have i4 := hI6.cell (o := 4) rfl
  have i5 := hI6.cell (o := 5) rfl
  have i6 := hI6.cell (o := 6) rfl
  have i7 := hI6.cell (o := 7) rfl
  have i8 := hI6.cell (o := 8) rfl
  have i9 := hI6.cell (o := 9) rfl
  have i10 := hI6.cell (o := 10) rfl
  have n0 := hO6.cell (o := 0) rfl
  have n1 := hO6.cell (o := 1) rfl
  have n2 := hO6.cell (o := 2) rfl
  have n3 := hO6.cell (o := 3) rfl
  have n4 := hO6.cell (o := 4) rfl
  have n5 := hO6.cell (o := 5) rfl
  have n6 := hO6.cell (o := 6) rfl
  have n7 := hO6.cell (o := 7) rfl
  have n8 := hO6.cell (o := 8) rfl
  have n9 := hO6.cell (o := 9) rfl
  have n10 := hO6.cell (o := 10) rfl
  have fz0 := hO6.frozen 0
  have fz1 := hO6.frozen 1
  have fz2 := hO6.frozen 2
  have fz3 := hO6.frozen 3
  have fz4 := hO6.frozen 4
  have fz5 := hO6.frozen 5
  have fz6 := hO6.frozen 6
  have fz7 := hO6.frozen 7
  have fz8 := hO6.frozen 8
  have fz9 := hO6.frozen 9
  have fz10 := hO6.frozen 10
  have hO7 := set11_blk hO6 rfl ⟨⟨x1, x2, x3, x4, x5, x6, x7, x8, x9, xd⟩, xa, xc, xq⟩
  have k7 := set11_kept w6 rb ⟨⟨x1, x2, x3, x4, x5, x6, x7, x8, x9, xd⟩, xa, xc, xq⟩
  have hZ7 := HZ6.out.kept k7 (fun i e f => by subst e; exact ROUT.out f) (fun i e => by have := H.out.since.size; have := HRB.out; omega)
  have HK7 : Hid (Kept (fun i => i = m) w (set11 w6 rb ⟨⟨x1, x2, x3, x4, x5, x6, x7, x8, x9, xd⟩, xa, xc, xq⟩)) := Lib.hid (HK6.out.trans' k7 (fun i hi e => by have := HRB.out; omega))
  have RES : Hid (∃ R', RS w0 m room most trim (ls) (L) mm mm true R' (set11 w6 rb ⟨⟨x1, x2, x3, x4, x5, x6, x7, x8, x9, xd⟩, xa, xc, xq⟩) ∧ RN m (frp m vs vc) w R' (set11 w6 rb ⟨⟨x1, x2, x3, x4, x5, x6, x7, x8, x9, xd⟩, xa, xc, xq⟩)) := Lib.hid ⟨_, ⟨_, _, hZ7, rfl⟩, HK7.out, RNW.out⟩
  unfold set11 at RES hO7
  dsimp only at RES hO7
  have z0 := hO7.cell (o := 0) rfl
  have z1 := hO7.cell (o := 1) rfl
  have z2 := hO7.cell (o := 2) rfl
  have z3 := hO7.cell (o := 3) rfl
  have z4 := hO7.cell (o := 4) rfl
  have z5 := hO7.cell (o := 5) rfl
  have z6 := hO7.cell (o := 6) rfl
  have z7 := hO7.cell (o := 7) rfl
  have z8 := hO7.cell (o := 8) rfl
  have z9 := hO7.cell (o := 9) rfl
  have z10 := hO7.cell (o := 10) rfl
  clear hI6 hO6 hO7 k7 hZ7 HK7
  go_wp2_with fail
  exact bodyPost_ret (v := .tuple #[bv ⟨⟨x1, x2, x3, x4, x5, x6, x7, x8, x9, xd⟩, xa, xc, xq⟩, .bool true]) (by simp [results, Try.results14, go_sem, z0, z1, z2, z3, z4, z5, z6, z7, z8, z9, z10]) rfl ⟨rfl, RES.out⟩
set_option maxRecDepth 100000 in
set_option maxHeartbeats 8000000 in
theorem rtake_cr_yes (h : Rf w0 m room most trim ls cr now last true vs vc w) {t mm : Int} (hmm : clampI t now 1125899906842624 = mm) (hn0 : 0 ≤ now ∧ 0 ≤ last ∧ last ≤ now) (hn1 : now ≤ 1125899906842624) (hcl : cr.length ≤ 1000) (hmode : 0 < cr.length) (hge : 4 ≤ mm - last) {x : Bx} {L : List Bx} (hx : cr = x :: L) :
    Calls Try.prog 14 #[.pointer (some ⟨m, 0, none⟩), .int .i64 t] w fun e w' => e = .returned (.tuple #[bv x, .bool true]) ∧ ∃ R', RS w0 m room most trim ls L mm mm true R' w' ∧ RN m (frp m vs vc) w R' w' := by
  have hmn : ∀ (ts : Array TypeId) (ty : TypeId) (w : World), (Builtin.min_ ts ty #[.int .i64 t, .int .i64 1125899906842624]).run Try.prog w = .ok (.int .i64 (if 1125899906842624 < t then 1125899906842624 else t)) w := fun ts ty w => run_min_int2 ..
  obtain ⟨q, hq⟩ : ∃ q : Int, (if 1125899906842624 < t then 1125899906842624 else t) = q := ⟨_, rfl⟩
  have hmx : ∀ (ts : Array TypeId) (ty : TypeId) (w : World), (Builtin.max_ ts ty #[.int .i64 now, .int .i64 q]).run Try.prog w = .ok (.int .i64 mm) w := by
    intro ts ty w
    rw [run_max_int2]
    congr 2
    rw [← hmm, ← hq]
    unfold clampI
    split <;> split <;> (try split) <;> omega
  rw [hq] at hmn
  have hl0 := hn0.2.1
  have hlb : last ≤ 1125899906842624 := by omega
  have hl0' := hn0.2.1
  have hmb : 0 ≤ mm ∧ mm ≤ 1125899906842624 := by
    have := clampI_bd t (low := now) (high := 1125899906842624) hn1
    rw [hmm] at this
    omega
  clear hq hmm hn0 hn1
  obtain ⟨ca, cc, hvc, hcc1, hcc2⟩ := h.rowc.slice
  have HVC := Lib.hid hvc
  have H := Lib.hid h
  have HXX := Lib.hid hx
  have hml := h.blk.lt
  clear h hvc hcc2 hx
  obtain ⟨cn, hcn⟩ : ∃ cn, cr.length = cn := ⟨_, rfl⟩
  have HCN := Lib.hid hcn
  rw [hcn] at HVC hcc1 hcl hmode
  clear hcn
  have hlen : (0 : Int) < (cn : Int) := by omega
  have hwl : IntKind.i64.wrap (mm - last) = mm - last := by rw [IntKind.wrap_i64]; omega
  have hgd : decide (4 ≤ mm - last) = true := decide_eq_true hge
  clear hge
  go_enter Try.func14, Try.ntmps14
  go_upto_region 1 with fail
  have hO := Blk.new w [.int .i64 0, .int .i64 0, .int .i64 0, .int .i64 0, .int .u64 0, .int .i64 0, .int .i64 0, .int .i64 0, .int .i64 0, .slice none 0 0, .int .i64 0] tI
  have hk1 := (Kept.refl (fun _ => False) w).alloc (.cells [.int .i64 0, .int .i64 0, .int .i64 0, .int .i64 0, .int .u64 0, .int .i64 0, .int .i64 0, .int .i64 0, .int .i64 0, .slice none 0 0, .int .i64 0].toArray tI)
  dsimp only [List.toArray] at hO hk1
  generalize w.alloc (.cells #[.int .i64 0, .int .i64 0, .int .i64 0, .int .i64 0, .int .u64 0, .int .i64 0, .int .i64 0, .int .i64 0, .int .i64 0, .slice none 0 0, .int .i64 0] 42) = w1 at *
  obtain ⟨rb, hrb⟩ : ∃ rb, w.heap.size = rb := ⟨_, rfl⟩
  rw [hrb] at hO hml
  simp only [hrb]
  have HRB := Lib.hid hrb
  have H1 := Lib.hid (H.out.old hk1)
  have HK1 := Lib.hid hk1
  have HO1 := Lib.hid hO
  clear hrb hk1 hO
  have d12 := H1.out.blk.cell (o := 12) rfl
  have f12 := H1.out.blk.frozen 12
  go_upto_region 2 with fail
  have H2 := Lib.hid (H1.out.setN mm)
  have k2 := Kept.one w1 m 12 (.int .i64 mm)
  have HO2 := Lib.hid (k2.blk HO1.out (by omega))
  have HK2 : Hid (Kept (fun i => i = m) w (w1.setCell ⟨m, 12, none⟩ (.int .i64 mm))) := Lib.hid ((HK1.out.mono (fun _ _ f => f.elim)).trans k2)
  generalize w1.setCell ⟨m, 12, none⟩ (.int .i64 mm) = w2 at *
  clear d12 f12 k2 H1 HO1 HK1 hmn hmx
  have hBz := H2.out.blk
  have KS : Hid (∀ w', Kept (fun _ => False) w2 w' → w'.cell? ⟨m, 11, none⟩ = some (.slice ca cn cc) ∧ w'.cell? ⟨m, 12, none⟩ = some (.int .i64 mm) ∧ w'.cell? ⟨m, 13, none⟩ = some (.int .i64 last) ∧ w'.cell? ⟨m, 14, none⟩ = some (.bool true)) := by
    refine Lib.hid fun w' k => ?_
    have h1 := k.blk H2.out.blk (fun f => f)
    exact ⟨by rw [← HVC.out]; exact h1.cell rfl, h1.cell rfl, h1.cell rfl, h1.cell rfl⟩
  have K0 : Hid (Kept (fun _ => False) w2 w2.drew) := Lib.hid (Kept.refl _ w2).drew
  have HZ := Lib.hid (H2.out.old K0.out)
  have HOZ := Lib.hid (K0.out.blk HO2.out (fun f => f))
  have HKZ := Lib.hid (HK2.out.drew)
  clear hBz
  refine wp_region_held_drew (S := (fun w' => w'.cell? ⟨m, 11, none⟩ = some (.slice ca cn cc) ∧ w'.cell? ⟨m, 12, none⟩ = some (.int .i64 mm) ∧ w'.cell? ⟨m, 13, none⟩ = some (.int .i64 last) ∧ w'.cell? ⟨m, 14, none⟩ = some (.bool true))) (by kernel_rfl) (KS.out _ K0.out) (fun hHeld => ?_)
  generalize w2.drew = z0 at *
  refine wpAnyH_take (i := 0) (oi := { dst := some 19, op := Go.Op.move (Go.Operand.tmp 0), type := 29, pos := "net.go:92", after := #[], guard := none }) (v := ?_) rfl (by kernel_rfl) (by kernel_rfl) (by kernel_rfl) (fun _ _ _ h => h) (Or.inl ⟨by rfl, ?_⟩) (by assumption) ?_
  rotate_left 1
  focus (intro w hSw; (try dsimp only at hSw); go_simp; try with_reducible rfl)
  try simp only [Act.put, List.setIfInBounds_toArray, List.set_cons_zero, List.set_cons_succ]
  refine wpAnyH_take (i := 1) (oi := { dst := some 20, op := Go.Op.nilCheck (Go.Operand.tmp 19), type := 0, pos := "net.go:92", after := #[{ on := 0, ground := Go.Ground.data }], guard := none }) (v := ?_) rfl (by kernel_rfl) (by kernel_rfl) (by kernel_rfl) (fun _ _ _ h => h) (Or.inl ⟨by rfl, ?_⟩) (by assumption) ?_
  rotate_left 1
  focus (intro w hSw; (try dsimp only at hSw); go_simp; try with_reducible rfl)
  try simp only [Act.put, List.setIfInBounds_toArray, List.set_cons_zero, List.set_cons_succ]
  refine wpAnyH_take (i := 2) (oi := { dst := some 21, op := Go.Op.fieldAddr 89 (Go.Operand.tmp 20) 4, type := 0, pos := "net.go:92", after := #[{ on := 1, ground := Go.Ground.data }], guard := none }) (v := ?_) rfl (by kernel_rfl) (by kernel_rfl) (by kernel_rfl) (fun _ _ _ h => h) (Or.inl ⟨by rfl, ?_⟩) (by assumption) ?_
  rotate_left 1
  focus (intro w hSw; (try dsimp only at hSw); go_simp; try with_reducible rfl)
  try simp only [Act.put, List.setIfInBounds_toArray, List.set_cons_zero, List.set_cons_succ]
  refine wpAnyH_take (i := 3) (oi := { dst := some 22, op := Go.Op.load 48 (Go.Operand.tmp 21), type := 48, pos := "net.go:92", after := #[{ on := 2, ground := Go.Ground.data }], guard := none }) (v := ?_) rfl (by kernel_rfl) (by kernel_rfl) (by kernel_rfl) (fun _ _ _ h => h) (Or.inl ⟨by rfl, ?_⟩) (by assumption) ?_
  rotate_left 1
  focus (intro w hSw; (try dsimp only at hSw); go_simp; try with_reducible rfl)
  try simp only [Act.put, List.setIfInBounds_toArray, List.set_cons_zero, List.set_cons_succ]
  refine wpAnyH_take (i := 4) (oi := { dst := some 23, op := Go.Op.call { callee := Go.Callee.builtin Go.Builtin.len, args := #[Go.Operand.tmp 22], argTypes := #[48] }, type := 3, pos := "net.go:92", after := #[{ on := 3, ground := Go.Ground.data }], guard := none }) (v := ?_) rfl (by kernel_rfl) (by kernel_rfl) (by kernel_rfl) (fun _ _ _ h => h) (Or.inl ⟨by rfl, ?_⟩) (by assumption) ?_
  rotate_left 1
  focus (intro w hSw; (try dsimp only at hSw); go_simp; try with_reducible rfl)
  try simp only [Act.put, List.setIfInBounds_toArray, List.set_cons_zero, List.set_cons_succ]
  refine wpAnyH_take (i := 5) (oi := { dst := some 24, op := Go.Op.binOp Go.BinOp.gtr 3 (Go.Operand.tmp 23) (Go.Operand.const (Go.Value.int Go.IntKind.i64 0)) 3, type := 4, pos := "net.go:92", after := #[{ on := 4, ground := Go.Ground.data }], guard := none }) (v := ?_) rfl (by kernel_rfl) (by kernel_rfl) (by kernel_rfl) (fun _ _ _ h => h) (Or.inl ⟨by rfl, ?_⟩) (by assumption) ?_
  rotate_left 1
  focus (intro w hSw; (try dsimp only at hSw); go_simp; try with_reducible rfl)
  try simp only [Act.put, List.setIfInBounds_toArray, List.set_cons_zero, List.set_cons_succ]
  refine wpAnyH_take (i := 6) (oi := { dst := some 25, op := Go.Op.move (Go.Operand.tmp 24), type := 4, pos := "net.go:92", after := #[{ on := 5, ground := Go.Ground.data }], guard := none }) (v := ?_) rfl (by kernel_rfl) (by kernel_rfl) (by kernel_rfl) (fun _ _ _ h => h) (Or.inl ⟨by rfl, ?_⟩) (by assumption) ?_
  rotate_left 1
  focus (intro w hSw; (try dsimp only at hSw); go_simp; try with_reducible rfl)
  try simp only [Act.put, List.setIfInBounds_toArray, List.set_cons_zero, List.set_cons_succ]
  refine wpAnyH_take (i := 7) (oi := { dst := some 26, op := Go.Op.move (Go.Operand.tmp 0), type := 29, pos := "net.go:92", after := #[{ on := 6, ground := Go.Ground.guard }], guard := some (6, true) }) (v := ?_) rfl (by kernel_rfl) (by kernel_rfl) (by kernel_rfl) (fun _ _ _ h => h) (Or.inl ⟨by rfl, ?_⟩) (by assumption) ?_
  rotate_left 1
  focus (intro w hSw; (try dsimp only at hSw); go_simp; try with_reducible rfl)
  try simp only [Act.put, List.setIfInBounds_toArray, List.set_cons_zero, List.set_cons_succ]
  refine wpAnyH_take (i := 8) (oi := { dst := some 27, op := Go.Op.nilCheck (Go.Operand.tmp 26), type := 0, pos := "net.go:92", after := #[{ on := 7, ground := Go.Ground.data }, { on := 6, ground := Go.Ground.guard }], guard := some (6, true) }) (v := ?_) rfl (by kernel_rfl) (by kernel_rfl) (by kernel_rfl) (fun _ _ _ h => h) (Or.inl ⟨by rfl, ?_⟩) (by assumption) ?_
  rotate_left 1
  focus (intro w hSw; (try dsimp only at hSw); go_simp; try with_reducible rfl)
  try simp only [Act.put, List.setIfInBounds_toArray, List.set_cons_zero, List.set_cons_succ]
  refine wpAnyH_take (i := 9) (oi := { dst := some 28, op := Go.Op.fieldAddr 89 (Go.Operand.tmp 27) 7, type := 0, pos := "net.go:92", after := #[{ on := 8, ground := Go.Ground.data }, { on := 6, ground := Go.Ground.guard }], guard := some (6, true) }) (v := ?_) rfl (by kernel_rfl) (by kernel_rfl) (by kernel_rfl) (fun _ _ _ h => h) (Or.inl ⟨by rfl, ?_⟩) (by assumption) ?_
  rotate_left 1
  focus (intro w hSw; (try dsimp only at hSw); go_simp; try with_reducible rfl)
  try simp only [Act.put, List.setIfInBounds_toArray, List.set_cons_zero, List.set_cons_succ]
  refine wpAnyH_take (i := 10) (oi := { dst := some 29, op := Go.Op.load 4 (Go.Operand.tmp 28), type := 4, pos := "net.go:92", after := #[{ on := 9, ground := Go.Ground.data }, { on := 6, ground := Go.Ground.guard }], guard := some (6, true) }) (v := ?_) rfl (by kernel_rfl) (by kernel_rfl) (by kernel_rfl) (fun _ _ _ h => h) (Or.inl ⟨by rfl, ?_⟩) (by assumption) ?_
  rotate_left 1
  focus (intro w hSw; (try dsimp only at hSw); go_simp; try with_reducible rfl)
  try simp only [Act.put, List.setIfInBounds_toArray, List.set_cons_zero, List.set_cons_succ]
  refine wpAnyH_take (i := 11) (oi := { dst := some 30, op := Go.Op.unOp Go.UnOp.not 4 (Go.Operand.tmp 29), type := 4, pos := "net.go:92", after := #[{ on := 10, ground := Go.Ground.data }, { on := 6, ground := Go.Ground.guard }], guard := some (6, true) }) (v := ?_) rfl (by kernel_rfl) (by kernel_rfl) (by kernel_rfl) (fun _ _ _ h => h) (Or.inl ⟨by rfl, ?_⟩) (by assumption) ?_
  rotate_left 1
  focus (intro w hSw; (try dsimp only at hSw); go_simp; try with_reducible rfl)
  try simp only [Act.put, List.setIfInBounds_toArray, List.set_cons_zero, List.set_cons_succ]
  refine wpAnyH_take (i := 12) (oi := { dst := some 31, op := Go.Op.move (Go.Operand.tmp 30), type := 4, pos := "net.go:92", after := #[{ on := 11, ground := Go.Ground.data }, { on := 6, ground := Go.Ground.chain }, { on := 6, ground := Go.Ground.guard }], guard := some (6, true) }) (v := ?_) rfl (by kernel_rfl) (by kernel_rfl) (by kernel_rfl) (fun _ _ _ h => h) (Or.inl ⟨by rfl, ?_⟩) (by assumption) ?_
  rotate_left 1
  focus (intro w hSw; (try dsimp only at hSw); go_simp; try with_reducible rfl)
  try simp only [Act.put, List.setIfInBounds_toArray, List.set_cons_zero, List.set_cons_succ]
  refine wpAnyH_take (i := 13) (oi := { dst := some 32, op := Go.Op.move (Go.Operand.tmp 0), type := 29, pos := "net.go:92", after := #[{ on := 12, ground := Go.Ground.guard }], guard := some (12, false) }) (v := ?_) rfl (by kernel_rfl) (by kernel_rfl) (by kernel_rfl) (fun _ _ _ h => h) (Or.inl ⟨by rfl, ?_⟩) (by assumption) ?_
  rotate_left 1
  focus (intro w hSw; (try dsimp only at hSw); go_simp; try with_reducible rfl)
  try simp only [Act.put, List.setIfInBounds_toArray, List.set_cons_zero, List.set_cons_succ]
  refine wpAnyH_take (i := 14) (oi := { dst := some 33, op := Go.Op.nilCheck (Go.Operand.tmp 32), type := 0, pos := "net.go:92", after := #[{ on := 13, ground := Go.Ground.data }, { on := 12, ground := Go.Ground.guard }], guard := some (12, false) }) (v := ?_) rfl (by kernel_rfl) (by kernel_rfl) (by kernel_rfl) (fun _ _ _ h => h) (Or.inl ⟨by rfl, ?_⟩) (by assumption) ?_
  rotate_left 1
  focus (intro w hSw; (try dsimp only at hSw); go_simp; try with_reducible rfl)
  try simp only [Act.put, List.setIfInBounds_toArray, List.set_cons_zero, List.set_cons_succ]
  refine wpAnyH_take (i := 15) (oi := { dst := some 34, op := Go.Op.fieldAddr 89 (Go.Operand.tmp 33) 5, type := 0, pos := "net.go:92", after := #[{ on := 14, ground := Go.Ground.data }, { on := 12, ground := Go.Ground.guard }], guard := some (12, false) }) (v := ?_) rfl (by kernel_rfl) (by kernel_rfl) (by kernel_rfl) (fun _ _ _ h => h) (Or.inl ⟨by rfl, ?_⟩) (by assumption) ?_
  rotate_left 1
  focus (intro w hSw; (try dsimp only at hSw); go_simp; try with_reducible rfl)
  try simp only [Act.put, List.setIfInBounds_toArray, List.set_cons_zero, List.set_cons_succ]
  refine wpAnyH_take (i := 16) (oi := { dst := some 35, op := Go.Op.load 3 (Go.Operand.tmp 34), type := 3, pos := "net.go:92", after := #[{ on := 15, ground := Go.Ground.data }, { on := 12, ground := Go.Ground.guard }], guard := some (12, false) }) (v := ?_) rfl (by kernel_rfl) (by kernel_rfl) (by kernel_rfl) (fun _ _ _ h => h) (Or.inl ⟨by rfl, ?_⟩) (by assumption) ?_
  rotate_left 1
  focus (intro w hSw; (try dsimp only at hSw); go_simp; try with_reducible rfl)
  try simp only [Act.put, List.setIfInBounds_toArray, List.set_cons_zero, List.set_cons_succ]
  refine wpAnyH_take (i := 17) (oi := { dst := some 36, op := Go.Op.move (Go.Operand.tmp 0), type := 29, pos := "net.go:92", after := #[{ on := 12, ground := Go.Ground.guard }], guard := some (12, false) }) (v := ?_) rfl (by kernel_rfl) (by kernel_rfl) (by kernel_rfl) (fun _ _ _ h => h) (Or.inl ⟨by rfl, ?_⟩) (by assumption) ?_
  rotate_left 1
  focus (intro w hSw; (try dsimp only at hSw); go_simp; try with_reducible rfl)
  try simp only [Act.put, List.setIfInBounds_toArray, List.set_cons_zero, List.set_cons_succ]
  refine wpAnyH_take (i := 18) (oi := { dst := some 37, op := Go.Op.nilCheck (Go.Operand.tmp 36), type := 0, pos := "net.go:92", after := #[{ on := 17, ground := Go.Ground.data }, { on := 12, ground := Go.Ground.guard }], guard := some (12, false) }) (v := ?_) rfl (by kernel_rfl) (by kernel_rfl) (by kernel_rfl) (fun _ _ _ h => h) (Or.inl ⟨by rfl, ?_⟩) (by assumption) ?_
  rotate_left 1
  focus (intro w hSw; (try dsimp only at hSw); go_simp; try with_reducible rfl)
  try simp only [Act.put, List.setIfInBounds_toArray, List.set_cons_zero, List.set_cons_succ]
  refine wpAnyH_take (i := 19) (oi := { dst := some 38, op := Go.Op.fieldAddr 89 (Go.Operand.tmp 37) 6, type := 0, pos := "net.go:92", after := #[{ on := 18, ground := Go.Ground.data }, { on := 12, ground := Go.Ground.guard }], guard := some (12, false) }) (v := ?_) rfl (by kernel_rfl) (by kernel_rfl) (by kernel_rfl) (fun _ _ _ h => h) (Or.inl ⟨by rfl, ?_⟩) (by assumption) ?_
  rotate_left 1
  focus (intro w hSw; (try dsimp only at hSw); go_simp; try with_reducible rfl)
  try simp only [Act.put, List.setIfInBounds_toArray, List.set_cons_zero, List.set_cons_succ]
  refine wpAnyH_take (i := 20) (oi := { dst := some 39, op := Go.Op.load 3 (Go.Operand.tmp 38), type := 3, pos := "net.go:92", after := #[{ on := 19, ground := Go.Ground.data }, { on := 12, ground := Go.Ground.guard }], guard := some (12, false) }) (v := ?_) rfl (by kernel_rfl) (by kernel_rfl) (by kernel_rfl) (fun _ _ _ h => h) (Or.inl ⟨by rfl, ?_⟩) (by assumption) ?_
  rotate_left 1
  focus (intro w hSw; (try dsimp only at hSw); go_simp; try with_reducible rfl)
  try simp only [Act.put, List.setIfInBounds_toArray, List.set_cons_zero, List.set_cons_succ]
  refine wpAnyH_take (i := 21) (oi := { dst := some 40, op := Go.Op.binOp Go.BinOp.sub 3 (Go.Operand.tmp 35) (Go.Operand.tmp 39) 3, type := 3, pos := "net.go:92", after := #[{ on := 16, ground := Go.Ground.data }, { on := 20, ground := Go.Ground.data }, { on := 12, ground := Go.Ground.guard }], guard := some (12, false) }) (v := ?_) rfl (by kernel_rfl) (by kernel_rfl) (by kernel_rfl) (fun _ _ _ h => h) (Or.inl ⟨by rfl, ?_⟩) (by assumption) ?_
  rotate_left 1
  focus (intro w hSw; (try dsimp only at hSw); go_simp; try with_reducible rfl)
  try simp only [Act.put, List.setIfInBounds_toArray, List.set_cons_zero, List.set_cons_succ]
  refine wpAnyH_take (i := 22) (oi := { dst := some 41, op := Go.Op.binOp Go.BinOp.geq 3 (Go.Operand.tmp 40) (Go.Operand.const (Go.Value.int Go.IntKind.i64 4)) 3, type := 4, pos := "net.go:92", after := #[{ on := 21, ground := Go.Ground.data }, { on := 12, ground := Go.Ground.guard }], guard := some (12, false) }) (v := ?_) rfl (by kernel_rfl) (by kernel_rfl) (by kernel_rfl) (fun _ _ _ h => h) (Or.inl ⟨by rfl, ?_⟩) (by assumption) ?_
  rotate_left 1
  focus (intro w hSw; (try dsimp only at hSw); go_simp; try with_reducible rfl)
  try simp only [Act.put, List.setIfInBounds_toArray, List.set_cons_zero, List.set_cons_succ]
  refine wpAnyH_take (i := 23) (oi := { dst := some 42, op := Go.Op.pick (Go.Operand.tmp 31) (Go.Operand.const (Go.Value.bool true)) (Go.Operand.tmp 41), type := 4, pos := "net.go:92", after := #[{ on := 12, ground := Go.Ground.data }, { on := 22, ground := Go.Ground.data }, { on := 6, ground := Go.Ground.guard }], guard := some (6, true) }) (v := ?_) rfl (by kernel_rfl) (by kernel_rfl) (by kernel_rfl) (fun _ _ _ h => h) (Or.inl ⟨by rfl, ?_⟩) (by assumption) ?_
  rotate_left 1
  focus (intro w hSw; (try dsimp only at hSw); go_simp; try with_reducible rfl)
  try simp only [Act.put, List.setIfInBounds_toArray, List.set_cons_zero, List.set_cons_succ]
  refine wpAnyH_take (i := 24) (oi := { dst := some 43, op := Go.Op.pick (Go.Operand.tmp 25) (Go.Operand.tmp 42) (Go.Operand.const (Go.Value.bool false)), type := 4, pos := "net.go:92", after := #[{ on := 6, ground := Go.Ground.data }, { on := 23, ground := Go.Ground.data }], guard := none }) (v := ?_) rfl (by kernel_rfl) (by kernel_rfl) (by kernel_rfl) (fun _ _ _ h => h) (Or.inl ⟨by rfl, ?_⟩) (by assumption) ?_
  rotate_left 1
  focus (intro w hSw; (try dsimp only at hSw); go_simp; try with_reducible rfl)
  try simp only [Act.put, List.setIfInBounds_toArray, List.set_cons_zero, List.set_cons_succ]
  refine wpAnyH_done (by kernel_rfl) ?_ _
  clear KS K0 H2 HO2 HK2
  have hrow := HZ.out.rowc
  rw [HXX.out] at hrow
  obtain ⟨g, o, c9, cur, hvv, hle9, hL9⟩ := ro_head hrow
  have hva : Value.slice ca cn cc = .slice (some ⟨g, o, none⟩) (L.length + 1) c9 := by rw [← HVC.out]; exact hvv
  cases hva
  obtain ⟨d0, d1, d2, d3, d4, d5, d6, d7, d8, d9, d10⟩ := ro_cells hL9 (i := 0) rfl
  simp only [Nat.zero_mul, Nat.add_zero] at d0 d1 d2 d3 d4 d5 d6 d7 d8 d9 d10
  have c11 := HZ.out.blk.cell (o := 11) rfl
  rw [hvv] at c11
  have hrow2 := hrow
  rw [hvv] at hrow2
  have tl := ro_tail hrow2
  have TL := Lib.hid tl
  simp only [Option.map_some, Go.WideShapes.add_plain] at TL
  have hl1 : (1 : Int) ≤ ((L.length + 1 : Nat) : Int) := by omega
  have hc1 : (1 : Int) ≤ (cc : Int) := by omega
  have hl2 : 1 ≤ L.length + 1 := by omega
  have hc2 : 1 ≤ cc := by omega
  have hv9 := HVC.out
  have HROW := Lib.hid hrow
  have hlr : L.length + 1 - 1 = L.length := by omega
  clear hrow hrow2 tl hvv hL9 c11
  obtain ⟨ln, hln⟩ : ∃ ln, L.length + 1 = ln := ⟨_, rfl⟩
  have HLN := Lib.hid hln
  rw [hln] at hl1 hl2 hmode hcl hcc1 hlr hlen
  simp only [hln]
  have HSUB : Hid (∀ y, y ∈ L → y ∈ cr ∨ Rok w0 y) := Lib.hid fun y hy => Or.inl (by rw [HXX.out]; exact List.mem_cons_of_mem _ hy)
  have TL1 : Hid (∀ w', Kept (fun _ => False) z0 w' → Ro.Row rT w' (.slice (if cc = 1 then some ⟨g, o, none⟩ else some ⟨g, o + 11, none⟩) (ln - 1) (cc - 1)) L) := Lib.hid fun w' k => by have := TL.out.1.old k; rw [← hlr] at this; exact this
  have TL2 : Hid (∀ g', (Value.slice (if cc = 1 then some ⟨g, o, none⟩ else some ⟨g, o + 11, none⟩) (ln - 1) (cc - 1)).ownBlock = some g' → vc.ownBlock = some g') := Lib.hid fun g' hg => by rw [hv9]; exact TL.out.2 g' (by rw [← hlr]; exact hg)
  have ROUT : Hid (¬ frp m vs (.slice (if cc = 1 then some ⟨g, o, none⟩ else some ⟨g, o + 11, none⟩) (ln - 1) (cc - 1)) rb) := by
    refine Lib.hid fun f => ?_
    have hh : frp m vs vc rb := by
      rcases f with e | ⟨k, hk, e⟩ | e
      · exact Or.inl e
      · exact Or.inr (Or.inl ⟨k, hk, e⟩)
      · exact Or.inr (Or.inr (TL2.out _ e))
    have := H.out.bound hh
    have := HRB.out
    omega
  have RNW : Hid (∀ i, frp m vs (.slice (if cc = 1 then some ⟨g, o, none⟩ else some ⟨g, o + 11, none⟩) (ln - 1) (cc - 1)) i → frp m vs vc i ∨ w.heap.size ≤ i) := Lib.hid fun i f => Or.inl (by
    rcases f with e | ⟨k, hk, e⟩ | e
    · exact Or.inl e
    · exact Or.inr (Or.inl ⟨k, hk, e⟩)
    · exact Or.inr (Or.inr (TL2.out _ e)))
  clear hln hlr hv9 hle9
  obtain ⟨⟨x1, x2, x3, x4, x5, x6, x7, x8, x9, xd⟩, xa, xc, xq⟩ := x
  go_upto_region 4 with fail
  have hI := Blk.new z0 [.int .i64 x1, .int .i64 x2, .int .i64 x3, .int .i64 x4, .int .u64 (x5 : Int), .int .i64 x6, .int .i64 x7, .int .i64 x8, .int .i64 x9, .slice xa xd.length xc, .int .i64 xq] tI
  have hk3 := (Kept.refl (fun _ => False) z0).alloc (.cells [.int .i64 x1, .int .i64 x2, .int .i64 x3, .int .i64 x4, .int .u64 (x5 : Int), .int .i64 x6, .int .i64 x7, .int .i64 x8, .int .i64 x9, .slice xa xd.length xc, .int .i64 xq].toArray tI)
  dsimp only [List.toArray] at hI hk3
  have HZ3 := Lib.hid (HZ.out.old hk3)
  have HO3 := Lib.hid (hk3.blk HOZ.out (fun f => f))
  have HK3 := Lib.hid (HKZ.out.trans (hk3.mono (fun _ _ f => f.elim)))
  have TR3 := Lib.hid (TL1.out _ hk3)
  have hob : rb < z0.heap.size := HOZ.out.lt
  have HI := Lib.hid hI
  clear hk3 hI d0 d1 d2 d3 d4 d5 d6 d7 d8 d9 d10
  generalize z0.alloc (.cells #[.int .i64 x1, .int .i64 x2, .int .i64 x3, .int .i64 x4, .int .u64 (x5 : Int), .int .i64 x6, .int .i64 x7, .int .i64 x8, .int .i64 x9, .slice xa xd.length xc, .int .i64 xq] 42) = w3 at *
  have him : z0.heap.size ≠ m := by omega
  generalize z0.heap.size = ib at *
  have c11 : w3.cell? ⟨m, 11, none⟩ = some (.slice (some ⟨g, o, none⟩) ln cc) := by have := HZ3.out.blk.cell (o := 11) rfl; rw [HVC.out] at this; rw [← HLN.out]; exact this
  have f11 := HZ3.out.blk.frozen 11
  have HZ4 := Lib.hid (HZ3.out.recred TR3.out HSUB.out)
  have k4 := Kept.one w3 m 11 (.slice (if cc = 1 then some ⟨g, o, none⟩ else some ⟨g, o + 11, none⟩) (ln - 1) (cc - 1))
  have HO4 := Lib.hid (k4.blk HO3.out (by omega))
  have HI4 := Lib.hid (k4.blk HI.out him)
  have HK4 := Lib.hid (HK3.out.trans k4)
  go_upto_region 5 with fail
  generalize w3.setCell ⟨m, 11, none⟩ (.slice (if cc = 1 then some ⟨g, o, none⟩ else some ⟨g, o + 11, none⟩) (ln - 1) (cc - 1)) = w4 at *
  generalize Value.slice (if cc = 1 then some ⟨g, o, none⟩ else some ⟨g, o + 11, none⟩) (ln - 1) (cc - 1) = sv at *
  clear c11 f11 k4 HZ3 HO3 HI HK3 TR3
  have c12 := HZ4.out.blk.cell (o := 12) rfl
  have f13 := HZ4.out.blk.frozen 13
  have c13 := HZ4.out.blk.cell (o := 13) rfl
  have HZ5 := Lib.hid (HZ4.out.setL mm)
  have k5 := Kept.one w4 m 13 (.int .i64 mm)
  have HO5 := Lib.hid (k5.blk HO4.out (by omega))
  have HI5 := Lib.hid (k5.blk HI4.out him)
  have HK5 := Lib.hid (HK4.out.trans k5)
  go_upto_region 6 with fail
  generalize w4.setCell ⟨m, 13, none⟩ (.int .i64 mm) = w5 at *
  clear c12 f13 c13 k5 HZ4 HO4 HI4 HK4
  have c14 := HZ5.out.blk.cell (o := 14) rfl
  have f14 := HZ5.out.blk.frozen 14
  have HZ6 := Lib.hid HZ5.out.setE
  have k6 := Kept.one w5 m 14 (.bool true)
  have hO6 := k6.blk HO5.out (by omega)
  have hI6 := k6.blk HI5.out him
  have HK6 := Lib.hid (HK5.out.trans k6)
  go_upto_region 7 with fail
  generalize w5.setCell ⟨m, 14, none⟩ (.bool true) = w6 at *
  clear c14 f14 k6 HZ5 HO5 HI5 HK5
  have i0 := hI6.cell (o := 0) rfl
  have i1 := hI6.cell (o := 1) rfl
  have i2 := hI6.cell (o := 2) rfl
  have i3 := hI6.cell (o := 3) rfl
  have i4 := hI6.cell (o := 4) rfl
  have i5 := hI6.cell (o := 5) rfl
  have i6 := hI6.cell (o := 6) rfl
  have i7 := hI6.cell (o := 7) rfl
  have i8 := hI6.cell (o := 8) rfl
  have i9 := hI6.cell (o := 9) rfl
  have i10 := hI6.cell (o := 10) rfl
  have n0 := hO6.cell (o := 0) rfl
  have n1 := hO6.cell (o := 1) rfl
  have n2 := hO6.cell (o := 2) rfl
  have n3 := hO6.cell (o := 3) rfl
  have n4 := hO6.cell (o := 4) rfl
  have n5 := hO6.cell (o := 5) rfl
  have n6 := hO6.cell (o := 6) rfl
  have n7 := hO6.cell (o := 7) rfl
  have n8 := hO6.cell (o := 8) rfl
  have n9 := hO6.cell (o := 9) rfl
  have n10 := hO6.cell (o := 10) rfl
  have fz0 := hO6.frozen 0
  have fz1 := hO6.frozen 1
  have fz2 := hO6.frozen 2
  have fz3 := hO6.frozen 3
  have fz4 := hO6.frozen 4
  have fz5 := hO6.frozen 5
  have fz6 := hO6.frozen 6
  have fz7 := hO6.frozen 7
  have fz8 := hO6.frozen 8
  have fz9 := hO6.frozen 9
  have fz10 := hO6.frozen 10
  have hO7 := set11_blk hO6 rfl ⟨⟨x1, x2, x3, x4, x5, x6, x7, x8, x9, xd⟩, xa, xc, xq⟩
  have k7 := set11_kept w6 rb ⟨⟨x1, x2, x3, x4, x5, x6, x7, x8, x9, xd⟩, xa, xc, xq⟩
  have hZ7 := HZ6.out.kept k7 (fun i e f => by subst e; exact ROUT.out f) (fun i e => by have := H.out.since.size; have := HRB.out; omega)
  have HK7 : Hid (Kept (fun i => i = m) w (set11 w6 rb ⟨⟨x1, x2, x3, x4, x5, x6, x7, x8, x9, xd⟩, xa, xc, xq⟩)) := Lib.hid (HK6.out.trans' k7 (fun i hi e => by have := HRB.out; omega))
  have RES : Hid (∃ R', RS w0 m room most trim (ls) (L) mm mm true R' (set11 w6 rb ⟨⟨x1, x2, x3, x4, x5, x6, x7, x8, x9, xd⟩, xa, xc, xq⟩) ∧ RN m (frp m vs vc) w R' (set11 w6 rb ⟨⟨x1, x2, x3, x4, x5, x6, x7, x8, x9, xd⟩, xa, xc, xq⟩)) := Lib.hid ⟨_, ⟨_, _, hZ7, rfl⟩, HK7.out, RNW.out⟩
  unfold set11 at RES hO7
  dsimp only at RES hO7
  have z0 := hO7.cell (o := 0) rfl
  have z1 := hO7.cell (o := 1) rfl
  have z2 := hO7.cell (o := 2) rfl
  have z3 := hO7.cell (o := 3) rfl
  have z4 := hO7.cell (o := 4) rfl
  have z5 := hO7.cell (o := 5) rfl
  have z6 := hO7.cell (o := 6) rfl
  have z7 := hO7.cell (o := 7) rfl
  have z8 := hO7.cell (o := 8) rfl
  have z9 := hO7.cell (o := 9) rfl
  have z10 := hO7.cell (o := 10) rfl
  clear hI6 hO6 hO7 k7 hZ7 HK7
  go_wp2_with fail
  exact bodyPost_ret (v := .tuple #[bv ⟨⟨x1, x2, x3, x4, x5, x6, x7, x8, x9, xd⟩, xa, xc, xq⟩, .bool true]) (by simp [results, Try.results14, go_sem, z0, z1, z2, z3, z4, z5, z6, z7, z8, z9, z10]) rfl ⟨rfl, RES.out⟩
end Go.Proofs.Ytompbpiaapenaaa.Rf

/- The reference's port: Take of its lines. Conditions: each theorem's own. -/
namespace Go.Proofs.Ytompbpiaapenaaa.Rf
open Go.RowKit Hp QuM Rw Qu Po NumM NumC
attribute [local go_sem ↓] Go.wp_at_zero Go.wp_at_succ
variable {w0 w w' : World} {m : Nat} {room most : Int} {trim : Bool} {ls : Nat → List Bx} {cr : List Bx} {now last : Int} {ever : Bool} {vs : Nat → Value} {vc : Value} {R G : Nat → Prop}
/-- What Take of the lines leaves. -/
def TkL (w0 : World) (m : Nat) (room most : Int) (trim : Bool) (ls : Nat → List Bx) (cr : List Bx) (now last : Int) (ever : Bool) (R : Nat → Prop) (w : World) (e : Ending) (w' : World) : Prop :=
  (top ls 8 = none ∧ e = .returned (.tuple #[bv zB, .bool false]) ∧ ∃ R', RS w0 m room most trim ls cr now last ever R' w' ∧ RN m R w R' w') ∨
  (∃ p x L, top ls 8 = some p ∧ ls p = x :: L ∧ e = .returned (.tuple #[bv x, .bool true]) ∧ ∃ R', RS w0 m room most trim (upd ls p L) cr now last ever R' w' ∧ RN m R w R' w')
set_option maxRecDepth 100000 in
set_option maxHeartbeats 8000000 in
theorem rtake_ln_off (h : Rf w0 m room most trim ls cr now last ever vs vc w) {t mm : Int} (hmm : clampI t now 1125899906842624 = mm) (hn0 : 0 ≤ now ∧ 0 ≤ last ∧ last ≤ now) (hn1 : now ≤ 1125899906842624) (hcl : cr.length ≤ 1000) (hmode : cr.length = 0) (hll : ∀ k, k < 8 → (ls k).length ≤ 1000) :
    Calls Try.prog 14 #[.pointer (some ⟨m, 0, none⟩), .int .i64 t] w fun e w' => TkL w0 m room most trim ls cr mm last ever (frp m vs vc) w e w' := by
  have hmn : ∀ (ts : Array TypeId) (ty : TypeId) (w : World), (Builtin.min_ ts ty #[.int .i64 t, .int .i64 1125899906842624]).run Try.prog w = .ok (.int .i64 (if 1125899906842624 < t then 1125899906842624 else t)) w := fun ts ty w => run_min_int2 ..
  obtain ⟨q, hq⟩ : ∃ q : Int, (if 1125899906842624 < t then 1125899906842624 else t) = q := ⟨_, rfl⟩
  have hmx : ∀ (ts : Array TypeId) (ty : TypeId) (w : World), (Builtin.max_ ts ty #[.int .i64 now, .int .i64 q]).run Try.prog w = .ok (.int .i64 mm) w := by
    intro ts ty w
    rw [run_max_int2]
    congr 2
    rw [← hmm, ← hq]
    unfold clampI
    split <;> split <;> (try split) <;> omega
  rw [hq] at hmn
  have hlb : last ≤ 1125899906842624 := by omega
  have hmb : 0 ≤ mm ∧ mm ≤ 1125899906842624 := by
    have := clampI_bd t (low := now) (high := 1125899906842624) hn1
    rw [hmm] at this
    omega
  clear hq hmm hn0 hn1
  obtain ⟨ca, cc, hvc, hcc1, hcc2⟩ := h.rowc.slice
  have HVC := Lib.hid hvc
  have H := Lib.hid h
  have hml := h.blk.lt
  clear h hvc hcc2
  obtain ⟨cn, hcn⟩ : ∃ cn, cr.length = cn := ⟨_, rfl⟩
  have HCN := Lib.hid hcn
  rw [hcn] at HVC hcc1 hcl hmode
  clear hcn
  subst hmode
  go_enter Try.func14, Try.ntmps14
  go_upto_region 1 with fail
  have hO := Blk.new w [.int .i64 0, .int .i64 0, .int .i64 0, .int .i64 0, .int .u64 0, .int .i64 0, .int .i64 0, .int .i64 0, .int .i64 0, .slice none 0 0, .int .i64 0] tI
  have hk1 := (Kept.refl (fun _ => False) w).alloc (.cells [.int .i64 0, .int .i64 0, .int .i64 0, .int .i64 0, .int .u64 0, .int .i64 0, .int .i64 0, .int .i64 0, .int .i64 0, .slice none 0 0, .int .i64 0].toArray tI)
  dsimp only [List.toArray] at hO hk1
  generalize w.alloc (.cells #[.int .i64 0, .int .i64 0, .int .i64 0, .int .i64 0, .int .u64 0, .int .i64 0, .int .i64 0, .int .i64 0, .int .i64 0, .slice none 0 0, .int .i64 0] 42) = w1 at *
  obtain ⟨rb, hrb⟩ : ∃ rb, w.heap.size = rb := ⟨_, rfl⟩
  rw [hrb] at hO hml
  simp only [hrb]
  have HRB := Lib.hid hrb
  have H1 := Lib.hid (H.out.old hk1)
  have HK1 := Lib.hid hk1
  have HO1 := Lib.hid hO
  clear hrb hk1 hO
  have d12 := H1.out.blk.cell (o := 12) rfl
  have f12 := H1.out.blk.frozen 12
  go_upto_region 2 with fail
  have H2 := Lib.hid (H1.out.setN mm)
  have k2 := Kept.one w1 m 12 (.int .i64 mm)
  have HO2 := Lib.hid (k2.blk HO1.out (by omega))
  have HK2 : Hid (Kept (fun i => i = m) w (w1.setCell ⟨m, 12, none⟩ (.int .i64 mm))) := Lib.hid ((HK1.out.mono (fun _ _ f => f.elim)).trans k2)
  generalize w1.setCell ⟨m, 12, none⟩ (.int .i64 mm) = w2 at *
  clear d12 f12 k2 H1 HO1 HK1 hmn hmx
  have hBz := H2.out.blk
  have KS : Hid (∀ w', Kept (fun _ => False) w2 w' → w'.cell? ⟨m, 11, none⟩ = some (.slice ca 0 cc) ∧ w'.cell? ⟨m, 12, none⟩ = some (.int .i64 mm) ∧ w'.cell? ⟨m, 13, none⟩ = some (.int .i64 last) ∧ w'.cell? ⟨m, 14, none⟩ = some (.bool ever)) := by
    refine Lib.hid fun w' k => ?_
    have h1 := k.blk H2.out.blk (fun f => f)
    exact ⟨by rw [← HVC.out]; exact h1.cell rfl, h1.cell rfl, h1.cell rfl, h1.cell rfl⟩
  have K0 : Hid (Kept (fun _ => False) w2 w2.drew) := Lib.hid (Kept.refl _ w2).drew
  have HZ := Lib.hid (H2.out.old K0.out)
  have HOZ := Lib.hid (K0.out.blk HO2.out (fun f => f))
  have HKZ := Lib.hid (HK2.out.drew)
  clear hBz
  refine wp_region_held_drew (S := (fun w' => w'.cell? ⟨m, 11, none⟩ = some (.slice ca 0 cc) ∧ w'.cell? ⟨m, 12, none⟩ = some (.int .i64 mm) ∧ w'.cell? ⟨m, 13, none⟩ = some (.int .i64 last) ∧ w'.cell? ⟨m, 14, none⟩ = some (.bool ever))) (by kernel_rfl) (KS.out _ K0.out) (fun hHeld => ?_)
  generalize w2.drew = z0 at *
  refine wpAnyH_take (i := 0) (oi := { dst := some 19, op := Go.Op.move (Go.Operand.tmp 0), type := 29, pos := "net.go:92", after := #[], guard := none }) (v := ?_) rfl (by kernel_rfl) (by kernel_rfl) (by kernel_rfl) (fun _ _ _ h => h) (Or.inl ⟨by rfl, ?_⟩) (by assumption) ?_
  rotate_left 1
  focus (intro w hSw; (try dsimp only at hSw); go_simp; try with_reducible rfl)
  try simp only [Act.put, List.setIfInBounds_toArray, List.set_cons_zero, List.set_cons_succ]
  refine wpAnyH_take (i := 1) (oi := { dst := some 20, op := Go.Op.nilCheck (Go.Operand.tmp 19), type := 0, pos := "net.go:92", after := #[{ on := 0, ground := Go.Ground.data }], guard := none }) (v := ?_) rfl (by kernel_rfl) (by kernel_rfl) (by kernel_rfl) (fun _ _ _ h => h) (Or.inl ⟨by rfl, ?_⟩) (by assumption) ?_
  rotate_left 1
  focus (intro w hSw; (try dsimp only at hSw); go_simp; try with_reducible rfl)
  try simp only [Act.put, List.setIfInBounds_toArray, List.set_cons_zero, List.set_cons_succ]
  refine wpAnyH_take (i := 2) (oi := { dst := some 21, op := Go.Op.fieldAddr 89 (Go.Operand.tmp 20) 4, type := 0, pos := "net.go:92", after := #[{ on := 1, ground := Go.Ground.data }], guard := none }) (v := ?_) rfl (by kernel_rfl) (by kernel_rfl) (by kernel_rfl) (fun _ _ _ h => h) (Or.inl ⟨by rfl, ?_⟩) (by assumption) ?_
  rotate_left 1
  focus (intro w hSw; (try dsimp only at hSw); go_simp; try with_reducible rfl)
  try simp only [Act.put, List.setIfInBounds_toArray, List.set_cons_zero, List.set_cons_succ]
  refine wpAnyH_take (i := 3) (oi := { dst := some 22, op := Go.Op.load 48 (Go.Operand.tmp 21), type := 48, pos := "net.go:92", after := #[{ on := 2, ground := Go.Ground.data }], guard := none }) (v := ?_) rfl (by kernel_rfl) (by kernel_rfl) (by kernel_rfl) (fun _ _ _ h => h) (Or.inl ⟨by rfl, ?_⟩) (by assumption) ?_
  rotate_left 1
  focus (intro w hSw; (try dsimp only at hSw); go_simp; try with_reducible rfl)
  try simp only [Act.put, List.setIfInBounds_toArray, List.set_cons_zero, List.set_cons_succ]
  refine wpAnyH_take (i := 4) (oi := { dst := some 23, op := Go.Op.call { callee := Go.Callee.builtin Go.Builtin.len, args := #[Go.Operand.tmp 22], argTypes := #[48] }, type := 3, pos := "net.go:92", after := #[{ on := 3, ground := Go.Ground.data }], guard := none }) (v := ?_) rfl (by kernel_rfl) (by kernel_rfl) (by kernel_rfl) (fun _ _ _ h => h) (Or.inl ⟨by rfl, ?_⟩) (by assumption) ?_
  rotate_left 1
  focus (intro w hSw; (try dsimp only at hSw); go_simp; try with_reducible rfl)
  try simp only [Act.put, List.setIfInBounds_toArray, List.set_cons_zero, List.set_cons_succ]
  refine wpAnyH_take (i := 5) (oi := { dst := some 24, op := Go.Op.binOp Go.BinOp.gtr 3 (Go.Operand.tmp 23) (Go.Operand.const (Go.Value.int Go.IntKind.i64 0)) 3, type := 4, pos := "net.go:92", after := #[{ on := 4, ground := Go.Ground.data }], guard := none }) (v := ?_) rfl (by kernel_rfl) (by kernel_rfl) (by kernel_rfl) (fun _ _ _ h => h) (Or.inl ⟨by rfl, ?_⟩) (by assumption) ?_
  rotate_left 1
  focus (intro w hSw; (try dsimp only at hSw); go_simp; try with_reducible rfl)
  try simp only [Act.put, List.setIfInBounds_toArray, List.set_cons_zero, List.set_cons_succ]
  refine wpAnyH_take (i := 6) (oi := { dst := some 25, op := Go.Op.move (Go.Operand.tmp 24), type := 4, pos := "net.go:92", after := #[{ on := 5, ground := Go.Ground.data }], guard := none }) (v := ?_) rfl (by kernel_rfl) (by kernel_rfl) (by kernel_rfl) (fun _ _ _ h => h) (Or.inl ⟨by rfl, ?_⟩) (by assumption) ?_
  rotate_left 1
  focus (intro w hSw; (try dsimp only at hSw); go_simp; try with_reducible rfl)
  try simp only [Act.put, List.setIfInBounds_toArray, List.set_cons_zero, List.set_cons_succ]
  refine wpAnyH_take (i := 7) (oi := { dst := some 26, op := Go.Op.move (Go.Operand.tmp 0), type := 29, pos := "net.go:92", after := #[{ on := 6, ground := Go.Ground.guard }], guard := some (6, true) }) (v := undef) rfl (by kernel_rfl) (by kernel_rfl) (by kernel_rfl) (fun _ _ _ h => h) (Or.inr ⟨by rfl, rfl⟩) (by assumption) ?_
  try simp only [Act.put, List.setIfInBounds_toArray, List.set_cons_zero, List.set_cons_succ]
  refine wpAnyH_take (i := 8) (oi := { dst := some 27, op := Go.Op.nilCheck (Go.Operand.tmp 26), type := 0, pos := "net.go:92", after := #[{ on := 7, ground := Go.Ground.data }, { on := 6, ground := Go.Ground.guard }], guard := some (6, true) }) (v := undef) rfl (by kernel_rfl) (by kernel_rfl) (by kernel_rfl) (fun _ _ _ h => h) (Or.inr ⟨by rfl, rfl⟩) (by assumption) ?_
  try simp only [Act.put, List.setIfInBounds_toArray, List.set_cons_zero, List.set_cons_succ]
  refine wpAnyH_take (i := 9) (oi := { dst := some 28, op := Go.Op.fieldAddr 89 (Go.Operand.tmp 27) 7, type := 0, pos := "net.go:92", after := #[{ on := 8, ground := Go.Ground.data }, { on := 6, ground := Go.Ground.guard }], guard := some (6, true) }) (v := undef) rfl (by kernel_rfl) (by kernel_rfl) (by kernel_rfl) (fun _ _ _ h => h) (Or.inr ⟨by rfl, rfl⟩) (by assumption) ?_
  try simp only [Act.put, List.setIfInBounds_toArray, List.set_cons_zero, List.set_cons_succ]
  refine wpAnyH_take (i := 10) (oi := { dst := some 29, op := Go.Op.load 4 (Go.Operand.tmp 28), type := 4, pos := "net.go:92", after := #[{ on := 9, ground := Go.Ground.data }, { on := 6, ground := Go.Ground.guard }], guard := some (6, true) }) (v := undef) rfl (by kernel_rfl) (by kernel_rfl) (by kernel_rfl) (fun _ _ _ h => h) (Or.inr ⟨by rfl, rfl⟩) (by assumption) ?_
  try simp only [Act.put, List.setIfInBounds_toArray, List.set_cons_zero, List.set_cons_succ]
  refine wpAnyH_take (i := 11) (oi := { dst := some 30, op := Go.Op.unOp Go.UnOp.not 4 (Go.Operand.tmp 29), type := 4, pos := "net.go:92", after := #[{ on := 10, ground := Go.Ground.data }, { on := 6, ground := Go.Ground.guard }], guard := some (6, true) }) (v := undef) rfl (by kernel_rfl) (by kernel_rfl) (by kernel_rfl) (fun _ _ _ h => h) (Or.inr ⟨by rfl, rfl⟩) (by assumption) ?_
  try simp only [Act.put, List.setIfInBounds_toArray, List.set_cons_zero, List.set_cons_succ]
  refine wpAnyH_take (i := 12) (oi := { dst := some 31, op := Go.Op.move (Go.Operand.tmp 30), type := 4, pos := "net.go:92", after := #[{ on := 11, ground := Go.Ground.data }, { on := 6, ground := Go.Ground.chain }, { on := 6, ground := Go.Ground.guard }], guard := some (6, true) }) (v := undef) rfl (by kernel_rfl) (by kernel_rfl) (by kernel_rfl) (fun _ _ _ h => h) (Or.inr ⟨by rfl, rfl⟩) (by assumption) ?_
  try simp only [Act.put, List.setIfInBounds_toArray, List.set_cons_zero, List.set_cons_succ]
  refine wpAnyH_take (i := 13) (oi := { dst := some 32, op := Go.Op.move (Go.Operand.tmp 0), type := 29, pos := "net.go:92", after := #[{ on := 12, ground := Go.Ground.guard }], guard := some (12, false) }) (v := undef) rfl (by kernel_rfl) (by kernel_rfl) (by kernel_rfl) (fun _ _ _ h => h) (Or.inr ⟨by rfl, rfl⟩) (by assumption) ?_
  try simp only [Act.put, List.setIfInBounds_toArray, List.set_cons_zero, List.set_cons_succ]
  refine wpAnyH_take (i := 14) (oi := { dst := some 33, op := Go.Op.nilCheck (Go.Operand.tmp 32), type := 0, pos := "net.go:92", after := #[{ on := 13, ground := Go.Ground.data }, { on := 12, ground := Go.Ground.guard }], guard := some (12, false) }) (v := undef) rfl (by kernel_rfl) (by kernel_rfl) (by kernel_rfl) (fun _ _ _ h => h) (Or.inr ⟨by rfl, rfl⟩) (by assumption) ?_
  try simp only [Act.put, List.setIfInBounds_toArray, List.set_cons_zero, List.set_cons_succ]
  refine wpAnyH_take (i := 15) (oi := { dst := some 34, op := Go.Op.fieldAddr 89 (Go.Operand.tmp 33) 5, type := 0, pos := "net.go:92", after := #[{ on := 14, ground := Go.Ground.data }, { on := 12, ground := Go.Ground.guard }], guard := some (12, false) }) (v := undef) rfl (by kernel_rfl) (by kernel_rfl) (by kernel_rfl) (fun _ _ _ h => h) (Or.inr ⟨by rfl, rfl⟩) (by assumption) ?_
  try simp only [Act.put, List.setIfInBounds_toArray, List.set_cons_zero, List.set_cons_succ]
  refine wpAnyH_take (i := 16) (oi := { dst := some 35, op := Go.Op.load 3 (Go.Operand.tmp 34), type := 3, pos := "net.go:92", after := #[{ on := 15, ground := Go.Ground.data }, { on := 12, ground := Go.Ground.guard }], guard := some (12, false) }) (v := undef) rfl (by kernel_rfl) (by kernel_rfl) (by kernel_rfl) (fun _ _ _ h => h) (Or.inr ⟨by rfl, rfl⟩) (by assumption) ?_
  try simp only [Act.put, List.setIfInBounds_toArray, List.set_cons_zero, List.set_cons_succ]
  refine wpAnyH_take (i := 17) (oi := { dst := some 36, op := Go.Op.move (Go.Operand.tmp 0), type := 29, pos := "net.go:92", after := #[{ on := 12, ground := Go.Ground.guard }], guard := some (12, false) }) (v := undef) rfl (by kernel_rfl) (by kernel_rfl) (by kernel_rfl) (fun _ _ _ h => h) (Or.inr ⟨by rfl, rfl⟩) (by assumption) ?_
  try simp only [Act.put, List.setIfInBounds_toArray, List.set_cons_zero, List.set_cons_succ]
  refine wpAnyH_take (i := 18) (oi := { dst := some 37, op := Go.Op.nilCheck (Go.Operand.tmp 36), type := 0, pos := "net.go:92", after := #[{ on := 17, ground := Go.Ground.data }, { on := 12, ground := Go.Ground.guard }], guard := some (12, false) }) (v := undef) rfl (by kernel_rfl) (by kernel_rfl) (by kernel_rfl) (fun _ _ _ h => h) (Or.inr ⟨by rfl, rfl⟩) (by assumption) ?_
  try simp only [Act.put, List.setIfInBounds_toArray, List.set_cons_zero, List.set_cons_succ]
  refine wpAnyH_take (i := 19) (oi := { dst := some 38, op := Go.Op.fieldAddr 89 (Go.Operand.tmp 37) 6, type := 0, pos := "net.go:92", after := #[{ on := 18, ground := Go.Ground.data }, { on := 12, ground := Go.Ground.guard }], guard := some (12, false) }) (v := undef) rfl (by kernel_rfl) (by kernel_rfl) (by kernel_rfl) (fun _ _ _ h => h) (Or.inr ⟨by rfl, rfl⟩) (by assumption) ?_
  try simp only [Act.put, List.setIfInBounds_toArray, List.set_cons_zero, List.set_cons_succ]
  refine wpAnyH_take (i := 20) (oi := { dst := some 39, op := Go.Op.load 3 (Go.Operand.tmp 38), type := 3, pos := "net.go:92", after := #[{ on := 19, ground := Go.Ground.data }, { on := 12, ground := Go.Ground.guard }], guard := some (12, false) }) (v := undef) rfl (by kernel_rfl) (by kernel_rfl) (by kernel_rfl) (fun _ _ _ h => h) (Or.inr ⟨by rfl, rfl⟩) (by assumption) ?_
  try simp only [Act.put, List.setIfInBounds_toArray, List.set_cons_zero, List.set_cons_succ]
  refine wpAnyH_take (i := 21) (oi := { dst := some 40, op := Go.Op.binOp Go.BinOp.sub 3 (Go.Operand.tmp 35) (Go.Operand.tmp 39) 3, type := 3, pos := "net.go:92", after := #[{ on := 16, ground := Go.Ground.data }, { on := 20, ground := Go.Ground.data }, { on := 12, ground := Go.Ground.guard }], guard := some (12, false) }) (v := undef) rfl (by kernel_rfl) (by kernel_rfl) (by kernel_rfl) (fun _ _ _ h => h) (Or.inr ⟨by rfl, rfl⟩) (by assumption) ?_
  try simp only [Act.put, List.setIfInBounds_toArray, List.set_cons_zero, List.set_cons_succ]
  refine wpAnyH_take (i := 22) (oi := { dst := some 41, op := Go.Op.binOp Go.BinOp.geq 3 (Go.Operand.tmp 40) (Go.Operand.const (Go.Value.int Go.IntKind.i64 4)) 3, type := 4, pos := "net.go:92", after := #[{ on := 21, ground := Go.Ground.data }, { on := 12, ground := Go.Ground.guard }], guard := some (12, false) }) (v := undef) rfl (by kernel_rfl) (by kernel_rfl) (by kernel_rfl) (fun _ _ _ h => h) (Or.inr ⟨by rfl, rfl⟩) (by assumption) ?_
  try simp only [Act.put, List.setIfInBounds_toArray, List.set_cons_zero, List.set_cons_succ]
  refine wpAnyH_take (i := 23) (oi := { dst := some 42, op := Go.Op.pick (Go.Operand.tmp 31) (Go.Operand.const (Go.Value.bool true)) (Go.Operand.tmp 41), type := 4, pos := "net.go:92", after := #[{ on := 12, ground := Go.Ground.data }, { on := 22, ground := Go.Ground.data }, { on := 6, ground := Go.Ground.guard }], guard := some (6, true) }) (v := undef) rfl (by kernel_rfl) (by kernel_rfl) (by kernel_rfl) (fun _ _ _ h => h) (Or.inr ⟨by rfl, rfl⟩) (by assumption) ?_
  try simp only [Act.put, List.setIfInBounds_toArray, List.set_cons_zero, List.set_cons_succ]
  refine wpAnyH_take (i := 24) (oi := { dst := some 43, op := Go.Op.pick (Go.Operand.tmp 25) (Go.Operand.tmp 42) (Go.Operand.const (Go.Value.bool false)), type := 4, pos := "net.go:92", after := #[{ on := 6, ground := Go.Ground.data }, { on := 23, ground := Go.Ground.data }], guard := none }) (v := ?_) rfl (by kernel_rfl) (by kernel_rfl) (by kernel_rfl) (fun _ _ _ h => h) (Or.inl ⟨by rfl, ?_⟩) (by assumption) ?_
  rotate_left 1
  focus (intro w hSw; (try dsimp only at hSw); go_simp; try with_reducible rfl)
  try simp only [Act.put, List.setIfInBounds_toArray, List.set_cons_zero, List.set_cons_succ]
  refine wpAnyH_done (by kernel_rfl) ?_ _
  clear KS K0 H2 HO2 HK2
  have HLL := Lib.hid hll
  clear hll
  go_wp2_with fail
  go_loopg [7] 8 (fun mk s7 wr => ∃ (i : Nat), Hid (i ≤ mk) ∧ i ≤ 8 ∧ s7 = .int .i64 ((i : Nat) - 1 : Int) ∧ Hid (top ls 8 = top ls i) ∧ Hid (Kept (fun _ => False) z0 wr))
  case atStart => exact ⟨8, Lib.hid (by omega), by omega, rfl, Lib.hid rfl, Lib.hid (Kept.refl _ _)⟩
  case round =>
    obtain ⟨i, hmk, hi, rfl, ht, hkw⟩ := hrel
    have HZr := Lib.hid (HZ.out.old hkw.out)
    have HOr := Lib.hid (hkw.out.blk HOZ.out (fun f => f))
    have HKW := hkw
    have HKr := Lib.hid (HKZ.out.trans (hkw.out.mono (fun _ _ f => f.elim)))
    clear hkw
    have hrbl : rb < wr.heap.size := HOr.out.lt
    rcases Nat.eq_zero_or_pos i with rfl | hlt
    · have HT : Hid (top ls 8 = none) := Lib.hid ht.out
      have hO6 := HOr.out
      have n0 := hO6.cell (o := 0) rfl
      have n1 := hO6.cell (o := 1) rfl
      have n2 := hO6.cell (o := 2) rfl
      have n3 := hO6.cell (o := 3) rfl
      have n4 := hO6.cell (o := 4) rfl
      have n5 := hO6.cell (o := 5) rfl
      have n6 := hO6.cell (o := 6) rfl
      have n7 := hO6.cell (o := 7) rfl
      have n8 := hO6.cell (o := 8) rfl
      have n9 := hO6.cell (o := 9) rfl
      have n10 := hO6.cell (o := 10) rfl
      have fz0 := hO6.frozen 0
      have fz1 := hO6.frozen 1
      have fz2 := hO6.frozen 2
      have fz3 := hO6.frozen 3
      have fz4 := hO6.frozen 4
      have fz5 := hO6.frozen 5
      have fz6 := hO6.frozen 6
      have fz7 := hO6.frozen 7
      have fz8 := hO6.frozen 8
      have fz9 := hO6.frozen 9
      have fz10 := hO6.frozen 10
      have hO7 := set11_blk hO6 rfl zB
      have k7 := set11_kept wr rb zB
      have hZ7 := HZr.out.kept k7 (fun i e f => by subst e; have := H.out.bound f; have := HRB.out; omega) (fun i e => by have := H.out.since.size; have := HRB.out; omega)
      have HK7 : Hid (Kept (fun i => i = m) w (set11 wr rb zB)) := Lib.hid (HKr.out.trans' k7 (fun i hi e => by have := HRB.out; omega))
      have RES : Hid (TkL w0 m room most trim ls cr mm last ever (frp m vs vc) w (.returned (.tuple #[bv zB, .bool false])) (set11 wr rb zB)) := Lib.hid (Or.inl ⟨HT.out, rfl, _, ⟨_, _, hZ7, rfl⟩, HK7.out, fun i f => Or.inl f⟩)
      unfold set11 at RES hO7
      dsimp only [List.length_nil, Int.natCast_zero] at RES hO7
      have z0 := hO7.cell (o := 0) rfl
      have z1 := hO7.cell (o := 1) rfl
      have z2 := hO7.cell (o := 2) rfl
      have z3 := hO7.cell (o := 3) rfl
      have z4 := hO7.cell (o := 4) rfl
      have z5 := hO7.cell (o := 5) rfl
      have z6 := hO7.cell (o := 6) rfl
      have z7 := hO7.cell (o := 7) rfl
      have z8 := hO7.cell (o := 8) rfl
      have z9 := hO7.cell (o := 9) rfl
      have z10 := hO7.cell (o := 10) rfl
      clear hO6 hO7 k7 hZ7 HK7
      go_wp2_with fail
      exact bodyPost_ret (v := .tuple #[bv zB, .bool false]) (by simp [results, Try.results14, go_sem, z0, z1, z2, z3, z4, z5, z6, z7, z8, z9, z10]) rfl RES.out
    · obtain ⟨j, rfl⟩ : ∃ j, i = j + 1 := ⟨i - 1, by omega⟩
      have hj8 : j < 8 := by omega
      obtain ⟨q1, hq1⟩ : ∃ q1 : Int, ((j + 1 : Nat) : Int) - 1 = q1 := ⟨_, rfl⟩
      have hq2 : q1 = (j : Int) := by omega
      rw [hq1]
      subst hq2
      clear hq1
      have hj88 : (j : Int) < 8 := by omega
      have hrow := HZr.out.row j hj8
      have hlj := HLL.out j hj8
      have hBm := HZr.out.blk
      have hc3 := hBm.cell (rcs_at room most trim vs vc mm last ever hj8)
      by_cases e : ls j = []
      · have HTJ : Hid (top ls 8 = top ls j) := Lib.hid (by rw [ht.out]; exact if_pos e)
        rw [e] at hrow
        obtain ⟨a9, c9, hv9, _, _⟩ := hrow.slice
        rw [hv9] at hc3
        have hc3' : wr.cell? ⟨m, 3 + j, none⟩ = some (.slice a9 0 c9) := hc3
        clear hrow hBm hc3 hlj
        go_wp2_with fail
        go_roundg j
        case measure => have := hmk.out; omega
        case rel => exact ⟨j, Lib.hid (Nat.le_refl _), by omega, by go_num, HTJ, HKW⟩
      · have HTJ : Hid (top ls 8 = some j) := Lib.hid (by rw [ht.out]; exact if_neg e)
        obtain ⟨x, L, hxL⟩ : ∃ x L, ls j = x :: L := by
          cases hh : ls j with
          | nil => exact absurd hh e
          | cons x L => exact ⟨x, L, rfl⟩
        have HXX := Lib.hid hxL
        rw [hxL] at hrow hlj
        obtain ⟨g, o, c9, cur, hvv, hle9, hL9⟩ := ro_head hrow
        obtain ⟨d0, d1, d2, d3, d4, d5, d6, d7, d8, d9, d10⟩ := ro_cells hL9 (i := 0) rfl
        simp only [Nat.zero_mul, Nat.add_zero] at d0 d1 d2 d3 d4 d5 d6 d7 d8 d9 d10
        rw [hvv] at hc3
        have hrow2 := hrow
        rw [hvv] at hrow2
        have TL := Lib.hid (ro_tail hrow2)
        simp only [Option.map_some, Go.WideShapes.add_plain] at TL
        rw [List.length_cons] at hlj
        have hlr : L.length + 1 - 1 = L.length := by omega
        have hl2 : 1 ≤ L.length + 1 := by omega
        clear hrow hrow2 hL9 e hBm
        obtain ⟨ln, hln⟩ : ∃ ln, L.length + 1 = ln := ⟨_, rfl⟩
        have HLN := Lib.hid hln
        rw [hln] at hc3 hlj hle9 hlr hl2
        have hln0 : (0 : Int) < (ln : Int) := by omega
        have hl1 : (1 : Int) ≤ (ln : Int) := by omega
        have hc1 : (1 : Int) ≤ (c9 : Int) := by omega
        have hc2 : 1 ≤ c9 := by omega
        have HSUB : Hid (∀ y, y ∈ L → y ∈ ls j ∨ Rok w0 y) := Lib.hid fun y hy => Or.inl (by rw [HXX.out]; exact List.mem_cons_of_mem _ hy)
        have TL1 : Hid (∀ w', Kept (fun _ => False) wr w' → Ro.Row rT w' (.slice (if c9 = 1 then some ⟨g, o, none⟩ else some ⟨g, o + 11, none⟩) (ln - 1) (c9 - 1)) L) := Lib.hid fun w' k => by have := TL.out.1.old k; rw [← hlr] at this; exact this
        have TL2 : Hid (∀ g', (Value.slice (if c9 = 1 then some ⟨g, o, none⟩ else some ⟨g, o + 11, none⟩) (ln - 1) (c9 - 1)).ownBlock = some g' → (vs j).ownBlock = some g') := Lib.hid fun g' hg => by rw [hvv]; exact TL.out.2 g' (by rw [← hlr]; exact hg)
        have HVV := Lib.hid hvv
        clear hln hlr hvv TL
        obtain ⟨⟨x1, x2, x3, x4, x5, x6, x7, x8, x9, xd⟩, xa, xc, xq⟩ := x
        go_upto_region 13 with fail
        have hI := Blk.new wr [.int .i64 x1, .int .i64 x2, .int .i64 x3, .int .i64 x4, .int .u64 (x5 : Int), .int .i64 x6, .int .i64 x7, .int .i64 x8, .int .i64 x9, .slice xa xd.length xc, .int .i64 xq] tI
        have hk3 := (Kept.refl (fun _ => False) wr).alloc (.cells [.int .i64 x1, .int .i64 x2, .int .i64 x3, .int .i64 x4, .int .u64 (x5 : Int), .int .i64 x6, .int .i64 x7, .int .i64 x8, .int .i64 x9, .slice xa xd.length xc, .int .i64 xq].toArray tI)
        dsimp only [List.toArray] at hI hk3
        have HZ3 := Lib.hid (HZr.out.old hk3)
        have HO3 := Lib.hid (hk3.blk HOr.out (fun f => f))
        have HK3 := Lib.hid (HKr.out.trans (hk3.mono (fun _ _ f => f.elim)))
        have TR3 := Lib.hid (TL1.out _ hk3)
        have HI := Lib.hid hI
        have him : wr.heap.size ≠ m := by omega
        have hc33 := hk3.blk HZr.out.blk (fun f => f)
        clear hk3 hI hc3 d0 d1 d2 d3 d4 d5 d6 d7 d8 d9 d10
        generalize wr.alloc (.cells #[.int .i64 x1, .int .i64 x2, .int .i64 x3, .int .i64 x4, .int .u64 (x5 : Int), .int .i64 x6, .int .i64 x7, .int .i64 x8, .int .i64 x9, .slice xa xd.length xc, .int .i64 xq] 42) = w3 at *
        generalize wr.heap.size = ib at *
        have c3 : w3.cell? ⟨m, 3 + j, none⟩ = some (.slice (some ⟨g, o, none⟩) ln c9) := by have := hc33.cell (rcs_at room most trim vs vc mm last ever hj8); rw [HVV.out] at this; rw [← HLN.out]; exact this
        have f3 := hc33.frozen (3 + j)
        clear hc33
        go_wp2_with fail
        go_region_with (fail)
        all_goals
          generalize Value.slice (if c9 = 1 then some ⟨g, o, none⟩ else some ⟨g, o + 11, none⟩) (ln - 1) (c9 - 1) = sv at *
          have HZ6 := Lib.hid ((HZ3.out.reline hj8 TR3.out HSUB.out).old (Kept.refl _ _).drew)
          have k4 := (Kept.one w3 m (3 + j) sv).drew
          have hO6 := k4.blk HO3.out (by omega)
          have hI6 := k4.blk HI.out him
          have HK6 := Lib.hid (HK3.out.trans k4)
          have FS : Hid (∀ i, frp m (upd vs j sv) vc i → frp m vs vc i) := by
            refine Lib.hid fun i f => ?_
            rcases f with e | ⟨k, hk, e⟩ | e
            · exact Or.inl e
            · by_cases e2 : k = j
              · subst e2; rw [upd_self] at e; exact Or.inr (Or.inl ⟨k, hk, TL2.out _ e⟩)
              · rw [upd_ne _ _ e2] at e; exact Or.inr (Or.inl ⟨k, hk, e⟩)
            · exact Or.inr (Or.inr e)
          have ROUT : Hid (¬ frp m (upd vs j sv) vc rb) := Lib.hid fun f => by have := H.out.bound (FS.out _ f); have := HRB.out; omega
          have RNW : Hid (∀ i, frp m (upd vs j sv) vc i → frp m vs vc i ∨ w.heap.size ≤ i) := Lib.hid fun i f => Or.inl (FS.out i f)
          clear k4 HZ3 HO3 HI HK3 TR3 c3 f3
          generalize (w3.setCell ⟨m, 3 + j, none⟩ sv).drew = w6 at *
          have i0 := hI6.cell (o := 0) rfl
          have i1 := hI6.cell (o := 1) rfl
          have i2 := hI6.cell (o := 2) rfl
          have i3 := hI6.cell (o := 3) rfl
          have i4 := hI6.cell (o := 4) rfl
          have i5 := hI6.cell (o := 5) rfl
          have i6 := hI6.cell (o := 6) rfl
          have i7 := hI6.cell (o := 7) rfl
          have i8 := hI6.cell (o := 8) rfl
          have i9 := hI6.cell (o := 9) rfl
          have i10 := hI6.cell (o := 10) rfl
          have n0 := hO6.cell (o := 0) rfl
          have n1 := hO6.cell (o := 1) rfl
          have n2 := hO6.cell (o := 2) rfl
          have n3 := hO6.cell (o := 3) rfl
          have n4 := hO6.cell (o := 4) rfl
          have n5 := hO6.cell (o := 5) rfl
          have n6 := hO6.cell (o := 6) rfl
          have n7 := hO6.cell (o := 7) rfl
          have n8 := hO6.cell (o := 8) rfl
          have n9 := hO6.cell (o := 9) rfl
          have n10 := hO6.cell (o := 10) rfl
          have fz0 := hO6.frozen 0
          have fz1 := hO6.frozen 1
          have fz2 := hO6.frozen 2
          have fz3 := hO6.frozen 3
          have fz4 := hO6.frozen 4
          have fz5 := hO6.frozen 5
          have fz6 := hO6.frozen 6
          have fz7 := hO6.frozen 7
          have fz8 := hO6.frozen 8
          have fz9 := hO6.frozen 9
          have fz10 := hO6.frozen 10
          have hO7 := set11_blk hO6 rfl ⟨⟨x1, x2, x3, x4, x5, x6, x7, x8, x9, xd⟩, xa, xc, xq⟩
          have k7 := set11_kept w6 rb ⟨⟨x1, x2, x3, x4, x5, x6, x7, x8, x9, xd⟩, xa, xc, xq⟩
          have hZ7 := HZ6.out.kept k7 (fun i e f => by subst e; exact ROUT.out f) (fun i e => by have := H.out.since.size; have := HRB.out; omega)
          have HK7 : Hid (Kept (fun i => i = m) w (set11 w6 rb ⟨⟨x1, x2, x3, x4, x5, x6, x7, x8, x9, xd⟩, xa, xc, xq⟩)) := Lib.hid (HK6.out.trans' k7 (fun i hi e => by have := HRB.out; omega))
          have RES : Hid (∃ R', RS w0 m room most trim (upd ls j L) (cr) mm last ever R' (set11 w6 rb ⟨⟨x1, x2, x3, x4, x5, x6, x7, x8, x9, xd⟩, xa, xc, xq⟩) ∧ RN m (frp m vs vc) w R' (set11 w6 rb ⟨⟨x1, x2, x3, x4, x5, x6, x7, x8, x9, xd⟩, xa, xc, xq⟩)) := Lib.hid ⟨_, ⟨_, _, hZ7, rfl⟩, HK7.out, RNW.out⟩
          unfold set11 at RES hO7
          dsimp only at RES hO7
          have z0 := hO7.cell (o := 0) rfl
          have z1 := hO7.cell (o := 1) rfl
          have z2 := hO7.cell (o := 2) rfl
          have z3 := hO7.cell (o := 3) rfl
          have z4 := hO7.cell (o := 4) rfl
          have z5 := hO7.cell (o := 5) rfl
          have z6 := hO7.cell (o := 6) rfl
          have z7 := hO7.cell (o := 7) rfl
          have z8 := hO7.cell (o := 8) rfl
          have z9 := hO7.cell (o := 9) rfl
          have z10 := hO7.cell (o := 10) rfl
          clear hI6 hO6 hO7 k7 hZ7 HK7
          go_wp2_with fail
          exact bodyPost_ret (v := .tuple #[bv ⟨⟨x1, x2, x3, x4, x5, x6, x7, x8, x9, xd⟩, xa, xc, xq⟩, .bool true]) (by simp [results, Try.results14, go_sem, z0, z1, z2, z3, z4, z5, z6, z7, z8, z9, z10]) rfl (Or.inr ⟨j, ⟨⟨x1, x2, x3, x4, x5, x6, x7, x8, x9, xd⟩, xa, xc, xq⟩, L, HTJ.out, HXX.out, rfl, RES.out⟩)
set_option maxRecDepth 100000 in
set_option maxHeartbeats 8000000 in
theorem rtake_ln_no (h : Rf w0 m room most trim ls cr now last true vs vc w) {t mm : Int} (hmm : clampI t now 1125899906842624 = mm) (hn0 : 0 ≤ now ∧ 0 ≤ last ∧ last ≤ now) (hn1 : now ≤ 1125899906842624) (hcl : cr.length ≤ 1000) (hmode : 0 < cr.length) (hge : ¬ 4 ≤ mm - last) (hll : ∀ k, k < 8 → (ls k).length ≤ 1000) :
    Calls Try.prog 14 #[.pointer (some ⟨m, 0, none⟩), .int .i64 t] w fun e w' => TkL w0 m room most trim ls cr mm last true (frp m vs vc) w e w' := by
  have hmn : ∀ (ts : Array TypeId) (ty : TypeId) (w : World), (Builtin.min_ ts ty #[.int .i64 t, .int .i64 1125899906842624]).run Try.prog w = .ok (.int .i64 (if 1125899906842624 < t then 1125899906842624 else t)) w := fun ts ty w => run_min_int2 ..
  obtain ⟨q, hq⟩ : ∃ q : Int, (if 1125899906842624 < t then 1125899906842624 else t) = q := ⟨_, rfl⟩
  have hmx : ∀ (ts : Array TypeId) (ty : TypeId) (w : World), (Builtin.max_ ts ty #[.int .i64 now, .int .i64 q]).run Try.prog w = .ok (.int .i64 mm) w := by
    intro ts ty w
    rw [run_max_int2]
    congr 2
    rw [← hmm, ← hq]
    unfold clampI
    split <;> split <;> (try split) <;> omega
  rw [hq] at hmn
  have hl0 := hn0.2.1
  have hlb : last ≤ 1125899906842624 := by omega
  have hl0' := hn0.2.1
  have hmb : 0 ≤ mm ∧ mm ≤ 1125899906842624 := by
    have := clampI_bd t (low := now) (high := 1125899906842624) hn1
    rw [hmm] at this
    omega
  clear hq hmm hn0 hn1
  obtain ⟨ca, cc, hvc, hcc1, hcc2⟩ := h.rowc.slice
  have HVC := Lib.hid hvc
  have H := Lib.hid h
  have hml := h.blk.lt
  clear h hvc hcc2
  obtain ⟨cn, hcn⟩ : ∃ cn, cr.length = cn := ⟨_, rfl⟩
  have HCN := Lib.hid hcn
  rw [hcn] at HVC hcc1 hcl hmode
  clear hcn
  have hlen : (0 : Int) < (cn : Int) := by omega
  have hwl : IntKind.i64.wrap (mm - last) = mm - last := by rw [IntKind.wrap_i64]; omega
  have hgd : decide (4 ≤ mm - last) = false := decide_eq_false hge
  clear hge
  go_enter Try.func14, Try.ntmps14
  go_upto_region 1 with fail
  have hO := Blk.new w [.int .i64 0, .int .i64 0, .int .i64 0, .int .i64 0, .int .u64 0, .int .i64 0, .int .i64 0, .int .i64 0, .int .i64 0, .slice none 0 0, .int .i64 0] tI
  have hk1 := (Kept.refl (fun _ => False) w).alloc (.cells [.int .i64 0, .int .i64 0, .int .i64 0, .int .i64 0, .int .u64 0, .int .i64 0, .int .i64 0, .int .i64 0, .int .i64 0, .slice none 0 0, .int .i64 0].toArray tI)
  dsimp only [List.toArray] at hO hk1
  generalize w.alloc (.cells #[.int .i64 0, .int .i64 0, .int .i64 0, .int .i64 0, .int .u64 0, .int .i64 0, .int .i64 0, .int .i64 0, .int .i64 0, .slice none 0 0, .int .i64 0] 42) = w1 at *
  obtain ⟨rb, hrb⟩ : ∃ rb, w.heap.size = rb := ⟨_, rfl⟩
  rw [hrb] at hO hml
  simp only [hrb]
  have HRB := Lib.hid hrb
  have H1 := Lib.hid (H.out.old hk1)
  have HK1 := Lib.hid hk1
  have HO1 := Lib.hid hO
  clear hrb hk1 hO
  have d12 := H1.out.blk.cell (o := 12) rfl
  have f12 := H1.out.blk.frozen 12
  go_upto_region 2 with fail
  have H2 := Lib.hid (H1.out.setN mm)
  have k2 := Kept.one w1 m 12 (.int .i64 mm)
  have HO2 := Lib.hid (k2.blk HO1.out (by omega))
  have HK2 : Hid (Kept (fun i => i = m) w (w1.setCell ⟨m, 12, none⟩ (.int .i64 mm))) := Lib.hid ((HK1.out.mono (fun _ _ f => f.elim)).trans k2)
  generalize w1.setCell ⟨m, 12, none⟩ (.int .i64 mm) = w2 at *
  clear d12 f12 k2 H1 HO1 HK1 hmn hmx
  have hBz := H2.out.blk
  have KS : Hid (∀ w', Kept (fun _ => False) w2 w' → w'.cell? ⟨m, 11, none⟩ = some (.slice ca cn cc) ∧ w'.cell? ⟨m, 12, none⟩ = some (.int .i64 mm) ∧ w'.cell? ⟨m, 13, none⟩ = some (.int .i64 last) ∧ w'.cell? ⟨m, 14, none⟩ = some (.bool true)) := by
    refine Lib.hid fun w' k => ?_
    have h1 := k.blk H2.out.blk (fun f => f)
    exact ⟨by rw [← HVC.out]; exact h1.cell rfl, h1.cell rfl, h1.cell rfl, h1.cell rfl⟩
  have K0 : Hid (Kept (fun _ => False) w2 w2.drew) := Lib.hid (Kept.refl _ w2).drew
  have HZ := Lib.hid (H2.out.old K0.out)
  have HOZ := Lib.hid (K0.out.blk HO2.out (fun f => f))
  have HKZ := Lib.hid (HK2.out.drew)
  clear hBz
  refine wp_region_held_drew (S := (fun w' => w'.cell? ⟨m, 11, none⟩ = some (.slice ca cn cc) ∧ w'.cell? ⟨m, 12, none⟩ = some (.int .i64 mm) ∧ w'.cell? ⟨m, 13, none⟩ = some (.int .i64 last) ∧ w'.cell? ⟨m, 14, none⟩ = some (.bool true))) (by kernel_rfl) (KS.out _ K0.out) (fun hHeld => ?_)
  generalize w2.drew = z0 at *
  refine wpAnyH_take (i := 0) (oi := { dst := some 19, op := Go.Op.move (Go.Operand.tmp 0), type := 29, pos := "net.go:92", after := #[], guard := none }) (v := ?_) rfl (by kernel_rfl) (by kernel_rfl) (by kernel_rfl) (fun _ _ _ h => h) (Or.inl ⟨by rfl, ?_⟩) (by assumption) ?_
  rotate_left 1
  focus (intro w hSw; (try dsimp only at hSw); go_simp; try with_reducible rfl)
  try simp only [Act.put, List.setIfInBounds_toArray, List.set_cons_zero, List.set_cons_succ]
  refine wpAnyH_take (i := 1) (oi := { dst := some 20, op := Go.Op.nilCheck (Go.Operand.tmp 19), type := 0, pos := "net.go:92", after := #[{ on := 0, ground := Go.Ground.data }], guard := none }) (v := ?_) rfl (by kernel_rfl) (by kernel_rfl) (by kernel_rfl) (fun _ _ _ h => h) (Or.inl ⟨by rfl, ?_⟩) (by assumption) ?_
  rotate_left 1
  focus (intro w hSw; (try dsimp only at hSw); go_simp; try with_reducible rfl)
  try simp only [Act.put, List.setIfInBounds_toArray, List.set_cons_zero, List.set_cons_succ]
  refine wpAnyH_take (i := 2) (oi := { dst := some 21, op := Go.Op.fieldAddr 89 (Go.Operand.tmp 20) 4, type := 0, pos := "net.go:92", after := #[{ on := 1, ground := Go.Ground.data }], guard := none }) (v := ?_) rfl (by kernel_rfl) (by kernel_rfl) (by kernel_rfl) (fun _ _ _ h => h) (Or.inl ⟨by rfl, ?_⟩) (by assumption) ?_
  rotate_left 1
  focus (intro w hSw; (try dsimp only at hSw); go_simp; try with_reducible rfl)
  try simp only [Act.put, List.setIfInBounds_toArray, List.set_cons_zero, List.set_cons_succ]
  refine wpAnyH_take (i := 3) (oi := { dst := some 22, op := Go.Op.load 48 (Go.Operand.tmp 21), type := 48, pos := "net.go:92", after := #[{ on := 2, ground := Go.Ground.data }], guard := none }) (v := ?_) rfl (by kernel_rfl) (by kernel_rfl) (by kernel_rfl) (fun _ _ _ h => h) (Or.inl ⟨by rfl, ?_⟩) (by assumption) ?_
  rotate_left 1
  focus (intro w hSw; (try dsimp only at hSw); go_simp; try with_reducible rfl)
  try simp only [Act.put, List.setIfInBounds_toArray, List.set_cons_zero, List.set_cons_succ]
  refine wpAnyH_take (i := 4) (oi := { dst := some 23, op := Go.Op.call { callee := Go.Callee.builtin Go.Builtin.len, args := #[Go.Operand.tmp 22], argTypes := #[48] }, type := 3, pos := "net.go:92", after := #[{ on := 3, ground := Go.Ground.data }], guard := none }) (v := ?_) rfl (by kernel_rfl) (by kernel_rfl) (by kernel_rfl) (fun _ _ _ h => h) (Or.inl ⟨by rfl, ?_⟩) (by assumption) ?_
  rotate_left 1
  focus (intro w hSw; (try dsimp only at hSw); go_simp; try with_reducible rfl)
  try simp only [Act.put, List.setIfInBounds_toArray, List.set_cons_zero, List.set_cons_succ]
  refine wpAnyH_take (i := 5) (oi := { dst := some 24, op := Go.Op.binOp Go.BinOp.gtr 3 (Go.Operand.tmp 23) (Go.Operand.const (Go.Value.int Go.IntKind.i64 0)) 3, type := 4, pos := "net.go:92", after := #[{ on := 4, ground := Go.Ground.data }], guard := none }) (v := ?_) rfl (by kernel_rfl) (by kernel_rfl) (by kernel_rfl) (fun _ _ _ h => h) (Or.inl ⟨by rfl, ?_⟩) (by assumption) ?_
  rotate_left 1
  focus (intro w hSw; (try dsimp only at hSw); go_simp; try with_reducible rfl)
  try simp only [Act.put, List.setIfInBounds_toArray, List.set_cons_zero, List.set_cons_succ]
  refine wpAnyH_take (i := 6) (oi := { dst := some 25, op := Go.Op.move (Go.Operand.tmp 24), type := 4, pos := "net.go:92", after := #[{ on := 5, ground := Go.Ground.data }], guard := none }) (v := ?_) rfl (by kernel_rfl) (by kernel_rfl) (by kernel_rfl) (fun _ _ _ h => h) (Or.inl ⟨by rfl, ?_⟩) (by assumption) ?_
  rotate_left 1
  focus (intro w hSw; (try dsimp only at hSw); go_simp; try with_reducible rfl)
  try simp only [Act.put, List.setIfInBounds_toArray, List.set_cons_zero, List.set_cons_succ]
  refine wpAnyH_take (i := 7) (oi := { dst := some 26, op := Go.Op.move (Go.Operand.tmp 0), type := 29, pos := "net.go:92", after := #[{ on := 6, ground := Go.Ground.guard }], guard := some (6, true) }) (v := ?_) rfl (by kernel_rfl) (by kernel_rfl) (by kernel_rfl) (fun _ _ _ h => h) (Or.inl ⟨by rfl, ?_⟩) (by assumption) ?_
  rotate_left 1
  focus (intro w hSw; (try dsimp only at hSw); go_simp; try with_reducible rfl)
  try simp only [Act.put, List.setIfInBounds_toArray, List.set_cons_zero, List.set_cons_succ]
  refine wpAnyH_take (i := 8) (oi := { dst := some 27, op := Go.Op.nilCheck (Go.Operand.tmp 26), type := 0, pos := "net.go:92", after := #[{ on := 7, ground := Go.Ground.data }, { on := 6, ground := Go.Ground.guard }], guard := some (6, true) }) (v := ?_) rfl (by kernel_rfl) (by kernel_rfl) (by kernel_rfl) (fun _ _ _ h => h) (Or.inl ⟨by rfl, ?_⟩) (by assumption) ?_
  rotate_left 1
  focus (intro w hSw; (try dsimp only at hSw); go_simp; try with_reducible rfl)
  try simp only [Act.put, List.setIfInBounds_toArray, List.set_cons_zero, List.set_cons_succ]
  refine wpAnyH_take (i := 9) (oi := { dst := some 28, op := Go.Op.fieldAddr 89 (Go.Operand.tmp 27) 7, type := 0, pos := "net.go:92", after := #[{ on := 8, ground := Go.Ground.data }, { on := 6, ground := Go.Ground.guard }], guard := some (6, true) }) (v := ?_) rfl (by kernel_rfl) (by kernel_rfl) (by kernel_rfl) (fun _ _ _ h => h) (Or.inl ⟨by rfl, ?_⟩) (by assumption) ?_
  rotate_left 1
  focus (intro w hSw; (try dsimp only at hSw); go_simp; try with_reducible rfl)
  try simp only [Act.put, List.setIfInBounds_toArray, List.set_cons_zero, List.set_cons_succ]
  refine wpAnyH_take (i := 10) (oi := { dst := some 29, op := Go.Op.load 4 (Go.Operand.tmp 28), type := 4, pos := "net.go:92", after := #[{ on := 9, ground := Go.Ground.data }, { on := 6, ground := Go.Ground.guard }], guard := some (6, true) }) (v := ?_) rfl (by kernel_rfl) (by kernel_rfl) (by kernel_rfl) (fun _ _ _ h => h) (Or.inl ⟨by rfl, ?_⟩) (by assumption) ?_
  rotate_left 1
  focus (intro w hSw; (try dsimp only at hSw); go_simp; try with_reducible rfl)
  try simp only [Act.put, List.setIfInBounds_toArray, List.set_cons_zero, List.set_cons_succ]
  refine wpAnyH_take (i := 11) (oi := { dst := some 30, op := Go.Op.unOp Go.UnOp.not 4 (Go.Operand.tmp 29), type := 4, pos := "net.go:92", after := #[{ on := 10, ground := Go.Ground.data }, { on := 6, ground := Go.Ground.guard }], guard := some (6, true) }) (v := ?_) rfl (by kernel_rfl) (by kernel_rfl) (by kernel_rfl) (fun _ _ _ h => h) (Or.inl ⟨by rfl, ?_⟩) (by assumption) ?_
  rotate_left 1
  focus (intro w hSw; (try dsimp only at hSw); go_simp; try with_reducible rfl)
  try simp only [Act.put, List.setIfInBounds_toArray, List.set_cons_zero, List.set_cons_succ]
  refine wpAnyH_take (i := 12) (oi := { dst := some 31, op := Go.Op.move (Go.Operand.tmp 30), type := 4, pos := "net.go:92", after := #[{ on := 11, ground := Go.Ground.data }, { on := 6, ground := Go.Ground.chain }, { on := 6, ground := Go.Ground.guard }], guard := some (6, true) }) (v := ?_) rfl (by kernel_rfl) (by kernel_rfl) (by kernel_rfl) (fun _ _ _ h => h) (Or.inl ⟨by rfl, ?_⟩) (by assumption) ?_
  rotate_left 1
  focus (intro w hSw; (try dsimp only at hSw); go_simp; try with_reducible rfl)
  try simp only [Act.put, List.setIfInBounds_toArray, List.set_cons_zero, List.set_cons_succ]
  refine wpAnyH_take (i := 13) (oi := { dst := some 32, op := Go.Op.move (Go.Operand.tmp 0), type := 29, pos := "net.go:92", after := #[{ on := 12, ground := Go.Ground.guard }], guard := some (12, false) }) (v := ?_) rfl (by kernel_rfl) (by kernel_rfl) (by kernel_rfl) (fun _ _ _ h => h) (Or.inl ⟨by rfl, ?_⟩) (by assumption) ?_
  rotate_left 1
  focus (intro w hSw; (try dsimp only at hSw); go_simp; try with_reducible rfl)
  try simp only [Act.put, List.setIfInBounds_toArray, List.set_cons_zero, List.set_cons_succ]
  refine wpAnyH_take (i := 14) (oi := { dst := some 33, op := Go.Op.nilCheck (Go.Operand.tmp 32), type := 0, pos := "net.go:92", after := #[{ on := 13, ground := Go.Ground.data }, { on := 12, ground := Go.Ground.guard }], guard := some (12, false) }) (v := ?_) rfl (by kernel_rfl) (by kernel_rfl) (by kernel_rfl) (fun _ _ _ h => h) (Or.inl ⟨by rfl, ?_⟩) (by assumption) ?_
  rotate_left 1
  focus (intro w hSw; (try dsimp only at hSw); go_simp; try with_reducible rfl)
  try simp only [Act.put, List.setIfInBounds_toArray, List.set_cons_zero, List.set_cons_succ]
  refine wpAnyH_take (i := 15) (oi := { dst := some 34, op := Go.Op.fieldAddr 89 (Go.Operand.tmp 33) 5, type := 0, pos := "net.go:92", after := #[{ on := 14, ground := Go.Ground.data }, { on := 12, ground := Go.Ground.guard }], guard := some (12, false) }) (v := ?_) rfl (by kernel_rfl) (by kernel_rfl) (by kernel_rfl) (fun _ _ _ h => h) (Or.inl ⟨by rfl, ?_⟩) (by assumption) ?_
  rotate_left 1
  focus (intro w hSw; (try dsimp only at hSw); go_simp; try with_reducible rfl)
  try simp only [Act.put, List.setIfInBounds_toArray, List.set_cons_zero, List.set_cons_succ]
  refine wpAnyH_take (i := 16) (oi := { dst := some 35, op := Go.Op.load 3 (Go.Operand.tmp 34), type := 3, pos := "net.go:92", after := #[{ on := 15, ground := Go.Ground.data }, { on := 12, ground := Go.Ground.guard }], guard := some (12, false) }) (v := ?_) rfl (by kernel_rfl) (by kernel_rfl) (by kernel_rfl) (fun _ _ _ h => h) (Or.inl ⟨by rfl, ?_⟩) (by assumption) ?_
  rotate_left 1
  focus (intro w hSw; (try dsimp only at hSw); go_simp; try with_reducible rfl)
  try simp only [Act.put, List.setIfInBounds_toArray, List.set_cons_zero, List.set_cons_succ]
  refine wpAnyH_take (i := 17) (oi := { dst := some 36, op := Go.Op.move (Go.Operand.tmp 0), type := 29, pos := "net.go:92", after := #[{ on := 12, ground := Go.Ground.guard }], guard := some (12, false) }) (v := ?_) rfl (by kernel_rfl) (by kernel_rfl) (by kernel_rfl) (fun _ _ _ h => h) (Or.inl ⟨by rfl, ?_⟩) (by assumption) ?_
  rotate_left 1
  focus (intro w hSw; (try dsimp only at hSw); go_simp; try with_reducible rfl)
  try simp only [Act.put, List.setIfInBounds_toArray, List.set_cons_zero, List.set_cons_succ]
  refine wpAnyH_take (i := 18) (oi := { dst := some 37, op := Go.Op.nilCheck (Go.Operand.tmp 36), type := 0, pos := "net.go:92", after := #[{ on := 17, ground := Go.Ground.data }, { on := 12, ground := Go.Ground.guard }], guard := some (12, false) }) (v := ?_) rfl (by kernel_rfl) (by kernel_rfl) (by kernel_rfl) (fun _ _ _ h => h) (Or.inl ⟨by rfl, ?_⟩) (by assumption) ?_
  rotate_left 1
  focus (intro w hSw; (try dsimp only at hSw); go_simp; try with_reducible rfl)
  try simp only [Act.put, List.setIfInBounds_toArray, List.set_cons_zero, List.set_cons_succ]
  refine wpAnyH_take (i := 19) (oi := { dst := some 38, op := Go.Op.fieldAddr 89 (Go.Operand.tmp 37) 6, type := 0, pos := "net.go:92", after := #[{ on := 18, ground := Go.Ground.data }, { on := 12, ground := Go.Ground.guard }], guard := some (12, false) }) (v := ?_) rfl (by kernel_rfl) (by kernel_rfl) (by kernel_rfl) (fun _ _ _ h => h) (Or.inl ⟨by rfl, ?_⟩) (by assumption) ?_
  rotate_left 1
  focus (intro w hSw; (try dsimp only at hSw); go_simp; try with_reducible rfl)
  try simp only [Act.put, List.setIfInBounds_toArray, List.set_cons_zero, List.set_cons_succ]
  refine wpAnyH_take (i := 20) (oi := { dst := some 39, op := Go.Op.load 3 (Go.Operand.tmp 38), type := 3, pos := "net.go:92", after := #[{ on := 19, ground := Go.Ground.data }, { on := 12, ground := Go.Ground.guard }], guard := some (12, false) }) (v := ?_) rfl (by kernel_rfl) (by kernel_rfl) (by kernel_rfl) (fun _ _ _ h => h) (Or.inl ⟨by rfl, ?_⟩) (by assumption) ?_
  rotate_left 1
  focus (intro w hSw; (try dsimp only at hSw); go_simp; try with_reducible rfl)
  try simp only [Act.put, List.setIfInBounds_toArray, List.set_cons_zero, List.set_cons_succ]
  refine wpAnyH_take (i := 21) (oi := { dst := some 40, op := Go.Op.binOp Go.BinOp.sub 3 (Go.Operand.tmp 35) (Go.Operand.tmp 39) 3, type := 3, pos := "net.go:92", after := #[{ on := 16, ground := Go.Ground.data }, { on := 20, ground := Go.Ground.data }, { on := 12, ground := Go.Ground.guard }], guard := some (12, false) }) (v := ?_) rfl (by kernel_rfl) (by kernel_rfl) (by kernel_rfl) (fun _ _ _ h => h) (Or.inl ⟨by rfl, ?_⟩) (by assumption) ?_
  rotate_left 1
  focus (intro w hSw; (try dsimp only at hSw); go_simp; try with_reducible rfl)
  try simp only [Act.put, List.setIfInBounds_toArray, List.set_cons_zero, List.set_cons_succ]
  refine wpAnyH_take (i := 22) (oi := { dst := some 41, op := Go.Op.binOp Go.BinOp.geq 3 (Go.Operand.tmp 40) (Go.Operand.const (Go.Value.int Go.IntKind.i64 4)) 3, type := 4, pos := "net.go:92", after := #[{ on := 21, ground := Go.Ground.data }, { on := 12, ground := Go.Ground.guard }], guard := some (12, false) }) (v := ?_) rfl (by kernel_rfl) (by kernel_rfl) (by kernel_rfl) (fun _ _ _ h => h) (Or.inl ⟨by rfl, ?_⟩) (by assumption) ?_
  rotate_left 1
  focus (intro w hSw; (try dsimp only at hSw); go_simp; try with_reducible rfl)
  try simp only [Act.put, List.setIfInBounds_toArray, List.set_cons_zero, List.set_cons_succ]
  refine wpAnyH_take (i := 23) (oi := { dst := some 42, op := Go.Op.pick (Go.Operand.tmp 31) (Go.Operand.const (Go.Value.bool true)) (Go.Operand.tmp 41), type := 4, pos := "net.go:92", after := #[{ on := 12, ground := Go.Ground.data }, { on := 22, ground := Go.Ground.data }, { on := 6, ground := Go.Ground.guard }], guard := some (6, true) }) (v := ?_) rfl (by kernel_rfl) (by kernel_rfl) (by kernel_rfl) (fun _ _ _ h => h) (Or.inl ⟨by rfl, ?_⟩) (by assumption) ?_
  rotate_left 1
  focus (intro w hSw; (try dsimp only at hSw); go_simp; try with_reducible rfl)
  try simp only [Act.put, List.setIfInBounds_toArray, List.set_cons_zero, List.set_cons_succ]
  refine wpAnyH_take (i := 24) (oi := { dst := some 43, op := Go.Op.pick (Go.Operand.tmp 25) (Go.Operand.tmp 42) (Go.Operand.const (Go.Value.bool false)), type := 4, pos := "net.go:92", after := #[{ on := 6, ground := Go.Ground.data }, { on := 23, ground := Go.Ground.data }], guard := none }) (v := ?_) rfl (by kernel_rfl) (by kernel_rfl) (by kernel_rfl) (fun _ _ _ h => h) (Or.inl ⟨by rfl, ?_⟩) (by assumption) ?_
  rotate_left 1
  focus (intro w hSw; (try dsimp only at hSw); go_simp; try with_reducible rfl)
  try simp only [Act.put, List.setIfInBounds_toArray, List.set_cons_zero, List.set_cons_succ]
  refine wpAnyH_done (by kernel_rfl) ?_ _
  clear KS K0 H2 HO2 HK2
  have HLL := Lib.hid hll
  clear hll
  go_wp2_with fail
  go_loopg [7] 8 (fun mk s7 wr => ∃ (i : Nat), Hid (i ≤ mk) ∧ i ≤ 8 ∧ s7 = .int .i64 ((i : Nat) - 1 : Int) ∧ Hid (top ls 8 = top ls i) ∧ Hid (Kept (fun _ => False) z0 wr))
  case atStart => exact ⟨8, Lib.hid (by omega), by omega, rfl, Lib.hid rfl, Lib.hid (Kept.refl _ _)⟩
  case round =>
    obtain ⟨i, hmk, hi, rfl, ht, hkw⟩ := hrel
    have HZr := Lib.hid (HZ.out.old hkw.out)
    have HOr := Lib.hid (hkw.out.blk HOZ.out (fun f => f))
    have HKW := hkw
    have HKr := Lib.hid (HKZ.out.trans (hkw.out.mono (fun _ _ f => f.elim)))
    clear hkw
    have hrbl : rb < wr.heap.size := HOr.out.lt
    rcases Nat.eq_zero_or_pos i with rfl | hlt
    · have HT : Hid (top ls 8 = none) := Lib.hid ht.out
      have hO6 := HOr.out
      have n0 := hO6.cell (o := 0) rfl
      have n1 := hO6.cell (o := 1) rfl
      have n2 := hO6.cell (o := 2) rfl
      have n3 := hO6.cell (o := 3) rfl
      have n4 := hO6.cell (o := 4) rfl
      have n5 := hO6.cell (o := 5) rfl
      have n6 := hO6.cell (o := 6) rfl
      have n7 := hO6.cell (o := 7) rfl
      have n8 := hO6.cell (o := 8) rfl
      have n9 := hO6.cell (o := 9) rfl
      have n10 := hO6.cell (o := 10) rfl
      have fz0 := hO6.frozen 0
      have fz1 := hO6.frozen 1
      have fz2 := hO6.frozen 2
      have fz3 := hO6.frozen 3
      have fz4 := hO6.frozen 4
      have fz5 := hO6.frozen 5
      have fz6 := hO6.frozen 6
      have fz7 := hO6.frozen 7
      have fz8 := hO6.frozen 8
      have fz9 := hO6.frozen 9
      have fz10 := hO6.frozen 10
      have hO7 := set11_blk hO6 rfl zB
      have k7 := set11_kept wr rb zB
      have hZ7 := HZr.out.kept k7 (fun i e f => by subst e; have := H.out.bound f; have := HRB.out; omega) (fun i e => by have := H.out.since.size; have := HRB.out; omega)
      have HK7 : Hid (Kept (fun i => i = m) w (set11 wr rb zB)) := Lib.hid (HKr.out.trans' k7 (fun i hi e => by have := HRB.out; omega))
      have RES : Hid (TkL w0 m room most trim ls cr mm last true (frp m vs vc) w (.returned (.tuple #[bv zB, .bool false])) (set11 wr rb zB)) := Lib.hid (Or.inl ⟨HT.out, rfl, _, ⟨_, _, hZ7, rfl⟩, HK7.out, fun i f => Or.inl f⟩)
      unfold set11 at RES hO7
      dsimp only [List.length_nil, Int.natCast_zero] at RES hO7
      have z0 := hO7.cell (o := 0) rfl
      have z1 := hO7.cell (o := 1) rfl
      have z2 := hO7.cell (o := 2) rfl
      have z3 := hO7.cell (o := 3) rfl
      have z4 := hO7.cell (o := 4) rfl
      have z5 := hO7.cell (o := 5) rfl
      have z6 := hO7.cell (o := 6) rfl
      have z7 := hO7.cell (o := 7) rfl
      have z8 := hO7.cell (o := 8) rfl
      have z9 := hO7.cell (o := 9) rfl
      have z10 := hO7.cell (o := 10) rfl
      clear hO6 hO7 k7 hZ7 HK7
      go_wp2_with fail
      exact bodyPost_ret (v := .tuple #[bv zB, .bool false]) (by simp [results, Try.results14, go_sem, z0, z1, z2, z3, z4, z5, z6, z7, z8, z9, z10]) rfl RES.out
    · obtain ⟨j, rfl⟩ : ∃ j, i = j + 1 := ⟨i - 1, by omega⟩
      have hj8 : j < 8 := by omega
      obtain ⟨q1, hq1⟩ : ∃ q1 : Int, ((j + 1 : Nat) : Int) - 1 = q1 := ⟨_, rfl⟩
      have hq2 : q1 = (j : Int) := by omega
      rw [hq1]
      subst hq2
      clear hq1
      have hj88 : (j : Int) < 8 := by omega
      have hrow := HZr.out.row j hj8
      have hlj := HLL.out j hj8
      have hBm := HZr.out.blk
      have hc3 := hBm.cell (rcs_at room most trim vs vc mm last true hj8)
      by_cases e : ls j = []
      · have HTJ : Hid (top ls 8 = top ls j) := Lib.hid (by rw [ht.out]; exact if_pos e)
        rw [e] at hrow
        obtain ⟨a9, c9, hv9, _, _⟩ := hrow.slice
        rw [hv9] at hc3
        have hc3' : wr.cell? ⟨m, 3 + j, none⟩ = some (.slice a9 0 c9) := hc3
        clear hrow hBm hc3 hlj
        go_wp2_with fail
        go_roundg j
        case measure => have := hmk.out; omega
        case rel => exact ⟨j, Lib.hid (Nat.le_refl _), by omega, by go_num, HTJ, HKW⟩
      · have HTJ : Hid (top ls 8 = some j) := Lib.hid (by rw [ht.out]; exact if_neg e)
        obtain ⟨x, L, hxL⟩ : ∃ x L, ls j = x :: L := by
          cases hh : ls j with
          | nil => exact absurd hh e
          | cons x L => exact ⟨x, L, rfl⟩
        have HXX := Lib.hid hxL
        rw [hxL] at hrow hlj
        obtain ⟨g, o, c9, cur, hvv, hle9, hL9⟩ := ro_head hrow
        obtain ⟨d0, d1, d2, d3, d4, d5, d6, d7, d8, d9, d10⟩ := ro_cells hL9 (i := 0) rfl
        simp only [Nat.zero_mul, Nat.add_zero] at d0 d1 d2 d3 d4 d5 d6 d7 d8 d9 d10
        rw [hvv] at hc3
        have hrow2 := hrow
        rw [hvv] at hrow2
        have TL := Lib.hid (ro_tail hrow2)
        simp only [Option.map_some, Go.WideShapes.add_plain] at TL
        rw [List.length_cons] at hlj
        have hlr : L.length + 1 - 1 = L.length := by omega
        have hl2 : 1 ≤ L.length + 1 := by omega
        clear hrow hrow2 hL9 e hBm
        obtain ⟨ln, hln⟩ : ∃ ln, L.length + 1 = ln := ⟨_, rfl⟩
        have HLN := Lib.hid hln
        rw [hln] at hc3 hlj hle9 hlr hl2
        have hln0 : (0 : Int) < (ln : Int) := by omega
        have hl1 : (1 : Int) ≤ (ln : Int) := by omega
        have hc1 : (1 : Int) ≤ (c9 : Int) := by omega
        have hc2 : 1 ≤ c9 := by omega
        have HSUB : Hid (∀ y, y ∈ L → y ∈ ls j ∨ Rok w0 y) := Lib.hid fun y hy => Or.inl (by rw [HXX.out]; exact List.mem_cons_of_mem _ hy)
        have TL1 : Hid (∀ w', Kept (fun _ => False) wr w' → Ro.Row rT w' (.slice (if c9 = 1 then some ⟨g, o, none⟩ else some ⟨g, o + 11, none⟩) (ln - 1) (c9 - 1)) L) := Lib.hid fun w' k => by have := TL.out.1.old k; rw [← hlr] at this; exact this
        have TL2 : Hid (∀ g', (Value.slice (if c9 = 1 then some ⟨g, o, none⟩ else some ⟨g, o + 11, none⟩) (ln - 1) (c9 - 1)).ownBlock = some g' → (vs j).ownBlock = some g') := Lib.hid fun g' hg => by rw [hvv]; exact TL.out.2 g' (by rw [← hlr]; exact hg)
        have HVV := Lib.hid hvv
        clear hln hlr hvv TL
        obtain ⟨⟨x1, x2, x3, x4, x5, x6, x7, x8, x9, xd⟩, xa, xc, xq⟩ := x
        go_upto_region 13 with fail
        have hI := Blk.new wr [.int .i64 x1, .int .i64 x2, .int .i64 x3, .int .i64 x4, .int .u64 (x5 : Int), .int .i64 x6, .int .i64 x7, .int .i64 x8, .int .i64 x9, .slice xa xd.length xc, .int .i64 xq] tI
        have hk3 := (Kept.refl (fun _ => False) wr).alloc (.cells [.int .i64 x1, .int .i64 x2, .int .i64 x3, .int .i64 x4, .int .u64 (x5 : Int), .int .i64 x6, .int .i64 x7, .int .i64 x8, .int .i64 x9, .slice xa xd.length xc, .int .i64 xq].toArray tI)
        dsimp only [List.toArray] at hI hk3
        have HZ3 := Lib.hid (HZr.out.old hk3)
        have HO3 := Lib.hid (hk3.blk HOr.out (fun f => f))
        have HK3 := Lib.hid (HKr.out.trans (hk3.mono (fun _ _ f => f.elim)))
        have TR3 := Lib.hid (TL1.out _ hk3)
        have HI := Lib.hid hI
        have him : wr.heap.size ≠ m := by omega
        have hc33 := hk3.blk HZr.out.blk (fun f => f)
        clear hk3 hI hc3 d0 d1 d2 d3 d4 d5 d6 d7 d8 d9 d10
        generalize wr.alloc (.cells #[.int .i64 x1, .int .i64 x2, .int .i64 x3, .int .i64 x4, .int .u64 (x5 : Int), .int .i64 x6, .int .i64 x7, .int .i64 x8, .int .i64 x9, .slice xa xd.length xc, .int .i64 xq] 42) = w3 at *
        generalize wr.heap.size = ib at *
        have c3 : w3.cell? ⟨m, 3 + j, none⟩ = some (.slice (some ⟨g, o, none⟩) ln c9) := by have := hc33.cell (rcs_at room most trim vs vc mm last true hj8); rw [HVV.out] at this; rw [← HLN.out]; exact this
        have f3 := hc33.frozen (3 + j)
        clear hc33
        go_wp2_with fail
        go_region_with (fail)
        all_goals
          generalize Value.slice (if c9 = 1 then some ⟨g, o, none⟩ else some ⟨g, o + 11, none⟩) (ln - 1) (c9 - 1) = sv at *
          have HZ6 := Lib.hid ((HZ3.out.reline hj8 TR3.out HSUB.out).old (Kept.refl _ _).drew)
          have k4 := (Kept.one w3 m (3 + j) sv).drew
          have hO6 := k4.blk HO3.out (by omega)
          have hI6 := k4.blk HI.out him
          have HK6 := Lib.hid (HK3.out.trans k4)
          have FS : Hid (∀ i, frp m (upd vs j sv) vc i → frp m vs vc i) := by
            refine Lib.hid fun i f => ?_
            rcases f with e | ⟨k, hk, e⟩ | e
            · exact Or.inl e
            · by_cases e2 : k = j
              · subst e2; rw [upd_self] at e; exact Or.inr (Or.inl ⟨k, hk, TL2.out _ e⟩)
              · rw [upd_ne _ _ e2] at e; exact Or.inr (Or.inl ⟨k, hk, e⟩)
            · exact Or.inr (Or.inr e)
          have ROUT : Hid (¬ frp m (upd vs j sv) vc rb) := Lib.hid fun f => by have := H.out.bound (FS.out _ f); have := HRB.out; omega
          have RNW : Hid (∀ i, frp m (upd vs j sv) vc i → frp m vs vc i ∨ w.heap.size ≤ i) := Lib.hid fun i f => Or.inl (FS.out i f)
          clear k4 HZ3 HO3 HI HK3 TR3 c3 f3
          generalize (w3.setCell ⟨m, 3 + j, none⟩ sv).drew = w6 at *
          have i0 := hI6.cell (o := 0) rfl
          have i1 := hI6.cell (o := 1) rfl
          have i2 := hI6.cell (o := 2) rfl
          have i3 := hI6.cell (o := 3) rfl
          have i4 := hI6.cell (o := 4) rfl
          have i5 := hI6.cell (o := 5) rfl
          have i6 := hI6.cell (o := 6) rfl
          have i7 := hI6.cell (o := 7) rfl
          have i8 := hI6.cell (o := 8) rfl
          have i9 := hI6.cell (o := 9) rfl
          have i10 := hI6.cell (o := 10) rfl
          have n0 := hO6.cell (o := 0) rfl
          have n1 := hO6.cell (o := 1) rfl
          have n2 := hO6.cell (o := 2) rfl
          have n3 := hO6.cell (o := 3) rfl
          have n4 := hO6.cell (o := 4) rfl
          have n5 := hO6.cell (o := 5) rfl
          have n6 := hO6.cell (o := 6) rfl
          have n7 := hO6.cell (o := 7) rfl
          have n8 := hO6.cell (o := 8) rfl
          have n9 := hO6.cell (o := 9) rfl
          have n10 := hO6.cell (o := 10) rfl
          have fz0 := hO6.frozen 0
          have fz1 := hO6.frozen 1
          have fz2 := hO6.frozen 2
          have fz3 := hO6.frozen 3
          have fz4 := hO6.frozen 4
          have fz5 := hO6.frozen 5
          have fz6 := hO6.frozen 6
          have fz7 := hO6.frozen 7
          have fz8 := hO6.frozen 8
          have fz9 := hO6.frozen 9
          have fz10 := hO6.frozen 10
          have hO7 := set11_blk hO6 rfl ⟨⟨x1, x2, x3, x4, x5, x6, x7, x8, x9, xd⟩, xa, xc, xq⟩
          have k7 := set11_kept w6 rb ⟨⟨x1, x2, x3, x4, x5, x6, x7, x8, x9, xd⟩, xa, xc, xq⟩
          have hZ7 := HZ6.out.kept k7 (fun i e f => by subst e; exact ROUT.out f) (fun i e => by have := H.out.since.size; have := HRB.out; omega)
          have HK7 : Hid (Kept (fun i => i = m) w (set11 w6 rb ⟨⟨x1, x2, x3, x4, x5, x6, x7, x8, x9, xd⟩, xa, xc, xq⟩)) := Lib.hid (HK6.out.trans' k7 (fun i hi e => by have := HRB.out; omega))
          have RES : Hid (∃ R', RS w0 m room most trim (upd ls j L) (cr) mm last true R' (set11 w6 rb ⟨⟨x1, x2, x3, x4, x5, x6, x7, x8, x9, xd⟩, xa, xc, xq⟩) ∧ RN m (frp m vs vc) w R' (set11 w6 rb ⟨⟨x1, x2, x3, x4, x5, x6, x7, x8, x9, xd⟩, xa, xc, xq⟩)) := Lib.hid ⟨_, ⟨_, _, hZ7, rfl⟩, HK7.out, RNW.out⟩
          unfold set11 at RES hO7
          dsimp only at RES hO7
          have z0 := hO7.cell (o := 0) rfl
          have z1 := hO7.cell (o := 1) rfl
          have z2 := hO7.cell (o := 2) rfl
          have z3 := hO7.cell (o := 3) rfl
          have z4 := hO7.cell (o := 4) rfl
          have z5 := hO7.cell (o := 5) rfl
          have z6 := hO7.cell (o := 6) rfl
          have z7 := hO7.cell (o := 7) rfl
          have z8 := hO7.cell (o := 8) rfl
          have z9 := hO7.cell (o := 9) rfl
          have z10 := hO7.cell (o := 10) rfl
          clear hI6 hO6 hO7 k7 hZ7 HK7
          go_wp2_with fail
          exact bodyPost_ret (v := .tuple #[bv ⟨⟨x1, x2, x3, x4, x5, x6, x7, x8, x9, xd⟩, xa, xc, xq⟩, .bool true]) (by simp [results, Try.results14, go_sem, z0, z1, z2, z3, z4, z5, z6, z7, z8, z9, z10]) rfl (Or.inr ⟨j, ⟨⟨x1, x2, x3, x4, x5, x6, x7, x8, x9, xd⟩, xa, xc, xq⟩, L, HTJ.out, HXX.out, rfl, RES.out⟩)
end Go.Proofs.Ytompbpiaapenaaa.Rf

