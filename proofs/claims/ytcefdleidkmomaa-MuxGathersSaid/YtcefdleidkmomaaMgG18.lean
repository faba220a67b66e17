/- A way's take of a value: `came` grows by one. Conditions: each theorem's own. -/
import Derived.Test.YtcefdleidkmomaaMgG17
import Derived.Deep.RegionLaw
import Derived.Deep.RegionHeld3
set_option linter.unusedVariables false
set_option linter.unusedSimpArgs false
namespace Go.Proofs.Ytcefdleidkmomaa.Mx
open Go.Conc Go.Conc.Lib Br Go.RowKit Hp Rw Ro
/-- What a row's growth may touch. -/
def Grw (w : World) (u : Value) (i : Nat) : Prop := w.heap.size ≤ i ∨ u.ownBlock = some i
theorem keptCellG {F : Nat → Prop} {w w' : World} (k : Kept F w w') {p : Addr} (hp : p.block < w.heap.size) (hF : ¬ F p.block) : w'.cell? p = w.cell? p := by
  simp [World.cell?, k.block p.block hp hF]
def findReg (k : Nat) : Code → Option Code
  | .region j o d => if j = k then some (.region j o d) else none
  | .loop c => findReg k c
  | .seq a b => match findReg k a with
    | some c => some c
    | none => findReg k b
  | .block _ c => findReg k c
  | .scope c => findReg k c
  | .cond _ a b => match findReg k a with
    | some c => some c
    | none => findReg k b
  | _ => none
noncomputable def takeReg : Code := ((Try.f46.body.bind (findReg 2)).getD .skip)
set_option maxRecDepth 100000 in
set_option maxHeartbeats 8000000 in
theorem takeVal_region {w : World} {wy a c cc base : Nat} {am : Option Addr} {q : Addr} {f y : Int} {l : List It} (Q : Exit → Act → World → Prop) (u3 u4 u5 u6 u7 u8 u9 u10 u11 u12 u13 u14 u15 u16 u17 u18 u19 u20 u21 u22 u23 u24 u25 u26 u27 u28 u29 u30 u31 u32 : Value)
    (hR : Rw.Row iT w base (.slice am c cc) l) (hc : l.length = c) (hl : c ≤ 100000) (hbs : base ≤ w.heap.size)
    (hwy : wy < w.heap.size) (hqy : q.block < w.heap.size) (hqw : q.block ≠ wy) (hown : ∀ g, (Value.slice am c cc).ownBlock = some g → g ≠ wy ∧ g ≠ q.block)
    (y0 : w.cell? ⟨wy, a * 3, none⟩ = some (.int .i64 f)) (y2 : w.cell? ⟨wy, a * 3 + 2, none⟩ = some (.slice am c cc)) (yf : w.frozen? ⟨wy, a * 3 + 2, none⟩ = false) (yq : w.cell? q = some (.int .i64 y))
    (hQ : ∀ (v11 v12 v13 v14 v15 v16 v17 v18 v19 v20 v21 v22 v23 v24 v25 v26 v27 v28 v29 v30 v31 v32 v' : Value) (w' : World), Rw.Row iT w' base v' (l ++ [(f, (c : Int), y)]) → Kept (Grw w (.slice am c cc)) w w' → (∀ g, v'.ownBlock = some g → (Value.slice am c cc).ownBlock = some g ∨ w.heap.size ≤ g) → Q .normal ⟨#[.pointer (some ⟨wy, a * 3, none⟩), .pointer (some q), .bool true, u3, u4, u5, u6, u7, u8, u9, u10, v11, v12, v13, v14, v15, v16, v17, v18, v19, v20, v21, v22, v23, v24, v25, v26, v27, v28, v29, v30, v31, v32], []⟩ (w'.setCell ⟨wy, a * 3 + 2, none⟩ v')) :
    Code.wp Try.prog takeReg Q ⟨#[.pointer (some ⟨wy, a * 3, none⟩), .pointer (some q), .bool true, u3, u4, u5, u6, u7, u8, u9, u10, u11, u12, u13, u14, u15, u16, u17, u18, u19, u20, u21, u22, u23, u24, u25, u26, u27, u28, u29, u30, u31, u32], []⟩ w := by
  conv => arg 2; whnf
  have HL : Hid (l.length ≤ 100000) := Lib.hid (by omega)
  have HBS := Lib.hid hbs
  have gw : ¬ Grw w (.slice am c cc) wy := fun h => h.elim (fun h => by omega) (fun h => (hown _ h).1 rfl)
  have gq : ¬ Grw w (.slice am c cc) q.block := fun h => h.elim (fun h => by omega) (fun h => (hown _ h).2 rfl)
  have CK : Hid (∀ w', Kept (Grw w (.slice am c cc)) w w' → (w'.cell? ⟨wy, a * 3, none⟩ = some (.int .i64 f)) ∧ (w'.cell? ⟨wy, a * 3 + 2, none⟩ = some (.slice am c cc)) ∧ (w'.cell? q = some (.int .i64 y)) ∧ w'.frozen? ⟨wy, a * 3 + 2, none⟩ = false) := Lib.hid fun w' k => ⟨(keptCellG k hwy gw).trans y0, (keptCellG k hwy gw).trans y2, (keptCellG k hqy gq).trans yq, by
    have := k.block wy hwy gw
    simp only [World.frozen?, this] at yf ⊢
    exact yf⟩
  have KS : Hid (∀ w', Kept (Grw w (.slice am c cc)) w w' → (fun w' => w'.cell? ⟨wy, a * 3, none⟩ = some (.int .i64 f) ∧ w'.cell? q = some (.int .i64 y)) w') := Lib.hid fun w' k => by have h := CK.out _ k; exact ⟨h.1, h.2.2.1⟩
  have KX : Hid (∀ (w' : World) (u : Value), Kept (Grw w (.slice am c cc)) w w' → (fun w' => w'.cell? ⟨wy, a * 3, none⟩ = some (.int .i64 f) ∧ w'.cell? q = some (.int .i64 y)) (w'.setCell ⟨wy, a * 3 + 2, none⟩ u)) := Lib.hid fun w' u k => by
    have h := KS.out _ k
    have hs := k.size
    have h1 := set_far (w := w') (b := q.block) (p := wy) hqw (a * 3 + 2) u
    dsimp only at h ⊢
    refine ⟨?_, ?_⟩
    · have h2 := h.1
      simp only [World.cell?, World.setCell, Array.getElem?_modify, if_true] at h2 ⊢
      split at h2
      all_goals simp_all
    · have h2 := h.2
      simp only [World.cell?, h1] at h2 ⊢
      exact h2
  have K0 := Lib.hid ((Kept.refl (fun _ => False) w).mono (G := Grw w (.slice am c cc)) (fun _ _ f => f.elim)).drew
  have RW0 := Lib.hid (hR.old (Kept.refl (fun _ => False) w).drew)
  clear hl hbs hqy hqw hown y0 y2 yf yq gw gq hR
  dsimp only [List.append]
  refine wp_region_noPanic ?_
  refine wp_region_held_drew (S := fun w' => w'.cell? ⟨wy, a * 3, none⟩ = some (.int .i64 f) ∧ w'.cell? q = some (.int .i64 y)) (by kernel_rfl) (KS.out _ K0.out) (fun hHeld => ?_)
  generalize w.drew = z0 at *
  refine wpAnyH_take (i := 0) (oi := { dst := some 11, op := Go.Op.move (Go.Operand.tmp 0), type := 96, pos := "mux.go:40", after := #[], guard := none }) (v := ?_) rfl (by kernel_rfl) (by kernel_rfl) (by kernel_rfl) (fun _ _ _ h => h) (Or.inl ⟨by rfl, ?_⟩) (by assumption) ?_
  rotate_left 1
  focus (intro w hSw; (try dsimp only at hSw); go_simp; try with_reducible rfl)
  try simp only [Act.put, List.setIfInBounds_toArray, List.set_cons_zero, List.set_cons_succ]
  refine wpAnyH_take (i := 1) (oi := { dst := some 12, op := Go.Op.move (Go.Operand.tmp 0), type := 96, pos := "mux.go:40", after := #[], guard := none }) (v := ?_) rfl (by kernel_rfl) (by kernel_rfl) (by kernel_rfl) (fun _ _ _ h => h) (Or.inl ⟨by rfl, ?_⟩) (by assumption) ?_
  rotate_left 1
  focus (intro w hSw; (try dsimp only at hSw); go_simp; try with_reducible rfl)
  try simp only [Act.put, List.setIfInBounds_toArray, List.set_cons_zero, List.set_cons_succ]
  refine wpAnyH_take (i := 2) (oi := { dst := some 13, op := Go.Op.nilCheck (Go.Operand.tmp 12), type := 0, pos := "mux.go:40", after := #[{ on := 1, ground := Go.Ground.data }], guard := none }) (v := ?_) rfl (by kernel_rfl) (by kernel_rfl) (by kernel_rfl) (fun _ _ _ h => h) (Or.inl ⟨by rfl, ?_⟩) (by assumption) ?_
  rotate_left 1
  focus (intro w hSw; (try dsimp only at hSw); go_simp; try with_reducible rfl)
  try simp only [Act.put, List.setIfInBounds_toArray, List.set_cons_zero, List.set_cons_succ]
  refine wpAnyH_take (i := 3) (oi := { dst := some 14, op := Go.Op.fieldAddr 93 (Go.Operand.tmp 13) 2, type := 0, pos := "mux.go:40", after := #[{ on := 2, ground := Go.Ground.data }], guard := none }) (v := ?_) rfl (by kernel_rfl) (by kernel_rfl) (by kernel_rfl) (fun _ _ _ h => h) (Or.inl ⟨by rfl, ?_⟩) (by assumption) ?_
  rotate_left 1
  focus (intro w hSw; (try dsimp only at hSw); go_simp; try with_reducible rfl)
  try simp only [Act.put, List.setIfInBounds_toArray, List.set_cons_zero, List.set_cons_succ]
  refine wpAnyH_take (i := 5) (oi := { dst := some 16, op := Go.Op.move (Go.Operand.tmp 0), type := 96, pos := "mux.go:40", after := #[], guard := none }) (v := ?_) rfl (by kernel_rfl) (by kernel_rfl) (by kernel_rfl) (fun _ _ _ h => h) (Or.inl ⟨by rfl, ?_⟩) (by assumption) ?_
  rotate_left 1
  focus (intro w hSw; (try dsimp only at hSw); go_simp; try with_reducible rfl)
  try simp only [Act.put, List.setIfInBounds_toArray, List.set_cons_zero, List.set_cons_succ]
  refine wpAnyH_take (i := 6) (oi := { dst := some 17, op := Go.Op.nilCheck (Go.Operand.tmp 16), type := 0, pos := "mux.go:40", after := #[{ on := 5, ground := Go.Ground.data }], guard := none }) (v := ?_) rfl (by kernel_rfl) (by kernel_rfl) (by kernel_rfl) (fun _ _ _ h => h) (Or.inl ⟨by rfl, ?_⟩) (by assumption) ?_
  rotate_left 1
  focus (intro w hSw; (try dsimp only at hSw); go_simp; try with_reducible rfl)
  try simp only [Act.put, List.setIfInBounds_toArray, List.set_cons_zero, List.set_cons_succ]
  refine wpAnyH_take (i := 7) (oi := { dst := some 18, op := Go.Op.fieldAddr 93 (Go.Operand.tmp 17) 0, type := 0, pos := "mux.go:40", after := #[{ on := 6, ground := Go.Ground.data }], guard := none }) (v := ?_) rfl (by kernel_rfl) (by kernel_rfl) (by kernel_rfl) (fun _ _ _ h => h) (Or.inl ⟨by rfl, ?_⟩) (by assumption) ?_
  rotate_left 1
  focus (intro w hSw; (try dsimp only at hSw); go_simp; try with_reducible rfl)
  try simp only [Act.put, List.setIfInBounds_toArray, List.set_cons_zero, List.set_cons_succ]
  refine wpAnyH_take (i := 8) (oi := { dst := some 19, op := Go.Op.load 3 (Go.Operand.tmp 18), type := 3, pos := "mux.go:40", after := #[{ on := 7, ground := Go.Ground.data }], guard := none }) (v := ?_) rfl (by kernel_rfl) (by kernel_rfl) (by kernel_rfl) (fun _ _ _ h => h) (Or.inl ⟨by rfl, ?_⟩) (by assumption) ?_
  rotate_left 1
  focus (intro w hSw; (try dsimp only at hSw); go_simp; try with_reducible rfl)
  try simp only [Act.put, List.setIfInBounds_toArray, List.set_cons_zero, List.set_cons_succ]
  refine wpAnyH_take (i := 9) (oi := { dst := some 20, op := Go.Op.move (Go.Operand.tmp 0), type := 96, pos := "mux.go:40", after := #[], guard := none }) (v := ?_) rfl (by kernel_rfl) (by kernel_rfl) (by kernel_rfl) (fun _ _ _ h => h) (Or.inl ⟨by rfl, ?_⟩) (by assumption) ?_
  rotate_left 1
  focus (intro w hSw; (try dsimp only at hSw); go_simp; try with_reducible rfl)
  try simp only [Act.put, List.setIfInBounds_toArray, List.set_cons_zero, List.set_cons_succ]
  refine wpAnyH_take (i := 10) (oi := { dst := some 21, op := Go.Op.nilCheck (Go.Operand.tmp 20), type := 0, pos := "mux.go:40", after := #[{ on := 9, ground := Go.Ground.data }], guard := none }) (v := ?_) rfl (by kernel_rfl) (by kernel_rfl) (by kernel_rfl) (fun _ _ _ h => h) (Or.inl ⟨by rfl, ?_⟩) (by assumption) ?_
  rotate_left 1
  focus (intro w hSw; (try dsimp only at hSw); go_simp; try with_reducible rfl)
  try simp only [Act.put, List.setIfInBounds_toArray, List.set_cons_zero, List.set_cons_succ]
  refine wpAnyH_take (i := 11) (oi := { dst := some 22, op := Go.Op.fieldAddr 93 (Go.Operand.tmp 21) 2, type := 0, pos := "mux.go:40", after := #[{ on := 10, ground := Go.Ground.data }], guard := none }) (v := ?_) rfl (by kernel_rfl) (by kernel_rfl) (by kernel_rfl) (fun _ _ _ h => h) (Or.inl ⟨by rfl, ?_⟩) (by assumption) ?_
  rotate_left 1
  focus (intro w hSw; (try dsimp only at hSw); go_simp; try with_reducible rfl)
  try simp only [Act.put, List.setIfInBounds_toArray, List.set_cons_zero, List.set_cons_succ]
  refine wpAnyH_take (i := 14) (oi := { dst := some 25, op := Go.Op.move (Go.Operand.tmp 1), type := 72, pos := "mux.go:40", after := #[], guard := none }) (v := ?_) rfl (by kernel_rfl) (by kernel_rfl) (by kernel_rfl) (fun _ _ _ h => h) (Or.inl ⟨by rfl, ?_⟩) (by assumption) ?_
  rotate_left 1
  focus (intro w hSw; (try dsimp only at hSw); go_simp; try with_reducible rfl)
  try simp only [Act.put, List.setIfInBounds_toArray, List.set_cons_zero, List.set_cons_succ]
  refine wpAnyH_take (i := 15) (oi := { dst := some 26, op := Go.Op.nilCheck (Go.Operand.tmp 25), type := 0, pos := "mux.go:40", after := #[{ on := 14, ground := Go.Ground.data }], guard := none }) (v := ?_) rfl (by kernel_rfl) (by kernel_rfl) (by kernel_rfl) (fun _ _ _ h => h) (Or.inl ⟨by rfl, ?_⟩) (by assumption) ?_
  rotate_left 1
  focus (intro w hSw; (try dsimp only at hSw); go_simp; try with_reducible rfl)
  try simp only [Act.put, List.setIfInBounds_toArray, List.set_cons_zero, List.set_cons_succ]
  refine wpAnyH_take (i := 16) (oi := { dst := some 27, op := Go.Op.load 3 (Go.Operand.tmp 26), type := 3, pos := "mux.go:40", after := #[{ on := 15, ground := Go.Ground.data }], guard := none }) (v := ?_) rfl (by kernel_rfl) (by kernel_rfl) (by kernel_rfl) (fun _ _ _ h => h) (Or.inl ⟨by rfl, ?_⟩) (by assumption) ?_
  rotate_left 1
  focus (intro w hSw; (try dsimp only at hSw); go_simp; try with_reducible rfl)
  try simp only [Act.put, List.setIfInBounds_toArray, List.set_cons_zero, List.set_cons_succ]
  refine wpAnyH_ready (rs := [4, 12]) (by kernel_rfl) (by simp) ?_
  refine AllReadyH.cons (o := { dst := some 15, op := Go.Op.load 25 (Go.Operand.tmp 14), type := 25, pos := "mux.go:40", after := #[{ on := 3, ground := Go.Ground.data }], guard := none }) rfl (fun K hK => ?_) (AllReadyH.cons (o := { dst := some 23, op := Go.Op.load 25 (Go.Operand.tmp 22), type := 25, pos := "mux.go:40", after := #[{ on := 11, ground := Go.Ground.data }], guard := none }) rfl (fun K hK => ?_) AllReadyH.nil)
  · have CC1 := CK.out _ K0.out
    have t3 := CC1.2.1
    go_simp
    refine hK.out _ _ (KS.out _ K0.out) (fun hHeld => ?_)
    clear hK K
    try simp only [Act.put, List.setIfInBounds_toArray, List.set_cons_zero, List.set_cons_succ]
    clear t3 CC1
    refine wpAnyH_ready (rs := [12]) (by kernel_rfl) (by simp) ?_
    refine AllReadyH.cons (o := { dst := some 23, op := Go.Op.load 25 (Go.Operand.tmp 22), type := 25, pos := "mux.go:40", after := #[{ on := 11, ground := Go.Ground.data }], guard := none }) rfl (fun K hK => ?_) AllReadyH.nil
    have CC2 := CK.out _ K0.out
    have t3 := CC2.2.1
    go_simp
    refine hK.out _ _ (KS.out _ K0.out) (fun hHeld => ?_)
    clear hK K
    try simp only [Act.put, List.setIfInBounds_toArray, List.set_cons_zero, List.set_cons_succ]
    clear t3 CC2
    refine wpAnyH_take (i := 13) (oi := { dst := some 24, op := Go.Op.call { callee := Go.Callee.builtin Go.Builtin.len, args := #[Go.Operand.tmp 23], argTypes := #[25] }, type := 3, pos := "mux.go:40", after := #[{ on := 12, ground := Go.Ground.data }], guard := none }) (v := ?_) rfl (by kernel_rfl) (by kernel_rfl) (by kernel_rfl) (fun _ _ _ h => h) (Or.inl ⟨by rfl, ?_⟩) (by assumption) ?_
    rotate_left 1
    focus (intro w hSw; (try dsimp only at hSw); go_simp; try with_reducible rfl)
    try simp only [Act.put, List.setIfInBounds_toArray, List.set_cons_zero, List.set_cons_succ]
    refine wpAnyH_take (i := 17) (oi := { dst := some 28, op := Go.Op.build 31 #[(0, Go.Operand.tmp 19), (1, Go.Operand.tmp 24), (2, Go.Operand.tmp 27)], type := 31, pos := "mux.go:40", after := #[{ on := 8, ground := Go.Ground.data }, { on := 13, ground := Go.Ground.data }, { on := 16, ground := Go.Ground.data }], guard := none }) (v := ?_) rfl (by kernel_rfl) (by kernel_rfl) (by kernel_rfl) (fun _ _ _ h => h) (Or.inl ⟨by rfl, ?_⟩) (by assumption) ?_
    rotate_left 1
    focus (intro w hSw; (try dsimp only at hSw); go_simp; try with_reducible rfl)
    try simp only [Act.put, List.setIfInBounds_toArray, List.set_cons_zero, List.set_cons_succ]
    refine wpAnyH_ready (rs := [18]) (by kernel_rfl) (by simp) ?_
    refine AllReadyH.cons (o := { dst := some 29, op := Go.Op.buildSlice 25 1 #[(0, Go.Operand.tmp 28)], type := 25, pos := "mux.go:40", after := #[{ on := 17, ground := Go.Ground.data }], guard := none }) rfl (fun K hK => ?_) AllReadyH.nil
    have hB3 : Blk (z0.alloc (.cells #[.int .i64 f, .int .i64 (c : Int), .int .i64 y] 31)) z0.heap.size [.int .i64 f, .int .i64 (c : Int), .int .i64 y] 31 := Blk.new z0 [.int .i64 f, .int .i64 (c : Int), .int .i64 y] 31
    have hk3 : Kept (fun _ => False) z0 (z0.alloc (.cells #[.int .i64 f, .int .i64 (c : Int), .int .i64 y] 31)) := (Kept.refl _ z0).alloc _
    have RW3 := Lib.hid (RW0.out.old hk3)
    have K3 := Lib.hid (K0.out.alloc (.cells #[.int .i64 f, .int .i64 (c : Int), .int .i64 y] 31))
    have HB3 := Lib.hid hB3
    go_simp
    refine hK.out _ _ (KS.out _ K3.out) (fun hHeld => ?_)
    clear hK K
    try simp only [Act.put, List.setIfInBounds_toArray, List.set_cons_zero, List.set_cons_succ]
    clear hB3 hk3
    generalize z0.alloc (.cells #[.int .i64 f, .int .i64 (c : Int), .int .i64 y] 31) = z3 at *
    generalize z0.heap.size = b3 at *
    refine wpAnyH_ready (rs := [19]) (by kernel_rfl) (by simp) ?_
    refine AllReadyH.cons (o := { dst := some 30, op := Go.Op.call { callee := Go.Callee.builtin Go.Builtin.append, args := #[Go.Operand.tmp 15, Go.Operand.tmp 29], argTypes := #[25, 25] }, type := 25, pos := "mux.go:40", after := #[{ on := 4, ground := Go.Ground.data }, { on := 18, ground := Go.Ground.data }], guard := none }) rfl (fun K hK => ?_) AllReadyH.nil
    refine Rw.step_app iT (by rfl) (.tmp 15) (.tmp 29) (by rfl) base (K := l) (K2 := [(f, (c : Int), y)]) (by rfl) RW3.out (by rfl) (Rw.src_blk (t := iT) (K := [(f, (c : Int), y)]) 1 HB3.out) (by have := HL.out; simp; omega) (Nat.le_trans HBS.out K3.out.size) ?_
    intro v4_ z4 A4
    have K4 := Lib.hid (K3.out.trans' A4.kept (fun i _ e => Or.inr e))
    have OW4 : Hid (∀ g, v4_.ownBlock = some g → (Value.slice am c cc).ownBlock = some g ∨ w.heap.size ≤ g) := Lib.hid fun g hg => (A4.lies g hg).elim Or.inl (fun h => Or.inr (Nat.le_trans K3.out.size h))
    have RW4 := Lib.hid A4.row
    obtain ⟨a4, n4, c4, rfl⟩ : ∃ a n c, v4_ = .slice a n c := (by obtain ⟨a, c, e, _⟩ := A4.row.slice; exact ⟨a, _, c, e⟩)
    clear A4
    refine hK.out _ _ (KS.out _ K4.out) (fun hHeld => ?_)
    clear hK K
    try simp only [Act.put, List.setIfInBounds_toArray, List.set_cons_zero, List.set_cons_succ]
    refine wpAnyH_take (i := 20) (oi := { dst := some 31, op := Go.Op.nilCheck (Go.Operand.tmp 11), type := 0, pos := "mux.go:40", after := #[{ on := 0, ground := Go.Ground.data }, { on := 0, ground := Go.Ground.phase }, { on := 1, ground := Go.Ground.phase }, { on := 2, ground := Go.Ground.phase }, { on := 3, ground := Go.Ground.phase }, { on := 4, ground := Go.Ground.phase }, { on := 5, ground := Go.Ground.phase }, { on := 6, ground := Go.Ground.phase }, { on := 7, ground := Go.Ground.phase }, { on := 8, ground := Go.Ground.phase }, { on := 9, ground := Go.Ground.phase }, { on := 10, ground := Go.Ground.phase }, { on := 11, ground := Go.Ground.phase }, { on := 12, ground := Go.Ground.phase }, { on := 13, ground := Go.Ground.phase }, { on := 14, ground := Go.Ground.phase }, { on := 15, ground := Go.Ground.phase }, { on := 16, ground := Go.Ground.phase }, { on := 17, ground := Go.Ground.phase }, { on := 18, ground := Go.Ground.phase }, { on := 19, ground := Go.Ground.phase }], guard := none }) (v := ?_) rfl (by kernel_rfl) (by kernel_rfl) (by kernel_rfl) (fun _ _ _ h => h) (Or.inl ⟨by rfl, ?_⟩) (by assumption) ?_
    rotate_left 1
    focus (intro w hSw; (try dsimp only at hSw); go_simp; try with_reducible rfl)
    try simp only [Act.put, List.setIfInBounds_toArray, List.set_cons_zero, List.set_cons_succ]
    refine wpAnyH_take (i := 21) (oi := { dst := some 32, op := Go.Op.fieldAddr 93 (Go.Operand.tmp 31) 2, type := 0, pos := "mux.go:40", after := #[{ on := 20, ground := Go.Ground.data }, { on := 0, ground := Go.Ground.phase }, { on := 1, ground := Go.Ground.phase }, { on := 2, ground := Go.Ground.phase }, { on := 3, ground := Go.Ground.phase }, { on := 4, ground := Go.Ground.phase }, { on := 5, ground := Go.Ground.phase }, { on := 6, ground := Go.Ground.phase }, { on := 7, ground := Go.Ground.phase }, { on := 8, ground := Go.Ground.phase }, { on := 9, ground := Go.Ground.phase }, { on := 10, ground := Go.Ground.phase }, { on := 11, ground := Go.Ground.phase }, { on := 12, ground := Go.Ground.phase }, { on := 13, ground := Go.Ground.phase }, { on := 14, ground := Go.Ground.phase }, { on := 15, ground := Go.Ground.phase }, { on := 16, ground := Go.Ground.phase }, { on := 17, ground := Go.Ground.phase }, { on := 18, ground := Go.Ground.phase }, { on := 19, ground := Go.Ground.phase }], guard := none }) (v := ?_) rfl (by kernel_rfl) (by kernel_rfl) (by kernel_rfl) (fun _ _ _ h => h) (Or.inl ⟨by rfl, ?_⟩) (by assumption) ?_
    rotate_left 1
    focus (intro w hSw; (try dsimp only at hSw); go_simp; try with_reducible rfl)
    try simp only [Act.put, List.setIfInBounds_toArray, List.set_cons_zero, List.set_cons_succ]
    refine wpAnyH_ready (rs := [22]) (by kernel_rfl) (by simp) ?_
    refine AllReadyH.cons (o := { dst := none, op := Go.Op.store 25 (Go.Operand.tmp 32) (Go.Operand.tmp 30), type := 0, pos := "mux.go:40", after := #[{ on := 21, ground := Go.Ground.data }, { on := 19, ground := Go.Ground.data }, { on := 19, ground := Go.Ground.chain }, { on := 0, ground := Go.Ground.phase }, { on := 1, ground := Go.Ground.phase }, { on := 2, ground := Go.Ground.phase }, { on := 3, ground := Go.Ground.phase }, { on := 4, ground := Go.Ground.phase }, { on := 5, ground := Go.Ground.phase }, { on := 6, ground := Go.Ground.phase }, { on := 7, ground := Go.Ground.phase }, { on := 8, ground := Go.Ground.phase }, { on := 9, ground := Go.Ground.phase }, { on := 10, ground := Go.Ground.phase }, { on := 11, ground := Go.Ground.phase }, { on := 12, ground := Go.Ground.phase }, { on := 13, ground := Go.Ground.phase }, { on := 14, ground := Go.Ground.phase }, { on := 15, ground := Go.Ground.phase }, { on := 16, ground := Go.Ground.phase }, { on := 17, ground := Go.Ground.phase }, { on := 18, ground := Go.Ground.phase }, { on := 19, ground := Go.Ground.phase }], guard := none }) rfl (fun K hK => ?_) AllReadyH.nil
    have CC5 := CK.out _ K4.out
    have t3 := CC5.2.1
    have t4 := CC5.2.2.2
    go_simp
    refine hK.out _ _ (KX.out _ _ K4.out) (fun hHeld => ?_)
    clear hK K
    try simp only [Act.put, List.setIfInBounds_toArray, List.set_cons_zero, List.set_cons_succ]
    refine wpAnyH_done (by kernel_rfl) ?_ _
    refine NoPanic.normal ?_
    exact hQ _ _ _ _ _ _ _ _ _ _ _ _ _ _ _ _ _ _ _ _ _ _ _ _ RW4.out K4.out OW4.out
  · have CC6 := CK.out _ K0.out
    have t3 := CC6.2.1
    go_simp
    refine hK.out _ _ (KS.out _ K0.out) (fun hHeld => ?_)
    clear hK K
    try simp only [Act.put, List.setIfInBounds_toArray, List.set_cons_zero, List.set_cons_succ]
    clear t3 CC6
    refine wpAnyH_take (i := 13) (oi := { dst := some 24, op := Go.Op.call { callee := Go.Callee.builtin Go.Builtin.len, args := #[Go.Operand.tmp 23], argTypes := #[25] }, type := 3, pos := "mux.go:40", after := #[{ on := 12, ground := Go.Ground.data }], guard := none }) (v := ?_) rfl (by kernel_rfl) (by kernel_rfl) (by kernel_rfl) (fun _ _ _ h => h) (Or.inl ⟨by rfl, ?_⟩) (by assumption) ?_
    rotate_left 1
    focus (intro w hSw; (try dsimp only at hSw); go_simp; try with_reducible rfl)
    try simp only [Act.put, List.setIfInBounds_toArray, List.set_cons_zero, List.set_cons_succ]
    refine wpAnyH_take (i := 17) (oi := { dst := some 28, op := Go.Op.build 31 #[(0, Go.Operand.tmp 19), (1, Go.Operand.tmp 24), (2, Go.Operand.tmp 27)], type := 31, pos := "mux.go:40", after := #[{ on := 8, ground := Go.Ground.data }, { on := 13, ground := Go.Ground.data }, { on := 16, ground := Go.Ground.data }], guard := none }) (v := ?_) rfl (by kernel_rfl) (by kernel_rfl) (by kernel_rfl) (fun _ _ _ h => h) (Or.inl ⟨by rfl, ?_⟩) (by assumption) ?_
    rotate_left 1
    focus (intro w hSw; (try dsimp only at hSw); go_simp; try with_reducible rfl)
    try simp only [Act.put, List.setIfInBounds_toArray, List.set_cons_zero, List.set_cons_succ]
    refine wpAnyH_ready (rs := [4, 18]) (by kernel_rfl) (by simp) ?_
    refine AllReadyH.cons (o := { dst := some 15, op := Go.Op.load 25 (Go.Operand.tmp 14), type := 25, pos := "mux.go:40", after := #[{ on := 3, ground := Go.Ground.data }], guard := none }) rfl (fun K hK => ?_) (AllReadyH.cons (o := { dst := some 29, op := Go.Op.buildSlice 25 1 #[(0, Go.Operand.tmp 28)], type := 25, pos := "mux.go:40", after := #[{ on := 17, ground := Go.Ground.data }], guard := none }) rfl (fun K hK => ?_) AllReadyH.nil)
    · have CC7 := CK.out _ K0.out
      have t3 := CC7.2.1
      go_simp
      refine hK.out _ _ (KS.out _ K0.out) (fun hHeld => ?_)
      clear hK K
      try simp only [Act.put, List.setIfInBounds_toArray, List.set_cons_zero, List.set_cons_succ]
      clear t3 CC7
      refine wpAnyH_ready (rs := [18]) (by kernel_rfl) (by simp) ?_
      refine AllReadyH.cons (o := { dst := some 29, op := Go.Op.buildSlice 25 1 #[(0, Go.Operand.tmp 28)], type := 25, pos := "mux.go:40", after := #[{ on := 17, ground := Go.Ground.data }], guard := none }) rfl (fun K hK => ?_) AllReadyH.nil
      have hB8 : Blk (z0.alloc (.cells #[.int .i64 f, .int .i64 (c : Int), .int .i64 y] 31)) z0.heap.size [.int .i64 f, .int .i64 (c : Int), .int .i64 y] 31 := Blk.new z0 [.int .i64 f, .int .i64 (c : Int), .int .i64 y] 31
      have hk8 : Kept (fun _ => False) z0 (z0.alloc (.cells #[.int .i64 f, .int .i64 (c : Int), .int .i64 y] 31)) := (Kept.refl _ z0).alloc _
      have RW8 := Lib.hid (RW0.out.old hk8)
      have K8 := Lib.hid (K0.out.alloc (.cells #[.int .i64 f, .int .i64 (c : Int), .int .i64 y] 31))
      have HB8 := Lib.hid hB8
      go_simp
      refine hK.out _ _ (KS.out _ K8.out) (fun hHeld => ?_)
      clear hK K
      try simp only [Act.put, List.setIfInBounds_toArray, List.set_cons_zero, List.set_cons_succ]
      clear hB8 hk8
      generalize z0.alloc (.cells #[.int .i64 f, .int .i64 (c : Int), .int .i64 y] 31) = z8 at *
      generalize z0.heap.size = b8 at *
      refine wpAnyH_ready (rs := [19]) (by kernel_rfl) (by simp) ?_
      refine AllReadyH.cons (o := { dst := some 30, op := Go.Op.call { callee := Go.Callee.builtin Go.Builtin.append, args := #[Go.Operand.tmp 15, Go.Operand.tmp 29], argTypes := #[25, 25] }, type := 25, pos := "mux.go:40", after := #[{ on := 4, ground := Go.Ground.data }, { on := 18, ground := Go.Ground.data }], guard := none }) rfl (fun K hK => ?_) AllReadyH.nil
      refine Rw.step_app iT (by rfl) (.tmp 15) (.tmp 29) (by rfl) base (K := l) (K2 := [(f, (c : Int), y)]) (by rfl) RW8.out (by rfl) (Rw.src_blk (t := iT) (K := [(f, (c : Int), y)]) 1 HB8.out) (by have := HL.out; simp; omega) (Nat.le_trans HBS.out K8.out.size) ?_
      intro v9_ z9 A9
      have K9 := Lib.hid (K8.out.trans' A9.kept (fun i _ e => Or.inr e))
      have OW9 : Hid (∀ g, v9_.ownBlock = some g → (Value.slice am c cc).ownBlock = some g ∨ w.heap.size ≤ g) := Lib.hid fun g hg => (A9.lies g hg).elim Or.inl (fun h => Or.inr (Nat.le_trans K8.out.size h))
      have RW9 := Lib.hid A9.row
      obtain ⟨a9, n9, c9, rfl⟩ : ∃ a n c, v9_ = .slice a n c := (by obtain ⟨a, c, e, _⟩ := A9.row.slice; exact ⟨a, _, c, e⟩)
      clear A9
      refine hK.out _ _ (KS.out _ K9.out) (fun hHeld => ?_)
      clear hK K
      try simp only [Act.put, List.setIfInBounds_toArray, List.set_cons_zero, List.set_cons_succ]
      refine wpAnyH_take (i := 20) (oi := { dst := some 31, op := Go.Op.nilCheck (Go.Operand.tmp 11), type := 0, pos := "mux.go:40", after := #[{ on := 0, ground := Go.Ground.data }, { on := 0, ground := Go.Ground.phase }, { on := 1, ground := Go.Ground.phase }, { on := 2, ground := Go.Ground.phase }, { on := 3, ground := Go.Ground.phase }, { on := 4, ground := Go.Ground.phase }, { on := 5, ground := Go.Ground.phase }, { on := 6, ground := Go.Ground.phase }, { on := 7, ground := Go.Ground.phase }, { on := 8, ground := Go.Ground.phase }, { on := 9, ground := Go.Ground.phase }, { on := 10, ground := Go.Ground.phase }, { on := 11, ground := Go.Ground.phase }, { on := 12, ground := Go.Ground.phase }, { on := 13, ground := Go.Ground.phase }, { on := 14, ground := Go.Ground.phase }, { on := 15, ground := Go.Ground.phase }, { on := 16, ground := Go.Ground.phase }, { on := 17, ground := Go.Ground.phase }, { on := 18, ground := Go.Ground.phase }, { on := 19, ground := Go.Ground.phase }], guard := none }) (v := ?_) rfl (by kernel_rfl) (by kernel_rfl) (by kernel_rfl) (fun _ _ _ h => h) (Or.inl ⟨by rfl, ?_⟩) (by assumption) ?_
      rotate_left 1
      focus (intro w hSw; (try dsimp only at hSw); go_simp; try with_reducible rfl)
      try simp only [Act.put, List.setIfInBounds_toArray, List.set_cons_zero, List.set_cons_succ]
      refine wpAnyH_take (i := 21) (oi := { dst := some 32, op := Go.Op.fieldAddr 93 (Go.Operand.tmp 31) 2, type := 0, pos := "mux.go:40", after := #[{ on := 20, ground := Go.Ground.data }, { on := 0, ground := Go.Ground.phase }, { on := 1, ground := Go.Ground.phase }, { on := 2, ground := Go.Ground.phase }, { on := 3, ground := Go.Ground.phase }, { on := 4, ground := Go.Ground.phase }, { on := 5, ground := Go.Ground.phase }, { on := 6, ground := Go.Ground.phase }, { on := 7, ground := Go.Ground.phase }, { on := 8, ground := Go.Ground.phase }, { on := 9, ground := Go.Ground.phase }, { on := 10, ground := Go.Ground.phase }, { on := 11, ground := Go.Ground.phase }, { on := 12, ground := Go.Ground.phase }, { on := 13, ground := Go.Ground.phase }, { on := 14, ground := Go.Ground.phase }, { on := 15, ground := Go.Ground.phase }, { on := 16, ground := Go.Ground.phase }, { on := 17, ground := Go.Ground.phase }, { on := 18, ground := Go.Ground.phase }, { on := 19, ground := Go.Ground.phase }], guard := none }) (v := ?_) rfl (by kernel_rfl) (by kernel_rfl) (by kernel_rfl) (fun _ _ _ h => h) (Or.inl ⟨by rfl, ?_⟩) (by assumption) ?_
      rotate_left 1
      focus (intro w hSw; (try dsimp only at hSw); go_simp; try with_reducible rfl)
      try simp only [Act.put, List.setIfInBounds_toArray, List.set_cons_zero, List.set_cons_succ]
      refine wpAnyH_ready (rs := [22]) (by kernel_rfl) (by simp) ?_
      refine AllReadyH.cons (o := { dst := none, op := Go.Op.store 25 (Go.Operand.tmp 32) (Go.Operand.tmp 30), type := 0, pos := "mux.go:40", after := #[{ on := 21, ground := Go.Ground.data }, { on := 19, ground := Go.Ground.data }, { on := 19, ground := Go.Ground.chain }, { on := 0, ground := Go.Ground.phase }, { on := 1, ground := Go.Ground.phase }, { on := 2, ground := Go.Ground.phase }, { on := 3, ground := Go.Ground.phase }, { on := 4, ground := Go.Ground.phase }, { on := 5, ground := Go.Ground.phase }, { on := 6, ground := Go.Ground.phase }, { on := 7, ground := Go.Ground.phase }, { on := 8, ground := Go.Ground.phase }, { on := 9, ground := Go.Ground.phase }, { on := 10, ground := Go.Ground.phase }, { on := 11, ground := Go.Ground.phase }, { on := 12, ground := Go.Ground.phase }, { on := 13, ground := Go.Ground.phase }, { on := 14, ground := Go.Ground.phase }, { on := 15, ground := Go.Ground.phase }, { on := 16, ground := Go.Ground.phase }, { on := 17, ground := Go.Ground.phase }, { on := 18, ground := Go.Ground.phase }, { on := 19, ground := Go.Ground.phase }], guard := none }) rfl (fun K hK => ?_) AllReadyH.nil
      have CC10 := CK.out _ K9.out
      have t3 := CC10.2.1
      have t4 := CC10.2.2.2
      go_simp
      refine hK.out _ _ (KX.out _ _ K9.out) (fun hHeld => ?_)
      clear hK K
      try simp only [Act.put, List.setIfInBounds_toArray, List.set_cons_zero, List.set_cons_succ]
      refine wpAnyH_done (by kernel_rfl) ?_ _
      refine NoPanic.normal ?_
      exact hQ _ _ _ _ _ _ _ _ _ _ _ _ _ _ _ _ _ _ _ _ _ _ _ _ RW9.out K9.out OW9.out
    · have hB11 : Blk (z0.alloc (.cells #[.int .i64 f, .int .i64 (c : Int), .int .i64 y] 31)) z0.heap.size [.int .i64 f, .int .i64 (c : Int), .int .i64 y] 31 := Blk.new z0 [.int .i64 f, .int .i64 (c : Int), .int .i64 y] 31
      have hk11 : Kept (fun _ => False) z0 (z0.alloc (.cells #[.int .i64 f, .int .i64 (c : Int), .int .i64 y] 31)) := (Kept.refl _ z0).alloc _
      have RW11 := Lib.hid (RW0.out.old hk11)
      have K11 := Lib.hid (K0.out.alloc (.cells #[.int .i64 f, .int .i64 (c : Int), .int .i64 y] 31))
      have HB11 := Lib.hid hB11
      go_simp
      refine hK.out _ _ (KS.out _ K11.out) (fun hHeld => ?_)
      clear hK K
      try simp only [Act.put, List.setIfInBounds_toArray, List.set_cons_zero, List.set_cons_succ]
      clear hB11 hk11
      generalize z0.alloc (.cells #[.int .i64 f, .int .i64 (c : Int), .int .i64 y] 31) = z11 at *
      generalize z0.heap.size = b11 at *
      refine wpAnyH_ready (rs := [4]) (by kernel_rfl) (by simp) ?_
      refine AllReadyH.cons (o := { dst := some 15, op := Go.Op.load 25 (Go.Operand.tmp 14), type := 25, pos := "mux.go:40", after := #[{ on := 3, ground := Go.Ground.data }], guard := none }) rfl (fun K hK => ?_) AllReadyH.nil
      have CC12 := CK.out _ K11.out
      have t3 := CC12.2.1
      go_simp
      refine hK.out _ _ (KS.out _ K11.out) (fun hHeld => ?_)
      clear hK K
      try simp only [Act.put, List.setIfInBounds_toArray, List.set_cons_zero, List.set_cons_succ]
      clear t3 CC12
      refine wpAnyH_ready (rs := [19]) (by kernel_rfl) (by simp) ?_
      refine AllReadyH.cons (o := { dst := some 30, op := Go.Op.call { callee := Go.Callee.builtin Go.Builtin.append, args := #[Go.Operand.tmp 15, Go.Operand.tmp 29], argTypes := #[25, 25] }, type := 25, pos := "mux.go:40", after := #[{ on := 4, ground := Go.Ground.data }, { on := 18, ground := Go.Ground.data }], guard := none }) rfl (fun K hK => ?_) AllReadyH.nil
      refine Rw.step_app iT (by rfl) (.tmp 15) (.tmp 29) (by rfl) base (K := l) (K2 := [(f, (c : Int), y)]) (by rfl) RW11.out (by rfl) (Rw.src_blk (t := iT) (K := [(f, (c : Int), y)]) 1 HB11.out) (by have := HL.out; simp; omega) (Nat.le_trans HBS.out K11.out.size) ?_
      intro v13_ z13 A13
      have K13 := Lib.hid (K11.out.trans' A13.kept (fun i _ e => Or.inr e))
      have OW13 : Hid (∀ g, v13_.ownBlock = some g → (Value.slice am c cc).ownBlock = some g ∨ w.heap.size ≤ g) := Lib.hid fun g hg => (A13.lies g hg).elim Or.inl (fun h => Or.inr (Nat.le_trans K11.out.size h))
      have RW13 := Lib.hid A13.row
      obtain ⟨a13, n13, c13, rfl⟩ : ∃ a n c, v13_ = .slice a n c := (by obtain ⟨a, c, e, _⟩ := A13.row.slice; exact ⟨a, _, c, e⟩)
      clear A13
      refine hK.out _ _ (KS.out _ K13.out) (fun hHeld => ?_)
      clear hK K
      try simp only [Act.put, List.setIfInBounds_toArray, List.set_cons_zero, List.set_cons_succ]
      refine wpAnyH_take (i := 20) (oi := { dst := some 31, op := Go.Op.nilCheck (Go.Operand.tmp 11), type := 0, pos := "mux.go:40", after := #[{ on := 0, ground := Go.Ground.data }, { on := 0, ground := Go.Ground.phase }, { on := 1, ground := Go.Ground.phase }, { on := 2, ground := Go.Ground.phase }, { on := 3, ground := Go.Ground.phase }, { on := 4, ground := Go.Ground.phase }, { on := 5, ground := Go.Ground.phase }, { on := 6, ground := Go.Ground.phase }, { on := 7, ground := Go.Ground.phase }, { on := 8, ground := Go.Ground.phase }, { on := 9, ground := Go.Ground.phase }, { on := 10, ground := Go.Ground.phase }, { on := 11, ground := Go.Ground.phase }, { on := 12, ground := Go.Ground.phase }, { on := 13, ground := Go.Ground.phase }, { on := 14, ground := Go.Ground.phase }, { on := 15, ground := Go.Ground.phase }, { on := 16, ground := Go.Ground.phase }, { on := 17, ground := Go.Ground.phase }, { on := 18, ground := Go.Ground.phase }, { on := 19, ground := Go.Ground.phase }], guard := none }) (v := ?_) rfl (by kernel_rfl) (by kernel_rfl) (by kernel_rfl) (fun _ _ _ h => h) (Or.inl ⟨by rfl, ?_⟩) (by assumption) ?_
      rotate_left 1
      focus (intro w hSw; (try dsimp only at hSw); go_simp; try with_reducible rfl)
      try simp only [Act.put, List.setIfInBounds_toArray, List.set_cons_zero, List.set_cons_succ]
      refine wpAnyH_take (i := 21) (oi := { dst := some 32, op := Go.Op.fieldAddr 93 (Go.Operand.tmp 31) 2, type := 0, pos := "mux.go:40", after := #[{ on := 20, ground := Go.Ground.data }, { on := 0, ground := Go.Ground.phase }, { on := 1, ground := Go.Ground.phase }, { on := 2, ground := Go.Ground.phase }, { on := 3, ground := Go.Ground.phase }, { on := 4, ground := Go.Ground.phase }, { on := 5, ground := Go.Ground.phase }, { on := 6, ground := Go.Ground.phase }, { on := 7, ground := Go.Ground.phase }, { on := 8, ground := Go.Ground.phase }, { on := 9, ground := Go.Ground.phase }, { on := 10, ground := Go.Ground.phase }, { on := 11, ground := Go.Ground.phase }, { on := 12, ground := Go.Ground.phase }, { on := 13, ground := Go.Ground.phase }, { on := 14, ground := Go.Ground.phase }, { on := 15, ground := Go.Ground.phase }, { on := 16, ground := Go.Ground.phase }, { on := 17, ground := Go.Ground.phase }, { on := 18, ground := Go.Ground.phase }, { on := 19, ground := Go.Ground.phase }], guard := none }) (v := ?_) rfl (by kernel_rfl) (by kernel_rfl) (by kernel_rfl) (fun _ _ _ h => h) (Or.inl ⟨by rfl, ?_⟩) (by assumption) ?_
      rotate_left 1
      focus (intro w hSw; (try dsimp only at hSw); go_simp; try with_reducible rfl)
      try simp only [Act.put, List.setIfInBounds_toArray, List.set_cons_zero, List.set_cons_succ]
      refine wpAnyH_ready (rs := [22]) (by kernel_rfl) (by simp) ?_
      refine AllReadyH.cons (o := { dst := none, op := Go.Op.store 25 (Go.Operand.tmp 32) (Go.Operand.tmp 30), type := 0, pos := "mux.go:40", after := #[{ on := 21, ground := Go.Ground.data }, { on := 19, ground := Go.Ground.data }, { on := 19, ground := Go.Ground.chain }, { on := 0, ground := Go.Ground.phase }, { on := 1, ground := Go.Ground.phase }, { on := 2, ground := Go.Ground.phase }, { on := 3, ground := Go.Ground.phase }, { on := 4, ground := Go.Ground.phase }, { on := 5, ground := Go.Ground.phase }, { on := 6, ground := Go.Ground.phase }, { on := 7, ground := Go.Ground.phase }, { on := 8, ground := Go.Ground.phase }, { on := 9, ground := Go.Ground.phase }, { on := 10, ground := Go.Ground.phase }, { on := 11, ground := Go.Ground.phase }, { on := 12, ground := Go.Ground.phase }, { on := 13, ground := Go.Ground.phase }, { on := 14, ground := Go.Ground.phase }, { on := 15, ground := Go.Ground.phase }, { on := 16, ground := Go.Ground.phase }, { on := 17, ground := Go.Ground.phase }, { on := 18, ground := Go.Ground.phase }, { on := 19, ground := Go.Ground.phase }], guard := none }) rfl (fun K hK => ?_) AllReadyH.nil
      have CC14 := CK.out _ K13.out
      have t3 := CC14.2.1
      have t4 := CC14.2.2.2
      go_simp
      refine hK.out _ _ (KX.out _ _ K13.out) (fun hHeld => ?_)
      clear hK K
      try simp only [Act.put, List.setIfInBounds_toArray, List.set_cons_zero, List.set_cons_succ]
      refine wpAnyH_done (by kernel_rfl) ?_ _
      refine NoPanic.normal ?_
      exact hQ _ _ _ _ _ _ _ _ _ _ _ _ _ _ _ _ _ _ _ _ _ _ _ _ RW13.out K13.out OW13.out
end Go.Proofs.Ytcefdleidkmomaa.Mx

/- A way's take of a value, in company. Conditions: the theorem's own. -/
namespace Go.Proofs.Ytcefdleidkmomaa.Mx
open Go.Conc Go.Conc.Lib Br Go.RowKit Hp Rw Ro
section
variable {s : Grp} {X : Sh} {z al : Value} {Anch Post : Goroutine → World → Prop} {wy N a : Nat} {wf : Nat → Int} {wc : Nat → Option Nat} {wm : Nat → Value}
set_option maxRecDepth 100000 in
set_option maxHeartbeats 4000000 in
theorem takeVal (hX : ShunIn X s.Shun) {Inv : World → Prop} {Inv' : Value → World → Prop} {base c cc : Nat} {am : Option Addr} {q : Addr} {y : Int} {l : List It}
    (hE : ∀ v v' : World, v'.heap = v.heap → Inv v → Inv v') (hW : ∀ v, Inv v → Hp.Blk v wy (wayT wf wc wm N) 93) (ha : a < N) (hm : wm a = .slice am c cc) (hc : l.length = c) (hl9 : c ≤ 100000)
    (hV : ∀ v, Inv v → Rw.Row iT v base (.slice am c cc) l ∧ base ≤ v.heap.size ∧ q.block < v.heap.size ∧ v.cell? q = some (.int .i64 y)) (hqw : q.block ≠ wy) (hown : ∀ g, (Value.slice am c cc).ownBlock = some g → g ≠ wy ∧ g ≠ q.block)
    (hI : ∀ v v' w', Inv v → Rw.Row iT w' base v' (l ++ [(wf a, (c : Int), y)]) → Kept (Grw v (.slice am c cc)) v w' → (∀ g, v'.ownBlock = some g → (Value.slice am c cc).ownBlock = some g ∨ v.heap.size ≤ g) → Inv' v' (w'.setCell ⟨wy, a * 3 + 2, none⟩ v'))
    {bc : Frame} {ac : Act} {opsc : Array Oper} {i : Nat} {rest : List Nat} {kc : List Item} {cs : List Frame} {St : Goroutine → World → Prop} {m : Nat}
    (hnext : ∀ w v u, Like (s.Sd X s.n) w v → Inv' u v → (phI s z Anch Post).Live w → Goes Try.prog true ((phI s z Anch Post).Far s.n) ((phI s z Anch Post).DM s.n) St m (G (bc.at (ac.put ((opsc[i]?).bind (·.dst)) (.tuple #[])) (.inRegion opsc rest :: kc)) cs) w)
    {w v : World} (hl : Like (s.Sd X s.n) w v) (hi : Inv v) (hlive : (phI s z Anch Post).Live w) {c0 : Code} (hc0 : Try.f46.body.getD .skip = c0) :
    Goes Try.prog true ((phI s z Anch Post).Far s.n) ((phI s z Anch Post).DM s.n) St (m + 40) (G ((Go.Conc.base 46).at ⟨#[.pointer (some ⟨wy, a * 3, none⟩), .pointer (some q), .bool true, undef, undef, undef, undef, undef, undef, undef, undef, undef, undef, undef, undef, undef, undef, undef, undef, undef, undef, undef, undef, undef, undef, undef, undef, undef, undef, undef, undef, undef, undef], []⟩ [.code c0]) (bc.at ac (.inRegion opsc (i :: rest) :: kc) :: cs)) w := by
  conv at hc0 => lhs; whnf
  subst hc0
  show MG (phI s z Anch Post) s.n _ (m + 40) _ _
  refine MG.le (m := 2 + 2 + (23 + 2 + (m + 1 + 1) + 1 + 1) + 1 + 1) ?_ (by omega)
  refine MG.seq ?_
  refine MG.seq ?_
  refine m_region (m := 23 + 2 + (m + 1 + 1) + 1 + 1) (R := fun t v' => t = #[.pointer (some ⟨wy, a * 3, none⟩), .pointer (some q), .bool true, undef, undef, undef, .bool true, .bool false, undef, undef, undef, undef, undef, undef, undef, undef, undef, undef, undef, undef, undef, undef, undef, undef, undef, undef, undef, undef, undef, undef, undef, undef, undef] ∧ v'.heap = v.heap)
    hX rfl (by kernel_rfl) rfl hlive hl (fun v1 h1 => ?_) (fun a4 w4 v4 hd hi4 hl4 hR4 => ?_)
  · have hh := Lib.hid (like_same hl h1)
    clear h1 hl hi hnext hW hI hV hE
    go_wp2
    exact hh.out
  obtain ⟨t4, d4⟩ := a4
  have hd1 : d4 = [] := hd
  subst hd1
  obtain ⟨ht, hv4⟩ := hR4
  have ht1 : t4 = #[.pointer (some ⟨wy, a * 3, none⟩), .pointer (some q), .bool true, undef, undef, undef, .bool true, .bool false, undef, undef, undef, undef, undef, undef, undef, undef, undef, undef, undef, undef, undef, undef, undef, undef, undef, undef, undef, undef, undef, undef, undef, undef, undef] := ht
  subst ht1
  clear ht hd
  show MG (phI s z Anch Post) s.n _ (23 + 2 + (m + 1 + 1) + 1 + 1) _ _
  refine MG.condF rfl ?_
  refine MG.skip ?_
  refine m_region (m := m + 1 + 1) (R := fun t v' => ∃ u, Inv' u v')
    hX rfl (by kernel_rfl) rfl hi4 hl4 (fun v1 h1 => ?_) (fun a5 w5 v5 hd hi5 hl5 hR5 => ?_)
  · have hh := (like_same hl4 h1).trans hv4
    have hi1 := hE v v1 hh hi
    obtain ⟨hr, hb, hq, hy⟩ := hV v1 hi1
    have B := hW v1 hi1
    have y0 := B.cell (o := a * 3) (by rw [Nat.mul_comm]; exact wayT_f ha)
    have y2 := B.cell (o := a * 3 + 2) (by rw [Nat.mul_comm]; exact wayT_m ha)
    rw [hm] at y2
    refine takeVal_region (w := v1) (wy := wy) (a := a) (base := base) (q := q) (f := wf a) (y := y) (l := l) _ undef undef undef (.bool true) (.bool false) undef undef undef undef undef undef undef undef undef undef undef undef undef undef undef undef undef undef undef undef undef undef undef undef undef
      hr hc hl9 hb B.lt hq hqw hown y0 y2 (B.frozen _) hy ?_
    intros
    exact ⟨rfl, _, hI v1 _ _ hi1 (by assumption) (by assumption) (by assumption)⟩
  obtain ⟨t5, d5⟩ := a5
  have hd1 : d5 = [] := hd
  subst hd1
  obtain ⟨u, hu⟩ := hR5
  clear hd
  show MG (phI s z Anch Post) s.n _ (m + 1 + 1) _ _
  refine MG.end_ ?_
  refine MG.leave0 rfl rfl Try.func46 rfl ?_
  exact hnext w5 v5 u hl5 hu hi5
end
end Go.Proofs.Ytcefdleidkmomaa.Mx

/- What came by two ways, behind all. Conditions: the theorem's own. -/
namespace Go.Proofs.Ytcefdleidkmomaa.Mx
open Go.Conc Go.Conc.Lib Br Go.RowKit Hp Rw Ro
noncomputable def allReg : Code := ((Try.f26.body.bind (findReg 15)).getD .skip)
theorem src_row {w : World} {base : Nat} {v : Value} {l : List It} (h : Rw.Row iT w base v l) : Rw.Src iT w v l := by
  rcases h.form with ⟨rfl, rfl⟩ | ⟨g, cap, cur, rfl, h1, h2⟩
  · exact Or.inl ⟨rfl, rfl⟩
  · have := h2.src 0 l.length cap (by omega)
    rw [List.drop_zero, List.take_length, Nat.zero_mul] at this
    exact this
set_option maxRecDepth 100000 in
set_option maxHeartbeats 8000000 in
theorem all_region {w : World} {wy h N base na ca n1 c1 n2 c2 : Nat} {aa a1 a2 : Option Addr} {wga : Addr} {first : Int} {L l1 l2 : List It} (Q : Exit → Act → World → Prop) (u2 u3 u4 u5 u6 u9 u10 u11 u15 u16 u17 u18 u19 u20 u21 u22 u23 u24 u25 u26 u27 u28 u29 u30 u31 u32 u33 u34 u35 u36 u37 u38 u39 u40 u41 u42 u43 u44 u45 u46 u47 u48 u49 u50 u51 u52 u53 u54 u55 u56 u57 u58 u59 u60 u61 u62 u63 u64 u65 u66 u67 u68 u69 u70 u71 u72 u73 u74 u75 u76 u77 u78 : Value)
    (hR : Rw.Row iT w base (.slice aa na ca) L) (h1 : Rw.Row iT w base (.slice a1 n1 c1) l1) (h2 : Rw.Row iT w base (.slice a2 n2 c2) l2) (hl : L.length + l1.length + l2.length ≤ 900000) (hbs : base ≤ w.heap.size)
    (hwy : wy < w.heap.size) (hown : ∀ g, (Value.slice aa na ca).ownBlock = some g → g ≠ wy ∧ (Value.slice a1 n1 c1).ownBlock ≠ some g ∧ (Value.slice a2 n2 c2).ownBlock ≠ some g)
    (y1 : w.cell? ⟨wy, h * 3 + 2, none⟩ = some (.slice a1 n1 c1)) (y2 : w.cell? ⟨wy, (h + 1) * 3 + 2, none⟩ = some (.slice a2 n2 c2))
    (hQ : ∀ (v60 v61 v62 v63 v64 v65 v66 v67 v68 v69 v70 v' : Value) (w' : World), Rw.Row iT w' base v' (L ++ l1 ++ l2) → Kept (Grw w (.slice aa na ca)) w w' → (∀ g, v'.ownBlock = some g → (Value.slice aa na ca).ownBlock = some g ∨ w.heap.size ≤ g) → Q .normal ⟨#[v', .int .i64 first, u2, u3, u4, u5, u6, .pointer (some wga), .slice (some ⟨wy, 0, none⟩) N N, u9, u10, u11, .int .i64 (h : Int), .pointer (some ⟨wy, h * 3, none⟩), .pointer (some ⟨wy, (h + 1) * 3, none⟩), u15, u16, u17, u18, u19, u20, u21, u22, u23, u24, u25, u26, u27, u28, u29, u30, u31, u32, u33, u34, u35, u36, u37, u38, u39, u40, u41, u42, u43, u44, u45, u46, u47, u48, u49, u50, u51, u52, u53, u54, u55, u56, u57, u58, u59, v60, v61, v62, v63, v64, v65, v66, v67, v68, v69, v70, u71, u72, u73, u74, u75, u76, u77, u78], []⟩ w') :
    Code.wp Try.prog allReg Q ⟨#[.slice aa na ca, .int .i64 first, u2, u3, u4, u5, u6, .pointer (some wga), .slice (some ⟨wy, 0, none⟩) N N, u9, u10, u11, .int .i64 (h : Int), .pointer (some ⟨wy, h * 3, none⟩), .pointer (some ⟨wy, (h + 1) * 3, none⟩), u15, u16, u17, u18, u19, u20, u21, u22, u23, u24, u25, u26, u27, u28, u29, u30, u31, u32, u33, u34, u35, u36, u37, u38, u39, u40, u41, u42, u43, u44, u45, u46, u47, u48, u49, u50, u51, u52, u53, u54, u55, u56, u57, u58, u59, u60, u61, u62, u63, u64, u65, u66, u67, u68, u69, u70, u71, u72, u73, u74, u75, u76, u77, u78], []⟩ w := by
  conv => arg 2; whnf
  have HL := Lib.hid hl
  have HBS := Lib.hid hbs
  have gw : ¬ Grw w (.slice aa na ca) wy := fun h => h.elim (fun h => by omega) (fun h => (hown _ h).1 rfl)
  have S1 : Hid (∀ w', Kept (Grw w (.slice aa na ca)) w w' → Rw.Src iT w' (.slice a1 n1 c1) l1) := Lib.hid fun w' k => src_row (h1.kept k (fun g hg e => e.elim (fun h => by have := (h1.lt g hg).2; omega) (fun h => (hown _ h).2.1 hg)))
  have S2 : Hid (∀ w', Kept (Grw w (.slice aa na ca)) w w' → Rw.Src iT w' (.slice a2 n2 c2) l2) := Lib.hid fun w' k => src_row (h2.kept k (fun g hg e => e.elim (fun h => by have := (h2.lt g hg).2; omega) (fun h => (hown _ h).2.2 hg)))
  have KS : Hid (∀ w', Kept (Grw w (.slice aa na ca)) w w' → (fun w' => w'.cell? ⟨wy, h * 3 + 2, none⟩ = some (.slice a1 n1 c1) ∧ w'.cell? ⟨wy, (h + 1) * 3 + 2, none⟩ = some (.slice a2 n2 c2)) w') := Lib.hid fun w' k => ⟨(keptCellG k hwy gw).trans y1, (keptCellG k hwy gw).trans y2⟩
  have K0 := Lib.hid ((Kept.refl (fun _ => False) w).mono (G := Grw w (.slice aa na ca)) (fun _ _ f => f.elim)).drew
  have RW0 := Lib.hid (hR.old (Kept.refl (fun _ => False) w).drew)
  have OW0 : Hid (∀ g, (Value.slice aa na ca).ownBlock = some g → (Value.slice aa na ca).ownBlock = some g ∨ w.heap.size ≤ g) := Lib.hid fun g hg => Or.inl hg
  clear hl hbs hown y1 y2 gw hR h1 h2
  dsimp only [List.append]
  refine wp_region_noPanic ?_
  refine wp_region_held_drew (S := fun w' => w'.cell? ⟨wy, h * 3 + 2, none⟩ = some (.slice a1 n1 c1) ∧ w'.cell? ⟨wy, (h + 1) * 3 + 2, none⟩ = some (.slice a2 n2 c2)) (by kernel_rfl) (KS.out _ K0.out) (fun hHeld => ?_)
  generalize w.drew = z0 at *
  refine wpAnyH_take (i := 0) (oi := { dst := some 60, op := Go.Op.move (Go.Operand.tmp 0), type := 25, pos := "mux.go:75", after := #[], guard := none }) (v := ?_) rfl (by kernel_rfl) (by kernel_rfl) (by kernel_rfl) (fun _ _ _ h => h) (Or.inl ⟨by rfl, ?_⟩) (by assumption) ?_
  rotate_left 1
  focus (intro w hSw; (try dsimp only at hSw); go_simp; try with_reducible rfl)
  try simp only [Act.put, List.setIfInBounds_toArray, List.set_cons_zero, List.set_cons_succ]
  refine wpAnyH_take (i := 1) (oi := { dst := some 61, op := Go.Op.move (Go.Operand.tmp 13), type := 96, pos := "mux.go:75", after := #[], guard := none }) (v := ?_) rfl (by kernel_rfl) (by kernel_rfl) (by kernel_rfl) (fun _ _ _ h => h) (Or.inl ⟨by rfl, ?_⟩) (by assumption) ?_
  rotate_left 1
  focus (intro w hSw; (try dsimp only at hSw); go_simp; try with_reducible rfl)
  try simp only [Act.put, List.setIfInBounds_toArray, List.set_cons_zero, List.set_cons_succ]
  refine wpAnyH_take (i := 2) (oi := { dst := some 62, op := Go.Op.nilCheck (Go.Operand.tmp 61), type := 0, pos := "mux.go:75", after := #[{ on := 1, ground := Go.Ground.data }], guard := none }) (v := ?_) rfl (by kernel_rfl) (by kernel_rfl) (by kernel_rfl) (fun _ _ _ h => h) (Or.inl ⟨by rfl, ?_⟩) (by assumption) ?_
  rotate_left 1
  focus (intro w hSw; (try dsimp only at hSw); go_simp; try with_reducible rfl)
  try simp only [Act.put, List.setIfInBounds_toArray, List.set_cons_zero, List.set_cons_succ]
  refine wpAnyH_take (i := 3) (oi := { dst := some 63, op := Go.Op.fieldAddr 93 (Go.Operand.tmp 62) 2, type := 0, pos := "mux.go:75", after := #[{ on := 2, ground := Go.Ground.data }], guard := none }) (v := ?_) rfl (by kernel_rfl) (by kernel_rfl) (by kernel_rfl) (fun _ _ _ h => h) (Or.inl ⟨by rfl, ?_⟩) (by assumption) ?_
  rotate_left 1
  focus (intro w hSw; (try dsimp only at hSw); go_simp; try with_reducible rfl)
  try simp only [Act.put, List.setIfInBounds_toArray, List.set_cons_zero, List.set_cons_succ]
  refine wpAnyH_take (i := 4) (oi := { dst := some 64, op := Go.Op.load 25 (Go.Operand.tmp 63), type := 25, pos := "mux.go:75", after := #[{ on := 3, ground := Go.Ground.data }], guard := none }) (v := ?_) rfl (by kernel_rfl) (by kernel_rfl) (by kernel_rfl) (fun _ _ _ h => h) (Or.inl ⟨by rfl, ?_⟩) (by assumption) ?_
  rotate_left 1
  focus (intro w hSw; (try dsimp only at hSw); go_simp; try with_reducible rfl)
  try simp only [Act.put, List.setIfInBounds_toArray, List.set_cons_zero, List.set_cons_succ]
  refine wpAnyH_take (i := 6) (oi := { dst := some 66, op := Go.Op.move (Go.Operand.tmp 14), type := 96, pos := "mux.go:75", after := #[], guard := none }) (v := ?_) rfl (by kernel_rfl) (by kernel_rfl) (by kernel_rfl) (fun _ _ _ h => h) (Or.inl ⟨by rfl, ?_⟩) (by assumption) ?_
  rotate_left 1
  focus (intro w hSw; (try dsimp only at hSw); go_simp; try with_reducible rfl)
  try simp only [Act.put, List.setIfInBounds_toArray, List.set_cons_zero, List.set_cons_succ]
  refine wpAnyH_take (i := 7) (oi := { dst := some 67, op := Go.Op.nilCheck (Go.Operand.tmp 66), type := 0, pos := "mux.go:75", after := #[{ on := 6, ground := Go.Ground.data }], guard := none }) (v := ?_) rfl (by kernel_rfl) (by kernel_rfl) (by kernel_rfl) (fun _ _ _ h => h) (Or.inl ⟨by rfl, ?_⟩) (by assumption) ?_
  rotate_left 1
  focus (intro w hSw; (try dsimp only at hSw); go_simp; try with_reducible rfl)
  try simp only [Act.put, List.setIfInBounds_toArray, List.set_cons_zero, List.set_cons_succ]
  refine wpAnyH_take (i := 8) (oi := { dst := some 68, op := Go.Op.fieldAddr 93 (Go.Operand.tmp 67) 2, type := 0, pos := "mux.go:75", after := #[{ on := 7, ground := Go.Ground.data }], guard := none }) (v := ?_) rfl (by kernel_rfl) (by kernel_rfl) (by kernel_rfl) (fun _ _ _ h => h) (Or.inl ⟨by rfl, ?_⟩) (by assumption) ?_
  rotate_left 1
  focus (intro w hSw; (try dsimp only at hSw); go_simp; try with_reducible rfl)
  try simp only [Act.put, List.setIfInBounds_toArray, List.set_cons_zero, List.set_cons_succ]
  refine wpAnyH_take (i := 9) (oi := { dst := some 69, op := Go.Op.load 25 (Go.Operand.tmp 68), type := 25, pos := "mux.go:75", after := #[{ on := 8, ground := Go.Ground.data }], guard := none }) (v := ?_) rfl (by kernel_rfl) (by kernel_rfl) (by kernel_rfl) (fun _ _ _ h => h) (Or.inl ⟨by rfl, ?_⟩) (by assumption) ?_
  rotate_left 1
  focus (intro w hSw; (try dsimp only at hSw); go_simp; try with_reducible rfl)
  try simp only [Act.put, List.setIfInBounds_toArray, List.set_cons_zero, List.set_cons_succ]
  refine wpAnyH_ready (rs := [5]) (by kernel_rfl) (by simp) ?_
  refine AllReadyH.cons (o := { dst := some 65, op := Go.Op.call { callee := Go.Callee.builtin Go.Builtin.append, args := #[Go.Operand.tmp 60, Go.Operand.tmp 64], argTypes := #[25, 25] }, type := 25, pos := "mux.go:75", after := #[{ on := 0, ground := Go.Ground.data }, { on := 4, ground := Go.Ground.data }], guard := none }) rfl (fun K hK => ?_) AllReadyH.nil
  refine Rw.step_app iT (by rfl) (.tmp 60) (.tmp 64) (by rfl) base (K := L) (K2 := l1) (by rfl) RW0.out (by rfl) (S1.out _ K0.out) (by have := HL.out; simp; omega) (Nat.le_trans HBS.out K0.out.size) ?_
  intro v1_ z1 A1
  have K1 : Hid (Kept (Grw w (.slice aa na ca)) w z1) := Lib.hid (K0.out.trans (A1.kept.mono (fun i hi e => (OW0.out i e).elim Or.inr (fun h => Or.inl h))))
  have OW1 : Hid (∀ g, v1_.ownBlock = some g → (Value.slice aa na ca).ownBlock = some g ∨ w.heap.size ≤ g) := Lib.hid fun g hg => (A1.lies g hg).elim (OW0.out g) (fun h => Or.inr (Nat.le_trans K0.out.size h))
  have RW1 := Lib.hid A1.row
  obtain ⟨a1, n1, c1, rfl⟩ : ∃ a n c, v1_ = .slice a n c := (by obtain ⟨a, c, e, _⟩ := A1.row.slice; exact ⟨a, _, c, e⟩)
  clear A1
  refine hK.out _ _ (KS.out _ K1.out) (fun hHeld => ?_)
  clear hK K
  try simp only [Act.put, List.setIfInBounds_toArray, List.set_cons_zero, List.set_cons_succ]
  refine wpAnyH_ready (rs := [10]) (by kernel_rfl) (by simp) ?_
  refine AllReadyH.cons (o := { dst := some 70, op := Go.Op.call { callee := Go.Callee.builtin Go.Builtin.append, args := #[Go.Operand.tmp 65, Go.Operand.tmp 69], argTypes := #[25, 25] }, type := 25, pos := "mux.go:75", after := #[{ on := 5, ground := Go.Ground.data }, { on := 9, ground := Go.Ground.data }, { on := 5, ground := Go.Ground.chain }], guard := none }) rfl (fun K hK => ?_) AllReadyH.nil
  refine Rw.step_app iT (by rfl) (.tmp 65) (.tmp 69) (by rfl) base (K := (L ++ l1)) (K2 := l2) (by rfl) RW1.out (by rfl) (S2.out _ K1.out) (by have := HL.out; simp; omega) (Nat.le_trans HBS.out K1.out.size) ?_
  intro v2_ z2 A2
  have K2 : Hid (Kept (Grw w (.slice aa na ca)) w z2) := Lib.hid (K1.out.trans (A2.kept.mono (fun i hi e => (OW1.out i e).elim Or.inr (fun h => Or.inl h))))
  have OW2 : Hid (∀ g, v2_.ownBlock = some g → (Value.slice aa na ca).ownBlock = some g ∨ w.heap.size ≤ g) := Lib.hid fun g hg => (A2.lies g hg).elim (OW1.out g) (fun h => Or.inr (Nat.le_trans K1.out.size h))
  have RW2 := Lib.hid A2.row
  obtain ⟨a2, n2, c2, rfl⟩ : ∃ a n c, v2_ = .slice a n c := (by obtain ⟨a, c, e, _⟩ := A2.row.slice; exact ⟨a, _, c, e⟩)
  clear A2
  refine hK.out _ _ (KS.out _ K2.out) (fun hHeld => ?_)
  clear hK K
  try simp only [Act.put, List.setIfInBounds_toArray, List.set_cons_zero, List.set_cons_succ]
  refine wpAnyH_take (i := 11) (oi := { dst := some 0, op := Go.Op.assign (Go.Operand.tmp 70), type := 25, pos := "mux.go:75", after := #[{ on := 10, ground := Go.Ground.data }, { on := 10, ground := Go.Ground.chain }, { on := 0, ground := Go.Ground.phase }, { on := 1, ground := Go.Ground.phase }, { on := 2, ground := Go.Ground.phase }, { on := 3, ground := Go.Ground.phase }, { on := 4, ground := Go.Ground.phase }, { on := 5, ground := Go.Ground.phase }, { on := 6, ground := Go.Ground.phase }, { on := 7, ground := Go.Ground.phase }, { on := 8, ground := Go.Ground.phase }, { on := 9, ground := Go.Ground.phase }, { on := 10, ground := Go.Ground.phase }], guard := none }) (v := ?_) rfl (by kernel_rfl) (by kernel_rfl) (by kernel_rfl) (fun _ _ _ h => h) (Or.inl ⟨by rfl, ?_⟩) (by assumption) ?_
  rotate_left 1
  focus (intro w hSw; (try dsimp only at hSw); go_simp; try with_reducible rfl)
  try simp only [Act.put, List.setIfInBounds_toArray, List.set_cons_zero, List.set_cons_succ]
  refine wpAnyH_done (by kernel_rfl) ?_ _
  refine NoPanic.normal ?_
  exact hQ _ _ _ _ _ _ _ _ _ _ _ _ _ RW2.out K2.out OW2.out
end Go.Proofs.Ytcefdleidkmomaa.Mx

