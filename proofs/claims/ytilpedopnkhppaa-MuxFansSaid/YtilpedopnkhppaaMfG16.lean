/- A way's take of a value: `came` grows by one. Conditions: each theorem's own. -/
import Derived.Test.YtilpedopnkhppaaMfG15
import Derived.Deep.RegionLaw
import Derived.Deep.RegionHeld3
set_option linter.unusedVariables false
set_option linter.unusedSimpArgs false
namespace Go.Proofs.Ytilpedopnkhppaa.MxS
open Go.Conc Go.Conc.Lib Br Go.RowKit Hp Rw Ro Go.Proofs.Ytilpedopnkhppaa.Mx
def Grw (w : World) (u : Value) (i : Nat) : Prop := w.heap.size ≤ i ∨ u.ownBlock = some i
theorem keptCellG {F : Nat → Prop} {w w' : World} (k : Kept F w w') {p : Addr} (hp : p.block < w.heap.size) (hF : ¬ F p.block) : w'.cell? p = w.cell? p := by
 simp [World.cell?, k.block p.block hp hF]
def findReg (k : Nat) : Code → Option Code
 | .region j o d => if j = k then some (.region j o d) else none
 | .loop c => findReg k c
 | .seq a b => match findReg k a with
   | some c => some c
   | none => findReg k b
 | .block _ c => findReg k c
 | .scope c => findReg k c
 | .cond _ a b => match findReg k a with
   | some c => some c
   | none => findReg k b
 | _ => none
noncomputable def takeReg : Code := ((Try.f70.body.bind (findReg 2)).getD .skip)
set_option maxRecDepth 100000 in
set_option maxHeartbeats 8000000 in
theorem takeVal_region {w : World} {wy a c cc base : Nat} {am : Option Addr} {q : Addr} {f : Int} {y : ByteArray} {l : List It} (Q : Exit → Act → World → Prop) (u3 u4 u5 u6 u7 u8 u9 u10 u11 u12 u13 u14 u15 u16 u17 u18 u19 u20 u21 u22 u23 u24 u25 u26 u27 u28 u29 u30 u31 u32 : Value)
  (hR : Rw.Row iT w base (.slice am c cc) l) (hc : l.length = c) (hl : c ≤ 100000) (hbs : base ≤ w.heap.size)
  (hwy : wy < w.heap.size) (hqy : q.block < w.heap.size) (hqw : q.block ≠ wy) (hown : ∀ g, (Value.slice am c cc).ownBlock = some g → g ≠ wy ∧ g ≠ q.block)
  (y0 : w.cell? ⟨wy, a * 3, none⟩ = some (.int .i64 f)) (y2 : w.cell? ⟨wy, a * 3 + 2, none⟩ = some (.slice am c cc)) (yf : w.frozen? ⟨wy, a * 3 + 2, none⟩ = false) (yq : w.cell? q = some (.string y))
  (hQ : ∀ (v11 v12 v13 v14 v15 v16 v17 v18 v19 v20 v21 v22 v23 v24 v25 v26 v27 v28 v29 v30 v31 v32 v' : Value) (w' : World), Rw.Row iT w' base v' (l ++ [(f, (c : Int), y)]) → Kept (Grw w (.slice am c cc)) w w' → (∀ g, v'.ownBlock = some g → (Value.slice am c cc).ownBlock = some g ∨ w.heap.size ≤ g) → Q .normal ⟨#[.pointer (some ⟨wy, a * 3, none⟩), .pointer (some q), .bool true, u3, u4, u5, u6, u7, u8, u9, u10, v11, v12, v13, v14, v15, v16, v17, v18, v19, v20, v21, v22, v23, v24, v25, v26, v27, v28, v29, v30, v31, v32], []⟩ (w'.setCell ⟨wy, a * 3 + 2, none⟩ v')) :
  Code.wp Try.prog takeReg Q ⟨#[.pointer (some ⟨wy, a * 3, none⟩), .pointer (some q), .bool true, u3, u4, u5, u6, u7, u8, u9, u10, u11, u12, u13, u14, u15, u16, u17, u18, u19, u20, u21, u22, u23, u24, u25, u26, u27, u28, u29, u30, u31, u32], []⟩ w := by
 conv => arg 2; whnf
 have HL : Hid (l.length ≤ 100000) := Lib.hid (by omega)
 have HBS := Lib.hid hbs
 have gw : ¬ Grw w (.slice am c cc) wy := fun h => h.elim (fun h => by omega) (fun h => (hown _ h).1 rfl)
 have gq : ¬ Grw w (.slice am c cc) q.block := fun h => h.elim (fun h => by omega) (fun h => (hown _ h).2 rfl)
 have CK : Hid (∀ w', Kept (Grw w (.slice am c cc)) w w' → (w'.cell? ⟨wy, a * 3, none⟩ = some (.int .i64 f)) ∧ (w'.cell? ⟨wy, a * 3 + 2, none⟩ = some (.slice am c cc)) ∧ (w'.cell? q = some (.string y)) ∧ w'.frozen? ⟨wy, a * 3 + 2, none⟩ = false) := Lib.hid fun w' k => ⟨(keptCellG k hwy gw).trans y0, (keptCellG k hwy gw).trans y2, (keptCellG k hqy gq).trans yq, by
  have := k.block wy hwy gw
  simp only [World.frozen?, this] at yf ⊢
  exact yf⟩
 have KS : Hid (∀ w', Kept (Grw w (.slice am c cc)) w w' → (fun w' => w'.cell? ⟨wy, a * 3, none⟩ = some (.int .i64 f) ∧ w'.cell? q = some (.string y)) w') := Lib.hid fun w' k => by have h := CK.out _ k; exact ⟨h.1, h.2.2.1⟩
 have KX : Hid (∀ (w' : World) (u : Value), Kept (Grw w (.slice am c cc)) w w' → (fun w' => w'.cell? ⟨wy, a * 3, none⟩ = some (.int .i64 f) ∧ w'.cell? q = some (.string y)) (w'.setCell ⟨wy, a * 3 + 2, none⟩ u)) := Lib.hid fun w' u k => by
  have h := KS.out _ k
  have hs := k.size
  have h1 := set_far (w := w') (b := q.block) (p := wy) hqw (a * 3 + 2) u
  dsimp only at h ⊢
  refine ⟨?_, ?_⟩
  ·have h2 := h.1
   simp only [World.cell?, World.setCell, Array.getElem?_modify, if_true] at h2 ⊢
   split at h2
   all_goals simp_all
  ·have h2 := h.2
   simp only [World.cell?, h1] at h2 ⊢
   exact h2
 have K0 := Lib.hid ((Kept.refl (fun _ => False) w).mono (G := Grw w (.slice am c cc)) (fun _ _ f => f.elim)).drew
 have RW0 := Lib.hid (hR.old (Kept.refl (fun _ => False) w).drew)
 clear hl hbs hqy hqw hown y0 y2 yf yq gw gq hR
 dsimp only [List.append]
 refine wp_region_noPanic ?_
 refine wp_region_held_drew (S := fun w' => w'.cell? ⟨wy, a * 3, none⟩ = some (.int .i64 f) ∧ w'.cell? q = some (.string y)) (by kernel_rfl) (KS.out _ K0.out) (fun hHeld => ?_)
 generalize w.drew = z0 at *
 refine tk 0 ⟨some 11, .move (.tmp 0), 119, "mux.go:40", #[], none⟩ (v := ?_) rfl ?_ ?_
 rotate_left 1
 focus (intro w h; (try dsimp only at h); go_simp; try with_reducible rfl)
 try simp only [Act.put, ppA, ppB, ppC]
 refine tk 1 ⟨some 12, .move (.tmp 0), 119, "mux.go:40", #[], none⟩ (v := ?_) rfl ?_ ?_
 rotate_left 1
 focus (intro w h; (try dsimp only at h); go_simp; try with_reducible rfl)
 try simp only [Act.put, ppA, ppB, ppC]
 refine tk 2 ⟨some 13, .nilCheck (.tmp 12), 0, "mux.go:40", #[⟨1, .data⟩], none⟩ (v := ?_) rfl ?_ ?_
 rotate_left 1
 focus (intro w h; (try dsimp only at h); go_simp; try with_reducible rfl)
 try simp only [Act.put, ppA, ppB, ppC]
 refine tk 3 ⟨some 14, .fieldAddr 117 (.tmp 13) 2, 0, "mux.go:40", #[⟨2, .data⟩], none⟩ (v := ?_) rfl ?_ ?_
 rotate_left 1
 focus (intro w h; (try dsimp only at h); go_simp; try with_reducible rfl)
 try simp only [Act.put, ppA, ppB, ppC]
 refine tk 5 ⟨some 16, .move (.tmp 0), 119, "mux.go:40", #[], none⟩ (v := ?_) rfl ?_ ?_
 rotate_left 1
 focus (intro w h; (try dsimp only at h); go_simp; try with_reducible rfl)
 try simp only [Act.put, ppA, ppB, ppC]
 refine tk 6 ⟨some 17, .nilCheck (.tmp 16), 0, "mux.go:40", #[⟨5, .data⟩], none⟩ (v := ?_) rfl ?_ ?_
 rotate_left 1
 focus (intro w h; (try dsimp only at h); go_simp; try with_reducible rfl)
 try simp only [Act.put, ppA, ppB, ppC]
 refine tk 7 ⟨some 18, .fieldAddr 117 (.tmp 17) 0, 0, "mux.go:40", #[⟨6, .data⟩], none⟩ (v := ?_) rfl ?_ ?_
 rotate_left 1
 focus (intro w h; (try dsimp only at h); go_simp; try with_reducible rfl)
 try simp only [Act.put, ppA, ppB, ppC]
 refine tk 8 ⟨some 19, .load 3 (.tmp 18), 3, "mux.go:40", #[⟨7, .data⟩], none⟩ (v := ?_) rfl ?_ ?_
 rotate_left 1
 focus (intro w h; (try dsimp only at h); go_simp; try with_reducible rfl)
 try simp only [Act.put, ppA, ppB, ppC]
 refine tk 9 ⟨some 20, .move (.tmp 0), 119, "mux.go:40", #[], none⟩ (v := ?_) rfl ?_ ?_
 rotate_left 1
 focus (intro w h; (try dsimp only at h); go_simp; try with_reducible rfl)
 try simp only [Act.put, ppA, ppB, ppC]
 refine tk 10 ⟨some 21, .nilCheck (.tmp 20), 0, "mux.go:40", #[⟨9, .data⟩], none⟩ (v := ?_) rfl ?_ ?_
 rotate_left 1
 focus (intro w h; (try dsimp only at h); go_simp; try with_reducible rfl)
 try simp only [Act.put, ppA, ppB, ppC]
 refine tk 11 ⟨some 22, .fieldAddr 117 (.tmp 21) 2, 0, "mux.go:40", #[⟨10, .data⟩], none⟩ (v := ?_) rfl ?_ ?_
 rotate_left 1
 focus (intro w h; (try dsimp only at h); go_simp; try with_reducible rfl)
 try simp only [Act.put, ppA, ppB, ppC]
 refine tk 14 ⟨some 25, .move (.tmp 1), 80, "mux.go:40", #[], none⟩ (v := ?_) rfl ?_ ?_
 rotate_left 1
 focus (intro w h; (try dsimp only at h); go_simp; try with_reducible rfl)
 try simp only [Act.put, ppA, ppB, ppC]
 refine tk 15 ⟨some 26, .nilCheck (.tmp 25), 0, "mux.go:40", #[⟨14, .data⟩], none⟩ (v := ?_) rfl ?_ ?_
 rotate_left 1
 focus (intro w h; (try dsimp only at h); go_simp; try with_reducible rfl)
 try simp only [Act.put, ppA, ppB, ppC]
 refine tk 16 ⟨some 27, .load 9 (.tmp 26), 9, "mux.go:40", #[⟨15, .data⟩], none⟩ (v := ?_) rfl ?_ ?_
 rotate_left 1
 focus (intro w h; (try dsimp only at h); go_simp; try with_reducible rfl)
 try simp only [Act.put, ppA, ppB, ppC]
 refine wpAnyH_ready (rs := [4, 12]) (by kernel_rfl) (by simp) ?_
 refine AllReadyH.cons (o := ⟨some 15, .load 51 (.tmp 14), 51, "mux.go:40", #[⟨3, .data⟩], none⟩) rfl (fun K hK => ?_) (AllReadyH.cons (o := ⟨some 23, .load 51 (.tmp 22), 51, "mux.go:40", #[⟨11, .data⟩], none⟩) rfl (fun K hK => ?_) AllReadyH.nil)
 ·have CC1 := CK.out _ K0.out
  have t3 := CC1.2.1
  go_simp
  refine hK.out _ _ (KS.out _ K0.out) (fun hHeld => ?_)
  clear hK K
  try simp only [Act.put, ppA, ppB, ppC]
  clear t3 CC1
  refine wpAnyH_ready (rs := [12]) (by kernel_rfl) (by simp) ?_
  refine AllReadyH.cons (o := ⟨some 23, .load 51 (.tmp 22), 51, "mux.go:40", #[⟨11, .data⟩], none⟩) rfl (fun K hK => ?_) AllReadyH.nil
  have CC2 := CK.out _ K0.out
  have t3 := CC2.2.1
  go_simp
  refine hK.out _ _ (KS.out _ K0.out) (fun hHeld => ?_)
  clear hK K
  try simp only [Act.put, ppA, ppB, ppC]
  clear t3 CC2
  refine tk 13 ⟨some 24, .call ⟨.builtin .len, #[.tmp 23], #[51]⟩, 3, "mux.go:40", #[⟨12, .data⟩], none⟩ (v := ?_) rfl ?_ ?_
  rotate_left 1
  focus (intro w h; (try dsimp only at h); go_simp; try with_reducible rfl)
  try simp only [Act.put, ppA, ppB, ppC]
  refine tk 17 ⟨some 28, .build 57 #[(0, .tmp 19), (1, .tmp 24), (2, .tmp 27)], 57, "mux.go:40", #[⟨8, .data⟩, ⟨13, .data⟩, ⟨16, .data⟩], none⟩ (v := ?_) rfl ?_ ?_
  rotate_left 1
  focus (intro w h; (try dsimp only at h); go_simp; try with_reducible rfl)
  try simp only [Act.put, ppA, ppB, ppC]
  refine wpAnyH_ready (rs := [18]) (by kernel_rfl) (by simp) ?_
  refine AllReadyH.cons (o := ⟨some 29, .buildSlice 51 1 #[(0, .tmp 28)], 51, "mux.go:40", #[⟨17, .data⟩], none⟩) rfl (fun K hK => ?_) AllReadyH.nil
  have hB3 : Blk (z0.alloc (.cells #[.int .i64 f, .int .i64 (c : Int), .string y] 57)) z0.heap.size [.int .i64 f, .int .i64 (c : Int), .string y] 57 := Blk.new z0 [.int .i64 f, .int .i64 (c : Int), .string y] 57
  have hk3 : Kept (fun _ => False) z0 (z0.alloc (.cells #[.int .i64 f, .int .i64 (c : Int), .string y] 57)) := (Kept.refl _ z0).alloc _
  have RW3 := Lib.hid (RW0.out.old hk3)
  have K3 := Lib.hid (K0.out.alloc (.cells #[.int .i64 f, .int .i64 (c : Int), .string y] 57))
  have HB3 := Lib.hid hB3
  go_simp
  refine hK.out _ _ (KS.out _ K3.out) (fun hHeld => ?_)
  clear hK K
  try simp only [Act.put, ppA, ppB, ppC]
  clear hB3 hk3
  generalize z0.alloc (.cells #[.int .i64 f, .int .i64 (c : Int), .string y] 57) = z3 at *
  generalize z0.heap.size = b3 at *
  refine wpAnyH_ready (rs := [19]) (by kernel_rfl) (by simp) ?_
  refine AllReadyH.cons (o := ⟨some 30, .call ⟨.builtin .append, #[.tmp 15, .tmp 29], #[51, 51]⟩, 51, "mux.go:40", #[⟨4, .data⟩, ⟨18, .data⟩], none⟩) rfl (fun K hK => ?_) AllReadyH.nil
  refine Rw.step_app iT (by rfl) (.tmp 15) (.tmp 29) (by rfl) base (K := l) (K2 := [(f, (c : Int), y)]) (by rfl) RW3.out (by rfl) (Rw.src_blk (t := iT) (K := [(f, (c : Int), y)]) 1 HB3.out) (by have := HL.out; simp; omega) (Nat.le_trans HBS.out K3.out.size) ?_
  intro v4_ z4 A4
  have K4 := Lib.hid (K3.out.trans' A4.kept (fun i _ e => Or.inr e))
  have OW4 : Hid (∀ g, v4_.ownBlock = some g → (Value.slice am c cc).ownBlock = some g ∨ w.heap.size ≤ g) := Lib.hid fun g hg => (A4.lies g hg).elim Or.inl (fun h => Or.inr (Nat.le_trans K3.out.size h))
  have RW4 := Lib.hid A4.row
  obtain ⟨a4, n4, c4, rfl⟩ : ∃ a n c, v4_ = .slice a n c := (by obtain ⟨a, c, e, _⟩ := A4.row.slice; exact ⟨a, _, c, e⟩)
  clear A4
  refine hK.out _ _ (KS.out _ K4.out) (fun hHeld => ?_)
  clear hK K
  try simp only [Act.put, ppA, ppB, ppC]
  refine tk 20 ⟨some 31, .nilCheck (.tmp 11), 0, "mux.go:40", #[⟨0, .data⟩, ⟨0, .phase⟩, ⟨1, .phase⟩, ⟨2, .phase⟩, ⟨3, .phase⟩, ⟨4, .phase⟩, ⟨5, .phase⟩, ⟨6, .phase⟩, ⟨7, .phase⟩, ⟨8, .phase⟩, ⟨9, .phase⟩, ⟨10, .phase⟩, ⟨11, .phase⟩, ⟨12, .phase⟩, ⟨13, .phase⟩, ⟨14, .phase⟩, ⟨15, .phase⟩, ⟨16, .phase⟩, ⟨17, .phase⟩, ⟨18, .phase⟩, ⟨19, .phase⟩], none⟩ (v := ?_) rfl ?_ ?_
  rotate_left 1
  focus (intro w h; (try dsimp only at h); go_simp; try with_reducible rfl)
  try simp only [Act.put, ppA, ppB, ppC]
  refine tk 21 ⟨some 32, .fieldAddr 117 (.tmp 31) 2, 0, "mux.go:40", #[⟨20, .data⟩, ⟨0, .phase⟩, ⟨1, .phase⟩, ⟨2, .phase⟩, ⟨3, .phase⟩, ⟨4, .phase⟩, ⟨5, .phase⟩, ⟨6, .phase⟩, ⟨7, .phase⟩, ⟨8, .phase⟩, ⟨9, .phase⟩, ⟨10, .phase⟩, ⟨11, .phase⟩, ⟨12, .phase⟩, ⟨13, .phase⟩, ⟨14, .phase⟩, ⟨15, .phase⟩, ⟨16, .phase⟩, ⟨17, .phase⟩, ⟨18, .phase⟩, ⟨19, .phase⟩], none⟩ (v := ?_) rfl ?_ ?_
  rotate_left 1
  focus (intro w h; (try dsimp only at h); go_simp; try with_reducible rfl)
  try simp only [Act.put, ppA, ppB, ppC]
  refine wpAnyH_ready (rs := [22]) (by kernel_rfl) (by simp) ?_
  refine AllReadyH.cons (o := ⟨none, .store 51 (.tmp 32) (.tmp 30), 0, "mux.go:40", #[⟨21, .data⟩, ⟨19, .data⟩, ⟨19, .chain⟩, ⟨0, .phase⟩, ⟨1, .phase⟩, ⟨2, .phase⟩, ⟨3, .phase⟩, ⟨4, .phase⟩, ⟨5, .phase⟩, ⟨6, .phase⟩, ⟨7, .phase⟩, ⟨8, .phase⟩, ⟨9, .phase⟩, ⟨10, .phase⟩, ⟨11, .phase⟩, ⟨12, .phase⟩, ⟨13, .phase⟩, ⟨14, .phase⟩, ⟨15, .phase⟩, ⟨16, .phase⟩, ⟨17, .phase⟩, ⟨18, .phase⟩, ⟨19, .phase⟩], none⟩) rfl (fun K hK => ?_) AllReadyH.nil
  have CC5 := CK.out _ K4.out
  have t3 := CC5.2.1
  have t4 := CC5.2.2.2
  go_simp
  refine hK.out _ _ (KX.out _ _ K4.out) (fun hHeld => ?_)
  clear hK K
  try simp only [Act.put, ppA, ppB, ppC]
  refine wpAnyH_done (by kernel_rfl) ?_ _
  refine NoPanic.normal ?_
  exact hQ _ _ _ _ _ _ _ _ _ _ _ _ _ _ _ _ _ _ _ _ _ _ _ _ RW4.out K4.out OW4.out
 ·have CC6 := CK.out _ K0.out
  have t3 := CC6.2.1
  go_simp
  refine hK.out _ _ (KS.out _ K0.out) (fun hHeld => ?_)
  clear hK K
  try simp only [Act.put, ppA, ppB, ppC]
  clear t3 CC6
  refine tk 13 ⟨some 24, .call ⟨.builtin .len, #[.tmp 23], #[51]⟩, 3, "mux.go:40", #[⟨12, .data⟩], none⟩ (v := ?_) rfl ?_ ?_
  rotate_left 1
  focus (intro w h; (try dsimp only at h); go_simp; try with_reducible rfl)
  try simp only [Act.put, ppA, ppB, ppC]
  refine tk 17 ⟨some 28, .build 57 #[(0, .tmp 19), (1, .tmp 24), (2, .tmp 27)], 57, "mux.go:40", #[⟨8, .data⟩, ⟨13, .data⟩, ⟨16, .data⟩], none⟩ (v := ?_) rfl ?_ ?_
  rotate_left 1
  focus (intro w h; (try dsimp only at h); go_simp; try with_reducible rfl)
  try simp only [Act.put, ppA, ppB, ppC]
  refine wpAnyH_ready (rs := [4, 18]) (by kernel_rfl) (by simp) ?_
  refine AllReadyH.cons (o := ⟨some 15, .load 51 (.tmp 14), 51, "mux.go:40", #[⟨3, .data⟩], none⟩) rfl (fun K hK => ?_) (AllReadyH.cons (o := ⟨some 29, .buildSlice 51 1 #[(0, .tmp 28)], 51, "mux.go:40", #[⟨17, .data⟩], none⟩) rfl (fun K hK => ?_) AllReadyH.nil)
  ·have CC7 := CK.out _ K0.out
   have t3 := CC7.2.1
   go_simp
   refine hK.out _ _ (KS.out _ K0.out) (fun hHeld => ?_)
   clear hK K
   try simp only [Act.put, ppA, ppB, ppC]
   clear t3 CC7
   refine wpAnyH_ready (rs := [18]) (by kernel_rfl) (by simp) ?_
   refine AllReadyH.cons (o := ⟨some 29, .buildSlice 51 1 #[(0, .tmp 28)], 51, "mux.go:40", #[⟨17, .data⟩], none⟩) rfl (fun K hK => ?_) AllReadyH.nil
   have hB8 : Blk (z0.alloc (.cells #[.int .i64 f, .int .i64 (c : Int), .string y] 57)) z0.heap.size [.int .i64 f, .int .i64 (c : Int), .string y] 57 := Blk.new z0 [.int .i64 f, .int .i64 (c : Int), .string y] 57
   have hk8 : Kept (fun _ => False) z0 (z0.alloc (.cells #[.int .i64 f, .int .i64 (c : Int), .string y] 57)) := (Kept.refl _ z0).alloc _
   have RW8 := Lib.hid (RW0.out.old hk8)
   have K8 := Lib.hid (K0.out.alloc (.cells #[.int .i64 f, .int .i64 (c : Int), .string y] 57))
   have HB8 := Lib.hid hB8
   go_simp
   refine hK.out _ _ (KS.out _ K8.out) (fun hHeld => ?_)
   clear hK K
   try simp only [Act.put, ppA, ppB, ppC]
   clear hB8 hk8
   generalize z0.alloc (.cells #[.int .i64 f, .int .i64 (c : Int), .string y] 57) = z8 at *
   generalize z0.heap.size = b8 at *
   refine wpAnyH_ready (rs := [19]) (by kernel_rfl) (by simp) ?_
   refine AllReadyH.cons (o := ⟨some 30, .call ⟨.builtin .append, #[.tmp 15, .tmp 29], #[51, 51]⟩, 51, "mux.go:40", #[⟨4, .data⟩, ⟨18, .data⟩], none⟩) rfl (fun K hK => ?_) AllReadyH.nil
   refine Rw.step_app iT (by rfl) (.tmp 15) (.tmp 29) (by rfl) base (K := l) (K2 := [(f, (c : Int), y)]) (by rfl) RW8.out (by rfl) (Rw.src_blk (t := iT) (K := [(f, (c : Int), y)]) 1 HB8.out) (by have := HL.out; simp; omega) (Nat.le_trans HBS.out K8.out.size) ?_
   intro v9_ z9 A9
   have K9 := Lib.hid (K8.out.trans' A9.kept (fun i _ e => Or.inr e))
   have OW9 : Hid (∀ g, v9_.ownBlock = some g → (Value.slice am c cc).ownBlock = some g ∨ w.heap.size ≤ g) := Lib.hid fun g hg => (A9.lies g hg).elim Or.inl (fun h => Or.inr (Nat.le_trans K8.out.size h))
   have RW9 := Lib.hid A9.row
   obtain ⟨a9, n9, c9, rfl⟩ : ∃ a n c, v9_ = .slice a n c := (by obtain ⟨a, c, e, _⟩ := A9.row.slice; exact ⟨a, _, c, e⟩)
   clear A9
   refine hK.out _ _ (KS.out _ K9.out) (fun hHeld => ?_)
   clear hK K
   try simp only [Act.put, ppA, ppB, ppC]
   refine tk 20 ⟨some 31, .nilCheck (.tmp 11), 0, "mux.go:40", #[⟨0, .data⟩, ⟨0, .phase⟩, ⟨1, .phase⟩, ⟨2, .phase⟩, ⟨3, .phase⟩, ⟨4, .phase⟩, ⟨5, .phase⟩, ⟨6, .phase⟩, ⟨7, .phase⟩, ⟨8, .phase⟩, ⟨9, .phase⟩, ⟨10, .phase⟩, ⟨11, .phase⟩, ⟨12, .phase⟩, ⟨13, .phase⟩, ⟨14, .phase⟩, ⟨15, .phase⟩, ⟨16, .phase⟩, ⟨17, .phase⟩, ⟨18, .phase⟩, ⟨19, .phase⟩], none⟩ (v := ?_) rfl ?_ ?_
   rotate_left 1
   focus (intro w h; (try dsimp only at h); go_simp; try with_reducible rfl)
   try simp only [Act.put, ppA, ppB, ppC]
   refine tk 21 ⟨some 32, .fieldAddr 117 (.tmp 31) 2, 0, "mux.go:40", #[⟨20, .data⟩, ⟨0, .phase⟩, ⟨1, .phase⟩, ⟨2, .phase⟩, ⟨3, .phase⟩, ⟨4, .phase⟩, ⟨5, .phase⟩, ⟨6, .phase⟩, ⟨7, .phase⟩, ⟨8, .phase⟩, ⟨9, .phase⟩, ⟨10, .phase⟩, ⟨11, .phase⟩, ⟨12, .phase⟩, ⟨13, .phase⟩, ⟨14, .phase⟩, ⟨15, .phase⟩, ⟨16, .phase⟩, ⟨17, .phase⟩, ⟨18, .phase⟩, ⟨19, .phase⟩], none⟩ (v := ?_) rfl ?_ ?_
   rotate_left 1
   focus (intro w h; (try dsimp only at h); go_simp; try with_reducible rfl)
   try simp only [Act.put, ppA, ppB, ppC]
   refine wpAnyH_ready (rs := [22]) (by kernel_rfl) (by simp) ?_
   refine AllReadyH.cons (o := ⟨none, .store 51 (.tmp 32) (.tmp 30), 0, "mux.go:40", #[⟨21, .data⟩, ⟨19, .data⟩, ⟨19, .chain⟩, ⟨0, .phase⟩, ⟨1, .phase⟩, ⟨2, .phase⟩, ⟨3, .phase⟩, ⟨4, .phase⟩, ⟨5, .phase⟩, ⟨6, .phase⟩, ⟨7, .phase⟩, ⟨8, .phase⟩, ⟨9, .phase⟩, ⟨10, .phase⟩, ⟨11, .phase⟩, ⟨12, .phase⟩, ⟨13, .phase⟩, ⟨14, .phase⟩, ⟨15, .phase⟩, ⟨16, .phase⟩, ⟨17, .phase⟩, ⟨18, .phase⟩, ⟨19, .phase⟩], none⟩) rfl (fun K hK => ?_) AllReadyH.nil
   have CC10 := CK.out _ K9.out
   have t3 := CC10.2.1
   have t4 := CC10.2.2.2
   go_simp
   refine hK.out _ _ (KX.out _ _ K9.out) (fun hHeld => ?_)
   clear hK K
   try simp only [Act.put, ppA, ppB, ppC]
   refine wpAnyH_done (by kernel_rfl) ?_ _
   refine NoPanic.normal ?_
   exact hQ _ _ _ _ _ _ _ _ _ _ _ _ _ _ _ _ _ _ _ _ _ _ _ _ RW9.out K9.out OW9.out
  ·have hB11 : Blk (z0.alloc (.cells #[.int .i64 f, .int .i64 (c : Int), .string y] 57)) z0.heap.size [.int .i64 f, .int .i64 (c : Int), .string y] 57 := Blk.new z0 [.int .i64 f, .int .i64 (c : Int), .string y] 57
   have hk11 : Kept (fun _ => False) z0 (z0.alloc (.cells #[.int .i64 f, .int .i64 (c : Int), .string y] 57)) := (Kept.refl _ z0).alloc _
   have RW11 := Lib.hid (RW0.out.old hk11)
   have K11 := Lib.hid (K0.out.alloc (.cells #[.int .i64 f, .int .i64 (c : Int), .string y] 57))
   have HB11 := Lib.hid hB11
   go_simp
   refine hK.out _ _ (KS.out _ K11.out) (fun hHeld => ?_)
   clear hK K
   try simp only [Act.put, ppA, ppB, ppC]
   clear hB11 hk11
   generalize z0.alloc (.cells #[.int .i64 f, .int .i64 (c : Int), .string y] 57) = z11 at *
   generalize z0.heap.size = b11 at *
   refine wpAnyH_ready (rs := [4]) (by kernel_rfl) (by simp) ?_
   refine AllReadyH.cons (o := ⟨some 15, .load 51 (.tmp 14), 51, "mux.go:40", #[⟨3, .data⟩], none⟩) rfl (fun K hK => ?_) AllReadyH.nil
   have CC12 := CK.out _ K11.out
   have t3 := CC12.2.1
   go_simp
   refine hK.out _ _ (KS.out _ K11.out) (fun hHeld => ?_)
   clear hK K
   try simp only [Act.put, ppA, ppB, ppC]
   clear t3 CC12
   refine wpAnyH_ready (rs := [19]) (by kernel_rfl) (by simp) ?_
   refine AllReadyH.cons (o := ⟨some 30, .call ⟨.builtin .append, #[.tmp 15, .tmp 29], #[51, 51]⟩, 51, "mux.go:40", #[⟨4, .data⟩, ⟨18, .data⟩], none⟩) rfl (fun K hK => ?_) AllReadyH.nil
   refine Rw.step_app iT (by rfl) (.tmp 15) (.tmp 29) (by rfl) base (K := l) (K2 := [(f, (c : Int), y)]) (by rfl) RW11.out (by rfl) (Rw.src_blk (t := iT) (K := [(f, (c : Int), y)]) 1 HB11.out) (by have := HL.out; simp; omega) (Nat.le_trans HBS.out K11.out.size) ?_
   intro v13_ z13 A13
   have K13 := Lib.hid (K11.out.trans' A13.kept (fun i _ e => Or.inr e))
   have OW13 : Hid (∀ g, v13_.ownBlock = some g → (Value.slice am c cc).ownBlock = some g ∨ w.heap.size ≤ g) := Lib.hid fun g hg => (A13.lies g hg).elim Or.inl (fun h => Or.inr (Nat.le_trans K11.out.size h))
   have RW13 := Lib.hid A13.row
   obtain ⟨a13, n13, c13, rfl⟩ : ∃ a n c, v13_ = .slice a n c := (by obtain ⟨a, c, e, _⟩ := A13.row.slice; exact ⟨a, _, c, e⟩)
   clear A13
   refine hK.out _ _ (KS.out _ K13.out) (fun hHeld => ?_)
   clear hK K
   try simp only [Act.put, ppA, ppB, ppC]
   refine tk 20 ⟨some 31, .nilCheck (.tmp 11), 0, "mux.go:40", #[⟨0, .data⟩, ⟨0, .phase⟩, ⟨1, .phase⟩, ⟨2, .phase⟩, ⟨3, .phase⟩, ⟨4, .phase⟩, ⟨5, .phase⟩, ⟨6, .phase⟩, ⟨7, .phase⟩, ⟨8, .phase⟩, ⟨9, .phase⟩, ⟨10, .phase⟩, ⟨11, .phase⟩, ⟨12, .phase⟩, ⟨13, .phase⟩, ⟨14, .phase⟩, ⟨15, .phase⟩, ⟨16, .phase⟩, ⟨17, .phase⟩, ⟨18, .phase⟩, ⟨19, .phase⟩], none⟩ (v := ?_) rfl ?_ ?_
   rotate_left 1
   focus (intro w h; (try dsimp only at h); go_simp; try with_reducible rfl)
   try simp only [Act.put, ppA, ppB, ppC]
   refine tk 21 ⟨some 32, .fieldAddr 117 (.tmp 31) 2, 0, "mux.go:40", #[⟨20, .data⟩, ⟨0, .phase⟩, ⟨1, .phase⟩, ⟨2, .phase⟩, ⟨3, .phase⟩, ⟨4, .phase⟩, ⟨5, .phase⟩, ⟨6, .phase⟩, ⟨7, .phase⟩, ⟨8, .phase⟩, ⟨9, .phase⟩, ⟨10, .phase⟩, ⟨11, .phase⟩, ⟨12, .phase⟩, ⟨13, .phase⟩, ⟨14, .phase⟩, ⟨15, .phase⟩, ⟨16, .phase⟩, ⟨17, .phase⟩, ⟨18, .phase⟩, ⟨19, .phase⟩], none⟩ (v := ?_) rfl ?_ ?_
   rotate_left 1
   focus (intro w h; (try dsimp only at h); go_simp; try with_reducible rfl)
   try simp only [Act.put, ppA, ppB, ppC]
   refine wpAnyH_ready (rs := [22]) (by kernel_rfl) (by simp) ?_
   refine AllReadyH.cons (o := ⟨none, .store 51 (.tmp 32) (.tmp 30), 0, "mux.go:40", #[⟨21, .data⟩, ⟨19, .data⟩, ⟨19, .chain⟩, ⟨0, .phase⟩, ⟨1, .phase⟩, ⟨2, .phase⟩, ⟨3, .phase⟩, ⟨4, .phase⟩, ⟨5, .phase⟩, ⟨6, .phase⟩, ⟨7, .phase⟩, ⟨8, .phase⟩, ⟨9, .phase⟩, ⟨10, .phase⟩, ⟨11, .phase⟩, ⟨12, .phase⟩, ⟨13, .phase⟩, ⟨14, .phase⟩, ⟨15, .phase⟩, ⟨16, .phase⟩, ⟨17, .phase⟩, ⟨18, .phase⟩, ⟨19, .phase⟩], none⟩) rfl (fun K hK => ?_) AllReadyH.nil
   have CC14 := CK.out _ K13.out
   have t3 := CC14.2.1
   have t4 := CC14.2.2.2
   go_simp
   refine hK.out _ _ (KX.out _ _ K13.out) (fun hHeld => ?_)
   clear hK K
   try simp only [Act.put, ppA, ppB, ppC]
   refine wpAnyH_done (by kernel_rfl) ?_ _
   refine NoPanic.normal ?_
   exact hQ _ _ _ _ _ _ _ _ _ _ _ _ _ _ _ _ _ _ _ _ _ _ _ _ RW13.out K13.out OW13.out
end Go.Proofs.Ytilpedopnkhppaa.MxS

/- A way's take of a value, in company. Conditions: the theorem's own. -/
namespace Go.Proofs.Ytilpedopnkhppaa.MxS
open Go.Conc Go.Conc.Lib Br Go.RowKit Hp Rw Ro Go.Proofs.Ytilpedopnkhppaa.Mx
section
variable {s : Grp} {X : Sh} {z al : Value} {Anch Post : Goroutine → World → Prop} {wy N a : Nat} {wf : Nat → Int} {wc : Nat → Option Nat} {wm : Nat → Value}
set_option maxRecDepth 100000 in
set_option maxHeartbeats 4000000 in
theorem takeVal (hX : ShunIn X s.Shun) {Inv : World → Prop} {Inv' : Value → World → Prop} {base c cc : Nat} {am : Option Addr} {q : Addr} {y : ByteArray} {l : List It}
  (hE : ∀ v v' : World, v'.heap = v.heap → Inv v → Inv v') (hW : ∀ v, Inv v → Hp.Blk v wy (wayT wf wc wm N) 117) (ha : a < N) (hm : wm a = .slice am c cc) (hc : l.length = c) (hl9 : c ≤ 100000)
  (hV : ∀ v, Inv v → Rw.Row iT v base (.slice am c cc) l ∧ base ≤ v.heap.size ∧ q.block < v.heap.size ∧ v.cell? q = some (.string y)) (hqw : q.block ≠ wy) (hown : ∀ g, (Value.slice am c cc).ownBlock = some g → g ≠ wy ∧ g ≠ q.block)
  (hI : ∀ v v' w', Inv v → Rw.Row iT w' base v' (l ++ [(wf a, (c : Int), y)]) → Kept (Grw v (.slice am c cc)) v w' → (∀ g, v'.ownBlock = some g → (Value.slice am c cc).ownBlock = some g ∨ v.heap.size ≤ g) → Inv' v' (w'.setCell ⟨wy, a * 3 + 2, none⟩ v'))
  {bc : Frame} {ac : Act} {opsc : Array Oper} {i : Nat} {rest : List Nat} {kc : List Item} {cs : List Frame} {St : Goroutine → World → Prop} {m : Nat}
  (hnext : ∀ w v u, Like (s.Sd X s.n) w v → Inv' u v → (phI s z Anch Post).Live w → Goes Try.prog true ((phI s z Anch Post).Far s.n) ((phI s z Anch Post).DM s.n) St m (G (bc.at (ac.put ((opsc[i]?).bind (·.dst)) (.tuple #[])) (.inRegion opsc rest :: kc)) cs) w)
  {w v : World} (hl : Like (s.Sd X s.n) w v) (hi : Inv v) (hlive : (phI s z Anch Post).Live w) {c0 : Code} (hc0 : Try.f70.body.getD .skip = c0) :
  Goes Try.prog true ((phI s z Anch Post).Far s.n) ((phI s z Anch Post).DM s.n) St (m + 40) (G ((Go.Conc.base 70).at ⟨#[.pointer (some ⟨wy, a * 3, none⟩), .pointer (some q), .bool true, undef, undef, undef, undef, undef, undef, undef, undef, undef, undef, undef, undef, undef, undef, undef, undef, undef, undef, undef, undef, undef, undef, undef, undef, undef, undef, undef, undef, undef, undef], []⟩ [.code c0]) (bc.at ac (.inRegion opsc (i :: rest) :: kc) :: cs)) w := by
 conv at hc0 => lhs; whnf
 subst hc0
 show MG (phI s z Anch Post) s.n _ (m + 40) _ _
 refine MG.le (m := 2 + 2 + (23 + 2 + (m + 1 + 1) + 1 + 1) + 1 + 1) ?_ (by omega)
 refine MG.seq ?_
 refine MG.seq ?_
 refine m_region (m := 23 + 2 + (m + 1 + 1) + 1 + 1) (R := fun t v' => t = #[.pointer (some ⟨wy, a * 3, none⟩), .pointer (some q), .bool true, undef, undef, undef, .bool true, .bool false, undef, undef, undef, undef, undef, undef, undef, undef, undef, undef, undef, undef, undef, undef, undef, undef, undef, undef, undef, undef, undef, undef, undef, undef, undef] ∧ v'.heap = v.heap)
  hX rfl (by kernel_rfl) rfl hlive hl (fun v1 h1 => ?_) (fun a4 w4 v4 hd hi4 hl4 hR4 => ?_)
 ·have hh := Lib.hid (like_same hl h1)
  clear h1 hl hi hnext hW hI hV hE
  go_wp2
  exact hh.out
 obtain ⟨t4, d4⟩ := a4
 have hd1 : d4 = [] := hd
 subst hd1
 obtain ⟨ht, hv4⟩ := hR4
 have ht1 : t4 = #[.pointer (some ⟨wy, a * 3, none⟩), .pointer (some q), .bool true, undef, undef, undef, .bool true, .bool false, undef, undef, undef, undef, undef, undef, undef, undef, undef, undef, undef, undef, undef, undef, undef, undef, undef, undef, undef, undef, undef, undef, undef, undef, undef] := ht
 subst ht1
 clear ht hd
 show MG (phI s z Anch Post) s.n _ (23 + 2 + (m + 1 + 1) + 1 + 1) _ _
 refine MG.condF rfl ?_
 refine MG.skip ?_
 refine m_region (m := m + 1 + 1) (R := fun t v' => ∃ u, Inv' u v')
  hX rfl (by kernel_rfl) rfl hi4 hl4 (fun v1 h1 => ?_) (fun a5 w5 v5 hd hi5 hl5 hR5 => ?_)
 ·have hh := (like_same hl4 h1).trans hv4
  have hi1 := hE v v1 hh hi
  obtain ⟨hr, hb, hq, hy⟩ := hV v1 hi1
  have B := hW v1 hi1
  have y0 := B.cell (o := a * 3) (by rw [Nat.mul_comm]; exact wayT_f ha)
  have y2 := B.cell (o := a * 3 + 2) (by rw [Nat.mul_comm]; exact wayT_m ha)
  rw [hm] at y2
  refine takeVal_region (w := v1) (wy := wy) (a := a) (base := base) (q := q) (f := wf a) (y := y) (l := l) _ undef undef undef (.bool true) (.bool false) undef undef undef undef undef undef undef undef undef undef undef undef undef undef undef undef undef undef undef undef undef undef undef undef undef
   hr hc hl9 hb B.lt hq hqw hown y0 y2 (B.frozen _) hy ?_
  intros
  exact ⟨rfl, _, hI v1 _ _ hi1 (by assumption) (by assumption) (by assumption)⟩
 obtain ⟨t5, d5⟩ := a5
 have hd1 : d5 = [] := hd
 subst hd1
 obtain ⟨u, hu⟩ := hR5
 clear hd
 show MG (phI s z Anch Post) s.n _ (m + 1 + 1) _ _
 refine MG.end_ ?_
 refine MG.leave0 rfl rfl Try.func70 rfl ?_
 exact hnext w5 v5 u hl5 hu hi5
end
end Go.Proofs.Ytilpedopnkhppaa.MxS

/- What came by two ways, behind all. Conditions: the theorem's own. -/
namespace Go.Proofs.Ytilpedopnkhppaa.MxS
open Go.Conc Go.Conc.Lib Br Go.RowKit Hp Rw Ro Go.Proofs.Ytilpedopnkhppaa.Mx
noncomputable def allReg : Code := ((Try.f41.body.bind (findReg 15)).getD .skip)
theorem src_row {w : World} {base : Nat} {v : Value} {l : List It} (h : Rw.Row iT w base v l) : Rw.Src iT w v l := by
 rcases h.form with ⟨rfl, rfl⟩ | ⟨g, cap, cur, rfl, h1, h2⟩
 ·exact Or.inl ⟨rfl, rfl⟩
 ·have := h2.src 0 l.length cap (by omega)
  rw [List.drop_zero, List.take_length, Nat.zero_mul] at this
  exact this
set_option maxRecDepth 100000 in
set_option maxHeartbeats 8000000 in
theorem all_region {w : World} {wy h N base na ca n1 c1 n2 c2 : Nat} {aa a1 a2 : Option Addr} {wga : Addr} {first : Int} {L l1 l2 : List It} (Q : Exit → Act → World → Prop) (u2 u3 u4 u5 u6 u9 u10 u11 u15 u16 u17 u18 u19 u20 u21 u22 u23 u24 u25 u26 u27 u28 u29 u30 u31 u32 u33 u34 u35 u36 u37 u38 u39 u40 u41 u42 u43 u44 u45 u46 u47 u48 u49 u50 u51 u52 u53 u54 u55 u56 u57 u58 u59 u60 u61 u62 u63 u64 u65 u66 u67 u68 u69 u70 u71 u72 u73 u74 u75 u76 u77 u78 : Value)
  (hR : Rw.Row iT w base (.slice aa na ca) L) (h1 : Rw.Row iT w base (.slice a1 n1 c1) l1) (h2 : Rw.Row iT w base (.slice a2 n2 c2) l2) (hl : L.length + l1.length + l2.length ≤ 900000) (hbs : base ≤ w.heap.size)
  (hwy : wy < w.heap.size) (hown : ∀ g, (Value.slice aa na ca).ownBlock = some g → g ≠ wy ∧ (Value.slice a1 n1 c1).ownBlock ≠ some g ∧ (Value.slice a2 n2 c2).ownBlock ≠ some g)
  (y1 : w.cell? ⟨wy, h * 3 + 2, none⟩ = some (.slice a1 n1 c1)) (y2 : w.cell? ⟨wy, (h + 1) * 3 + 2, none⟩ = some (.slice a2 n2 c2))
  (hQ : ∀ (v60 v61 v62 v63 v64 v65 v66 v67 v68 v69 v70 v' : Value) (w' : World), Rw.Row iT w' base v' (L ++ l1 ++ l2) → Kept (Grw w (.slice aa na ca)) w w' → (∀ g, v'.ownBlock = some g → (Value.slice aa na ca).ownBlock = some g ∨ w.heap.size ≤ g) → Q .normal ⟨#[v', .int .i64 first, u2, u3, u4, u5, u6, .pointer (some wga), .slice (some ⟨wy, 0, none⟩) N N, u9, u10, u11, .int .i64 (h : Int), .pointer (some ⟨wy, h * 3, none⟩), .pointer (some ⟨wy, (h + 1) * 3, none⟩), u15, u16, u17, u18, u19, u20, u21, u22, u23, u24, u25, u26, u27, u28, u29, u30, u31, u32, u33, u34, u35, u36, u37, u38, u39, u40, u41, u42, u43, u44, u45, u46, u47, u48, u49, u50, u51, u52, u53, u54, u55, u56, u57, u58, u59, v60, v61, v62, v63, v64, v65, v66, v67, v68, v69, v70, u71, u72, u73, u74, u75, u76, u77, u78], []⟩ w') :
  Code.wp Try.prog allReg Q ⟨#[.slice aa na ca, .int .i64 first, u2, u3, u4, u5, u6, .pointer (some wga), .slice (some ⟨wy, 0, none⟩) N N, u9, u10, u11, .int .i64 (h : Int), .pointer (some ⟨wy, h * 3, none⟩), .pointer (some ⟨wy, (h + 1) * 3, none⟩), u15, u16, u17, u18, u19, u20, u21, u22, u23, u24, u25, u26, u27, u28, u29, u30, u31, u32, u33, u34, u35, u36, u37, u38, u39, u40, u41, u42, u43, u44, u45, u46, u47, u48, u49, u50, u51, u52, u53, u54, u55, u56, u57, u58, u59, u60, u61, u62, u63, u64, u65, u66, u67, u68, u69, u70, u71, u72, u73, u74, u75, u76, u77, u78], []⟩ w := by
 conv => arg 2; whnf
 have HL := Lib.hid hl
 have HBS := Lib.hid hbs
 have gw : ¬ Grw w (.slice aa na ca) wy := fun h => h.elim (fun h => by omega) (fun h => (hown _ h).1 rfl)
 have S1 : Hid (∀ w', Kept (Grw w (.slice aa na ca)) w w' → Rw.Src iT w' (.slice a1 n1 c1) l1) := Lib.hid fun w' k => src_row (h1.kept k (fun g hg e => e.elim (fun h => by have := (h1.lt g hg).2; omega) (fun h => (hown _ h).2.1 hg)))
 have S2 : Hid (∀ w', Kept (Grw w (.slice aa na ca)) w w' → Rw.Src iT w' (.slice a2 n2 c2) l2) := Lib.hid fun w' k => src_row (h2.kept k (fun g hg e => e.elim (fun h => by have := (h2.lt g hg).2; omega) (fun h => (hown _ h).2.2 hg)))
 have KS : Hid (∀ w', Kept (Grw w (.slice aa na ca)) w w' → (fun w' => w'.cell? ⟨wy, h * 3 + 2, none⟩ = some (.slice a1 n1 c1) ∧ w'.cell? ⟨wy, (h + 1) * 3 + 2, none⟩ = some (.slice a2 n2 c2)) w') := Lib.hid fun w' k => ⟨(keptCellG k hwy gw).trans y1, (keptCellG k hwy gw).trans y2⟩
 have K0 := Lib.hid ((Kept.refl (fun _ => False) w).mono (G := Grw w (.slice aa na ca)) (fun _ _ f => f.elim)).drew
 have RW0 := Lib.hid (hR.old (Kept.refl (fun _ => False) w).drew)
 have OW0 : Hid (∀ g, (Value.slice aa na ca).ownBlock = some g → (Value.slice aa na ca).ownBlock = some g ∨ w.heap.size ≤ g) := Lib.hid fun g hg => Or.inl hg
 clear hl hbs hown y1 y2 gw hR h1 h2
 dsimp only [List.append]
 refine wp_region_noPanic ?_
 refine wp_region_held_drew (S := fun w' => w'.cell? ⟨wy, h * 3 + 2, none⟩ = some (.slice a1 n1 c1) ∧ w'.cell? ⟨wy, (h + 1) * 3 + 2, none⟩ = some (.slice a2 n2 c2)) (by kernel_rfl) (KS.out _ K0.out) (fun hHeld => ?_)
 generalize w.drew = z0 at *
 refine tk 0 ⟨some 60, .move (.tmp 0), 51, "mux.go:75", #[], none⟩ (v := ?_) rfl ?_ ?_
 rotate_left 1
 focus (intro w h; (try dsimp only at h); go_simp; try with_reducible rfl)
 try simp only [Act.put, ppA, ppB, ppC]
 refine tk 1 ⟨some 61, .move (.tmp 13), 119, "mux.go:75", #[], none⟩ (v := ?_) rfl ?_ ?_
 rotate_left 1
 focus (intro w h; (try dsimp only at h); go_simp; try with_reducible rfl)
 try simp only [Act.put, ppA, ppB, ppC]
 refine tk 2 ⟨some 62, .nilCheck (.tmp 61), 0, "mux.go:75", #[⟨1, .data⟩], none⟩ (v := ?_) rfl ?_ ?_
 rotate_left 1
 focus (intro w h; (try dsimp only at h); go_simp; try with_reducible rfl)
 try simp only [Act.put, ppA, ppB, ppC]
 refine tk 3 ⟨some 63, .fieldAddr 117 (.tmp 62) 2, 0, "mux.go:75", #[⟨2, .data⟩], none⟩ (v := ?_) rfl ?_ ?_
 rotate_left 1
 focus (intro w h; (try dsimp only at h); go_simp; try with_reducible rfl)
 try simp only [Act.put, ppA, ppB, ppC]
 refine tk 4 ⟨some 64, .load 51 (.tmp 63), 51, "mux.go:75", #[⟨3, .data⟩], none⟩ (v := ?_) rfl ?_ ?_
 rotate_left 1
 focus (intro w h; (try dsimp only at h); go_simp; try with_reducible rfl)
 try simp only [Act.put, ppA, ppB, ppC]
 refine tk 6 ⟨some 66, .move (.tmp 14), 119, "mux.go:75", #[], none⟩ (v := ?_) rfl ?_ ?_
 rotate_left 1
 focus (intro w h; (try dsimp only at h); go_simp; try with_reducible rfl)
 try simp only [Act.put, ppA, ppB, ppC]
 refine tk 7 ⟨some 67, .nilCheck (.tmp 66), 0, "mux.go:75", #[⟨6, .data⟩], none⟩ (v := ?_) rfl ?_ ?_
 rotate_left 1
 focus (intro w h; (try dsimp only at h); go_simp; try with_reducible rfl)
 try simp only [Act.put, ppA, ppB, ppC]
 refine tk 8 ⟨some 68, .fieldAddr 117 (.tmp 67) 2, 0, "mux.go:75", #[⟨7, .data⟩], none⟩ (v := ?_) rfl ?_ ?_
 rotate_left 1
 focus (intro w h; (try dsimp only at h); go_simp; try with_reducible rfl)
 try simp only [Act.put, ppA, ppB, ppC]
 refine tk 9 ⟨some 69, .load 51 (.tmp 68), 51, "mux.go:75", #[⟨8, .data⟩], none⟩ (v := ?_) rfl ?_ ?_
 rotate_left 1
 focus (intro w h; (try dsimp only at h); go_simp; try with_reducible rfl)
 try simp only [Act.put, ppA, ppB, ppC]
 refine wpAnyH_ready (rs := [5]) (by kernel_rfl) (by simp) ?_
 refine AllReadyH.cons (o := ⟨some 65, .call ⟨.builtin .append, #[.tmp 60, .tmp 64], #[51, 51]⟩, 51, "mux.go:75", #[⟨0, .data⟩, ⟨4, .data⟩], none⟩) rfl (fun K hK => ?_) AllReadyH.nil
 refine Rw.step_app iT (by rfl) (.tmp 60) (.tmp 64) (by rfl) base (K := L) (K2 := l1) (by rfl) RW0.out (by rfl) (S1.out _ K0.out) (by have := HL.out; simp; omega) (Nat.le_trans HBS.out K0.out.size) ?_
 intro v1_ z1 A1
 have K1 : Hid (Kept (Grw w (.slice aa na ca)) w z1) := Lib.hid (K0.out.trans (A1.kept.mono (fun i hi e => (OW0.out i e).elim Or.inr (fun h => Or.inl h))))
 have OW1 : Hid (∀ g, v1_.ownBlock = some g → (Value.slice aa na ca).ownBlock = some g ∨ w.heap.size ≤ g) := Lib.hid fun g hg => (A1.lies g hg).elim (OW0.out g) (fun h => Or.inr (Nat.le_trans K0.out.size h))
 have RW1 := Lib.hid A1.row
 obtain ⟨a1, n1, c1, rfl⟩ : ∃ a n c, v1_ = .slice a n c := (by obtain ⟨a, c, e, _⟩ := A1.row.slice; exact ⟨a, _, c, e⟩)
 clear A1
 refine hK.out _ _ (KS.out _ K1.out) (fun hHeld => ?_)
 clear hK K
 try simp only [Act.put, ppA, ppB, ppC]
 refine wpAnyH_ready (rs := [10]) (by kernel_rfl) (by simp) ?_
 refine AllReadyH.cons (o := ⟨some 70, .call ⟨.builtin .append, #[.tmp 65, .tmp 69], #[51, 51]⟩, 51, "mux.go:75", #[⟨5, .data⟩, ⟨9, .data⟩, ⟨5, .chain⟩], none⟩) rfl (fun K hK => ?_) AllReadyH.nil
 refine Rw.step_app iT (by rfl) (.tmp 65) (.tmp 69) (by rfl) base (K := (L ++ l1)) (K2 := l2) (by rfl) RW1.out (by rfl) (S2.out _ K1.out) (by have := HL.out; simp; omega) (Nat.le_trans HBS.out K1.out.size) ?_
 intro v2_ z2 A2
 have K2 : Hid (Kept (Grw w (.slice aa na ca)) w z2) := Lib.hid (K1.out.trans (A2.kept.mono (fun i hi e => (OW1.out i e).elim Or.inr (fun h => Or.inl h))))
 have OW2 : Hid (∀ g, v2_.ownBlock = some g → (Value.slice aa na ca).ownBlock = some g ∨ w.heap.size ≤ g) := Lib.hid fun g hg => (A2.lies g hg).elim (OW1.out g) (fun h => Or.inr (Nat.le_trans K1.out.size h))
 have RW2 := Lib.hid A2.row
 obtain ⟨a2, n2, c2, rfl⟩ : ∃ a n c, v2_ = .slice a n c := (by obtain ⟨a, c, e, _⟩ := A2.row.slice; exact ⟨a, _, c, e⟩)
 clear A2
 refine hK.out _ _ (KS.out _ K2.out) (fun hHeld => ?_)
 clear hK K
 try simp only [Act.put, ppA, ppB, ppC]
 refine tk 11 ⟨some 0, .assign (.tmp 70), 51, "mux.go:75", #[⟨10, .data⟩, ⟨10, .chain⟩, ⟨0, .phase⟩, ⟨1, .phase⟩, ⟨2, .phase⟩, ⟨3, .phase⟩, ⟨4, .phase⟩, ⟨5, .phase⟩, ⟨6, .phase⟩, ⟨7, .phase⟩, ⟨8, .phase⟩, ⟨9, .phase⟩, ⟨10, .phase⟩], none⟩ (v := ?_) rfl ?_ ?_
 rotate_left 1
 focus (intro w h; (try dsimp only at h); go_simp; try with_reducible rfl)
 try simp only [Act.put, ppA, ppB, ppC]
 refine wpAnyH_done (by kernel_rfl) ?_ _
 refine NoPanic.normal ?_
 exact hQ _ _ _ _ _ _ _ _ _ _ _ _ _ RW2.out K2.out OW2.out
end Go.Proofs.Ytilpedopnkhppaa.MxS

/- Behind takeBoth: what came by both ways goes behind all, in company. Conditions: the theorem's own. -/
namespace Go.Proofs.Ytilpedopnkhppaa.MxS
open Go.Conc Go.Conc.Lib Br Go.RowKit Hp Rw Ro Go.Proofs.Ytilpedopnkhppaa.Mx
section
variable {s : Grp} {X : Sh} {z : Value} {Anch Post : Goroutine → World → Prop} {wy N h : Nat} {first : Int}
set_option maxRecDepth 100000 in
set_option maxHeartbeats 4000000 in
theorem pairAll (hX : ShunIn X s.Shun) {Inv : World → Prop} {Inv' : Value → World → Prop} {base na ca n1 c1 n2 c2 : Nat} {aa a1 a2 : Option Addr} {L l1 l2 : List It}
  (hE : ∀ v v' : World, v'.heap = v.heap → Inv v → Inv v') (hl9 : L.length + l1.length + l2.length ≤ 900000)
  (hV : ∀ v, Inv v → Rw.Row iT v base (.slice aa na ca) L ∧ Rw.Row iT v base (.slice a1 n1 c1) l1 ∧ Rw.Row iT v base (.slice a2 n2 c2) l2 ∧ base ≤ v.heap.size ∧ wy < v.heap.size ∧ v.cell? ⟨wy, h * 3 + 2, none⟩ = some (.slice a1 n1 c1) ∧ v.cell? ⟨wy, (h + 1) * 3 + 2, none⟩ = some (.slice a2 n2 c2))
  (hown : ∀ g, (Value.slice aa na ca).ownBlock = some g → g ≠ wy ∧ (Value.slice a1 n1 c1).ownBlock ≠ some g ∧ (Value.slice a2 n2 c2).ownBlock ≠ some g)
  (hI : ∀ v v' w', Inv v → Rw.Row iT w' base v' (L ++ l1 ++ l2) → Kept (Grw v (.slice aa na ca)) v w' → (∀ g, v'.ownBlock = some g → (Value.slice aa na ca).ownBlock = some g ∨ v.heap.size ≤ g) → Inv' v' w')
  {b₀ : Frame} (hb₀ : b₀.kind = .normal) {k : List Item} {cs : List Frame} {St : Goroutine → World → Prop} {m : Nat}
  (hnext : ∀ t w v u, FP s u wy N first h t → Like (s.Sd X s.n) w v → Inv' u v → (phI s z Anch Post).Live w → Goes Try.prog true ((phI s z Anch Post).Far s.n) ((phI s z Anch Post).DM s.n) St m (G (b₀.at ⟨t, []⟩ (.code (sndOf (tk15 tkc)) :: k)) cs) w)
  {t : Array Value} {w v : World} (ht : FP s (.slice aa na ca) wy N first h t) (hl : Like (s.Sd X s.n) w v) (hi : Inv v) (hlive : (phI s z Anch Post).Live w) {c : Code} (hc : tk15 tkc = c) :
  Goes Try.prog true ((phI s z Anch Post).Far s.n) ((phI s z Anch Post).DM s.n) St (m + 40) (G (b₀.at ⟨t, []⟩ (.code c :: k)) cs) w := by
 obtain ⟨u2, u3, u4, u5, u6, u9, u10, u11, u15, u16, u17, u18, u19, u20, u21, u22, u23, u24, u25, u26, u27, u28, u29, u30, u31, u32, u33, u34, u35, u36, u37, u38, u39, u40, u41, u42, u43, u44, u45, u46, u47, u48, u49, u50, u51, u52, u53, u54, u55, u56, u57, u58, u59, u60, u61, u62, u63, u64, u65, u66, u67, u68, u69, u70, u71, u72, u73, u74, u75, u76, u77, u78⟩ := ht
 conv at hc => lhs; whnf
 subst hc
 show MG (phI s z Anch Post) s.n _ (m + 40) _ _
 refine MG.le (m := 12 + 2 + (m + 1) + 1) ?_ (by omega)
 refine MG.seq ?_
 refine m_region (m := m + 1) (R := fun t v' => ∃ u, FP s u wy N first h t ∧ Inv' u v')
  hX hb₀ (by kernel_rfl) rfl hlive hl (fun v1 h1 => ?_) (fun a5 w5 v5 hd hi5 hl5 hR5 => ?_)
 ·have hi1 := hE v v1 (like_same hl h1) hi
  obtain ⟨hr, hr1, hr2, hb, hy, y1, y2⟩ := hV v1 hi1
  refine all_region (w := v1) (wy := wy) (h := h) (N := N) (base := base) (wga := s.wga) (first := first) (L := L) (l1 := l1) (l2 := l2) _ u2 u3 u4 u5 u6 u9 u10 u11 u15 u16 u17 u18 u19 u20 u21 u22 u23 u24 u25 u26 u27 u28 u29 u30 u31 u32 u33 u34 u35 u36 u37 u38 u39 u40 u41 u42 u43 u44 u45 u46 u47 u48 u49 u50 u51 u52 u53 u54 u55 u56 u57 u58 u59 u60 u61 u62 u63 u64 u65 u66 u67 u68 u69 u70 u71 u72 u73 u74 u75 u76 u77 u78
   hr hr1 hr2 hl9 hb hy hown y1 y2 ?_
  intros
  exact ⟨rfl, _, .mk .., hI v1 _ _ hi1 (by assumption) (by assumption) (by assumption)⟩
 obtain ⟨t5, d5⟩ := a5
 have hd1 : d5 = [] := hd
 subst hd1
 obtain ⟨u, hu, hui⟩ := hR5
 show MG (phI s z Anch Post) s.n _ (m + 1) _ _
 exact MG.le (m := m) (hnext t5 w5 v5 u hu hl5 hui hi5) (by omega)
end
end Go.Proofs.Ytilpedopnkhppaa.MxS

/- What holds while a pair of ways is taken: the ways' block, what came of both, all that came before. Conditions: each theorem's own. -/
namespace Go.Proofs.Ytilpedopnkhppaa.MxS
open Go.Conc Go.Conc.Lib Br Go.RowKit Hp Rw Ro Go.Proofs.Ytilpedopnkhppaa.Mx
abbrev zN : Value := .pointer none
abbrev nilS : Value := .slice none 0 0
def rem (n : Nat) (len T : Nat → Nat) : Nat := Go.ConcN.sumTo n fun k => len k + 1 - T k
theorem rem_out {len T : Nat → Nat} {k x : Nat} : ∀ {n : Nat}, n ≤ k → rem n len (Go.ConcN.upd T k x) = rem n len T
 | 0, _ => rfl
 | n + 1, h => by
   have := rem_out (len := len) (T := T) (k := k) (x := x) (n := n) (by omega)
   unfold rem at this ⊢
   rw [Go.ConcN.sumTo, Go.ConcN.sumTo, this]
   have e : Go.ConcN.upd T k x n = T n := by unfold Go.ConcN.upd; rw [if_neg (by omega)]
   rw [e]
theorem rem_upd {len T : Nat → Nat} {k : Nat} (h : T k ≤ len k) : ∀ {n : Nat}, k < n → rem n len (Go.ConcN.upd T k (T k + 1)) + 1 = rem n len T
 | n + 1, hk => by
   rcases Nat.lt_or_ge k n with hl | hg
   ·have := rem_upd h hl
    unfold rem at this ⊢
    rw [Go.ConcN.sumTo, Go.ConcN.sumTo]
    have e : Go.ConcN.upd T k (T k + 1) n = T n := by unfold Go.ConcN.upd; rw [if_neg (by omega)]
    rw [e]
    omega
   ·obtain rfl : k = n := by omega
    have := rem_out (len := len) (T := T) (k := k) (x := T k + 1) (n := k) (Nat.le_refl _)
    unfold rem at this ⊢
    rw [Go.ConcN.sumTo, Go.ConcN.sumTo, this]
    have e : Go.ConcN.upd T k (T k + 1) k = T k + 1 := by unfold Go.ConcN.upd; rw [if_pos rfl]
    rw [e]
    omega
theorem upd_comm {α : Type} {f : Nat → α} {i j : Nat} {x y : α} (h : i ≠ j) : Go.ConcN.upd (Go.ConcN.upd f i x) j y = Go.ConcN.upd (Go.ConcN.upd f j y) i x := by
 funext k
 unfold Go.ConcN.upd
 by_cases h1 : k = j
 ·subst h1
  rw [if_pos rfl, if_neg (fun e => h e.symm), if_pos rfl]
 ·rw [if_neg h1, if_neg h1]
theorem upd_upd {α : Type} {f : Nat → α} {i : Nat} {x y : α} : Go.ConcN.upd (Go.ConcN.upd f i x) i y = Go.ConcN.upd f i y := by
 funext k
 unfold Go.ConcN.upd
 by_cases h1 : k = i <;> simp [h1]
section
variable (s : Grp) (Anch Post : Goroutine → World → Prop) (first : Int) (vals : Nat → List ByteArray) (wy N : Nat) (v0 : World)
def wfN (k : Nat) : Int := if k < s.n then first + (k : Int) else 0
structure KH (v : World) : Prop where
 size : v0.heap.size ≤ v.heap.size
 same : ∀ b, b < v0.heap.size → b ≠ wy → v.heap[b]? = v0.heap[b]?
noncomputable abbrev lenv (k : Nat) : Nat := ((phI s zN Anch Post).vs k).length
structure Ls : Prop where
 len : ∀ k, k < s.n → (vals k).length = lenv s Anch Post k
 none : ∀ k, s.n ≤ k → vals k = []
 hwy : wy < v0.heap.size
 at_ : ∀ (k i : Nat) (x : ByteArray), k < s.n → (vals k)[i]? = some x → ∃ q : Addr, ((phI s zN Anch Post).vs k)[i]? = some (Value.pointer (some q)) ∧ q.block < v0.heap.size ∧ q.block ≠ wy ∧ v0.cell? q = some (Value.string x)
def Wys (h : Nat) (T : Nat → Nat) (u1 u2 : Value) (v : World) : Prop := Hp.Blk v wy (wayT (wfN s first) (wcT s zN Anch Post T) (Go.ConcN.upd (Go.ConcN.upd (fun _ => nilS) h u1) (h + 1) u2) N) 117
structure PI (h : Nat) (T : Nat → Nat) (u1 u2 al : Value) (L : List It) (v : World) : Prop where
 ways : Wys s Anch Post first wy N h T u1 u2 v
 r1 : Rw.Row iT v v0.heap.size u1 (itemsOf (wfN s first h) (vals h) (T h))
 r2 : Rw.Row iT v v0.heap.size u2 (itemsOf (wfN s first (h + 1)) (vals (h + 1)) (T (h + 1)))
 ra : Rw.Row iT v v0.heap.size al L
 d12 : ∀ g, u1.ownBlock = some g → u2.ownBlock ≠ some g
 da1 : ∀ g, al.ownBlock = some g → u1.ownBlock ≠ some g
 da2 : ∀ g, al.ownBlock = some g → u2.ownBlock ≠ some g
 kh : KH wy v0 v
end
section
variable {s : Grp} {Anch Post : Goroutine → World → Prop} {first : Int} {vals : Nat → List ByteArray} {wy N : Nat} {v0 v v' w' : World} {h : Nat} {T : Nat → Nat} {u1 u2 al : Value} {L : List It}
theorem row_heap {base : Nat} {u : Value} {l : List It} (r : Rw.Row iT v base u l) (e : v'.heap = v.heap) : Rw.Row iT v' base u l := by
 rcases r.form with ⟨rfl, rfl⟩ | ⟨g, cap, cur, rfl, h1, h2⟩
 ·exact Rw.Row.none iT v' base
 ·exact Rw.Lies.row ⟨h2.blk.heap (by rw [e]), h2.le, h2.most, h2.len, h2.head⟩ h1
theorem row_same {base : Nat} {u : Value} {l : List It} (r : Rw.Row iT v base u l) (e : ∀ g, u.ownBlock = some g → v'.heap[g]? = v.heap[g]?) : Rw.Row iT v' base u l := by
 rcases r.form with ⟨rfl, rfl⟩ | ⟨g, cap, cur, rfl, h1, h2⟩
 ·exact Rw.Row.none iT v' base
 ·exact Rw.Lies.row ⟨h2.blk.heap (e g rfl), h2.le, h2.most, h2.len, h2.head⟩ h1
theorem PI.heap (p : PI s Anch Post first vals wy N v0 h T u1 u2 al L v) (e : v'.heap = v.heap) : PI s Anch Post first vals wy N v0 h T u1 u2 al L v' :=
 ⟨p.ways.heap (by rw [e]), row_heap p.r1 e, row_heap p.r2 e, row_heap p.ra e, p.d12, p.da1, p.da2, ⟨by rw [e]; exact p.kh.size, fun b h1 h2 => by rw [e]; exact p.kh.same b h1 h2⟩⟩
theorem row_far {base : Nat} {u : Value} {l : List It} (r : Rw.Row iT v base u l) (hw : wy < base) (o : Nat) (x : Value) : Rw.Row iT (v.setCell ⟨wy, o, none⟩ x) base u l :=
 row_same r fun g hg => set_far (by have := (r.lt g hg).1; omega) o x
theorem PI.shut (hL : Ls s Anch Post vals wy v0) (p : PI s Anch Post first vals wy N v0 h T u1 u2 al L v) {a : Nat} (ha : a = h ∨ a = h + 1) (hn : a < s.n) (hT : T a = lenv s Anch Post a)
  (hB : Hp.Blk v' wy (wayT (wfN s first) (Go.ConcN.upd (wcT s zN Anch Post T) a none) (Go.ConcN.upd (Go.ConcN.upd (fun _ => nilS) h u1) (h + 1) u2) N) 117) (hs : ∀ b, b ≠ wy → v'.heap[b]? = v.heap[b]?) (hz : v'.heap.size = v.heap.size) :
  PI s Anch Post first vals wy N v0 h (Go.ConcN.upd T a (T a + 1)) u1 u2 al L v' := by
 have hwy := hL.hwy
 have full : ∀ k, itemsOf (wfN s first k) (vals k) (Go.ConcN.upd T a (T a + 1) k) = itemsOf (wfN s first k) (vals k) (T k) := fun k => by
  by_cases e : k = a
  ·subst e
   rw [Go.ConcN.upd_same, itemsOf_full (c := T k + 1) (by rw [hL.len k hn, hT]; omega), itemsOf_full (c := T k) (by rw [hL.len k hn, hT]; omega)]
  ·rw [Go.ConcN.upd_ne _ _ e]
 have sm : ∀ {u : Value} {l : List It}, Rw.Row iT v v0.heap.size u l → Rw.Row iT v' v0.heap.size u l := fun r => row_same r fun g hg => hs g (by have := (r.lt g hg).1; omega)
 refine ⟨?_, by rw [full]; exact sm p.r1, by rw [full]; exact sm p.r2, sm p.ra, p.d12, p.da1, p.da2, ⟨by rw [hz]; exact p.kh.size, fun b h1 h2 => by rw [hs b h2]; exact p.kh.same b h1 h2⟩⟩
 unfold Wys
 rw [wcT_shut hT]
 exact hB
theorem grw_same {u : Value} {b : Nat} (k : Kept (Grw v u) v w') (hb : b < v.heap.size) (hu : u.ownBlock ≠ some b) : w'.heap[b]? = v.heap[b]? := k.block b hb (fun e => e.elim (fun h => by omega) hu)
theorem KH.grow (hwy : wy < v0.heap.size) {u : Value} (k : KH wy v0 v) (g : Kept (Grw v u) v w') (hu : ∀ b, u.ownBlock = some b → v0.heap.size ≤ b) : KH wy v0 w' :=
 ⟨Nat.le_trans k.size g.size, fun b h1 h2 => by rw [grw_same g (by have := k.size; omega) (fun e => by have := hu b e; omega)]; exact k.same b h1 h2⟩
theorem row_grow {base : Nat} {u u' : Value} {l : List It} (r : Rw.Row iT v base u l) (g : Kept (Grw v u') v w') (hd : ∀ b, u.ownBlock = some b → u'.ownBlock ≠ some b) : Rw.Row iT w' base u l :=
 row_same r fun b hb => grw_same g (r.lt b hb).2 (hd b hb)
theorem KH.store (k : KH wy v0 v) (o : Nat) (x : Value) : KH wy v0 (v.setCell ⟨wy, o, none⟩ x) := ⟨by simpa using k.size, fun b h1 h2 => by rw [set_far h2]; exact k.same b h1 h2⟩
theorem PI.fst (hL : Ls s Anch Post vals wy v0) (p : PI s Anch Post first vals wy N v0 h T u1 u2 al L v) (hN : h + 1 < N) (hn : h < s.n) {x : ByteArray} (hx : (vals h)[T h]? = some x) {u : Value}
  (hr : Rw.Row iT w' v0.heap.size u (itemsOf (wfN s first h) (vals h) (T h) ++ [(wfN s first h, (T h : Int), x)])) (hk : Kept (Grw v u1) v w') (ho : ∀ g, u.ownBlock = some g → u1.ownBlock = some g ∨ v.heap.size ≤ g) :
  PI s Anch Post first vals wy N v0 h (Go.ConcN.upd T h (T h + 1)) u u2 al L (w'.setCell ⟨wy, h * 3 + 2, none⟩ u) := by
 have hwy := hL.hwy
 have hlt := (List.getElem?_eq_some_iff.1 hx).1
 have hvl : T h < lenv s Anch Post h := by rw [← hL.len h hn]; exact hlt
 have hvs := p.kh.size
 have e1 : Go.ConcN.upd T h (T h + 1) h = T h + 1 := Go.ConcN.upd_same _ _ _
 have e2 : Go.ConcN.upd T h (T h + 1) (h + 1) = T (h + 1) := Go.ConcN.upd_ne _ _ (by omega)
 have ei : itemsOf (wfN s first h) (vals h) (T h + 1) = itemsOf (wfN s first h) (vals h) (T h) ++ [(wfN s first h, (T h : Int), x)] := by
  rw [itemsOf_succ hlt]
  congr 3
  rw [List.getD, hx]; rfl
 have nu : ∀ {u' : Value} {l : List It}, Rw.Row iT v v0.heap.size u' l → (∀ g, u1.ownBlock = some g → u'.ownBlock ≠ some g) → ∀ g, u.ownBlock = some g → u'.ownBlock ≠ some g := fun r hd g hg e => by
  rcases ho g hg with h1 | h1
  ·exact hd g h1 e
  ·have := (r.lt g e).2; omega
 refine ⟨?_, by rw [e1, ei]; exact row_far hr hwy _ _, by rw [e2]; exact row_far (row_grow p.r2 hk fun b hb e => p.d12 b e hb) hwy _ _, row_far (row_grow p.ra hk fun b hb e => p.da1 b hb e) hwy _ _,
  nu p.r2 p.d12, fun g hg e => nu p.ra (fun g h1 h2 => p.da1 g h2 h1) g e hg, p.da2, (p.kh.grow hwy hk (fun b hb => (p.r1.lt b hb).1)).store _ _⟩
 have hB : Hp.Blk w' wy _ _ := p.ways.heap (grw_same hk (by omega) (fun e => by have := (p.r1.lt wy e).1; omega))
 have := hB.set (h * 3 + 2) u
 unfold Wys
 rw [Nat.mul_comm h 3, wayT_setm (show h < N by omega), upd_comm (show h + 1 ≠ h by omega), upd_upd, upd_comm (show h ≠ h + 1 by omega)] at this
 rw [wcT_val hn hvl, Nat.mul_comm h 3]
 rw [upd_comm (show h + 1 ≠ h by omega)] at this
 exact this
theorem PI.snd (hL : Ls s Anch Post vals wy v0) (p : PI s Anch Post first vals wy N v0 h T u1 u2 al L v) (hN : h + 1 < N) (hn : h + 1 < s.n) {x : ByteArray} (hx : (vals (h + 1))[T (h + 1)]? = some x) {u : Value}
  (hr : Rw.Row iT w' v0.heap.size u (itemsOf (wfN s first (h + 1)) (vals (h + 1)) (T (h + 1)) ++ [(wfN s first (h + 1), (T (h + 1) : Int), x)])) (hk : Kept (Grw v u2) v w') (ho : ∀ g, u.ownBlock = some g → u2.ownBlock = some g ∨ v.heap.size ≤ g) :
  PI s Anch Post first vals wy N v0 h (Go.ConcN.upd T (h + 1) (T (h + 1) + 1)) u1 u al L (w'.setCell ⟨wy, (h + 1) * 3 + 2, none⟩ u) := by
 have hwy := hL.hwy
 have hlt := (List.getElem?_eq_some_iff.1 hx).1
 have hvl : T (h + 1) < lenv s Anch Post (h + 1) := by rw [← hL.len (h + 1) hn]; exact hlt
 have hvs := p.kh.size
 have e1 : Go.ConcN.upd T (h + 1) (T (h + 1) + 1) (h + 1) = T (h + 1) + 1 := Go.ConcN.upd_same _ _ _
 have e2 : Go.ConcN.upd T (h + 1) (T (h + 1) + 1) h = T h := Go.ConcN.upd_ne _ _ (by omega)
 have ei : itemsOf (wfN s first (h + 1)) (vals (h + 1)) (T (h + 1) + 1) = itemsOf (wfN s first (h + 1)) (vals (h + 1)) (T (h + 1)) ++ [(wfN s first (h + 1), (T (h + 1) : Int), x)] := by
  rw [itemsOf_succ hlt]
  congr 3
  rw [List.getD, hx]; rfl
 have nu : ∀ {u' : Value} {l : List It}, Rw.Row iT v v0.heap.size u' l → (∀ g, u2.ownBlock = some g → u'.ownBlock ≠ some g) → ∀ g, u.ownBlock = some g → u'.ownBlock ≠ some g := fun r hd g hg e => by
  rcases ho g hg with h1 | h1
  ·exact hd g h1 e
  ·have := (r.lt g e).2; omega
 refine ⟨?_, by rw [e2]; exact row_far (row_grow p.r1 hk fun b hb e => p.d12 b hb e) hwy _ _, by rw [e1, ei]; exact row_far hr hwy _ _, row_far (row_grow p.ra hk fun b hb e => p.da2 b hb e) hwy _ _,
  fun g hg e => nu p.r1 (fun g h1 h2 => p.d12 g h2 h1) g e hg, p.da1, fun g hg e => nu p.ra (fun g h1 h2 => p.da2 g h2 h1) g e hg, (p.kh.grow hwy hk (fun b hb => (p.r2.lt b hb).1)).store _ _⟩
 have hB : Hp.Blk w' wy _ _ := p.ways.heap (grw_same hk (by omega) (fun e => by have := (p.r2.lt wy e).1; omega))
 have := hB.set ((h + 1) * 3 + 2) u
 unfold Wys
 rw [Nat.mul_comm (h + 1) 3, wayT_setm hN, upd_upd] at this
 rw [wcT_val hn hvl, Nat.mul_comm (h + 1) 3]
 exact this
end
end Go.Proofs.Ytilpedopnkhppaa.MxS

/- takeBoth behind a way's take: to the head of its loop again. Conditions: each theorem's own. -/
namespace Go.Proofs.Ytilpedopnkhppaa.MxS
open Go.Conc Go.Conc.Lib Br Go.Proofs.Ytilpedopnkhppaa.Mx
section
variable {s : Grp} {z : Value} {Anch Post : Goroutine → World → Prop} {wy h : Nat}
set_option maxRecDepth 100000 in
theorem backFst {b₀ : Frame} {k : List Item} {cs : List Frame} {St : Goroutine → World → Prop} {m : Nat} {t : Array Value} {w : World} (ht : FB wy h t)
  (hnext : ∀ t, FB wy h t → Goes Try.prog true ((phI s z Anch Post).Far s.n) ((phI s z Anch Post).DM s.n) St m (G (b₀.at ⟨t, []⟩ (.code tbc :: .inLoop tbc :: k)) cs) w) :
  Goes Try.prog true ((phI s z Anch Post).Far s.n) ((phI s z Anch Post).DM s.n) St (m + 4) (G (b₀.at (Act.put ⟨t, []⟩ ((((tb5 (tb4 tbc))[3]?).bind (·.dst))) (.tuple #[])) (.inRegion (tb5 (tb4 tbc)) [] :: .inBlock 2 :: .inBlock 1 :: .inLoop tbc :: k)) cs) w := by
 obtain ⟨u2, u3, u4, u5, u6, u7, u8, u9, u10, u11, u12, u13, u14, u15, u16, u17, u18, u19, u20, u21, u22, u23, u24, u25, u26, u27, u28, u29, u30, u31, u32, u33, u34, u35, u36, u37, u38, u39, u40, u41, u42, u43⟩ := ht
 show MG (phI s z Anch Post) s.n _ (m + 1 + 1 + 1 + 1) _ _
 refine MG.regEnd ?_
 refine MG.inBlock ?_
 refine MG.inBlock ?_
 refine MG.inLoop ?_
 exact hnext _ (.mk ..)
set_option maxRecDepth 100000 in
theorem backSnd {b₀ : Frame} {k : List Item} {cs : List Frame} {St : Goroutine → World → Prop} {m : Nat} {t : Array Value} {w : World} (ht : FB wy h t)
  (hnext : ∀ t, FB wy h t → Goes Try.prog true ((phI s z Anch Post).Far s.n) ((phI s z Anch Post).DM s.n) St m (G (b₀.at ⟨t, []⟩ (.code tbc :: .inLoop tbc :: k)) cs) w) :
  Goes Try.prog true ((phI s z Anch Post).Far s.n) ((phI s z Anch Post).DM s.n) St (m + 4) (G (b₀.at (Act.put ⟨t, []⟩ ((((tb7 (tb4 tbc))[3]?).bind (·.dst))) (.tuple #[])) (.inRegion (tb7 (tb4 tbc)) [] :: .inBlock 2 :: .inBlock 1 :: .inLoop tbc :: k)) cs) w := by
 obtain ⟨u2, u3, u4, u5, u6, u7, u8, u9, u10, u11, u12, u13, u14, u15, u16, u17, u18, u19, u20, u21, u22, u23, u24, u25, u26, u27, u28, u29, u30, u31, u32, u33, u34, u35, u36, u37, u38, u39, u40, u41, u42, u43⟩ := ht
 show MG (phI s z Anch Post) s.n _ (m + 1 + 1 + 1 + 1) _ _
 refine MG.regEnd ?_
 refine MG.inBlock ?_
 refine MG.inBlock ?_
 refine MG.inLoop ?_
 exact hnext _ (.mk ..)
theorem tbIn {cs : List Frame} {St : Goroutine → World → Prop} {m : Nat} {w : World}
  (hnext : ∀ t, FB wy h t → Goes Try.prog true ((phI s z Anch Post).Far s.n) ((phI s z Anch Post).DM s.n) St m (G ((base 59).at ⟨t, []⟩ (.code tbc :: .inLoop tbc :: [.inBlock 0])) cs) w) :
  Goes Try.prog true ((phI s z Anch Post).Far s.n) ((phI s z Anch Post).DM s.n) St (m + 2) (G (tbF wy h) cs) w := by
 have e : (#[.pointer (some ⟨wy, h * 3, none⟩), .pointer (some ⟨wy, (h + 1) * 3, none⟩)] ++ Array.replicate 42 undef : Array Value) = #[.pointer (some ⟨wy, h * 3, none⟩), .pointer (some ⟨wy, (h + 1) * 3, none⟩), undef, undef, undef, undef, undef, undef, undef, undef, undef, undef, undef, undef, undef, undef, undef, undef, undef, undef, undef, undef, undef, undef, undef, undef, undef, undef, undef, undef, undef, undef, undef, undef, undef, undef, undef, undef, undef, undef, undef, undef, undef, undef] := by kernel_rfl
 show MG (phI s z Anch Post) s.n _ (m + 1 + 1) _ _
 unfold tbF
 rw [e]
 refine MG.block ?_
 refine MG.loop ?_
 exact hnext _ (.mk ..)
end
end Go.Proofs.Ytilpedopnkhppaa.MxS

