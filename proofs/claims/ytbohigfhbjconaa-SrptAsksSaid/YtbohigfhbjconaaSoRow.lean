/- A row of numbers that a sort turns in place, by exchanges; what a compare that may lay blocks leaves. Conditions: each theorem's own. -/
import Derived.Test.YtbohigfhbjconaaHeap
import Derived.Test.YtbohigfhbjconaaSoMath
import Derived.Shelf.SlSortCmp.QuietGrown
import Derived.Deep.LoopGhost
import Derived.Deep.RegionHeld3
import Derived.BigRegion
set_option linter.unusedVariables false
namespace Go.Proofs.Ytbohigfhbjconaa.So
open Go.RowKit Hp SoM
abbrev I (x : Int) : Value := .int .i64 x
/-- Block g holds the numbers l and what was behind them; nothing else of w0 has turned. -/
structure RW (w0 : World) (g : Nat) (T : TypeId) (rest : List Value) (n : Nat) (l : List Int) (W : World) : Prop where
  blk : Blk W g (l.map I ++ rest) T
  kept : Kept (fun j => j = g) w0 W
  len : l.length = n
theorem grow_kept (w : World) (os : Array Obj) : Kept (fun _ => False) w (Go.Sort.grow w os) :=
  ⟨rfl, rfl, rfl, by simp, fun k hk _ => by simp only [Go.Sort.grow]; rw [Array.getElem?_append_left hk]⟩
/-- Draws, and blocks that are new. -/
def Gr (w w' : World) : Prop := ∃ q os, w' = Go.Sort.grow (w.drewN q) os
theorem Gr.refl (w : World) : Gr w w := ⟨0, #[], by rw [Go.Sort.grow_empty]; rfl⟩
theorem Gr.alloc {w w' : World} (h : Gr w w') (o : Obj) : Gr w (w'.alloc o) := by
  obtain ⟨q, os, rfl⟩ := h
  exact ⟨q, os ++ #[o], by rw [Go.Sort.alloc_eq_grow, Go.Sort.grow_grow]⟩
theorem Gr.drew {w w' : World} (h : Gr w w') : Gr w w'.drew := by
  obtain ⟨q, os, rfl⟩ := h
  exact ⟨q + 1, os, rfl⟩
theorem Gr.trans {a b c : World} (h : Gr a b) (k : Gr b c) : Gr a c := by
  obtain ⟨q, os, rfl⟩ := h
  obtain ⟨q', os', rfl⟩ := k
  exact ⟨q + q', os ++ os', by show Go.Sort.grow (Go.Sort.grow ((a.drewN q).drewN q') os) os' = _; rw [Go.Sort.grow_grow, World.drewN_drewN]⟩
theorem Gr.kept {w w' : World} (h : Gr w w') : Kept (fun _ => False) w w' := by
  obtain ⟨q, os, rfl⟩ := h
  exact ((Kept.refl _ w).drewN q).trans (grow_kept _ os)
variable {w0 W : World} {g n : Nat} {T : TypeId} {rest : List Value} {l : List Int}
theorem RW.grown (h : RW w0 g T rest n l W) {W' : World} (k : Gr W W') : RW w0 g T rest n l W' := ⟨k.kept.blk h.blk (fun f => f), h.kept.trans' k.kept (fun _ _ f => f.elim), h.len⟩
theorem RW.grw (h : RW w0 g T rest n l W) (q : Nat) (os : Array Obj) : RW w0 g T rest n l (Go.Sort.grow (W.drewN q) os) := h.grown ⟨q, os, rfl⟩
theorem RW.drew (h : RW w0 g T rest n l W) : RW w0 g T rest n l W.drew := ⟨h.blk.drew, h.kept.drew, h.len⟩
theorem RW.c (h : RW w0 g T rest n l W) {i : Nat} {x : Int} (e : l[i]? = some x) : W.cell? ⟨g, i, none⟩ = some (.int .i64 x) := h.blk.cell (by
  have hi : i < l.length := (List.getElem?_eq_some_iff.1 e).1
  rw [List.getElem?_append_left (by simpa using hi), List.getElem?_map, e]; rfl)
theorem RW.f (h : RW w0 g T rest n l W) (i : Nat) : W.frozen? ⟨g, i, none⟩ = false := h.blk.frozen i
theorem RW.cl (h : RW w0 g T rest n l W) {i : Nat} {x : Int} (e : l[i]? = some x) (q : Nat) (os : Array Obj) : (Go.Sort.grow (W.drewN q) os).cell? ⟨g, i, none⟩ = some (.int .i64 x) := (h.grw q os).c e
theorem RW.c2 (h : RW w0 g T rest n l W) (i : Nat) {j : Nat} {y : Int} (e : l[j]? = some y) (v : Value) : ∃ u, (W.setCell ⟨g, i, none⟩ v).cell? ⟨g, j, none⟩ = some u := by
  have hb := h.blk.set i v
  have hj : j < l.length := (List.getElem?_eq_some_iff.1 e).1
  have : j < ((l.map I ++ rest).set i v).length := by simp; omega
  exact ⟨_, hb.cell (List.getElem?_eq_getElem this)⟩
/-- Two of a list exchanged. -/
theorem set2 (P Q R : List Int) (x y : Int) (rest : List Value) : (((P ++ x :: (Q ++ y :: R)).map I ++ rest).set P.length (I y)).set (P.length + 1 + Q.length) (I x) = (P ++ y :: (Q ++ x :: R)).map I ++ rest ∧
    (((P ++ x :: (Q ++ y :: R)).map I ++ rest).set (P.length + 1 + Q.length) (I x)).set P.length (I y) = (P ++ y :: (Q ++ x :: R)).map I ++ rest := by
  have e : ∀ (a b : Int), (P ++ a :: (Q ++ b :: R)).map I ++ rest = P.map I ++ (I a :: (Q.map I ++ (I b :: (R.map I ++ rest)))) := fun a b => by simp [List.append_assoc]
  have s1 : ∀ (a b c : Value), ((P.map I ++ (a :: (Q.map I ++ (b :: (R.map I ++ rest))))).set P.length c) = P.map I ++ (c :: (Q.map I ++ (b :: (R.map I ++ rest)))) := fun a b c => by
    rw [List.set_append_right _ _ (by simp)]; simp
  have s2 : ∀ (a b c : Value), ((P.map I ++ (a :: (Q.map I ++ (b :: (R.map I ++ rest))))).set (P.length + 1 + Q.length) c) = P.map I ++ (a :: (Q.map I ++ (c :: (R.map I ++ rest)))) := fun a b c => by
    rw [List.set_append_right _ _ (by simp; omega)]
    rw [List.length_map, show P.length + 1 + Q.length - P.length = Q.length + 1 by omega, List.set_cons_succ, List.set_append_right _ _ (by simp)]; simp
  constructor
  · rw [e, s1, s2, e]
  · rw [e, s2, s1, e]
theorem RW.up {P Q R : List Int} {x y : Int} {i j : Nat} (h : RW w0 g T rest n (P ++ x :: (Q ++ y :: R)) W) (hi : i = P.length) (hj : j = P.length + 1 + Q.length) :
    RW w0 g T rest n (P ++ y :: (Q ++ x :: R)) ((W.setCell ⟨g, i, none⟩ (.int .i64 y)).setCell ⟨g, j, none⟩ (.int .i64 x)).drew := by
  subst hi; subst hj
  refine ⟨?_, ((h.kept.set (b := g) (fun _ => rfl) _ _).set (b := g) (fun _ => rfl) _ _).drew, by rw [← h.len]; simp⟩
  have := (h.blk.set P.length (I y)).set (P.length + 1 + Q.length) (I x)
  rw [(set2 P Q R x y rest).1] at this
  exact this.drew
theorem RW.down {P Q R : List Int} {x y : Int} {i j : Nat} (h : RW w0 g T rest n (P ++ x :: (Q ++ y :: R)) W) (hi : i = P.length) (hj : j = P.length + 1 + Q.length) :
    RW w0 g T rest n (P ++ y :: (Q ++ x :: R)) ((W.setCell ⟨g, j, none⟩ (.int .i64 x)).setCell ⟨g, i, none⟩ (.int .i64 y)).drew := by
  subst hi; subst hj
  refine ⟨?_, ((h.kept.set (b := g) (fun _ => rfl) _ _).set (b := g) (fun _ => rfl) _ _).drew, by rw [← h.len]; simp⟩
  have := (h.blk.set (P.length + 1 + Q.length) (I x)).set P.length (I y)
  rw [(set2 P Q R x y rest).2] at this
  exact this.drew
/-- What is asked of a compare: it answers, and lays new blocks alone. -/
structure Cmp (P : Program) (f : Nat) (cb : Array Value) (cf : Int → Int → Int) (D : Int → Prop) (w0 : World) (g : Nat) : Prop where
  eg : ∀ args w, (callFunc f args).run P w = .ok (.enter f args) w
  run : ∀ W, Kept (fun j => j = g) w0 W → ∀ x y, D x → D y → Calls P f (#[.int .i64 x, .int .i64 y] ++ cb) W fun e w' => e = .returned (.int .i64 (cf x y)) ∧ Gr W w'
theorem Cmp.at {P : Program} {f : Nat} {cb : Array Value} {cf : Int → Int → Int} {D : Int → Prop} (C : Cmp P f cb cf D w0 g) (h : RW w0 g T rest n l W) {x y : Int} (hx : D x) (hy : D y) (q : Nat) (os : Array Obj) :
    Calls P f (#[.int .i64 x, .int .i64 y] ++ cb) (Go.Sort.grow (W.drewN q) os) fun e w' => e = .returned (.int .i64 (cf x y)) ∧ ∃ q' os', w' = Go.Sort.grow ((Go.Sort.grow (W.drewN q) os).drewN q') os' :=
  C.run _ (h.grw q os).kept x y hx hy
theorem at_mid (P Q : List Int) (x : Int) {i : Nat} (hi : i = P.length) : (P ++ x :: Q)[i]? = some x := by subst hi; simp
theorem at_mid2 (P Q R : List Int) (x y : Int) {j : Nat} (hj : j = P.length + 1 + Q.length) : (P ++ x :: (Q ++ y :: R))[j]? = some y := by
  subst hj
  rw [show P ++ x :: (Q ++ y :: R) = (P ++ x :: Q) ++ y :: R by simp]
  exact at_mid _ _ _ (by simp; omega)
theorem mixed : Try.prog.follows .mixedOrders = true := by kernel_rfl
set_option maxHeartbeats 4000000 in
set_option maxRecDepth 1000000 in
/-- Two parts of the row exchanged. -/
theorem swapRange {A X C Y B : List Int} {a b k : Nat} (cap : Nat) (fv : Value) (h : RW w0 g T rest n (A ++ (X ++ (C ++ (Y ++ B)))) W) (ha : a = A.length) (hb : b = A.length + X.length + C.length) (hx : X.length = k) (hy : Y.length = k) (hn : n ≤ 1000000) :
    Calls Try.prog 52 #[.slice (some ⟨g, 0, none⟩) n cap, .int .i64 a, .int .i64 b, .int .i64 k, fv] W fun e w' => e = .returned (.tuple #[]) ∧ RW w0 g T rest n (A ++ (Y ++ (C ++ (X ++ B)))) w' := by
  have HA := Lib.hid ha
  have HB := Lib.hid hb
  have HX := Lib.hid hx
  have HY := Lib.hid hy
  have S0 : Hid (RW w0 g T rest n (A ++ (X ++ (C ++ (Y ++ B)))) W) := h
  have hbn : b + k ≤ n := by have := h.len; simp at this; omega
  have hab : a + k ≤ b := by omega
  clear h ha hb hx hy
  have mixed := mixed
  go_enter Try.func52, Try.ntmps52
  go_wp2
  go_loopg [10] k (fun kx s5 wr => ∃ (t : Nat) (X1 X2 Y1 Y2 : List Int), s5 = .int .i64 t ∧ t ≤ k ∧ k - t ≤ kx ∧ Hid (X = X1 ++ X2 ∧ Y = Y1 ++ Y2 ∧ X1.length = t ∧ Y1.length = t) ∧ Hid (RW w0 g T rest n (A ++ (Y1 ++ (X2 ++ (C ++ (X1 ++ (Y2 ++ B)))))) wr))
  case atStart => exact ⟨0, [], X, [], Y, rfl, by omega, by omega, ⟨rfl, rfl, rfl, rfl⟩, S0⟩
  case round =>
    clear S0
    obtain ⟨t, X1, X2, Y1, Y2, rfl, htk, hkx, HE, S1⟩ := hrel
    by_cases hlt : t < k
    · have hltz : (t : Int) < (k : Int) := by omega
      obtain ⟨eX, eY, e1, e2⟩ := HE.out
      have lX := HX.out; have lY := HY.out
      rw [eX, List.length_append] at lX
      rw [eY, List.length_append] at lY
      cases X2 with
      | nil => simp at lX; omega
      | cons x X2 =>
      cases Y2 with
      | nil => simp at lY; omega
      | cons y Y2 =>
      obtain ⟨iN, hiN⟩ : ∃ q, q = a + t := ⟨_, rfl⟩
      obtain ⟨jN, hjN⟩ : ∃ q, q = b + t := ⟨_, rfl⟩
      have ea : ((a : Int) + (t : Int)).toNat = iN := by omega
      have pa : (0 : Int) ≤ (a : Int) + (t : Int) := by omega
      have ba : (a : Int) + (t : Int) < (n : Int) := by omega
      have ra : IntKind.i64.wrap ((a : Int) + (t : Int)) = (a : Int) + (t : Int) := by rw [IntKind.wrap_i64]; omega
      have eb : ((b : Int) + (t : Int)).toNat = jN := by omega
      have pb : (0 : Int) ≤ (b : Int) + (t : Int) := by omega
      have bb : (b : Int) + (t : Int) < (n : Int) := by omega
      have rb : IntKind.i64.wrap ((b : Int) + (t : Int)) = (b : Int) + (t : Int) := by rw [IntKind.wrap_i64]; omega
      have el : A ++ (Y1 ++ ((x :: X2) ++ (C ++ (X1 ++ ((y :: Y2) ++ B))))) = (A ++ Y1) ++ x :: ((X2 ++ (C ++ X1)) ++ y :: (Y2 ++ B)) := by simp
      have S2 : RW w0 g T rest n ((A ++ Y1) ++ x :: ((X2 ++ (C ++ X1)) ++ y :: (Y2 ++ B))) wr := by rw [← el]; exact S1.out
      have hi' : iN = (A ++ Y1).length := by rw [hiN, HA.out, List.length_append, e2]
      have hj' : jN = (A ++ Y1).length + 1 + (X2 ++ (C ++ X1)).length := by
        have h1 := HB.out; have h2 := HX.out; have h3 := h2; rw [eX] at h3; simp at h3 ⊢; rw [hjN]; omega
      have c1 := S2.c (at_mid _ _ _ hi')
      have c2 := S2.c (at_mid2 _ _ _ _ _ hj')
      have f1 := S2.f iN
      have f2 := S2.f jN
      obtain ⟨u, c3⟩ := S2.c2 iN (at_mid2 _ _ _ _ _ hj') (.int .i64 y)
      have S3 : Hid (RW w0 g T rest n ((A ++ Y1) ++ y :: ((X2 ++ (C ++ X1)) ++ x :: (Y2 ++ B))) ((wr.setCell ⟨g, iN, none⟩ (.int .i64 y)).setCell ⟨g, jN, none⟩ (.int .i64 x)).drew) := S2.up hi' hj'
      have E : Hid (X = X1 ++ x :: X2 ∧ Y = Y1 ++ y :: Y2 ∧ X1.length = t ∧ Y1.length = t) := ⟨eX, eY, e1, e2⟩
      clear S1 S2 hi' hj' el eX eY e1 e2 lX lY HE hiN hjN
      go_wp2_with fail
      go_big_region_o
      clear c1 c2 c3 f1 f2
      generalize ((wr.setCell ⟨g, iN, none⟩ (.int .i64 y)).setCell ⟨g, jN, none⟩ (.int .i64 x)).drew = w2 at S3 ⊢
      clear ea eb
      go_wp2
      go_roundg (k - (t + 1))
      case measure => omega
      case rel =>
        obtain ⟨eX, eY, e1, e2⟩ := E.out
        refine ⟨t + 1, X1 ++ [x], X2, Y1 ++ [y], Y2, by first | rfl | go_num | (congr 1; omega), by omega, by omega, ⟨by rw [eX]; simp, by rw [eY]; simp, by simp [e1], by simp [e2]⟩, ?_⟩
        have := S3.out
        simp only [List.append_assoc, List.cons_append, List.nil_append] at this ⊢
        exact this
    · have hltz : ¬ (t : Int) < (k : Int) := by omega
      go_wp2
      go_end0
      refine ⟨rfl, ?_⟩
      obtain ⟨eX, eY, e1, e2⟩ := HE.out
      have lX := HX.out; have lY := HY.out
      rw [eX, List.length_append] at lX
      rw [eY, List.length_append] at lY
      have z1 : X2 = [] := List.length_eq_zero_iff.1 (by omega)
      have z2 : Y2 = [] := List.length_eq_zero_iff.1 (by omega)
      subst z1; subst z2
      rw [List.append_nil] at eX eY
      subst eX; subst eY
      exact S1.out
end Go.Proofs.Ytbohigfhbjconaa.So
