/- Blocks known whole: what a cell of one reads, what a store leaves, what a new one leaves. Conditions: none. -/
import Derived.Test.YtpogpibjkolioaaGreatRows
import Derived.WalkKit
import Derived.ProofKit
import Derived.Lib.Hide
import Derived.BigQuiet
import Derived.OrdersHeld
import Derived.Deep.QuietTactic
import Derived.Below
import Derived.ChangeSame
import Derived.OpenShut
import Derived.Carry
import Derived.Deep.Slices
import Derived.Deep.Fields
import Derived.Laws.AppendOwn
import Derived.Laws.AppendOwnNone
import Derived.Laws.OwnMore
import Derived.Maps.AppendAt
import Derived.OwnWalk
set_option linter.unusedVariables false
set_option linter.unusedSimpArgs false
namespace Go.Proofs.YtpogpibjkolioaaGreat.Hp
open Go.RowKit
def Blk (w : World) (b : Nat) (c : List Value) (T : TypeId) : Prop := w.heap[b]? = some (.cells c.toArray T (0, 0))
theorem Blk.cell {w : World} {b : Nat} {c : List Value} {T : TypeId} (h : Blk w b c T) {o : Nat} {v : Value} (hv : c[o]? = some v) : w.cell? ⟨b, o, none⟩ = some v := by
 unfold Blk at h
 simp [World.cell?, h, hv]
theorem Blk.frozen {w : World} {b : Nat} {c : List Value} {T : TypeId} (h : Blk w b c T) (o : Nat) : w.frozen? ⟨b, o, none⟩ = false := by
 unfold Blk at h
 simp [World.frozen?, h]
theorem Blk.lt {w : World} {b : Nat} {c : List Value} {T : TypeId} (h : Blk w b c T) : b < w.heap.size := by
 unfold Blk at h
 rcases Nat.lt_or_ge b w.heap.size with h' | h'
 ·exact h'
 ·rw [Array.getElem?_eq_none h'] at h; cases h
theorem Blk.set {w : World} {b : Nat} {c : List Value} {T : TypeId} (h : Blk w b c T) (o : Nat) (v : Value) : Blk (w.setCell ⟨b, o, none⟩ v) b (c.set o v) T := by
 unfold Blk at h ⊢
 simp only [World.setCell, Array.getElem?_modify, ↓reduceIte, h, Option.map_some]
 simp
theorem Blk.far {w : World} {b : Nat} {c : List Value} {T : TypeId} (h : Blk w b c T) {p : Nat} (hp : p ≠ b) (o : Nat) (v : Value) : Blk (w.setCell ⟨p, o, none⟩ v) b c T := by
 unfold Blk at h ⊢
 simp only [World.setCell, Array.getElem?_modify]
 rw [if_neg (by simpa using hp)]
 exact h
theorem Blk.old {w : World} {b : Nat} {c : List Value} {T : TypeId} (h : Blk w b c T) (o : Obj) : Blk (w.alloc o) b c T := by
 have := h.lt
 unfold Blk at h ⊢
 simp only [World.alloc, Array.getElem?_push]
 rw [if_neg (by omega)]
 exact h
theorem Blk.new (w : World) (c : List Value) (T : TypeId) : Blk (w.alloc (.cells c.toArray T)) w.heap.size c T := by
 unfold Blk
 simp only [World.alloc, Array.getElem?_push, if_pos]
theorem Blk.heap {w w' : World} {b : Nat} {c : List Value} {T : TypeId} (h : Blk w b c T) (e : w'.heap[b]? = w.heap[b]?) : Blk w' b c T := by
 unfold Blk at h ⊢; rw [e]; exact h
theorem Blk.inj {w : World} {b : Nat} {c c' : List Value} {T T' : TypeId} (h : Blk w b c T) (h' : Blk w b c' T') : c = c' ∧ T = T' := by
 unfold Blk at h h'
 rw [h] at h'
 simp at h'
 exact h'
structure Kept (F : Nat → Prop) (w w' : World) : Prop where
 os : w'.os = w.os
 tape : w'.tape = w.tape
 output : w'.output = w.output
 size : w.heap.size ≤ w'.heap.size
 block : ∀ k, k < w.heap.size → ¬ F k → w'.heap[k]? = w.heap[k]?
theorem Kept.refl (F : Nat → Prop) (w : World) : Kept F w w := ⟨rfl, rfl, rfl, Nat.le_refl _, fun _ _ _ => rfl⟩
theorem Kept.trans {F : Nat → Prop} {a b c : World} (h : Kept F a b) (k : Kept F b c) : Kept F a c :=
 ⟨k.os.trans h.os, k.tape.trans h.tape, k.output.trans h.output, Nat.le_trans h.size k.size, fun i hi hF => (k.block i (Nat.lt_of_lt_of_le hi h.size) hF).trans (h.block i hi hF)⟩
theorem Kept.trans' {F G : Nat → Prop} {a b c : World} (h : Kept F a b) (k : Kept G b c) (hG : ∀ i, i < a.heap.size → G i → F i) : Kept F a c :=
 ⟨k.os.trans h.os, k.tape.trans h.tape, k.output.trans h.output, Nat.le_trans h.size k.size, fun i hi hF => (k.block i (Nat.lt_of_lt_of_le hi h.size) (fun g => hF (hG i hi g))).trans (h.block i hi hF)⟩
theorem Kept.mono {F G : Nat → Prop} {w w' : World} (h : Kept F w w') (hF : ∀ i, i < w.heap.size → F i → G i) : Kept G w w' :=
 ⟨h.os, h.tape, h.output, h.size, fun i hi hG => h.block i hi fun f => hG (hF i hi f)⟩
theorem Kept.set {F : Nat → Prop} {a w : World} (h : Kept F a w) {b : Nat} (hb : b < a.heap.size → F b) (o : Nat) (v : Value) : Kept F a (w.setCell ⟨b, o, none⟩ v) :=
 h.trans' (G := fun k => k = b) ⟨rfl, rfl, rfl, by simp, fun k _ hk => by simp only [World.setCell, Array.getElem?_modify]; rw [if_neg (fun e => hk e.symm)]⟩ (fun i hi e => e ▸ hb (e ▸ hi))
theorem Kept.alloc {F : Nat → Prop} {a w : World} (h : Kept F a w) (o : Obj) : Kept F a (w.alloc o) :=
 h.trans ⟨rfl, rfl, rfl, by simp, fun k hk _ => by simp only [World.alloc, Array.getElem?_push]; rw [if_neg (by omega)]⟩
theorem Kept.drew {F : Nat → Prop} {a w : World} (h : Kept F a w) : Kept F a w.drew := ⟨h.os, h.tape, h.output, h.size, h.block⟩
theorem Kept.drewN {F : Nat → Prop} {a w : World} (h : Kept F a w) (n : Nat) : Kept F a (w.drewN n) := ⟨h.os, h.tape, h.output, h.size, h.block⟩
theorem Kept.blk {F : Nat → Prop} {w w' : World} (h : Kept F w w') {b : Nat} {c : List Value} {T : TypeId} (hb : Blk w b c T) (hF : ¬ F b) : Blk w' b c T := hb.heap (h.block b hb.lt hF)
theorem Blk.drew {w : World} {b : Nat} {c : List Value} {T : TypeId} (h : Blk w b c T) : Blk w.drew b c T := h
theorem Blk.drewN {w : World} {b : Nat} {c : List Value} {T : TypeId} (h : Blk w b c T) (n : Nat) : Blk (w.drewN n) b c T := h
theorem Kept.one (w : World) (b o : Nat) (v : Value) : Kept (fun k => k = b) w (w.setCell ⟨b, o, none⟩ v) := (Kept.refl (fun k => k = b) w).set (b := b) (fun _ => rfl) o v
/-- An operation that may come up is taken; one whose guard is off. -/
theorem tk {P : Program} {ops : Array Oper} {Q : Exit → Act → World → Prop} {md : Region.Mode} {S : World → Prop} {fuel : Nat} {listed : Array Bool} {a : Act} {w : World} (i : Nat) (oi : Oper) {v : Value} (hi : ops[i]? = some oi) (hv : ∀ w, S w → (execOp a.eval oi).run P w = .ok (.value v) w)
  (h : wpAnyH P md ops Q S fuel (listed.setIfInBounds i true) (a.put oi.dst v) w) (hw : Region.wanted oi (yielded ops a.tmps) = true := by rfl) (hs : Region.noSelect ops = true := by kernel_rfl) (hf : Region.free md ops listed i = true := by kernel_rfl)
  (hr : (Region.ready md ops listed).contains i = true := by kernel_rfl) (hQ : ∀ c a w, Q (.panic c) (a.put oi.dst v) w → Q (.panic c) a w := by exact fun _ _ _ h => h) (hS : S w := by assumption) : wpAnyH P md ops Q S (fuel + 1) listed a w :=
 wpAnyH_take hi hs hf hr hQ (Or.inl ⟨hw, hv⟩) hS h
theorem tko {P : Program} {ops : Array Oper} {Q : Exit → Act → World → Prop} {md : Region.Mode} {S : World → Prop} {fuel : Nat} {listed : Array Bool} {a : Act} {w : World} (i : Nat) (oi : Oper) (hi : ops[i]? = some oi)
  (h : wpAnyH P md ops Q S fuel (listed.setIfInBounds i true) (a.put oi.dst undef) w) (hw : Region.wanted oi (yielded ops a.tmps) = false := by rfl) (hs : Region.noSelect ops = true := by kernel_rfl) (hf : Region.free md ops listed i = true := by kernel_rfl)
  (hr : (Region.ready md ops listed).contains i = true := by kernel_rfl) (hQ : ∀ c a w, Q (.panic c) (a.put oi.dst undef) w → Q (.panic c) a w := by exact fun _ _ _ h => h) (hS : S w := by assumption) : wpAnyH P md ops Q S (fuel + 1) listed a w :=
 wpAnyH_take hi hs hf hr hQ (Or.inr ⟨hw, rfl⟩) hS h
theorem cs9 {w : World} {b : Nat} {T : TypeId} {a0 a1 a2 a3 a4 a5 a6 a7 a8 : Value} {l : List Value} (h : Blk w b (a0 :: a1 :: a2 :: a3 :: a4 :: a5 :: a6 :: a7 :: a8 :: l) T) : w.cell? ⟨b, 0, none⟩ = some a0 ∧ w.cell? ⟨b, 1, none⟩ = some a1 ∧ w.cell? ⟨b, 2, none⟩ = some a2 ∧ w.cell? ⟨b, 3, none⟩ = some a3 ∧ w.cell? ⟨b, 4, none⟩ = some a4 ∧ w.cell? ⟨b, 5, none⟩ = some a5 ∧ w.cell? ⟨b, 6, none⟩ = some a6 ∧ w.cell? ⟨b, 7, none⟩ = some a7 ∧ w.cell? ⟨b, 8, none⟩ = some a8 := ⟨h.cell rfl, h.cell rfl, h.cell rfl, h.cell rfl, h.cell rfl, h.cell rfl, h.cell rfl, h.cell rfl, h.cell rfl⟩
theorem cs10 {w : World} {b : Nat} {T : TypeId} {a0 a1 a2 a3 a4 a5 a6 a7 a8 a9 : Value} {l : List Value} (h : Blk w b (a0 :: a1 :: a2 :: a3 :: a4 :: a5 :: a6 :: a7 :: a8 :: a9 :: l) T) : w.cell? ⟨b, 0, none⟩ = some a0 ∧ w.cell? ⟨b, 1, none⟩ = some a1 ∧ w.cell? ⟨b, 2, none⟩ = some a2 ∧ w.cell? ⟨b, 3, none⟩ = some a3 ∧ w.cell? ⟨b, 4, none⟩ = some a4 ∧ w.cell? ⟨b, 5, none⟩ = some a5 ∧ w.cell? ⟨b, 6, none⟩ = some a6 ∧ w.cell? ⟨b, 7, none⟩ = some a7 ∧ w.cell? ⟨b, 8, none⟩ = some a8 ∧ w.cell? ⟨b, 9, none⟩ = some a9 := ⟨h.cell rfl, h.cell rfl, h.cell rfl, h.cell rfl, h.cell rfl, h.cell rfl, h.cell rfl, h.cell rfl, h.cell rfl, h.cell rfl⟩
theorem cs11 {w : World} {b : Nat} {T : TypeId} {a0 a1 a2 a3 a4 a5 a6 a7 a8 a9 a10 : Value} {l : List Value} (h : Blk w b (a0 :: a1 :: a2 :: a3 :: a4 :: a5 :: a6 :: a7 :: a8 :: a9 :: a10 :: l) T) : w.cell? ⟨b, 0, none⟩ = some a0 ∧ w.cell? ⟨b, 1, none⟩ = some a1 ∧ w.cell? ⟨b, 2, none⟩ = some a2 ∧ w.cell? ⟨b, 3, none⟩ = some a3 ∧ w.cell? ⟨b, 4, none⟩ = some a4 ∧ w.cell? ⟨b, 5, none⟩ = some a5 ∧ w.cell? ⟨b, 6, none⟩ = some a6 ∧ w.cell? ⟨b, 7, none⟩ = some a7 ∧ w.cell? ⟨b, 8, none⟩ = some a8 ∧ w.cell? ⟨b, 9, none⟩ = some a9 ∧ w.cell? ⟨b, 10, none⟩ = some a10 := ⟨h.cell rfl, h.cell rfl, h.cell rfl, h.cell rfl, h.cell rfl, h.cell rfl, h.cell rfl, h.cell rfl, h.cell rfl, h.cell rfl, h.cell rfl⟩
theorem cs12 {w : World} {b : Nat} {T : TypeId} {a0 a1 a2 a3 a4 a5 a6 a7 a8 a9 a10 a11 : Value} {l : List Value} (h : Blk w b (a0 :: a1 :: a2 :: a3 :: a4 :: a5 :: a6 :: a7 :: a8 :: a9 :: a10 :: a11 :: l) T) : w.cell? ⟨b, 0, none⟩ = some a0 ∧ w.cell? ⟨b, 1, none⟩ = some a1 ∧ w.cell? ⟨b, 2, none⟩ = some a2 ∧ w.cell? ⟨b, 3, none⟩ = some a3 ∧ w.cell? ⟨b, 4, none⟩ = some a4 ∧ w.cell? ⟨b, 5, none⟩ = some a5 ∧ w.cell? ⟨b, 6, none⟩ = some a6 ∧ w.cell? ⟨b, 7, none⟩ = some a7 ∧ w.cell? ⟨b, 8, none⟩ = some a8 ∧ w.cell? ⟨b, 9, none⟩ = some a9 ∧ w.cell? ⟨b, 10, none⟩ = some a10 ∧ w.cell? ⟨b, 11, none⟩ = some a11 := ⟨h.cell rfl, h.cell rfl, h.cell rfl, h.cell rfl, h.cell rfl, h.cell rfl, h.cell rfl, h.cell rfl, h.cell rfl, h.cell rfl, h.cell rfl, h.cell rfl⟩
theorem cs13 {w : World} {b : Nat} {T : TypeId} {a0 a1 a2 a3 a4 a5 a6 a7 a8 a9 a10 a11 a12 : Value} {l : List Value} (h : Blk w b (a0 :: a1 :: a2 :: a3 :: a4 :: a5 :: a6 :: a7 :: a8 :: a9 :: a10 :: a11 :: a12 :: l) T) : w.cell? ⟨b, 0, none⟩ = some a0 ∧ w.cell? ⟨b, 1, none⟩ = some a1 ∧ w.cell? ⟨b, 2, none⟩ = some a2 ∧ w.cell? ⟨b, 3, none⟩ = some a3 ∧ w.cell? ⟨b, 4, none⟩ = some a4 ∧ w.cell? ⟨b, 5, none⟩ = some a5 ∧ w.cell? ⟨b, 6, none⟩ = some a6 ∧ w.cell? ⟨b, 7, none⟩ = some a7 ∧ w.cell? ⟨b, 8, none⟩ = some a8 ∧ w.cell? ⟨b, 9, none⟩ = some a9 ∧ w.cell? ⟨b, 10, none⟩ = some a10 ∧ w.cell? ⟨b, 11, none⟩ = some a11 ∧ w.cell? ⟨b, 12, none⟩ = some a12 := ⟨h.cell rfl, h.cell rfl, h.cell rfl, h.cell rfl, h.cell rfl, h.cell rfl, h.cell rfl, h.cell rfl, h.cell rfl, h.cell rfl, h.cell rfl, h.cell rfl, h.cell rfl⟩
theorem fz10 {w : World} {b : Nat} {T : TypeId} {c : List Value} (h : Blk w b c T) : w.frozen? ⟨b, 0, none⟩ = false ∧ w.frozen? ⟨b, 1, none⟩ = false ∧ w.frozen? ⟨b, 2, none⟩ = false ∧ w.frozen? ⟨b, 3, none⟩ = false ∧ w.frozen? ⟨b, 4, none⟩ = false ∧ w.frozen? ⟨b, 5, none⟩ = false ∧ w.frozen? ⟨b, 6, none⟩ = false ∧ w.frozen? ⟨b, 7, none⟩ = false ∧ w.frozen? ⟨b, 8, none⟩ = false ∧ w.frozen? ⟨b, 9, none⟩ = false := ⟨h.frozen 0, h.frozen 1, h.frozen 2, h.frozen 3, h.frozen 4, h.frozen 5, h.frozen 6, h.frozen 7, h.frozen 8, h.frozen 9⟩
theorem fz11 {w : World} {b : Nat} {T : TypeId} {c : List Value} (h : Blk w b c T) : w.frozen? ⟨b, 0, none⟩ = false ∧ w.frozen? ⟨b, 1, none⟩ = false ∧ w.frozen? ⟨b, 2, none⟩ = false ∧ w.frozen? ⟨b, 3, none⟩ = false ∧ w.frozen? ⟨b, 4, none⟩ = false ∧ w.frozen? ⟨b, 5, none⟩ = false ∧ w.frozen? ⟨b, 6, none⟩ = false ∧ w.frozen? ⟨b, 7, none⟩ = false ∧ w.frozen? ⟨b, 8, none⟩ = false ∧ w.frozen? ⟨b, 9, none⟩ = false ∧ w.frozen? ⟨b, 10, none⟩ = false := ⟨h.frozen 0, h.frozen 1, h.frozen 2, h.frozen 3, h.frozen 4, h.frozen 5, h.frozen 6, h.frozen 7, h.frozen 8, h.frozen 9, h.frozen 10⟩
theorem fz12 {w : World} {b : Nat} {T : TypeId} {c : List Value} (h : Blk w b c T) : w.frozen? ⟨b, 0, none⟩ = false ∧ w.frozen? ⟨b, 1, none⟩ = false ∧ w.frozen? ⟨b, 2, none⟩ = false ∧ w.frozen? ⟨b, 3, none⟩ = false ∧ w.frozen? ⟨b, 4, none⟩ = false ∧ w.frozen? ⟨b, 5, none⟩ = false ∧ w.frozen? ⟨b, 6, none⟩ = false ∧ w.frozen? ⟨b, 7, none⟩ = false ∧ w.frozen? ⟨b, 8, none⟩ = false ∧ w.frozen? ⟨b, 9, none⟩ = false ∧ w.frozen? ⟨b, 10, none⟩ = false ∧ w.frozen? ⟨b, 11, none⟩ = false := ⟨h.frozen 0, h.frozen 1, h.frozen 2, h.frozen 3, h.frozen 4, h.frozen 5, h.frozen 6, h.frozen 7, h.frozen 8, h.frozen 9, h.frozen 10, h.frozen 11⟩
theorem ppA {α : Type} (l : List α) (i : Nat) (a : α) : l.toArray.setIfInBounds i a = (l.set i a).toArray := List.setIfInBounds_toArray ..
theorem ppB {α : Type} (a b : α) (l : List α) : (a :: l).set 0 b = b :: l := rfl
theorem ppC {α : Type} (a b : α) (l : List α) (n : Nat) : (a :: l).set (n + 1) b = a :: l.set n b := rfl
end Go.Proofs.YtpogpibjkolioaaGreat.Hp

/- A law's end where what is known of the world is that all that was there is as it was. Conditions: each theorem's own. -/
namespace Go.Proofs.YtpogpibjkolioaaGreat.End
open Go.RowKit Go.WideShapes Go.ChangeShapes Hp
def Old (W W' : World) : Prop := Kept (fun _ => False) W W'
theorem Old.below {W W' : World} (h : Old W W') : Below W.heap.size W W' := ⟨h.os, h.tape, h.output, h.size, fun k hk => h.block k hk (fun f => f)⟩
theorem Old.refl (W : World) : Old W W := Kept.refl _ W
section
variable {H : Type} {enc : TypeId × Value → H} {P : Program} {f : Func} {s : ChangeSpec} {apart fresh handsOn again : Bool} {W W' : World} {args : Array Value} {v : Value} {ds gs : List (DataW H)} {pa pv : List MemPlace}
theorem post_of_old (hW : DataW.Whole enc P f.params.toList s.vars apart W args.toList ds gs (pa ++ pv))
  (hres : ∀ (b : Nat) (sp : Nat → Bool) (hd : Bool), DataW.TrodAll enc P W' b sp hd f.resultTypes.toList (v.resultList f.resultTypes.size) (s.fn H (ds ++ gs)).results [])
  (hargs : ∀ sp : Nat → Bool, (∀ p ∈ pa ++ pv, sp p.block = true) → DataW.TrodAll enc P W' 0 sp true f.params.toList args.toList (s.fn H (ds ++ gs)).args pa)
  (hvars : ∀ sp : Nat → Bool, (∀ p ∈ pa ++ pv, sp p.block = true) → DataW.TrodVars enc P W' sp s.vars (s.fn H (ds ++ gs)).vars pv)
  (hb : Old W W')
  (hok : ∀ (j : Nat) (t : TypeId) (r : Value), f.resultTypes[j]? = some t → (v.resultList f.resultTypes.size)[j]? = some r → Value.okWide P W' .any 0 t r) :
  s.post enc P f apart fresh handsOn again W args v W' := by
 have B := hb.below
 have old : ∀ p ∈ pa ++ pv, p.block < W.heap.size := fun p hp => hW.lt p hp
 have inOld : ∀ p ∈ pa ++ pv, (fun b => decide (b < W.heap.size)) p.block = true := fun p hp => by simp [old p hp]
 have all : ∀ p ∈ pa ++ pv, (fun _ : Nat => true) p.block = true := fun _ _ => rfl
 obtain ⟨_, _, _, _, _, hz, hn⟩ := id hW
 refine ⟨ds, gs, pa ++ pv, [], pa, pv, hW, hres _ _ _, hargs _ inOld, hvars _ inOld, World.keptBut_mono (fun p hp => ⟨hp, Or.inr (List.mem_append.1 hp)⟩) (B.frame _), fun _ => ⟨hok, _, _, [] ++ pa ++ pv, ⟨[] ++ pa, pv, trodAll_append (hargs _ all) (hres _ _ _), hvars _ all, rfl, ?_, ?_⟩, ?_⟩⟩
 ·intro b off hp
  have hp' : MemPlace.cell b off ∈ pa ++ pv := by simpa using hp
  exact (B.frozen (p := ⟨b, off, none⟩) (old _ hp')).trans (hz b off hp')
 ·intro ha; simpa using hn ha
 ·intro p hp _; simpa using hp
end
end Go.Proofs.YtpogpibjkolioaaGreat.End

/- Arguments that are slices of numbers, or of structs of numbers: opened, read, handed back. Conditions: each theorem's own. -/
namespace Go.Proofs.YtpogpibjkolioaaGreat.Opn
open Go.ChangeShapes Go.WideShapes Go.RowKit Go.Deep Hp Go.Proofs.YtpogpibjkolioaaGreat.End
theorem keptCell {F : Nat → Prop} {w w' : World} (h : Kept F w w') {k : Nat} (hk : k < w.heap.size) (hF : ¬ F k) (o : Nat) : w'.cell? ⟨k, o, none⟩ = w.cell? ⟨k, o, none⟩ := by
 simp [World.cell?, h.block k hk hF]
def Ints (w : World) (s : Option Addr) (cap : Nat) (zs : List Int) : Prop :=
 zs.length ≤ cap ∧ (∀ n ∈ zs, (Lit.int .i64 n).wf = true) ∧ (zs = [] ∨ ∃ b off, s = some ⟨b, off, none⟩ ∧ b < w.heap.size ∧ ∀ j, j < zs.length → w.cell? ⟨b, off + j, none⟩ = some (.int .i64 (zs.getD j 0)))
theorem Ints.at {w w' : World} {s : Option Addr} {cap : Nat} {zs : List Int} (h : Ints w s cap zs) (k : Old w w') {j : Nat} (hj : j < zs.length) :
  ∃ b off, s = some ⟨b, off, none⟩ ∧ b < w.heap.size ∧ w'.cell? ⟨b, off + j, none⟩ = some (.int .i64 zs[j]) := by
 rcases h.2.2 with rfl | ⟨b, off, rfl, hb, hc⟩
 ·simp at hj
 ·refine ⟨b, off, rfl, hb, ?_⟩
  rw [keptCell k hb (fun h => h) (off + j), hc j hj]
  simp [List.getD, List.getElem?_eq_getElem hj]
theorem Ints.wf {w : World} {s : Option Addr} {cap : Nat} {zs : List Int} (h : Ints w s cap zs) {j : Nat} (hj : j < zs.length) : -9223372036854775808 ≤ zs[j] ∧ zs[j] ≤ 9223372036854775807 :=
 bounds_i64 (h.2.1 _ (List.getElem_mem hj))
def Structs (w : World) (s : Option Addr) (cap m : Nat) (zs : List (List Int)) : Prop :=
 zs.length ≤ cap ∧ (∀ r ∈ zs, r.length = m ∧ ∀ n ∈ r, (Lit.int .i64 n).wf = true) ∧
 (zs = [] ∨ ∃ b off, s = some ⟨b, off, none⟩ ∧ b < w.heap.size ∧ ∀ i, i < zs.length → ∀ j, j < m → w.cell? ⟨b, off + i * m + j, none⟩ = some (.int .i64 ((zs.getD i []).getD j 0)))
theorem Structs.cell {w w' : World} {s : Option Addr} {cap m : Nat} {zs : List (List Int)} (h : Structs w s cap m zs) (k : Old w w') {i j : Nat} (hi : i < zs.length) (hj : j < m) :
  ∃ b off, s = some ⟨b, off, none⟩ ∧ b < w.heap.size ∧ w'.cell? ⟨b, off + i * m + j, none⟩ = some (.int .i64 ((zs.getD i []).getD j 0)) := by
 rcases h.2.2 with rfl | ⟨b, off, rfl, hb, hc⟩
 ·simp at hi
 ·exact ⟨b, off, rfl, hb, by rw [keptCell k hb (fun h => h), hc i hi j hj]⟩
theorem Structs.wf {w : World} {s : Option Addr} {cap m : Nat} {zs : List (List Int)} (h : Structs w s cap m zs) {i j : Nat} (hi : i < zs.length) (hj : j < m) :
  -9223372036854775808 ≤ (zs.getD i []).getD j 0 ∧ (zs.getD i []).getD j 0 ≤ 9223372036854775807 := by
 have e : zs.getD i [] = zs[i] := by simp [List.getD, List.getElem?_eq_getElem hi]
 obtain ⟨hl, hn⟩ := h.2.1 zs[i] (List.getElem_mem hi)
 have hj' : j < zs[i].length := by omega
 have e2 : zs[i].getD j 0 = zs[i][j] := by simp [List.getD, List.getElem?_eq_getElem hj']
 rw [e, e2]
 exact bounds_i64 (hn _ (List.getElem_mem hj'))
theorem laidOut : laidOutB Tryz.prog = true := by kernel_rfl
theorem back {H : Type} {enc : TypeId × Value → H} {W W' : World} {t : TypeId} {v : Value} {d : DataW H} {p : List MemPlace} {sp : Nat → Bool} (h1 : Tryz.prog.readableRec t = true) (h2 : t < Tryz.prog.types.size)
  (h : DataW.Trod enc Tryz.prog W 0 (fun _ => true) true t v d p)
  (hb : Old W W') (hlt : ∀ x ∈ p, x.block < W.heap.size) (hs : ∀ x ∈ p, sp x.block = true) : DataW.Trod enc Tryz.prog W' 0 sp true t v d p :=
 WideElems.Trod_stays laidOut h1 h2 h (fun x hx => hb.below.same (hlt x hx)) (fun x hx => hs x hx)
end Go.Proofs.YtpogpibjkolioaaGreat.Opn

/- Rows of elements of whatever cells, of the call's own: how they lie, append, make. Conditions: each theorem's own. -/
namespace Go.Proofs.YtpogpibjkolioaaGreat.Rw
open Go.RowKit Hp
structure Ty (α : Type) where
 E : TypeId
 L : TypeId
 k : Nat
 bz : Nat
 enc : α → List Value
 z : Value
 hL : Tryz.prog.underlying L = some (.slice E)
 hI : (Tryz.prog.info? E).map (fun i => (i.zero, i.size, i.bytes)) = some (some z, k, bz)
 hz : z.cells.size = k
 hk : ∀ x, (enc x).length = k
 h1 : ∀ x, ∀ v ∈ enc x, v.oneCell' = true
 k0 : 0 < k
 hb : bz ≤ 128
variable {α : Type} {t : Ty α}
def flat (t : Ty α) (l : List α) : List Value := l.flatMap t.enc
theorem flat_len (t : Ty α) : ∀ l : List α, (flat t l).length = l.length * t.k
 | [] => by simp [flat]
 | x :: l => by
  have := flat_len t l
  unfold flat at this ⊢
  rw [List.flatMap_cons, List.length_append, this, t.hk, List.length_cons, Nat.add_mul, Nat.one_mul, Nat.add_comm]
theorem flat_append (t : Ty α) (a b : List α) : flat t (a ++ b) = flat t a ++ flat t b := by unfold flat; rw [List.flatMap_append]
theorem flat_at (t : Ty α) : ∀ {l : List α} {i : Nat} {x : α} (h : l[i]? = some x) {j : Nat} (hj : j < t.k), (flat t l)[i * t.k + j]? = (t.enc x)[j]?
 | [], i, x, h, j, hj => by simp at h
 | y :: l, 0, x, h, j, hj => by
  simp at h; subst h
  unfold flat
  rw [List.flatMap_cons, List.getElem?_append_left (by rw [t.hk]; omega)]
  congr 1; omega
 | y :: l, i + 1, x, h, j, hj => by
  have := flat_at t (l := l) (i := i) (x := x) (by simpa using h) hj
  unfold flat at this ⊢
  have e : (i + 1) * t.k + j = t.k + (i * t.k + j) := by rw [Nat.add_mul, Nat.one_mul]; omega
  rw [List.flatMap_cons, e, List.getElem?_append_right (by rw [t.hk]; omega), t.hk, Nat.add_sub_cancel_left, this]
theorem flat_one (t : Ty α) {l : List α} : ∀ u ∈ flat t l, u.oneCell' = true := by
 intro u hu
 obtain ⟨x, _, hx⟩ := List.mem_flatMap.1 hu
 exact t.h1 x u hx
def Row (t : Ty α) (w : World) (base : Nat) (v : Value) (l : List α) : Prop := w.ownsRow base t.E t.k v l.length (flat t l)
structure Lies (t : Ty α) (w : World) (g cap : Nat) (cur : List Value) (l : List α) : Prop where
 blk : Blk w g cur t.E
 le : l.length ≤ cap
 most : cap ≤ maxLen
 len : cur.length = cap * t.k
 head : cur.take (l.length * t.k) = flat t l
theorem Row.form {w : World} {base : Nat} {v : Value} {l : List α} (h : Row t w base v l) :
  (v = .slice none 0 0 ∧ l = []) ∨ ∃ g cap cur, v = .slice (some ⟨g, 0, none⟩) l.length cap ∧ base ≤ g ∧ Lies t w g cap cur l := by
 rcases h.2 with ⟨rfl, h0⟩ | ⟨g, cap, cur, rfl, h1, h2, h3, h4, h5, h6⟩
 ·exact Or.inl ⟨rfl, List.length_eq_zero_iff.1 h0⟩
 ·exact Or.inr ⟨g, cap, cur.toList, rfl, h1, ⟨by unfold Blk; simpa using h2, h3, h4, by simpa using h5, h6⟩⟩
theorem Lies.row {w : World} {g cap base : Nat} {cur : List Value} {l : List α} (h : Lies t w g cap cur l) (hb : base ≤ g) : Row t w base (.slice (some ⟨g, 0, none⟩) l.length cap) l :=
 ⟨flat_len t l, Or.inr ⟨g, cap, cur.toArray, rfl, hb, h.blk, h.le, h.most, by simpa using h.len, h.head⟩⟩
theorem Lies.cur_at {w : World} {g cap : Nat} {cur : List Value} {l : List α} (h : Lies t w g cap cur l) {j : Nat} (hj : j < l.length * t.k) : cur[j]? = (flat t l)[j]? := by
 rw [← h.head, List.getElem?_take, if_pos hj]
theorem Lies.cell {w : World} {g cap : Nat} {cur : List Value} {l : List α} (h : Lies t w g cap cur l) {i : Nat} {x : α} (hi : l[i]? = some x) {j : Nat} {u : Value} (hu : (t.enc x)[j]? = some u) : w.cell? ⟨g, i * t.k + j, none⟩ = some u := by
 have hj : j < t.k := by have := (List.getElem?_eq_some_iff.1 hu).1; rwa [t.hk] at this
 have hil := (List.getElem?_eq_some_iff.1 hi).1
 refine h.blk.cell ?_
 rw [h.cur_at ?_, flat_at t hi hj, hu]
 have : (i + 1) * t.k ≤ l.length * t.k := Nat.mul_le_mul_right _ hil
 rw [Nat.add_mul, Nat.one_mul] at this
 omega
theorem Lies.kept {w w' : World} {F : Nat → Prop} {g cap : Nat} {cur : List Value} {l : List α} (h : Lies t w g cap cur l) (k : Kept F w w') (hF : ¬ F g) : Lies t w' g cap cur l := ⟨k.blk h.blk hF, h.le, h.most, h.len, h.head⟩
theorem Row.kept {w w' : World} {F : Nat → Prop} {base : Nat} {v : Value} {l : List α} (h : Row t w base v l) (k : Kept F w w') (hF : ∀ g, v.ownBlock = some g → ¬ F g) : Row t w' base v l := by
 rcases h.form with ⟨rfl, rfl⟩ | ⟨g, cap, cur, rfl, h1, h2⟩
 ·exact ⟨by simp [flat], Or.inl ⟨rfl, rfl⟩⟩
 ·exact (h2.kept k (hF g rfl)).row h1
theorem Row.old {w w' : World} {base : Nat} {v : Value} {l : List α} (h : Row t w base v l) (k : Kept (fun _ => False) w w') : Row t w' base v l := h.kept k (fun _ _ f => f)
theorem Row.lt {w : World} {base : Nat} {v : Value} {l : List α} (h : Row t w base v l) : ∀ g, v.ownBlock = some g → base ≤ g ∧ g < w.heap.size := fun g hg => World.ownsRow.lt h g hg
theorem Row.base {w : World} {b b' : Nat} {v : Value} {l : List α} (h : Row t w b v l) (hb : ∀ g, v.ownBlock = some g → b' ≤ g) : Row t w b' v l := by
 rcases h.form with ⟨rfl, rfl⟩ | ⟨g, cap, cur, rfl, h1, h2⟩
 ·exact ⟨by simp [flat], Or.inl ⟨rfl, rfl⟩⟩
 ·exact h2.row (hb g rfl)
theorem Row.none (t : Ty α) (w : World) (b : Nat) : Row t w b (.slice none 0 0) [] := ⟨by simp [flat], Or.inl ⟨rfl, rfl⟩⟩
theorem Row.slice {w : World} {base : Nat} {v : Value} {l : List α} (h : Row t w base v l) : ∃ a c, v = .slice a l.length c ∧ l.length ≤ c ∧ c ≤ maxLen := by
 rcases h.form with ⟨rfl, rfl⟩ | ⟨g, cap, cur, rfl, h1, h2⟩
 ·exact ⟨_, 0, rfl, Nat.le_refl _, by decide⟩
 ·exact ⟨_, cap, rfl, h2.le, h2.most⟩
def Src (t : Ty α) (w : World) (v : Value) (K : List α) : Prop :=
 (K = [] ∧ v = .slice none 0 0) ∨ ∃ a c, v = .slice (some a) K.length c ∧ ∀ j u, (flat t K)[j]? = some u → w.cell? (a.add j) = some u
theorem Src.old {w w' : World} {v : Value} {K : List α} (h : Src t w v K) (hc : ∀ a u, w.cell? a = some u → w'.cell? a = some u) : Src t w' v K := by
 rcases h with h | ⟨a, c, rfl, h⟩
 ·exact Or.inl h
 ·exact Or.inr ⟨a, c, rfl, fun j u hj => hc _ _ (h j u hj)⟩
theorem src_blk {w : World} {g : Nat} {K : List α} (c : Nat) (h : Blk w g (flat t K) t.E) : Src t w (.slice (some ⟨g, 0, none⟩) K.length c) K :=
 Or.inr ⟨_, c, rfl, fun j u hj => by rw [Go.WideShapes.add_plain, Nat.zero_add]; exact h.cell hj⟩
theorem Lies.src {w : World} {g cap : Nat} {cur : List Value} {l : List α} (h : Lies t w g cap cur l) (i n c : Nat) (hn : i + n ≤ l.length) : Src t w (.slice (some ⟨g, i * t.k, none⟩) n c) ((l.drop i).take n) := by
 have hl : ((l.drop i).take n).length = n := by rw [List.length_take, List.length_drop]; omega
 refine Or.inr ⟨_, c, by rw [hl], fun j u hj => ?_⟩
 have hjl := (List.getElem?_eq_some_iff.1 hj).1
 rw [flat_len, hl] at hjl
 rw [Go.WideShapes.add_plain]
 refine h.blk.cell ?_
 have hm : (i + n) * t.k ≤ l.length * t.k := Nat.mul_le_mul_right _ hn
 rw [Nat.add_mul] at hm
 rw [h.cur_at (by omega)]
 have hq : j / t.k < n := Nat.div_lt_of_lt_mul (by rw [Nat.mul_comm]; exact hjl)
 have hr : j % t.k < t.k := Nat.mod_lt _ t.k0
 have hj2 : j = (j / t.k) * t.k + j % t.k := by rw [Nat.mul_comm]; exact (Nat.div_add_mod j t.k).symm
 have hx : ((l.drop i).take n)[j / t.k]? = some l[i + j / t.k] := by
  rw [List.getElem?_take, if_pos hq, List.getElem?_drop, List.getElem?_eq_getElem (by omega)]
 rw [hj2] at hj
 rw [flat_at t hx hr] at hj
 rw [hj2, show i * t.k + (j / t.k * t.k + j % t.k) = (i + j / t.k) * t.k + j % t.k by rw [Nat.add_mul]; omega, flat_at t (List.getElem?_eq_getElem (by omega)) hr]
 exact hj
structure Apd (t : Ty α) (w : World) (base : Nat) (v : Value) (l : List α) (v' : Value) (w' : World) : Prop where
 row : Row t w' base v' l
 kept : Kept (fun k => v.ownBlock = some k) w w'
 lies : ∀ g, v'.ownBlock = some g → v.ownBlock = some g ∨ w.heap.size ≤ g
theorem grown_kept {w w' : World} {row : Option Nat} (h : w.grownBy w' row) : Kept (fun k => row = some k) w w' := ⟨h.os, h.tape, h.output, h.size, fun k hk hr => h.block k hk (fun e => hr e.symm)⟩
theorem run_app {w : World} (base : Nat) {v v2 : Value} {K K2 : List α} (ty : TypeId) (h1 : Row t w base v K) (h2 : Src t w v2 K2) (hsm : K.length + K2.length ≤ 1000000) (hbase : base ≤ w.heap.size) :
  ∃ v' w', (Builtin.append_ #[t.L, t.L] ty #[v, v2]).run Tryz.prog w = .ok v' w' ∧ Apd t w base v (K ++ K2) v' w' := by
 obtain ⟨ti, hti, hz0, hz1, hz2⟩ := info_parts t.hI
 rcases h2 with ⟨rfl, rfl⟩ | ⟨a, c, rfl, hc⟩
 ·have hr := run_append_owned_none (P := Tryz.prog) w base t.L ty t.E ti t.k t.hL hti v _ _ h1
  exact ⟨v, w, hr, ⟨by rw [List.append_nil]; exact h1, Kept.refl _ w, fun g hg => Or.inl hg⟩⟩
 ·have hbb : (K.length + K2.length) * t.bz ≤ 1000000 * 128 := Nat.mul_le_mul hsm t.hb
  obtain ⟨v', w', hr, r2, r3, _, r5⟩ := run_append_own_at (P := Tryz.prog) w base t.L ty t.E ti _ t.k t.bz t.hL hti hz0 hz1 hz2 t.hz t.k0 v _ _ h1 a K2.length c _ (flat_len t K2) hc (flat_one t) (by unfold maxLen; omega) (by omega) hbase
  refine ⟨v', w', hr, ⟨?_, grown_kept r3, fun g hg => ?_⟩⟩
  ·unfold Row
   rw [List.length_append, flat_append]
   exact r2
  ·rcases r5 with r5 | r5
   ·left; rw [← r5]; exact hg
   ·right
    rw [r5] at hg
    cases hg
    exact Nat.le_refl _
theorem wp_app {w : World} {o : Oper} {a : Act} {K0 : Act → World → Prop} {Q : Exit → Act → World → Prop} (t : Ty α) (s x : Operand)
  (ho : o.op = .call { callee := .builtin .append, args := #[s, x], argTypes := #[t.L, t.L] })
  (base : Nat) {v v2 : Value} {K K2 : List α} (hs : a.eval s = v) (h1 : Row t w base v K) (hx : a.eval x = v2) (h2 : Src t w v2 K2) (hsm : K.length + K2.length ≤ 1000000) (hbase : base ≤ w.heap.size)
  (h : ∀ v' w', Apd t w base v (K ++ K2) v' w' → K0 (a.put o.dst v') w') : o.wp Tryz.prog a w K0 Q := by
 obtain ⟨v', w', hr, hA⟩ := run_app base o.type h1 h2 hsm hbase
 unfold Oper.wp execOp
 simp only [ho, resolve, invoke, builtin, Sem.run_bind, Sem.run_pure, Result.andThen_ok, List.map_toArray, List.map_cons, List.map_nil, hs, hx, hr]
 exact h v' w' hA
theorem wpList_app {w : World} {ops : Array Oper} {rest : List Oper} {o : Oper} {a : Act} {Q : Exit → Act → World → Prop} (t : Ty α) (hgd : o.guard = none) (s x : Operand)
  (ho : o.op = .call { callee := .builtin .append, args := #[s, x], argTypes := #[t.L, t.L] })
  (base : Nat) {v v2 : Value} {K K2 : List α} (hs : a.eval s = v) (h1 : Row t w base v K) (hx : a.eval x = v2) (h2 : Src t w v2 K2) (hsm : K.length + K2.length ≤ 1000000) (hbase : base ≤ w.heap.size)
  (h : ∀ v' w', Apd t w base v (K ++ K2) v' w' → wpList Tryz.prog ops Q rest (a.put o.dst v') w') : wpList Tryz.prog ops Q (o :: rest) a w :=
 wpList_plain hgd fun _ hK => wp_app t s x ho base hs h1 hx h2 hsm hbase fun v' w' hA => hK _ _ (h v' w' hA)
theorem step_app {ops : Array Oper} {o : Oper} {a : Act} {w : World} {K0 : Act → World → Prop} {Q : Exit → Act → World → Prop} {E : Prop} (t : Ty α)
  (hg : o.guard = none) (s x : Operand) (ho : o.op = .call { callee := .builtin .append, args := #[s, x], argTypes := #[t.L, t.L] })
  (base : Nat) {v v2 : Value} {K K2 : List α} (hs : a.eval s = v) (h1 : Row t w base v K) (hx : a.eval x = v2) (h2 : Src t w v2 K2) (hsm : K.length + K2.length ≤ 1000000) (hbase : base ≤ w.heap.size)
  (h : ∀ v' w', Apd t w base v (K ++ K2) v' w' → K0 (a.put o.dst v') w') :
  if Region.wanted o (yielded ops a.tmps) = true then Oper.wp Tryz.prog o a w K0 Q else E := by
 have hw : Region.wanted o (yielded ops a.tmps) = true := by simp [Region.wanted, hg]
 rw [if_pos hw]
 exact wp_app t s x ho base hs h1 hx h2 hsm hbase h
theorem wpList_make {w : World} {ops : Array Oper} {rest : List Oper} {o : Oper} {a : Act} {Q : Exit → Act → World → Prop} (t : Ty α) (hg : o.guard = none) (l c : Operand) (hop : o.op = Op.makeSlice t.L l c)
  (C : Int) (n : Nat) (hl : a.eval l = .int .i64 0) (hc : a.eval c = .int .i64 C) (hC : C = (n : Int)) (hn : n ≤ 1000000)
  (hK : ∀ w', Row t w' w.heap.size (.slice (some ⟨w.heap.size, 0, none⟩) 0 n) [] → Kept (fun _ => False) w w' → wpList Tryz.prog ops Q rest (a.put o.dst (.slice (some ⟨w.heap.size, 0, none⟩) 0 n)) w') :
  wpList Tryz.prog ops Q (o :: rest) a w := by
 obtain ⟨ti, hti, hz0, hz1, hz2⟩ := info_parts t.hI
 have hbb : t.bz * n ≤ 128 * 1000000 := Nat.mul_le_mul t.hb hn
 refine wpList_make_own (P := Tryz.prog) w hg l c t.L hop w.heap.size t.E ti t.z t.k t.hL hti hz0 hz1 .i64 .i64 C n hl hc hC (by rw [hz2]; omega) (by unfold maxLen; omega) (Nat.le_refl _) ?_
 intro w' hR hG
 exact hK w' hR ((grown_kept hG).mono (fun _ _ e => by cases e))
end Go.Proofs.YtpogpibjkolioaaGreat.Rw

/- A ring as lists: what stands in it, one behind the others, one taken out from between. Conditions: each theorem's own. -/
namespace Go.Proofs.YtpogpibjkolioaaGreat.QuM
variable {α : Type}
theorem md {n f k : Nat} (hf : f < n) (hk : k < n) : (f + k) % n = if f + k < n then f + k else f + k - n := by
 split
 ·exact Nat.mod_eq_of_lt (by assumption)
 ·rw [Nat.mod_eq_sub_mod (by omega), Nat.mod_eq_of_lt (by omega)]
theorem md_inj {n f i j : Nat} (hf : f < n) (hi : i < n) (hj : j < n) (h : (f + i) % n = (f + j) % n) : i = j := by
 rw [md hf hi, md hf hj] at h
 split at h <;> split at h <;> omega
structure Ring (P : List α) (f : Nat) (L : List α) : Prop where
 f0 : f < P.length
 le : L.length ≤ P.length
 at' : ∀ k x, L[k]? = some x → P[(f + k) % P.length]? = some x
theorem Ring.set {P : List α} {f : Nat} {L : List α} (h : Ring P f L) {k : Nat} (hk : k < L.length) (x : α) : Ring (P.set ((f + k) % P.length) x) f (L.set k x) := by
 have hn := h.f0
 have hle := h.le
 refine ⟨by rw [List.length_set]; exact hn, by rw [List.length_set, List.length_set]; exact hle, fun i y hi => ?_⟩
 have hil : i < L.length := by have := (List.getElem?_eq_some_iff.1 hi).1; rwa [List.length_set] at this
 rw [List.length_set]
 by_cases e : k = i
 ·subst e
  rw [List.getElem?_set_self hk] at hi
  rw [List.getElem?_set_self (Nat.mod_lt _ (by omega))]
  exact hi
 ·rw [List.getElem?_set_ne e] at hi
  rw [List.getElem?_set_ne (fun e2 => e (md_inj hn (by omega) (by omega) e2))]
  exact h.at' i y hi
theorem Ring.push {P : List α} {f : Nat} {L : List α} (h : Ring P f L) (hl : L.length < P.length) (x : α) : Ring (P.set ((f + L.length) % P.length) x) f (L ++ [x]) := by
 have hn := h.f0
 refine ⟨by rw [List.length_set]; exact hn, by rw [List.length_set, List.length_append]; exact hl, fun i y hi => ?_⟩
 rw [List.length_set]
 rcases Nat.lt_or_ge i L.length with hil | hil
 ·rw [List.getElem?_append_left hil] at hi
  rw [List.getElem?_set_ne (fun e2 => by have := md_inj hn hl (by omega) e2; omega)]
  exact h.at' i y hi
 ·have hi2 := (List.getElem?_eq_some_iff.1 hi).1
  rw [List.length_append, List.length_singleton] at hi2
  obtain rfl : i = L.length := by omega
  rw [List.getElem?_append_right (Nat.le_refl _), Nat.sub_self] at hi
  rw [List.getElem?_set_self (Nat.mod_lt _ (by omega))]
  exact hi
theorem Ring.tail {P : List α} {f : Nat} {x : α} {L : List α} (h : Ring P f (x :: L)) : Ring P ((f + 1) % P.length) L := by
 have hn := h.f0
 have hle := h.le
 rw [List.length_cons] at hle
 refine ⟨Nat.mod_lt _ (by omega), by omega, fun i y hi => ?_⟩
 have hil := (List.getElem?_eq_some_iff.1 hi).1
 have := h.at' (i + 1) y (by simpa using hi)
 rw [Nat.mod_add_mod, Nat.add_assoc, Nat.add_comm 1 i]
 exact this
theorem Ring.front {P : List α} {f : Nat} {L K : List α} (h : Ring P f (L ++ K)) : Ring P f L := by
 have hle := h.le
 rw [List.length_append] at hle
 refine ⟨h.f0, by omega, fun i y hi => h.at' i y ?_⟩
 have hil := (List.getElem?_eq_some_iff.1 hi).1
 rw [List.getElem?_append_left hil]
 exact hi
theorem ring_new (L : List α) (z : α) (n : Nat) (h : L.length ≤ n) (h0 : 0 < n) : Ring (L ++ List.replicate (n - L.length) z) 0 L := by
 have hl : (L ++ List.replicate (n - L.length) z).length = n := by rw [List.length_append, List.length_replicate]; omega
 refine ⟨by omega, by omega, fun i y hi => ?_⟩
 have hil := (List.getElem?_eq_some_iff.1 hi).1
 rw [hl, Nat.zero_add, Nat.mod_eq_of_lt (by omega), List.getElem?_append_left hil]
 exact hi
theorem copy_step {L : List α} {z x : α} {n i : Nat} (hi : L[i]? = some x) (hn : L.length ≤ n) :
  (L.take i ++ List.replicate (n - i) z).set i x = L.take (i + 1) ++ List.replicate (n - (i + 1)) z := by
 have hil := (List.getElem?_eq_some_iff.1 hi).1
 have e : (L.take i).length = i := by rw [List.length_take]; omega
 rw [List.set_append_right _ _ (by omega), e, Nat.sub_self, show n - i = (n - (i + 1)) + 1 by omega, List.replicate_succ, List.set_cons_zero, List.take_add_one, hi, Option.toList_some, List.append_assoc]
 rfl
def fr (L : List α) (k j : Nat) : List α := L.take (j + 1) ++ ((L.drop j).take (k - j) ++ L.drop (k + 1))
theorem fr_self (L : List α) {k : Nat} (hk : k < L.length) : fr L k k = L := by
 unfold fr; rw [Nat.sub_self, List.take_zero, List.nil_append, List.take_append_drop]
theorem fr_len (L : List α) {k j : Nat} (hj : j ≤ k) (hk : k < L.length) : (fr L k j).length = L.length := by
 unfold fr; simp only [List.length_append, List.length_take, List.length_drop]; omega
theorem fr_at (L : List α) {k j : Nat} (hj : j ≤ k) (hk : k < L.length) (i : Nat) : (fr L k j)[i]? = if i ≤ j then L[i]? else if i ≤ k then L[i - 1]? else L[i]? := by
 unfold fr
 by_cases h1 : i ≤ j
 ·rw [if_pos h1, List.getElem?_append_left (by rw [List.length_take]; omega), List.getElem?_take, if_pos (by omega)]
 ·rw [if_neg h1, List.getElem?_append_right (by rw [List.length_take]; omega), List.length_take, Nat.min_eq_left (by omega)]
  by_cases h2 : i ≤ k
  ·rw [if_pos h2, List.getElem?_append_left (by rw [List.length_take, List.length_drop]; omega), List.getElem?_take, if_pos (by omega), List.getElem?_drop]
   congr 1; omega
  ·rw [if_neg h2, List.getElem?_append_right (by rw [List.length_take, List.length_drop]; omega), List.length_take, List.length_drop, Nat.min_eq_left (by omega), List.getElem?_drop]
   congr 1; omega
theorem fr_step (L : List α) {k j : Nat} (hj : j + 1 ≤ k) (hk : k < L.length) {x : α} (hx : L[j]? = some x) : (fr L k (j + 1)).set (j + 1) x = fr L k j := by
 apply List.ext_getElem?
 intro i
 by_cases e : j + 1 = i
 ·subst e
  rw [List.getElem?_set_self (by rw [fr_len L hj hk]; omega), fr_at L (by omega) hk, if_neg (by omega), if_pos hj, Nat.add_sub_cancel, hx]
 ·rw [List.getElem?_set_ne e, fr_at L hj hk, fr_at L (by omega) hk]
  by_cases h1 : i ≤ j
  ·rw [if_pos h1, if_pos (by omega)]
  ·rw [if_neg h1, if_neg (by omega)]
theorem fr_end (L : List α) {k : Nat} (hk : k < L.length) (z : α) : (fr L k 0).set 0 z = z :: L.eraseIdx k := by
 obtain ⟨x, L', rfl⟩ : ∃ x L', L = x :: L' := by cases L with | nil => simp at hk | cons x L' => exact ⟨x, L', rfl⟩
 unfold fr
 rw [Nat.zero_add, List.take_one, Nat.sub_zero, List.drop_zero, List.eraseIdx_eq_take_drop_succ]
 rfl
def bk (L : List α) (k j : Nat) : List α := L.take k ++ ((L.drop (k + 1)).take (j - k) ++ L.drop j)
theorem bk_self (L : List α) (k : Nat) : bk L k k = L := by
 unfold bk; rw [Nat.sub_self, List.take_zero, List.nil_append, List.take_append_drop]
theorem bk_len (L : List α) {k j : Nat} (hj : k ≤ j) (hk : j < L.length) : (bk L k j).length = L.length := by
 unfold bk; simp only [List.length_append, List.length_take, List.length_drop]; omega
theorem bk_at (L : List α) {k j : Nat} (hj : k ≤ j) (hk : j < L.length) (i : Nat) : (bk L k j)[i]? = if i < k then L[i]? else if i < j then L[i + 1]? else L[i]? := by
 unfold bk
 by_cases h1 : i < k
 ·rw [if_pos h1, List.getElem?_append_left (by rw [List.length_take]; omega), List.getElem?_take, if_pos (by omega)]
 ·rw [if_neg h1, List.getElem?_append_right (by rw [List.length_take]; omega), List.length_take, Nat.min_eq_left (by omega)]
  by_cases h2 : i < j
  ·rw [if_pos h2, List.getElem?_append_left (by rw [List.length_take, List.length_drop]; omega), List.getElem?_take, if_pos (by omega), List.getElem?_drop]
   congr 1; omega
  ·rw [if_neg h2, List.getElem?_append_right (by rw [List.length_take, List.length_drop]; omega), List.length_take, List.length_drop, Nat.min_eq_left (by omega), List.getElem?_drop]
   congr 1; omega
theorem bk_step (L : List α) {k j : Nat} (hj : k ≤ j) (hk : j + 1 < L.length) {x : α} (hx : L[j + 1]? = some x) : (bk L k j).set j x = bk L k (j + 1) := by
 apply List.ext_getElem?
 intro i
 by_cases e : j = i
 ·subst e
  rw [List.getElem?_set_self (by rw [bk_len L hj (by omega)]; omega), bk_at L (by omega) hk, if_neg (by omega), if_pos (by omega), hx]
 ·rw [List.getElem?_set_ne e, bk_at L hj (by omega), bk_at L (by omega) hk]
  by_cases h1 : i < k
  ·rw [if_pos h1, if_pos h1]
  ·rw [if_neg h1, if_neg h1]
   by_cases h2 : i < j
   ·rw [if_pos h2, if_pos (by omega)]
   ·rw [if_neg h2, if_neg (by omega)]
theorem bk_end (L : List α) {k : Nat} (hk : k < L.length) (z : α) : (bk L k (L.length - 1)).set (L.length - 1) z = L.eraseIdx k ++ [z] := by
 have hl : (L.eraseIdx k).length = L.length - 1 := List.length_eraseIdx_of_lt hk
 apply List.ext_getElem?
 intro i
 by_cases e : L.length - 1 = i
 ·rw [← e, List.getElem?_set_self (by rw [bk_len L (by omega) (by omega)]; omega), List.getElem?_append_right (by omega), hl, Nat.sub_self]
  rfl
 ·rw [List.getElem?_set_ne e, bk_at L (by omega) (by omega)]
  rcases Nat.lt_or_ge i (L.length - 1) with h | h
  ·rw [List.getElem?_append_left (by omega), List.getElem?_eraseIdx]
   by_cases h1 : i < k
   ·rw [if_pos h1, if_pos h1]
   ·rw [if_neg h1, if_pos h, if_neg h1]
  ·rw [if_neg (by omega), if_neg (by omega), List.getElem?_eq_none (by omega), List.getElem?_eq_none (by rw [List.length_append, hl, List.length_singleton]; omega)]
end Go.Proofs.YtpogpibjkolioaaGreat.QuM

/- Frames as bytes: numbers of so many bytes, the sum, the head, what is read of it. Conditions: each theorem's own. -/
namespace Go.Proofs.YtpogpibjkolioaaGreat.WrM
def be (v : Nat) : Nat → List UInt8
 | 0 => []
 | k + 1 => UInt8.ofNat (v / 256 ^ k) :: be v k
def sumTo (l : List UInt8) : Nat → Nat
 | 0 => 0
 | k + 1 => (sumTo l k + if k = 3 then 0 else (l.getD k 0).toNat) % 256
structure Frm where
 kind : Int
 src : Int
 dst : Int
 prio : Int
 msg : Nat
 off : Int
 len : Int
 total : Int
 num : Int
 data : List UInt8
def Fit (f : Frm) : Prop :=
 (1 ≤ f.kind ∧ f.kind ≤ 12) ∧ (0 ≤ f.src ∧ f.src ≤ 7) ∧ (0 ≤ f.dst ∧ f.dst ≤ 7) ∧ (0 ≤ f.prio ∧ f.prio ≤ 7) ∧ f.msg ≤ 1152921504606846976 ∧ (0 ≤ f.off ∧ f.off ≤ 1073741824) ∧ (0 ≤ f.total ∧ f.total ≤ 1073741824) ∧ (0 ≤ f.len ∧ f.len ≤ 1500) ∧ (0 ≤ f.num ∧ f.num ≤ 1073741824)
def Rng (f : Frm) : Prop := (f.kind = 1 ∨ f.kind = 7) → f.off + f.len ≤ f.total
def Dat (f : Frm) : Prop := (f.data.length : Int) = if f.kind = 1 then f.len else 0
def Ok (f : Frm) : Prop := Fit f ∧ Rng f ∧ Dat f
open Classical in
noncomputable def chk (f : Frm) : Int := if Ok f then 0 else 1
theorem chk_yes {f : Frm} (h : Ok f) : chk f = 0 := if_pos h
theorem chk_no {f : Frm} (h : ¬ Ok f) : chk f = 1 := if_neg h
def hd (f : Frm) (x : UInt8) : List UInt8 :=
 [UInt8.ofNat f.kind.toNat, UInt8.ofNat (f.src * 16 + f.dst).toNat, UInt8.ofNat f.prio.toNat, x] ++ be f.msg 8 ++ be f.off.toNat 4 ++ be f.total.toNat 4 ++ be f.len.toNat 2 ++ be f.num.toNat 4
def sm (f : Frm) : UInt8 := UInt8.ofNat (sumTo (hd f 0) 26)
def enc (f : Frm) : List UInt8 := hd f (sm f) ++ f.data
def trimmed (f : Frm) : Frm := { f with kind := 7, prio := 0, data := [] }
end Go.Proofs.YtpogpibjkolioaaGreat.WrM

