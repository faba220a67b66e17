/- Messages put together: how they lie in memory; New; a page of one. Conditions: each theorem's own. -/
import Derived.Test.YtfkcplapmkpkbaaRmAsk
import Derived.Test.YtfkcplapmkpkbaaRmSeg
import Derived.Test.YtfkcplapmkpkbaaRmMath
import Derived.Test.YtfkcplapmkpkbaaByt
import Derived.Test.YtfkcplapmkpkbaaIMap
import Derived.StillTailTactics
import Derived.OwnWalk
set_option linter.unusedVariables false
namespace Go.Proofs.Ytfkcplapmkpkbaa.Rm
open Go.RowKit Go.Deep Hp IvM RmM
attribute [local go_sem ↓] Go.wp_at_zero Go.wp_at_succ
theorem row_blk {w : World} {base : Nat} {v : Value} {l : List Rg} (h : IvR.Row w base v l) {g : Nat} (hg : v.ownBlock = some g) : ∃ cur, Blk w g cur 59 := by
  rcases h.form with ⟨rfl, rfl⟩ | ⟨g', cap, cur, rfl, h1, h2⟩
  · cases hg
  · cases hg
    exact ⟨cur, h2.blk⟩
/-- Ranges within n have no more runs than n. -/
theorem len_size {n : Int} : ∀ {l : List Rg}, IvM.Good n l → (l.length : Int) ≤ size l
  | [], _ => by simp [size]
  | p :: l, h => by
    have h1 := h.each p (by simp)
    have h2 := len_size h.tail
    rw [List.length_cons, size]; omega
theorem good_few {n : Int} {l : List Rg} (h : IvM.Good n l) (h0 : 0 ≤ n) (hn : n ≤ 1000) : l.length ≤ 1000 := by
  have h1 := len_size h
  have h2 := size_le (x := 0) h (fun p hp => (h.each p hp).1) h0
  omega
/-- One that comes, but for its pages; F: what is its own. -/
structure Bare (w : World) (base : Nat) (F : Nat → Prop) (b n : Nat) (l : List Rg) (s m : Nat) (v : Value) : Prop where
  blk : Blk w b [.int .i64 (n : Int), .pointer (some ⟨s, 0, none⟩), .map (some m)] 46
  set : Iv.SetV w base s v (n : Int) l
  fb : F b
  fs : F s
  fm : F m
  fv : ∀ g, v.ownBlock = some g → F g
  own : ∀ k, F k → base ≤ k ∧ k < w.heap.size
  n0 : 1 ≤ n
  n1 : n ≤ 1000
/-- One whose page is there. -/
structure There (w : World) (base : Nat) (F : Nat → Prop) (b n : Nat) (l : List Rg) (D : List UInt8) (s m g : Nat) (v : Value) : Prop where
  bare : Bare w base F b n l s m v
  map : Im.IMap w m [(0, .slice (some ⟨g, 0, none⟩) n n)]
  page : Blk w g (Byt.bvs D) 5
  fg : F g
  len : D.length = n
/-- One of which nothing came yet. -/
structure Empty (w : World) (base : Nat) (F : Nat → Prop) (b n : Nat) (s m : Nat) (v : Value) : Prop where
  bare : Bare w base F b n [] s m v
  map : Im.IMap w m []
def BufV (w : World) (base : Nat) (F : Nat → Prop) (b n : Nat) (l : List Rg) (D : List UInt8) : Prop :=
  (∃ s m g v, There w base F b n l D s m g v) ∨ (∃ s m v, Empty w base F b n s m v ∧ l = [] ∧ D = List.replicate n 0)
theorem Bare.sep {w : World} {base : Nat} {F : Nat → Prop} {b n : Nat} {l : List Rg} {s m : Nat} {v : Value} (h : Bare w base F b n l s m v) {M : List (Nat × Value)} (hm : Im.IMap w m M) :
    b ≠ s ∧ v.ownBlock ≠ some b ∧ m ≠ s ∧ v.ownBlock ≠ some m ∧ b ≠ m := by
  refine ⟨fun e => ?_, fun e => ?_, fun e => ?_, fun e => ?_, fun e => ?_⟩
  · have h1 := h.blk; rw [e] at h1; exact absurd (h1.inj h.set.blk).2 (by decide)
  · obtain ⟨cur, h1⟩ := row_blk h.set.row e; exact absurd (h1.inj h.blk).2 (by decide)
  · rw [e] at hm; exact hm.not_blk h.set.blk
  · obtain ⟨cur, h1⟩ := row_blk h.set.row e; exact hm.not_blk h1
  · have h1 := h.blk; rw [e] at h1; exact hm.not_blk h1
theorem There.apart {w : World} {base : Nat} {F : Nat → Prop} {b n : Nat} {l : List Rg} {D : List UInt8} {s m g : Nat} {v : Value} (h : There w base F b n l D s m g v) :
    g ≠ b ∧ g ≠ s ∧ v.ownBlock ≠ some g ∧ g ≠ m := by
  refine ⟨fun e => ?_, fun e => ?_, fun e => ?_, fun e => ?_⟩
  · have h1 := h.page; rw [e] at h1; exact absurd (h1.inj h.bare.blk).2 (by decide)
  · have h1 := h.page; rw [e] at h1; exact absurd (h1.inj h.bare.set.blk).2 (by decide)
  · obtain ⟨cur, h1⟩ := row_blk h.bare.set.row e; exact absurd (h1.inj h.page).2 (by decide)
  · have h1 := h.page; rw [e] at h1; exact h.map.not_blk h1
theorem Bare.kept {w w' : World} {base : Nat} {F G : Nat → Prop} {b n : Nat} {l : List Rg} {s m : Nat} {v : Value} (h : Bare w base F b n l s m v) (k : Kept G w w') (hb : ¬ G b) (hs : ¬ G s) (hv : ∀ g, v.ownBlock = some g → ¬ G g) : Bare w' base F b n l s m v :=
  ⟨k.blk h.blk hb, h.set.kept k hs hv, h.fb, h.fs, h.fm, h.fv, fun i hi => ⟨(h.own i hi).1, Nat.lt_of_lt_of_le (h.own i hi).2 k.size⟩, h.n0, h.n1⟩
/-- What is its own, and what is new. -/
def More (F : Nat → Prop) (w w' : World) (k : Nat) : Prop := F k ∨ (w.heap.size ≤ k ∧ k < w'.heap.size)
theorem Bare.more {w' : World} {base : Nat} {F : Nat → Prop} {b n : Nat} {l : List Rg} {s m : Nat} {v : Value} (h : Bare w' base F b n l s m v) (w0 : World) (hb : base ≤ w0.heap.size) : Bare w' base (More F w0 w') b n l s m v :=
  ⟨h.blk, h.set, Or.inl h.fb, Or.inl h.fs, Or.inl h.fm, fun g hg => Or.inl (h.fv g hg), fun k hk => hk.elim (h.own k) (fun h => ⟨by omega, h.2⟩), h.n0, h.n1⟩
theorem There.more {w' : World} {base : Nat} {F : Nat → Prop} {b n : Nat} {l : List Rg} {D : List UInt8} {s m g : Nat} {v : Value} (h : There w' base F b n l D s m g v) (w0 : World) (hb : base ≤ w0.heap.size) : There w' base (More F w0 w') b n l D s m g v :=
  ⟨h.bare.more w0 hb, h.map, h.page, Or.inl h.fg, h.len⟩
theorem There.old {w w' : World} {base : Nat} {F : Nat → Prop} {b n : Nat} {l : List Rg} {D : List UInt8} {s m g : Nat} {v : Value} (h : There w base F b n l D s m g v) (k : Kept (fun _ => False) w w') : There w' base F b n l D s m g v :=
  ⟨h.bare.kept k (fun f => f) (fun f => f) (fun _ _ f => f), h.map.kept k (fun f => f), k.blk h.page (fun f => f), h.fg, h.len⟩
theorem Empty.old {w w' : World} {base : Nat} {F : Nat → Prop} {b n s m : Nat} {v : Value} (h : Empty w base F b n s m v) (k : Kept (fun _ => False) w w') : Empty w' base F b n s m v :=
  ⟨h.bare.kept k (fun f => f) (fun f => f) (fun _ _ f => f), h.map.kept k (fun f => f)⟩
/-- What else is written does not touch it. -/
theorem BufV.kept {w w' : World} {base : Nat} {F G : Nat → Prop} {b n : Nat} {l : List Rg} {D : List UInt8} (h : BufV w base F b n l D) (k : Kept G w w') (hG : ∀ i, F i → ¬ G i) : BufV w' base F b n l D := by
  rcases h with ⟨s, m, g, v, h⟩ | ⟨s, m, v, h, e⟩
  · exact Or.inl ⟨s, m, g, v, h.bare.kept k (hG _ h.bare.fb) (hG _ h.bare.fs) (fun i hi => hG _ (h.bare.fv i hi)), h.map.kept k (hG _ h.bare.fm), k.blk h.page (hG _ h.fg), h.fg, h.len⟩
  · exact Or.inr ⟨s, m, v, ⟨h.bare.kept k (hG _ h.bare.fb) (hG _ h.bare.fs) (fun i hi => hG _ (h.bare.fv i hi)), h.map.kept k (hG _ h.bare.fm)⟩, e⟩
theorem BufV.old {w w' : World} {base : Nat} {F : Nat → Prop} {b n : Nat} {l : List Rg} {D : List UInt8} (h : BufV w base F b n l D) (k : Kept (fun _ => False) w w') : BufV w' base F b n l D := h.kept k (fun _ _ f => f)
theorem BufV.bare {w : World} {base : Nat} {F : Nat → Prop} {b n : Nat} {l : List Rg} {D : List UInt8} (h : BufV w base F b n l D) : ∃ s m v, Bare w base F b n l s m v := by
  rcases h with ⟨s, m, g, v, h⟩ | ⟨s, m, v, h, e, _⟩
  · exact ⟨s, m, v, h.bare⟩
  · exact ⟨s, m, v, by rw [e]; exact h.bare⟩
theorem BufV.len {w : World} {base : Nat} {F : Nat → Prop} {b n : Nat} {l : List Rg} {D : List UInt8} (h : BufV w base F b n l D) : D.length = n := by
  rcases h with ⟨s, m, g, v, h⟩ | ⟨s, m, v, h, _, e⟩
  · exact h.len
  · rw [e, List.length_replicate]
/-- What New leaves: nothing came, all its memory is new. -/
def NewP (w : World) (n : Nat) (e : Ending) (w' : World) : Prop :=
  ∃ b F, e = .returned (.tuple #[.pointer (some ⟨b, 0, none⟩), .int .i64 0]) ∧ BufV w' w.heap.size F b n [] (List.replicate n 0) ∧ Kept (fun _ => False) w w'
set_option maxHeartbeats 2000000 in
theorem new_yes {n : Nat} {most : Int} (h0 : 1 ≤ n) (h1 : n ≤ 1000) (h2 : (n : Int) ≤ most) (h3 : most ≤ 1073741824) (w : World) : Calls Try.prog 7 #[.int .i64 n, .int .i64 most] w (NewP w n) := by
  have N := Lib.hid fun w => Iv.new_yes (n := (n : Int)) (by omega) (by omega) w
  have g1 : ¬ most < 0 := by omega
  have g2 : decide (1073741824 < most) = false := by rw [decide_eq_false_iff_not]; omega
  have g3 : ¬ most < (n : Int) := by omega
  have hmm := @run_makeMap Try.prog
  go_enter Try.func7, Try.ntmps7
  go_wp2_with fail
  with_reducible refine Calls.mono (N.out _) ?_
  rintro e w1 ⟨s, rfl, hS, hk⟩
  go_wp2_with fail
  go_ret2
  have hM : Im.IMap (w1.alloc (.map #[] 0)) w1.heap.size [] := Im.IMap.new w1
  have hB := Blk.new (w1.alloc (.map #[] 0)) [.int .i64 (n : Int), .pointer (some ⟨s, 0, none⟩), .map (some w1.heap.size)] 46
  have k2 : Kept (fun _ => False) w1 ((w1.alloc (.map #[] 0)).alloc (.cells [.int .i64 (n : Int), .pointer (some ⟨s, 0, none⟩), .map (some w1.heap.size)].toArray 46)) := ((Kept.refl _ w1).alloc _).alloc _
  have k3 := (Kept.refl (fun _ => False) (w1.alloc (.map #[] 0))).alloc (.cells [.int .i64 (n : Int), .pointer (some ⟨s, 0, none⟩), .map (some w1.heap.size)].toArray 46)
  rw [World.size_alloc] at hB
  have hs1 := hk.size
  refine ⟨_, fun k => w.heap.size ≤ k ∧ k < w1.heap.size + 2, rfl, Or.inr ⟨s, w1.heap.size, .slice none 0 0, ⟨⟨hB, hS.old k2, ?_, ?_, ?_, ?_, ?_, h0, h1⟩, hM.kept k3 (fun f => f)⟩, rfl, rfl⟩, hk.trans k2⟩
  · omega
  · exact ⟨hS.low, by have := hS.blk.lt; omega⟩
  · omega
  · intro g hg; cases hg
  · intro k hk; rw [World.size_alloc, World.size_alloc]; omega
theorem new_big {n most : Int} (h0 : 0 ≤ n) (h1 : n ≤ 1073741824) (h2 : 0 ≤ most) (h3 : most < n) (w : World) : Calls Try.prog 7 #[.int .i64 n, .int .i64 most] w fun e w' => e = .returned (.tuple #[.pointer none, .int .i64 3]) ∧ Kept (fun _ => False) w w' := by
  have N := Lib.hid fun w => Iv.new_yes (n := n) h0 h1 w
  have g1 : ¬ most < 0 := by omega
  have g2 : decide (1073741824 < most) = false := by rw [decide_eq_false_iff_not]; omega
  go_enter Try.func7, Try.ntmps7
  go_wp2_with fail
  with_reducible refine Calls.mono (N.out _) ?_
  rintro e w1 ⟨s, rfl, hS, hk⟩
  go_wp2_with fail
  go_ret2
  exact ⟨rfl, hk⟩
end Go.Proofs.Ytfkcplapmkpkbaa.Rm
