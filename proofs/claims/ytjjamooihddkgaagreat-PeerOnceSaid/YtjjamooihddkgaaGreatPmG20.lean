/- In whatever order the pieces come: each message is delivered once, whole. Conditions: each theorem's own. -/
import Derived.Test.YtjjamooihddkgaaGreatPmG19
import Derived.Test.YtjjamooihddkgaaGreatPmG15
import Derived.ProofKit
import Derived.Deep.RegionLaw
import Derived.Deep.CutBlock
import Derived.Deep.RegionWith
import Derived.Deep.RegionHeld3
import Derived.Deep.DeepCutAuto
import Derived.WalkLawsBesides
import Derived.StillTailTactics
import Derived.Deep.DrawnRows
import Derived.Deep.LoopGhost
import Derived.Laws.StructEq
import Derived.Test.YtjjamooihddkgaaGreatPmG10
import Derived.Test.YtjjamooihddkgaaGreatPmG11
import Derived.OwnWalk
import Derived.Lib.SliceRun
set_option linter.unusedVariables false
set_option linter.unusedSimpArgs false
namespace Go.Proofs.YtjjamooihddkgaaGreat.Pk
open Go.RowKit Go.Deep Hp TbM TbN Po Go.Proofs.YtjjamooihddkgaaGreat.End
open Ph (ptr)
open Pl (Ms)
open Pr (RcE Bf Piece DataE)
open Rm (BufA Agree)
variable {w0 w w' : World} {p : Nat} {K R : List (Ky × Nat)} {W : Nat → Int × List Int} {L : List (Nat × Ms)} {Q : Nat → List UInt8} {B : Nat → Bf} {T : List (List UInt8)} {P : Nat → Prop}
theorem few_of : ∀ (n : Nat) (l : List Int), l.Nodup → (∀ x ∈ l, 1 ≤ x ∧ x ≤ (n : Int)) → l.length ≤ n
  | 0, l, _, h => by
    cases l with
    | nil => simp
    | cons x l => have := h x (List.mem_cons_self ..); omega
  | n + 1, l, hn, h => by
    have h2 := few_of n (l.erase ((n : Int) + 1)) (hn.sublist List.erase_sublist) (fun x hx => by
      have h3 := (hn.mem_erase_iff).1 hx
      have h4 := h x h3.2
      have h5 := h3.1
      omega)
    have h3 : l.length ≤ (l.erase ((n : Int) + 1)).length + 1 := by
      rw [List.length_erase]; split <;> omega
    omega
/-- Receivers, wherever they lie; the blocks P are none of theirs, and lie as at w0. -/
def Sx (P : Nat → Prop) (w0 w : World) (p most mx : Nat) (K : List (Ky × Nat)) (W : Nat → Int × List Int) (L : List (Nat × Ms)) (Q : Nat → List UInt8) (B : Nat → Bf) : Prop :=
  ∃ base O, (∀ i, P i → O i = 0 ∧ i < w0.heap.size) ∧ RcE w base O p most mx K W L Q B ∧ Kept (fun i => ¬ P i) w0 w
theorem off_next {O O' : Nat → Nat} {w0 w w' : World} (hb : ∀ i, P i → O i = 0 ∧ i < w0.heap.size) (k : Kept (fun i => ¬ P i) w0 w) (f : Fr (fun j => j ≠ 0) w O w' O') :
    (∀ i, P i → O' i = 0 ∧ i < w0.heap.size) ∧ Kept (fun i => ¬ P i) w0 w' := by
  refine ⟨fun i hi => ⟨?_, (hb i hi).2⟩, k.trans' f.kept (fun i _ e hp => e (hb i hp).1)⟩
  rcases Nat.eq_zero_or_pos (O' i) with e | e
  · exact e
  · rcases f.more i (by omega) (by omega) with h | h
    · exact absurd (hb i hi).1 h.1
    · have := (hb i hi).2; have := k.size; omega
theorem Sx.old {most mx : Nat} (h : Sx P w0 w p most mx K W L Q B) (k : Kept (fun _ => False) w w') : Sx P w0 w' p most mx K W L Q B := by
  obtain ⟨base, O, h1, h2, h3⟩ := h
  exact ⟨base, O, h1, h2.old k, h3.trans' k (fun _ _ f => f.elim)⟩
theorem Sx.kept {most mx : Nat} (h : Sx P w0 w p most mx K W L Q B) : Kept (fun i => ¬ P i) w0 w := by
  obtain ⟨base, O, h1, h2, h3⟩ := h
  exact h3
theorem Sx.keys {most mx : Nat} (h : Sx P w0 w p most mx K W L Q B) : (K.map Prod.fst).Nodup := by
  obtain ⟨base, O, h1, h2, h3⟩ := h
  exact h2.keys
theorem Sx.nu {most mx : Nat} (h : Sx P w0 w p most mx K W L Q B) : (K.map Prod.snd).Nodup := by
  obtain ⟨base, O, h1, ⟨s, tb, I, vs, ws, h2⟩, h3⟩ := h
  exact h2.nu
theorem Sx.poll {most mx : Nat} {g : Nat} {m : Ms} (h : Sx P w0 w p most mx K W ((g, m) :: L) Q B) (hL : L.length ≤ 1000000) : Calls Tryz.prog 29 #[ptr p] w fun e w' =>
    e = .returned (.tuple #[.agg #[.int .i64 m.fr, .int .u64 m.id, .slice m.a m.n m.c], .bool true]) ∧ Sx P w0 w' p most mx K W L Q B ∧ Byt.Src w' (.slice m.a m.n m.c) (Q g) := by
  obtain ⟨base, O, h1, h2, h3⟩ := h
  refine (Pr.pollE h2 hL).mono ?_
  rintro e w' ⟨rfl, h4, h5, h6⟩
  exact ⟨rfl, ⟨base, O, h1, h4, h3.trans' h6 (fun i _ e hp => e (h1 i hp).1)⟩, h5⟩
theorem Sx.retire {most mx : Nat} (h : Sx P w0 w p most mx K W L Q B) {i : Nat} (hi : i < 8) (id : Int) : Calls Tryz.prog 30 #[ptr p, .int .i64 (i : Int), .int .u64 id] w fun e w' =>
    ∃ r R, e = .returned (.int .i64 r) ∧ (∀ x, x ∈ R → x ∈ K) ∧ Sx P w0 w' p most mx R (fun j => if j = i then (IdM.retire (W i).1 (W i).2 id).2 else W j) L Q B := by
  obtain ⟨base, O, h1, ⟨s, tb, I, vs, ws, h⟩, h3⟩ := h
  refine (Pr.retire_any h hi id).mono ?_
  rintro e w' ⟨rfl, R, O', vs', hl, hR, hf⟩
  obtain ⟨h4, h5⟩ := off_next h1 h3 hf
  exact ⟨_, R, rfl, fun x hx => ((hl.mem x).1 hx).1, base, O', h4, ⟨s, tb, _, vs', ws, hR⟩, h5⟩
/-- A new block, of one's own. -/
theorem Sx.more {most mx : Nat} (h : Sx P w0 w p most mx K W L Q B) (o : Obj) : Sx (fun i => P i ∨ i = w.heap.size) (w.alloc o) (w.alloc o) p most mx K W L Q B := by
  obtain ⟨base, O, h1, h2, h3⟩ := h
  refine ⟨base, O, fun i hi => ?_, h2.old ((Kept.refl _ w).alloc o), Kept.refl _ _⟩
  have hs : (w.alloc o).heap.size = w.heap.size + 1 := by simp
  have := h3.size
  rcases hi with hi | rfl
  · exact ⟨(h1 i hi).1, by have := (h1 i hi).2; omega⟩
  · exact ⟨ow_free h2.ow, by omega⟩
/-- One writes into it. -/
theorem Sx.write {most mx : Nat} (h : Sx P w0 w p most mx K W L Q B) {g : Nat} (hg : P g) (o : Nat) (v : Value) : Sx P (w.setCell ⟨g, o, none⟩ v) (w.setCell ⟨g, o, none⟩ v) p most mx K W L Q B := by
  obtain ⟨base, O, h1, h2, h3⟩ := h
  refine ⟨base, O, fun i hi => ⟨(h1 i hi).1, ?_⟩, h2.out (Kept.one w g o v) (fun i hi e => by subst e; exact hi (h1 _ hg).1), Kept.refl _ _⟩
  have := (h1 i hi).2
  have := h3.size
  simp
  omega
/-- What is known of one message that has not ended. -/
def Kn (K : List (Ky × Nat)) (B : Nat → Bf) (k : Nat) (t : List UInt8) : Prop :=
  (∀ u, (((2 : Int), (k : Int) + 1), u) ∉ K) ∨ ∃ u, (((2 : Int), (k : Int) + 1), u) ∈ K ∧ (B u).n = t.length ∧ Agree (B u).l (B u).D t ∧ ∃ x : Int, 0 ≤ x ∧ x < (t.length : Nat) ∧ ¬ IvM.Has (B u).l x
def isEk (W : Nat → Int × List Int) (k : Nat) : Bool := IdM.isE (W 2).1 (W 2).2 ((k : Int) + 1)
/-- Nothing waits; only the texts' numbers are known. -/
structure On (P : Nat → Prop) (w0 w : World) (p : Nat) (T : List (List UInt8)) (K : List (Ky × Nat)) (W : Nat → Int × List Int) (Q : Nat → List UInt8) (B : Nat → Bf) : Prop where
  st : Sx P w0 w p 20 1000 K W [] Q B
  keys : ∀ k u, (k, u) ∈ K → k.1 = 2 ∧ 1 ≤ k.2 ∧ k.2 ≤ (T.length : Int)
  ends : ∀ y ∈ (W 2).2, 1 ≤ y ∧ y ≤ (T.length : Int)
  kn : ∀ k t, T[k]? = some t → isEk W k = false → Kn K B k t
theorem On.win (h : On P w0 w p T K W Q B) : IdM.Win 20 (W 2).1 (W 2).2 := by
  obtain ⟨base, O, _, h2, _⟩ := h.st
  exact h2.winOf (by decide)
theorem On.fewK (h : On P w0 w p T K W Q B) : K.length ≤ T.length := by
  have h1 : (K.map fun x => x.1.2).Nodup := by
    have h2 := h.st.keys
    rw [List.nodup_iff_pairwise_ne, List.pairwise_map] at h2 ⊢
    refine h2.imp_of_mem (fun {a b} ha hb hab e => hab ?_)
    have h3 := h.keys a.1 a.2 ha
    have h4 := h.keys b.1 b.2 hb
    exact Prod.ext (h3.1.trans h4.1.symm) e
  have := few_of T.length _ h1 (fun x hx => by
    obtain ⟨y, hy, rfl⟩ := List.mem_map.1 hx
    have := h.keys y.1 y.2 hy
    exact this.2)
  simpa using this
theorem On.fewW (h : On P w0 w p T K W Q B) : (W 2).2.length ≤ T.length :=
  few_of _ _ (h.win.asc.imp fun hab e => by omega) h.ends
/-- What one more piece left of the shelf. -/
structure Aft (K K1 : List (Ky × Nat)) (B B1 : Nat → Bf) (id : Int) (u : Nat) : Prop where
  mem : (((2 : Int), id), u) ∈ K1
  only : ∀ v, (((2 : Int), id), v) ∈ K1 → v = u
  oth : ∀ k v, k ≠ ((2 : Int), id) → ((k, v) ∈ K1 ↔ (k, v) ∈ K)
  same : ∀ k v, k ≠ ((2 : Int), id) → (k, v) ∈ K → v ≠ u ∧ B1 v = B v
  nd : (K1.map Prod.fst).Nodup
  more : ∀ v x, (((2 : Int), id), v) ∈ K → IvM.Has (B v).l x → IvM.Has (B1 u).l x
theorem isEk_done (hw : IdM.Win 20 (W 2).1 (W 2).2) {k : Nat} (hk : (k : Int) + 1 ≤ 1152921504606846976) (hE : isEk W k = false) (hl : (W 2).2.length < 20) (j : Nat) :
    isEk (fun i => if i = 2 then (IdM.done 20 (W 2).1 (W 2).2 ((k : Int) + 1)).2 else W i) j = if j = k then true else isEk W j := by
  have hE' : ¬ ((k : Int) + 1 < (W 2).1 ∨ (k : Int) + 1 ∈ (W 2).2) := by
    unfold isEk IdM.isE at hE
    rw [decide_eq_false_iff_not] at hE
    intro h; exact hE ⟨by omega, h⟩
  have hno : (k : Int) + 1 ∉ (W 2).2 := fun h => hE' (Or.inr h)
  unfold isEk
  dsimp only
  rw [if_pos rfl, IdM.done_ref hw (by unfold IdM.top; omega) hE' (Or.inr hl), IdM.goes_isE (M := 0) (IdM.ins_asc hw.asc hno)]
  by_cases e : j = k
  · subst e
    rw [if_pos rfl, decide_eq_true_iff]
    exact ⟨by omega, Or.inr (IdM.ins_mem.2 (Or.inl rfl))⟩
  · rw [if_neg e]
    unfold IdM.isE
    congr 1
    rw [IdM.ins_mem]
    have : ((j : Int) + 1 = (k : Int) + 1) ↔ False := ⟨fun h => e (by omega), False.elim⟩
    rw [this, false_or]
theorem ends_done (hw : IdM.Win 20 (W 2).1 (W 2).2) {k : Nat} (hk : (k : Int) + 1 ≤ 1152921504606846976) (hE : isEk W k = false) (hl : (W 2).2.length < 20) (y : Int) (hy : y ∈ (IdM.done 20 (W 2).1 (W 2).2 ((k : Int) + 1)).2.2) : y = (k : Int) + 1 ∨ y ∈ (W 2).2 := by
  have hE' : ¬ ((k : Int) + 1 < (W 2).1 ∨ (k : Int) + 1 ∈ (W 2).2) := by
    unfold isEk IdM.isE at hE
    rw [decide_eq_false_iff_not] at hE
    intro h; exact hE ⟨by omega, h⟩
  rw [IdM.done_ref hw (by unfold IdM.top; omega) hE' (Or.inr hl), IdM.goes_drop] at hy
  exact IdM.ins_mem.1 (List.mem_of_mem_drop hy)
set_option maxHeartbeats 4000000 in
/-- What Data answers of a text, and Poll behind it. -/
theorem step_of (h : On P w0 w p T K W Q B) (hT8 : T.length ≤ 8) {k : Nat} {t : List UInt8} (hk : T[k]? = some t) (ht : t.length ≤ 500) (hE : isEk W k = false) {base : Nat} {O : Nat → Nat} (hb : ∀ i, P i → O i = 0 ∧ i < w0.heap.size) (hR : RcE w base O p 20 1000 K W [] Q B) (hkp : Kept (fun i => ¬ P i) w0 w) {off m u : Nat} {K1 : List (Ky × Nat)} {B1 : Nat → Bf}
    (ha : Aft K K1 B B1 ((k : Int) + 1) u) {e : Ending} {w' : World} (hd : DataE w base O p 20 1000 W [] Q 2 ((k : Int) + 1) t off m u K1 B1 e w') :
    ∃ (r : Int) (d : Bool), e = .returned (.tuple #[.int .i64 r, .bool d, .int .i64 0]) ∧
      ((∃ B2, On P w0 w' p T K1 W Q B2 ∧ (∃ x : Int, 0 ≤ x ∧ x < (t.length : Nat) ∧ ¬ IvM.Has (B2 u).l x) ∧ (∀ x, IvM.Has (B2 u).l x ↔ IvM.Has (B1 u).l x ∨ ((off : Int) ≤ x ∧ x < (off : Int) + (m : Nat))) ∧ (∀ v, v ≠ u → B2 v = B1 v)) ∨
       (∃ g a c R B2 Q2 W2, Sx P w0 w' p 20 1000 R W2 [(g, ⟨2, (k : Int) + 1, a, t.length, c⟩)] Q2 B2 ∧ Q2 g = t ∧ (∀ x : Int, 0 ≤ x → x < (t.length : Nat) → IvM.Has (B1 u).l x ∨ ((off : Int) ≤ x ∧ x < (off : Int) + (m : Nat))) ∧ (∀ j, isEk W2 j = if j = k then true else isEk W j) ∧ (∀ w2, Sx P w0 w2 p 20 1000 R W2 [] Q2 B2 → On P w0 w2 p T R W2 Q2 B2) ∧
          (∀ kk v, kk ≠ ((2 : Int), (k : Int) + 1) → ((kk, v) ∈ R ↔ (kk, v) ∈ K)) ∧ ∀ kk v, kk ≠ ((2 : Int), (k : Int) + 1) → (kk, v) ∈ K → B2 v = B v)) := by
  obtain ⟨O', l2, D2, ha2, hx, hfr, h6⟩ := hd
  have hkl : k < T.length := (List.getElem?_eq_some_iff.1 hk).1
  obtain ⟨hb7, hk7⟩ := off_next hb hkp hfr
  have hkeys : ∀ kk v, (kk, v) ∈ K1 → kk.1 = 2 ∧ 1 ≤ kk.2 ∧ kk.2 ≤ (T.length : Int) := by
    intro kk v hv
    by_cases e : kk = ((2 : Int), (k : Int) + 1)
    · subst e; exact ⟨rfl, by dsimp only; omega, by dsimp only; omega⟩
    · exact h.keys kk v ((ha.oth kk v e).1 hv)
  rcases h6 with ⟨⟨x, g0, g1, g2⟩, rfl, h7⟩ | ⟨hall, rfl, R, g, a, c, B', hK, hB, h7⟩
  · refine ⟨_, _, rfl, Or.inl ⟨_, ⟨⟨base, O', hb7, h7, hk7⟩, hkeys, h.ends, fun j tj hj hEj => ?_⟩, ⟨x, g0, g1, by rw [if_pos rfl]; exact g2⟩, fun x => by rw [if_pos rfl]; exact hx x, fun v hv => if_neg hv⟩⟩
    by_cases e : j = k
    · subst e
      rw [hk] at hj
      cases hj
      exact Or.inr ⟨u, ha.mem, by dsimp only; rw [if_pos rfl], by dsimp only; rw [if_pos rfl]; exact ha2, x, g0, g1, by dsimp only; rw [if_pos rfl]; exact g2⟩
    · have hne : ((2 : Int), (j : Int) + 1) ≠ ((2 : Int), (k : Int) + 1) := fun e2 => by injection e2 with _ e3; omega
      rcases h.kn j tj hj hEj with h8 | ⟨v, h8, h9, h10, h11⟩
      · exact Or.inl fun v hv => h8 v ((ha.oth _ v hne).1 hv)
      · obtain ⟨h12, h13⟩ := ha.same _ v hne h8
        exact Or.inr ⟨v, (ha.oth _ v hne).2 h8, by dsimp only; rw [if_neg h12, h13]; exact h9, by dsimp only; rw [if_neg h12, h13]; exact h10, by dsimp only; rw [if_neg h12, h13]; exact h11⟩
  · have hWl := h.fewW
    have hnd := (hK.map Prod.fst).nodup_iff.1 ha.nd
    rw [List.map_cons, List.nodup_cons] at hnd
    have hRo : ∀ kk v, kk ≠ ((2 : Int), (k : Int) + 1) → ((kk, v) ∈ R ↔ (kk, v) ∈ K) := by
      intro kk v hne
      rw [← ha.oth kk v hne, hK.mem_iff, List.mem_cons]
      constructor
      · exact Or.inr
      · rintro (e | e)
        · exact absurd (congrArg Prod.fst e) hne
        · exact e
    have hRn : ∀ v, ((((2 : Nat) : Int), (k : Int) + 1), v) ∉ R := fun v hv => hnd.1 (List.mem_map.2 ⟨_, hv, rfl⟩)
    have hBs : ∀ kk v, kk ≠ ((2 : Int), (k : Int) + 1) → (kk, v) ∈ K → B' v = B v := by
      intro kk v hne hv
      obtain ⟨h12, h13⟩ := ha.same kk v hne hv
      rw [hB v h12, h13]
    have hid := isEk_done h.win (k := k) (by omega) hE (by omega)
    refine ⟨_, _, rfl, Or.inr ⟨g, a, c, R, B', _, _, ⟨base, O', hb7, h7, hk7⟩, if_pos rfl, fun x h1 h2 => (hx x).1 (hall x h1 h2), hid, fun w2 h14 => ⟨h14, fun kk v hv => hkeys kk v (hK.mem_iff.2 (List.mem_cons_of_mem _ hv)), fun y hy => ?_, fun j tj hj hEj => ?_⟩, hRo, hBs⟩⟩
    · rw [if_pos rfl] at hy
      rcases ends_done h.win (k := k) (by omega) hE (by omega) y hy with rfl | hy
      · omega
      · exact h.ends y hy
    · rw [hid] at hEj
      by_cases e : j = k
      · rw [if_pos e] at hEj; cases hEj
      · rw [if_neg e] at hEj
        have hne : ((2 : Int), (j : Int) + 1) ≠ ((2 : Int), (k : Int) + 1) := fun e2 => by injection e2 with _ e3; omega
        rcases h.kn j tj hj hEj with h8 | ⟨v, h8, h9, h10, h11⟩
        · exact Or.inl fun v hv => h8 v ((hRo _ v hne).1 hv)
        · rw [← hBs _ v hne h8] at h9 h10 h11
          exact Or.inr ⟨v, (hRo _ v hne).2 h8, h9, h10, h11⟩
end Go.Proofs.YtjjamooihddkgaaGreat.Pk

/- One piece more; what is retired; what is asked behind it. Conditions: each theorem's own. -/
namespace Go.Proofs.YtjjamooihddkgaaGreat.Pk
open Go.RowKit Go.Deep Hp TbM TbN Po Go.Proofs.YtjjamooihddkgaaGreat.End
open Ph (ptr)
open Pl (Ms)
open Pr (RcE Bf Piece DataE)
open Rm (BufA Agree)
variable {w0 w w' : World} {p : Nat} {K R : List (Ky × Nat)} {W : Nat → Int × List Int} {L : List (Nat × Ms)} {Q : Nat → List UInt8} {B : Nat → Bf} {T : List (List UInt8)} {size m : Nat} {G : Nat → Nat} {P : Nat → Prop}
/-- A part of a text that was there before. -/
def Pv (P : Nat → Prop) (w : World) (v : Value) (t : List UInt8) (off m : Nat) : Prop :=
  off + m ≤ t.length ∧ ((m = 0 ∧ ∃ a c, v = .slice a 0 c) ∨ (0 < m ∧ ∃ bk o c, v = .slice (some ⟨bk, o, none⟩) m c ∧ Byt.Src w v ((t.drop off).take m) ∧ P bk ∧ c ≤ 9223372036854775807))
theorem Pv.slice {v : Value} {t : List UInt8} {off : Nat} (h : Pv P w v t off m) : ∃ a c, v = .slice a m c := by
  rcases h.2 with ⟨rfl, a, c, rfl⟩ | ⟨_, bk, o, c, rfl, _⟩ <;> exact ⟨_, _, rfl⟩
theorem Pv.piece {v : Value} {t : List UInt8} {off : Nat} {O : Nat → Nat} (h : Pv P w v t off m) (hb : ∀ i, P i → O i = 0 ∧ i < w0.heap.size) : Piece w O v t off m := by
  refine ⟨h.1, ?_⟩
  rcases h.2 with h | ⟨h1, bk, o, c, h2, h3, h4, h5⟩
  · exact Or.inl h
  · refine Or.inr ⟨h1, bk, o, c, h2, h3, (hb bk h4).1, h5⟩
/-- What came of one text. -/
def Tk (K : List (Ky × Nat)) (W : Nat → Int × List Int) (B : Nat → Bf) (nt size m k : Nat) (t : List UInt8) (g : Nat) : Prop :=
  (g = 1 ∧ isEk W k = true) ∨ (g = 0 ∧ isEk W k = false ∧ (t.length = 0 → m ≤ k) ∧ ∀ x : Nat, x < t.length → x / size * nt + k < m → ∃ u, (((2 : Int), (k : Int) + 1), u) ∈ K ∧ IvM.Has (B u).l (x : Int))
def Sw (P : Nat → Prop) (w0 w : World) (p : Nat) (T : List (List UInt8)) (size m : Nat) (G : Nat → Nat) : Prop :=
  ∃ K W Q B, On P w0 w p T K W Q B ∧ ∀ k t, T[k]? = some t → Tk K W B T.length size m k t (G k)
theorem Sw.old (h : Sw P w0 w p T size m G) (k : Kept (fun _ => False) w w') : Sw P w0 w' p T size m G := by
  obtain ⟨K, W, Q, B, h1, h2⟩ := h
  exact ⟨K, W, Q, B, ⟨h1.st.old k, h1.keys, h1.ends, h1.kn⟩, h2⟩
theorem Sw.kept (h : Sw P w0 w p T size m G) : Kept (fun i => ¬ P i) w0 w := by
  obtain ⟨K, W, Q, B, h1, h2⟩ := h
  exact h1.st.kept
theorem Sw.new (T : List (List UInt8)) (size : Nat) (w : World) : Calls Tryz.prog 26 #[.int .i64 20, .int .i64 1000] w fun e w' => ∃ p, e = .returned (.tuple #[ptr p, .int .i64 0]) ∧ Sw (fun i => i < w.heap.size) w w' p T size 0 (fun _ => 0) := by
  refine (Pr.newE (most := 20) (mx := 1000) (by decide) (by decide) (by decide) w).mono ?_
  rintro e w' ⟨b, O, rfl, h, k⟩
  refine ⟨b, rfl, [], _, _, _, ⟨⟨_, O, fun i hi => ⟨?_, hi⟩, h, k.mono (fun _ _ f => f.elim)⟩, fun _ _ h => by simp at h, fun _ h => by simp at h, fun k t _ _ => Or.inl (fun u hu => by simp at hu)⟩, fun k t hk => Or.inr ⟨rfl, ?_, fun _ => Nat.zero_le _, fun x _ h => by omega⟩⟩
  · rcases Nat.eq_zero_or_pos (O i) with e | e
    · exact e
    · have := (h.ow i (by omega)).1; omega
  · simp [isEk, IdM.isE]; omega
theorem Sw.more (h : Sw P w0 w p T size m G) (o : Obj) : Sw (fun i => P i ∨ i = w.heap.size) (w.alloc o) (w.alloc o) p T size m G := by
  obtain ⟨K, W, Q, B, h1, h2⟩ := h
  exact ⟨K, W, Q, B, ⟨h1.st.more o, h1.keys, h1.ends, h1.kn⟩, h2⟩
theorem Sw.write (h : Sw P w0 w p T size m G) {g : Nat} (hg : P g) (o : Nat) (v : Value) : Sw P (w.setCell ⟨g, o, none⟩ v) (w.setCell ⟨g, o, none⟩ v) p T size m G := by
  obtain ⟨K, W, Q, B, h1, h2⟩ := h
  exact ⟨K, W, Q, B, ⟨h1.st.write hg o v, h1.keys, h1.ends, h1.kn⟩, h2⟩
theorem Sw.skip (h : Sw P w0 w p T size m G) (m' : Nat) (hz : ∀ k t, T[k]? = some t → t.length = 0 → m ≤ k → m' ≤ k) (hc : ∀ k t (x : Nat), T[k]? = some t → x < t.length → x / size * T.length + k < m' → x / size * T.length + k < m) : Sw P w0 w p T size m' G := by
  obtain ⟨K, W, Q, B, h1, h2⟩ := h
  refine ⟨K, W, Q, B, h1, fun k t hk => ?_⟩
  rcases h2 k t hk with h3 | ⟨h3, h4, h5, h6⟩
  · exact Or.inl h3
  · exact Or.inr ⟨h3, h4, fun e => hz k t hk e (h5 e), fun x hx hm => h6 x hx (hc k t x hk hx hm)⟩
theorem val_one : ∀ {K : List (Ky × Nat)}, (K.map Prod.snd).Nodup → ∀ {k k' : Ky} {u : Nat}, (k, u) ∈ K → (k', u) ∈ K → k = k' := by
  intro K
  induction K with
  | nil => intro _ k k' u h; simp at h
  | cons x K ih =>
    intro hn k k' u h1 h2
    rw [List.map_cons, List.nodup_cons] at hn
    rcases List.mem_cons.1 h1 with e1 | h1
    · rcases List.mem_cons.1 h2 with e2 | h2
      · rw [← e1] at e2; exact (congrArg Prod.fst e2).symm
      · exact absurd (List.mem_map.2 ⟨_, h2, by rw [← e1]⟩) hn.1
    · rcases List.mem_cons.1 h2 with e2 | h2
      · exact absurd (List.mem_map.2 ⟨_, h1, by rw [← e2]⟩) hn.1
      · exact ih hn.2 h1 h2
theorem aft_known (h : On P w0 w p T K W Q B) {id : Int} {u : Nat} (hu : (((2 : Int), id), u) ∈ K) : Aft K K B B id u := by
  have one : ∀ v, (((2 : Int), id), v) ∈ K → v = u := fun v hv => Ph.key_one h.st.keys hv hu
  refine ⟨hu, one, fun _ _ _ => Iff.rfl, fun k v hne hv => ⟨fun e => ?_, rfl⟩, h.st.keys, fun v x hv hx => by rw [one v hv] at hx; exact hx⟩
  subst e
  exact hne (val_one h.st.nu hv hu)
theorem aft_fresh (h : On P w0 w p T K W Q B) {id : Int} {u : Nat} {b : Bf} (hno : ∀ v, (((2 : Int), id), v) ∉ K) (hu : u ∉ K.map Prod.snd) : Aft K ((((2 : Int), id), u) :: K) B (fun j => if j = u then b else B j) id u := by
  have hne : ∀ k v, (k, v) ∈ K → v ≠ u := fun k v hv e => hu (e ▸ List.mem_map.2 ⟨_, hv, rfl⟩)
  refine ⟨List.mem_cons_self .., fun v hv => ?_, fun k v hk => ?_, fun k v hk hv => ⟨hne k v hv, if_neg (hne k v hv)⟩, ?_, fun v x hv _ => absurd hv (hno v)⟩
  · rcases List.mem_cons.1 hv with e | hv
    · injection e
    · exact absurd hv (hno v)
  · rw [List.mem_cons]
    constructor
    · rintro (e | e)
      · exact absurd (congrArg Prod.fst e) hk
      · exact e
    · exact Or.inr
  · rw [List.map_cons, List.nodup_cons]
    refine ⟨fun hm => ?_, h.st.keys⟩
    obtain ⟨⟨k, v⟩, hv, e⟩ := List.mem_map.1 hm
    dsimp only at e
    subst e
    exact hno v hv
set_option maxHeartbeats 4000000 in
/-- A piece comes of one that has not ended. -/
theorem On.step (h : On P w0 w p T K W Q B) (hT8 : T.length ≤ 8) {k : Nat} {t : List UInt8} (hk : T[k]? = some t) (ht : t.length ≤ 500) (hE : isEk W k = false) {off m : Nat} {v : Value} (hv : Pv P w v t off m) :
    Calls Tryz.prog 28 #[ptr p, .int .i64 2, .int .u64 ((k : Int) + 1), .int .i64 (t.length : Nat), .int .i64 (off : Int), v] w fun e w' =>
      ∃ (u : Nat) (K1 : List (Ky × Nat)) (B1 : Nat → Bf), Aft K K1 B B1 ((k : Int) + 1) u ∧ ((K1 = K ∧ B1 = B) ∨ (B1 u).l = []) ∧ ∃ (base : Nat) (O : Nat → Nat), (∀ i, P i → O i = 0 ∧ i < w0.heap.size) ∧ RcE w base O p 20 1000 K W [] Q B ∧ DataE w base O p 20 1000 W [] Q 2 ((k : Int) + 1) t off m u K1 B1 e w' := by
  obtain ⟨base, O, hb, hR, hkp⟩ := h.st
  have hp := hv.piece hb
  have hkl : k < T.length := (List.getElem?_eq_some_iff.1 hk).1
  have hfK := h.fewK
  have hfW := h.fewW
  rcases h.kn k t hk hE with h8 | ⟨u, h8, h9, h10, h11⟩
  · refine (Pr.freshE hR (i := 2) (by decide) (id := (k : Int) + 1) (by omega) hp (by omega) hE (by simp) h8 (by omega) (by omega)).mono ?_
    rintro e w' ⟨u, hu, hd⟩
    exact ⟨u, _, _, aft_fresh h h8 hu, Or.inr (by rw [if_pos rfl]), base, O, hb, hR, hd⟩
  · refine (Pr.knownE hR (i := 2) (by decide) (id := (k : Int) + 1) (by omega) hp (by omega) hE (by simp) h8 h9 h10).mono ?_
    intro e w' hd
    exact ⟨u, K, B, aft_known h h8, Or.inl ⟨rfl, rfl⟩, base, O, hb, hR, hd⟩
theorem On.ended (h : On P w0 w p T K W Q B) (hT8 : T.length ≤ 8) {k : Nat} {t : List UInt8} (hk : T[k]? = some t) (ht : t.length ≤ 500) (hE : isEk W k = true) {off m : Nat} {v : Value} (hv : Pv P w v t off m) :
    Calls Tryz.prog 28 #[ptr p, .int .i64 2, .int .u64 ((k : Int) + 1), .int .i64 (t.length : Nat), .int .i64 (off : Int), v] w fun e w' => e = .returned (.tuple #[.int .i64 0, .bool true, .int .i64 0]) ∧ w = w' := by
  obtain ⟨base, O, hb, hR, hkp⟩ := h.st
  have hkl : k < T.length := (List.getElem?_eq_some_iff.1 hk).1
  obtain ⟨a, c, rfl⟩ := hv.slice
  exact Pr.endedE hR (i := 2) (by decide) (id := (k : Int) + 1) (by omega) hv.1 (by omega) hE
theorem On.poll (h : On P w0 w p T K W Q B) : Calls Tryz.prog 29 #[ptr p] w fun e w' => e = .returned (.tuple #[.agg #[.int .i64 0, .int .u64 0, .slice none 0 0], .bool false]) ∧ Kept (fun _ => False) w w' := by
  obtain ⟨base, O, hb, hR, hkp⟩ := h.st
  exact Pr.pollN hR
theorem On.old (h : On P w0 w p T K W Q B) (k : Kept (fun _ => False) w w') : On P w0 w' p T K W Q B := ⟨h.st.old k, h.keys, h.ends, h.kn⟩
set_option maxHeartbeats 4000000 in
theorem Sw.step (h : Sw P w0 w p T size m G) (hT8 : T.length ≤ 8) {k : Nat} {t : List UInt8} (hk : T[k]? = some t) (ht : t.length ≤ 500) {off mm : Nat} {v : Value} (hv : Pv P w v t off mm) (m' : Nat)
    (hz : ∀ j tj, T[j]? = some tj → j ≠ k → tj.length = 0 → m ≤ j → m' ≤ j) (hc : ∀ j tj (x : Nat), T[j]? = some tj → x < tj.length → x / size * T.length + j < m' → x / size * T.length + j < m ∨ (j = k ∧ off ≤ x ∧ x < off + mm)) :
    Calls Tryz.prog 28 #[ptr p, .int .i64 2, .int .u64 ((k : Int) + 1), .int .i64 (t.length : Nat), .int .i64 (off : Int), v] w fun e w' =>
      (∃ (r : Int) (d : Bool), e = .returned (.tuple #[.int .i64 r, .bool d, .int .i64 0])) ∧ Kept (fun i => ¬ P i) w0 w' ∧ Calls Tryz.prog 29 #[ptr p] w' fun e w2 =>
        (e = .returned (.tuple #[.agg #[.int .i64 0, .int .u64 0, .slice none 0 0], .bool false]) ∧ Sw P w0 w2 p T size m' G) ∨
        (∃ a c, e = .returned (.tuple #[.agg #[.int .i64 2, .int .u64 ((k : Int) + 1), .slice a t.length c], .bool true]) ∧ Byt.Src w2 (.slice a t.length c) t ∧ G k = 0 ∧ Sw P w0 w2 p T size m' (fun j => if j = k then 1 else G j)) := by
  obtain ⟨K, W, Q, B, h1, h2⟩ := h
  rcases h2 k t hk with ⟨h3, h4⟩ | ⟨h3, h4, h5, h6⟩
  · refine (h1.ended hT8 hk ht h4 hv).mono ?_
    rintro e w' ⟨rfl, rfl⟩
    refine ⟨⟨_, _, rfl⟩, h1.st.kept, h1.poll.mono ?_⟩
    rintro e w2 ⟨rfl, k2⟩
    refine Or.inl ⟨rfl, K, W, Q, B, h1.old k2, fun j tj hj => ?_⟩
    rcases h2 j tj hj with h7 | ⟨h7, h8, h9, h10⟩
    · exact Or.inl h7
    · have hne : j ≠ k := fun e => by rw [e, h3] at h7; omega
      refine Or.inr ⟨h7, h8, fun e => hz j tj hj hne e (h9 e), fun x hx hm => ?_⟩
      rcases hc j tj x hj hx hm with h11 | ⟨h11, _⟩
      · exact h10 x hx h11
      · exact absurd h11 hne
  · refine (h1.step hT8 hk ht h4 hv).mono ?_
    rintro e w' ⟨u, K1, B1, hA, _, base, O, hb, hR, hd⟩
    have hkk : Kept (fun i => ¬ P i) w0 w' := by
      obtain ⟨_, _, _, _, h⟩ := h1.st
      obtain ⟨O', l2, D2, ha2, hx, hfr, h6⟩ := id hd
      exact (off_next hb h hfr).2
    obtain ⟨r, d, rfl, h7⟩ := step_of h1 hT8 hk ht h4 hb hR (by obtain ⟨_, _, _, _, h⟩ := h1.st; exact h) hA hd
    refine ⟨⟨_, _, rfl⟩, hkk, ?_⟩
    rcases h7 with ⟨B2, h8, ⟨x, h9, h10, h11⟩, h12, h13⟩ | ⟨g, a, c, R, B2, Q2, W2, h8, h9, _, h10, h11, h12, h13⟩
    · refine h8.poll.mono ?_
      rintro e w2 ⟨rfl, k2⟩
      refine Or.inl ⟨rfl, K1, W, Q, B2, h8.old k2, fun j tj hj => ?_⟩
      by_cases e : j = k
      · subst e
        rw [hk] at hj
        cases hj
        refine Or.inr ⟨h3, h4, fun e => by rw [e] at h10; omega, fun x hx hm => ⟨u, hA.mem, (h12 _).2 ?_⟩⟩
        rcases hc j t x hk hx hm with h14 | ⟨_, h14, h15⟩
        · obtain ⟨v2, h16, h17⟩ := h6 x hx h14
          exact Or.inl (hA.more v2 _ h16 h17)
        · exact Or.inr ⟨by omega, by omega⟩
      · have hne : ((2 : Int), (j : Int) + 1) ≠ ((2 : Int), (k : Int) + 1) := fun e2 => by injection e2 with _ e3; omega
        rcases h2 j tj hj with h14 | ⟨h14, h15, h16, h17⟩
        · exact Or.inl h14
        · refine Or.inr ⟨h14, h15, fun e2 => hz j tj hj e e2 (h16 e2), fun x hx hm => ?_⟩
          rcases hc j tj x hj hx hm with h18 | ⟨h18, _⟩
          · obtain ⟨v2, h19, h20⟩ := h17 x hx h18
            obtain ⟨h21, h22⟩ := hA.same _ v2 hne h19
            exact ⟨v2, (hA.oth _ v2 hne).2 h19, by rw [h13 v2 h21, h22]; exact h20⟩
          · exact absurd h18 e
    · refine (Sx.poll h8 (by simp)).mono ?_
      rintro e w2 ⟨rfl, h14, h15⟩
      rw [h9] at h15
      refine Or.inr ⟨a, c, rfl, h15, h3, R, W2, Q2, B2, h11 w2 h14, fun j tj hj => ?_⟩
      by_cases e : j = k
      · subst e
        exact Or.inl ⟨if_pos rfl, by rw [h10, if_pos rfl]⟩
      · have hne : ((2 : Int), (j : Int) + 1) ≠ ((2 : Int), (k : Int) + 1) := fun e2 => by injection e2 with _ e3; omega
        unfold Tk
        dsimp only
        rw [h10, if_neg e, if_neg e]
        rcases h2 j tj hj with h16 | ⟨h16, h17, h18, h19⟩
        · exact Or.inl h16
        · refine Or.inr ⟨h16, h17, fun e2 => hz j tj hj e e2 (h18 e2), fun x hx hm => ?_⟩
          rcases hc j tj x hj hx hm with h20 | ⟨h20, _⟩
          · obtain ⟨v2, h21, h22⟩ := h19 x hx h20
            exact ⟨v2, (h12 _ v2 hne).2 h21, by rw [h13 _ v2 hne h21]; exact h22⟩
          · exact absurd h20 e
theorem Sw.got (h : Sw P w0 w p T size 600 G) (hT8 : T.length ≤ 8) {k : Nat} {t : List UInt8} (hk : T[k]? = some t) (hs : 1 ≤ size) : G k ≤ 1 ∧ (G k = 0 → ¬ t.length / size < 600 / T.length) := by
  obtain ⟨K, W, Q, B, h1, h2⟩ := h
  have hkl : k < T.length := (List.getElem?_eq_some_iff.1 hk).1
  rcases h2 k t hk with ⟨h3, h4⟩ | ⟨h3, h4, h5, h6⟩
  · exact ⟨by omega, fun e => by omega⟩
  · refine ⟨by omega, fun _ hlt => ?_⟩
    have hpos : 0 < t.length := by
      rcases Nat.eq_zero_or_pos t.length with e | e
      · have := h5 e; omega
      · exact e
    have cov : ∀ x : Nat, x < t.length → ∃ u, (((2 : Int), (k : Int) + 1), u) ∈ K ∧ IvM.Has (B u).l (x : Int) := by
      intro x hx
      refine h6 x hx ?_
      have h7 : x / size ≤ t.length / size := Nat.div_le_div_right (by omega)
      have h8 : x / size + 1 ≤ 600 / T.length := by omega
      have h9 : (x / size + 1) * T.length ≤ 600 := Nat.le_trans (Nat.mul_le_mul_right _ h8) (Nat.div_mul_le_self 600 T.length)
      rw [Nat.add_mul] at h9
      omega
    rcases h1.kn k t hk h4 with h7 | ⟨u, h7, _, _, x, h8, h9, h10⟩
    · obtain ⟨u, h8, _⟩ := cov 0 hpos
      exact h7 u h8
    · obtain ⟨u2, h11, h12⟩ := cov x.toNat (by omega)
      rw [show ((x.toNat : Nat) : Int) = x by omega, Ph.key_one h1.st.keys h11 h7] at h12
      exact h10 h12
/-- Behind Retire: what was told has ended. -/
def Sf (P : Nat → Prop) (w0 w : World) (p : Nat) (T : List (List UInt8)) (G : Nat → Nat) : Prop :=
  ∃ K W Q B, On P w0 w p T K W Q B ∧ ∀ k t, T[k]? = some t → (G k = 1 → isEk W k = true) ∧ (t.length = 0 → isEk W k = true)
theorem Sf.old (h : Sf P w0 w p T G) (k : Kept (fun _ => False) w w') : Sf P w0 w' p T G := by
  obtain ⟨K, W, Q, B, h1, h2⟩ := h
  exact ⟨K, W, Q, B, h1.old k, h2⟩
theorem Sf.poll (h : Sf P w0 w p T G) : Calls Tryz.prog 29 #[ptr p] w fun e w' => e = .returned (.tuple #[.agg #[.int .i64 0, .int .u64 0, .slice none 0 0], .bool false]) ∧ Kept (fun i => ¬ P i) w0 w' := by
  obtain ⟨K, W, Q, B, h1, h2⟩ := h
  refine h1.poll.mono ?_
  rintro e w' ⟨rfl, k⟩
  exact ⟨rfl, h1.st.kept.trans' k (fun _ _ f => f.elim)⟩
theorem Sw.retire (h : Sw P w0 w p T size m G) (hm : ∀ k, k < T.length → k < m) (below : Int) : Calls Tryz.prog 30 #[ptr p, .int .i64 2, .int .u64 below] w fun e w' => (∃ r, e = .returned (.int .i64 r)) ∧ Sf P w0 w' p T G := by
  obtain ⟨K, W, Q, B, h1, h2⟩ := h
  refine (h1.st.retire (i := 2) (by decide) below).mono ?_
  rintro e w' ⟨r, R, rfl, hL, h4⟩
  have hkeep : ∀ k, isEk W k = true → isEk (fun j => if j = 2 then (IdM.retire (W 2).1 (W 2).2 below).2 else W j) k = true := by
    intro k hk
    unfold isEk
    dsimp only
    rw [if_pos rfl]
    exact IdM.retire_keeps h1.win below hk
  refine ⟨⟨_, rfl⟩, R, _, Q, B, ⟨h4, fun kk v hv => h1.keys kk v (hL _ hv), fun y hy => ?_, fun k t hk hE => ?_⟩, fun k t hk => ?_⟩
  · rw [if_pos rfl, IdM.retire_ref h1.win, IdM.goes_drop] at hy
    exact h1.ends y (List.mem_of_mem_drop hy)
  · have hE2 : isEk W k = false := by
      cases e : isEk W k with
      | false => rfl
      | true => rw [hkeep k e] at hE; cases hE
    rcases h1.kn k t hk hE2 with h5 | ⟨u, h5, h6⟩
    · exact Or.inl fun u hu => h5 u (hL _ hu)
    · by_cases hR : ((((2 : Int), (k : Int) + 1), u)) ∈ R
      · exact Or.inr ⟨u, hR, h6⟩
      · refine Or.inl fun v hv => ?_
        have h7 := (hL _ hv)
        rw [Ph.key_one h1.st.keys h7 h5] at hv
        exact hR hv
  · have hkl : k < T.length := (List.getElem?_eq_some_iff.1 hk).1
    rcases h2 k t hk with ⟨h3, h4⟩ | ⟨h3, h4, h5, h6⟩
    · exact ⟨fun _ => hkeep k h4, fun _ => hkeep k h4⟩
    · exact ⟨fun e => by omega, fun e => by have := h5 e; have := hm k hkl; omega⟩
set_option maxHeartbeats 4000000 in
theorem Sf.ask (h : Sf P w0 w p T G) (hT8 : T.length ≤ 8) {k : Nat} {t : List UInt8} (hk : T[k]? = some t) (ht : t.length ≤ 500) :
    Calls Tryz.prog 28 #[ptr p, .int .i64 2, .int .u64 ((k : Int) + 1), .int .i64 (t.length : Nat), .int .i64 0, .slice none 0 0] w fun e w' =>
      (∃ (r : Int) (d : Bool), e = .returned (.tuple #[.int .i64 r, .bool d, .int .i64 0]) ∧ (G k = 1 → d = true)) ∧ Sf P w0 w' p T G := by
  obtain ⟨K, W, Q, B, h1, h2⟩ := h
  have hv : Pv P w (.slice none 0 0) t 0 0 := ⟨by omega, Or.inl ⟨rfl, _, _, rfl⟩⟩
  cases hE : isEk W k with
  | true =>
    refine (h1.ended hT8 hk ht hE hv).mono ?_
    rintro e w' ⟨rfl, rfl⟩
    exact ⟨⟨_, _, rfl, fun _ => rfl⟩, K, W, Q, B, h1, h2⟩
  | false =>
    have h3 := h2 k t hk
    have hpos : 0 < t.length := by
      rcases Nat.eq_zero_or_pos t.length with e | e
      · have := h3.2 e; rw [hE] at this; cases this
      · exact e
    have hkn := h1.kn k t hk hE
    refine (h1.step hT8 hk ht hE hv).mono ?_
    rintro e w' ⟨u, K1, B1, hA, hKB, base, O, hb, hR, hd⟩
    obtain ⟨r, d, rfl, h7⟩ := step_of h1 hT8 hk ht hE hb hR (by obtain ⟨_, _, _, _, h⟩ := h1.st; exact h) hA hd
    refine ⟨⟨_, _, rfl, fun e => by have := h3.1 e; rw [hE] at this; cases this⟩, ?_⟩
    rcases h7 with ⟨B2, h8, _⟩ | ⟨g, a, c, R, B2, Q2, W2, h8, h9, h10, _⟩
    · exact ⟨K1, W, Q, B2, h8, h2⟩
    · exfalso
      have hall : ∀ x : Int, 0 ≤ x → x < (t.length : Nat) → IvM.Has (B1 u).l x := fun x h1 h2 => by
        rcases h10 x h1 h2 with h | ⟨h, h'⟩
        · exact h
        · simp at h'; omega
      rcases hKB with ⟨rfl, rfl⟩ | hnil
      · rcases hkn with h11 | ⟨u2, h11, _, _, x, h12, h13, h14⟩
        · exact h11 u hA.mem
        · rw [Ph.key_one h1.st.keys h11 hA.mem] at h14
          exact h14 (hall x h12 h13)
      · have := hall 0 (by omega) (by omega)
        rw [hnil] at this
        simp [IvM.Has] at this
end Go.Proofs.YtjjamooihddkgaaGreat.Pk

/- mizzenalike.Sum of any number and two more. Conditions: the theorem's own. -/
namespace Go.Proofs.YtjjamooihddkgaaGreat.Pk
open Go.RowKit Hp
attribute [local go_sem ↓] Go.wp_at_zero Go.wp_at_succ
set_option maxHeartbeats 4000000 in
theorem sum_any (n x : Int) (g : Nat) (w : World) (hB : Blk w g [.int .i64 x, .int .i64 1] 3) (h0 : 0 ≤ n) (hn : n ≤ 1099511627776) (hx : 0 ≤ x) (hx2 : x ≤ 9223372036854775807) :
    Calls Tryz.prog 8 #[.int .i64 n, .slice (some ⟨g, 0, none⟩) 2 2] w fun e w' => (∃ r : Int, e = .returned (.int .i64 r) ∧ 0 ≤ r ∧ r ≤ 1099511627776 ∧ (n + x + 1 ≤ 1000 → r = n + x + 1) ∧ (1000 < n + x + 1 → 1000 < r)) ∧ w = w' := by
  have c0 := hB.cell (o := 0) rfl
  have c1 := hB.cell (o := 1) rfl
  clear hB
  go_enter Tryz.func8, Tryz.ntmps8
  go_wp2_with fail
  go_loopg [0, 5] 2 (fun mm s0 s5 wr => w = wr ∧ ((Hid (mm = 2) ∧ s0 = .int .i64 n ∧ s5 = .int .i64 0) ∨ (Hid (mm = 1) ∧ s0 = .int .i64 (n + x) ∧ s5 = .int .i64 1 ∧ n + x ≤ 1099511627776) ∨ (Hid (mm = 0) ∧ s0 = .int .i64 (n + x + 1) ∧ s5 = .int .i64 2 ∧ n + x + 1 ≤ 1099511627776)))
  case atStart => exact ⟨rfl, Or.inl ⟨Lib.hid rfl, rfl, rfl⟩⟩
  case round =>
    obtain ⟨rfl, ⟨hm, rfl, rfl⟩ | ⟨hm, rfl, rfl, hs⟩ | ⟨hm, rfl, rfl, hs⟩⟩ := hrel
    · have k1 : decide ((1099511627776 : Int) < n) = false := by rw [decide_eq_false_iff_not]; omega
      have k2 : IntKind.i64.wrap (1099511627776 - n) = 1099511627776 - n := by rw [IntKind.wrap_i64]; omega
      by_cases hb : 1099511627776 - n < x
      · go_wp2_with fail
        go_ret
        exact ⟨⟨_, rfl, by omega, by omega, fun h => by omega, fun h => by omega⟩, rfl⟩
      · have hb2 : decide (1099511627776 - n < x) = false := by rw [decide_eq_false_iff_not]; omega
        have k3 : IntKind.i64.wrap (n + x) = n + x := by rw [IntKind.wrap_i64]; omega
        go_wp2_with fail
        go_roundg 1
        case measure => have := hm.out; omega
        case rel => exact ⟨rfl, Or.inr (Or.inl ⟨Lib.hid rfl, by first | rfl | trivial, rfl, by omega⟩)⟩
    · have k1 : decide ((1099511627776 : Int) < n + x) = false := by rw [decide_eq_false_iff_not]; omega
      have k2 : IntKind.i64.wrap (1099511627776 - (n + x)) = 1099511627776 - (n + x) := by rw [IntKind.wrap_i64]; omega
      by_cases hb : 1099511627776 - (n + x) < 1
      · go_wp2_with fail
        go_ret
        exact ⟨⟨_, rfl, by omega, by omega, fun h => by omega, fun h => by omega⟩, rfl⟩
      · have hb2 : decide (1099511627776 - (n + x) < 1) = false := by rw [decide_eq_false_iff_not]; omega
        have k3 : IntKind.i64.wrap (n + x + 1) = n + x + 1 := by rw [IntKind.wrap_i64]; omega
        go_wp2_with fail
        go_roundg 0
        case measure => have := hm.out; omega
        case rel => exact ⟨rfl, Or.inr (Or.inr ⟨Lib.hid rfl, by first | rfl | trivial, rfl, by omega⟩)⟩
    · go_wp2_with fail
      go_ret
      exact ⟨⟨_, rfl, by omega, by omega, fun h => rfl, fun h => by omega⟩, rfl⟩
end Go.Proofs.YtjjamooihddkgaaGreat.Pk

/- An argument of texts ([][]byte): opened, read. Conditions: each theorem's own. -/
namespace Go.Proofs.YtjjamooihddkgaaGreat.Opn
open Go.ChangeShapes Go.WideShapes Go.RowKit Go.Deep Hp Go.Proofs.YtjjamooihddkgaaGreat.End Byt
set_option maxRecDepth 100000 in
theorem text_cell {H : Type} {enc : TypeId × Value → H} {W : World} {n : Nat} {v : Value} {y : DataW H × List MemPlace}
    (hf : DataW.trod enc Tryz.prog W 0 (fun _ => true) true n 25 [v] = some y) : ∃ s cap l, v = .slice s (List.length l) cap ∧ Byts W s cap l := by
  rcases open_ints Tryz.underlying25 Tryz.underlying5 (by kernel_rfl) hf with ⟨hcs, hx⟩ | ⟨a', len', cap', zs, hcs, _, hl, hm, hz, hx, hcell, hwz⟩
  · simp at hcs
    subst hcs
    exact ⟨none, 0, [], rfl, ⟨none, 0, rfl, Nat.le_refl _, Or.inl rfl, fun _ => rfl⟩, by omega⟩
  · simp at hcs
    subst hcs
    simp only [if_true] at hz
    unfold maxLen at hm
    have hlen : ((zs.take len').map fun n => UInt8.ofNat n.toNat).length = len' := by rw [List.length_map, List.length_take]; omega
    refine ⟨some a', cap', (zs.take len').map fun n => UInt8.ofNat n.toNat, by rw [hlen], ⟨_, _, rfl, by omega, ?_, fun h => by cases h⟩, by omega⟩
    by_cases h0 : len' = 0
    · left; rw [h0]; rfl
    · right
      obtain ⟨b, off, rfl, hc⟩ := ints_at hcell (by omega)
      refine ⟨b, off, rfl, World.block_lt_of_cell? W _ (hc 0 (by omega)), fun j hj => ?_⟩
      rw [hlen] at hj
      rw [hc j (by omega)]
      have hb := range_u8 hwz j
      have e : zs.getD j 0 = zs[j]'(by omega) := by simp [List.getD, List.getElem?_eq_getElem (show j < zs.length by omega)]
      rw [e]
      rw [List.getD_eq_getElem?_getD] at e
      rw [e] at hb
      unfold Byt.bv
      simp only [List.getElem_map, List.getElem_take, UInt8.toNat_ofNat']
      congr 2
      omega
/-- A slice of texts that was there at the call. -/
def TxIn (w : World) (s : Option Addr) (cap : Nat) (T : List (List UInt8)) : Prop :=
  T.length ≤ cap ∧ cap ≤ 9223372036854775807 ∧
  (T = [] ∨ ∃ b off, s = some ⟨b, off, none⟩ ∧ b < w.heap.size ∧ ∀ i t, T[i]? = some t → ∃ a c, w.cell? ⟨b, off + i, none⟩ = some (.slice a t.length c) ∧ Byts w a c t)
set_option maxRecDepth 100000 in
set_option maxHeartbeats 4000000 in
theorem texts_of {H : Type} {enc : TypeId × Value → H} {W : World} {base : Nat} {v : Value} {d : DataW H} {p : List MemPlace}
    (hv : Value.okWide Tryz.prog W .any base 61 v) (h : DataW.Trod enc Tryz.prog W 0 (fun _ => true) true 61 v d p) : ∃ s cap T, v = .slice s (List.length T) cap ∧ TxIn W s cap T := by
  obtain ⟨a, len, cap, rfl⟩ := okWide_slice Tryz.underlying61 hv
  obtain ⟨_, hf⟩ := h
  have hC : Tryz.prog.cellsOf 25 = 1 := by kernel_rfl
  rcases open_slice Tryz.underlying61 hf with ⟨hcs, hx⟩ | ⟨a', len', cap', m, n, D, Pl, hcs, _, hl, _, hm, hm2, hi⟩
  · simp [Value.cells] at hcs
    obtain ⟨rfl, rfl, rfl⟩ := hcs
    exact ⟨none, 0, [], rfl, Nat.le_refl _, by omega, Or.inl rfl⟩
  · simp [Value.cells] at hcs
    obtain ⟨rfl, rfl, rfl⟩ := hcs
    simp only [if_true] at hm
    have each : ∀ i, i < len → ∃ t : List UInt8, ∃ s c, W.cell? (a'.add i) = some (.slice s t.length c) ∧ Byts W s c t := by
      intro i hil
      obtain ⟨cs', hc, ht'⟩ := hi i (by omega)
      rw [hC] at hc
      obtain ⟨_, hcl, hat⟩ := World.cells?_some hc
      obtain ⟨v, rfl⟩ : ∃ v, cs' = [v] := by
        rcases cs' with _ | ⟨v, _ | ⟨v2, l⟩⟩ <;> first | exact ⟨_, rfl⟩ | (simp at hcl)
      obtain ⟨s, c, l, rfl, hB⟩ := text_cell ht'
      refine ⟨l, s, c, ?_, hB⟩
      have := hat 0 (by simp)
      rw [Nat.mul_one] at this
      simpa [Addr.add] using this
    have ex : ∃ Z : Nat → List UInt8, ∀ i, i < len → ∃ s c, W.cell? (a'.add i) = some (.slice s (Z i).length c) ∧ Byts W s c (Z i) := by
      classical
      exact ⟨fun i => if h : i < len then (each i h).choose else [], fun i h => by simp only [dif_pos h]; exact (each i h).choose_spec⟩
    obtain ⟨Z, hZ⟩ := ex
    have hlen : ((List.range len).map Z).length = len := by simp
    refine ⟨some a', cap, (List.range len).map Z, by rw [hlen], by omega, ?_, ?_⟩
    · unfold maxLen at *; omega
    · by_cases hz : len = 0
      · left; rw [hz]; rfl
      · right
        have hp : 0 < len := by omega
        obtain ⟨s0, q0, c0, _⟩ := hZ 0 hp
        obtain ⟨b, off, rfl⟩ : ∃ b off, a' = ⟨b, off, none⟩ := by
          obtain ⟨b, off, mm⟩ := a'
          have hspot : mm = none := by simpa [Addr.add] using World.cell?_spot c0
          subst hspot
          exact ⟨b, off, rfl⟩
        refine ⟨b, off, rfl, ?_, fun i t hit => ?_⟩
        · rw [Go.WideShapes.add_plain] at c0
          exact World.block_lt_of_cell? W _ c0
        · have hil : i < len := by have := (List.getElem?_eq_some_iff.1 hit).1; rwa [hlen] at this
          rw [List.getElem?_map, List.getElem?_range hil] at hit
          obtain rfl : Z i = t := Option.some.inj hit
          obtain ⟨s, c, h1, h2⟩ := hZ i hil
          rw [Go.WideShapes.add_plain] at h1
          exact ⟨s, c, h1, h2⟩
theorem TxIn.at {w w' : World} {s : Option Addr} {cap : Nat} {T : List (List UInt8)} (h : TxIn w s cap T) (k : Old w w') {i : Nat} {t : List UInt8} (hi : T[i]? = some t) :
    ∃ b off a c, s = some ⟨b, off, none⟩ ∧ w'.cell? ⟨b, off + i, none⟩ = some (.slice a t.length c) ∧ Byts w a c t := by
  rcases h.2.2 with rfl | ⟨b, off, rfl, hb, hc⟩
  · simp at hi
  · obtain ⟨a, c, h1, h2⟩ := hc i t hi
    refine ⟨b, off, a, c, rfl, ?_, h2⟩
    rw [← h1]
    exact Byt.keptAt k hb (fun f => f) _
theorem TxIn.lt {w : World} {b o cap : Nat} {T : List (List UInt8)} (h : TxIn w (some ⟨b, o, none⟩) cap T) {i : Nat} {t : List UInt8} (hi : T[i]? = some t) : b < w.heap.size := by
  rcases h.2.2 with rfl | ⟨b', off', e, hb, _⟩
  · simp at hi
  · cases e; exact hb
end Go.Proofs.YtjjamooihddkgaaGreat.Opn

/- How often each was told: a row of numbers, made and counted up. Conditions: each theorem's own. -/
namespace Go.Proofs.YtjjamooihddkgaaGreat.Pk
open Go.RowKit Go.Deep Hp Go.Proofs.YtjjamooihddkgaaGreat.End
theorem infoI : (Tryz.prog.info? 3).map (fun i => (i.zero, i.size, i.bytes)) = some (some (.int .i64 0), 1, 8) := by kernel_rfl
/-- The numbers' cells. -/
def gots (z : Nat) (G : Nat → Nat) : List Value := (List.range z).map fun k => .int .i64 (G k : Int)
theorem gots_at {z k : Nat} (G : Nat → Nat) (h : k < z) : (gots z G)[k]? = some (.int .i64 (G k : Int)) := by
  unfold gots
  rw [List.getElem?_map, List.getElem?_range h]; rfl
theorem gots_set {z k : Nat} (G : Nat → Nat) (h0 : G k = 0) : (gots z G).set k (.int .i64 1) = gots z (fun j => if j = k then 1 else G j) := by
  apply List.ext_getElem?
  intro j
  unfold gots
  rw [List.getElem?_set, List.length_map, List.length_range]
  by_cases e : k = j
  · subst e
    by_cases h : k < z
    · rw [if_pos rfl, if_pos h, List.getElem?_map, List.getElem?_range h]
      simp
    · rw [if_pos rfl, if_neg h, List.getElem?_map, List.getElem?_eq_none (by simp; omega)]; rfl
  · rw [if_neg e]
    by_cases h : j < z
    · rw [List.getElem?_map, List.getElem?_map, List.getElem?_range h]
      simp only [Option.map_some]
      rw [if_neg (fun e2 => e e2.symm)]
    · rw [List.getElem?_eq_none (by simp; omega), List.getElem?_eq_none (by simp; omega)]
theorem made_gots (N : Nat) (hN : N ≤ 1000) (w : World) : (Instr.makeSlice 62 (.int .i64 (N : Int)) (.int .i64 (N : Int))).run Tryz.prog w = .ok (.slice (some ⟨w.heap.size, 0, none⟩) N N) (w.alloc (.cells (gots N (fun _ => 0)).toArray 3)) := by
  obtain ⟨ti, hti, hz0, hz1, hz2⟩ := info_parts infoI
  have := run_make (P := Tryz.prog) (w := w) 62 3 ti (.int .i64 0) Tryz.underlying62 hti hz0 .i64 .i64 (N : Int) (N : Int) (by omega) (by omega) (by rw [hz2]; omega) (by omega)
  rw [Int.toNat_natCast, hz1, Nat.mul_one] at this
  rw [this]
  have e : madeCells (Value.int .i64 0).cells N = (gots N (fun _ => 0)).toArray := by
    apply Array.toList_inj.1
    have := toList_madeCells_one (.int .i64 0) N
    rw [show (Value.int .i64 0).cells = #[.int .i64 0] from rfl, this]
    unfold gots
    simp
    rw [List.map_const', List.length_range]
  rw [e]
open Ph (ptr)
/-- All of the law's things: the receivers, the numbers told, what was before. -/
structure In (w : World) (p : Nat) (T : List (List UInt8)) (sz gb : Nat) (P : Nat → Prop) (m : Nat) (G : Nat → Nat) (wq : World) : Prop where
  ex : ∃ w0, Sw P w0 wq p T sz m G ∧ Blk w0 gb (gots T.length G) 3 ∧ Old w w0
  p1 : ∀ i, i < w.heap.size → P i
  p2 : P gb
  gw : w.heap.size ≤ gb
variable {w wq wr : World} {p sz gb m : Nat} {T : List (List UInt8)} {P : Nat → Prop} {G : Nat → Nat}
theorem In.blk (h : In w p T sz gb P m G wq) : Blk wq gb (gots T.length G) 3 := by
  obtain ⟨w0, h1, h2, h3⟩ := h.ex
  exact h1.kept.blk h2 (fun f => f h.p2)
theorem In.old (h : In w p T sz gb P m G wq) : Old w wq := by
  obtain ⟨w0, h1, h2, h3⟩ := h.ex
  exact Kept.trans' h3 h1.kept (fun i hi f => f (h.p1 i hi))
theorem In.keep (h : In w p T sz gb P m G wq) (k : Kept (fun _ => False) wq wr) : In w p T sz gb P m G wr := by
  obtain ⟨w0, h1, h2, h3⟩ := h.ex
  exact ⟨⟨w0, h1.old k, h2, h3⟩, h.p1, h.p2, h.gw⟩
theorem In.skip (h : In w p T sz gb P m G wq) (m' : Nat) (hz : ∀ k t, T[k]? = some t → t.length = 0 → m ≤ k → m' ≤ k) (hc : ∀ k t (x : Nat), T[k]? = some t → x < t.length → x / sz * T.length + k < m' → x / sz * T.length + k < m) : In w p T sz gb P m' G wq := by
  obtain ⟨w0, h1, h2, h3⟩ := h.ex
  exact ⟨⟨w0, h1.skip m' hz hc, h2, h3⟩, h.p1, h.p2, h.gw⟩
theorem In.begin (hs : Sw (fun i => i < wr.heap.size) wr wq p T sz m G) (ho : Old w wr) : ∃ P, In w p T sz wq.heap.size P m G (wq.alloc (.cells (gots T.length G).toArray 3)) := by
  have hk := hs.kept
  have hk2 : Old w wq := Kept.trans' ho hk (fun i hi f => f (Nat.lt_of_lt_of_le hi ho.size))
  exact ⟨_, ⟨_, hs.more _, Blk.new _ _ _, hk2.alloc _⟩, fun i hi => Or.inl (Nat.lt_of_lt_of_le hi ho.size), Or.inr rfl, hk2.size⟩
theorem In.step (h : In w p T sz gb P m G wq) (hT8 : T.length ≤ 8) {k : Nat} {t : List UInt8} (hk : T[k]? = some t) (ht : t.length ≤ 500) {off mm : Nat} {v : Value} (hv : Pv P wq v t off mm) (m' : Nat)
    (hz : ∀ j tj, T[j]? = some tj → j ≠ k → tj.length = 0 → m ≤ j → m' ≤ j) (hc : ∀ j tj (x : Nat), T[j]? = some tj → x < tj.length → x / sz * T.length + j < m' → x / sz * T.length + j < m ∨ (j = k ∧ off ≤ x ∧ x < off + mm)) :
    Calls Tryz.prog 28 #[ptr p, .int .i64 2, .int .u64 ((k : Int) + 1), .int .i64 (t.length : Nat), .int .i64 (off : Int), v] wq fun e w' =>
      (∃ (r : Int) (d : Bool), e = .returned (.tuple #[.int .i64 r, .bool d, .int .i64 0])) ∧ Old w w' ∧ Calls Tryz.prog 29 #[ptr p] w' fun e w2 =>
        (e = .returned (.tuple #[.agg #[.int .i64 0, .int .u64 0, .slice none 0 0], .bool false]) ∧ In w p T sz gb P m' G w2) ∨
        (∃ a c, e = .returned (.tuple #[.agg #[.int .i64 2, .int .u64 ((k : Int) + 1), .slice a t.length c], .bool true]) ∧ Byt.Src w2 (.slice a t.length c) t ∧ Old w w2 ∧
          ∀ w3, Kept (fun _ => False) w2 w3 → w3.cell? ⟨gb, k, none⟩ = some (.int .i64 0) ∧ w3.frozen? ⟨gb, k, none⟩ = false ∧ In w p T sz gb P m' (fun j => if j = k then 1 else G j) (w3.setCell ⟨gb, k, none⟩ (.int .i64 1))) := by
  have hkl : k < T.length := (List.getElem?_eq_some_iff.1 hk).1
  have ho := h.old
  obtain ⟨w0, h1, h2, h3⟩ := h.ex
  refine (h1.step hT8 hk ht hv m' hz hc).mono ?_
  rintro e w' ⟨h4, hkk, h5⟩
  refine ⟨h4, Kept.trans' h3 hkk (fun i hi f => f (h.p1 i hi)), h5.mono ?_⟩
  rintro e w2 (⟨rfl, h6⟩ | ⟨a, c, rfl, h6, h7, h8⟩)
  · exact Or.inl ⟨rfl, ⟨w0, h6, h2, h3⟩, h.p1, h.p2, h.gw⟩
  · have hO2 : Old w w2 := Kept.trans' h3 h8.kept (fun i hi f => f (h.p1 i hi))
    refine Or.inr ⟨a, c, rfl, h6, hO2, fun w3 k3 => ?_⟩
    have h9 := h8.old k3
    have hB : Blk w3 gb (gots T.length G) 3 := h9.kept.blk h2 (fun f => f h.p2)
    have hc0 := hB.cell (gots_at G hkl)
    rw [h7] at hc0
    refine ⟨hc0, hB.frozen k, ⟨_, h9.write h.p2 k (.int .i64 1), ?_, ?_⟩, h.p1, h.p2, h.gw⟩
    · have := hB.set k (.int .i64 1)
      rw [gots_set G h7] at this
      exact this
    · exact (hO2.trans k3).set (b := gb) (fun e => by have := h.gw; omega) k _
/-- A part of a part. -/
theorem src_part {w : World} {a : Option Addr} {t : List UInt8} {c : Nat} {ab ao : Nat} (ha : a = some ⟨ab, ao, none⟩) (h : Byt.Src w (.slice a t.length c) t) {off mm c2 : Nat} (hm : 0 < mm) (hle : off + mm ≤ t.length) (hc : mm ≤ c2) :
    Byt.Src w (.slice (some ⟨ab, ao + off, none⟩) mm c2) ((t.drop off).take mm) ∧ ab < w.heap.size := by
  subst ha
  obtain ⟨s, c', e, _, h2, _⟩ := h
  cases e
  rcases h2 with h2 | ⟨b, o, e, hb, hc3⟩
  · rw [h2] at hle; simp at hle; omega
  · cases e
    have hl : ((t.drop off).take mm).length = mm := by rw [List.length_take, List.length_drop]; omega
    refine ⟨⟨_, _, by rw [hl], by omega, Or.inr ⟨_, _, rfl, hb, fun j hj => ?_⟩, fun e => by cases e⟩, hb⟩
    rw [hl] at hj
    have := hc3 (off + j) (by omega)
    rw [← Nat.add_assoc] at this
    rw [this]
    congr 2
    rw [List.getElem_take, List.getElem_drop]
theorem tdiv8 {x : Int} (h0 : -9223372036854775808 ≤ x) (h1 : x ≤ 9223372036854775807) : -9223372036854775808 ≤ x.tdiv 8 ∧ x.tdiv 8 ≤ 9223372036854775807 := by
  by_cases h : 0 ≤ x
  · rw [Int.tdiv_eq_ediv_of_nonneg h]; omega
  · have e : x.tdiv 8 = -((-x).tdiv 8) := by rw [Int.neg_tdiv, Int.neg_neg]
    rw [e, Int.tdiv_eq_ediv_of_nonneg (by omega)]; omega
/-- What a slice of a text is. -/
theorem pv_any {w1 : World} {a : Option Addr} {c : Nat} {t : List UInt8} (hB : Opn.Byts w a c t) (hp : ∀ i, i < w.heap.size → P i) (ho : Old w w1) {off mm : Nat} (hle : off + mm ≤ t.length) :
    Pv P w1 (.slice (if c = off then a else a.map (fun x => x.add off)) mm (c - off)) t off mm := by
  refine ⟨hle, ?_⟩
  rcases Nat.eq_zero_or_pos mm with h0 | h0
  · subst h0; exact Or.inl ⟨rfl, _, _, rfl⟩
  · obtain ⟨hS, hcap⟩ := hB
    obtain ⟨s, c', e, hc, h2, _⟩ := id hS
    cases e
    rcases h2 with h2 | ⟨ab, ao, rfl, hb, _⟩
    · rw [h2] at hle; simp at hle; omega
    · have h3 := src_part rfl (hS.kept ho) (off := off) (mm := mm) (c2 := c - off) h0 hle (by omega)
      have e : (if c = off then some (⟨ab, ao, none⟩ : Addr) else (some (⟨ab, ao, none⟩ : Addr)).map (fun x => x.add off)) = some ⟨ab, ao + off, none⟩ := by
        rw [if_neg (by omega), Option.map_some, Go.WideShapes.add_plain]
      rw [e]
      exact Or.inr ⟨h0, ab, ao + off, c - off, rfl, h3.1, hp ab hb, by omega⟩
theorem nxt_skip {z i y k off : Nat} {t : List UInt8} (hz : T.length = z) (h1 : 1 ≤ sz) (hz0 : 0 < z) (ht : T[k]? = some t) (ho : t.length < off) (hcase : i < y ∨ (k = (i - y) % z ∧ off = sz * ((i - y) / z))) :
    (∀ k' (t' : List UInt8), T[k']? = some t' → t'.length = 0 → i - y ≤ k' → i + 1 - y ≤ k') ∧ (∀ k' (t' : List UInt8) (x : Nat), T[k']? = some t' → x < t'.length → x / sz * T.length + k' < i + 1 - y → x / sz * T.length + k' < i - y) := by
  refine ⟨fun k' t' hk' h0 hm => ?_, fun k' t' x hk' hx hm => ?_⟩
  · have hkl := (List.getElem?_eq_some_iff.1 hk').1
    rcases hcase with h | ⟨e1, e2⟩
    · omega
    · by_cases e : i - y = k'
      · rw [e, Nat.div_eq_of_lt (by omega)] at e2
        simp at e2
        omega
      · omega
  · have hkl := (List.getElem?_eq_some_iff.1 hk').1
    rcases hcase with h | ⟨e1, e2⟩
    · omega
    · by_cases e : x / sz * T.length + k' = i - y
      · exfalso
        rw [hz] at e
        have e3 : (i - y) % z = k' := by rw [← e, Nat.mul_comm, Nat.mul_add_mod, Nat.mod_eq_of_lt (by omega)]
        have e4 : (i - y) / z = x / sz := by rw [← e, Nat.mul_comm, Nat.mul_add_div hz0, show k' / z = 0 from Nat.div_eq_of_lt (by omega), Nat.add_zero]
        rw [e3] at e1
        subst e1
        rw [ht] at hk'
        cases hk'
        rw [e4] at e2
        have := Nat.mul_div_le x sz
        omega
      · omega
theorem nxt_step {z i y k off mm : Nat} {t : List UInt8} (hz : T.length = z) (h1 : 1 ≤ sz) (hz0 : 0 < z) (ht : T[k]? = some t) (hm0 : off + mm = min (off + sz) t.length) (hcase : i < y ∨ (k = (i - y) % z ∧ off = sz * ((i - y) / z))) :
    (∀ j (tj : List UInt8), T[j]? = some tj → j ≠ k → tj.length = 0 → i - y ≤ j → i + 1 - y ≤ j) ∧ (∀ j (tj : List UInt8) (x : Nat), T[j]? = some tj → x < tj.length → x / sz * T.length + j < i + 1 - y → x / sz * T.length + j < i - y ∨ (j = k ∧ off ≤ x ∧ x < off + mm)) := by
  refine ⟨fun k' t' hk' hne h0 hm => ?_, fun k' t' x hk' hx hm => ?_⟩
  · have hkl := (List.getElem?_eq_some_iff.1 hk').1
    rcases hcase with h | ⟨e1, e2⟩
    · omega
    · by_cases e : i - y = k'
      · rw [e, Nat.mod_eq_of_lt (by omega)] at e1
        exact absurd e1.symm hne
      · omega
  · have hkl := (List.getElem?_eq_some_iff.1 hk').1
    rcases hcase with h | ⟨e1, e2⟩
    · omega
    · by_cases e : x / sz * T.length + k' = i - y
      · right
        rw [hz] at e
        have e3 : (i - y) % z = k' := by rw [← e, Nat.mul_comm, Nat.mul_add_mod, Nat.mod_eq_of_lt (by omega)]
        have e4 : (i - y) / z = x / sz := by rw [← e, Nat.mul_comm, Nat.mul_add_div hz0, show k' / z = 0 from Nat.div_eq_of_lt (by omega), Nat.add_zero]
        rw [e3] at e1
        subst e1
        rw [ht] at hk'
        cases hk'
        rw [e4] at e2
        have h5 := Nat.mul_div_le x sz
        have h6 := Nat.lt_mul_div_succ x (show 0 < sz by omega)
        rw [Nat.mul_add, Nat.mul_one] at h6
        refine ⟨rfl, by omega, ?_⟩
        rw [hm0, e2]
        omega
      · left; omega
theorem In.got (h : In w p T sz gb P 600 G wq) (hT8 : T.length ≤ 8) (hs : 1 ≤ sz) {k : Nat} {t : List UInt8} (hk : T[k]? = some t) : G k = 1 ∨ (G k = 0 ∧ ¬ t.length / sz < 600 / T.length) := by
  obtain ⟨w0, h1, h2, h3⟩ := h.ex
  have := h1.got hT8 hk hs
  rcases Nat.eq_zero_or_pos (G k) with e | e
  · exact Or.inr ⟨e, this.2 e⟩
  · left; omega
/-- Behind Retire. -/
structure Fz (w : World) (p : Nat) (T : List (List UInt8)) (gb : Nat) (P : Nat → Prop) (G : Nat → Nat) (wq : World) : Prop where
  ex : ∃ w0, Sf P w0 wq p T G ∧ Blk w0 gb (gots T.length G) 3 ∧ Old w w0 ∧ Kept (fun i => ¬ P i) w0 wq
  p1 : ∀ i, i < w.heap.size → P i
  p2 : P gb
theorem Sf.kept {w0 : World} (h : Sf P w0 wq p T G) : Kept (fun i => ¬ P i) w0 wq := by
  obtain ⟨K, W, Q, B, h1, h2⟩ := h
  exact h1.st.kept
theorem In.retire (h : In w p T sz gb P 600 G wq) (hT8 : T.length ≤ 8) (below : Int) : Calls Tryz.prog 30 #[ptr p, .int .i64 2, .int .u64 below] wq fun e w' => (∃ r, e = .returned (.int .i64 r)) ∧ Fz w p T gb P G w' := by
  obtain ⟨w0, h1, h2, h3⟩ := h.ex
  refine (h1.retire (fun k hk => by omega) below).mono ?_
  rintro e w' ⟨h4, h5⟩
  exact ⟨h4, ⟨w0, h5, h2, h3, h5.kept⟩, h.p1, h.p2⟩
theorem Fz.blk (h : Fz w p T gb P G wq) : Blk wq gb (gots T.length G) 3 := by
  obtain ⟨w0, h1, h2, h3, h4⟩ := h.ex
  exact h4.blk h2 (fun f => f h.p2)
theorem Fz.old (h : Fz w p T gb P G wq) : Old w wq := by
  obtain ⟨w0, h1, h2, h3, h4⟩ := h.ex
  exact Kept.trans' h3 h4 (fun i hi f => f (h.p1 i hi))
theorem Fz.ask (h : Fz w p T gb P G wq) (hT8 : T.length ≤ 8) {k : Nat} {t : List UInt8} (hk : T[k]? = some t) (ht : t.length ≤ 500) :
    Calls Tryz.prog 28 #[ptr p, .int .i64 2, .int .u64 ((k : Int) + 1), .int .i64 (t.length : Nat), .int .i64 0, .slice none 0 0] wq fun e w' =>
      (∃ (r : Int) (d : Bool), e = .returned (.tuple #[.int .i64 r, .bool d, .int .i64 0]) ∧ (G k = 1 → d = true)) ∧ Fz w p T gb P G w' := by
  obtain ⟨w0, h1, h2, h3, h4⟩ := h.ex
  refine (h1.ask hT8 hk ht).mono ?_
  rintro e w' ⟨h5, h6⟩
  exact ⟨h5, ⟨w0, h6, h2, h3, h6.kept⟩, h.p1, h.p2⟩
theorem Fz.poll (h : Fz w p T gb P G wq) : Calls Tryz.prog 29 #[ptr p] wq fun e w' => e = .returned (.tuple #[.agg #[.int .i64 0, .int .u64 0, .slice none 0 0], .bool false]) ∧ Old w w' := by
  obtain ⟨w0, h1, h2, h3, h4⟩ := h.ex
  refine h1.poll.mono ?_
  rintro e w' ⟨rfl, k⟩
  exact ⟨rfl, Kept.trans' h3 k (fun i hi f => f (h.p1 i hi))⟩
end Go.Proofs.YtjjamooihddkgaaGreat.Pk

