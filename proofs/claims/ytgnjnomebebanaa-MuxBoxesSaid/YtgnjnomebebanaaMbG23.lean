/- First of boxes of ints, Drain. Conditions: each theorem's own. -/
import Derived.Test.YtgnjnomebebanaaMbG14
import Derived.LoopTactic
import Derived.Deep.LoopGhost
import Derived.Deep.DeepCutAuto
import Derived.OwnWalk
import Derived.Below
import Derived.ChangeSame
import Derived.ProofKit
import Derived.Test.YtgnjnomebebanaaMbG16
import Derived.Test.YtgnjnomebebanaaMbG17
import Derived.Deep.RegionLaw
import Derived.OpenShut
import Derived.Carry
import Derived.Deep.Slices
import Derived.Deep.Fields
import Derived.Deep.DrawnRows
import Derived.Test.YtgnjnomebebanaaMbG11
import Derived.Deep.RegionHeld3
set_option linter.unusedVariables false
set_option linter.unusedSimpArgs false
namespace Go.Proofs.Ytgnjnomebebanaa.Mo
open Go.Conc Go.RowKit Hp
/-- A box that has nothing. -/
def Emp (x : Value) (w : World) : Prop := Calls Try.prog 8 #[x] w fun e w' => e = .returned (.tuple #[.int .i64 0, .bool false]) ∧ w = w'
theorem first_none {w : World} {g cap : Nat} {hs : List Value} (h : ∀ (j : Nat) (x : Value), hs[j]? = some x → w.cell? ⟨g, j, none⟩ = some x ∧ Emp x w) (hl : hs.length ≤ 1000) :
    Calls Try.prog 11 #[.slice (some ⟨g, 0, none⟩) hs.length cap] w fun e w' => e = .returned (.tuple #[.int .i64 (-1), .int .i64 0, .bool false]) ∧ w = w' := by
  have HH := Lib.hid h
  clear h
  generalize hn : hs.length = n at *
  have HN := Lib.hid hn
  clear hn
  go_enter Try.func11, Try.ntmps11
  go_wp2_with fail
  go_loopg [3, 9] n (fun kx s3 s9 wr => ∃ (i : Nat), Hid (n - i ≤ kx) ∧ i ≤ n ∧ s9 = .int .i64 (i : Nat) ∧ s3 = .int .i64 0 ∧ w = wr)
  case atStart => exact ⟨0, Lib.hid (by omega), by omega, rfl, rfl, rfl⟩
  case round =>
    obtain ⟨i, hm, hi, rfl, rfl, rfl⟩ := hrel
    rcases Nat.lt_or_ge i n with hlt | hge
    · obtain ⟨x, hx⟩ : ∃ x, hs[i]? = some x := ⟨_, List.getElem?_eq_getElem (by rw [HN.out]; exact hlt)⟩
      obtain ⟨hc, hE⟩ := HH.out i x hx
      unfold Emp at hE
      have HE := Lib.hid hE
      clear hE hx
      go_wp2_with (go_at_call 8; (with_reducible refine Calls.mono HE.out ?_); rintro e w2 ⟨rfl, rfl⟩)
      go_roundg (n - (i + 1))
      case measure => have := hm.out; omega
      case rel => exact ⟨i + 1, Lib.hid (Nat.le_refl _), by omega, by go_num, rfl, rfl⟩
    · obtain rfl : i = n := by omega
      go_wp2_with fail
      go_ret3
      exact ⟨rfl, rfl⟩
theorem first_some {w : World} {g cap : Nat} {hs : List Value} {k : Nat} {y : Value} {v : Int} {R : World → Prop} (h : ∀ (j : Nat) (x : Value), j < k → hs[j]? = some x → w.cell? ⟨g, j, none⟩ = some x ∧ Emp x w) (hk : hs[k]? = some y) (hc : w.cell? ⟨g, k, none⟩ = some y)
    (hy : Calls Try.prog 8 #[y] w fun e w' => e = .returned (.tuple #[.int .i64 v, .bool true]) ∧ R w') (hl : hs.length ≤ 1000) :
    Calls Try.prog 11 #[.slice (some ⟨g, 0, none⟩) hs.length cap] w fun e w' => e = .returned (.tuple #[.int .i64 (k : Nat), .int .i64 v, .bool true]) ∧ R w' := by
  have hkn : k < hs.length := by
    rcases Nat.lt_or_ge k hs.length with h' | h'
    · exact h'
    · rw [List.getElem?_eq_none h'] at hk; cases hk
  have HH := Lib.hid h
  have HY := Lib.hid hy
  clear h hy hk
  generalize hn : hs.length = n at *
  have HN := Lib.hid hn
  clear hn
  go_enter Try.func11, Try.ntmps11
  go_wp2_with fail
  go_loopg [9] n (fun kx s9 wr => ∃ (i : Nat), Hid (n - i ≤ kx) ∧ i ≤ k ∧ s9 = .int .i64 (i : Nat) ∧ w = wr)
  case atStart => exact ⟨0, Lib.hid (by omega), by omega, rfl, rfl⟩
  case round =>
    obtain ⟨i, hm, hi, rfl, rfl⟩ := hrel
    have hin : i < n := by omega
    rcases Nat.lt_or_ge i k with hlt | hge
    · obtain ⟨x, hx⟩ : ∃ x, hs[i]? = some x := ⟨_, List.getElem?_eq_getElem (by rw [HN.out]; exact hin)⟩
      obtain ⟨hc2, hE⟩ := HH.out i x hlt hx
      unfold Emp at hE
      have HE := Lib.hid hE
      clear hE hx hc
      go_wp2_with (go_at_call 8; (with_reducible refine Calls.mono HE.out ?_); rintro e w2 ⟨rfl, rfl⟩)
      go_roundg (n - (i + 1))
      case measure => have := hm.out; omega
      case rel => exact ⟨i + 1, Lib.hid (Nat.le_refl _), by omega, by go_num, rfl⟩
    · obtain rfl : i = k := by omega
      go_wp2_with (go_at_call 8; (with_reducible refine Calls.mono HY.out ?_); rintro e w2 ⟨rfl, hR⟩)
      go_ret3
      exact ⟨rfl, hR⟩
theorem drain_none {x : Value} {w : World} (h : Emp x w) (n : Int) (h0 : 0 < n) : Calls Try.prog 10 #[x, .int .i64 n] w fun e w' => e = .returned (.slice none 0 0) ∧ w = w' := by
  unfold Emp at h
  have HE := Lib.hid h
  clear h
  go_enter Try.func10, Try.ntmps10
  go_wp2_with fail
  go_loopg [5, 9] 0 (fun kx s5 s9 wr => s5 = .slice none 0 0 ∧ s9 = .int .i64 0 ∧ w = wr)
  case atStart => exact ⟨rfl, rfl, rfl⟩
  case round =>
    obtain ⟨rfl, rfl, rfl⟩ := hrel
    go_wp2_with (go_at_call 8; (with_reducible refine Calls.mono HE.out ?_); rintro e w2 ⟨rfl, rfl⟩)
    go_ret
    exact ⟨rfl, rfl⟩
end Go.Proofs.Ytgnjnomebebanaa.Mo

/- A law's end where what is known of the world is that all that was there is as it was. Conditions: each theorem's own. -/
namespace Go.Proofs.Ytgnjnomebebanaa.End
open Go.RowKit Go.WideShapes Go.ChangeShapes Hp
/-- Nothing that was there has turned. -/
def Old (W W' : World) : Prop := Kept (fun _ => False) W W'
theorem Old.below {W W' : World} (h : Old W W') : Below W.heap.size W W' := ⟨h.os, h.tape, h.output, h.size, fun k hk => h.block k hk (fun f => f)⟩
theorem Old.refl (W : World) : Old W W := Kept.refl _ W
section
variable {H : Type} {enc : TypeId × Value → H} {P : Program} {f : Func} {s : ChangeSpec} {apart fresh handsOn again : Bool} {W W' : World} {args : Array Value} {v : Value} {ds gs : List (DataW H)} {pa pv : List MemPlace}
theorem post_of_old (hW : DataW.Whole enc P f.params.toList s.vars apart W args.toList ds gs (pa ++ pv))
    (hres : ∀ (b : Nat) (sp : Nat → Bool) (hd : Bool), DataW.TrodAll enc P W' b sp hd f.resultTypes.toList (v.resultList f.resultTypes.size) (s.fn H (ds ++ gs)).results [])
    (hargs : ∀ sp : Nat → Bool, (∀ p ∈ pa ++ pv, sp p.block = true) → DataW.TrodAll enc P W' 0 sp true f.params.toList args.toList (s.fn H (ds ++ gs)).args pa)
    (hvars : ∀ sp : Nat → Bool, (∀ p ∈ pa ++ pv, sp p.block = true) → DataW.TrodVars enc P W' sp s.vars (s.fn H (ds ++ gs)).vars pv)
    (hb : Old W W')
    (hok : ∀ (j : Nat) (t : TypeId) (r : Value), f.resultTypes[j]? = some t → (v.resultList f.resultTypes.size)[j]? = some r → Value.okWide P W' .any 0 t r) :
    s.post enc P f apart fresh handsOn again W args v W' := by
  have B := hb.below
  have old : ∀ p ∈ pa ++ pv, p.block < W.heap.size := fun p hp => hW.lt p hp
  have inOld : ∀ p ∈ pa ++ pv, (fun b => decide (b < W.heap.size)) p.block = true := fun p hp => by simp [old p hp]
  have all : ∀ p ∈ pa ++ pv, (fun _ : Nat => true) p.block = true := fun _ _ => rfl
  obtain ⟨_, _, _, _, _, hz, hn⟩ := id hW
  refine ⟨ds, gs, pa ++ pv, [], pa, pv, hW, hres _ _ _, hargs _ inOld, hvars _ inOld, World.keptBut_mono (fun p hp => ⟨hp, Or.inr (List.mem_append.1 hp)⟩) (B.frame _), fun _ => ⟨hok, _, _, [] ++ pa ++ pv, ⟨[] ++ pa, pv, trodAll_append (hargs _ all) (hres _ _ _), hvars _ all, rfl, ?_, ?_⟩, ?_⟩⟩
  · intro b off hp
    have hp' : MemPlace.cell b off ∈ pa ++ pv := by simpa using hp
    exact (B.frozen (p := ⟨b, off, none⟩) (old _ hp')).trans (hz b off hp')
  · intro ha; simpa using hn ha
  · intro p hp _; simpa using hp
end
end Go.Proofs.Ytgnjnomebebanaa.End

/- Two boxes of ints beside each other, made one behind the other. Conditions: each theorem's own. -/
namespace Go.Proofs.Ytgnjnomebebanaa.Mo
open Go.Conc Go.RowKit Hp Go.Proofs.Ytgnjnomebebanaa.End
/-- Two boxes, made in a world of N blocks: what lies in each; all that was there is as it was. -/
structure Two (w : World) (room : Nat) (xs ys : List Int) (wi : World) : Prop where
  x : ∃ ps, Bx wi (w.heap.size + 1) w.heap.size room ps xs
  y : ∃ ps, Bx wi (w.heap.size + 3) (w.heap.size + 2) room ps ys
  old : Old w wi
theorem Bx.other {w w' : World} {b c room : Nat} {ps : List Nat} {vs : List Int} (h : Bx w b c room ps vs) {b' c' room' : Nat} {ps' : List Nat} {vs' : List Int} (h' : Bx w b' c' room' ps' vs') (hc : c ≠ c') (k : Kept (fun i => i = c') w w') : Bx w' b c room ps vs := by
  obtain ⟨s, r, h2⟩ := h'.chan
  exact h.kept (r' := 0) h2 (fun l T z => by simp) (fun e => hc e.symm) k
theorem Bx.quiet {w w' : World} {b c room : Nat} {ps : List Nat} {vs : List Int} (h : Bx w b c room ps vs) (k : Kept (fun _ => False) w w') : Bx w' b c room ps vs := by
  obtain ⟨s, r, h2⟩ := h.chan
  exact ⟨k.blk h.box (fun f => f), ⟨s, r, (k.block c h.lt (fun f => f)).trans h2⟩, h.len, fun i p v h3 h4 => k.blk (h.cells i p v h3 h4) (fun f => f)⟩
theorem Two.quiet {w wi w' : World} {room : Nat} {xs ys : List Int} (h : Two w room xs ys wi) (k : Kept (fun _ => False) wi w') : Two w room xs ys w' := by
  obtain ⟨ps, hx⟩ := h.x
  obtain ⟨qs, hy⟩ := h.y
  exact ⟨⟨ps, hx.quiet k⟩, ⟨qs, hy.quiet k⟩, h.old.trans k⟩
def push (room : Nat) (xs : List Int) (v : Int) : List Int := if xs.length < room then xs ++ [v] else xs
theorem push_take {room : Nat} {l : List Int} {i : Nat} {v : Int} (h : l[i]? = some v) : push room ((l.take i).take room) v = (l.take (i + 1)).take room := by
  have hi : i < l.length := by
    rcases Nat.lt_or_ge i l.length with h' | h'
    · exact h'
    · rw [List.getElem?_eq_none h'] at h; cases h
  unfold push
  rw [List.take_add_one, h, Option.toList_some]
  split
  · next hl =>
    rw [List.length_take, List.length_take] at hl
    have e1 : (l.take i).take room = l.take i := List.take_of_length_le (by rw [List.length_take]; omega)
    have e2 : (l.take i ++ [v]).take room = l.take i ++ [v] := List.take_of_length_le (by rw [List.length_append, List.length_take, List.length_singleton]; omega)
    rw [e1, e2]
  · next hl =>
    rw [List.length_take, List.length_take] at hl
    rw [List.take_append_of_le_length (by rw [List.length_take]; omega)]
theorem drop_take_some {l : List Int} {n i : Nat} {x : Int} (h : l[i]? = some x) (hi : i < n) : (l.take n).drop i = x :: (l.take n).drop (i + 1) := by
  obtain ⟨hl, rfl⟩ := List.getElem?_eq_some_iff.1 h
  rw [List.drop_eq_getElem_cons (by rw [List.length_take]; omega), List.getElem_take]
theorem two_ox {w wi : World} {room : Nat} {xs ys : List Int} (h : Two w room xs ys wi) (v : Int) : Calls Try.prog 7 #[ptr (w.heap.size + 1), .int .i64 v] wi fun e w' => (∃ t, e = .returned (.bool t)) ∧ Two w room (push room xs v) ys w' := by
  obtain ⟨ps, hx⟩ := h.x
  obtain ⟨qs, hy⟩ := h.y
  unfold push
  split
  · next hl =>
    refine Calls.mono (offer_room hx hl v) ?_
    rintro e w' ⟨rfl, hb, hk⟩
    exact ⟨⟨_, rfl⟩, ⟨_, hb⟩, ⟨qs, hy.other hx (by omega) hk⟩, h.old.trans' hk (fun i hi e => absurd (e ▸ hi) (by omega))⟩
  · next hl =>
    refine Calls.mono (offer_full hx (by omega) v) ?_
    rintro e w' ⟨rfl, hk⟩
    exact ⟨⟨_, rfl⟩, h.quiet hk⟩
theorem two_oy {w wi : World} {room : Nat} {xs ys : List Int} (h : Two w room xs ys wi) (v : Int) : Calls Try.prog 7 #[ptr (w.heap.size + 3), .int .i64 v] wi fun e w' => (∃ t, e = .returned (.bool t)) ∧ Two w room xs (push room ys v) w' := by
  obtain ⟨ps, hx⟩ := h.x
  obtain ⟨qs, hy⟩ := h.y
  unfold push
  split
  · next hl =>
    refine Calls.mono (offer_room hy hl v) ?_
    rintro e w' ⟨rfl, hb, hk⟩
    exact ⟨⟨_, rfl⟩, ⟨ps, hx.other hy (by omega) hk⟩, ⟨_, hb⟩, h.old.trans' hk (fun i hi e => absurd (e ▸ hi) (by omega))⟩
  · next hl =>
    refine Calls.mono (offer_full hy (by omega) v) ?_
    rintro e w' ⟨rfl, hk⟩
    exact ⟨⟨_, rfl⟩, h.quiet hk⟩
theorem emp_nil (w : World) : Emp (.pointer none) w := take_nil w
theorem emp_x {w wi : World} {room : Nat} {ys : List Int} (h : Two w room [] ys wi) : Emp (ptr (w.heap.size + 1)) wi := by
  obtain ⟨ps, hx⟩ := h.x
  obtain rfl : ps = [] := by have := hx.len; simpa using this
  exact take_empty hx
theorem emp_y {w wi : World} {room : Nat} {xs : List Int} (h : Two w room xs [] wi) : Emp (ptr (w.heap.size + 3)) wi := by
  obtain ⟨ps, hx⟩ := h.y
  obtain rfl : ps = [] := by have := hx.len; simpa using this
  exact take_empty hx
/-- First of the first box. -/
theorem two_fx {w wi : World} {room : Nat} {v : Int} {xs ys : List Int} (h : Two w room (v :: xs) ys wi) {g cap : Nat} (hg : Blk wi g [ptr (w.heap.size + 1), .pointer none, ptr (w.heap.size + 3)] 27) :
    Calls Try.prog 11 #[.slice (some ⟨g, 0, none⟩) 3 cap] wi fun e w' => e = .returned (.tuple #[.int .i64 0, .int .i64 v, .bool true]) ∧ Two w room xs ys w' := by
  obtain ⟨ps, hx⟩ := h.x
  obtain ⟨qs, hy⟩ := h.y
  obtain ⟨p, ps, rfl⟩ : ∃ p ps', ps = p :: ps' := by
    cases ps with
    | nil => have := hx.len; simp at this
    | cons p ps => exact ⟨p, ps, rfl⟩
  refine first_some (k := 0) (hs := [ptr (w.heap.size + 1), .pointer none, ptr (w.heap.size + 3)]) (fun j x hj _ => absurd hj (by omega)) rfl (hg.cell rfl) ?_ (by simp)
  refine Calls.mono (take_first hx) ?_
  rintro e w' ⟨rfl, hb, hk⟩
  exact ⟨rfl, ⟨_, hb⟩, ⟨qs, hy.other hx (by omega) hk⟩, h.old.trans' hk (fun i hi e => absurd (e ▸ hi) (by omega))⟩
/-- First of the second box; the first is empty. -/
theorem two_fy {w wi : World} {room : Nat} {v : Int} {ys : List Int} (h : Two w room [] (v :: ys) wi) {g cap : Nat} (hg : Blk wi g [ptr (w.heap.size + 1), .pointer none, ptr (w.heap.size + 3)] 27) :
    Calls Try.prog 11 #[.slice (some ⟨g, 0, none⟩) 3 cap] wi fun e w' => e = .returned (.tuple #[.int .i64 2, .int .i64 v, .bool true]) ∧ Two w room [] ys w' := by
  have he := emp_x h
  obtain ⟨ps, hx⟩ := h.x
  obtain ⟨qs, hy⟩ := h.y
  obtain ⟨q, qs, rfl⟩ : ∃ p ps', qs = p :: ps' := by
    cases qs with
    | nil => have := hy.len; simp at this
    | cons p ps => exact ⟨p, ps, rfl⟩
  refine first_some (k := 2) (hs := [ptr (w.heap.size + 1), .pointer none, ptr (w.heap.size + 3)]) (fun j x hj hx => ?_) rfl (hg.cell rfl) ?_ (by simp)
  · rcases j with _ | _ | j
    · simp at hx; subst hx; exact ⟨hg.cell rfl, he⟩
    · simp at hx; subst hx; exact ⟨hg.cell rfl, emp_nil wi⟩
    · omega
  refine Calls.mono (take_first hy) ?_
  rintro e w' ⟨rfl, hb, hk⟩
  exact ⟨rfl, ⟨ps, hx.other hy (by omega) hk⟩, ⟨_, hb⟩, h.old.trans' hk (fun i hi e => absurd (e ▸ hi) (by omega))⟩
theorem two_f0 {w wi : World} {room : Nat} (h : Two w room [] [] wi) {g cap : Nat} (hg : Blk wi g [ptr (w.heap.size + 1), ptr (w.heap.size + 3)] 27) :
    Calls Try.prog 11 #[.slice (some ⟨g, 0, none⟩) 2 cap] wi fun e w' => e = .returned (.tuple #[.int .i64 (-1), .int .i64 0, .bool false]) ∧ wi = w' := by
  refine first_none (hs := [ptr (w.heap.size + 1), ptr (w.heap.size + 3)]) (fun j x hx => ?_) (by simp)
  rcases j with _ | _ | j
  · simp at hx; subst hx; exact ⟨hg.cell rfl, emp_x h⟩
  · simp at hx; subst hx; exact ⟨hg.cell rfl, emp_y h⟩
  · simp at hx
theorem two_new {w w1 : World} {room : Nat} (h1 : Bx w1 (w.heap.size + 1) w.heap.size room [] []) (k1 : Kept (fun _ => False) w w1) (s1 : w1.heap.size = w.heap.size + 2) {w2 : World} (h2 : Bx w2 (w1.heap.size + 1) w1.heap.size room [] []) (k2 : Kept (fun _ => False) w1 w2) : Two w room [] [] w2 := by
  rw [s1] at h2
  exact ⟨⟨[], h1.quiet k2⟩, ⟨[], h2⟩, k1.trans k2⟩
theorem two_new2 {w w1 : World} {n : Int} (h0 : 0 ≤ n) (h1 : n ≤ 10000) (b1 : Bx w1 (w.heap.size + 1) w.heap.size n.toNat [] []) (k1 : Kept (fun _ => False) w w1) (s1 : w1.heap.size = w.heap.size + 2) : Calls Try.prog 5 #[.int .i64 n] w1 fun e w' => e = .returned (.tuple #[ptr (w.heap.size + 3), .int .i64 0]) ∧ Two w n.toNat [] [] w' := by
  refine Calls.mono (new_ok h0 h1 w1) ?_
  rintro e w2 ⟨rfl, b2, k2, _⟩
  refine ⟨by rw [s1], two_new b1 k1 s1 b2 k2⟩
end Go.Proofs.Ytgnjnomebebanaa.Mo

/- Drain of a box of ints. Conditions: each theorem's own. -/
namespace Go.Proofs.Ytgnjnomebebanaa.Mo
open Go.Conc Go.RowKit Hp
@[reducible] def dT : Rw.Ty Int where
  E := 3
  L := 22
  k := 1
  bz := 8
  enc := fun x => [.int .i64 x]
  z := .int .i64 0
  hL := Try.underlying22
  hI := by kernel_rfl
  hz := rfl
  hk := fun x => rfl
  h1 := fun x v hv => by
    simp only [List.mem_cons, List.not_mem_nil, or_false] at hv
    subst hv; rfl
  k0 := by decide
  hb := by decide
theorem Bx.far {w w' : World} {F : Nat → Prop} {b c room : Nat} {ps : List Nat} {vs : List Int} (h : Bx w b c room ps vs) (k : Kept F w w') (hb : ¬ F b) (hc : ¬ F c) (hp : ∀ p ∈ ps, ¬ F p) : Bx w' b c room ps vs := by
  refine ⟨k.blk h.box hb, ?_, h.len, fun i p v h1 h2 => k.blk (h.cells i p v h1 h2) (hp p (List.mem_of_getElem? h1))⟩
  obtain ⟨s, r, e⟩ := h.chan
  exact ⟨s, r, (k.block c h.lt hc).trans e⟩
theorem Bx.low {w : World} {b c room : Nat} {ps : List Nat} {vs : List Int} (h : Bx w b c room ps vs) : ∀ p ∈ ps, p < w.heap.size := fun p hp => by
  obtain ⟨i, hi⟩ := List.getElem?_of_mem hp
  have hl := h.len
  have h1 := (List.getElem?_eq_some_iff.1 hi).1
  exact (h.cells i p _ hi (List.getElem?_eq_getElem (by omega))).lt
set_option maxRecDepth 100000 in
set_option maxHeartbeats 4000000 in
theorem drain_any {w : World} {b c room : Nat} {ps : List Nat} {vs : List Int} (h : Bx w b c room ps vs) (hl : vs.length ≤ 100000) (n : Int) (hn : n ≤ 9223372036854775807) :
    Calls Try.prog 10 #[ptr b, .int .i64 n] w fun e w' => ∃ v' ps', e = .returned v' ∧ Rw.Row dT w' w.heap.size v' (vs.take n.toNat) ∧ Bx w' b c room ps' (vs.drop n.toNat) ∧ Kept (fun i => i = c) w w' := by
  have HB := Lib.hid h
  have HC := Lib.hid h.lt
  have HL := Lib.hid hl
  clear h hl
  obtain ⟨m, hm⟩ : ∃ m : Nat, n.toNat = m := ⟨_, rfl⟩
  have HM := Lib.hid hm
  rw [hm]
  clear hm
  go_enter Try.func10, Try.ntmps10
  go_wp2_with fail
  go_loopg [5, 9] (vs.length + 1) (fun kx s5 s9 wr => ∃ (i : Nat) (qs : List Nat), Hid (vs.length + 1 - i ≤ kx) ∧ Hid (i ≤ vs.length) ∧ Hid (i ≤ m) ∧ s9 = .int .i64 (i : Nat) ∧ Hid (Rw.Row dT wr w.heap.size s5 (vs.take i)) ∧ Hid (Bx wr b c room qs (vs.drop i)) ∧ Hid (∀ p ∈ qs, p < w.heap.size) ∧ Hid (Kept (fun i => i = c) w wr))
  case atStart => exact ⟨0, ps, Lib.hid (by omega), Lib.hid (Nat.zero_le _), Lib.hid (Nat.zero_le _), rfl, Lib.hid (Rw.Row.none dT _ _), HB, Lib.hid HB.out.low, Lib.hid (Kept.refl _ _)⟩
  case round =>
    obtain ⟨i, qs, hmm, hi, him, rfl, hr, hb, hqs, hk⟩ := hrel
    by_cases hin : (i : Int) < n
    · cases hd : vs.drop i with
      | nil =>
        have hil : i = vs.length := by have := hi.out; have h2 := congrArg List.length hd; rw [List.length_drop] at h2; simp at h2; omega
        have hE := hb.out
        rw [hd] at hE
        have hq : qs = [] := List.length_eq_zero_iff.1 hE.len
        subst hq
        have TK := Lib.hid (take_empty hE)
        have R1 : Hid (∃ ps', Rw.Row dT wr w.heap.size u5 (vs.take m) ∧ Bx wr b c room ps' (vs.drop m) ∧ Kept (fun i => i = c) w wr) := by
          have e1 : vs.take m = vs.take i := by rw [List.take_of_length_le (l := vs) (i := m) (by have := him.out; omega), List.take_of_length_le (l := vs) (i := i) (by omega)]
          have e2 : vs.drop m = [] := List.drop_of_length_le (by have := him.out; omega)
          rw [e1, e2]
          exact Lib.hid ⟨[], hr.out, hE, hk.out⟩
        clear hd hE hr hb hk hil
        go_wp2_with (go_at_call 8; (with_reducible refine Calls.mono TK.out ?_); rintro e w2 ⟨rfl, rfl⟩)
        go_ret
        obtain ⟨ps', h1, h2, h3⟩ := R1.out
        exact ⟨_, ps', rfl, h1, h2, h3⟩
      | cons v rest =>
        have hlt : i < vs.length := by have := hi.out; have h2 := congrArg List.length hd; rw [List.length_drop] at h2; simp at h2; omega
        have hgv : vs[i]? = some v := by
          have := congrArg (fun l => l[0]?) hd
          simpa [List.getElem?_drop] using this
        have hE := hb.out
        rw [hd] at hE
        obtain ⟨p, qs', rfl⟩ : ∃ p qs', qs = p :: qs' := by
          cases qs with
          | nil => have := hE.len; simp at this
          | cons p q => exact ⟨p, q, rfl⟩
        have TK := Lib.hid (take_first hE)
        have HQ : Hid (∀ p ∈ qs', p < w.heap.size) := Lib.hid (fun p hp => hqs.out p (List.mem_cons_of_mem _ hp))
        have HBW : Hid (b < w.heap.size) := Lib.hid HB.out.box.lt
        have e1 : vs.drop (i + 1) = rest := by rw [← List.drop_drop, hd]; rfl
        have e2 : vs.take (i + 1) = vs.take i ++ [v] := by
          rw [List.take_add_one, hgv]; rfl
        have HE1 := Lib.hid e1
        have HE2 := Lib.hid e2
        have hw1 : IntKind.i64.wrap ((i : Int) + 1) = ((i + 1 : Nat) : Int) := by rw [IntKind.wrap_i64]; omega
        have him2 : Hid (i + 1 ≤ m) := Lib.hid (by have := HM.out; omega)
        have HI1 : Hid (i + 1 ≤ vs.length) := Lib.hid hlt
        have HT : Hid ((vs.take i).length ≤ 100000) := Lib.hid (by have := HL.out; rw [List.length_take]; omega)
        clear hd hE hb hgv e1 e2 hlt
        obtain ⟨A, hA0⟩ : ∃ A, vs.take i = A := ⟨_, rfl⟩
        rw [hA0] at HE2 HT hr
        clear hA0
        obtain ⟨av, cv, rfl, _⟩ := hr.out.slice
        go_upto_region 6 with (go_at_call 8; (with_reducible refine Calls.mono TK.out ?_); rintro e w2 ⟨rfl, hB2, hk2⟩)
        have HB2 := Lib.hid hB2
        have HK2 := Lib.hid (hk.out.trans hk2)
        have HR2 := Lib.hid (hr.out.kept hk2 (fun g hg e => by have h9 : g = c := e; have := (hr.out.lt g hg).1; have := HC.out; omega))
        clear hB2 hk2 hr hk TK
        have k7 := (Kept.refl (fun _ => False) w2).alloc (.cells #[.int .i64 v] 3)
        have HR7 := Lib.hid (HR2.out.old k7)
        have HB7 := Lib.hid (HB2.out.quiet k7)
        have HK7 := Lib.hid (HK2.out.trans (k7.mono (fun _ _ f => f.elim)))
        have HS7 : Hid (Rw.Src dT (w2.alloc (.cells #[.int .i64 v] 3)) (.slice (some ⟨w2.heap.size, 0, none⟩) 1 1) [v]) := Lib.hid (Rw.src_blk (t := dT) (K := [v]) 1 (Blk.new w2 [.int .i64 v] 3))
        clear k7 HR2 HB2 HK2
        go_wp2_with (at_builtin; refine Rw.wpList_app dT rfl _ _ rfl w.heap.size rfl HR7.out rfl HS7.out (by have := HT.out; rw [List.length_singleton]; omega) HK7.out.size ?_; intro v8 w8 hA; have HA := Lib.hid hA; clear hA)
        have HR8 : Hid (Rw.Row dT w8 w.heap.size v8 (vs.take (i + 1))) := Lib.hid (by rw [HE2.out]; exact HA.out.row)
        have HK8 : Hid (Kept (fun i => i = c) w w8) := Lib.hid (HK7.out.trans' (HA.out.kept) (fun j hj e => by have := (HR7.out.lt j e).1; omega))
        have HB8 : Hid (Bx w8 b c room qs' (vs.drop (i + 1))) := by
          rw [HE1.out]
          have hbw := HBW.out
          have hcw := HC.out
          exact HB7.out.far HA.out.kept (fun e => by have := (HR7.out.lt b e).1; omega) (fun e => by have := (HR7.out.lt c e).1; omega) (fun p hp e => by have := (HR7.out.lt p e).1; have := HQ.out p hp; omega)
        clear HA HR7 HB7 HK7 HS7
        go_roundg (vs.length + 1 - (i + 1))
        case measure => have := hmm.out; have := HI1.out; omega
        case rel => exact ⟨i + 1, qs', Lib.hid (Nat.le_refl _), HI1, him2, by go_num, HR8, HB8, HQ, HK8⟩
    · go_wp2_with fail
      go_ret
      have e9 : i = m := by have := him.out; have := HM.out; omega
      subst e9
      first | exact ⟨_, _, rfl, hr.out, hb.out, hk.out⟩ | exact ⟨_, rfl, hr.out, _, hb.out, hk.out⟩ | exact ⟨_, rfl, hr.out, ⟨_, hb.out⟩, hk.out⟩ | exact ⟨_, rfl, ⟨_, hr.out, hb.out⟩, hk.out⟩
end Go.Proofs.Ytgnjnomebebanaa.Mo

/- Arguments that are slices of numbers, or of structs of numbers: opened, read, handed back. Conditions: each theorem's own. -/
namespace Go.Proofs.Ytgnjnomebebanaa.Opn
open Go.ChangeShapes Go.WideShapes Go.RowKit Go.Deep Hp Go.Proofs.Ytgnjnomebebanaa.End
theorem keptCell {F : Nat → Prop} {w w' : World} (h : Kept F w w') {k : Nat} (hk : k < w.heap.size) (hF : ¬ F k) (o : Nat) : w'.cell? ⟨k, o, none⟩ = w.cell? ⟨k, o, none⟩ := by
  simp [World.cell?, h.block k hk hF]
/-- A slice of numbers that was there at the call. -/
def Ints (w : World) (s : Option Addr) (cap : Nat) (zs : List Int) : Prop :=
  zs.length ≤ cap ∧ (∀ n ∈ zs, (Lit.int .i64 n).wf = true) ∧ (zs = [] ∨ ∃ b off, s = some ⟨b, off, none⟩ ∧ b < w.heap.size ∧ ∀ j, j < zs.length → w.cell? ⟨b, off + j, none⟩ = some (.int .i64 (zs.getD j 0)))
theorem Ints.at {w w' : World} {s : Option Addr} {cap : Nat} {zs : List Int} (h : Ints w s cap zs) (k : Old w w') {j : Nat} (hj : j < zs.length) :
    ∃ b off, s = some ⟨b, off, none⟩ ∧ b < w.heap.size ∧ w'.cell? ⟨b, off + j, none⟩ = some (.int .i64 zs[j]) := by
  rcases h.2.2 with rfl | ⟨b, off, rfl, hb, hc⟩
  · simp at hj
  · refine ⟨b, off, rfl, hb, ?_⟩
    rw [keptCell k hb (fun h => h) (off + j), hc j hj]
    simp [List.getD, List.getElem?_eq_getElem hj]
theorem Ints.wf {w : World} {s : Option Addr} {cap : Nat} {zs : List Int} (h : Ints w s cap zs) {j : Nat} (hj : j < zs.length) : -9223372036854775808 ≤ zs[j] ∧ zs[j] ≤ 9223372036854775807 :=
  bounds_i64 (h.2.1 _ (List.getElem_mem hj))
/-- A slice of structs of m numbers that was there at the call. -/
def Structs (w : World) (s : Option Addr) (cap m : Nat) (zs : List (List Int)) : Prop :=
  zs.length ≤ cap ∧ (∀ r ∈ zs, r.length = m ∧ ∀ n ∈ r, (Lit.int .i64 n).wf = true) ∧
  (zs = [] ∨ ∃ b off, s = some ⟨b, off, none⟩ ∧ b < w.heap.size ∧ ∀ i, i < zs.length → ∀ j, j < m → w.cell? ⟨b, off + i * m + j, none⟩ = some (.int .i64 ((zs.getD i []).getD j 0)))
theorem Structs.cell {w w' : World} {s : Option Addr} {cap m : Nat} {zs : List (List Int)} (h : Structs w s cap m zs) (k : Old w w') {i j : Nat} (hi : i < zs.length) (hj : j < m) :
    ∃ b off, s = some ⟨b, off, none⟩ ∧ b < w.heap.size ∧ w'.cell? ⟨b, off + i * m + j, none⟩ = some (.int .i64 ((zs.getD i []).getD j 0)) := by
  rcases h.2.2 with rfl | ⟨b, off, rfl, hb, hc⟩
  · simp at hi
  · exact ⟨b, off, rfl, hb, by rw [keptCell k hb (fun h => h), hc i hi j hj]⟩
theorem Structs.wf {w : World} {s : Option Addr} {cap m : Nat} {zs : List (List Int)} (h : Structs w s cap m zs) {i j : Nat} (hi : i < zs.length) (hj : j < m) :
    -9223372036854775808 ≤ (zs.getD i []).getD j 0 ∧ (zs.getD i []).getD j 0 ≤ 9223372036854775807 := by
  have e : zs.getD i [] = zs[i] := by simp [List.getD, List.getElem?_eq_getElem hi]
  obtain ⟨hl, hn⟩ := h.2.1 zs[i] (List.getElem_mem hi)
  have hj' : j < zs[i].length := by omega
  have e2 : zs[i].getD j 0 = zs[i][j] := by simp [List.getD, List.getElem?_eq_getElem hj']
  rw [e, e2]
  exact bounds_i64 (hn _ (List.getElem_mem hj'))
theorem laidOut : laidOutB Try.prog = true := by kernel_rfl
theorem back {H : Type} {enc : TypeId × Value → H} {W W' : World} {t : TypeId} {v : Value} {d : DataW H} {p : List MemPlace} {sp : Nat → Bool} (h1 : Try.prog.readableRec t = true) (h2 : t < Try.prog.types.size)
    (h : DataW.Trod enc Try.prog W 0 (fun _ => true) true t v d p)
    (hb : Old W W') (hlt : ∀ x ∈ p, x.block < W.heap.size) (hs : ∀ x ∈ p, sp x.block = true) : DataW.Trod enc Try.prog W' 0 sp true t v d p :=
  WideElems.Trod_stays laidOut h1 h2 h (fun x hx => hb.below.same (hlt x hx)) (fun x hx => hs x hx)
set_option maxRecDepth 100000 in
theorem ints_of {H : Type} {enc : TypeId × Value → H} {W : World} {base : Nat} {t e : TypeId} {v : Value} {d : DataW H} {p : List MemPlace} (ht : Try.prog.underlying t = some (.slice e)) (he : Try.prog.underlying e = some (.int .i64)) (hC : Try.prog.cellsOf e = 1)
    (hv : Value.okWide Try.prog W .any base t v) (h : DataW.Trod enc Try.prog W 0 (fun _ => true) true t v d p) : ∃ s cap zs, v = .slice s (List.length zs) cap ∧ Ints W s cap zs := by
  obtain ⟨a, len, cap, rfl⟩ := okWide_slice ht hv
  obtain ⟨_, hf⟩ := h
  rcases open_ints ht he hC hf with ⟨hcs, hx⟩ | ⟨a', len', cap', zs, hcs, _, hl, hm, hz, hx, hcell, hwz⟩
  · simp [Value.cells] at hcs
    obtain ⟨rfl, rfl, rfl⟩ := hcs
    exact ⟨none, 0, [], rfl, Nat.le_refl _, by simp, Or.inl rfl⟩
  · simp [Value.cells] at hcs
    obtain ⟨rfl, rfl, rfl⟩ := hcs
    simp only [if_true] at hz
    have hlen : (zs.take len).length = len := by rw [List.length_take]; omega
    refine ⟨some a', cap, zs.take len, by rw [hlen], by omega, fun n hn => hwz n (List.mem_of_mem_take hn), ?_⟩
    by_cases h0 : len = 0
    · left; rw [h0]; rfl
    · right
      obtain ⟨b, off, rfl, hc⟩ := ints_at hcell (by omega)
      refine ⟨b, off, rfl, ?_, fun j hj => ?_⟩
      · exact World.block_lt_of_cell? W _ (hc 0 (by omega))
      · rw [hc j (by omega)]
        have : j < len := by omega
        simp [List.getD, this]
/-- The cells of one struct of numbers are numbers. -/
theorem struct_ints {H : Type} {enc : TypeId × Value → H} {W : World} {base fuel : Nat} {sp : Nat → Bool} {held : Bool} {e : TypeId} {fs : Array Field} {cs : List Value} {x : DataW H × List MemPlace} (he : Try.prog.underlying e = some (.struct fs)) (hone : oneCellFields Try.prog fs = true) (hC : Try.prog.cellsOf e = fs.size)
    (hint : ∀ (j : Nat) (f : Field), fs[j]? = some f → Try.prog.underlying f.type = some (.int .i64)) (h : DataW.trod enc Try.prog W base sp held fuel e cs = some x) :
    ∃ r : List Int, r.length = fs.size ∧ (∀ n ∈ r, (Lit.int .i64 n).wf = true) ∧ ∀ j, j < fs.size → cs[j]? = some (.int .i64 (r.getD j 0)) := by
  obtain ⟨ys, n', _, _, hlen, hyl, hf⟩ := DataW.trod_struct he h
  have each : ∀ j, j < fs.size → ∃ n : Int, cs[j]? = some (.int .i64 n) ∧ (Lit.int .i64 n).wf = true := by
    intro j hj
    have hfj : fs[j]? = some fs[j] := Array.getElem?_eq_getElem hj
    obtain ⟨ho, hk⟩ := hone_of hone j _ hfj
    have h1 := hf j _ hfj
    rw [ho, hk, List.getElem?_eq_getElem (show j < ys.length by omega)] at h1
    obtain ⟨n, e1, _, e3⟩ := DataW.trod_int (hint j _ hfj) h1
    refine ⟨n, ?_, e3⟩
    have := congrArg (fun l : List Value => l[0]?) e1
    simpa [List.getElem?_take, List.getElem?_drop] using this
  refine ⟨(List.range fs.size).map fun j => intOf (cs.getD j (.bool false)), by simp, ?_, ?_⟩
  · intro n hn
    obtain ⟨j, hj, rfl⟩ := List.mem_map.1 hn
    obtain ⟨m, e1, e2⟩ := each j (List.mem_range.1 hj)
    simpa [List.getD, e1, intOf] using e2
  · intro j hj
    obtain ⟨m, e1, e2⟩ := each j hj
    rw [e1]
    simp [List.getD, hj, e1, intOf]
set_option maxRecDepth 100000 in
theorem structs_of {H : Type} {enc : TypeId × Value → H} {W : World} {base : Nat} {t e : TypeId} {fs : Array Field} {v : Value} {d : DataW H} {p : List MemPlace} (ht : Try.prog.underlying t = some (.slice e)) (he : Try.prog.underlying e = some (.struct fs)) (hone : oneCellFields Try.prog fs = true) (hC : Try.prog.cellsOf e = fs.size) (h0 : 0 < fs.size)
    (hint : ∀ (j : Nat) (f : Field), fs[j]? = some f → Try.prog.underlying f.type = some (.int .i64))
    (hv : Value.okWide Try.prog W .any base t v) (h : DataW.Trod enc Try.prog W 0 (fun _ => true) true t v d p) : ∃ s cap zs, v = .slice s (List.length zs) cap ∧ Structs W s cap fs.size zs := by
  obtain ⟨a, len, cap, rfl⟩ := okWide_slice ht hv
  obtain ⟨_, hf⟩ := h
  rcases open_slice ht hf with ⟨hcs, hx⟩ | ⟨a', len', cap', m, n, D, Pl, hcs, _, hl, _, hm, _, hi⟩
  · simp [Value.cells] at hcs
    obtain ⟨rfl, rfl, rfl⟩ := hcs
    exact ⟨none, 0, [], rfl, Nat.le_refl _, by simp, Or.inl rfl⟩
  · simp [Value.cells] at hcs
    obtain ⟨rfl, rfl, rfl⟩ := hcs
    simp only [if_true] at hm
    have each : ∀ i, i < len → ∃ r : List Int, r.length = fs.size ∧ (∀ n ∈ r, (Lit.int .i64 n).wf = true) ∧ ∀ j, j < fs.size → W.cell? ((a'.add (i * fs.size)).add j) = some (.int .i64 (r.getD j 0)) := by
      intro i hil
      obtain ⟨cs', hc, ht'⟩ := hi i (by omega)
      rw [hC] at hc
      obtain ⟨_, hcl, hat⟩ := World.cells?_some hc
      obtain ⟨r, r1, r2, r3⟩ := struct_ints he hone hC hint ht'
      exact ⟨r, r1, r2, fun j hj => by rw [hat j hj, r3 j hj]⟩
    have ex : ∃ Z : Nat → List Int, ∀ i, i < len → (Z i).length = fs.size ∧ (∀ n ∈ Z i, (Lit.int .i64 n).wf = true) ∧ ∀ j, j < fs.size → W.cell? ((a'.add (i * fs.size)).add j) = some (.int .i64 ((Z i).getD j 0)) := by
      classical
      exact ⟨fun i => if h : i < len then (each i h).choose else [], fun i h => by simp only [dif_pos h]; exact (each i h).choose_spec⟩
    obtain ⟨Z, hZ⟩ := ex
    have hlen : ((List.range len).map Z).length = len := by simp
    have hget : ∀ i, i < len → ((List.range len).map Z).getD i [] = Z i := fun i hi => by simp [List.getD, hi]
    refine ⟨some a', cap, (List.range len).map Z, by rw [hlen], by omega, ?_, ?_⟩
    · intro r hr
      obtain ⟨i, hi, rfl⟩ := List.mem_map.1 hr
      have := hZ i (List.mem_range.1 hi)
      exact ⟨this.1, this.2.1⟩
    · by_cases hz : len = 0
      · left; rw [hz]; rfl
      · right
        have hp : 0 < len := by omega
        have first : ∀ j, j < [(Z 0).getD 0 0].length → W.cell? (a'.add j) = some (.int .i64 ([(Z 0).getD 0 0].getD j 0)) := fun j hj => by
          obtain rfl : j = 0 := by simp at hj; omega
          have := (hZ 0 hp).2.2 0 h0
          simpa [Addr.add] using this
        obtain ⟨b, off, rfl, hc⟩ := ints_at first (by simp)
        refine ⟨b, off, rfl, World.block_lt_of_cell? W _ (hc 0 (by simp)), fun i hi j hj => ?_⟩
        rw [hlen] at hi
        rw [hget i hi]
        have := (hZ i hi).2.2 j hj
        rw [Go.WideShapes.add_plain, Go.WideShapes.add_plain] at this
        exact this
end Go.Proofs.Ytgnjnomebebanaa.Opn

/- Boxes of ints in a row beside lists in a row: what MuxBoxes holds. Conditions: each theorem's own. -/
namespace Go.Proofs.Ytgnjnomebebanaa.Mo
open Go.Conc Go.RowKit Hp Opn
def upd {α : Type} (f : Nat → α) (k : Nat) (v : α) : Nat → α := fun i => if i = k then v else f i
theorem upd_at {α : Type} (f : Nat → α) (k : Nat) (v : α) : upd f k v k = v := by simp [upd]
theorem upd_ne {α : Type} (f : Nat → α) {k i : Nat} (h : i ≠ k) (v : α) : upd f k v i = f i := by simp [upd, h]
theorem upd_upd {α : Type} (f : Nat → α) (k : Nat) (u v : α) : upd (upd f k u) k v = upd f k v := by
  funext i; unfold upd; split <;> rfl
theorem upd_self {α : Type} (f : Nat → α) {k : Nat} {v : α} (h : f k = v) : upd f k v = f := by
  funext i; unfold upd; split
  · next e => rw [e, h]
  · rfl
theorem map_upd (V : Nat → Value) (k n : Nat) (v : Value) : ((List.range n).map V).set k v = (List.range n).map (upd V k v) := by
  apply List.ext_getElem?
  intro i
  rw [List.getElem?_set]
  split
  · next e =>
    subst e
    by_cases hn : k < n
    · simp [hn, upd]
    · simp [hn]
  · next e =>
    by_cases hn : i < n
    · simp [hn, upd, Ne.symm e]
    · simp [hn]
theorem ne_T {w : World} {b f : Nat} {c d : List Value} {T T' : TypeId} (h : Blk w b c T) (h' : Blk w f d T') (hT : T ≠ T') : b ≠ f := fun e => by
  subst e
  exact hT (h.inj h').2
/-- Pointers at boxes. -/
@[reducible] def eT : Rw.Ty Nat where
  E := 27
  L := 25
  k := 1
  bz := 8
  enc := fun b => [ptr b]
  z := .pointer none
  hL := Try.underlying25
  hI := by kernel_rfl
  hz := rfl
  hk := fun x => rfl
  h1 := fun x v hv => by
    simp only [List.mem_cons, List.not_mem_nil, or_false] at hv
    subst hv; rfl
  k0 := by decide
  hb := by decide
/-- q boxes, r of them in the row bsv; n lists in the row of block mb. What lies in the boxes is L, in the lists M. -/
structure Sx (w0 : World) (n q r : Nat) (rm : Nat → Nat) (B C : Nat → Nat) (bsv : Value) (mb : Nat) (L M : Nat → List Int) (V : Nat → Value) (w : World) : Prop where
  since : Kept (fun _ => False) w0 w
  box : ∀ j, j < q → ∃ ps, Bx w (B j) (C j) (rm j) ps (L j)
  ne : ∀ i j, i < q → j < q → i ≠ j → C i ≠ C j
  hi : ∀ j, j < q → w0.heap.size ≤ C j
  brow : Rw.Row eT w w0.heap.size bsv ((List.range r).map B)
  m : Blk w mb ((List.range n).map V) 22
  mhi : w0.heap.size ≤ mb
  row : ∀ j, j < n → Ro.Row dT w (V j) (M j)
  rl : ∀ j, j < q → rm j ≤ 10000 ∧ (L j).length ≤ rm j
section
variable {w0 w w' : World} {n q r : Nat} {rm : Nat → Nat} {B C : Nat → Nat} {bsv : Value} {mb : Nat} {L M : Nat → List Int} {V : Nat → Value}
theorem Sx.quiet (h : Sx w0 n q r rm B C bsv mb L M V w) (k : Kept (fun _ => False) w w') : Sx w0 n q r rm B C bsv mb L M V w' :=
  ⟨h.since.trans k, fun j hj => by obtain ⟨ps, hb⟩ := h.box j hj; exact ⟨ps, hb.quiet k⟩, h.ne, h.hi, h.brow.old k, k.blk h.m (fun f => f), h.mhi, fun j hj => (h.row j hj).old k, h.rl⟩
theorem row_ne {v : Value} {l : List Int} (h : Ro.Row dT w v l) {b c room : Nat} {ps : List Nat} {vs : List Int} (hb : Bx w b c room ps vs) : ∀ g, v.ownBlock = some g → ¬ g = c := by
  rcases h with ⟨rfl, _⟩ | ⟨g, o, cap, cur, rfl, h⟩
  · intro g e; cases e
  · intro g' e; cases e; exact hb.ne h.blk
theorem brow_ne {v : Value} {base : Nat} {l : List Nat} (h : Rw.Row eT w base v l) {b c room : Nat} {ps : List Nat} {vs : List Int} (hb : Bx w b c room ps vs) : ∀ g, v.ownBlock = some g → ¬ g = c := by
  rcases h.form with ⟨rfl, _⟩ | ⟨g, cap, cur, rfl, _, h⟩
  · intro g e; cases e
  · intro g' e; cases e; exact hb.ne h.blk
/-- What a call of one box leaves of the others. -/
theorem Sx.put (h : Sx w0 n q r rm B C bsv mb L M V w) {k : Nat} (hk : k < q) {ps' : List Nat} {l' : List Int} (hb : Bx w' (B k) (C k) (rm k) ps' l') (hl : l'.length ≤ rm k) (kk : Kept (fun i => i = C k) w w') : Sx w0 n q r rm B C bsv mb (upd L k l') M V w' := by
  obtain ⟨pk, hbk⟩ := h.box k hk
  refine ⟨h.since.trans' kk (fun i hi e => by have := h.hi k hk; omega), fun j hj => ?_, h.ne, h.hi, h.brow.kept kk (brow_ne h.brow hbk), kk.blk h.m (hbk.ne h.m), h.mhi, fun j hj => (h.row j hj).kept kk (row_ne (h.row j hj) hbk), fun j hj => ?_⟩
  · by_cases e : j = k
    · subst e; rw [upd_at]; exact ⟨_, hb⟩
    · rw [upd_ne _ e]
      obtain ⟨pj, hbj⟩ := h.box j hj
      exact ⟨pj, hbj.other hbk (h.ne j k hj hk e) kk⟩
  · by_cases e : j = k
    · subst e; rw [upd_at]; exact ⟨(h.rl j hj).1, hl⟩
    · rw [upd_ne _ e]; exact h.rl j hj
/-- A list that is laid in its place. -/
theorem Sx.setM (h : Sx w0 n q r rm B C bsv mb L M V w) {k : Nat} (hk : k < n) {v' : Value} {l' : List Int} (hr : Ro.Row dT w v' l') : Sx w0 n q r rm B C bsv mb L (upd M k l') (upd V k v') (w.setCell ⟨mb, k, none⟩ v') := by
  have kk := Kept.one w mb k v'
  have rne : ∀ {v : Value} {l : List Int}, Ro.Row dT w v l → ∀ g, v.ownBlock = some g → ¬ g = mb := by
    intro v l hv
    rcases hv with ⟨rfl, _⟩ | ⟨g, o, cap, cur, rfl, hv⟩
    · intro g e; cases e
    · intro g' e; cases e; exact ne_T hv.blk h.m (by decide)
  refine ⟨h.since.trans' kk (fun i hi e => by have := h.mhi; omega), fun j hj => ?_, h.ne, h.hi, h.brow.kept kk (fun g hg => ?_), ?_, h.mhi, fun j hj => ?_, h.rl⟩
  · obtain ⟨ps, hb⟩ := h.box j hj
    refine ⟨ps, hb.far kk (ne_T hb.box h.m (by decide)) (fun e => hb.ne h.m e.symm) (fun p hp => ?_)⟩
    obtain ⟨i, hi⟩ := List.getElem?_of_mem hp
    have hl := hb.len
    have h1 := (List.getElem?_eq_some_iff.1 hi).1
    exact ne_T (hb.cells i p _ hi (List.getElem?_eq_getElem (by omega))) h.m (by decide)
  · rcases h.brow.form with ⟨e, _⟩ | ⟨g', cap, cur, e, _, hb⟩
    · rw [e] at hg; cases hg
    · rw [e] at hg; cases hg; exact ne_T hb.blk h.m (by decide)
  · rw [← map_upd]; exact h.m.set k v'
  · by_cases e : j = k
    · subst e; rw [upd_at, upd_at]; exact hr.kept kk (rne hr)
    · rw [upd_ne _ e, upd_ne _ e]; exact (h.row j hj).kept kk (rne (h.row j hj))
theorem Sx.mcell (h : Sx w0 n q r rm B C bsv mb L M V w) {k : Nat} (hk : k < n) : w.cell? ⟨mb, k, none⟩ = some (V k) ∧ w.frozen? ⟨mb, k, none⟩ = false :=
  ⟨h.m.cell (by simp [hk]), h.m.frozen k⟩
theorem Sx.bcell {bg cap : Nat} (h : Sx w0 n q r rm B C (.slice (some ⟨bg, 0, none⟩) r cap) mb L M V w) {k : Nat} (hk : k < r) : w.cell? ⟨bg, k, none⟩ = some (ptr (B k)) := by
  rcases h.brow.form with ⟨e, _⟩ | ⟨g, cap', cur, e, _, hb⟩
  · cases e
  · have hg : bg = g := by have := (Value.slice.inj e).1; simpa using this
    subst hg
    have := hb.cell (i := k) (x := B k) (by simp [hk]) (j := 0) (u := ptr (B k)) rfl
    rwa [Nat.add_zero, Nat.mul_one] at this
theorem Sx.offer (h : Sx w0 n q r rm B C bsv mb L M V w) {k : Nat} (hk : k < q) (v : Int) :
    Calls Try.prog 7 #[ptr (B k), .int .i64 v] w fun e w' => e = .returned (.bool (decide ((L k).length < rm k))) ∧ Sx w0 n q r rm B C bsv mb (upd L k (push (rm k) (L k) v)) M V w' ∧ Kept (fun i => i = C k) w w' := by
  obtain ⟨ps, hb⟩ := h.box k hk
  unfold push
  by_cases hl : (L k).length < rm k
  · rw [if_pos hl]
    refine Calls.mono (offer_room hb hl v) ?_
    rintro e w' ⟨rfl, h1, h2⟩
    exact ⟨by rw [decide_eq_true hl], h.put hk h1 (by rw [List.length_append, List.length_singleton]; omega) h2, h2⟩
  · rw [if_neg hl]
    refine Calls.mono (offer_full hb (by omega) v) ?_
    rintro e w' ⟨rfl, h2⟩
    exact ⟨by rw [decide_eq_false hl], by rw [upd_self L rfl]; exact h.quiet h2, h2.mono (fun _ _ f => f.elim)⟩
theorem Sx.empty (h : Sx w0 n q r rm B C bsv mb L M V w) {k : Nat} (hk : k < q) (h0 : L k = []) : Emp (ptr (B k)) w := by
  obtain ⟨ps, hb⟩ := h.box k hk
  rw [h0] at hb
  obtain rfl : ps = [] := List.length_eq_zero_iff.1 hb.len
  exact take_empty hb
theorem Sx.take (h : Sx w0 n q r rm B C bsv mb L M V w) {k : Nat} (hk : k < q) {x : Int} {xs : List Int} (h0 : L k = x :: xs) :
    Calls Try.prog 8 #[ptr (B k)] w fun e w' => e = .returned (.tuple #[.int .i64 x, .bool true]) ∧ Sx w0 n q r rm B C bsv mb (upd L k xs) M V w' ∧ Kept (fun i => i = C k) w w' := by
  obtain ⟨ps, hb⟩ := h.box k hk
  have hl := (h.rl k hk).2
  rw [h0] at hb hl
  obtain ⟨p, ps', rfl⟩ : ∃ p ps', ps = p :: ps' := by
    cases ps with
    | nil => have := hb.len; simp at this
    | cons p q => exact ⟨p, q, rfl⟩
  refine Calls.mono (take_first hb) ?_
  rintro e w' ⟨rfl, h1, h2⟩
  exact ⟨rfl, h.put hk h1 (by rw [List.length_cons] at hl; omega) h2, h2⟩
theorem Sx.drain (h : Sx w0 n q r rm B C bsv mb L M V w) {k : Nat} (hk : k < q) (z : Int) (hz : z ≤ 9223372036854775807) :
    Calls Try.prog 10 #[ptr (B k), .int .i64 z] w fun e w' => ∃ v', e = .returned v' ∧ Rw.Row dT w' w.heap.size v' ((L k).take z.toNat) ∧ Sx w0 n q r rm B C bsv mb (upd L k ((L k).drop z.toNat)) M V w' ∧ Kept (fun i => i = C k) w w' := by
  obtain ⟨ps, hb⟩ := h.box k hk
  have hl := h.rl k hk
  refine Calls.mono (drain_any hb (by omega) z hz) ?_
  rintro e w' ⟨v', ps', rfl, h1, h2, h3⟩
  exact ⟨v', rfl, h1, h.put hk h2 (by rw [List.length_drop]; omega) h3, h3⟩
theorem Sx.size (h : Sx w0 n q r rm B C bsv mb L M V w) {k : Nat} (hk : k < q) : Calls Try.prog 12 #[ptr (B k)] w fun e w' => e = .returned (.int .i64 (L k).length) ∧ w = w' := by
  obtain ⟨ps, hb⟩ := h.box k hk
  exact len_box hb
theorem Sx.fnone {bg cap : Nat} (h : Sx w0 n q q rm B C (.slice (some ⟨bg, 0, none⟩) q cap) mb L M V w) (hq : q ≤ 8) (h0 : ∀ j, j < q → L j = []) :
    Calls Try.prog 11 #[.slice (some ⟨bg, 0, none⟩) q cap] w fun e w' => e = .returned (.tuple #[.int .i64 (-1), .int .i64 0, .bool false]) ∧ w = w' := by
  have hl : ((List.range q).map fun j => ptr (B j)).length = q := by simp
  have := first_none (w := w) (g := bg) (cap := cap) (hs := (List.range q).map fun j => ptr (B j)) (fun j x hx => by
    have hj : j < q := by have := (List.getElem?_eq_some_iff.1 hx).1; rwa [hl] at this
    obtain rfl : ptr (B j) = x := by simpa [hj] using hx
    exact ⟨h.bcell hj, h.empty hj (h0 j hj)⟩) (by rw [hl]; omega)
  rwa [hl] at this
theorem Sx.fsome {bg cap : Nat} (h : Sx w0 n q q rm B C (.slice (some ⟨bg, 0, none⟩) q cap) mb L M V w) (hq : q ≤ 8) {k : Nat} (hk : k < q) (h0 : ∀ j, j < k → L j = []) {x : Int} {xs : List Int} (hx : L k = x :: xs) :
    Calls Try.prog 11 #[.slice (some ⟨bg, 0, none⟩) q cap] w fun e w' => e = .returned (.tuple #[.int .i64 (k : Nat), .int .i64 x, .bool true]) ∧ Sx w0 n q q rm B C (.slice (some ⟨bg, 0, none⟩) q cap) mb (upd L k xs) M V w' ∧ Kept (fun i => i = C k) w w' := by
  have hl : ((List.range q).map fun j => ptr (B j)).length = q := by simp
  have := first_some (w := w) (g := bg) (cap := cap) (hs := (List.range q).map fun j => ptr (B j)) (k := k) (y := ptr (B k)) (fun j y hj hy => by
    have hjq : j < q := by omega
    obtain rfl : ptr (B j) = y := by simpa [hjq] using hy
    exact ⟨h.bcell hjq, h.empty hjq (h0 j hj)⟩) (by simp [hk]) (h.bcell hk) (h.take hk hx) (by rw [hl]; omega)
  rwa [hl] at this
/-- One box more. -/
theorem Sx.made (h : Sx w0 n q r rm B C bsv mb L M V w) {b c : Nat} (hr : r ≤ q) (k : Kept (fun _ => False) w w') (hb : Bx w' b c (rm q) [] []) (hc : w.heap.size ≤ c) (hq : rm q ≤ 10000) (h0 : L q = []) : Sx w0 n (q + 1) r rm (upd B q b) (upd C q c) bsv mb L M V w' := by
  have h' := h.quiet k
  have hlt : ∀ j, j < q → C j < w.heap.size := fun j hj => by obtain ⟨ps, hb⟩ := h.box j hj; exact hb.lt
  have hs := h.since.size
  refine ⟨h'.since, fun j hj => ?_, fun i j hi hj hij => ?_, fun j hj => ?_, ?_, h'.m, h.mhi, h'.row, fun j hj => ?_⟩
  · by_cases e : j = q
    · subst e; rw [upd_at, upd_at, h0]; exact ⟨[], hb⟩
    · rw [upd_ne _ e, upd_ne _ e]; exact h'.box j (by omega)
  · by_cases e1 : i = q
    · subst e1
      rw [upd_at, upd_ne _ (Ne.symm hij)]
      have := hlt j (by omega); omega
    · by_cases e2 : j = q
      · subst e2
        rw [upd_at, upd_ne _ e1]
        have := hlt i (by omega); omega
      · rw [upd_ne _ e1, upd_ne _ e2]; exact h.ne i j (by omega) (by omega) hij
  · by_cases e : j = q
    · subst e; rw [upd_at]; omega
    · rw [upd_ne _ e]; exact h.hi j (by omega)
  · have e : (List.range r).map (upd B q b) = (List.range r).map B := List.map_congr_left fun i hi => by
      have := List.mem_range.1 hi
      exact upd_ne _ (by omega) _
    rw [e]; exact h'.brow
  · by_cases e : j = q
    · subst e; rw [h0]; exact ⟨hq, Nat.zero_le _⟩
    · exact h.rl j (by omega)
theorem Sx.app (h : Sx w0 n q r rm B C bsv mb L M V w) {v' : Value} (A : Rw.Apd eT w w0.heap.size bsv ((List.range r).map B ++ [B r]) v' w') : Sx w0 n q (r + 1) rm B C v' mb L M V w' := by
  have own : ∀ g, bsv.ownBlock = some g → ∃ c, Blk w g c 27 := by
    rcases h.brow.form with ⟨e, _⟩ | ⟨g, cap, cur, e, _, hb⟩
    · intro g hg; rw [e] at hg; cases hg
    · intro g' hg; rw [e] at hg; cases hg; exact ⟨_, hb.blk⟩
  have kk := A.kept
  have far : ∀ {g : Nat} {c : List Value} {T : TypeId}, Blk w g c T → 27 ≠ T → ¬ bsv.ownBlock = some g := fun hb hT e => by
    obtain ⟨c, hc⟩ := own _ e
    exact hT (hc.inj hb).2
  refine ⟨h.since.trans' kk (fun i hi e => by have := (h.brow.lt i e).1; omega), fun j hj => ?_, h.ne, h.hi, ?_, kk.blk h.m (far h.m (by decide)), h.mhi, fun j hj => (h.row j hj).kept kk ?_, h.rl⟩
  · obtain ⟨ps, hb⟩ := h.box j hj
    refine ⟨ps, hb.far kk (far hb.box (by decide)) (fun e => by obtain ⟨c, hc⟩ := own _ e; exact hb.ne hc rfl) (fun p hp => ?_)⟩
    obtain ⟨i, hi⟩ := List.getElem?_of_mem hp
    have hl := hb.len
    have h1 := (List.getElem?_eq_some_iff.1 hi).1
    exact far (hb.cells i p _ hi (List.getElem?_eq_getElem (by omega))) (by decide)
  · rw [List.range_succ, List.map_append, List.map_singleton]; exact A.row
  · rcases h.row j hj with ⟨e, _⟩ | ⟨g, o, cap, cur, e, hv⟩
    · intro g hg; rw [e] at hg; cases hg
    · intro g' hg; rw [e] at hg; cases hg; exact far hv.blk (by decide)
theorem Sx.keepC (h : Sx w0 n q r rm B C bsv mb L M V w) {k : Nat} (hk : k < q) (kk : Kept (fun i => i = C k) w w') {b : Nat} {c : List Value} {T : TypeId} (hb : Blk w b c T) : Blk w' b c T := by
  obtain ⟨ps, hx⟩ := h.box k hk
  exact kk.blk hb (hx.ne hb)
theorem Sx.keepM (h : Sx w0 n q r rm B C bsv mb L M V w) (k : Nat) (v : Value) {b : Nat} {c : List Value} {T : TypeId} (hb : Blk w b c T) (hT : T ≠ 22) : Blk (w.setCell ⟨mb, k, none⟩ v) b c T :=
  hb.far (Ne.symm (ne_T hb h.m hT)) k v
theorem Sx.list (h : Sx w0 n q r rm B C bsv mb L M V w) {k : Nat} (hk : k < n) : ∃ a c, V k = .slice a (M k).length c ∧ (M k).length ≤ c ∧ c ≤ maxLen := (h.row k hk).slice
end
end Go.Proofs.Ytgnjnomebebanaa.Mo

/- Round of a positive number. Conditions: the theorem's own. -/
namespace Go.Proofs.Ytgnjnomebebanaa.Rnd
open Go.RowKit Hp
attribute [local go_sem ↓] Go.wp_at_zero Go.wp_at_succ
theorem tmod_emod (k n : Int) (hn : 0 < n) : k % n = if k.tmod n < 0 then k.tmod n + n else k.tmod n := by
  have e : k % n = (k.tmod n) % n := by
    have h : k = k.tmod n + n * k.tdiv n := by rw [Int.tmod_def]; omega
    have h2 : (k.tmod n + n * k.tdiv n) % n = (k.tmod n) % n := Int.add_mul_emod_self_left _ _ _
    rw [← h] at h2
    exact h2
  have t1 := Int.tmod_lt_of_pos k hn
  have t2 : -n < k.tmod n := by
    have := Int.tmod_lt_of_pos (-k) hn
    rw [Int.neg_tmod] at this
    omega
  rw [e]
  split
  · rw [← Int.add_emod_right, Int.emod_eq_of_lt (by omega) (by omega)]
  · exact Int.emod_eq_of_lt (by omega) t1
theorem round_pos {k n : Int} (hn : 0 < n) (hn2 : n ≤ 1000000) (h0 : -9223372036854775808 ≤ k) (h1 : k ≤ 9223372036854775807) (w : World) :
    Calls Try.prog 6 #[.int .i64 k, .int .i64 n] w fun e w' => e = .returned (.int .i64 (k % n)) ∧ w = w' := by
  have hne : ¬ n = 0 := by omega
  have hne2 : (n == 0) = false := by rw [beq_eq_false_iff_ne]; exact hne
  have he := tmod_emod k n hn
  by_cases hk : 0 ≤ k
  · have t3 := Int.emod_nonneg k hne
    clear he
    go_enter Try.func6, Try.ntmps6
    go_wp2_with fail
    go_ret
    exact ⟨rfl, rfl⟩
  · have t1 := Int.tmod_lt_of_pos k hn
    have t2 : -n < k.tmod n := by
      have := Int.tmod_lt_of_pos (-k) hn
      rw [Int.neg_tmod] at this
      omega
    by_cases hr : k.tmod n < 0
    · rw [if_pos hr] at he
      rw [he]
      clear he
      go_enter Try.func6, Try.ntmps6
      go_wp2_with fail
      go_ret
      exact ⟨rfl, rfl⟩
    · rw [if_neg hr] at he
      rw [he]
      clear he
      go_enter Try.func6, Try.ntmps6
      go_wp2_with fail
      go_ret
      exact ⟨rfl, rfl⟩
end Go.Proofs.Ytgnjnomebebanaa.Rnd

/- MuxBoxes' text up to its gates, walked alone: its beginning. Conditions: each theorem's own. -/
namespace Go.Proofs.Ytgnjnomebebanaa.Mo
open Go.Conc Go.RowKit Hp Br Go.Proofs.Ytgnjnomebebanaa.End Opn
def RB (w : World) (_ : FuncId) (t : Array Value) (w' : World) : Prop := t.size = 291 ∧ t.getD 4 undef = .bool true ∧ Old w w'
set_option maxHeartbeats 4000000 in
set_option maxRecDepth 100000 in
theorem boxes_early {c : Code} (hc : Try.f3.body = some c) (w : World) {s0 s1 : Option Addr} {cap0 cap1 : Nat} {a : List Int} {b : List (List Int)} (h : a.length = 0 ∨ 8 < a.length ∨ 100 < b.length) :
    (cutCode 4 c).wp Try.prog (fun e a' w' => (e = .ret ∨ e = .normal) ∧ RB w 3 a'.tmps w') { tmps := #[.slice s0 a.length cap0, .slice s1 b.length cap1] ++ Array.replicate (Try.f3.ntmps - #[Value.slice s0 a.length cap0, .slice s1 b.length cap1].size) undef, defers := [] } w := by
  unfold Try.f3 at hc
  simp only [Option.some.injEq] at hc
  subst hc
  generalize a.length = la at *
  generalize b.length = lb at *
  simp only [cutCode, gateOf, callsF, List.findIdx?, List.findIdx?.go, cutOps, Nat.reduceBEq, beq_self_eq_true, ↓reduceIte, Bool.false_eq_true, Nat.reduceAdd]
  simp only [List.take_succ_cons, List.take_zero, List.drop_succ_cons, List.drop_zero, List.map_cons, List.map_nil, List.nil_append, List.cons_append, idle]
  simp only [Try.ntmps3, List.size_toArray, List.length_cons, List.length_nil, Nat.reduceAdd, Nat.reduceSub, Array.replicate_succ, Array.replicate_zero, List.push_toArray, List.append_toArray, List.nil_append, List.cons_append]
  go_upto_region 1 with fail
  have hcase : la = 0 ∨ (((la : Int) == 0) = false ∧ 8 < la) ∨ (((la : Int) == 0) = false ∧ la ≤ 8 ∧ 100 < lb) := by
    rw [beq_eq_false_iff_ne]; omega
  clear h
  rcases hcase with rfl | ⟨h1, h2⟩ | ⟨h1, h2, h3⟩
  all_goals
    go_wp2_with fail
    exact ⟨rfl, rfl, Old.refl w⟩
end Go.Proofs.Ytgnjnomebebanaa.Mo

/- MuxBoxes' switch: where it stands. Conditions: each theorem's own. -/
namespace Go.Proofs.Ytgnjnomebebanaa.Mo
open Go.Conc Go.RowKit Hp Br Go.Proofs.Ytgnjnomebebanaa.End Opn
abbrev nl : Value := .slice none 0 0
/-- The room of a box. -/
abbrev rmf (a : List Int) : Nat → Nat := fun j => (a.getD j 0).toNat
theorem zero_rows {w : World} {n : Nat} : ∀ j, j < n → Ro.Row dT w nl [] := fun j _ => Or.inl ⟨rfl, rfl⟩
theorem rep_map (n : Nat) (v : Value) : (List.range n).map (fun _ => v) = List.replicate n v := by
  apply List.ext_getElem
  · simp
  · intro i h1 h2; simp
theorem infoS : (Try.prog.info? 22).map (fun i => (i.zero, i.size, i.bytes)) = some (some nl, 1, 24) := by kernel_rfl
theorem madeS (N : Nat) (hN : N ≤ 1000) (w : World) : (Instr.makeSlice 26 (.int .i64 (N : Int)) (.int .i64 (N : Int))).run Try.prog w = .ok (.slice (some ⟨w.heap.size, 0, none⟩) N N) (w.alloc (.cells (List.replicate N nl).toArray 22)) := by
  obtain ⟨ti, hti, hz0, hz1, hz2⟩ := info_parts infoS
  have := run_make (P := Try.prog) (w := w) 26 22 ti nl Try.underlying26 hti hz0 .i64 .i64 (N : Int) (N : Int) (by omega) (by omega) (by rw [hz2]; omega) (by omega)
  rw [Int.toNat_natCast, hz1, Nat.mul_one] at this
  rw [this]
  have e : madeCells nl.cells N = (List.replicate N nl).toArray := by
    apply Array.toList_inj.1
    have := toList_madeCells_one nl N
    rw [show nl.cells = #[nl] from rfl, this]
  rw [e]
/-- At the loop's start: no box yet. -/
theorem Sx.start {w w' : World} {a : List Int} {n mb : Nat} (k : Kept (fun _ => False) w w') (hm : Blk w' mb (List.replicate n nl) 22) (hmb : w.heap.size ≤ mb) :
    Sx w n 0 0 (rmf a) (fun _ => 0) (fun _ => 0) nl mb (fun _ => []) (fun _ => []) (fun _ => nl) w' :=
  ⟨k, fun j hj => absurd hj (by omega), fun i j hi => absurd hi (by omega), fun j hj => absurd hj (by omega), Rw.Row.none eT _ _, by rw [rep_map]; exact hm, hmb, zero_rows, fun j hj => absurd hj (by omega)⟩
def findBlock (k : Nat) : Code → Option Code
  | .loop c => findBlock k c
  | .seq a b => match findBlock k a with
    | some c => some c
    | none => findBlock k b
  | .block j c => if j = k then some (.block j c) else findBlock k c
  | .scope c => findBlock k c
  | .cond _ a b => match findBlock k a with
    | some c => some c
    | none => findBlock k b
  | _ => none
noncomputable def swb : Code := ((Try.f3.body.bind (findBlock 4)).getD .skip)
end Go.Proofs.Ytgnjnomebebanaa.Mo

