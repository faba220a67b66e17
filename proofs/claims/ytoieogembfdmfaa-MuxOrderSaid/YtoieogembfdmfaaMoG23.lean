/- First of boxes of ints, Drain. Conditions: each theorem's own. -/
import Derived.Test.YtoieogembfdmfaaMoG14
import Derived.LoopTactic
import Derived.Deep.LoopGhost
import Derived.Deep.DeepCutAuto
import Derived.OwnWalk
import Derived.Below
import Derived.ChangeSame
import Derived.ProofKit
import Derived.OpenShut
import Derived.Carry
import Derived.Deep.Slices
import Derived.Deep.Fields
import Derived.Test.YtoieogembfdmfaaMoG11
import Derived.Test.YtoieogembfdmfaaMoG22
set_option linter.unusedVariables false
set_option linter.unusedSimpArgs false
namespace Go.Proofs.Ytoieogembfdmfaa.Mo
open Go.Conc Go.RowKit Hp
/-- A box that has nothing. -/
def Emp (x : Value) (w : World) : Prop := Calls Try.prog 9 #[x] w fun e w' => e = .returned (.tuple #[.int .i64 0, .bool false]) ∧ w = w'
theorem first_none {w : World} {g cap : Nat} {hs : List Value} (h : ∀ (j : Nat) (x : Value), hs[j]? = some x → w.cell? ⟨g, j, none⟩ = some x ∧ Emp x w) (hl : hs.length ≤ 1000) :
    Calls Try.prog 8 #[.slice (some ⟨g, 0, none⟩) hs.length cap] w fun e w' => e = .returned (.tuple #[.int .i64 (-1), .int .i64 0, .bool false]) ∧ w = w' := by
  have HH := Lib.hid h
  clear h
  generalize hn : hs.length = n at *
  have HN := Lib.hid hn
  clear hn
  go_enter Try.func8, Try.ntmps8
  go_wp2_with fail
  go_loopg [3, 9] n (fun kx s3 s9 wr => ∃ (i : Nat), Hid (n - i ≤ kx) ∧ i ≤ n ∧ s9 = .int .i64 (i : Nat) ∧ s3 = .int .i64 0 ∧ w = wr)
  case atStart => exact ⟨0, Lib.hid (by omega), by omega, rfl, rfl, rfl⟩
  case round =>
    obtain ⟨i, hm, hi, rfl, rfl, rfl⟩ := hrel
    rcases Nat.lt_or_ge i n with hlt | hge
    · obtain ⟨x, hx⟩ : ∃ x, hs[i]? = some x := ⟨_, List.getElem?_eq_getElem (by rw [HN.out]; exact hlt)⟩
      obtain ⟨hc, hE⟩ := HH.out i x hx
      unfold Emp at hE
      have HE := Lib.hid hE
      clear hE hx
      go_wp2_with (go_at_call 9; (with_reducible refine Calls.mono HE.out ?_); rintro e w2 ⟨rfl, rfl⟩)
      go_roundg (n - (i + 1))
      case measure => have := hm.out; omega
      case rel => exact ⟨i + 1, Lib.hid (Nat.le_refl _), by omega, by go_num, rfl, rfl⟩
    · obtain rfl : i = n := by omega
      go_wp2_with fail
      go_ret3
      exact ⟨rfl, rfl⟩
theorem first_some {w : World} {g cap : Nat} {hs : List Value} {k : Nat} {y : Value} {v : Int} {R : World → Prop} (h : ∀ (j : Nat) (x : Value), j < k → hs[j]? = some x → w.cell? ⟨g, j, none⟩ = some x ∧ Emp x w) (hk : hs[k]? = some y) (hc : w.cell? ⟨g, k, none⟩ = some y)
    (hy : Calls Try.prog 9 #[y] w fun e w' => e = .returned (.tuple #[.int .i64 v, .bool true]) ∧ R w') (hl : hs.length ≤ 1000) :
    Calls Try.prog 8 #[.slice (some ⟨g, 0, none⟩) hs.length cap] w fun e w' => e = .returned (.tuple #[.int .i64 (k : Nat), .int .i64 v, .bool true]) ∧ R w' := by
  have hkn : k < hs.length := by
    rcases Nat.lt_or_ge k hs.length with h' | h'
    · exact h'
    · rw [List.getElem?_eq_none h'] at hk; cases hk
  have HH := Lib.hid h
  have HY := Lib.hid hy
  clear h hy hk
  generalize hn : hs.length = n at *
  have HN := Lib.hid hn
  clear hn
  go_enter Try.func8, Try.ntmps8
  go_wp2_with fail
  go_loopg [9] n (fun kx s9 wr => ∃ (i : Nat), Hid (n - i ≤ kx) ∧ i ≤ k ∧ s9 = .int .i64 (i : Nat) ∧ w = wr)
  case atStart => exact ⟨0, Lib.hid (by omega), by omega, rfl, rfl⟩
  case round =>
    obtain ⟨i, hm, hi, rfl, rfl⟩ := hrel
    have hin : i < n := by omega
    rcases Nat.lt_or_ge i k with hlt | hge
    · obtain ⟨x, hx⟩ : ∃ x, hs[i]? = some x := ⟨_, List.getElem?_eq_getElem (by rw [HN.out]; exact hin)⟩
      obtain ⟨hc2, hE⟩ := HH.out i x hlt hx
      unfold Emp at hE
      have HE := Lib.hid hE
      clear hE hx hc
      go_wp2_with (go_at_call 9; (with_reducible refine Calls.mono HE.out ?_); rintro e w2 ⟨rfl, rfl⟩)
      go_roundg (n - (i + 1))
      case measure => have := hm.out; omega
      case rel => exact ⟨i + 1, Lib.hid (Nat.le_refl _), by omega, by go_num, rfl⟩
    · obtain rfl : i = k := by omega
      go_wp2_with (go_at_call 9; (with_reducible refine Calls.mono HY.out ?_); rintro e w2 ⟨rfl, hR⟩)
      go_ret3
      exact ⟨rfl, hR⟩
theorem drain_none {x : Value} {w : World} (h : Emp x w) (n : Int) (h0 : 0 < n) : Calls Try.prog 11 #[x, .int .i64 n] w fun e w' => e = .returned (.slice none 0 0) ∧ w = w' := by
  unfold Emp at h
  have HE := Lib.hid h
  clear h
  go_enter Try.func11, Try.ntmps11
  go_wp2_with fail
  go_loopg [5, 9] 0 (fun kx s5 s9 wr => s5 = .slice none 0 0 ∧ s9 = .int .i64 0 ∧ w = wr)
  case atStart => exact ⟨rfl, rfl, rfl⟩
  case round =>
    obtain ⟨rfl, rfl, rfl⟩ := hrel
    go_wp2_with (go_at_call 9; (with_reducible refine Calls.mono HE.out ?_); rintro e w2 ⟨rfl, rfl⟩)
    go_ret
    exact ⟨rfl, rfl⟩
end Go.Proofs.Ytoieogembfdmfaa.Mo

/- A law's end where what is known of the world is that all that was there is as it was. Conditions: each theorem's own. -/
namespace Go.Proofs.Ytoieogembfdmfaa.End
open Go.RowKit Go.WideShapes Go.ChangeShapes Hp
/-- Nothing that was there has turned. -/
def Old (W W' : World) : Prop := Kept (fun _ => False) W W'
theorem Old.below {W W' : World} (h : Old W W') : Below W.heap.size W W' := ⟨h.os, h.tape, h.output, h.size, fun k hk => h.block k hk (fun f => f)⟩
theorem Old.refl (W : World) : Old W W := Kept.refl _ W
section
variable {H : Type} {enc : TypeId × Value → H} {P : Program} {f : Func} {s : ChangeSpec} {apart fresh handsOn again : Bool} {W W' : World} {args : Array Value} {v : Value} {ds gs : List (DataW H)} {pa pv : List MemPlace}
theorem post_of_old (hW : DataW.Whole enc P f.params.toList s.vars apart W args.toList ds gs (pa ++ pv))
    (hres : ∀ (b : Nat) (sp : Nat → Bool) (hd : Bool), DataW.TrodAll enc P W' b sp hd f.resultTypes.toList (v.resultList f.resultTypes.size) (s.fn H (ds ++ gs)).results [])
    (hargs : ∀ sp : Nat → Bool, (∀ p ∈ pa ++ pv, sp p.block = true) → DataW.TrodAll enc P W' 0 sp true f.params.toList args.toList (s.fn H (ds ++ gs)).args pa)
    (hvars : ∀ sp : Nat → Bool, (∀ p ∈ pa ++ pv, sp p.block = true) → DataW.TrodVars enc P W' sp s.vars (s.fn H (ds ++ gs)).vars pv)
    (hb : Old W W')
    (hok : ∀ (j : Nat) (t : TypeId) (r : Value), f.resultTypes[j]? = some t → (v.resultList f.resultTypes.size)[j]? = some r → Value.okWide P W' .any 0 t r) :
    s.post enc P f apart fresh handsOn again W args v W' := by
  have B := hb.below
  have old : ∀ p ∈ pa ++ pv, p.block < W.heap.size := fun p hp => hW.lt p hp
  have inOld : ∀ p ∈ pa ++ pv, (fun b => decide (b < W.heap.size)) p.block = true := fun p hp => by simp [old p hp]
  have all : ∀ p ∈ pa ++ pv, (fun _ : Nat => true) p.block = true := fun _ _ => rfl
  obtain ⟨_, _, _, _, _, hz, hn⟩ := id hW
  refine ⟨ds, gs, pa ++ pv, [], pa, pv, hW, hres _ _ _, hargs _ inOld, hvars _ inOld, World.keptBut_mono (fun p hp => ⟨hp, Or.inr (List.mem_append.1 hp)⟩) (B.frame _), fun _ => ⟨hok, _, _, [] ++ pa ++ pv, ⟨[] ++ pa, pv, trodAll_append (hargs _ all) (hres _ _ _), hvars _ all, rfl, ?_, ?_⟩, ?_⟩⟩
  · intro b off hp
    have hp' : MemPlace.cell b off ∈ pa ++ pv := by simpa using hp
    exact (B.frozen (p := ⟨b, off, none⟩) (old _ hp')).trans (hz b off hp')
  · intro ha; simpa using hn ha
  · intro p hp _; simpa using hp
end
end Go.Proofs.Ytoieogembfdmfaa.End

/- Two boxes of ints beside each other, made one behind the other. Conditions: each theorem's own. -/
namespace Go.Proofs.Ytoieogembfdmfaa.Mo
open Go.Conc Go.RowKit Hp Go.Proofs.Ytoieogembfdmfaa.End
/-- Two boxes, made in a world of N blocks: what lies in each; all that was there is as it was. -/
structure Two (w : World) (room : Nat) (xs ys : List Int) (wi : World) : Prop where
  x : ∃ ps, Bx wi (w.heap.size + 1) w.heap.size room ps xs
  y : ∃ ps, Bx wi (w.heap.size + 3) (w.heap.size + 2) room ps ys
  old : Old w wi
theorem Bx.other {w w' : World} {b c room : Nat} {ps : List Nat} {vs : List Int} (h : Bx w b c room ps vs) {b' c' room' : Nat} {ps' : List Nat} {vs' : List Int} (h' : Bx w b' c' room' ps' vs') (hc : c ≠ c') (k : Kept (fun i => i = c') w w') : Bx w' b c room ps vs := by
  obtain ⟨s, r, h2⟩ := h'.chan
  exact h.kept (r' := 0) h2 (fun l T z => by simp) (fun e => hc e.symm) k
theorem Bx.quiet {w w' : World} {b c room : Nat} {ps : List Nat} {vs : List Int} (h : Bx w b c room ps vs) (k : Kept (fun _ => False) w w') : Bx w' b c room ps vs := by
  obtain ⟨s, r, h2⟩ := h.chan
  exact ⟨k.blk h.box (fun f => f), ⟨s, r, (k.block c h.lt (fun f => f)).trans h2⟩, h.len, fun i p v h3 h4 => k.blk (h.cells i p v h3 h4) (fun f => f)⟩
theorem Two.quiet {w wi w' : World} {room : Nat} {xs ys : List Int} (h : Two w room xs ys wi) (k : Kept (fun _ => False) wi w') : Two w room xs ys w' := by
  obtain ⟨ps, hx⟩ := h.x
  obtain ⟨qs, hy⟩ := h.y
  exact ⟨⟨ps, hx.quiet k⟩, ⟨qs, hy.quiet k⟩, h.old.trans k⟩
def push (room : Nat) (xs : List Int) (v : Int) : List Int := if xs.length < room then xs ++ [v] else xs
theorem push_take {room : Nat} {l : List Int} {i : Nat} {v : Int} (h : l[i]? = some v) : push room ((l.take i).take room) v = (l.take (i + 1)).take room := by
  have hi : i < l.length := by
    rcases Nat.lt_or_ge i l.length with h' | h'
    · exact h'
    · rw [List.getElem?_eq_none h'] at h; cases h
  unfold push
  rw [List.take_add_one, h, Option.toList_some]
  split
  · next hl =>
    rw [List.length_take, List.length_take] at hl
    have e1 : (l.take i).take room = l.take i := List.take_of_length_le (by rw [List.length_take]; omega)
    have e2 : (l.take i ++ [v]).take room = l.take i ++ [v] := List.take_of_length_le (by rw [List.length_append, List.length_take, List.length_singleton]; omega)
    rw [e1, e2]
  · next hl =>
    rw [List.length_take, List.length_take] at hl
    rw [List.take_append_of_le_length (by rw [List.length_take]; omega)]
theorem drop_take_some {l : List Int} {n i : Nat} {x : Int} (h : l[i]? = some x) (hi : i < n) : (l.take n).drop i = x :: (l.take n).drop (i + 1) := by
  obtain ⟨hl, rfl⟩ := List.getElem?_eq_some_iff.1 h
  rw [List.drop_eq_getElem_cons (by rw [List.length_take]; omega), List.getElem_take]
theorem two_ox {w wi : World} {room : Nat} {xs ys : List Int} (h : Two w room xs ys wi) (v : Int) : Calls Try.prog 7 #[ptr (w.heap.size + 1), .int .i64 v] wi fun e w' => (∃ t, e = .returned (.bool t)) ∧ Two w room (push room xs v) ys w' := by
  obtain ⟨ps, hx⟩ := h.x
  obtain ⟨qs, hy⟩ := h.y
  unfold push
  split
  · next hl =>
    refine Calls.mono (offer_room hx hl v) ?_
    rintro e w' ⟨rfl, hb, hk⟩
    exact ⟨⟨_, rfl⟩, ⟨_, hb⟩, ⟨qs, hy.other hx (by omega) hk⟩, h.old.trans' hk (fun i hi e => absurd (e ▸ hi) (by omega))⟩
  · next hl =>
    refine Calls.mono (offer_full hx (by omega) v) ?_
    rintro e w' ⟨rfl, hk⟩
    exact ⟨⟨_, rfl⟩, h.quiet hk⟩
theorem two_oy {w wi : World} {room : Nat} {xs ys : List Int} (h : Two w room xs ys wi) (v : Int) : Calls Try.prog 7 #[ptr (w.heap.size + 3), .int .i64 v] wi fun e w' => (∃ t, e = .returned (.bool t)) ∧ Two w room xs (push room ys v) w' := by
  obtain ⟨ps, hx⟩ := h.x
  obtain ⟨qs, hy⟩ := h.y
  unfold push
  split
  · next hl =>
    refine Calls.mono (offer_room hy hl v) ?_
    rintro e w' ⟨rfl, hb, hk⟩
    exact ⟨⟨_, rfl⟩, ⟨ps, hx.other hy (by omega) hk⟩, ⟨_, hb⟩, h.old.trans' hk (fun i hi e => absurd (e ▸ hi) (by omega))⟩
  · next hl =>
    refine Calls.mono (offer_full hy (by omega) v) ?_
    rintro e w' ⟨rfl, hk⟩
    exact ⟨⟨_, rfl⟩, h.quiet hk⟩
theorem emp_nil (w : World) : Emp (.pointer none) w := take_nil w
theorem emp_x {w wi : World} {room : Nat} {ys : List Int} (h : Two w room [] ys wi) : Emp (ptr (w.heap.size + 1)) wi := by
  obtain ⟨ps, hx⟩ := h.x
  obtain rfl : ps = [] := by have := hx.len; simpa using this
  exact take_empty hx
theorem emp_y {w wi : World} {room : Nat} {xs : List Int} (h : Two w room xs [] wi) : Emp (ptr (w.heap.size + 3)) wi := by
  obtain ⟨ps, hx⟩ := h.y
  obtain rfl : ps = [] := by have := hx.len; simpa using this
  exact take_empty hx
/-- First of the first box. -/
theorem two_fx {w wi : World} {room : Nat} {v : Int} {xs ys : List Int} (h : Two w room (v :: xs) ys wi) {g cap : Nat} (hg : Blk wi g [ptr (w.heap.size + 1), .pointer none, ptr (w.heap.size + 3)] 24) :
    Calls Try.prog 8 #[.slice (some ⟨g, 0, none⟩) 3 cap] wi fun e w' => e = .returned (.tuple #[.int .i64 0, .int .i64 v, .bool true]) ∧ Two w room xs ys w' := by
  obtain ⟨ps, hx⟩ := h.x
  obtain ⟨qs, hy⟩ := h.y
  obtain ⟨p, ps, rfl⟩ : ∃ p ps', ps = p :: ps' := by
    cases ps with
    | nil => have := hx.len; simp at this
    | cons p ps => exact ⟨p, ps, rfl⟩
  refine first_some (k := 0) (hs := [ptr (w.heap.size + 1), .pointer none, ptr (w.heap.size + 3)]) (fun j x hj _ => absurd hj (by omega)) rfl (hg.cell rfl) ?_ (by simp)
  refine Calls.mono (take_first hx) ?_
  rintro e w' ⟨rfl, hb, hk⟩
  exact ⟨rfl, ⟨_, hb⟩, ⟨qs, hy.other hx (by omega) hk⟩, h.old.trans' hk (fun i hi e => absurd (e ▸ hi) (by omega))⟩
/-- First of the second box; the first is empty. -/
theorem two_fy {w wi : World} {room : Nat} {v : Int} {ys : List Int} (h : Two w room [] (v :: ys) wi) {g cap : Nat} (hg : Blk wi g [ptr (w.heap.size + 1), .pointer none, ptr (w.heap.size + 3)] 24) :
    Calls Try.prog 8 #[.slice (some ⟨g, 0, none⟩) 3 cap] wi fun e w' => e = .returned (.tuple #[.int .i64 2, .int .i64 v, .bool true]) ∧ Two w room [] ys w' := by
  have he := emp_x h
  obtain ⟨ps, hx⟩ := h.x
  obtain ⟨qs, hy⟩ := h.y
  obtain ⟨q, qs, rfl⟩ : ∃ p ps', qs = p :: ps' := by
    cases qs with
    | nil => have := hy.len; simp at this
    | cons p ps => exact ⟨p, ps, rfl⟩
  refine first_some (k := 2) (hs := [ptr (w.heap.size + 1), .pointer none, ptr (w.heap.size + 3)]) (fun j x hj hx => ?_) rfl (hg.cell rfl) ?_ (by simp)
  · rcases j with _ | _ | j
    · simp at hx; subst hx; exact ⟨hg.cell rfl, he⟩
    · simp at hx; subst hx; exact ⟨hg.cell rfl, emp_nil wi⟩
    · omega
  refine Calls.mono (take_first hy) ?_
  rintro e w' ⟨rfl, hb, hk⟩
  exact ⟨rfl, ⟨ps, hx.other hy (by omega) hk⟩, ⟨_, hb⟩, h.old.trans' hk (fun i hi e => absurd (e ▸ hi) (by omega))⟩
theorem two_f0 {w wi : World} {room : Nat} (h : Two w room [] [] wi) {g cap : Nat} (hg : Blk wi g [ptr (w.heap.size + 1), ptr (w.heap.size + 3)] 24) :
    Calls Try.prog 8 #[.slice (some ⟨g, 0, none⟩) 2 cap] wi fun e w' => e = .returned (.tuple #[.int .i64 (-1), .int .i64 0, .bool false]) ∧ wi = w' := by
  refine first_none (hs := [ptr (w.heap.size + 1), ptr (w.heap.size + 3)]) (fun j x hx => ?_) (by simp)
  rcases j with _ | _ | j
  · simp at hx; subst hx; exact ⟨hg.cell rfl, emp_x h⟩
  · simp at hx; subst hx; exact ⟨hg.cell rfl, emp_y h⟩
  · simp at hx
theorem two_new {w w1 : World} {room : Nat} (h1 : Bx w1 (w.heap.size + 1) w.heap.size room [] []) (k1 : Kept (fun _ => False) w w1) (s1 : w1.heap.size = w.heap.size + 2) {w2 : World} (h2 : Bx w2 (w1.heap.size + 1) w1.heap.size room [] []) (k2 : Kept (fun _ => False) w1 w2) : Two w room [] [] w2 := by
  rw [s1] at h2
  exact ⟨⟨[], h1.quiet k2⟩, ⟨[], h2⟩, k1.trans k2⟩
theorem two_new2 {w w1 : World} {n : Int} (h0 : 0 ≤ n) (h1 : n ≤ 10000) (b1 : Bx w1 (w.heap.size + 1) w.heap.size n.toNat [] []) (k1 : Kept (fun _ => False) w w1) (s1 : w1.heap.size = w.heap.size + 2) : Calls Try.prog 6 #[.int .i64 n] w1 fun e w' => e = .returned (.tuple #[ptr (w.heap.size + 3), .int .i64 0]) ∧ Two w n.toNat [] [] w' := by
  refine Calls.mono (new_ok h0 h1 w1) ?_
  rintro e w2 ⟨rfl, b2, k2, _⟩
  refine ⟨by rw [s1], two_new b1 k1 s1 b2 k2⟩
end Go.Proofs.Ytoieogembfdmfaa.Mo

/- Arguments that are slices of numbers, or of structs of numbers: opened, read, handed back. Conditions: each theorem's own. -/
namespace Go.Proofs.Ytoieogembfdmfaa.Opn
open Go.ChangeShapes Go.WideShapes Go.RowKit Go.Deep Hp Go.Proofs.Ytoieogembfdmfaa.End
theorem keptCell {F : Nat → Prop} {w w' : World} (h : Kept F w w') {k : Nat} (hk : k < w.heap.size) (hF : ¬ F k) (o : Nat) : w'.cell? ⟨k, o, none⟩ = w.cell? ⟨k, o, none⟩ := by
  simp [World.cell?, h.block k hk hF]
/-- A slice of numbers that was there at the call. -/
def Ints (w : World) (s : Option Addr) (cap : Nat) (zs : List Int) : Prop :=
  zs.length ≤ cap ∧ (∀ n ∈ zs, (Lit.int .i64 n).wf = true) ∧ (zs = [] ∨ ∃ b off, s = some ⟨b, off, none⟩ ∧ b < w.heap.size ∧ ∀ j, j < zs.length → w.cell? ⟨b, off + j, none⟩ = some (.int .i64 (zs.getD j 0)))
theorem Ints.at {w w' : World} {s : Option Addr} {cap : Nat} {zs : List Int} (h : Ints w s cap zs) (k : Old w w') {j : Nat} (hj : j < zs.length) :
    ∃ b off, s = some ⟨b, off, none⟩ ∧ b < w.heap.size ∧ w'.cell? ⟨b, off + j, none⟩ = some (.int .i64 zs[j]) := by
  rcases h.2.2 with rfl | ⟨b, off, rfl, hb, hc⟩
  · simp at hj
  · refine ⟨b, off, rfl, hb, ?_⟩
    rw [keptCell k hb (fun h => h) (off + j), hc j hj]
    simp [List.getD, List.getElem?_eq_getElem hj]
theorem Ints.wf {w : World} {s : Option Addr} {cap : Nat} {zs : List Int} (h : Ints w s cap zs) {j : Nat} (hj : j < zs.length) : -9223372036854775808 ≤ zs[j] ∧ zs[j] ≤ 9223372036854775807 :=
  bounds_i64 (h.2.1 _ (List.getElem_mem hj))
/-- A slice of structs of m numbers that was there at the call. -/
def Structs (w : World) (s : Option Addr) (cap m : Nat) (zs : List (List Int)) : Prop :=
  zs.length ≤ cap ∧ (∀ r ∈ zs, r.length = m ∧ ∀ n ∈ r, (Lit.int .i64 n).wf = true) ∧
  (zs = [] ∨ ∃ b off, s = some ⟨b, off, none⟩ ∧ b < w.heap.size ∧ ∀ i, i < zs.length → ∀ j, j < m → w.cell? ⟨b, off + i * m + j, none⟩ = some (.int .i64 ((zs.getD i []).getD j 0)))
theorem Structs.cell {w w' : World} {s : Option Addr} {cap m : Nat} {zs : List (List Int)} (h : Structs w s cap m zs) (k : Old w w') {i j : Nat} (hi : i < zs.length) (hj : j < m) :
    ∃ b off, s = some ⟨b, off, none⟩ ∧ b < w.heap.size ∧ w'.cell? ⟨b, off + i * m + j, none⟩ = some (.int .i64 ((zs.getD i []).getD j 0)) := by
  rcases h.2.2 with rfl | ⟨b, off, rfl, hb, hc⟩
  · simp at hi
  · exact ⟨b, off, rfl, hb, by rw [keptCell k hb (fun h => h), hc i hi j hj]⟩
theorem Structs.wf {w : World} {s : Option Addr} {cap m : Nat} {zs : List (List Int)} (h : Structs w s cap m zs) {i j : Nat} (hi : i < zs.length) (hj : j < m) :
    -9223372036854775808 ≤ (zs.getD i []).getD j 0 ∧ (zs.getD i []).getD j 0 ≤ 9223372036854775807 := by
  have e : zs.getD i [] = zs[i] := by simp [List.getD, List.getElem?_eq_getElem hi]
  obtain ⟨hl, hn⟩ := h.2.1 zs[i] (List.getElem_mem hi)
  have hj' : j < zs[i].length := by omega
  have e2 : zs[i].getD j 0 = zs[i][j] := by simp [List.getD, List.getElem?_eq_getElem hj']
  rw [e, e2]
  exact bounds_i64 (hn _ (List.getElem_mem hj'))
theorem laidOut : laidOutB Try.prog = true := by kernel_rfl
theorem back {H : Type} {enc : TypeId × Value → H} {W W' : World} {t : TypeId} {v : Value} {d : DataW H} {p : List MemPlace} {sp : Nat → Bool} (h1 : Try.prog.readableRec t = true) (h2 : t < Try.prog.types.size)
    (h : DataW.Trod enc Try.prog W 0 (fun _ => true) true t v d p)
    (hb : Old W W') (hlt : ∀ x ∈ p, x.block < W.heap.size) (hs : ∀ x ∈ p, sp x.block = true) : DataW.Trod enc Try.prog W' 0 sp true t v d p :=
  WideElems.Trod_stays laidOut h1 h2 h (fun x hx => hb.below.same (hlt x hx)) (fun x hx => hs x hx)
set_option maxRecDepth 100000 in
theorem ints_of {H : Type} {enc : TypeId × Value → H} {W : World} {base : Nat} {t e : TypeId} {v : Value} {d : DataW H} {p : List MemPlace} (ht : Try.prog.underlying t = some (.slice e)) (he : Try.prog.underlying e = some (.int .i64)) (hC : Try.prog.cellsOf e = 1)
    (hv : Value.okWide Try.prog W .any base t v) (h : DataW.Trod enc Try.prog W 0 (fun _ => true) true t v d p) : ∃ s cap zs, v = .slice s (List.length zs) cap ∧ Ints W s cap zs := by
  obtain ⟨a, len, cap, rfl⟩ := okWide_slice ht hv
  obtain ⟨_, hf⟩ := h
  rcases open_ints ht he hC hf with ⟨hcs, hx⟩ | ⟨a', len', cap', zs, hcs, _, hl, hm, hz, hx, hcell, hwz⟩
  · simp [Value.cells] at hcs
    obtain ⟨rfl, rfl, rfl⟩ := hcs
    exact ⟨none, 0, [], rfl, Nat.le_refl _, by simp, Or.inl rfl⟩
  · simp [Value.cells] at hcs
    obtain ⟨rfl, rfl, rfl⟩ := hcs
    simp only [if_true] at hz
    have hlen : (zs.take len).length = len := by rw [List.length_take]; omega
    refine ⟨some a', cap, zs.take len, by rw [hlen], by omega, fun n hn => hwz n (List.mem_of_mem_take hn), ?_⟩
    by_cases h0 : len = 0
    · left; rw [h0]; rfl
    · right
      obtain ⟨b, off, rfl, hc⟩ := ints_at hcell (by omega)
      refine ⟨b, off, rfl, ?_, fun j hj => ?_⟩
      · exact World.block_lt_of_cell? W _ (hc 0 (by omega))
      · rw [hc j (by omega)]
        have : j < len := by omega
        simp [List.getD, this]
/-- The cells of one struct of numbers are numbers. -/
theorem struct_ints {H : Type} {enc : TypeId × Value → H} {W : World} {base fuel : Nat} {sp : Nat → Bool} {held : Bool} {e : TypeId} {fs : Array Field} {cs : List Value} {x : DataW H × List MemPlace} (he : Try.prog.underlying e = some (.struct fs)) (hone : oneCellFields Try.prog fs = true) (hC : Try.prog.cellsOf e = fs.size)
    (hint : ∀ (j : Nat) (f : Field), fs[j]? = some f → Try.prog.underlying f.type = some (.int .i64)) (h : DataW.trod enc Try.prog W base sp held fuel e cs = some x) :
    ∃ r : List Int, r.length = fs.size ∧ (∀ n ∈ r, (Lit.int .i64 n).wf = true) ∧ ∀ j, j < fs.size → cs[j]? = some (.int .i64 (r.getD j 0)) := by
  obtain ⟨ys, n', _, _, hlen, hyl, hf⟩ := DataW.trod_struct he h
  have each : ∀ j, j < fs.size → ∃ n : Int, cs[j]? = some (.int .i64 n) ∧ (Lit.int .i64 n).wf = true := by
    intro j hj
    have hfj : fs[j]? = some fs[j] := Array.getElem?_eq_getElem hj
    obtain ⟨ho, hk⟩ := hone_of hone j _ hfj
    have h1 := hf j _ hfj
    rw [ho, hk, List.getElem?_eq_getElem (show j < ys.length by omega)] at h1
    obtain ⟨n, e1, _, e3⟩ := DataW.trod_int (hint j _ hfj) h1
    refine ⟨n, ?_, e3⟩
    have := congrArg (fun l : List Value => l[0]?) e1
    simpa [List.getElem?_take, List.getElem?_drop] using this
  refine ⟨(List.range fs.size).map fun j => intOf (cs.getD j (.bool false)), by simp, ?_, ?_⟩
  · intro n hn
    obtain ⟨j, hj, rfl⟩ := List.mem_map.1 hn
    obtain ⟨m, e1, e2⟩ := each j (List.mem_range.1 hj)
    simpa [List.getD, e1, intOf] using e2
  · intro j hj
    obtain ⟨m, e1, e2⟩ := each j hj
    rw [e1]
    simp [List.getD, hj, e1, intOf]
set_option maxRecDepth 100000 in
theorem structs_of {H : Type} {enc : TypeId × Value → H} {W : World} {base : Nat} {t e : TypeId} {fs : Array Field} {v : Value} {d : DataW H} {p : List MemPlace} (ht : Try.prog.underlying t = some (.slice e)) (he : Try.prog.underlying e = some (.struct fs)) (hone : oneCellFields Try.prog fs = true) (hC : Try.prog.cellsOf e = fs.size) (h0 : 0 < fs.size)
    (hint : ∀ (j : Nat) (f : Field), fs[j]? = some f → Try.prog.underlying f.type = some (.int .i64))
    (hv : Value.okWide Try.prog W .any base t v) (h : DataW.Trod enc Try.prog W 0 (fun _ => true) true t v d p) : ∃ s cap zs, v = .slice s (List.length zs) cap ∧ Structs W s cap fs.size zs := by
  obtain ⟨a, len, cap, rfl⟩ := okWide_slice ht hv
  obtain ⟨_, hf⟩ := h
  rcases open_slice ht hf with ⟨hcs, hx⟩ | ⟨a', len', cap', m, n, D, Pl, hcs, _, hl, _, hm, _, hi⟩
  · simp [Value.cells] at hcs
    obtain ⟨rfl, rfl, rfl⟩ := hcs
    exact ⟨none, 0, [], rfl, Nat.le_refl _, by simp, Or.inl rfl⟩
  · simp [Value.cells] at hcs
    obtain ⟨rfl, rfl, rfl⟩ := hcs
    simp only [if_true] at hm
    have each : ∀ i, i < len → ∃ r : List Int, r.length = fs.size ∧ (∀ n ∈ r, (Lit.int .i64 n).wf = true) ∧ ∀ j, j < fs.size → W.cell? ((a'.add (i * fs.size)).add j) = some (.int .i64 (r.getD j 0)) := by
      intro i hil
      obtain ⟨cs', hc, ht'⟩ := hi i (by omega)
      rw [hC] at hc
      obtain ⟨_, hcl, hat⟩ := World.cells?_some hc
      obtain ⟨r, r1, r2, r3⟩ := struct_ints he hone hC hint ht'
      exact ⟨r, r1, r2, fun j hj => by rw [hat j hj, r3 j hj]⟩
    have ex : ∃ Z : Nat → List Int, ∀ i, i < len → (Z i).length = fs.size ∧ (∀ n ∈ Z i, (Lit.int .i64 n).wf = true) ∧ ∀ j, j < fs.size → W.cell? ((a'.add (i * fs.size)).add j) = some (.int .i64 ((Z i).getD j 0)) := by
      classical
      exact ⟨fun i => if h : i < len then (each i h).choose else [], fun i h => by simp only [dif_pos h]; exact (each i h).choose_spec⟩
    obtain ⟨Z, hZ⟩ := ex
    have hlen : ((List.range len).map Z).length = len := by simp
    have hget : ∀ i, i < len → ((List.range len).map Z).getD i [] = Z i := fun i hi => by simp [List.getD, hi]
    refine ⟨some a', cap, (List.range len).map Z, by rw [hlen], by omega, ?_, ?_⟩
    · intro r hr
      obtain ⟨i, hi, rfl⟩ := List.mem_map.1 hr
      have := hZ i (List.mem_range.1 hi)
      exact ⟨this.1, this.2.1⟩
    · by_cases hz : len = 0
      · left; rw [hz]; rfl
      · right
        have hp : 0 < len := by omega
        have first : ∀ j, j < [(Z 0).getD 0 0].length → W.cell? (a'.add j) = some (.int .i64 ([(Z 0).getD 0 0].getD j 0)) := fun j hj => by
          obtain rfl : j = 0 := by simp at hj; omega
          have := (hZ 0 hp).2.2 0 h0
          simpa [Addr.add] using this
        obtain ⟨b, off, rfl, hc⟩ := ints_at first (by simp)
        refine ⟨b, off, rfl, World.block_lt_of_cell? W _ (hc 0 (by simp)), fun i hi j hj => ?_⟩
        rw [hlen] at hi
        rw [hget i hi]
        have := (hZ i hi).2.2 j hj
        rw [Go.WideShapes.add_plain, Go.WideShapes.add_plain] at this
        exact this
end Go.Proofs.Ytoieogembfdmfaa.Opn

/- MuxOrder's text up to its gates, walked alone. Conditions: each theorem's own. -/
namespace Go.Proofs.Ytoieogembfdmfaa.Mo
open Go.Conc Go.RowKit Hp Br Go.Proofs.Ytoieogembfdmfaa.End Opn
def R5 (w : World) (_ : FuncId) (t : Array Value) (w' : World) : Prop := t.size = 184 ∧ t.getD 6 undef = .bool true ∧ (t.getD 182 undef = .bool true → t.getD 181 undef = .bool true) ∧ Old w w'
set_option maxHeartbeats 4000000 in
set_option maxRecDepth 100000 in
theorem order_early {c : Code} (hc : Try.f3.body = some c) (w : World) {s0 s1 : Option Addr} {cap0 cap1 : Nat} {a b : List Int} {n : Int} (h : 500 < a.length ∨ 500 < b.length ∨ n < 0 ∨ 1000 < n) :
    (cutCode 5 c).wp Try.prog (fun e a' w' => (e = .ret ∨ e = .normal) ∧ R5 w 3 a'.tmps w') { tmps := #[.slice s0 a.length cap0, .slice s1 b.length cap1, .int .i64 n] ++ Array.replicate (Try.f3.ntmps - #[Value.slice s0 a.length cap0, .slice s1 b.length cap1, .int .i64 n].size) undef, defers := [] } w := by
  unfold Try.f3 at hc
  simp only [Option.some.injEq] at hc
  subst hc
  generalize a.length = la at *
  generalize b.length = lb at *
  simp only [cutCode, gateOf, callsF, List.findIdx?, List.findIdx?.go, cutOps, Nat.reduceBEq, beq_self_eq_true, ↓reduceIte, Bool.false_eq_true, Nat.reduceAdd]
  simp only [List.take_succ_cons, List.take_zero, List.drop_succ_cons, List.drop_zero, List.map_cons, List.map_nil, List.nil_append, List.cons_append, idle]
  simp only [Try.ntmps3, List.size_toArray, List.length_cons, List.length_nil, Nat.reduceAdd, Nat.reduceSub, Array.replicate_succ, Array.replicate_zero, List.push_toArray, List.append_toArray, List.nil_append, List.cons_append]
  go_upto_region 1 with fail
  have hcase : (500 < la) ∨ (la ≤ 500 ∧ 500 < lb) ∨ (la ≤ 500 ∧ lb ≤ 500 ∧ n < 0) ∨ (la ≤ 500 ∧ lb ≤ 500 ∧ 0 ≤ n ∧ 1000 < n) := by omega
  clear h

  rcases hcase with h1 | ⟨h1, h2⟩ | ⟨h1, h2, h3⟩ | ⟨h1, h2, h3, h4⟩
  all_goals
    go_wp2_with fail
    exact ⟨rfl, rfl, fun e => absurd (show undef = Value.bool true from e) (by simp [undef]), Old.refl w⟩
set_option maxHeartbeats 8000000 in
set_option maxRecDepth 100000 in
theorem order_main {c : Code} (hc : Try.f3.body = some c) (w : World) {s0 s1 : Option Addr} {cap0 cap1 : Nat} {a b : List Int} {n : Int} (hA : Ints w s0 cap0 a) (hB : Ints w s1 cap1 b) (la : a.length ≤ 500) (lb : b.length ≤ 500) (n0 : 0 ≤ n) (n1 : n ≤ 1000) :
    (cutCode 5 c).wp Try.prog (fun e a' w' => (e = .ret ∨ e = .normal) ∧ R5 w 3 a'.tmps w') { tmps := #[.slice s0 a.length cap0, .slice s1 b.length cap1, .int .i64 n] ++ Array.replicate (Try.f3.ntmps - #[Value.slice s0 a.length cap0, .slice s1 b.length cap1, .int .i64 n].size) undef, defers := [] } w := by
  unfold Try.f3 at hc
  simp only [Option.some.injEq] at hc
  subst hc
  have HA := Lib.hid hA
  have HB := Lib.hid hB
  clear hA hB
  obtain ⟨za, hza⟩ : ∃ z, a.length = z := ⟨_, rfl⟩
  obtain ⟨zb, hzb⟩ : ∃ z, b.length = z := ⟨_, rfl⟩
  rw [hza] at la ⊢
  rw [hzb] at lb ⊢
  have HZA := Lib.hid hza
  have HZB := Lib.hid hzb
  clear hza hzb
  simp only [cutCode, gateOf, callsF, List.findIdx?, List.findIdx?.go, cutOps, Nat.reduceBEq, beq_self_eq_true, ↓reduceIte, Bool.false_eq_true, Nat.reduceAdd]
  simp only [List.take_succ_cons, List.take_zero, List.drop_succ_cons, List.drop_zero, List.map_cons, List.map_nil, List.nil_append, List.cons_append, idle]
  simp only [Try.ntmps3, List.size_toArray, List.length_cons, List.length_nil, Nat.reduceAdd, Nat.reduceSub, Array.replicate_succ, Array.replicate_zero, List.push_toArray, List.append_toArray, List.nil_append, List.cons_append]
  go_wp2_with fail
  with_reducible refine Calls.mono (new_ok n0 (by omega) w) ?_
  rintro e w1 ⟨rfl, b1, k1, z1⟩
  have C2 := Lib.hid (two_new2 n0 (by omega) b1 k1 z1)
  clear b1 k1 z1
  go_wp2_with fail
  with_reducible refine Calls.mono C2.out ?_
  rintro e w2 ⟨rfl, T0⟩
  clear C2
  have HT := Lib.hid T0
  clear T0
  go_wp2_with fail
  go_loopg [11] za (fun kx s11 wr => ∃ (i : Nat), Hid (za - i ≤ kx) ∧ i ≤ za ∧ s11 = .int .i64 (i : Nat) ∧ Hid (Two w n.toNat ((a.take i).take n.toNat) [] wr))
  case atStart => exact ⟨0, Lib.hid (by omega), by omega, rfl, Lib.hid (by simpa using HT.out)⟩
  case round =>
    obtain ⟨i, hm, hi, rfl, hT⟩ := hrel
    clear HT
    rcases Nat.lt_or_ge i za with hlt | hge
    · obtain ⟨x, hx⟩ : ∃ x, a[i]? = some x := ⟨_, List.getElem?_eq_getElem (by rw [HZA.out]; exact hlt)⟩
      obtain ⟨g, off, rfl, hg, hcl⟩ := HA.out.at hT.out.old (j := i) (by rw [HZA.out]; exact hlt)
      rw [(List.getElem?_eq_some_iff.1 hx).2] at hcl
      have C1 := two_ox hT.out x
      rw [push_take hx] at C1
      have HC := Lib.hid C1
      clear hx C1 hT hg
      go_wp2_with fail
      with_reducible refine Calls.mono HC.out ?_
      rintro e w3 ⟨⟨t, rfl⟩, T1⟩
      have HT1 := Lib.hid T1
      clear T1 HC hcl
      go_wp2_with fail
      go_roundg (za - (i + 1))
      case measure => have := hm.out; omega
      case rel => exact ⟨i + 1, Lib.hid (Nat.le_refl _), by omega, by go_num, HT1⟩
    · obtain rfl : za = i := by omega
      have hTA := hT.out
      have e1 : a.take za = a := by rw [← HZA.out]; exact List.take_length
      rw [e1] at hTA
      have HT := Lib.hid hTA
      clear hT hTA hm e1
      go_wp2_with fail
      clear hi hge
      go_loopg [12] zb (fun kx s12 wr => ∃ (i : Nat), Hid (zb - i ≤ kx) ∧ i ≤ zb ∧ s12 = .int .i64 (i : Nat) ∧ Hid (Two w n.toNat (a.take n.toNat) ((b.take i).take n.toNat) wr))
      case atStart => exact ⟨0, Lib.hid (by omega), by omega, rfl, Lib.hid (by simpa using HT.out)⟩
      case round =>
        obtain ⟨i, hm, hi, rfl, hT⟩ := hrel
        clear HT
        rcases Nat.lt_or_ge i zb with hlt | hge
        · obtain ⟨x, hx⟩ : ∃ x, b[i]? = some x := ⟨_, List.getElem?_eq_getElem (by rw [HZB.out]; exact hlt)⟩
          obtain ⟨g, off, rfl, hg, hcl⟩ := HB.out.at hT.out.old (j := i) (by rw [HZB.out]; exact hlt)
          rw [(List.getElem?_eq_some_iff.1 hx).2] at hcl
          have C1 := two_oy hT.out x
          rw [push_take hx] at C1
          have HC := Lib.hid C1
          clear hx C1 hT hg
          go_wp2_with fail
          with_reducible refine Calls.mono HC.out ?_
          rintro e w3 ⟨⟨t, rfl⟩, T1⟩
          have HT1 := Lib.hid T1
          clear T1 HC hcl
          go_wp2_with fail
          go_roundg (zb - (i + 1))
          case measure => have := hm.out; omega
          case rel => exact ⟨i + 1, Lib.hid (Nat.le_refl _), by omega, by go_num, HT1⟩
        · obtain rfl : zb = i := by omega
          have hTA := hT.out
          have e1 : b.take zb = b := by rw [← HZB.out]; exact List.take_length
          rw [e1] at hTA
          have HT := Lib.hid hTA
          clear hT hTA hm e1 hi hge
          obtain ⟨m, rfl⟩ := Int.eq_ofNat_of_zero_le n0
          have hm1 : ∃ p : Nat, (∀ (ts : Array TypeId) (t : TypeId) (w : World), (Builtin.min_ ts t #[.int .i64 (za : Nat), .int .i64 (m : Nat)]).run Try.prog w = .ok (.int .i64 (p : Nat)) w) ∧ (a.take m).length = p := by
            refine ⟨min m za, fun ts t w => ?_, by rw [List.length_take, HZA.out]⟩
            rw [run_min_int2]
            congr 2
            split <;> omega
          have hm2 : ∃ p : Nat, (∀ (ts : Array TypeId) (t : TypeId) (w : World), (Builtin.min_ ts t #[.int .i64 (zb : Nat), .int .i64 (m : Nat)]).run Try.prog w = .ok (.int .i64 (p : Nat)) w) ∧ (b.take m).length = p := by
            refine ⟨min m zb, fun ts t w => ?_, by rw [List.length_take, HZB.out]⟩
            rw [run_min_int2]
            congr 2
            split <;> omega
          obtain ⟨p, hm1, hp⟩ := hm1
          obtain ⟨q, hm2, hq⟩ := hm2
          have HP := Lib.hid hp
          have HQ := Lib.hid hq
          clear hp hq
          have hpa : p ≤ 500 := by have := HP.out; rw [List.length_take, HZA.out] at this; omega
          have hqb : q ≤ 500 := by have := HQ.out; rw [List.length_take, HZB.out] at this; omega
          have hpz : p ≤ za := by have := HP.out; rw [List.length_take, HZA.out] at this; omega
          have hqz : q ≤ zb := by have := HQ.out; rw [List.length_take, HZB.out] at this; omega
          have hT0 := HT.out
          rw [Int.toNat_natCast] at hT0
          go_wp2_with fail
          clear hm1 hm2 HT
          have HT := Lib.hid hT0
          clear hT0
          go_loopg [15] (p + q) (fun kx s15 wr => ∃ (i : Nat), Hid (p + q - i ≤ kx) ∧ i ≤ p + q ∧ s15 = .int .i64 (i : Nat) ∧ Hid (Two w m ((a.take m).drop i) ((b.take m).drop (i - p)) wr))
          case atStart => exact ⟨0, Lib.hid (by omega), by omega, rfl, Lib.hid (by simpa using HT.out)⟩
          case round =>
            obtain ⟨i, hm, hi, rfl, hT⟩ := hrel
            clear HT
            rcases Nat.lt_or_ge i (p + q) with hlt | hge
            · rcases Nat.lt_or_ge i p with hip | hip
              · obtain ⟨x, hx⟩ : ∃ x, a[i]? = some x := ⟨_, List.getElem?_eq_getElem (by rw [HZA.out]; omega)⟩
                have him : i < m := by have := HP.out; rw [List.length_take] at this; omega
                have hT1 := hT.out
                rw [drop_take_some hx him, show i - p = 0 by omega] at hT1
                have C1 := two_fx (cap := 3) (hT1.quiet ((Kept.refl _ wr).alloc (.cells #[ptr (w.heap.size + 1), .pointer none, ptr (w.heap.size + 3)] 24))) (Blk.new wr [ptr (w.heap.size + 1), .pointer none, ptr (w.heap.size + 3)] 24)
                have HC := Lib.hid C1
                have HX := Lib.hid hx
                have HI0 := Lib.hid hip
                clear C1 hT hT1 hx hip hi him
                go_wp2_with fail
                refine Calls.mono HC.out ?_
                rintro e w3 ⟨rfl, T1⟩
                have hip := HI0.out
                obtain ⟨g, off, rfl, hg, hcl⟩ := HA.out.at T1.old (j := i) (by rw [HZA.out]; omega)
                rw [(List.getElem?_eq_some_iff.1 HX.out).2] at hcl
                have HT1 := Lib.hid T1
                clear T1 hg HC HX
                go_wp2_with fail
                go_roundg (p + q - (i + 1))
                case measure => have := hm.out; omega
                case rel => exact ⟨i + 1, Lib.hid (Nat.le_refl _), by omega, by go_num, by rw [show i + 1 - p = 0 by omega]; exact HT1⟩
              · obtain ⟨x, hx⟩ : ∃ x, b[i - p]? = some x := ⟨_, List.getElem?_eq_getElem (by rw [HZB.out]; omega)⟩
                have him : i - p < m := by have := HQ.out; rw [List.length_take] at this; omega
                have hT1 := hT.out
                have hpl := HP.out
                rw [drop_take_some hx him, List.drop_of_length_le (l := a.take m) (by omega)] at hT1
                have C1 := two_fy (cap := 3) (hT1.quiet ((Kept.refl _ wr).alloc (.cells #[ptr (w.heap.size + 1), .pointer none, ptr (w.heap.size + 3)] 24))) (Blk.new wr [ptr (w.heap.size + 1), .pointer none, ptr (w.heap.size + 3)] 24)
                have HC := Lib.hid C1
                have HX := Lib.hid hx
                have HI0 := Lib.hid hip
                clear C1 hT hT1 hx hip hi him hpl
                go_wp2_with fail
                refine Calls.mono HC.out ?_
                rintro e w3 ⟨rfl, T1⟩
                have hip := HI0.out
                obtain ⟨g, off, rfl, hg, hcl⟩ := HB.out.at T1.old (j := i - p) (by rw [HZB.out]; omega)
                rw [(List.getElem?_eq_some_iff.1 HX.out).2] at hcl
                have HT1 := Lib.hid T1
                clear T1 hg HC HX
                have hsub : ((i : Nat) : Int) - ((p : Nat) : Int) = ((i - p : Nat) : Int) := by omega
                go_wp2_with fail
                go_roundg (p + q - (i + 1))
                case measure => have := hm.out; omega
                case rel => exact ⟨i + 1, Lib.hid (Nat.le_refl _), by omega, by go_num, by rw [show i + 1 - p = i - p + 1 by omega, List.drop_of_length_le (l := a.take m) (by have := HP.out; omega)]; exact HT1⟩
            · have hT1 := hT.out
              rw [List.drop_of_length_le (l := a.take m) (by have := HP.out; omega), List.drop_of_length_le (l := b.take m) (by have := HQ.out; omega)] at hT1
              have T2 := hT1.quiet ((Kept.refl _ wr).alloc (.cells #[ptr (w.heap.size + 1), ptr (w.heap.size + 3)] 24))
              have C1 := two_f0 (cap := 2) T2 (Blk.new wr [ptr (w.heap.size + 1), ptr (w.heap.size + 3)] 24)
              have HC := Lib.hid C1
              have HO := Lib.hid T2.old
              have CT := take_nil
              have CO := offer_nil
              have CL := len_nil
              have CD := fun w => drain_none (emp_nil w) 5 (by decide)
              obtain ⟨r, hr⟩ : ∃ r, i = r := ⟨_, rfl⟩
              have hrp : ((r : Nat) : Int) = ((p : Nat) : Int) + ((q : Nat) : Int) := by omega
              rw [hr]
              clear C1 hT hT1 hi T2 hr
              go_wp2_with fail
              refine Calls.mono HC.out ?_
              rintro e w3 ⟨rfl, rfl⟩
              go_wp2_with fail
              with_reducible refine Calls.mono (CT _) ?_
              rintro e w3 ⟨rfl, rfl⟩
              go_wp2_with fail
              with_reducible refine Calls.mono (CO _ _) ?_
              rintro e w3 ⟨rfl, k3⟩
              have HO3 := Lib.hid (HO.out.trans k3)
              clear k3
              go_wp2_with fail
              with_reducible refine Calls.mono (CL _) ?_
              rintro e w4 ⟨rfl, rfl⟩
              go_wp2_with fail
              with_reducible refine Calls.mono (CD _) ?_
              rintro e w4 ⟨rfl, rfl⟩
              go_wp2_with fail
              exact ⟨rfl, rfl, fun _ => rfl, HO3.out⟩
theorem like_heap {w v W : World} (h : Like (sh0 W) w v) : v.heap = w.heap := Array.ext_getElem? fun i => h.off i (fun f => f)
theorem ints_like {w v W : World} (h : Like (sh0 W) w v) {s : Option Addr} {cap : Nat} {zs : List Int} (k : Ints w s cap zs) : Ints v s cap zs := by
  obtain ⟨k1, k2, k3⟩ := k
  refine ⟨k1, k2, ?_⟩
  rcases k3 with k3 | ⟨b, off, e, hb, hc⟩
  · exact .inl k3
  · refine .inr ⟨b, off, e, by rw [like_heap h]; exact hb, fun j hj => ?_⟩
    rw [← hc j hj]
    unfold World.cell?
    rw [like_heap h]
theorem order_cut {c : Code} (hc : Try.f3.body = some c) (w : World) {s0 s1 : Option Addr} {cap0 cap1 : Nat} {a b : List Int} {n : Int} (hA : Ints w s0 cap0 a) (hB : Ints w s1 cap1 b) :
    (cutCode 5 c).wp Try.prog (fun e a' w' => (e = .ret ∨ e = .normal) ∧ R5 w 3 a'.tmps w') { tmps := #[.slice s0 a.length cap0, .slice s1 b.length cap1, .int .i64 n] ++ Array.replicate (Try.f3.ntmps - #[Value.slice s0 a.length cap0, .slice s1 b.length cap1, .int .i64 n].size) undef, defers := [] } w := by
  by_cases h : 500 < a.length ∨ 500 < b.length ∨ n < 0 ∨ 1000 < n
  · exact order_early hc w h
  · exact order_main hc w hA hB (by omega) (by omega) (by omega) (by omega)
/-- MuxOrder's goroutine, beside whoever draws, comes to its return, or to a call of awake. -/
theorem order_ev {w W : World} {s0 s1 : Option Addr} {cap0 cap1 : Nat} {a b : List Int} {n : Int} (hA : Ints w s0 cap0 a) (hB : Ints w s1 cap1 b) {c : Code} (hc : Try.f3.body = some c) {cs : List Frame} (v₀ : World) (hl : Like (sh0 W) w v₀) :
    Ev Try.prog (sh0 W) cs (StopG Try.prog (gatesOf 5 c) (sh0 W) (fun f t v => f = 3 ∧ ∃ v₁, Like (sh0 W) w v₁ ∧ R5 v₁ f t v)) ⟨Frame.enter Try.prog 3 #[.slice s0 a.length cap0, .slice s1 b.length cap1, .int .i64 n] .normal, [], w⟩ := by
  refine ev_cut (g := 5) noEarly funs Try.func3 hc ?_ hl fun v hv => ?_
  · have h := cut5
    rw [Try.func3] at h
    simp only [hc] at h
    exact h
  · exact Code.wp_mono (fun e a' w' h => ⟨h.1, rfl, v, hv, h.2⟩) (order_cut hc v (ints_like hv hA) (ints_like hv hB))
end Go.Proofs.Ytoieogembfdmfaa.Mo

/- MuxOrder's gates: what stands there, and what comes behind awake. Conditions: each theorem's own. -/
namespace Go.Proofs.Ytoieogembfdmfaa.Mx
open Go.Conc Go.Conc.Lib Br Go.RowKit Hp Rw Ro So
noncomputable def orB : Code := Try.f3.body.getD .skip
/-- The gates' operations. -/
noncomputable def op1 : Array Oper := ((gatesOf 5 orB).getD 0 (#[], 0)).1
noncomputable def op2 : Array Oper := ((gatesOf 5 orB).getD 1 (#[], 0)).1
theorem gates_eq : gatesOf 5 orB = [(op1, 0), (op2, 27)] := by kernel_rfl
/-- What an operation is, but for its place. -/
def core (o : Oper) : Option Nat × Op × Option (Nat × Bool) := (o.dst, o.op, o.guard)
def callA : Op := .call { callee := .value (.func 5), args := #[], argTypes := #[] }
theorem op1_size : op1.size = 2 := by kernel_rfl
theorem op2_size : op2.size = 30 := by kernel_rfl
theorem op1_0 : (op1[0]?).map core = some (some 41, callA, none) := by kernel_rfl
theorem op1_1 : (op1[1]?).map core = some (some 6, .assign (.tmp 41), none) := by kernel_rfl
theorem op2_26 : (op2[26]?).map (·.dst) = some (some 181) := by kernel_rfl
theorem op2_27 : (op2[27]?).map core = some (some 182, callA, some (26, true)) := by kernel_rfl
theorem op2_28 : (op2[28]?).map core = some (some 183, .pick (.tmp 181) (.tmp 182) (.const (.bool false)), none) := by kernel_rfl
theorem op2_29 : (op2[29]?).map core = some (some 6, .assign (.tmp 183), none) := by kernel_rfl
theorem core_of {x : Option Oper} {d : Option Nat} {p : Op} {g : Option (Nat × Bool)} (h : x.map core = some (d, p, g)) : ∃ o, x = some o ∧ o.dst = d ∧ o.op = p ∧ o.guard = g := by
  obtain ⟨o, h1, h2⟩ := Option.map_eq_some_iff.1 h
  simp only [core, Prod.mk.injEq] at h2
  exact ⟨o, h1, h2.1, h2.2.1, h2.2.2⟩
theorem run_assign {ρ : Operand → Value} {o : Oper} {x : Operand} (h : o.op = .assign x) (w : World) : (execOp ρ o).runT Try.prog w #[] = (.ok (.value (ρ x)) w, #[]) := by
  unfold execOp
  rw [h]
  rfl
theorem run_pick {ρ : Operand → Value} {o : Oper} {c a b : Operand} (h : o.op = .pick c a b) (hc : ρ c = .bool true) (w : World) : (execOp ρ o).runT Try.prog w #[] = (.ok (.value (ρ a)) w, #[]) := by
  unfold execOp
  rw [h]
  simp only [hc]
  rfl
theorem wanted_none {o : Oper} {y : Nat → Option Bool} (h : o.guard = none) : Region.wanted o y = true := by simp [Region.wanted, h]
/-- The law's goroutine at its return. -/
def AtLaw (S : Sh) (K : World → Prop) (g : Goroutine) (w : World) : Prop :=
  ∃ (b : Frame) (t : Array Value) (k : List Item) (v : World), g = G { b.at ⟨t, []⟩ k with mode := .returning } [] ∧ b.kind = .normal ∧ b.fn = 3 ∧ t.getD 6 undef = .bool true ∧ Like S w v ∧ K v
section
variable {S : Sh} {K : World → Prop} {b : Frame} {t : Array Value} {k : List Item} {w v : World}
theorem ret_law (hb : b.kind = .normal) (hf : b.fn = 3) (h6 : t.getD 6 undef = .bool true) (hl : Like S w v) (hK : K v) {ops : Array Oper} : SG S (AtLaw S K) 2 (G (b.at ⟨t, []⟩ (.inRegion ops [] :: .code .ret :: k)) []) w := by
  refine SG.regEnd ?_
  refine SG.ret ?_
  exact SG.stop fun w₁ hr => ⟨b, t, _, v, rfl, hb, hf, h6, (like_atR hr hl).1, hK⟩
theorem getD_set (t : Array Value) (i j : Nat) (x : Value) (hi : i < t.size) : (t.setIfInBounds i x).getD j undef = if i = j then x else t.getD j undef := by
  simp only [Array.getD_eq_getD_getElem?, Array.getElem?_setIfInBounds]
  split
  · simp [hi]
  · rfl
/-- Behind awake, at the first gate. -/
theorem behind1 (hb : b.kind = .normal) (hf : b.fn = 3) (hs : t.size = 184) (hl : Like S w v) (hK : K v) : SG S (AtLaw S K) 3 (G (b.at (Act.put ⟨t, []⟩ ((op1[0]?).bind (·.dst)) (.bool true)) (.inRegion op1 [1] :: .code .ret :: k)) []) w := by
  obtain ⟨o0, e0, d0, p0, g0⟩ := core_of op1_0
  obtain ⟨o1, e1, d1, p1, g1⟩ := core_of op1_1
  rw [e0]
  simp only [Option.bind_some, d0]
  refine SG.pure e1 (wanted_none g1) hb (run_assign p1) ?_
  rw [d1]
  simp only [Act.put, Act.eval]
  refine ret_law hb hf ?_ hl hK
  rw [getD_set _ _ _ _ (by simp [hs]), if_pos rfl, getD_set _ _ _ _ (by simp [hs]), if_pos rfl]
theorem behind2 (hb : b.kind = .normal) (hf : b.fn = 3) (hs : t.size = 184) (h1 : t.getD 181 undef = .bool true) (hl : Like S w v) (hK : K v) : SG S (AtLaw S K) 4 (G (b.at (Act.put ⟨t, []⟩ ((op2[27]?).bind (·.dst)) (.bool true)) (.inRegion op2 [28, 29] :: .code .ret :: k)) []) w := by
  obtain ⟨o0, e0, d0, p0, g0⟩ := core_of op2_27
  obtain ⟨o1, e1, d1, p1, g1⟩ := core_of op2_28
  obtain ⟨o2, e2, d2, p2, g2⟩ := core_of op2_29
  rw [e0]
  simp only [Option.bind_some, d0]
  refine SG.pure e1 (wanted_none g1) hb (run_pick p1 ?_) ?_
  · simp only [Act.put, Act.eval]
    rw [getD_set _ _ _ _ (by simp [hs]), if_neg (by decide)]
    exact h1
  rw [d1]
  simp only [Act.put, Act.eval]
  refine SG.pure e2 (wanted_none g2) hb (run_assign p2) ?_
  rw [d2]
  simp only [Act.put, Act.eval]
  refine ret_law hb hf ?_ hl hK
  rw [getD_set _ _ _ _ (by simp [hs]), if_pos rfl, getD_set _ _ _ _ (by simp [hs]), if_pos rfl, getD_set _ _ _ _ (by simp [hs]), if_pos rfl]
end
end Go.Proofs.Ytoieogembfdmfaa.Mx

/- MuxOrder's run, on whatever tape. Conditions: each theorem's own. -/
namespace Go.Proofs.Ytoieogembfdmfaa.Mx
open Go.Conc Go.Conc.Lib Br Go.RowKit Hp Rw Ro So
theorem marks_map (l : List Oper) (t : Array Value) : marks l t = (l.map (·.dst)).foldl (fun t d => match d with | some d => t.setIfInBounds d (.bool true) | none => t) t := by
  unfold marks
  rw [List.foldl_map]
  rfl
theorem dst1 : (op1.toList.drop 0).map (·.dst) = [some 41, some 6] := by kernel_rfl
theorem dst2 : (op2.toList.drop 27).map (·.dst) = [some 182, some 183, some 6] := by kernel_rfl
theorem fr_run {fr : Frame} {k : List Item} (h1 : fr.defers = []) (h2 : fr.roundOf = none) (h3 : fr.mode = .run) (h4 : fr.todo = k) : fr = fr.at ⟨fr.tmps, []⟩ k := by
  cases fr
  simp only at h1 h2 h3 h4
  subst h1 h2 h3 h4
  rfl
theorem fr_ret {fr : Frame} (h1 : fr.defers = []) (h2 : fr.roundOf = none) (h3 : fr.mode = .returning) : fr = { fr.at ⟨fr.tmps, []⟩ fr.todo with mode := .returning } := by
  cases fr
  simp only at h1 h2 h3
  subst h1 h2 h3
  rfl
theorem end_step {b : Frame} {t : Array Value} {k : List Item} (hb : b.kind = .normal) (hf : b.fn = 3) (w : World) : stepG Try.prog true (G { b.at ⟨t, []⟩ k with mode := .returning } []) w = .ended (.done (t.getD 6 undef)) w #[] := by
  simp [G, stepG, unwind, doReturn, results, Frame.at, hb, hf, Try.func3, Try.f3, seen, GStep.after]
/-- What the law leaves. -/
def PostO (w : World) (v : Value) (w' : World) : Prop := v = .bool true ∧ w'.os = w.os ∧ w'.output = w.output ∧ w.heap.size ≤ w'.heap.size ∧ ∀ b, b < w.heap.size → w'.heap[b]? = w.heap[b]?
/-- From the law's return to the end of the run. -/
theorem law_ends {S : Sh} {Shun : Loc → Prop} {w0 : World} (hO : S.os = w0.os) (hU : S.out = w0.output) {gs : Array Goroutine} {g : Goroutine} {w : World} {sl : Option (Nat × Nat)} {t : Trace} {q : Nat → Nat} (h0 : gs[0]? = some g) (hS : AtLaw S (fun v => w0.heap.size ≤ v.heap.size ∧ ∀ b, b < w0.heap.size → ¬ S b ∧ v.heap[b]? = w0.heap[b]?) g w) (hL : Leavers Try.prog t gs q) (hP : Past Shun w.heap.size t) :
    ∃ N last o w' t', runNT Try.prog (N + 1) (crowd gs w sl) t = (.ended o w', t') ∧ runN Try.prog N (crowd gs w sl) = .next last ∧ step Try.prog last = .ended o w' ∧ Go.Conc.Good Try.prog (PostO w0) last o w' t' := by
  obtain ⟨b, tt, k, v, rfl, hb, hf, h6, hl, hz, ho⟩ := hS
  refine beside_ends (D := fun _ _ _ => False) (n := 0) (fun _ _ _ h => h.elim) h0 hL hP ?_
  refine Goes.stop fun w₁ hr => ⟨rfl, _, _, end_step hb hf w₁, by simp, h6, ?_, ?_, ?_, fun c hc => ?_⟩
  · obtain ⟨d, rfl⟩ := hr
    exact hl.osx.trans hO
  · obtain ⟨d, rfl⟩ := hr
    exact hl.outx.trans hU
  · obtain ⟨d, rfl⟩ := hr
    show _ ≤ w.heap.size
    rw [← hl.size]
    exact hz
  · obtain ⟨d, rfl⟩ := hr
    show w.heap[c]? = _
    obtain ⟨h1, h2⟩ := ho c hc
    rw [← hl.off c h1]
    exact h2
theorem da_ge {H b : Nat} {W : World} (h : DA H W b) : H ≤ b := by
  rcases h with h | h | ⟨k, _, h, _⟩
  · exact h.elim
  · have h' : b = H + 3 := h
    omega
  · have h' : H + 5 + 5 * k ≤ b := h
    omega
/-- From a gate to the end of the run. -/
theorem gate_ends {w0 : World} {fr : Frame} (hd : fr.defers = []) (hk : fr.kind = .normal) (hr : fr.roundOf = none) (hm : fr.mode = .run) (hf : fr.fn = 3) {ops : Array Oper} {i : Nat} {k : List Item} (hmem : (ops, i) ∈ gatesOf 5 orB) (htodo : fr.todo = .inRegion ops ((List.range ops.size).drop i) :: .code .ret :: k)
    {vL : World} (hsz : (marks (ops.toList.drop i) fr.tmps).size = 184) (h182 : (marks (ops.toList.drop i) fr.tmps).getD 182 undef = .bool true → (marks (ops.toList.drop i) fr.tmps).getD 181 undef = .bool true)
    {gs : Array Goroutine} {w : World} {sl : Option (Nat × Nat)} {t : Trace} {q : Nat → Nat} (h0 : gs[0]? = some (G fr [])) (h1 : gs.size = 1) (hl : Like (sh0 w0) w vL) (hz : w0.heap.size ≤ vL.heap.size) (ho : ∀ b, b < w0.heap.size → vL.heap[b]? = w0.heap[b]?) (hL : Leavers Try.prog t gs q) (hP : Past (fun _ => False) w.heap.size t) :
    ∃ N last o w' t', runNT Try.prog (N + 1) (crowd gs w sl) t = (.ended o w', t') ∧ runN Try.prog N (crowd gs w sl) = .next last ∧ step Try.prog last = .ended o w' ∧ Go.Conc.Good Try.prog (PostO w0) last o w' t' := by
  have hfr := fr_run hd hr hm htodo
  have key : ∃ (o : Oper) (rest : List Nat), ops[i]? = some o ∧ o.op = callA ∧ Region.wanted o (yielded ops fr.tmps) = true ∧ (List.range ops.size).drop i = i :: rest ∧
      ∀ (S : Sh) (K : World → Prop) (w v : World), Like S w v → K v → SG S (AtLaw S K) 4 (G (fr.at (Act.put ⟨fr.tmps, []⟩ ((ops[i]?).bind (·.dst)) (.bool true)) (.inRegion ops rest :: .code .ret :: k)) []) w := by
    rw [gates_eq] at hmem
    rcases List.mem_cons.1 hmem with e | hmem
    · simp only [Prod.mk.injEq] at e
      obtain ⟨rfl, rfl⟩ := e
      rw [marks_map, dst1] at hsz
      simp only [List.foldl_cons, List.foldl_nil, Array.size_setIfInBounds] at hsz
      obtain ⟨o0, e0, d0, p0, g0⟩ := core_of op1_0
      exact ⟨o0, [1], e0, p0, wanted_none g0, by rw [op1_size]; rfl, fun S K w v h1 h2 => SG.le (behind1 hk hf hsz h1 h2) (by decide)⟩
    · rcases List.mem_cons.1 hmem with e | hmem
      · simp only [Prod.mk.injEq] at e
        obtain ⟨rfl, rfl⟩ := e
        rw [marks_map, dst2] at hsz h182
        simp only [List.foldl_cons, List.foldl_nil, Array.size_setIfInBounds] at hsz
        have h181 : fr.tmps.getD 181 undef = .bool true := by
          have e1 := h182 (by
            simp only [List.foldl_cons, List.foldl_nil]
            rw [getD_set _ _ _ _ (by simp [hsz]), if_neg (by decide), getD_set _ _ _ _ (by simp [hsz]), if_neg (by decide), getD_set _ _ _ _ (by simp [hsz]), if_pos rfl])
          simp only [List.foldl_cons, List.foldl_nil] at e1
          rw [getD_set _ _ _ _ (by simp [hsz]), if_neg (by decide), getD_set _ _ _ _ (by simp [hsz]), if_neg (by decide), getD_set _ _ _ _ (by simp [hsz]), if_neg (by decide)] at e1
          exact e1
        obtain ⟨o0, e0, d0, p0, g0⟩ := core_of op2_27
        obtain ⟨o6, e6, d6⟩ := Option.map_eq_some_iff.1 op2_26
        refine ⟨o0, [28, 29], e0, p0, ?_, by rw [op2_size]; rfl, fun S K w v h1 h2 => behind2 hk hf hsz h181 h1 h2⟩
        have hy : yielded op2 fr.tmps 26 = some true := by
          have h' : fr.tmps[181]? = some (.bool true) := by
            have hlt : 181 < fr.tmps.size := by omega
            rw [Array.getD_eq_getD_getElem?, Array.getElem?_eq_getElem hlt] at h181
            rw [Array.getElem?_eq_getElem hlt]
            simpa using h181
          simp [yielded, e6, d6, h']
        simp [Region.wanted, g0, hy]
      · simp at hmem
  obtain ⟨o, rest, eo, po, hw, hdr, hback⟩ := key
  rw [hdr] at hfr
  rw [hfr] at h0
  have hentry : SG (sh0 w0) (fun g w' => ∃ v', g = G ((base 5).at { tmps := #[] ++ Array.replicate 79 undef, defers := [] } [.code awB]) [fr.at ⟨fr.tmps, []⟩ (.inRegion ops (i :: rest) :: .code .ret :: k)] ∧ Like (sh0 w0) w' v' ∧ v'.heap = vL.heap) (0 + 1) (G (fr.at ⟨fr.tmps, []⟩ (.inRegion ops (i :: rest) :: .code .ret :: k)) []) w := by
    refine SG.call' (f := 5) (vals := #[]) eo hw hk po Try.func5 (by kernel_rfl) rfl (by simp) ?_
    exact SG.stop fun w₁ hr => ⟨vL, rfl, (like_atR hr hl).1, rfl⟩
  obtain ⟨N1, gs1, g1, w1, sl1, t1, q1, r1, s1, h01, ⟨v1, rfl, hl1, e1⟩, hL1, hP1⟩ := goes_beside (S := sh0 w0) (Shun := fun _ => False) (fun l h => h.elim) _ _ _ hentry _ gs w sl t q (atR_refl w) (Nat.le_refl _) h0 hL hP
  obtain ⟨N2, gs2, g2, w2, sl2, t2, q2, r2, h02, ⟨fa, v2, rfl, a1, a2, a3, a4, a5, a6, hl2, hK2, hK3⟩, hL2, hP2⟩ := awakeLands (sl := sl1) hl1 (s1.trans h1) h01 hL1 hP1
  have hfa := fr_ret a1 a3 a4
  have hb2 : SG (DA v1.heap.size w0) (AtLaw (DA v1.heap.size w0) (fun v => w0.heap.size ≤ v.heap.size ∧ ∀ b, b < w0.heap.size → ¬ DA v1.heap.size w0 b ∧ v.heap[b]? = w0.heap[b]?)) (4 + 1) (G fa [fr.at ⟨fr.tmps, []⟩ (.inRegion ops (i :: rest) :: .code .ret :: k)]) w2 := by
    rw [hfa]
    refine SG.leave1 (t := 0) a2 rfl (by rw [a5]; exact Try.func5) rfl ?_
    rw [a6]
    have hsz1 : w0.heap.size ≤ v1.heap.size := by rw [e1]; exact hz
    refine hback _ _ w2 v2 hl2 ⟨by omega, fun b hb => ⟨fun hd => by have := da_ge hd; omega, ?_⟩⟩
    rw [hK3 b (by omega), e1]
    exact ho b hb
  obtain ⟨N3, gs3, g3, w3, sl3, t3, q3, r3, s3, h03, hS3, hL3, hP3⟩ := goes_beside (shunA v1.heap.size w0) _ _ _ hb2 _ gs2 w2 sl2 t2 q2 (atR_refl w2) (Nat.le_refl _) h02 hL2 hP2
  obtain ⟨N4, last, o4, w4, t4, z1, z2, z3, z4⟩ := law_ends (sl := sl3) rfl rfl h03 hS3 hL3 hP3
  have hrun := runNT_then r1 (runNT_then r2 r3)
  refine ⟨(N1 + (N2 + N3)) + N4, last, o4, w4, t4, ?_, ?_, z3, z4⟩
  · rw [Nat.add_assoc, runNT_add, hrun]; exact z1
  · rw [runN_add, ← runNT_fst Try.prog _ _ t, hrun]; exact z2
end Go.Proofs.Ytoieogembfdmfaa.Mx

/- MuxOrder's run from its entry, on whatever tape. Conditions: the theorem's own. -/
namespace Go.Proofs.Ytoieogembfdmfaa.Mx
open Go.Conc Go.Conc.Lib Br Go.RowKit Hp Rw Ro So
theorem orB_body : Try.f3.body = some orB := by kernel_rfl
theorem like0 (w : World) : Like (sh0 w) w w := ⟨rfl, rfl, rfl, rfl, rfl, fun _ _ => rfl, fun _ h => h.elim, fun _ h => h.elim⟩
theorem order_run {w : World} {s0 s1 : Option Addr} {cap0 cap1 : Nat} {a b : List Int} {n : Int} (hA : Opn.Ints w s0 cap0 a) (hB : Opn.Ints w s1 cap1 b) :
    ∃ N last o w' t', runNT Try.prog (N + 1) (solo (G (Frame.enter Try.prog 3 #[.slice s0 a.length cap0, .slice s1 b.length cap1, .int .i64 n] .normal) []) w) #[] = (.ended o w', t') ∧
      runN Try.prog N (solo (G (Frame.enter Try.prog 3 #[.slice s0 a.length cap0, .slice s1 b.length cap1, .int .i64 n] .normal) []) w) = .next last ∧ step Try.prog last = .ended o w' ∧ Go.Conc.Good Try.prog (PostO w) last o w' t' := by
  have hev := Mo.order_ev (W := w) (cs := []) (n := n) hA hB orB_body w (like0 w)
  rw [solo_eq_crowd]
  obtain ⟨N0, gs0, y, sl0, t0, q0, r0, z0, h0, hSt, hL0, hP0⟩ := ev_beside (Shun := fun _ => False) (fun l h => h.elim) (fun x d h => stopG_at x d h) hev _ #[G (Frame.enter Try.prog 3 #[.slice s0 a.length cap0, .slice s1 b.length cap1, .int .i64 n] .normal) []] w none #[] (fun _ => 0) ⟨w.drawn, rfl⟩ (Nat.le_refl _) rfl (leavers_one _ _) (past_nil.mono (Nat.zero_le _))
  obtain ⟨y1, y2, y3, y4, hst⟩ := hSt
  rw [y1] at h0
  have fin : ∃ N last o w' t', runNT Try.prog (N + 1) (crowd gs0 y.w sl0) t0 = (.ended o w', t') ∧ runN Try.prog N (crowd gs0 y.w sl0) = .next last ∧ step Try.prog last = .ended o w' ∧ Go.Conc.Good Try.prog (PostO w) last o w' t' := by
    rcases hst with ⟨y5, v, hl, hf, v1, hv1, x1, x2, x3, x4⟩ | ⟨y5, ops, i, k, hm, hlt, htodo, v, hl, hf, v1, hv1, x1, x2, x3, x4⟩
    · have hv : v1.heap = w.heap := s0_heap hv1
      have hold : ∀ b, b < w.heap.size → v.heap[b]? = w.heap[b]? := fun b hb => by rw [x4.block b (by rw [hv]; exact hb) (fun f => f), hv]
      refine law_ends (S := sh0 w) (w0 := w) rfl rfl h0 ⟨y.fr, y.fr.tmps, y.fr.todo, v, ?_, y3, hf, x2, hl, ?_, fun b hb => ⟨fun f => f, hold b hb⟩⟩ hL0 hP0
      · rw [← fr_ret y2 y4 y5]; rfl
      · rw [← hv]; exact x4.size
    · have hv : v1.heap = w.heap := s0_heap hv1
      have hold : ∀ b, b < w.heap.size → v.heap[b]? = w.heap[b]? := fun b hb => by rw [x4.block b (by rw [hv]; exact hb) (fun f => f), hv]
      exact gate_ends y2 y3 y4 y5 hf hm htodo x1 x3 h0 z0 hl (by rw [← hv]; exact x4.size) hold hL0 hP0
  obtain ⟨N4, last, o4, w4, t4, e1, e2, e3, e4⟩ := fin
  refine ⟨N0 + N4, last, o4, w4, t4, ?_, ?_, e3, e4⟩
  · rw [Nat.add_assoc, runNT_add, r0]; exact e1
  · rw [runN_add, ← runNT_fst Try.prog _ _ #[], r0]; exact e2
end Go.Proofs.Ytoieogembfdmfaa.Mx

