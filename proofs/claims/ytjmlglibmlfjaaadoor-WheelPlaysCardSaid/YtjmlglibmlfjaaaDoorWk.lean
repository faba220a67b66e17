/- The wheel at [int], as a list of what waits (time, number, value) by time, then number: what each call answers and leaves. Conditions: each theorem's own. -/
import Derived.Test.YtjmlglibmlfjaaaDoorAwake
set_option linter.unusedVariables false
namespace Go.Proofs.YtjmlglibmlfjaaaDoor.Wk
open Go.RowKit Hp BitsC Tree Im Go.Proofs.YtjmlglibmlfjaaaDoor.End
open Wheel (ents Whl WF0 Added Advanced Cancelled ecells Drawn nextV)
open Wh (Tab)
/-- Time, number, value. -/
abbrev Key := Nat × Nat × Int
def key (t : Tm) : Key := (t.at_, t.id, intOf t.v)
def kcells (k : Key) : List Value := [.int .i64 k.1, .int .i64 k.2.1, .int .i64 k.2.2]
/-- Block b of w is a wheel; K waits; F are its blocks. -/
def Wl (w : World) (b most now last : Nat) (K : List Key) (F : Nat → Prop) : Prop :=
  ∃ mb T M, Whl w b mb most now last T M ∧ (ents T).map key = K ∧ (∀ t ∈ ents T, t.v = .int .i64 (intOf t.v)) ∧ F = WF0 b mb T
/-- One more among those that wait. -/
def ins (x : Key) (K : List Key) : List Key := K.filter (fun k => decide (k.1 ≤ x.1)) ++ x :: K.filter (fun k => decide (x.1 < k.1))
def upTo (n : Nat) (K : List Key) : List Key := K.filter (fun k => decide (k.1 ≤ n))
def past (n : Nat) (K : List Key) : List Key := K.filter (fun k => decide (n < k.1))
def without (id : Nat) (K : List Key) : List Key := K.filter (fun k => decide (k.2.1 ≠ id))
theorem filter_all {α : Type} {p : α → Bool} : ∀ {l : List α}, (∀ x ∈ l, p x = true) → l.filter p = l
  | [], _ => rfl
  | x :: l, h => by rw [List.filter_cons_of_pos (h x (by simp)), filter_all (fun y hy => h y (by simp [hy]))]
theorem filter_none {α : Type} {p : α → Bool} : ∀ {l : List α}, (∀ x ∈ l, p x = false) → l.filter p = []
  | [], _ => rfl
  | x :: l, h => by rw [List.filter_cons_of_neg (by rw [h x (by simp)]; decide), filter_none (fun y hy => h y (by simp [hy]))]
theorem split_le {A B : List Key} {n : Nat} (hA : ∀ k ∈ A, k.1 ≤ n) (hB : ∀ k ∈ B, n < k.1) : (A ++ B).filter (fun k => decide (k.1 ≤ n)) = A ∧ (A ++ B).filter (fun k => decide (n < k.1)) = B := by
  rw [List.filter_append, List.filter_append]
  rw [filter_all (l := A) (fun x hx => by simpa using hA x hx), filter_none (l := B) (fun x hx => by have := hB x hx; simp; omega)]
  rw [filter_none (l := A) (fun x hx => by have := hA x hx; simp; omega), filter_all (l := B) (fun x hx => by simpa using hB x hx)]
  simp
theorem Wl.lt {w : World} {b most now last : Nat} {K : List Key} {F : Nat → Prop} (h : Wl w b most now last K F) : ∀ k, F k → k < w.heap.size := by
  obtain ⟨mb, T, M, h1, _, _, rfl⟩ := h
  exact fun k hk => hk.lt h1
theorem Wl.kept {w w' : World} {b most now last : Nat} {K : List Key} {F G : Nat → Prop} (h : Wl w b most now last K F) (k : Kept G w w') (hG : ∀ i, F i → ¬ G i) : Wl w' b most now last K F := by
  obtain ⟨mb, T, M, h1, h2, h3, rfl⟩ := h
  exact ⟨mb, T, M, h1.kept k hG, h2, h3, rfl⟩
theorem Wl.off {w : World} {b most now last : Nat} {K : List Key} {F : Nat → Prop} (h : Wl w b most now last K F) : ¬ F (0) := by
  obtain ⟨mb, T, M, h1, _, _, rfl⟩ := h
  exact h1.off
theorem Wl.now1 {w : World} {b most now last : Nat} {K : List Key} {F : Nat → Prop} (h : Wl w b most now last K F) : now ≤ 1125899906842624 := by
  obtain ⟨mb, T, M, h1, _, _, rfl⟩ := h
  exact h1.now1
theorem Wl.ids {w : World} {b most now last : Nat} {K : List Key} {F : Nat → Prop} (h : Wl w b most now last K F) : (∀ k ∈ K, 1 ≤ k.2.1 ∧ k.2.1 ≤ last) ∧ (K.map (·.2.1)).Nodup := by
  obtain ⟨mb, T, M, h1, rfl, _, rfl⟩ := h
  refine ⟨fun k hk => ?_, ?_⟩
  · obtain ⟨t, ht, rfl⟩ := List.mem_map.1 hk
    exact h1.ids t ht
  · have := h1.nodup
    simpa [List.map_map, Function.comp_def, key] using this
def NewK (most : Nat) (w : World) (e : Ending) (w' : World) : Prop :=
  ∃ (b : Nat) (F : Nat → Prop), e = .returned (.tuple #[.pointer (some ⟨b, 0, none⟩), .int .i64 0]) ∧ Wl w' b most 0 0 [] F ∧ Old w w' ∧ ∀ k, F k → w.heap.size ≤ k
theorem new_yes (most : Nat) (h1 : 1 ≤ most) (h2 : most ≤ 100000) (w : World) (hT : Tab w) : Calls Tryd.prog 5 #[.int .i64 most] w (NewK most w) := by
  refine (Wheel.new_yes most h1 h2 w hT).mono ?_
  rintro e w' ⟨he, hw, hk⟩
  refine ⟨w.heap.size + 1, _, he, ⟨w.heap.size, .nil, [], hw, rfl, by simp [ents, Tr.lvs], rfl⟩, hk, ?_⟩
  rintro k (e | e | e)
  · omega
  · omega
  · exact e.elim
/-- What an Add leaves. -/
def AddK (b most now last : Nat) (K : List Key) (F : Nat → Prop) (at_ : Nat) (v : Int) (w : World) (e : Ending) (w' : World) : Prop :=
  ∃ F' : Nat → Prop, e = .returned (.tuple #[.int .i64 ((last + 1 : Nat) : Int), .int .i64 0]) ∧ Wl w' b most now (last + 1) (ins (max at_ now, last + 1, v) K) F' ∧ Kept F w w' ∧ ∀ k, F' k → F k ∨ w.heap.size ≤ k
theorem add_ok {w : World} {b most now last : Nat} {K : List Key} {F : Nat → Prop} (h : Wl w b most now last K F) (at_ : Nat) (v : Int) (ha : at_ ≤ 1125899906842624) (hroom : K.length < most) (hlast : last ≤ 1000000000) :
    Calls Tryd.prog 6 #[.pointer (some ⟨b, 0, none⟩), .int .i64 at_, .int .i64 v] w (AddK b most now last K F at_ v w) := by
  obtain ⟨mb, T, M, h1, rfl, h3, rfl⟩ := h
  have hr : M.length < most := by rw [h1.len]; simpa using hroom
  refine (Wheel.add_ok h1 at_ v ha hr hlast).mono ?_
  rintro e w' ⟨T', x, A, B, he, ⟨x1, x2, x3⟩, e1, e2, e3, e4, hw', hk, hf⟩
  have hx : x.at_ = max at_ now := by split at x1 <;> omega
  refine ⟨_, he, ⟨mb, T', _, hw', ?_, ?_, rfl⟩, hk, hf⟩
  · rw [e2, e1, List.map_append, List.map_cons, List.map_append]
    have hA : ∀ k ∈ A.map key, k.1 ≤ max at_ now := fun k hk => by
      obtain ⟨t, ht, rfl⟩ := List.mem_map.1 hk
      rw [← hx]; exact e3 t ht
    have hB : ∀ k ∈ B.map key, max at_ now < k.1 := fun k hk => by
      obtain ⟨t, ht, rfl⟩ := List.mem_map.1 hk
      rw [← hx]; exact e4 t ht
    obtain ⟨s1, s2⟩ := split_le hA hB
    unfold ins
    simp only
    rw [s1, s2]
    simp [key, hx, x2, x3, intOf]
  · intro t ht
    rw [e2] at ht
    rcases List.mem_append.1 ht with ht | ht
    · exact h3 t (by rw [e1]; simp [ht])
    · rcases List.mem_cons.1 ht with rfl | ht
      · rw [x3]; rfl
      · exact h3 t (by rw [e1]; simp [ht])
theorem add_full {w : World} {b most now last : Nat} {K : List Key} {F : Nat → Prop} (h : Wl w b most now last K F) (at_ : Nat) (v : Int) (ha : at_ ≤ 1125899906842624) (hfull : most ≤ K.length) :
    Calls Tryd.prog 6 #[.pointer (some ⟨b, 0, none⟩), .int .i64 at_, .int .i64 v] w (Drawn (.tuple #[.int .i64 0, .int .i64 4]) w) := by
  obtain ⟨mb, T, M, h1, rfl, h3, rfl⟩ := h
  exact Wheel.add_full h1 at_ v ha (by rw [h1.len]; simpa using hfull)
def CancelK (b most now last : Nat) (K : List Key) (F : Nat → Prop) (id : Nat) (w : World) (e : Ending) (w' : World) : Prop :=
  ∃ F' : Nat → Prop, e = .returned (.int .i64 0) ∧ Wl w' b most now last (without id K) F' ∧ Kept F w w' ∧ ∀ k, F' k → F k
theorem cancel_yes {w : World} {b most now last : Nat} {K : List Key} {F : Nat → Prop} (h : Wl w b most now last K F) (hT : Tab w) (id : Nat) (hid : ∃ k ∈ K, k.2.1 = id) :
    Calls Tryd.prog 8 #[.pointer (some ⟨b, 0, none⟩), .int .i64 id] w (CancelK b most now last K F id w) := by
  obtain ⟨mb, T, M, h1, rfl, h3, rfl⟩ := h
  obtain ⟨k, hk, rfl⟩ := hid
  obtain ⟨t, ht, rfl⟩ := List.mem_map.1 hk
  obtain ⟨A, B, hAB⟩ := List.append_of_mem ht
  refine (Wheel.cancel_yes h1 hT A B t hAB).mono ?_
  rintro e w' ⟨T', M', he, e1, hw', hk', hf⟩
  refine ⟨_, he, ⟨mb, T', M', hw', ?_, ?_, rfl⟩, hk', hf⟩
  · have hn := h1.nodup
    rw [hAB, List.map_append, List.map_cons, List.nodup_append, List.nodup_cons] at hn
    rw [e1, hAB, List.map_append, List.map_append, List.map_cons]
    unfold without
    rw [List.filter_append, List.filter_cons_of_neg (by simp [key])]
    rw [filter_all (l := A.map key) (fun x hx => ?_), filter_all (l := B.map key) (fun x hx => ?_)]
    · obtain ⟨y, hy, rfl⟩ := List.mem_map.1 hx
      have : y.id ≠ t.id := fun e => hn.2.1.1 (by rw [← e]; exact List.mem_map_of_mem hy)
      exact decide_eq_true this
    · obtain ⟨y, hy, rfl⟩ := List.mem_map.1 hx
      have : y.id ≠ t.id := hn.2.2 y.id (List.mem_map_of_mem hy) t.id (by simp)
      exact decide_eq_true this
  · intro x hx
    rw [e1] at hx
    exact h3 x (by rw [hAB]; rcases List.mem_append.1 hx with hx | hx <;> simp [hx])
theorem cancel_no {w : World} {b most now last : Nat} {K : List Key} {F : Nat → Prop} (h : Wl w b most now last K F) (id : Int) (hid : ∀ k ∈ K, (k.2.1 : Int) ≠ id) :
    Calls Tryd.prog 8 #[.pointer (some ⟨b, 0, none⟩), .int .i64 id] w fun e w' => e = .returned (.int .i64 5) ∧ w = w' := by
  obtain ⟨mb, T, M, h1, rfl, h3, rfl⟩ := h
  exact Wheel.cancel_no h1 id (fun t ht => hid (key t) (List.mem_map_of_mem ht))
def AdvK (b most now last : Nat) (K : List Key) (F : Nat → Prop) (now' : Nat) (w : World) (e : Ending) (w' : World) : Prop :=
  ∃ (F' : Nat → Prop) (v : Value), e = .returned v ∧ w'.ownsRow w.heap.size 64 3 v (upTo now' K).length ((upTo now' K).flatMap kcells) ∧ Wl w' b most now' last (past now' K) F' ∧ Kept F w w' ∧ ∀ k, F' k → F k
theorem advance_any {w : World} {b most now last : Nat} {K : List Key} {F : Nat → Prop} (h : Wl w b most now last K F) (hT : Tab w) (tgt : Int) (hsm : K.length ≤ 100000) (now' : Nat)
   (hn : (now' : Int) = max (now : Int) (min tgt 1125899906842624)) :
    Calls Tryd.prog 11 #[.pointer (some ⟨b, 0, none⟩), .int .i64 tgt] w (AdvK b most now last K F now' w) := by
  obtain ⟨mb, T, M, h1, rfl, h3, rfl⟩ := h
  refine (Wheel.advance_any h1 hT tgt (by simpa using hsm) (fun t ht => ⟨_, h3 t ht⟩)).mono ?_
  rintro e w' ⟨T', M', v, D, n2, he, hn2, d1, d2, d3, hown, hw', hk, hf⟩
  obtain rfl : n2 = now' := by split at hn2 <;> split at hn2 <;> omega
  have hA : ∀ k ∈ D.map key, k.1 ≤ n2 := fun k hk => by
    obtain ⟨t, ht, rfl⟩ := List.mem_map.1 hk
    exact d2 t ht
  have hB : ∀ k ∈ (ents T').map key, n2 < k.1 := fun k hk => by
    obtain ⟨t, ht, rfl⟩ := List.mem_map.1 hk
    exact d3 t ht
  obtain ⟨s1, s2⟩ := split_le hA hB
  have e1 : upTo n2 ((ents T).map key) = D.map key := by unfold upTo; rw [d1, List.map_append]; exact s1
  have e2 : past n2 ((ents T).map key) = (ents T').map key := by unfold past; rw [d1, List.map_append]; exact s2
  have e3 : (D.map key).flatMap kcells = D.flatMap ecells := by
    rw [List.flatMap_map]
    refine flat_congr _ fun t ht => ?_
    have := h3 t (by rw [d1]; simp [ht])
    unfold kcells ecells key
    simp only
    rw [← this]
  refine ⟨_, v, he, ?_, ⟨mb, T', M', hw', e2.symm, fun t ht => h3 t (by rw [d1]; simp [ht]), rfl⟩, hk, hf⟩
  rw [e1, e3, List.length_map]
  exact hown
def nextK : List Key → Value
  | [] => .tuple #[.int .i64 0, .bool false]
  | k :: _ => .tuple #[.int .i64 k.1, .bool true]
theorem next_any {w : World} {b most now last : Nat} {K : List Key} {F : Nat → Prop} (h : Wl w b most now last K F) (hT : Tab w) :
    Calls Tryd.prog 13 #[.pointer (some ⟨b, 0, none⟩)] w (Drawn (nextK K) w) := by
  obtain ⟨mb, T, M, h1, rfl, h3, rfl⟩ := h
  have e : nextK ((ents T).map key) = nextV (ents T) := by cases ents T <;> rfl
  rw [e]
  exact Wheel.next_any h1 hT
theorem now_any {w : World} {b most now last : Nat} {K : List Key} {F : Nat → Prop} (h : Wl w b most now last K F) :
    Calls Tryd.prog 15 #[.pointer (some ⟨b, 0, none⟩)] w fun e w' => e = .returned (.int .i64 now) ∧ w = w' := by
  obtain ⟨mb, T, M, h1, rfl, h3, rfl⟩ := h
  exact Wheel.now_any h1
theorem len_any {w : World} {b most now last : Nat} {K : List Key} {F : Nat → Prop} (h : Wl w b most now last K F) :
    Calls Tryd.prog 14 #[.pointer (some ⟨b, 0, none⟩)] w fun e w' => e = .returned (.int .i64 (K.length : Int)) ∧ w = w' := by
  obtain ⟨mb, T, M, h1, rfl, h3, rfl⟩ := h
  simpa using Wheel.len_any' h1
/-- The first of what came. -/
theorem row_cells {w : World} {base : Nat} {v : Value} {x : Key} {K : List Key} (h : w.ownsRow base 64 3 v (x :: K).length ((x :: K).flatMap kcells)) :
    ∃ g cap, v = .slice (some ⟨g, 0, none⟩) (x :: K).length cap ∧ base ≤ g ∧ (x :: K).length ≤ cap ∧ w.cell? ⟨g, 0, none⟩ = some (.int .i64 x.1) ∧ w.cell? ⟨g, 1, none⟩ = some (.int .i64 x.2.1) ∧ w.cell? ⟨g, 2, none⟩ = some (.int .i64 x.2.2) := by
  rcases h.2 with ⟨_, h0⟩ | ⟨g, cap, cur, rfl, h1, h2, h3, h4, h5, h6⟩
  · simp at h0
  · have c0 := h.cellAt 0 (by simp only [List.length_cons]; omega)
    have c1 := h.cellAt 1 (by simp only [List.length_cons]; omega)
    have c2 := h.cellAt 2 (by simp only [List.length_cons]; omega)
    exact ⟨g, cap, rfl, h1, h3, by rw [c0]; rfl, by rw [c1]; rfl, by rw [c2]; rfl⟩
theorem row_nil {w : World} {base : Nat} {v : Value} {n : Nat} {C : List Value} (h : w.ownsRow base 64 3 v n C) : ∃ a cap, v = .slice a n cap := by
  rcases h.2 with ⟨rfl, rfl⟩ | ⟨g, cap, cur, rfl, _⟩
  · exact ⟨_, _, rfl⟩
  · exact ⟨_, _, rfl⟩
theorem ins_end {x : Key} {K : List Key} (h : ∀ k ∈ K, k.1 ≤ x.1) : ins x K = K ++ [x] := by
  unfold ins
  rw [filter_all (fun k hk => decide_eq_true (h k hk)), filter_none (fun k hk => by have := h k hk; simp; omega)]
theorem ins_front {x : Key} {K : List Key} (h : ∀ k ∈ K, x.1 < k.1) : ins x K = x :: K := by
  unfold ins
  rw [filter_all (l := K) (p := fun k => decide (x.1 < k.1)) (fun k hk => decide_eq_true (h k hk)), filter_none (fun k hk => by have := h k hk; simp; omega)]
  rfl
theorem ins_len (x : Key) : ∀ K : List Key, (ins x K).length = K.length + 1
  | [] => rfl
  | k :: K => by
    have := ins_len x K
    unfold ins at this ⊢
    by_cases h : k.1 ≤ x.1
    · rw [List.filter_cons, List.filter_cons, if_pos (decide_eq_true h), if_neg (by simp; omega)]
      simp only [List.cons_append, List.length_cons, List.length_append] at this ⊢
      omega
    · rw [List.filter_cons, List.filter_cons, if_neg (by simpa using h), if_pos (by simp; omega)]
      simp only [List.length_cons, List.length_append] at this ⊢
      omega
theorem kept_cell {F : Nat → Prop} {w w' : World} (h : Kept F w w') {k : Nat} (hk : k < w.heap.size) (hF : ¬ F k) (o : Nat) : w'.cell? ⟨k, o, none⟩ = w.cell? ⟨k, o, none⟩ := by
  simp [World.cell?, h.block k hk hF]
end Go.Proofs.YtjmlglibmlfjaaaDoor.Wk
