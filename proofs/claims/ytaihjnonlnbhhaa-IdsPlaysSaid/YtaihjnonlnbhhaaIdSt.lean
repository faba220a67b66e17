/- A window beside all that was there ahead of it: what each call leaves; what the document fixes. Conditions: each theorem's own. -/
import Derived.Test.YtaihjnonlnbhhaaIdGiv
set_option linter.unusedVariables false
namespace Go.Proofs.Ytaihjnonlnbhhaa.Idw
open Go.RowKit Hp IdM Ro Go.Proofs.Ytaihjnonlnbhhaa.End
attribute [local go_sem ↓] Go.wp_at_zero Go.wp_at_succ
/-- A window made since w0, its blocks are F; all of w0 is as it was. -/
def St (w0 : World) (b most : Nat) (M : Int) (l : List Int) (F : Nat → Prop) (w : World) : Prop :=
  Kept (fun _ => False) w0 w ∧ ∃ v wa, WnV w b most M l v wa ∧ F b ∧ (∀ g, v.ownBlock = some g → F g) ∧ ∀ i, F i → w0.heap.size ≤ i ∧ i < w.heap.size
/-- What a call that turns the window leaves of all else. -/
def Next (F : Nat → Prop) (w : World) (F' : Nat → Prop) (w' : World) : Prop := Kept F w w' ∧ ∀ i, F' i → F i ∨ w.heap.size ≤ i
theorem St.old {w0 w w' : World} {b most : Nat} {M : Int} {l : List Int} {F : Nat → Prop} (h : St w0 b most M l F w) (k : Kept (fun _ => False) w w') : St w0 b most M l F w' := by
  obtain ⟨h0, v, wa, h1, h2, h3, h4⟩ := h
  exact ⟨h0.trans k, v, wa, h1.old k, h2, h3, fun i hi => ⟨(h4 i hi).1, Nat.lt_of_lt_of_le (h4 i hi).2 k.size⟩⟩
/-- Another thing's call leaves it as it is. -/
theorem St.far {w0 w w' : World} {b most : Nat} {M : Int} {l : List Int} {F G : Nat → Prop} (h : St w0 b most M l F w) (k : Kept G w w') (hG : ∀ i, G i → F i → False) (hw : ∀ i, G i → w0.heap.size ≤ i) : St w0 b most M l F w' := by
  obtain ⟨h0, v, wa, h1, h2, h3, h4⟩ := h
  exact ⟨h0.trans' k (fun i hi g => by have := hw i g; omega), v, wa, h1.kept k (fun g => hG _ g h2) (fun g hg e => hG _ e (h3 g hg)), h2, h3, fun i hi => ⟨(h4 i hi).1, Nat.lt_of_lt_of_le (h4 i hi).2 k.size⟩⟩
theorem St.win {w0 w : World} {b most : Nat} {M : Int} {l : List Int} {F : Nat → Prop} (h : St w0 b most M l F w) : Win most M l := by obtain ⟨_, v, wa, h1, _⟩ := h; exact h1.win
theorem St.own {w0 w : World} {b most : Nat} {M : Int} {l : List Int} {F : Nat → Prop} (h : St w0 b most M l F w) : ∀ i, F i → w0.heap.size ≤ i ∧ i < w.heap.size := by obtain ⟨_, v, wa, _, _, _, h4⟩ := h; exact h4
theorem St.nx {w0 w w' : World} {b most : Nat} {M' : Int} {l' : List Int} {F : Nat → Prop} {v v' : Value} {wa' : Nat} (h0 : Kept (fun _ => False) w0 w) (h2 : F b) (h3 : ∀ g, v.ownBlock = some g → F g) (h4 : ∀ i, F i → w0.heap.size ≤ i ∧ i < w.heap.size)
    (hW : WnV w' b most M' l' v' wa') (n : Nx b v w v' w') : ∃ F', St w0 b most M' l' F' w' ∧ Next F w F' w' := by
  obtain ⟨n1, n2⟩ := n
  have hF : ∀ i, (i = b ∨ v.ownBlock = some i) → F i := fun i hi => hi.elim (fun e => e ▸ h2) (h3 i)
  have hs := n1.size
  have hs0 := h0.size
  refine ⟨fun i => i = b ∨ v'.ownBlock = some i, ⟨h0.trans' n1 (fun i hi e => by have := (h4 i (hF i e)).1; omega), v', wa', hW, Or.inl rfl, fun g hg => Or.inr hg, ?_⟩, n1.mono (fun i _ e => hF i e), ?_⟩
  · rintro i (rfl | hi)
    · exact ⟨(h4 i h2).1, Nat.lt_of_lt_of_le (h4 i h2).2 hs⟩
    · rcases n2 i hi with h | h
      · exact ⟨(h4 i (h3 i h)).1, Nat.lt_of_lt_of_le (h4 i (h3 i h)).2 hs⟩
      · exact ⟨by omega, h.2⟩
  · rintro i (rfl | hi)
    · exact Or.inl h2
    · exact (n2 i hi).imp (h3 i) (fun h => h.1)
theorem new_st {most : Nat} (h0 : 1 ≤ most) (h1 : most ≤ 100000) (w : World) : Calls Try.prog 11 #[.int .i64 (most : Nat)] w fun e w' => ∃ b F, e = .returned (.tuple #[.pointer (some ⟨b, 0, none⟩), .int .i64 0]) ∧ St w b most 1 [] F w' ∧ ∀ i, F i → w.heap.size ≤ i :=
  (new_yes h0 h1 w).mono fun e w' ⟨b, h1, h2, h3, h4⟩ => ⟨b, fun i => i = b, h1, ⟨h3, _, _, h2, rfl, fun g hg => (by cases hg), fun i e => by subst e; exact ⟨h4, h2.blk.lt⟩⟩, fun i e => by subst e; exact h4⟩
theorem done_st {w0 w : World} {b most : Nat} {M : Int} {l : List Int} {F : Nat → Prop} (h : St w0 b most M l F w) (id : Int) :
    Calls Try.prog 12 #[.pointer (some ⟨b, 0, none⟩), .int .u64 id] w fun e w' => e = .returned (.int .i64 (done most M l id).1) ∧ ∃ F', St w0 b most (done most M l id).2.1 (done most M l id).2.2 F' w' ∧ Next F w F' w' := by
  obtain ⟨h0, v, wa, h1, h2, h3, h4⟩ := h
  exact (done_any h1 id).mono fun e w' ⟨g1, v', wa', g2, g3⟩ => ⟨g1, St.nx h0 h2 h3 h4 g2 g3⟩
theorem retire_st {w0 w : World} {b most : Nat} {M : Int} {l : List Int} {F : Nat → Prop} (h : St w0 b most M l F w) (below : Int) :
    Calls Try.prog 14 #[.pointer (some ⟨b, 0, none⟩), .int .u64 below] w fun e w' => e = .returned (.int .i64 ((retire M l below).1 : Nat)) ∧ ∃ F', St w0 b most (retire M l below).2.1 (retire M l below).2.2 F' w' ∧ Next F w F' w' := by
  obtain ⟨h0, v, wa, h1, h2, h3, h4⟩ := h
  exact (retire_any h1 below).mono fun e w' ⟨g1, v', wa', g2, g3⟩ => ⟨g1, St.nx h0 h2 h3 h4 g2 g3⟩
theorem is_st {w0 w : World} {b most : Nat} {M : Int} {l : List Int} {F : Nat → Prop} (h : St w0 b most M l F w) (id : Int) :
    Calls Try.prog 16 #[.pointer (some ⟨b, 0, none⟩), .int .u64 id] w fun e w' => e = .returned (.bool (isE M l id)) ∧ Kept (fun _ => False) w w' := by
  obtain ⟨h0, v, wa, h1, h2, h3, h4⟩ := h
  exact is_any h1 id
theorem is_same {w0 w : World} {b most : Nat} {M : Int} {l : List Int} {F : Nat → Prop} (h : St w0 b most M l F w) (id : Int) :
    Calls Try.prog 16 #[.pointer (some ⟨b, 0, none⟩), .int .u64 id] w fun e w' => e = .returned (.bool (isE M l id)) ∧ w = w' := by
  obtain ⟨h0, v, wa, h1, h2, h3, h4⟩ := h
  exact is_eq h1 id
theorem mark_st {w0 w : World} {b most : Nat} {M : Int} {l : List Int} {F : Nat → Prop} (h : St w0 b most M l F w) :
    Calls Try.prog 18 #[.pointer (some ⟨b, 0, none⟩)] w fun e w' => e = .returned (.int .u64 M) ∧ w = w' := by
  obtain ⟨h0, v, wa, h1, h2, h3, h4⟩ := h
  exact mark_any h1
theorem len_st {w0 w : World} {b most : Nat} {M : Int} {l : List Int} {F : Nat → Prop} (h : St w0 b most M l F w) :
    Calls Try.prog 19 #[.pointer (some ⟨b, 0, none⟩)] w fun e w' => e = .returned (.int .i64 (l.length : Nat)) ∧ w = w' := by
  obtain ⟨h0, v, wa, h1, h2, h3, h4⟩ := h
  exact len_any h1
set_option maxRecDepth 100000 in
set_option maxHeartbeats 4000000 in
theorem awake_any (w : World) : Calls Try.prog 10 #[] w fun e w' => e = .returned (.bool true) ∧ Old w w' := by
  have N := Lib.hid fun w => new_st (most := 5) (by omega) (by omega) w
  have GI := Lib.hid fun w => give_yes (last := 1) (by decide) (by decide) w
  go_enter Try.func10, Try.ntmps10
  go_wp2_with fail
  with_reducible refine Calls.mono (N.out _) ?_
  rintro e w1 ⟨b, F, rfl, hS, _⟩
  have HS := Lib.hid hS
  clear hS N
  go_wp2_with fail
  with_reducible refine Calls.mono (GI.out _) ?_
  rintro e w2 ⟨g, rfl, hg, hk, hgs⟩
  have HS2 := Lib.hid (HS.out.old hk)
  have hoff : ¬ F g := fun e => by have := (HS.out.own g e).2; omega
  have HGE : Hid (w.heap.size ≤ g) := Lib.hid (Nat.le_trans HS.out.1.size hgs)
  have HG := Lib.hid hg
  have HO := Lib.hid hoff
  clear hg hk hgs hoff GI
  go_wp2_with fail
  have D1 := done_st HS2.out 2
  rw [show done 5 1 [] 2 = (0, 1, [2]) by decide] at D1
  have D1 := Lib.hid D1
  with_reducible refine Calls.mono D1.out ?_
  rintro e w3 ⟨rfl, F3, hS3, hn3⟩
  have HG3 : Hid (Gv w3 g 1 0 ∧ ¬ F3 g) := Lib.hid ⟨hn3.1.blk HG.out HO.out, fun e => (hn3.2 g e).elim HO.out (fun h => by have := HG.out.lt; omega)⟩
  have HS3 := Lib.hid hS3
  clear hS3 hn3 D1
  go_wp2_with fail
  have D2 := done_st HS3.out 1
  rw [show done 5 1 [2] 1 = (0, 3, []) by decide] at D2
  have D2 := Lib.hid D2
  with_reducible refine Calls.mono D2.out ?_
  rintro e w4 ⟨rfl, F4, hS4, hn4⟩
  have HG4 : Hid (Gv w4 g 1 0 ∧ ¬ F4 g) := Lib.hid ⟨hn4.1.blk HG3.out.1 HG3.out.2, fun e => (hn4.2 g e).elim HG3.out.2 (fun h => by have := HG3.out.1.lt; omega)⟩
  have HS4 := Lib.hid hS4
  clear hS4 hn4 D2
  go_wp2_with fail
  have X1 := Lib.hid (next_yes HG4.out.1 (by decide) (by decide) (by decide))
  with_reducible refine Calls.mono X1.out ?_
  rintro e w5 ⟨rfl, hg5, hk5⟩
  have HS5 := Lib.hid (HS4.out.far hk5 (fun i e f => HG4.out.2 (e ▸ f)) (fun i e => by subst e; exact HGE.out))
  have HG5 := Lib.hid hg5
  clear hg5 hk5 X1
  go_wp2_with fail
  have X2 := Lib.hid (next_no HG5.out (by decide))
  with_reducible refine Calls.mono X2.out ?_
  rintro e w6 ⟨rfl, hk6⟩
  have HS6 := Lib.hid (HS5.out.old hk6)
  have MK := Lib.hid (mark_st HS6.out)
  have LN := Lib.hid (len_st HS6.out)
  clear hk6 X2
  go_wp2_with fail
  with_reducible refine Calls.mono MK.out ?_
  rintro e w7 ⟨rfl, rfl⟩
  go_wp2_with fail
  with_reducible refine Calls.mono LN.out ?_
  rintro e w7 ⟨rfl, rfl⟩
  go_wp2_with fail
  go_ret
  exact ⟨rfl, HS6.out.1⟩
end Go.Proofs.Ytaihjnonlnbhhaa.Idw
