/- A meter beside all that was there ahead of it: what each call leaves; what the document fixes. Conditions: each theorem's own. -/
import Derived.Test.YtkggnbibjcogeaaCoPr
import Derived.Test.YtkggnbibjcogeaaEnd
set_option linter.unusedVariables false
namespace Go.Proofs.Ytkggnbibjcogeaa.Co
open Go.RowKit Hp CoM CoS NumM NumC Go.Proofs.Ytkggnbibjcogeaa.End
attribute [local go_sem ↓] Go.wp_at_zero Go.wp_at_succ
/-- A meter made since w0, its blocks are F; all of w0 is as it was. -/
def St (w0 : World) (b L M : Nat) (l : List Int) (F : Nat → Prop) (w : World) : Prop :=
  Kept (fun _ => False) w0 w ∧ ∃ v, MtV w b L M l v ∧ F b ∧ (∀ g, v.ownBlock = some g → F g) ∧ ∀ i, F i → w0.heap.size ≤ i ∧ i < w.heap.size
/-- What a call that turns the meter leaves of all else. -/
def Next (F : Nat → Prop) (w : World) (F' : Nat → Prop) (w' : World) : Prop := Kept F w w' ∧ ∀ i, F' i → F i ∨ w.heap.size ≤ i
theorem St.old {w0 w w' : World} {b L M : Nat} {l : List Int} {F : Nat → Prop} (h : St w0 b L M l F w) (k : Kept (fun _ => False) w w') : St w0 b L M l F w' := by
  obtain ⟨h0, v, h1, h2, h3, h4⟩ := h
  exact ⟨h0.trans k, v, h1.old k, h2, h3, fun i hi => ⟨(h4 i hi).1, Nat.lt_of_lt_of_le (h4 i hi).2 k.size⟩⟩
/-- Another thing's call leaves it as it is. -/
theorem St.far {w0 w w' : World} {b L M : Nat} {l : List Int} {F G : Nat → Prop} (h : St w0 b L M l F w) (k : Kept G w w') (hG : ∀ i, G i → F i → False) (hw : ∀ i, G i → w0.heap.size ≤ i) : St w0 b L M l F w' := by
  obtain ⟨h0, v, h1, h2, h3, h4⟩ := h
  exact ⟨h0.trans' k (fun i hi g => by have := hw i g; omega), v, h1.kept k (fun g => hG _ g h2) (fun g hg e => hG _ e (h3 g hg)), h2, h3, fun i hi => ⟨(h4 i hi).1, Nat.lt_of_lt_of_le (h4 i hi).2 k.size⟩⟩
theorem St.own {w0 w : World} {b L M : Nat} {l : List Int} {F : Nat → Prop} (h : St w0 b L M l F w) : ∀ i, F i → w0.heap.size ≤ i ∧ i < w.heap.size := by obtain ⟨_, v, _, _, _, h4⟩ := h; exact h4
theorem St.bd {w0 w : World} {b L M : Nat} {l : List Int} {F : Nat → Prop} (h : St w0 b L M l F w) : 1 ≤ L ∧ L ≤ 8 ∧ ∀ y ∈ l, 0 ≤ y ∧ y ≤ 1073741824 := by obtain ⟨_, v, h1, _⟩ := h; exact ⟨h1.l0, h1.l1, h1.bd⟩
theorem St.nx {w0 w w' : World} {b L M : Nat} {l' : List Int} {F : Nat → Prop} {v v' : Value} (h0 : Kept (fun _ => False) w0 w) (h2 : F b) (h3 : ∀ g, v.ownBlock = some g → F g) (h4 : ∀ i, F i → w0.heap.size ≤ i ∧ i < w.heap.size)
    (hW : MtV w' b L M l' v') (n : Nx b v w v' w') : ∃ F', St w0 b L M l' F' w' ∧ Next F w F' w' := by
  obtain ⟨n1, n2⟩ := n
  have hF : ∀ i, (i = b ∨ v.ownBlock = some i) → F i := fun i hi => hi.elim (fun e => e ▸ h2) (h3 i)
  have hs := n1.size
  have hs0 := h0.size
  refine ⟨fun i => i = b ∨ v'.ownBlock = some i, ⟨h0.trans' n1 (fun i hi e => by have := (h4 i (hF i e)).1; omega), v', hW, Or.inl rfl, fun g hg => Or.inr hg, ?_⟩, n1.mono (fun i _ e => hF i e), ?_⟩
  · rintro i (rfl | hi)
    · exact ⟨(h4 i h2).1, Nat.lt_of_lt_of_le (h4 i h2).2 hs⟩
    · rcases n2 i hi with h | h
      · exact ⟨(h4 i (h3 i h)).1, Nat.lt_of_lt_of_le (h4 i (h3 i h)).2 hs⟩
      · exact ⟨by omega, h.2⟩
  · rintro i (rfl | hi)
    · exact Or.inl h2
    · exact (n2 i hi).imp (h3 i) (fun h => h.1)
theorem new_st {L M : Nat} (h0 : 1 ≤ L) (h1 : L ≤ 8) (h2 : 1 ≤ M) (h3 : M ≤ 1000) (w : World) : Calls Try.prog 8 #[.int .i64 (L : Nat), .int .i64 (M : Nat)] w fun e w' => ∃ b F, e = .returned (.tuple #[.pointer (some ⟨b, 0, none⟩), .int .i64 0]) ∧ St w b L M [] F w' ∧ ∀ i, F i → w.heap.size ≤ i :=
  (new_yes h0 h1 h2 h3 w).mono fun e w' ⟨b, e1, e2, e3, e4⟩ => ⟨b, fun i => i = b, e1, ⟨e3, _, e2, rfl, fun g hg => (by cases hg), fun i e => by subst e; obtain ⟨zs, f, q, _⟩ := e2.ex; exact ⟨e4, q.lt⟩⟩, fun i e => by subst e; exact e4⟩
theorem add_st {w0 w : World} {b L M : Nat} {l : List Int} {F : Nat → Prop} (h : St w0 b L M l F w) (x : Int) :
    Calls Try.prog 9 #[.pointer (some ⟨b, 0, none⟩), .int .i64 x] w fun e w' => e = .returned (.tuple #[]) ∧ ∃ F', St w0 b L M (keep M l (cl x)) F' w' ∧ Next F w F' w' := by
  obtain ⟨h0, v, h1, h2, h3, h4⟩ := h
  exact (add_any h1 x).mono fun e w' ⟨g1, v', g2, g3⟩ => ⟨g1, St.nx h0 h2 h3 h4 g2 g3⟩
theorem cuts_st {w0 w : World} {b L M : Nat} {l : List Int} {F : Nat → Prop} (h : St w0 b L M l F w) (window : Int) :
    Calls Try.prog 12 #[.pointer (some ⟨b, 0, none⟩), .int .i64 window] w fun e w' => ∃ v', e = .returned v' ∧ Ro.Row nT w' v' (cutsM L l window) ∧ Kept (fun _ => False) w w' := by
  obtain ⟨h0, v, h1, h2, h3, h4⟩ := h
  exact (cuts_any h1 window).mono fun e w' ⟨v', g1, g2, g3⟩ => ⟨v', g1, Ro.of_rw g2, g3⟩
theorem prio_st {w0 w : World} {b L M : Nat} {l : List Int} {F : Nat → Prop} (h : St w0 b L M l F w) (size window : Int) :
    Calls Try.prog 14 #[.pointer (some ⟨b, 0, none⟩), .int .i64 size, .int .i64 window] w fun e w' => e = .returned (.int .i64 (7 - (below size (cutsM L l window) : Nat))) ∧ Kept (fun _ => False) w w' := by
  obtain ⟨h0, v, h1, h2, h3, h4⟩ := h
  exact prio_any h1 size window
theorem len_st {w0 w : World} {b L M : Nat} {l : List Int} {F : Nat → Prop} (h : St w0 b L M l F w) :
    Calls Try.prog 16 #[.pointer (some ⟨b, 0, none⟩)] w fun e w' => e = .returned (.int .i64 (l.length : Nat)) ∧ w = w' := by
  obtain ⟨h0, v, h1, h2, h3, h4⟩ := h
  exact len_any h1
theorem srt19 : srt [1, 9] = [1, 9] := up_one (srt_up _) (by unfold Up; decide) (srt_perm _)
theorem cuts19 : cutsM 2 [1, 9] 10 = [9] := by
  unfold cutsM
  rw [srt19]
  decide
theorem keep19 : keep 10 (keep 10 [] (cl 1)) (cl 9) = [1, 9] := by decide
set_option maxRecDepth 100000 in
set_option maxHeartbeats 4000000 in
theorem awake_any (w : World) : Calls Try.prog 7 #[] w fun e w' => e = .returned (.bool true) ∧ Old w w' := by
  have N := Lib.hid fun w => new_st (L := 2) (M := 10) (by omega) (by omega) (by omega) (by omega) w
  have NN := Lib.hid fun w => new_no (L := 9) (M := 1) (by omega) w
  go_enter Try.func7, Try.ntmps7
  go_wp2_with fail
  with_reducible refine Calls.mono (N.out _) ?_
  rintro e w1 ⟨b, F, rfl, hS, _⟩
  have HS := Lib.hid hS
  clear hS N
  go_wp2_with fail
  with_reducible refine Calls.mono (NN.out _) ?_
  rintro e w' ⟨rfl, rfl⟩
  clear NN
  go_wp2_with fail
  have A1 := Lib.hid (add_st HS.out 1)
  with_reducible refine Calls.mono A1.out ?_
  rintro e w2 ⟨rfl, F2, hS2, _⟩
  have HS2 := Lib.hid hS2
  clear hS2 A1 HS
  go_wp2_with fail
  have A2 := Lib.hid (add_st HS2.out 9)
  with_reducible refine Calls.mono A2.out ?_
  rintro e w3 ⟨rfl, F3, hS3, _⟩
  rw [keep19] at hS3
  have HS3 := Lib.hid hS3
  clear hS3 A2 HS2
  go_wp2_with fail
  have C := Lib.hid (cuts_st HS3.out 10)
  rw [cuts19] at C
  with_reducible refine Calls.mono C.out ?_
  rintro e w4 ⟨v4, rfl, hR, hk⟩
  have HS4 := Lib.hid (HS3.out.old hk)
  obtain ⟨a, c, rfl, hc1, hc2⟩ := hR.slice
  unfold maxLen at hc2
  obtain ⟨g, o, rfl, hcx⟩ := row_cell hR (k := 0) (x := 9) rfl
  rw [Nat.add_zero] at hcx
  have P1 := prio_st HS4.out 9 10
  rw [cuts19, show (7 - ((below 9 [9] : Nat) : Int)) = 7 by decide] at P1
  have P1 := Lib.hid P1
  clear hR hk HS3 C
  go_wp2_with fail
  with_reducible refine Calls.mono P1.out ?_
  rintro e w5 ⟨rfl, hk5⟩
  have HS5 := Lib.hid (HS4.out.old hk5)
  have P2 := prio_st HS5.out 10 10
  rw [cuts19, show (7 - ((below 10 [9] : Nat) : Int)) = 6 by decide] at P2
  have P2 := Lib.hid P2
  clear hk5 HS4 P1 hcx
  go_wp2_with fail
  with_reducible refine Calls.mono P2.out ?_
  rintro e w6 ⟨rfl, hk6⟩
  have HS6 := Lib.hid (HS5.out.old hk6)
  have LN := Lib.hid (len_st HS6.out)
  clear hk6 HS5 P2
  go_wp2_with fail
  with_reducible refine Calls.mono LN.out ?_
  rintro e w7 ⟨rfl, rfl⟩
  go_wp2_with fail
  go_ret
  exact ⟨rfl, HS6.out.1⟩
end Go.Proofs.Ytkggnbibjcogeaa.Co
