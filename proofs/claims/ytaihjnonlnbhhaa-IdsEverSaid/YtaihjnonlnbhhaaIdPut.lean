/- A window: New, Done, Is, Retire, Mark, Len; nothing's. Conditions: each theorem's own. -/
import Derived.Test.YtaihjnonlnbhhaaIdWin
import Derived.Deep.RegionHeld3
set_option linter.unusedVariables false
namespace Go.Proofs.Ytaihjnonlnbhhaa.Idw
open Go.RowKit Hp IdM Ro
attribute [local go_sem ↓] Go.wp_at_zero Go.wp_at_succ
/-- A window in memory. -/
structure WnV (w : World) (b most : Nat) (M : Int) (l : List Int) (v : Value) (wa : Nat) : Prop where
  blk : Blk w b [.int .i64 (most : Nat), .int .u64 M, v, .int .i64 (wa : Nat)] 75
  row : Row uT w v l
  win : Win most M l
  lo : 1 ≤ most
  hi : most ≤ 100000
  was : wa ≤ 100000
  ne : v.ownBlock ≠ some b
/-- What a call that turns a window leaves of all else, and where its row lies. -/
def Nx (b : Nat) (v : Value) (w : World) (v' : Value) (w' : World) : Prop := Kept (fun k => k = b ∨ v.ownBlock = some k) w w' ∧ ∀ g, v'.ownBlock = some g → v.ownBlock = some g ∨ (w.heap.size ≤ g ∧ g < w'.heap.size)
theorem Nx.same {b : Nat} {v : Value} {w w' : World} (k : Kept (fun _ => False) w w') : Nx b v w v w' := ⟨k.mono (fun _ _ f => f.elim), fun g h => Or.inl h⟩
theorem WnV.kept {w w' : World} {F : Nat → Prop} {b most : Nat} {M : Int} {l : List Int} {v : Value} {wa : Nat} (h : WnV w b most M l v wa) (k : Kept F w w') (h1 : ¬ F b) (h2 : ∀ g, v.ownBlock = some g → ¬ F g) : WnV w' b most M l v wa :=
  ⟨k.blk h.blk h1, h.row.kept k h2, h.win, h.lo, h.hi, h.was, h.ne⟩
theorem WnV.old {w w' : World} {b most : Nat} {M : Int} {l : List Int} {v : Value} {wa : Nat} (h : WnV w b most M l v wa) (k : Kept (fun _ => False) w w') : WnV w' b most M l v wa := h.kept k (fun f => f) (fun _ _ f => f)
theorem WnV.few {w : World} {b most : Nat} {M : Int} {l : List Int} {v : Value} {wa : Nat} (h : WnV w b most M l v wa) : l.length ≤ 100000 := Nat.le_trans h.win.few h.hi
theorem new_yes {most : Nat} (h0 : 1 ≤ most) (h1 : most ≤ 100000) (w : World) : Calls Try.prog 11 #[.int .i64 (most : Nat)] w fun e w' => ∃ b, e = .returned (.tuple #[.pointer (some ⟨b, 0, none⟩), .int .i64 0]) ∧ WnV w' b most 1 [] (.slice none 0 0) 0 ∧ Kept (fun _ => False) w w' ∧ w.heap.size ≤ b := by
  have g1 : decide ((most : Int) < 1) = false := by rw [decide_eq_false_iff_not]; omega
  have g2 : decide ((100000 : Int) < (most : Int)) = false := by rw [decide_eq_false_iff_not]; omega
  go_enter Try.func11, Try.ntmps11
  go_wp2_with fail
  go_ret2
  exact ⟨_, rfl, ⟨Blk.new w [.int .i64 (most : Nat), .int .u64 1, .slice none 0 0, .int .i64 0] 75, Or.inl ⟨rfl, rfl⟩, Win.new most, h0, h1, by decide, fun h => by cases h⟩, (Kept.refl _ w).alloc _, Nat.le_refl _⟩
theorem new_no {most : Int} (h : ¬ (1 ≤ most ∧ most ≤ 100000)) (w : World) : Calls Try.prog 11 #[.int .i64 most] w fun e w' => e = .returned (.tuple #[.pointer none, .int .i64 1]) ∧ w = w' := by
  have hc : most < 1 ∨ (decide (most < 1) = false ∧ 100000 < most) := by rw [decide_eq_false_iff_not]; omega
  clear h
  rcases hc with h1 | ⟨h1, h2⟩
  all_goals
    go_enter Try.func11, Try.ntmps11
    go_wp2_with fail
    go_ret2
    exact ⟨rfl, rfl⟩
theorem made_yes {w : World} {b most : Nat} {M : Int} {l : List Int} {v : Value} {wa : Nat} (h : WnV w b most M l v wa) : Calls Try.prog 35 #[.pointer (some ⟨b, 0, none⟩)] w fun e w' => e = .returned (.bool true) ∧ w = w' := by
  have c0 := h.blk.cell (o := 0) rfl
  have g1 : 0 < most := h.lo
  clear h
  go_enter Try.func35, Try.ntmps35
  go_wp2_with fail
  go_ret
  exact ⟨rfl, rfl⟩
theorem made_nil (w : World) : Calls Try.prog 35 #[.pointer none] w fun e w' => e = .returned (.bool false) ∧ w = w' := by
  go_enter Try.func35, Try.ntmps35
  go_wp2_with fail
  go_ret
  exact ⟨rfl, rfl⟩
theorem find_low {w : World} {b most : Nat} {M : Int} {l : List Int} {v : Value} {wa : Nat} (h : WnV w b most M l v wa) {id : Int} (hi : id < M) : Calls Try.prog 36 #[.pointer (some ⟨b, 0, none⟩), .int .u64 id] w fun e w' => e = .returned (.tuple #[.int .i64 0, .bool true]) ∧ w = w' := by
  have c1 := h.blk.cell (o := 1) rfl
  clear h
  go_enter Try.func36, Try.ntmps36
  go_wp2_with fail
  go_ret2
  exact ⟨rfl, rfl⟩
theorem find_eq {w : World} {b most : Nat} {M : Int} {l : List Int} {v : Value} {wa : Nat} (h : WnV w b most M l v wa) {id : Int} (hi : ¬ id < M) : Calls Try.prog 36 #[.pointer (some ⟨b, 0, none⟩), .int .u64 id] w fun e w' => e = .returned (.tuple #[.int .i64 (place id l : Nat), .bool (has id l)]) ∧ w = w' := by
  have SA := Lib.hid (search_eq h.row h.win.asc (by have := h.few; omega) id)
  have c1 := h.blk.cell (o := 1) rfl
  have c2 := h.blk.cell (o := 2) rfl
  obtain ⟨a, c, rfl, _, _⟩ := h.row.slice
  have g1 : decide (id < M) = false := by rw [decide_eq_false_iff_not]; exact hi
  clear h hi
  go_enter Try.func36, Try.ntmps36
  go_wp2_with fail
  with_reducible refine Calls.mono SA.out ?_
  rintro e w1 ⟨rfl, rfl⟩
  clear SA
  go_wp2_with fail
  go_ret2
  exact ⟨rfl, rfl⟩
theorem find_high {w : World} {b most : Nat} {M : Int} {l : List Int} {v : Value} {wa : Nat} (h : WnV w b most M l v wa) {id : Int} (hi : ¬ id < M) : Calls Try.prog 36 #[.pointer (some ⟨b, 0, none⟩), .int .u64 id] w fun e w' => e = .returned (.tuple #[.int .i64 (place id l : Nat), .bool (has id l)]) ∧ Kept (fun _ => False) w w' :=
  (find_eq h hi).mono fun e w' ⟨h1, h2⟩ => ⟨h1, h2 ▸ Kept.refl _ w⟩
/-- What Done leaves. -/
def DoneP (w : World) (b most : Nat) (v : Value) (r M' : Int) (l' : List Int) (e : Ending) (w' : World) : Prop := e = .returned (.int .i64 r) ∧ ∃ v' wa', WnV w' b most M' l' v' wa' ∧ Nx b v w v' w'
set_option maxHeartbeats 4000000 in
set_option maxRecDepth 100000 in
theorem done_any {w : World} {b most : Nat} {M : Int} {l : List Int} {v : Value} {wa : Nat} (h : WnV w b most M l v wa) (id : Int) : Calls Try.prog 12 #[.pointer (some ⟨b, 0, none⟩), .int .u64 id] w (DoneP w b most v (done most M l id).1 (done most M l id).2.1 (done most M l id).2.2) := by
  have hW := h.win.done id
  have H := Lib.hid h
  have MD := Lib.hid (made_yes h)
  by_cases h0 : id < 1 ∨ top < id
  · have e : done most M l id = (1, M, l) := by unfold done; rw [if_pos h0]
    rw [e]
    unfold DoneP
    have hc : (id < 1) ∨ (decide (id < 1) = false ∧ 1152921504606846976 < id) := by
      have : (top : Int) = 1152921504606846976 := rfl
      rw [decide_eq_false_iff_not]; omega
    clear h e hW
    rcases hc with h1 | ⟨h1, h2⟩
    all_goals
      go_enter Try.func12, Try.ntmps12
      go_wp2_with fail
      go_ret
      exact ⟨rfl, _, _, H.out, Nx.same (Kept.refl _ w)⟩
  · have g1 : decide (id < 1) = false := by rw [decide_eq_false_iff_not]; omega
    have g2 : decide ((1152921504606846976 : Int) < id) = false := by
      have : (top : Int) = 1152921504606846976 := rfl
      rw [decide_eq_false_iff_not]; omega
    by_cases h1 : id < M ∨ id ∈ l
    · have e : done most M l id = (0, M, l) := by unfold done; rw [if_neg h0, if_pos h1]
      rw [e]
      unfold DoneP
      by_cases h2 : id < M
      · have FD := Lib.hid (find_low h h2)
        clear h e h0 h1 hW
        go_enter Try.func12, Try.ntmps12
        go_wp2_with fail
        with_reducible refine Calls.mono MD.out ?_
        rintro e w1 ⟨rfl, rfl⟩
        go_wp2_with fail
        with_reducible refine Calls.mono FD.out ?_
        rintro e w1 ⟨rfl, rfl⟩
        go_wp2_with fail
        go_ret
        exact ⟨rfl, _, _, H.out, Nx.same (Kept.refl _ w)⟩
      · have FD := find_high h h2
        rw [(has_iff h.win.asc).2 (h1.resolve_left h2)] at FD
        have FD := Lib.hid FD
        clear h e h0 h1 hW
        go_enter Try.func12, Try.ntmps12
        go_wp2_with fail
        with_reducible refine Calls.mono MD.out ?_
        rintro e w1 ⟨rfl, rfl⟩
        go_wp2_with fail
        with_reducible refine Calls.mono FD.out ?_
        rintro e w1 ⟨rfl, k1⟩
        have HK := Lib.hid k1
        clear k1
        go_wp2_with fail
        go_ret
        exact ⟨rfl, _, _, H.out.old HK.out, Nx.same HK.out⟩
    · have hnl : id ∉ l := fun e => h1 (Or.inr e)
      have h2 : ¬ id < M := fun e => h1 (Or.inl e)
      have FD := find_high h h2
      rw [(has_not h.win.asc).2 hnl] at FD
      have FD := Lib.hid FD
      by_cases h3 : id = M
      · have e : done most M l id = (0, (goes (M + 1) l).2) := by unfold done; rw [if_neg h0, if_neg h1, if_pos h3]
        rw [e] at hW ⊢
        unfold DoneP
        subst h3
        have GO := Lib.hid fun w' (k : Kept (fun _ => False) w w') => goOn_any (H.out.old k).blk (H.out.old k).row H.out.ne H.out.few H.out.was H.out.win.asc (fun x hx => (H.out.win.over x hx).2) (id + 1) (by omega) (by have := h.win.hi; omega)
        have hwr : IntKind.u64.wrap (id + 1) = id + 1 := by
          have : (top : Int) = 1152921504606846976 := rfl
          rw [IntKind.wrap_u64]; omega
        have HW := Lib.hid hW
        clear h e h0 h1 hW hnl h2
        go_enter Try.func12, Try.ntmps12
        go_wp2_with fail
        with_reducible refine Calls.mono MD.out ?_
        rintro e w1 ⟨rfl, rfl⟩
        go_wp2_with fail
        with_reducible refine Calls.mono FD.out ?_
        rintro e w1 ⟨rfl, k1⟩
        have HK := Lib.hid k1
        have c1 := (H.out.old k1).blk.cell (o := 1) rfl
        clear k1
        go_wp2_with fail
        clear c1
        with_reducible refine Calls.mono (GO.out _ HK.out) ?_
        rintro e w2 ⟨rfl, v', wa', d1, d2, d3, d4, d5⟩
        have HD : Hid (∃ v' wa', WnV w2 b most (goes (id + 1) l).2.1 (goes (id + 1) l).2.2 v' wa' ∧ Nx b v w v' w2) := Lib.hid (by
          have hs := HK.out.size
          refine ⟨v', wa', ⟨d1, d2, HW.out, H.out.lo, H.out.hi, d3, fun hh => ?_⟩, (HK.out.mono (fun _ _ f => f.elim)).trans (d4.mono (fun _ _ f => Or.inl f)), fun g hg => (d5 g hg).imp (fun h => h) (fun h => ⟨by omega, h.2⟩)⟩
          rcases d5 b hh with h | h
          · exact H.out.ne h
          · have := H.out.blk.lt; omega)
        clear d1 d2 d3 d4 d5
        go_wp2_with fail
        go_ret
        exact ⟨rfl, HD.out⟩
      · have h3' : (id == M) = false := by simpa using h3
        by_cases h4 : most ≤ l.length
        · have e : done most M l id = (4, M, l) := by unfold done; rw [if_neg h0, if_neg h1, if_neg h3, if_pos h4]
          rw [e]
          unfold DoneP
          have h4' : (most : Int) ≤ (l.length : Int) := by omega
          clear h e h0 h1 hW hnl h2
          go_enter Try.func12, Try.ntmps12
          go_wp2_with fail
          with_reducible refine Calls.mono MD.out ?_
          rintro e w1 ⟨rfl, rfl⟩
          go_wp2_with fail
          with_reducible refine Calls.mono FD.out ?_
          rintro e w1 ⟨rfl, k1⟩
          have H1 := H.out.old k1
          obtain ⟨a, c, rfl, hlc, hcm⟩ := H1.row.slice
          have c0 := H1.blk.cell (o := 0) rfl
          have c1 := H1.blk.cell (o := 1) rfl
          have c2 := H1.blk.cell (o := 2) rfl
          have HK := Lib.hid k1
          clear k1 H1
          go_wp2_with fail
          go_quiet (fail)
          go_wp2_with fail
          go_ret
          exact ⟨rfl, _, _, (H.out.old HK.out).old ((Kept.refl _ _).drewN _), Nx.same (HK.out.drewN _)⟩
        · have e : done most M l id = (0, M, ins id l) := by unfold done; rw [if_neg h0, if_neg h1, if_neg h3, if_neg h4]
          rw [e] at hW ⊢
          unfold DoneP
          have h4' : decide ((most : Int) ≤ (l.length : Int)) = false := by rw [decide_eq_false_iff_not]; omega
          have HW := Lib.hid hW
          have hfew := h.few
          clear h e h0 h1 hW hnl h2
          go_enter Try.func12, Try.ntmps12
          go_wp2_with fail
          with_reducible refine Calls.mono MD.out ?_
          rintro e w1 ⟨rfl, rfl⟩
          go_wp2_with fail
          with_reducible refine Calls.mono FD.out ?_
          rintro e w1 ⟨rfl, k1⟩
          have H1 := H.out.old k1
          obtain ⟨a, c, rfl, hlc, hcm⟩ := H1.row.slice
          have c0 := H1.blk.cell (o := 0) rfl
          have c1 := H1.blk.cell (o := 1) rfl
          have c2 := H1.blk.cell (o := 2) rfl
          have HK := Lib.hid k1
          clear k1 H1
          go_upto_region 11 with (fail)
          go_quiet (fail)
          have HK2 := Lib.hid (HK.out.drewN nq)
          clear c0 c1 c2 HK
          generalize w1.drewN nq = w2 at *
          have H2 := H.out.old HK2.out
          have c2 := H2.blk.cell (o := 2) rfl
          have hk3 := (Kept.refl (fun _ => False) w2).alloc (.cells [.int .u64 id].toArray 30)
          have hB3 := Blk.new w2 [.int .u64 id] 30
          have H3 := H2.old hk3
          have IA := ins_any (i := place id l) H3.row (place_le id l) hB3 (fun e => by have := H2.row.lt _ e; omega) (by omega)
          have hbl := H3.blk.lt
          have c3 := H3.blk.cell (o := 2) rfl
          have HH3 := Lib.hid H3
          have HIA := Lib.hid IA
          have HK3 := Lib.hid hk3
          have hbw := H2.blk.lt
          clear H2 hk3 hB3 H3 IA
          go_wp2_with fail
          with_reducible refine Calls.mono HIA.out ?_
          rintro e w4 ⟨v', rfl, hA⟩
          change Apd uT _ _ (ins id l) _ _ at hA
          obtain ⟨a2, k2, rfl, hk2, hk2'⟩ := hA.row.slice
          have hB4 := hA.kept.blk HH3.out.blk (fun e => HH3.out.ne e)
          have q2 := hB4.cell (o := 2) rfl
          have g4 := hB4.frozen 2
          have hb4 := hB4.lt
          have HA := Lib.hid hA
          have HB4 := Lib.hid hB4
          clear hA hB4 c3 c2 HIA
          go_wp2_with fail
          go_ret
          have hks : Kept (fun k => k = b) w4 (w4.setCell ⟨b, 2, none⟩ (.slice a2 (ins id l).length k2)) := (Kept.refl (fun k => k = b) w4).set (fun _ => rfl) 2 _
          have hne : ∀ g, (Value.slice a2 (ins id l).length k2).ownBlock = some g → g ≠ b := fun g hg e => by
            subst e
            rcases HA.out.lies _ hg with h | h
            · exact HH3.out.ne h
            · have := HH3.out.blk.lt; omega
          have s1 := HK2.out.size
          have s2 := HK3.out.size
          refine ⟨rfl, _, wa, ⟨HB4.out.set 2 _, HA.out.row.kept hks (fun g hg e => hne g hg e), HW.out, H.out.lo, H.out.hi, H.out.was, fun e => hne b e rfl⟩, ?_, fun g hg => ?_⟩
          · exact ((((HK2.out.trans HK3.out).mono (fun _ _ f => f.elim)).trans (HA.out.kept.mono (fun k _ e => Or.inr e))).trans (hks.mono (fun _ _ e => Or.inl e)))
          · rcases HA.out.lies g hg with h | h
            · exact Or.inl h
            · refine Or.inr ⟨by omega, ?_⟩
              have := HA.out.row.lt g hg
              simpa using this
/-- Whether a number has ended. -/
theorem is_eq {w : World} {b most : Nat} {M : Int} {l : List Int} {v : Value} {wa : Nat} (h : WnV w b most M l v wa) (id : Int) : Calls Try.prog 16 #[.pointer (some ⟨b, 0, none⟩), .int .u64 id] w fun e w' => e = .returned (.bool (isE M l id)) ∧ w = w' := by
  obtain ⟨r, hr⟩ : ∃ r, isE M l id = r := ⟨_, rfl⟩
  have MD := Lib.hid (made_yes h)
  rw [hr]
  by_cases h0 : id < 1
  · have hrf : r = false := by rw [← hr]; unfold isE; rw [decide_eq_false_iff_not]; omega
    subst hrf
    clear h hr
    go_enter Try.func16, Try.ntmps16
    go_wp2_with fail
    with_reducible refine Calls.mono MD.out ?_
    rintro e w1 ⟨rfl, rfl⟩
    go_wp2_with fail
    go_ret
    exact ⟨rfl, rfl⟩
  · have g1 : decide (id < 1) = false := by rw [decide_eq_false_iff_not]; exact h0
    by_cases h2 : id < M
    · have hrf : r = true := by rw [← hr]; unfold isE; rw [decide_eq_true_eq]; exact ⟨by omega, Or.inl h2⟩
      subst hrf
      have FD := Lib.hid (find_low h h2)
      clear h hr h0 h2
      go_enter Try.func16, Try.ntmps16
      go_wp2_with fail
      with_reducible refine Calls.mono MD.out ?_
      rintro e w1 ⟨rfl, rfl⟩
      go_wp2_with fail
      with_reducible refine Calls.mono FD.out ?_
      rintro e w1 ⟨rfl, rfl⟩
      go_wp2_with fail
      go_ret
      exact ⟨rfl, rfl⟩
    · have hrf : has id l = r := by
        rw [← hr, Bool.eq_iff_iff, has_iff h.win.asc]
        unfold isE
        rw [decide_eq_true_eq]
        exact ⟨fun hm => ⟨by omega, Or.inr hm⟩, fun hm => hm.2.resolve_left h2⟩
      have FD := find_eq h h2
      rw [hrf] at FD
      have FD := Lib.hid FD
      clear h hr h0 h2 hrf
      go_enter Try.func16, Try.ntmps16
      go_wp2_with fail
      with_reducible refine Calls.mono MD.out ?_
      rintro e w1 ⟨rfl, rfl⟩
      go_wp2_with fail
      with_reducible refine Calls.mono FD.out ?_
      rintro e w1 ⟨rfl, rfl⟩
      go_wp2_with fail
      go_ret
      exact ⟨rfl, rfl⟩
theorem is_any {w : World} {b most : Nat} {M : Int} {l : List Int} {v : Value} {wa : Nat} (h : WnV w b most M l v wa) (id : Int) : Calls Try.prog 16 #[.pointer (some ⟨b, 0, none⟩), .int .u64 id] w fun e w' => e = .returned (.bool (isE M l id)) ∧ Kept (fun _ => False) w w' :=
  (is_eq h id).mono fun e w' ⟨h1, h2⟩ => ⟨h1, h2 ▸ Kept.refl _ w⟩
theorem mark_any {w : World} {b most : Nat} {M : Int} {l : List Int} {v : Value} {wa : Nat} (h : WnV w b most M l v wa) : Calls Try.prog 18 #[.pointer (some ⟨b, 0, none⟩)] w fun e w' => e = .returned (.int .u64 M) ∧ w = w' := by
  have MD := Lib.hid (made_yes h)
  have c1 := h.blk.cell (o := 1) rfl
  clear h
  go_enter Try.func18, Try.ntmps18
  go_wp2_with fail
  with_reducible refine Calls.mono MD.out ?_
  rintro e w1 ⟨rfl, rfl⟩
  go_wp2_with fail
  go_ret
  exact ⟨rfl, rfl⟩
theorem len_any {w : World} {b most : Nat} {M : Int} {l : List Int} {v : Value} {wa : Nat} (h : WnV w b most M l v wa) : Calls Try.prog 19 #[.pointer (some ⟨b, 0, none⟩)] w fun e w' => e = .returned (.int .i64 (l.length : Nat)) ∧ w = w' := by
  have MD := Lib.hid (made_yes h)
  obtain ⟨a, c, rfl, _, _⟩ := h.row.slice
  have c2 := h.blk.cell (o := 2) rfl
  clear h
  go_enter Try.func19, Try.ntmps19
  go_wp2_with fail
  with_reducible refine Calls.mono MD.out ?_
  rintro e w1 ⟨rfl, rfl⟩
  go_wp2_with fail
  go_ret
  exact ⟨rfl, rfl⟩
/-- What Retire leaves. -/
def RetP (w : World) (b most : Nat) (v : Value) (r : Nat) (M' : Int) (l' : List Int) (e : Ending) (w' : World) : Prop := e = .returned (.int .i64 (r : Nat)) ∧ ∃ v' wa', WnV w' b most M' l' v' wa' ∧ Nx b v w v' w'
set_option maxHeartbeats 4000000 in
theorem retire_any {w : World} {b most : Nat} {M : Int} {l : List Int} {v : Value} {wa : Nat} (h : WnV w b most M l v wa) (below : Int) : Calls Try.prog 14 #[.pointer (some ⟨b, 0, none⟩), .int .u64 below] w (RetP w b most v (retire M l below).1 (retire M l below).2.1 (retire M l below).2.2) := by
  have hW := h.win.retire below
  have H := Lib.hid h
  have MD := Lib.hid (made_yes h)
  have c1 := h.blk.cell (o := 1) rfl
  obtain ⟨t, ht⟩ : ∃ t, min below (top + 1) = t := ⟨_, rfl⟩
  have hmin : (if (1152921504606846977 : Int) < below then (1152921504606846977 : Int) else below) = t := by
    have : (top : Int) = 1152921504606846976 := rfl
    rw [← ht]; split <;> omega
  by_cases h1 : t ≤ M
  · have e : retire M l below = (0, M, l) := by unfold retire; rw [ht, if_pos h1]
    rw [e]
    unfold RetP
    clear h e hW ht
    go_enter Try.func14, Try.ntmps14
    go_wp2_with fail
    with_reducible refine Calls.mono MD.out ?_
    rintro e w1 ⟨rfl, rfl⟩
    go_wp2_with fail
    go_ret
    exact ⟨rfl, _, _, H.out, Nx.same (Kept.refl _ w)⟩
  · have e : retire M l below = goes t l := by unfold retire; rw [ht, if_neg h1]
    rw [e] at hW ⊢
    unfold RetP
    have GO := Lib.hid (goOn_any h.blk h.row h.ne h.few h.was h.win.asc (fun x hx => (h.win.over x hx).2) t (by have := h.win.lo; omega) (by omega))
    have HW := Lib.hid hW
    have h1' : decide (t ≤ M) = false := by rw [decide_eq_false_iff_not]; exact h1
    clear h e hW ht
    go_enter Try.func14, Try.ntmps14
    go_wp2_with fail
    with_reducible refine Calls.mono MD.out ?_
    rintro e w1 ⟨rfl, rfl⟩
    go_wp2_with fail
    with_reducible refine Calls.mono GO.out ?_
    rintro e w2 ⟨rfl, v', wa', d1, d2, d3, d4, d5⟩
    have HD : Hid (∃ v' wa', WnV w2 b most (goes t l).2.1 (goes t l).2.2 v' wa' ∧ Nx b v w v' w2) := Lib.hid (by
      refine ⟨v', wa', ⟨d1, d2, HW.out, H.out.lo, H.out.hi, d3, fun hh => ?_⟩, d4.mono (fun _ _ f => Or.inl f), d5⟩
      rcases d5 b hh with h | h
      · exact H.out.ne h
      · have := H.out.blk.lt; omega)
    clear d1 d2 d3 d4 d5
    go_wp2_with fail
    go_ret
    exact ⟨rfl, HD.out⟩
end Go.Proofs.Ytaihjnonlnbhhaa.Idw
