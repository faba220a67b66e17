/- slices.Replace of some ranges by one. Conditions: each theorem's own. -/
import Derived.Test.YtfkcplapmkpkbaaIvIns
import Derived.BigQuiet
import Derived.Deep.QuietTactic
set_option linter.unusedVariables false
namespace Go.Proofs.Ytfkcplapmkpkbaa.IvR
open Go.RowKit Hp IvM
attribute [local go_sem ↓] Go.wp_at_zero Go.wp_at_succ
theorem put_len (l : List Rg) (p : Rg) {i j : Nat} (hij : i ≤ j) (hj : j ≤ l.length) : (l.take i ++ p :: l.drop j).length = i + 1 + (l.length - j) := by
  rw [List.length_append, List.length_cons, List.length_take, List.length_drop]; omega
/-- Behind the cells of a row nothing counts. -/
theorem Lies.cleared {w w' : World} {g cap : Nat} {cur zs : List Value} {L : List Rg} {o : Nat} (h : Lies w g cap cur L) (ho : o = L.length * 2) (hz : o + zs.length ≤ cur.length) (hB : Blk w' g (splice cur o zs) 59) : Lies w' g cap (splice cur o zs) L := by
  subst ho
  exact ⟨hB, h.le, h.most, by rw [length_splice _ _ _ hz, h.len], by rw [splice_take_le (by omega) (Nat.le_refl _), h.head]⟩
/-- The last ones replaced. -/
theorem end_lies {w w' : World} {g cap i : Nat} {cur : List Value} {l : List Rg} {p : Rg} (h : Lies w g cap cur l) (hi : i < l.length) (hB : Blk w' g (splice cur (i * 2) (rc p)) 59) : Lies w' g cap (splice cur (i * 2) (rc p)) (l.take i ++ [p]) := by
  have hl := h.len
  have hc := h.le
  have e : (l.take i ++ [p]).length = i + 1 := by rw [List.length_append, List.length_take]; simp; omega
  refine ⟨hB, by omega, h.most, by rw [length_splice _ _ _ (by show i * 2 + 2 ≤ _; omega), hl], ?_⟩
  rw [e, splice_take_end (by omega) _ (by show _ = i * 2 + 2; omega)]
  have e1 : cur.take (i * 2) = flat (l.take i) := by
    rw [← flat_take, ← h.head, List.take_take]
    congr 1; omega
  rw [e1, flat_append]
  simp [flat]
theorem mid_lies {w w' : World} {g cap i j : Nat} {cur : List Value} {l : List Rg} {p : Rg} (h : Lies w g cap cur l) (hij : i < j) (hj : j ≤ l.length) (hB : Blk w' g (splice (splice cur (i * 2) (rc p)) ((i + 1) * 2) (flat (l.drop j))) 59) :
    Lies w' g cap (splice (splice cur (i * 2) (rc p)) ((i + 1) * 2) (flat (l.drop j))) (l.take i ++ p :: l.drop j) := by
  have hl := h.len
  have hc := h.le
  have e := put_len l p (Nat.le_of_lt hij) hj
  have hrc : (rc p).length = 2 := rfl
  have hfl := flat_len (l.drop j)
  rw [List.length_drop] at hfl
  have l1 : (splice cur (i * 2) (rc p)).length = cap * 2 := by rw [length_splice _ _ _ (by omega), hl]
  refine ⟨hB, by omega, h.most, by rw [length_splice _ _ _ (by omega), l1], ?_⟩
  have e1 : cur.take (i * 2) = flat (l.take i) := by
    rw [← flat_take, ← h.head, List.take_take]
    congr 1; omega
  rw [e, splice_take_end (by omega) _ (by omega), splice_take_end (by omega) _ (by omega), e1]
  unfold flat
  rw [List.flatMap_append, List.flatMap_cons, List.append_assoc]
theorem Lies.apd {w w' : World} {base g cap n m : Nat} {cur : List Value} {L : List Rg} (h : Lies w' g cap cur L) (hb : base ≤ g) (hm : L.length = m) (hk : Kept (fun k => k = g) w w') : Apd w base (.slice (some ⟨g, 0, none⟩) n cap) L (.slice (some ⟨g, 0, none⟩) m cap) w' := by
  subst hm
  exact ⟨h.row hb, hk.mono (fun k _ e => by rw [e]; rfl), fun q hq => by cases hq; left; rfl⟩
set_option maxHeartbeats 8000000 in
set_option maxRecDepth 100000 in
theorem rep_ins {w : World} {base : Nat} {v : Value} {l : List Rg} {vb i : Nat} {p : Rg} (h : Row w base v l) (hi : i ≤ l.length) (hv : Blk w vb (rc p) 59) (hne : v.ownBlock ≠ some vb) (hsm : l.length ≤ 900000) (hbase : base ≤ w.heap.size) :
    Calls Try.prog 31 #[v, .int .i64 (i : Int), .int .i64 (i : Int), .slice (some ⟨vb, 0, none⟩) 1 1] w (PutP w base v (l.take i ++ p :: l.drop i)) := by
  have I := Lib.hid (ins_any h hi hv hne hsm hbase)
  rcases h.form with ⟨rfl, rfl⟩ | ⟨g, cap, cur, rfl, h1, h2⟩
  · obtain rfl : i = 0 := by simpa using hi
    clear h hv hne hbase
    go_enter Try.func31, Try.ntmps31
    go_wp2_with (go_at_call 38; refine I.out.mono ?_; rintro e w' ⟨v', rfl, hA⟩)
    go_ret
    exact ⟨_, rfl, hA⟩
  · have hc := h2.le
    have hm := h2.most
    unfold maxLen at hm
    clear h hv hne hbase h2
    generalize l.take i ++ p :: l.drop i = L at *
    generalize l.length = n at *
    rcases Nat.lt_or_ge i cap with hlt | hge
    · have hne : ¬ (cap = i) := by omega
      have hi' : (i : Int) ≤ (cap : Int) := by omega
      go_enter Try.func31, Try.ntmps31
      go_wp2_with (go_at_call 38; refine I.out.mono ?_; rintro e w' ⟨v', rfl, hA⟩)
      go_ret
      exact ⟨_, rfl, hA⟩
    · obtain rfl : cap = i := by omega
      go_enter Try.func31, Try.ntmps31
      go_wp2_with (go_at_call 38; refine I.out.mono ?_; rintro e w' ⟨v', rfl, hA⟩)
      go_ret
      exact ⟨_, rfl, hA⟩
set_option maxHeartbeats 8000000 in
set_option maxRecDepth 100000 in
theorem rep_end {w : World} {base g cap i : Nat} {cur : List Value} {l : List Rg} {vb : Nat} {p : Rg} (h : Lies w g cap cur l) (hbg : base ≤ g) (hi : i < l.length) (hv : Blk w vb (rc p) 59) :
    Calls Try.prog 31 #[.slice (some ⟨g, 0, none⟩) l.length cap, .int .i64 (i : Int), .int .i64 (l.length : Int), .slice (some ⟨vb, 0, none⟩) 1 1] w (PutP w base (.slice (some ⟨g, 0, none⟩) l.length cap) (l.take i ++ [p])) := by
  unfold PutP
  have hmost := h.most
  unfold maxLen at hmost
  have hc := h.le
  have hl := h.len
  obtain ⟨w1, hr1, hB1, hk1⟩ := run_room h 38 i (by omega) (by omega) ⟨vb, 0, none⟩ 1 p (fun j u hj => by rw [Go.WideShapes.add_plain, Nat.zero_add]; exact hv.cell hj)
  have hL := end_lies h hi hB1
  have hlen : (l.take i ++ [p]).length = i + 1 := by rw [List.length_append, List.length_take]; simp; omega
  have l1 : (splice cur (i * 2) (rc p)).length = cap * 2 := hL.len
  have n1 : ¬ (cap = i) := by omega
  have n2 : ¬ ((i : Int) = (l.length : Int)) := by omega
  have n3 : ¬ (i = l.length) := by omega
  rcases Nat.lt_or_ge (i + 1) l.length with hlt | hge
  · obtain ⟨w2, hr2, hB2, hk2⟩ := run_clr hB1 0 ((i + 1) * 2) (l.length - (i + 1)) (cap - (i + 1)) (by omega) (by rw [l1]; omega)
    have hL2 := hL.cleared (by rw [hlen]) (by rw [zeros_len, l1]; omega) hB2
    have HA := Lib.hid (hL2.apd (n := l.length) hbg hlen (hk1.trans hk2))
    have n4 : ¬ (cap = i + 1) := by omega
    have m1 : IntKind.i64.wrap ((i : Int) + 1) = (i : Int) + 1 := by rw [IntKind.wrap_i64]; omega
    have m2 : (0 : Int) ≤ (i : Int) + 1 := by omega
    have m3 : ((i : Int) + 1).toNat = i + 1 := by omega
    have m4 : (i : Int) + 1 < (l.length : Int) := by omega
    clear hL2 hB2 hk2 hL hB1 hk1 h hv hlen l1 hl
    generalize l.take i ++ [p] = L at *
    generalize l.length = n at *
    go_enter Try.func31, Try.ntmps31
    go_wp2_with (first | (at_builtin; refine Lib.wpList_append_run _ rfl _ _ _ _ rfl _ _ rfl rfl _ _ hr1 ?_) | (with_reducible refine wpList_clear_run rfl _ _ rfl rfl hr2 ?_))
    go_ret
    exact ⟨_, rfl, HA.out⟩
  · have HA := Lib.hid (hL.apd (n := l.length) hbg hlen hk1)
    obtain ⟨n, hn⟩ : ∃ n, l.length = n := ⟨_, rfl⟩
    obtain rfl : n = i + 1 := by omega
    clear hL hB1 hk1 h hv hlen l1 hl
    generalize l.take i ++ [p] = L at *
    rw [hn] at *
    clear hn
    go_enter Try.func31, Try.ntmps31
    go_wp2_with (first | (at_builtin; refine Lib.wpList_append_run _ rfl _ _ _ _ rfl _ _ rfl rfl _ _ hr1 ?_))
    go_ret
    exact ⟨_, rfl, HA.out⟩
/-- What the copies of a Replace in the midst do. -/
theorem mid_facts {w : World} {g cap i j n : Nat} {cur : List Value} {l : List Rg} {vb : Nat} {p : Rg} (h : Lies w g cap cur l) (hn : l.length = n) (hij : i < j) (hj : j < n) (hv : Blk w vb (rc p) 59) (hne : vb ≠ g) (T : Nat) (hT : T = i + 1 + (n - j)) :
    ∃ w1 w2, (Builtin.copy_ #[38, 38] 3 #[.slice (some ⟨g, i * 2, none⟩) (T - i) (cap - i), .slice (some ⟨vb, 0, none⟩) 1 1]).run Try.prog w = .ok (goInt 1) w1 ∧
      (Builtin.copy_ #[38, 38] 3 #[.slice (some ⟨g, (i + 1) * 2, none⟩) (T - (i + 1)) (cap - (i + 1)), .slice (some ⟨g, j * 2, none⟩) (n - j) (cap - j)]).run Try.prog w1.drew = .ok (goInt (n - j : Nat)) w2 ∧
      Lies w2 g cap (splice (splice cur (i * 2) (rc p)) ((i + 1) * 2) (flat (l.drop j))) (l.take i ++ p :: l.drop j) ∧ Kept (fun k => k = g) w w2 := by
  have hl := h.len
  have hc := h.le
  have hrc : (rc p).length = 2 := rfl
  obtain ⟨w1, hr1, hB1, hk1⟩ := run_cp h.blk 3 (i * 2) (T - i) (cap - i) ⟨vb, 0, none⟩ 1 1 1 (rc p) (Nat.min_eq_left (show 1 ≤ T - i by omega)).symm rfl
    (fun j u hj => by rw [Go.WideShapes.add_plain, Nat.zero_add]; exact hv.cell hj) (by omega) (by intro u hu; simp [rc] at hu; rcases hu with rfl | rfl <;> rfl)
  have l1 : (splice cur (i * 2) (rc p)).length = cap * 2 := by rw [length_splice _ _ _ (by omega), hl]
  have hdl : (flat (l.drop j)).length = (n - j) * 2 := by rw [flat_len, List.length_drop, hn]
  obtain ⟨w2, hr2, hB2, hk2⟩ := run_cp hB1.drew 3 ((i + 1) * 2) (T - (i + 1)) (cap - (i + 1)) ⟨g, j * 2, none⟩ (n - j) (cap - j) (n - j) (flat (l.drop j)) (Nat.min_eq_left (show n - j ≤ T - (i + 1) by omega)).symm hdl
    (fun k u hk => by
      have hk' := (List.getElem?_eq_some_iff.1 hk).1
      rw [Go.WideShapes.add_plain]
      refine hB1.drew.cell ?_
      rw [splice_get (by omega) (by omega), h.cur_at (by omega), ← hk, ← flat_drop, List.getElem?_drop]) (by omega) flat_one
  exact ⟨w1, w2, hr1, hr2, mid_lies h hij (by omega) hB2, hk1.drew.trans hk2⟩
set_option maxHeartbeats 8000000 in
set_option maxRecDepth 100000 in
theorem rep_mid {w : World} {base g cap i j : Nat} {cur : List Value} {l : List Rg} {vb : Nat} {p : Rg} (h : Lies w g cap cur l) (hbg : base ≤ g) (hij : i < j) (hj : j < l.length) (hv : Blk w vb (rc p) 59) (hne : vb ≠ g) (hsm : l.length ≤ 900000) :
    Calls Try.prog 31 #[.slice (some ⟨g, 0, none⟩) l.length cap, .int .i64 (i : Int), .int .i64 (j : Int), .slice (some ⟨vb, 0, none⟩) 1 1] w (PutP w base (.slice (some ⟨g, 0, none⟩) l.length cap) (l.take i ++ p :: l.drop j)) := by
  unfold PutP
  have hmost := h.most
  unfold maxLen at hmost
  have hc := h.le
  have hl := h.len
  have H := Lib.hid h
  have HV := Lib.hid hv
  have hput := put_len l p (Nat.le_of_lt hij) (Nat.le_of_lt hj)
  obtain ⟨n, hn⟩ : ∃ n, l.length = n := ⟨_, rfl⟩
  have HN := Lib.hid hn
  rw [hn] at hput hj hsm hc ⊢
  clear h hv hn
  have a1 : ¬ (cap = i) := by omega
  have a2 : ¬ (cap = j) := by omega
  have a3 : ¬ (cap = i + 1) := by omega
  have a4 : ¬ (i = j) := by omega
  have a5 : ¬ (j = n) := by omega
  have a6 : i ≤ j := by omega
  have a7 : i ≤ n := by omega
  have a8 : j ≤ n := by omega
  have HP := Lib.hid hput
  clear hput
  go_enter Try.func31, Try.ntmps31
  go_upto_region 9 with fail
  go_quiet (fail)
  go_upto_region 10 with fail
  have Hq : Lies (w.drewN nq) g cap cur l := ⟨H.out.blk.drewN nq, H.out.le, H.out.most, H.out.len, H.out.head⟩
  have HVq := HV.out.drewN nq
  have hkq : Kept (fun k => k = g) w (w.drewN nq) := (Kept.refl _ w).drewN nq
  generalize w.drewN nq = w0 at *
  clear H HV
  obtain ⟨T, hT⟩ : ∃ T, T = i + 1 + (n - j) := ⟨_, rfl⟩
  rw [show (i : Int) + 1 + ((n - j : Nat) : Int) = ((T : Nat) : Int) by omega]
  obtain ⟨w1, w2, hr1, hr2, hL, hk⟩ := mid_facts Hq HN.out hij hj HVq hne T hT
  have hk2 := hkq.trans hk
  have hlen := HP.out
  rw [← hT] at hlen
  have b1 : T ≤ n := by omega
  have b2 : ¬ (cap < T) := by omega
  have b3 : i + 1 ≤ j := by omega
  have b4 : i ≤ T := by omega
  have b5 : i + 1 ≤ T := by omega
  have m1 : IntKind.i64.wrap ((i : Int) + 1) = (i : Int) + 1 := by rw [IntKind.wrap_i64]; omega
  have m2 : (0 : Int) ≤ (i : Int) + 1 := by omega
  have m3 : ((i : Int) + 1).toNat = i + 1 := by omega
  have m4 : (i : Int) + 1 ≤ (T : Int) := by omega
  have m5 : (i : Int) + 1 ≤ (j : Int) := by omega
  have ll := hL.len
  rcases Nat.lt_or_ge T n with hlt | hge
  · obtain ⟨w3, hr3, hB3, hk3⟩ := run_clr hL.blk 0 (T * 2) (n - T) (cap - T) (by omega) (by rw [ll]; omega)
    have hL2 := hL.cleared (by rw [hlen]) (by rw [zeros_len, ll]; omega) hB3
    have HA := Lib.hid (hL2.apd (n := n) hbg hlen (hk2.trans hk3))
    have c1 : ¬ (cap = T) := by omega
    clear hL2 hL hB3 hk3 hk2 hk hlen HP HN Hq HVq hkq hT ll
    go_wp2_with (with_reducible refine wpList_copy_run rfl _ _ _ _ rfl rfl rfl hr1 ?_)
    go_region_law (refine step_copy_run rfl _ _ 38 38 rfl (by simp [Act.eval, Act.put]) (by simp [Act.eval, Act.put]) hr2 ?_)
    all_goals
      go_wp2_with (with_reducible refine wpList_clear_run rfl _ _ rfl rfl hr3 ?_)
      go_ret
      exact ⟨_, rfl, HA.out⟩
  · obtain rfl : T = n := by omega
    have HA := Lib.hid (hL.apd (n := T) hbg hlen hk2)
    clear hL hk2 hk hlen HP HN Hq HVq hkq hT ll
    rcases Nat.lt_or_ge T cap with hc1 | hc1
    · have c1 : ¬ (cap = T) := by omega
      go_wp2_with (with_reducible refine wpList_copy_run rfl _ _ _ _ rfl rfl rfl hr1 ?_)
      go_region_law (refine step_copy_run rfl _ _ 38 38 rfl (by simp [Act.eval, Act.put]) (by simp [Act.eval, Act.put]) hr2 ?_)
      all_goals
        go_wp2_with (with_reducible refine wpList_clear_run rfl _ _ rfl rfl (run_clr0 _ _ _ _) ?_)
        go_ret
        exact ⟨_, rfl, HA.out⟩
    · obtain rfl : cap = T := by omega
      go_wp2_with (with_reducible refine wpList_copy_run rfl _ _ _ _ rfl rfl rfl hr1 ?_)
      go_region_law (refine step_copy_run rfl _ _ 38 38 rfl (by simp [Act.eval, Act.put]) (by simp [Act.eval, Act.put]) hr2 ?_)
      all_goals
        go_wp2_with (with_reducible refine wpList_clear_run rfl _ _ rfl rfl (run_clr0 _ _ _ _) ?_)
        go_ret
        exact ⟨_, rfl, HA.out⟩
theorem rep_any {w : World} {base : Nat} {v : Value} {l : List Rg} {vb i j : Nat} {p : Rg} (h : Row w base v l) (hij : i ≤ j) (hj : j ≤ l.length) (hv : Blk w vb (rc p) 59) (hne : v.ownBlock ≠ some vb) (hsm : l.length ≤ 900000) (hbase : base ≤ w.heap.size) :
    Calls Try.prog 31 #[v, .int .i64 (i : Int), .int .i64 (j : Int), .slice (some ⟨vb, 0, none⟩) 1 1] w (PutP w base v (l.take i ++ p :: l.drop j)) := by
  rcases Nat.lt_or_ge i j with h1 | h1
  · rcases h.form with ⟨rfl, rfl⟩ | ⟨g, cap, cur, rfl, h2, h3⟩
    · simp at hj; omega
    · rcases Nat.lt_or_ge j l.length with h4 | h4
      · exact rep_mid h3 h2 h1 h4 hv (fun e => hne (by rw [e]; rfl)) hsm
      · obtain rfl : j = l.length := by omega
        rw [List.drop_length]
        exact rep_end h3 h2 h1 hv
  · obtain rfl : i = j := by omega
    exact rep_ins h hj hv hne hsm hbase
end Go.Proofs.Ytfkcplapmkpkbaa.IvR
