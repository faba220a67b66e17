/- slices.Insert and slices.Replace of one range. Conditions: each theorem's own. -/
import Derived.Test.YtfkcplapmkpkbaaIvRow
import Derived.WalkKit
import Derived.Outline
import Derived.ProofKit
import Derived.Deep.RegionLaw
import Derived.Deep.CutBlock
import Derived.Deep.RegionWith
import Derived.Deep.DeepCutAuto
import Derived.Deep.DrawnRows
import Derived.WalkLawsBesides
set_option linter.unusedVariables false
namespace Go.Proofs.Ytfkcplapmkpkbaa.IvR
open Go.RowKit Hp IvM
attribute [local go_sem ↓] Go.wp_at_zero Go.wp_at_succ
/-- One range more, in the places of some. -/
def PutP (w : World) (base : Nat) (v : Value) (L : List Rg) (e : Ending) (w' : World) : Prop := ∃ v', e = .returned v' ∧ Apd w base v L v' w'
theorem src_one {w : World} {vb : Nat} {p : Rg} (h : Blk w vb (rc p) 59) : Src w (.slice (some ⟨vb, 0, none⟩) 1 1) [p] :=
  Or.inr ⟨⟨vb, 0, none⟩, 1, rfl, fun j u hj => by rw [Go.WideShapes.add_plain, Nat.zero_add]; exact h.cell (by simpa [flat] using hj)⟩
set_option maxHeartbeats 4000000 in
set_option maxRecDepth 100000 in
theorem ins_end {w : World} {base : Nat} {v : Value} {l : List Rg} {vb : Nat} {p : Rg} (h : Row w base v l) (hv : Blk w vb (rc p) 59) (hsm : l.length ≤ 900000) (hbase : base ≤ w.heap.size) :
    Calls Try.prog 38 #[v, .int .i64 (l.length : Int), .slice (some ⟨vb, 0, none⟩) 1 1] w (PutP w base v (l ++ [p])) := by
  unfold PutP
  have hS := src_one hv
  have HR := Lib.hid h
  clear hv
  rcases h.form with ⟨rfl, rfl⟩ | ⟨g, cap, cur, rfl, h1, h2⟩
  · go_enter Try.func38, Try.ntmps38
    go_wp2_with (at_builtin; refine wpList_app rfl _ _ rfl base (v := .slice none 0 0) rfl HR.out rfl hS (by simp) hbase ?_; intro v' w' hA)
    go_ret
    exact ⟨_, rfl, hA⟩
  · have hc := h2.le
    have hm := h2.most
    unfold maxLen at hm
    clear h h2
    rcases Nat.lt_or_ge l.length cap with hlt | hge
    · have hne : ¬ (cap = l.length) := by omega
      go_enter Try.func38, Try.ntmps38
      go_wp2_with (at_builtin; refine wpList_app rfl _ _ rfl base (v := .slice (some ⟨g, 0, none⟩) l.length cap) rfl HR.out rfl hS (by simp; omega) hbase ?_; intro v' w' hA)
      go_ret
      exact ⟨_, rfl, hA⟩
    · obtain rfl : cap = l.length := by omega
      go_enter Try.func38, Try.ntmps38
      go_wp2_with (at_builtin; refine wpList_app rfl _ _ rfl base (v := .slice (some ⟨g, 0, none⟩) l.length l.length) rfl HR.out rfl hS (by simp; omega) hbase ?_; intro v' w' hA)
      go_ret
      exact ⟨_, rfl, hA⟩
theorem cap_no {c k : Nat} (h : k < c) : ¬ (c = k) := by omega
/-- In the midst, where it must grow. -/
theorem mid_grow {cur0 cur1 cur2 : List Value} {l : List Rg} {i m r c' g : Nat} {p : Rg} {w : World} (hi : i < l.length) (hm : m = l.length + 1 - i) (h0 : cur0 = flat (l.take i) ++ (zeros m ++ zeros r)) (hc : i + m + r = c') (hM : c' ≤ maxLen)
    (h1 : cur1 = splice cur0 (i * 2) (rc p)) (h2 : cur2 = splice cur1 ((i + 1) * 2) (flat (l.drop i))) (hB : Blk w g cur2 59) : Lies w g c' cur2 (l.take i ++ p :: l.drop i) := by
  have hrc : (rc p).length = 2 := rfl
  have hfl := flat_len (l.drop i)
  have hft := flat_len (l.take i)
  rw [List.length_drop] at hfl
  rw [List.length_take] at hft
  have l0 : cur0.length = c' * 2 := by rw [h0, List.length_append, List.length_append, hft, zeros_len, zeros_len]; omega
  have l1 : cur1.length = c' * 2 := by rw [h1, length_splice _ _ _ (by omega), l0]
  have l2 : cur2.length = c' * 2 := by rw [h2, length_splice _ _ _ (by omega), l1]
  have hlen : (l.take i ++ p :: l.drop i).length = l.length + 1 := by rw [List.length_append, List.length_cons, List.length_take, List.length_drop]; omega
  refine ⟨hB, by omega, hM, l2, ?_⟩
  rw [hlen, h2, splice_take_end (by omega) _ (by omega), h1, splice_take_end (by omega) _ (by omega), h0]
  have : (flat (l.take i) ++ (zeros m ++ zeros r)).take (i * 2) = flat (l.take i) := by
    rw [List.take_append_of_le_length (by omega), List.take_of_length_le (by omega)]
  rw [this]
  unfold flat
  rw [List.flatMap_append, List.flatMap_cons, List.append_assoc]
/-- In the midst, where there is room. -/
theorem mid_room {cur cur1 cur2 : List Value} {l : List Rg} {i cap g : Nat} {p : Rg} {w w2 : World} (h : Lies w g cap cur l) (hi : i < l.length) (hr : l.length + 1 ≤ cap)
    (h1 : cur1 = splice cur ((i + 1) * 2) (flat (l.drop i))) (h2 : cur2 = splice cur1 (i * 2) (rc p)) (hB : Blk w2 g cur2 59) : Lies w2 g cap cur2 (l.take i ++ p :: l.drop i) := by
  have hrc : (rc p).length = 2 := rfl
  have hfl := flat_len (l.drop i)
  rw [List.length_drop] at hfl
  have l0 := h.len
  have l1 : cur1.length = cap * 2 := by rw [h1, length_splice _ _ _ (by omega), l0]
  have l2 : cur2.length = cap * 2 := by rw [h2, length_splice _ _ _ (by omega), l1]
  have hlen : (l.take i ++ p :: l.drop i).length = l.length + 1 := by rw [List.length_append, List.length_cons, List.length_take, List.length_drop]; omega
  refine ⟨hB, by omega, h.most, l2, ?_⟩
  have e1 : cur1.take (i * 2) = flat (l.take i) := by
    rw [h1, splice_take_le (by omega) (by omega), ← flat_take, ← h.head, List.take_take]
    congr 1; omega
  have e2 : (cur1.drop (i * 2 + 2)).take ((l.length - i) * 2) = flat (l.drop i) := by
    rw [h1, show i * 2 + 2 = (i + 1) * 2 by omega]
    exact splice_mid (by omega) _ (by omega)
  rw [hlen, h2, splice_take_more (by omega) _ ((l.length - i) * 2) (by omega), hrc, e1, e2]
  unfold flat
  rw [List.flatMap_append, List.flatMap_cons]
theorem run_over {w : World} {vb g : Nat} {V cur : List Value} (hv : Blk w vb V 59) (hg : Blk w g cur 59) (hne : vb ≠ g) (h0 : 0 < cur.length) (la ca lb cb o : Nat) :
    (callFunc 39 #[.slice (some ⟨vb, 0, none⟩) la ca, .slice (some ⟨g, o, none⟩) lb cb]).run Try.prog w = .ok (.value (.bool false)) w := by
  have hz : ∀ w, (Go.sizeOf 59).run Try.prog w = .ok 2 w := fun w => by kernel_rfl
  have s1 : w.shape? vb = some (59, V.length) := by unfold Blk at hv; simp [World.shape?, hv]
  have s2 : w.shape? g = some (59, cur.length) := by unfold Blk at hg; simp [World.shape?, hg]
  rw [run_callFunc_extern Try.func39 (by kernel_rfl) (by kernel_rfl) (by kernel_rfl) (e := Extern.SlicesOverlaps.overlaps #[38, 38] #[4]) (by kernel_rfl),
    Lib.run_overlaps_apart w 38 4 59 Try.underlying38 2 hz ⟨vb, 0, none⟩ ⟨g, o, none⟩ la ca lb cb hne _ _ _ _ s1 s2 (by omega) (hv.frozen 0) (hv.frozen _)]
  rfl
set_option maxHeartbeats 8000000 in
set_option maxRecDepth 100000 in
theorem ins_grow {w : World} {base g cap i : Nat} {cur : List Value} {l : List Rg} {vb : Nat} {p : Rg} (h : Lies w g cap cur l) (hi : i < l.length) (hg : cap < l.length + 1) (hv : Blk w vb (rc p) 59) (hsm : l.length ≤ 900000) (hbase : base ≤ w.heap.size) :
    Calls Try.prog 38 #[.slice (some ⟨g, 0, none⟩) l.length cap, .int .i64 (i : Int), .slice (some ⟨vb, 0, none⟩) 1 1] w (PutP w base (.slice (some ⟨g, 0, none⟩) l.length cap) (l.take i ++ p :: l.drop i)) := by
  unfold PutP
  have hc := h.le
  have H := Lib.hid h
  have HV := Lib.hid hv
  obtain ⟨n, hn⟩ : ∃ n, l.length = n := ⟨_, rfl⟩
  have HN := Lib.hid hn
  clear h hv
  rw [hn] at hi hg hsm hc ⊢
  obtain rfl : cap = n := by omega
  have hG : g ≠ w.heap.size := by have := H.out.blk.lt; omega
  have hVG : vb ≠ w.heap.size := by have := HV.out.lt; omega
  obtain ⟨c', r, hr1, hc', hM⟩ := run_zeros H.out 38 i (cap + 1 - i) (by omega) (by omega) (by omega)
  rw [show i + (cap + 1 - i) = cap + 1 by omega, show ((cap + 1 - i : Nat) : Int) = (cap : Int) + 1 - (i : Int) by omega] at hr1
  have hB1 : Blk (w.drew.alloc (.cells (flat (l.take i) ++ (zeros (cap + 1 - i) ++ zeros r)).toArray 59)) w.heap.size (flat (l.take i) ++ (zeros (cap + 1 - i) ++ zeros r)) 59 := Blk.new w.drew _ _
  have hk1 : Kept (fun _ => False) w (w.drew.alloc (.cells (flat (l.take i) ++ (zeros (cap + 1 - i) ++ zeros r)).toArray 59)) := (Kept.refl _ w).drew.alloc _
  have hwG : w.heap.size < (w.drew.alloc (.cells (flat (l.take i) ++ (zeros (cap + 1 - i) ++ zeros r)).toArray 59)).heap.size := by simp
  obtain ⟨cur0, hc0⟩ : ∃ c, c = flat (l.take i) ++ (zeros (cap + 1 - i) ++ zeros r) := ⟨_, rfl⟩
  have l0 : cur0.length = c' * 2 := by rw [hc0, List.length_append, List.length_append, flat_len, zeros_len, zeros_len, List.length_take]; omega
  rw [← hc0] at hr1 hB1 hk1 hwG
  generalize w.drew.alloc (.cells cur0.toArray 59) = w1 at *
  obtain ⟨G, eG⟩ : ∃ G, w.heap.size = G := ⟨_, rfl⟩
  rw [eG] at hr1 hB1 hwG hG hVG
  have hV1 := hk1.blk HV.out (fun h => h)
  have hS1 := H.out.kept hk1 (fun h => h)
  obtain ⟨w2, hr2, hB2, hk2⟩ := run_cp hB1 3 (i * 2) (cap + 1 - i) (c' - i) ⟨vb, 0, none⟩ 1 1 1 (rc p) (Nat.min_eq_left (show 1 ≤ cap + 1 - i by omega)).symm rfl
    (fun j u hj => by rw [Go.WideShapes.add_plain, Nat.zero_add]; exact hV1.cell hj) (by show i * 2 + 2 ≤ _; omega) (by intro u hu; simp [rc] at hu; rcases hu with rfl | rfl <;> rfl)
  have hS2 := hS1.kept hk2 (fun h => hG h)
  have hS2d : Lies w2.drew g cap cur l := ⟨hS2.blk.drew, hS2.le, hS2.most, hS2.len, hS2.head⟩
  have hdl : (flat (l.drop i)).length = (cap - i) * 2 := by rw [flat_len, List.length_drop, HN.out]
  have l1 : (splice cur0 (i * 2) (rc p)).length = c' * 2 := by rw [length_splice _ _ _ (by show i * 2 + 2 ≤ _; omega), l0]
  obtain ⟨w3, hr3, hB3, hk3⟩ := run_cp hB2.drew 3 ((i + 1) * 2) (cap + 1 - (i + 1)) (c' - (i + 1)) ⟨g, i * 2, none⟩ (cap - i) (cap - i) (cap - i) (flat (l.drop i)) (Nat.min_eq_left (show cap - i ≤ cap + 1 - (i + 1) by omega)).symm hdl
    (hS2d.part i) (by rw [l1, hdl]; omega) flat_one
  have hL := mid_grow (by omega) (by omega) hc0 (by omega) hM rfl rfl hB3
  have hkk : Kept (fun k => k = g ∨ k = G) w w3 := (((hk1.mono (fun _ _ f => f.elim)).trans (hk2.mono (fun k _ e => Or.inr e))).drew).trans (hk3.mono (fun k _ e => Or.inr e))
  have hkr : Kept (fun k => (Value.slice (some ⟨g, 0, none⟩) cap cap).ownBlock = some k) w w3 := by
    refine ⟨hkk.os, hkk.tape, hkk.output, hkk.size, fun k hk hn => hkk.block k hk ?_⟩
    rintro (e | e)
    · exact hn (by rw [e]; rfl)
    · omega
  have hlen : (l.take i ++ p :: l.drop i).length = cap + 1 := by rw [List.length_append, List.length_cons, List.length_take, List.length_drop, HN.out]; omega
  have hrow := hL.row (base := base) (by omega)
  rw [hlen] at hrow
  have HA : Hid (Apd w base (.slice (some ⟨g, 0, none⟩) cap cap) (l.take i ++ p :: l.drop i) (.slice (some ⟨G, 0, none⟩) (cap + 1) c') w3) := ⟨hrow, hkr, fun q hq => by cases hq; right; show w.heap.size ≤ G; omega⟩
  have n1 : ¬ (c' = i) := by omega
  have n2 : ¬ (c' = i + 1) := by omega
  have n3 : ¬ (cap = i) := by omega
  have n4 : i ≤ cap + 1 := by omega
  have n5 : cap ≤ 900000 := hsm
  have n6 : cap + 1 ≤ c' := by omega
  clear hrow hkr hkk hL hB3 hk3 hS2d hS2 hS1 hV1 hB2 hk2 hk1 hB1 hwG eG hc0 l0 l1 hdl hc' hM hn hG hVG hlen HN H HV hbase
  go_enter Try.func38, Try.ntmps38
  go_upto_region 9 with fail
  go_wp2_with (first | (at_builtin; refine Lib.wpList_append_run _ rfl _ _ _ _ rfl _ _ rfl rfl _ _ hr1 ?_) | (with_reducible refine wpList_copy_run rfl _ _ _ _ rfl rfl rfl hr2 ?_))
  have m1 : IntKind.i64.wrap ((i : Int) + 1) = (i : Int) + 1 := by rw [IntKind.wrap_i64]; omega
  have m2 : (0 : Int) ≤ (i : Int) + 1 := by omega
  have m3 : ((i : Int) + 1).toNat = i + 1 := by omega
  have m4 : (i : Int) ≤ (cap : Int) := by omega
  go_region_law (refine step_copy_run rfl _ _ 38 38 rfl (by simp [Act.eval, Act.put]) (by simp [Act.eval, Act.put]) hr3 ?_)
  all_goals
    go_wp2_with fail
    go_ret
    exact ⟨_, rfl, HA.out⟩
set_option maxHeartbeats 8000000 in
set_option maxRecDepth 100000 in
theorem ins_room {w : World} {base g cap i : Nat} {cur : List Value} {l : List Rg} {vb : Nat} {p : Rg} (h : Lies w g cap cur l) (hbg : base ≤ g) (hi : i < l.length) (hg : l.length + 1 ≤ cap) (hv : Blk w vb (rc p) 59) (hne : vb ≠ g) (hsm : l.length ≤ 900000) :
    Calls Try.prog 38 #[.slice (some ⟨g, 0, none⟩) l.length cap, .int .i64 (i : Int), .slice (some ⟨vb, 0, none⟩) 1 1] w (PutP w base (.slice (some ⟨g, 0, none⟩) l.length cap) (l.take i ++ p :: l.drop i)) := by
  unfold PutP
  have H := Lib.hid h
  have HV := Lib.hid hv
  have hmost := h.most
  unfold maxLen at hmost
  have l0 := h.len
  have hov := run_over hv h.blk hne (by omega)
  obtain ⟨n, hn⟩ : ∃ n, l.length = n := ⟨_, rfl⟩
  have HN := Lib.hid hn
  clear h hv
  rw [hn] at hi hg hsm ⊢
  clear hn
  have Hd : Lies w.drew g cap cur l := ⟨H.out.blk.drew, H.out.le, H.out.most, H.out.len, H.out.head⟩
  have hdl : (flat (l.drop i)).length = (n - i) * 2 := by rw [flat_len, List.length_drop, HN.out]
  obtain ⟨w1, hr1, hB1, hk1⟩ := run_cp Hd.blk 3 ((i + 1) * 2) (n + 1 - (i + 1)) (cap - (i + 1)) ⟨g, i * 2, none⟩ (n + 1 - i) (cap - i) (n - i) (flat (l.drop i)) ((by rw [Nat.min_def]; split <;> omega) : n - i = min (n + 1 - i) (n + 1 - (i + 1))) hdl
    (Hd.part i) (by rw [hdl]; omega) flat_one
  have hV1 := hk1.blk HV.out.drew hne
  have l1 : (splice cur ((i + 1) * 2) (flat (l.drop i))).length = cap * 2 := by rw [length_splice _ _ _ (by omega), l0]
  obtain ⟨w2, hr2, hB2, hk2⟩ := run_cp hB1 3 (i * 2) (n + 1 - i) (cap - i) ⟨vb, 0, none⟩ 1 1 1 (rc p) (Nat.min_eq_left (show 1 ≤ n + 1 - i by omega)).symm rfl
    (fun j u hj => by rw [Go.WideShapes.add_plain, Nat.zero_add]; exact hV1.cell hj) (by show i * 2 + 2 ≤ _; omega) (by intro u hu; simp [rc] at hu; rcases hu with rfl | rfl <;> rfl)
  have hL := mid_room H.out (by rw [HN.out]; exact hi) (by rw [HN.out]; exact hg) rfl rfl hB2
  have hkr : Kept (fun k => (Value.slice (some ⟨g, 0, none⟩) n cap).ownBlock = some k) w w2 :=
    ((Kept.refl (fun k => k = g) w).drew.trans (hk1.trans hk2)).mono (fun k _ e => by rw [e]; rfl)
  have hlen : (l.take i ++ p :: l.drop i).length = n + 1 := by rw [List.length_append, List.length_cons, List.length_take, List.length_drop, HN.out]; omega
  have hrow := hL.row (base := base) hbg
  rw [hlen] at hrow
  have HA : Hid (Apd w base (.slice (some ⟨g, 0, none⟩) n cap) (l.take i ++ p :: l.drop i) (.slice (some ⟨g, 0, none⟩) (n + 1) cap) w2) := ⟨hrow, hkr, fun q hq => by cases hq; left; rfl⟩
  have n1 : ¬ (cap = i) := by omega
  have n2 : ¬ (cap = i + 1) := by omega
  have n3 : ¬ (i = n) := by omega
  have m1 : IntKind.i64.wrap ((i : Int) + 1) = (i : Int) + 1 := by rw [IntKind.wrap_i64]; omega
  have m2 : (0 : Int) ≤ (i : Int) + 1 := by omega
  have m3 : ((i : Int) + 1).toNat = i + 1 := by omega
  have m4 : (i : Int) ≤ (n : Int) := by omega
  have m5 : (i : Int) ≤ (n : Int) + 1 := by omega
  have m6 : i ≤ n + 1 := by omega
  clear hrow hkr hL hB2 hk2 hV1 hk1 hB1 Hd l0 l1 hdl hlen HN H HV
  have n4 : ¬ (cap < n + 1) := by omega
  have hn2 : n ≤ cap := by omega
  go_enter Try.func38, Try.ntmps38
  go_wp2_with (simp only [hov])
  clear hov
  go_region_law (refine step_copy_run rfl _ _ 38 38 rfl (by simp [Act.eval, Act.put]) (by simp [Act.eval, Act.put]) hr1 ?_)
  all_goals
    go_wp2_with (with_reducible refine wpList_copy_run rfl _ _ _ _ rfl rfl rfl hr2 ?_)
    go_ret
    exact ⟨_, rfl, HA.out⟩
theorem ins_any {w : World} {base : Nat} {v : Value} {l : List Rg} {vb i : Nat} {p : Rg} (h : Row w base v l) (hi : i ≤ l.length) (hv : Blk w vb (rc p) 59) (hne : v.ownBlock ≠ some vb) (hsm : l.length ≤ 900000) (hbase : base ≤ w.heap.size) :
    Calls Try.prog 38 #[v, .int .i64 (i : Int), .slice (some ⟨vb, 0, none⟩) 1 1] w (PutP w base v (l.take i ++ p :: l.drop i)) := by
  by_cases he : i = l.length
  · subst he
    have := ins_end h hv hsm hbase
    rw [List.take_length, List.drop_length]
    exact this
  · rcases h.form with ⟨rfl, rfl⟩ | ⟨g, cap, cur, rfl, h1, h2⟩
    · simp at hi; exact absurd (by simpa using hi) he
    · have hne' : vb ≠ g := fun e => hne (by rw [e]; rfl)
      rcases Nat.lt_or_ge cap (l.length + 1) with hg | hg
      · exact ins_grow h2 (by omega) hg hv hsm hbase
      · exact ins_room h2 h1 (by omega) hg hv hne' hsm
end Go.Proofs.Ytfkcplapmkpkbaa.IvR
