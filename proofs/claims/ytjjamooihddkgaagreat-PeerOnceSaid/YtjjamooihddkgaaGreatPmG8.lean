/- slices.Insert and slices.Replace of one range. Conditions: each theorem's own. -/
import Derived.Test.YtjjamooihddkgaaGreatPmG7
import Derived.WalkKit
import Derived.Outline
import Derived.ProofKit
import Derived.Deep.RegionLaw
import Derived.Deep.CutBlock
import Derived.Deep.RegionWith
import Derived.Deep.DeepCutAuto
import Derived.Deep.DrawnRows
import Derived.WalkLawsBesides
import Derived.BigQuiet
import Derived.Deep.QuietTactic
import Derived.Test.YtjjamooihddkgaaGreatPmG2
import Derived.LoopTactic
import Derived.Deep.LoopGhost
import Derived.Deep.Draws
import Derived.Shelf.Abstract
import Derived.Deep.RegionHeld3
set_option linter.unusedVariables false
set_option linter.unusedSimpArgs false
namespace Go.Proofs.YtjjamooihddkgaaGreat.IvR
open Go.RowKit Hp IvM
attribute [local go_sem ↓] Go.wp_at_zero Go.wp_at_succ
/-- One range more, in the places of some. -/
def PutP (w : World) (base : Nat) (v : Value) (L : List Rg) (e : Ending) (w' : World) : Prop := ∃ v', e = .returned v' ∧ Apd w base v L v' w'
theorem src_one {w : World} {vb : Nat} {p : Rg} (h : Blk w vb (rc p) 196) : Src w (.slice (some ⟨vb, 0, none⟩) 1 1) [p] :=
  Or.inr ⟨⟨vb, 0, none⟩, 1, rfl, fun j u hj => by rw [Go.WideShapes.add_plain, Nat.zero_add]; exact h.cell (by simpa [flat] using hj)⟩
set_option maxHeartbeats 4000000 in
set_option maxRecDepth 100000 in
theorem ins_end {w : World} {base : Nat} {v : Value} {l : List Rg} {vb : Nat} {p : Rg} (h : Row w base v l) (hv : Blk w vb (rc p) 196) (hsm : l.length ≤ 900000) (hbase : base ≤ w.heap.size) :
    Calls Tryz.prog 156 #[v, .int .i64 (l.length : Int), .slice (some ⟨vb, 0, none⟩) 1 1] w (PutP w base v (l ++ [p])) := by
  unfold PutP
  have hS := src_one hv
  have HR := Lib.hid h
  clear hv
  rcases h.form with ⟨rfl, rfl⟩ | ⟨g, cap, cur, rfl, h1, h2⟩
  · go_enter Tryz.func156, Tryz.ntmps156
    go_wp2_with (at_builtin; refine wpList_app rfl _ _ rfl base (v := .slice none 0 0) rfl HR.out rfl hS (by simp) hbase ?_; intro v' w' hA)
    go_ret
    exact ⟨_, rfl, hA⟩
  · have hc := h2.le
    have hm := h2.most
    unfold maxLen at hm
    clear h h2
    rcases Nat.lt_or_ge l.length cap with hlt | hge
    · have hne : ¬ (cap = l.length) := by omega
      go_enter Tryz.func156, Tryz.ntmps156
      go_wp2_with (at_builtin; refine wpList_app rfl _ _ rfl base (v := .slice (some ⟨g, 0, none⟩) l.length cap) rfl HR.out rfl hS (by simp; omega) hbase ?_; intro v' w' hA)
      go_ret
      exact ⟨_, rfl, hA⟩
    · obtain rfl : cap = l.length := by omega
      go_enter Tryz.func156, Tryz.ntmps156
      go_wp2_with (at_builtin; refine wpList_app rfl _ _ rfl base (v := .slice (some ⟨g, 0, none⟩) l.length l.length) rfl HR.out rfl hS (by simp; omega) hbase ?_; intro v' w' hA)
      go_ret
      exact ⟨_, rfl, hA⟩
theorem cap_no {c k : Nat} (h : k < c) : ¬ (c = k) := by omega
/-- In the midst, where it must grow. -/
theorem mid_grow {cur0 cur1 cur2 : List Value} {l : List Rg} {i m r c' g : Nat} {p : Rg} {w : World} (hi : i < l.length) (hm : m = l.length + 1 - i) (h0 : cur0 = flat (l.take i) ++ (zeros m ++ zeros r)) (hc : i + m + r = c') (hM : c' ≤ maxLen)
    (h1 : cur1 = splice cur0 (i * 2) (rc p)) (h2 : cur2 = splice cur1 ((i + 1) * 2) (flat (l.drop i))) (hB : Blk w g cur2 196) : Lies w g c' cur2 (l.take i ++ p :: l.drop i) := by
  have hrc : (rc p).length = 2 := rfl
  have hfl := flat_len (l.drop i)
  have hft := flat_len (l.take i)
  rw [List.length_drop] at hfl
  rw [List.length_take] at hft
  have l0 : cur0.length = c' * 2 := by rw [h0, List.length_append, List.length_append, hft, zeros_len, zeros_len]; omega
  have l1 : cur1.length = c' * 2 := by rw [h1, length_splice _ _ _ (by omega), l0]
  have l2 : cur2.length = c' * 2 := by rw [h2, length_splice _ _ _ (by omega), l1]
  have hlen : (l.take i ++ p :: l.drop i).length = l.length + 1 := by rw [List.length_append, List.length_cons, List.length_take, List.length_drop]; omega
  refine ⟨hB, by omega, hM, l2, ?_⟩
  rw [hlen, h2, splice_take_end (by omega) _ (by omega), h1, splice_take_end (by omega) _ (by omega), h0]
  have : (flat (l.take i) ++ (zeros m ++ zeros r)).take (i * 2) = flat (l.take i) := by
    rw [List.take_append_of_le_length (by omega), List.take_of_length_le (by omega)]
  rw [this]
  unfold flat
  rw [List.flatMap_append, List.flatMap_cons, List.append_assoc]
/-- In the midst, where there is room. -/
theorem mid_room {cur cur1 cur2 : List Value} {l : List Rg} {i cap g : Nat} {p : Rg} {w w2 : World} (h : Lies w g cap cur l) (hi : i < l.length) (hr : l.length + 1 ≤ cap)
    (h1 : cur1 = splice cur ((i + 1) * 2) (flat (l.drop i))) (h2 : cur2 = splice cur1 (i * 2) (rc p)) (hB : Blk w2 g cur2 196) : Lies w2 g cap cur2 (l.take i ++ p :: l.drop i) := by
  have hrc : (rc p).length = 2 := rfl
  have hfl := flat_len (l.drop i)
  rw [List.length_drop] at hfl
  have l0 := h.len
  have l1 : cur1.length = cap * 2 := by rw [h1, length_splice _ _ _ (by omega), l0]
  have l2 : cur2.length = cap * 2 := by rw [h2, length_splice _ _ _ (by omega), l1]
  have hlen : (l.take i ++ p :: l.drop i).length = l.length + 1 := by rw [List.length_append, List.length_cons, List.length_take, List.length_drop]; omega
  refine ⟨hB, by omega, h.most, l2, ?_⟩
  have e1 : cur1.take (i * 2) = flat (l.take i) := by
    rw [h1, splice_take_le (by omega) (by omega), ← flat_take, ← h.head, List.take_take]
    congr 1; omega
  have e2 : (cur1.drop (i * 2 + 2)).take ((l.length - i) * 2) = flat (l.drop i) := by
    rw [h1, show i * 2 + 2 = (i + 1) * 2 by omega]
    exact splice_mid (by omega) _ (by omega)
  rw [hlen, h2, splice_take_more (by omega) _ ((l.length - i) * 2) (by omega), hrc, e1, e2]
  unfold flat
  rw [List.flatMap_append, List.flatMap_cons]
theorem run_over {w : World} {vb g : Nat} {V cur : List Value} (hv : Blk w vb V 196) (hg : Blk w g cur 196) (hne : vb ≠ g) (h0 : 0 < cur.length) (la ca lb cb o : Nat) :
    (callFunc 157 #[.slice (some ⟨vb, 0, none⟩) la ca, .slice (some ⟨g, o, none⟩) lb cb]).run Tryz.prog w = .ok (.value (.bool false)) w := by
  have hz : ∀ w, (Go.sizeOf 196).run Tryz.prog w = .ok 2 w := fun w => by kernel_rfl
  have s1 : w.shape? vb = some (196, V.length) := by unfold Blk at hv; simp [World.shape?, hv]
  have s2 : w.shape? g = some (196, cur.length) := by unfold Blk at hg; simp [World.shape?, hg]
  rw [run_callFunc_extern Tryz.func157 (by kernel_rfl) (by kernel_rfl) (by kernel_rfl) (e := Extern.SlicesOverlaps.overlaps #[191, 191] #[4]) (by kernel_rfl),
    Lib.run_overlaps_apart w 191 4 196 Tryz.underlying191 2 hz ⟨vb, 0, none⟩ ⟨g, o, none⟩ la ca lb cb hne _ _ _ _ s1 s2 (by omega) (hv.frozen 0) (hv.frozen _)]
  rfl
set_option maxHeartbeats 8000000 in
set_option maxRecDepth 100000 in
theorem ins_grow {w : World} {base g cap i : Nat} {cur : List Value} {l : List Rg} {vb : Nat} {p : Rg} (h : Lies w g cap cur l) (hi : i < l.length) (hg : cap < l.length + 1) (hv : Blk w vb (rc p) 196) (hsm : l.length ≤ 900000) (hbase : base ≤ w.heap.size) :
    Calls Tryz.prog 156 #[.slice (some ⟨g, 0, none⟩) l.length cap, .int .i64 (i : Int), .slice (some ⟨vb, 0, none⟩) 1 1] w (PutP w base (.slice (some ⟨g, 0, none⟩) l.length cap) (l.take i ++ p :: l.drop i)) := by
  unfold PutP
  have hc := h.le
  have H := Lib.hid h
  have HV := Lib.hid hv
  obtain ⟨n, hn⟩ : ∃ n, l.length = n := ⟨_, rfl⟩
  have HN := Lib.hid hn
  clear h hv
  rw [hn] at hi hg hsm hc ⊢
  obtain rfl : cap = n := by omega
  have hG : g ≠ w.heap.size := by have := H.out.blk.lt; omega
  have hVG : vb ≠ w.heap.size := by have := HV.out.lt; omega
  obtain ⟨c', r, hr1, hc', hM⟩ := run_zeros H.out 191 i (cap + 1 - i) (by omega) (by omega) (by omega)
  rw [show i + (cap + 1 - i) = cap + 1 by omega, show ((cap + 1 - i : Nat) : Int) = (cap : Int) + 1 - (i : Int) by omega] at hr1
  have hB1 : Blk (w.drew.alloc (.cells (flat (l.take i) ++ (zeros (cap + 1 - i) ++ zeros r)).toArray 196)) w.heap.size (flat (l.take i) ++ (zeros (cap + 1 - i) ++ zeros r)) 196 := Blk.new w.drew _ _
  have hk1 : Kept (fun _ => False) w (w.drew.alloc (.cells (flat (l.take i) ++ (zeros (cap + 1 - i) ++ zeros r)).toArray 196)) := (Kept.refl _ w).drew.alloc _
  have hwG : w.heap.size < (w.drew.alloc (.cells (flat (l.take i) ++ (zeros (cap + 1 - i) ++ zeros r)).toArray 196)).heap.size := by simp
  obtain ⟨cur0, hc0⟩ : ∃ c, c = flat (l.take i) ++ (zeros (cap + 1 - i) ++ zeros r) := ⟨_, rfl⟩
  have l0 : cur0.length = c' * 2 := by rw [hc0, List.length_append, List.length_append, flat_len, zeros_len, zeros_len, List.length_take]; omega
  rw [← hc0] at hr1 hB1 hk1 hwG
  generalize w.drew.alloc (.cells cur0.toArray 196) = w1 at *
  obtain ⟨G, eG⟩ : ∃ G, w.heap.size = G := ⟨_, rfl⟩
  rw [eG] at hr1 hB1 hwG hG hVG
  have hV1 := hk1.blk HV.out (fun h => h)
  have hS1 := H.out.kept hk1 (fun h => h)
  obtain ⟨w2, hr2, hB2, hk2⟩ := run_cp hB1 3 (i * 2) (cap + 1 - i) (c' - i) ⟨vb, 0, none⟩ 1 1 1 (rc p) (Nat.min_eq_left (show 1 ≤ cap + 1 - i by omega)).symm rfl
    (fun j u hj => by rw [Go.WideShapes.add_plain, Nat.zero_add]; exact hV1.cell hj) (by show i * 2 + 2 ≤ _; omega) (by intro u hu; simp [rc] at hu; rcases hu with rfl | rfl <;> rfl)
  have hS2 := hS1.kept hk2 (fun h => hG h)
  have hS2d : Lies w2.drew g cap cur l := ⟨hS2.blk.drew, hS2.le, hS2.most, hS2.len, hS2.head⟩
  have hdl : (flat (l.drop i)).length = (cap - i) * 2 := by rw [flat_len, List.length_drop, HN.out]
  have l1 : (splice cur0 (i * 2) (rc p)).length = c' * 2 := by rw [length_splice _ _ _ (by show i * 2 + 2 ≤ _; omega), l0]
  obtain ⟨w3, hr3, hB3, hk3⟩ := run_cp hB2.drew 3 ((i + 1) * 2) (cap + 1 - (i + 1)) (c' - (i + 1)) ⟨g, i * 2, none⟩ (cap - i) (cap - i) (cap - i) (flat (l.drop i)) (Nat.min_eq_left (show cap - i ≤ cap + 1 - (i + 1) by omega)).symm hdl
    (hS2d.part i) (by rw [l1, hdl]; omega) flat_one
  have hL := mid_grow (by omega) (by omega) hc0 (by omega) hM rfl rfl hB3
  have hkk : Kept (fun k => k = g ∨ k = G) w w3 := (((hk1.mono (fun _ _ f => f.elim)).trans (hk2.mono (fun k _ e => Or.inr e))).drew).trans (hk3.mono (fun k _ e => Or.inr e))
  have hkr : Kept (fun k => (Value.slice (some ⟨g, 0, none⟩) cap cap).ownBlock = some k) w w3 := by
    refine ⟨hkk.os, hkk.tape, hkk.output, hkk.size, fun k hk hn => hkk.block k hk ?_⟩
    rintro (e | e)
    · exact hn (by rw [e]; rfl)
    · omega
  have hlen : (l.take i ++ p :: l.drop i).length = cap + 1 := by rw [List.length_append, List.length_cons, List.length_take, List.length_drop, HN.out]; omega
  have hrow := hL.row (base := base) (by omega)
  rw [hlen] at hrow
  have HA : Hid (Apd w base (.slice (some ⟨g, 0, none⟩) cap cap) (l.take i ++ p :: l.drop i) (.slice (some ⟨G, 0, none⟩) (cap + 1) c') w3) := ⟨hrow, hkr, fun q hq => by cases hq; right; show w.heap.size ≤ G; omega⟩
  have n1 : ¬ (c' = i) := by omega
  have n2 : ¬ (c' = i + 1) := by omega
  have n3 : ¬ (cap = i) := by omega
  have n4 : i ≤ cap + 1 := by omega
  have n5 : cap ≤ 900000 := hsm
  have n6 : cap + 1 ≤ c' := by omega
  clear hrow hkr hkk hL hB3 hk3 hS2d hS2 hS1 hV1 hB2 hk2 hk1 hB1 hwG eG hc0 l0 l1 hdl hc' hM hn hG hVG hlen HN H HV hbase
  go_enter Tryz.func156, Tryz.ntmps156
  go_upto_region 9 with fail
  go_wp2_with (first | (at_builtin; refine Lib.wpList_append_run _ rfl _ _ _ _ rfl _ _ rfl rfl _ _ hr1 ?_) | (with_reducible refine wpList_copy_run rfl _ _ _ _ rfl rfl rfl hr2 ?_))
  have m1 : IntKind.i64.wrap ((i : Int) + 1) = (i : Int) + 1 := by rw [IntKind.wrap_i64]; omega
  have m2 : (0 : Int) ≤ (i : Int) + 1 := by omega
  have m3 : ((i : Int) + 1).toNat = i + 1 := by omega
  have m4 : (i : Int) ≤ (cap : Int) := by omega
  go_region_law (refine step_copy_run rfl _ _ 191 191 rfl (by simp [Act.eval, Act.put]) (by simp [Act.eval, Act.put]) hr3 ?_)
  all_goals
    go_wp2_with fail
    go_ret
    exact ⟨_, rfl, HA.out⟩
set_option maxHeartbeats 8000000 in
set_option maxRecDepth 100000 in
theorem ins_room {w : World} {base g cap i : Nat} {cur : List Value} {l : List Rg} {vb : Nat} {p : Rg} (h : Lies w g cap cur l) (hbg : base ≤ g) (hi : i < l.length) (hg : l.length + 1 ≤ cap) (hv : Blk w vb (rc p) 196) (hne : vb ≠ g) (hsm : l.length ≤ 900000) :
    Calls Tryz.prog 156 #[.slice (some ⟨g, 0, none⟩) l.length cap, .int .i64 (i : Int), .slice (some ⟨vb, 0, none⟩) 1 1] w (PutP w base (.slice (some ⟨g, 0, none⟩) l.length cap) (l.take i ++ p :: l.drop i)) := by
  unfold PutP
  have H := Lib.hid h
  have HV := Lib.hid hv
  have hmost := h.most
  unfold maxLen at hmost
  have l0 := h.len
  have hov := run_over hv h.blk hne (by omega)
  obtain ⟨n, hn⟩ : ∃ n, l.length = n := ⟨_, rfl⟩
  have HN := Lib.hid hn
  clear h hv
  rw [hn] at hi hg hsm ⊢
  clear hn
  have Hd : Lies w.drew g cap cur l := ⟨H.out.blk.drew, H.out.le, H.out.most, H.out.len, H.out.head⟩
  have hdl : (flat (l.drop i)).length = (n - i) * 2 := by rw [flat_len, List.length_drop, HN.out]
  obtain ⟨w1, hr1, hB1, hk1⟩ := run_cp Hd.blk 3 ((i + 1) * 2) (n + 1 - (i + 1)) (cap - (i + 1)) ⟨g, i * 2, none⟩ (n + 1 - i) (cap - i) (n - i) (flat (l.drop i)) ((by rw [Nat.min_def]; split <;> omega) : n - i = min (n + 1 - i) (n + 1 - (i + 1))) hdl
    (Hd.part i) (by rw [hdl]; omega) flat_one
  have hV1 := hk1.blk HV.out.drew hne
  have l1 : (splice cur ((i + 1) * 2) (flat (l.drop i))).length = cap * 2 := by rw [length_splice _ _ _ (by omega), l0]
  obtain ⟨w2, hr2, hB2, hk2⟩ := run_cp hB1 3 (i * 2) (n + 1 - i) (cap - i) ⟨vb, 0, none⟩ 1 1 1 (rc p) (Nat.min_eq_left (show 1 ≤ n + 1 - i by omega)).symm rfl
    (fun j u hj => by rw [Go.WideShapes.add_plain, Nat.zero_add]; exact hV1.cell hj) (by show i * 2 + 2 ≤ _; omega) (by intro u hu; simp [rc] at hu; rcases hu with rfl | rfl <;> rfl)
  have hL := mid_room H.out (by rw [HN.out]; exact hi) (by rw [HN.out]; exact hg) rfl rfl hB2
  have hkr : Kept (fun k => (Value.slice (some ⟨g, 0, none⟩) n cap).ownBlock = some k) w w2 :=
    ((Kept.refl (fun k => k = g) w).drew.trans (hk1.trans hk2)).mono (fun k _ e => by rw [e]; rfl)
  have hlen : (l.take i ++ p :: l.drop i).length = n + 1 := by rw [List.length_append, List.length_cons, List.length_take, List.length_drop, HN.out]; omega
  have hrow := hL.row (base := base) hbg
  rw [hlen] at hrow
  have HA : Hid (Apd w base (.slice (some ⟨g, 0, none⟩) n cap) (l.take i ++ p :: l.drop i) (.slice (some ⟨g, 0, none⟩) (n + 1) cap) w2) := ⟨hrow, hkr, fun q hq => by cases hq; left; rfl⟩
  have n1 : ¬ (cap = i) := by omega
  have n2 : ¬ (cap = i + 1) := by omega
  have n3 : ¬ (i = n) := by omega
  have m1 : IntKind.i64.wrap ((i : Int) + 1) = (i : Int) + 1 := by rw [IntKind.wrap_i64]; omega
  have m2 : (0 : Int) ≤ (i : Int) + 1 := by omega
  have m3 : ((i : Int) + 1).toNat = i + 1 := by omega
  have m4 : (i : Int) ≤ (n : Int) := by omega
  have m5 : (i : Int) ≤ (n : Int) + 1 := by omega
  have m6 : i ≤ n + 1 := by omega
  clear hrow hkr hL hB2 hk2 hV1 hk1 hB1 Hd l0 l1 hdl hlen HN H HV
  have n4 : ¬ (cap < n + 1) := by omega
  have hn2 : n ≤ cap := by omega
  go_enter Tryz.func156, Tryz.ntmps156
  go_wp2_with (simp only [hov])
  clear hov
  go_region_law (refine step_copy_run rfl _ _ 191 191 rfl (by simp [Act.eval, Act.put]) (by simp [Act.eval, Act.put]) hr1 ?_)
  all_goals
    go_wp2_with (with_reducible refine wpList_copy_run rfl _ _ _ _ rfl rfl rfl hr2 ?_)
    go_ret
    exact ⟨_, rfl, HA.out⟩
theorem ins_any {w : World} {base : Nat} {v : Value} {l : List Rg} {vb i : Nat} {p : Rg} (h : Row w base v l) (hi : i ≤ l.length) (hv : Blk w vb (rc p) 196) (hne : v.ownBlock ≠ some vb) (hsm : l.length ≤ 900000) (hbase : base ≤ w.heap.size) :
    Calls Tryz.prog 156 #[v, .int .i64 (i : Int), .slice (some ⟨vb, 0, none⟩) 1 1] w (PutP w base v (l.take i ++ p :: l.drop i)) := by
  by_cases he : i = l.length
  · subst he
    have := ins_end h hv hsm hbase
    rw [List.take_length, List.drop_length]
    exact this
  · rcases h.form with ⟨rfl, rfl⟩ | ⟨g, cap, cur, rfl, h1, h2⟩
    · simp at hi; exact absurd (by simpa using hi) he
    · have hne' : vb ≠ g := fun e => hne (by rw [e]; rfl)
      rcases Nat.lt_or_ge cap (l.length + 1) with hg | hg
      · exact ins_grow h2 (by omega) hg hv hsm hbase
      · exact ins_room h2 h1 (by omega) hg hv hne' hsm
end Go.Proofs.YtjjamooihddkgaaGreat.IvR

/- slices.Replace of some ranges by one. Conditions: each theorem's own. -/
namespace Go.Proofs.YtjjamooihddkgaaGreat.IvR
open Go.RowKit Hp IvM
attribute [local go_sem ↓] Go.wp_at_zero Go.wp_at_succ
theorem put_len (l : List Rg) (p : Rg) {i j : Nat} (hij : i ≤ j) (hj : j ≤ l.length) : (l.take i ++ p :: l.drop j).length = i + 1 + (l.length - j) := by
  rw [List.length_append, List.length_cons, List.length_take, List.length_drop]; omega
/-- Behind the cells of a row nothing counts. -/
theorem Lies.cleared {w w' : World} {g cap : Nat} {cur zs : List Value} {L : List Rg} {o : Nat} (h : Lies w g cap cur L) (ho : o = L.length * 2) (hz : o + zs.length ≤ cur.length) (hB : Blk w' g (splice cur o zs) 196) : Lies w' g cap (splice cur o zs) L := by
  subst ho
  exact ⟨hB, h.le, h.most, by rw [length_splice _ _ _ hz, h.len], by rw [splice_take_le (by omega) (Nat.le_refl _), h.head]⟩
/-- The last ones replaced. -/
theorem end_lies {w w' : World} {g cap i : Nat} {cur : List Value} {l : List Rg} {p : Rg} (h : Lies w g cap cur l) (hi : i < l.length) (hB : Blk w' g (splice cur (i * 2) (rc p)) 196) : Lies w' g cap (splice cur (i * 2) (rc p)) (l.take i ++ [p]) := by
  have hl := h.len
  have hc := h.le
  have e : (l.take i ++ [p]).length = i + 1 := by rw [List.length_append, List.length_take]; simp; omega
  refine ⟨hB, by omega, h.most, by rw [length_splice _ _ _ (by show i * 2 + 2 ≤ _; omega), hl], ?_⟩
  rw [e, splice_take_end (by omega) _ (by show _ = i * 2 + 2; omega)]
  have e1 : cur.take (i * 2) = flat (l.take i) := by
    rw [← flat_take, ← h.head, List.take_take]
    congr 1; omega
  rw [e1, flat_append]
  simp [flat]
theorem mid_lies {w w' : World} {g cap i j : Nat} {cur : List Value} {l : List Rg} {p : Rg} (h : Lies w g cap cur l) (hij : i < j) (hj : j ≤ l.length) (hB : Blk w' g (splice (splice cur (i * 2) (rc p)) ((i + 1) * 2) (flat (l.drop j))) 196) :
    Lies w' g cap (splice (splice cur (i * 2) (rc p)) ((i + 1) * 2) (flat (l.drop j))) (l.take i ++ p :: l.drop j) := by
  have hl := h.len
  have hc := h.le
  have e := put_len l p (Nat.le_of_lt hij) hj
  have hrc : (rc p).length = 2 := rfl
  have hfl := flat_len (l.drop j)
  rw [List.length_drop] at hfl
  have l1 : (splice cur (i * 2) (rc p)).length = cap * 2 := by rw [length_splice _ _ _ (by omega), hl]
  refine ⟨hB, by omega, h.most, by rw [length_splice _ _ _ (by omega), l1], ?_⟩
  have e1 : cur.take (i * 2) = flat (l.take i) := by
    rw [← flat_take, ← h.head, List.take_take]
    congr 1; omega
  rw [e, splice_take_end (by omega) _ (by omega), splice_take_end (by omega) _ (by omega), e1]
  unfold flat
  rw [List.flatMap_append, List.flatMap_cons, List.append_assoc]
theorem Lies.apd {w w' : World} {base g cap n m : Nat} {cur : List Value} {L : List Rg} (h : Lies w' g cap cur L) (hb : base ≤ g) (hm : L.length = m) (hk : Kept (fun k => k = g) w w') : Apd w base (.slice (some ⟨g, 0, none⟩) n cap) L (.slice (some ⟨g, 0, none⟩) m cap) w' := by
  subst hm
  exact ⟨h.row hb, hk.mono (fun k _ e => by rw [e]; rfl), fun q hq => by cases hq; left; rfl⟩
set_option maxHeartbeats 8000000 in
set_option maxRecDepth 100000 in
theorem rep_ins {w : World} {base : Nat} {v : Value} {l : List Rg} {vb i : Nat} {p : Rg} (h : Row w base v l) (hi : i ≤ l.length) (hv : Blk w vb (rc p) 196) (hne : v.ownBlock ≠ some vb) (hsm : l.length ≤ 900000) (hbase : base ≤ w.heap.size) :
    Calls Tryz.prog 134 #[v, .int .i64 (i : Int), .int .i64 (i : Int), .slice (some ⟨vb, 0, none⟩) 1 1] w (PutP w base v (l.take i ++ p :: l.drop i)) := by
  have I := Lib.hid (ins_any h hi hv hne hsm hbase)
  rcases h.form with ⟨rfl, rfl⟩ | ⟨g, cap, cur, rfl, h1, h2⟩
  · obtain rfl : i = 0 := by simpa using hi
    clear h hv hne hbase
    go_enter Tryz.func134, Tryz.ntmps134
    go_wp2_with (go_at_call 156; refine I.out.mono ?_; rintro e w' ⟨v', rfl, hA⟩)
    go_ret
    exact ⟨_, rfl, hA⟩
  · have hc := h2.le
    have hm := h2.most
    unfold maxLen at hm
    clear h hv hne hbase h2
    generalize l.take i ++ p :: l.drop i = L at *
    generalize l.length = n at *
    rcases Nat.lt_or_ge i cap with hlt | hge
    · have hne : ¬ (cap = i) := by omega
      have hi' : (i : Int) ≤ (cap : Int) := by omega
      go_enter Tryz.func134, Tryz.ntmps134
      go_wp2_with (go_at_call 156; refine I.out.mono ?_; rintro e w' ⟨v', rfl, hA⟩)
      go_ret
      exact ⟨_, rfl, hA⟩
    · obtain rfl : cap = i := by omega
      go_enter Tryz.func134, Tryz.ntmps134
      go_wp2_with (go_at_call 156; refine I.out.mono ?_; rintro e w' ⟨v', rfl, hA⟩)
      go_ret
      exact ⟨_, rfl, hA⟩
set_option maxHeartbeats 8000000 in
set_option maxRecDepth 100000 in
theorem rep_end {w : World} {base g cap i : Nat} {cur : List Value} {l : List Rg} {vb : Nat} {p : Rg} (h : Lies w g cap cur l) (hbg : base ≤ g) (hi : i < l.length) (hv : Blk w vb (rc p) 196) :
    Calls Tryz.prog 134 #[.slice (some ⟨g, 0, none⟩) l.length cap, .int .i64 (i : Int), .int .i64 (l.length : Int), .slice (some ⟨vb, 0, none⟩) 1 1] w (PutP w base (.slice (some ⟨g, 0, none⟩) l.length cap) (l.take i ++ [p])) := by
  unfold PutP
  have hmost := h.most
  unfold maxLen at hmost
  have hc := h.le
  have hl := h.len
  obtain ⟨w1, hr1, hB1, hk1⟩ := run_room h 191 i (by omega) (by omega) ⟨vb, 0, none⟩ 1 p (fun j u hj => by rw [Go.WideShapes.add_plain, Nat.zero_add]; exact hv.cell hj)
  have hL := end_lies h hi hB1
  have hlen : (l.take i ++ [p]).length = i + 1 := by rw [List.length_append, List.length_take]; simp; omega
  have l1 : (splice cur (i * 2) (rc p)).length = cap * 2 := hL.len
  have n1 : ¬ (cap = i) := by omega
  have n2 : ¬ ((i : Int) = (l.length : Int)) := by omega
  have n3 : ¬ (i = l.length) := by omega
  rcases Nat.lt_or_ge (i + 1) l.length with hlt | hge
  · obtain ⟨w2, hr2, hB2, hk2⟩ := run_clr hB1 0 ((i + 1) * 2) (l.length - (i + 1)) (cap - (i + 1)) (by omega) (by rw [l1]; omega)
    have hL2 := hL.cleared (by rw [hlen]) (by rw [zeros_len, l1]; omega) hB2
    have HA := Lib.hid (hL2.apd (n := l.length) hbg hlen (hk1.trans hk2))
    have n4 : ¬ (cap = i + 1) := by omega
    have m1 : IntKind.i64.wrap ((i : Int) + 1) = (i : Int) + 1 := by rw [IntKind.wrap_i64]; omega
    have m2 : (0 : Int) ≤ (i : Int) + 1 := by omega
    have m3 : ((i : Int) + 1).toNat = i + 1 := by omega
    have m4 : (i : Int) + 1 < (l.length : Int) := by omega
    clear hL2 hB2 hk2 hL hB1 hk1 h hv hlen l1 hl
    generalize l.take i ++ [p] = L at *
    generalize l.length = n at *
    go_enter Tryz.func134, Tryz.ntmps134
    go_wp2_with (first | (at_builtin; refine Lib.wpList_append_run _ rfl _ _ _ _ rfl _ _ rfl rfl _ _ hr1 ?_) | (with_reducible refine wpList_clear_run rfl _ _ rfl rfl hr2 ?_))
    go_ret
    exact ⟨_, rfl, HA.out⟩
  · have HA := Lib.hid (hL.apd (n := l.length) hbg hlen hk1)
    obtain ⟨n, hn⟩ : ∃ n, l.length = n := ⟨_, rfl⟩
    obtain rfl : n = i + 1 := by omega
    clear hL hB1 hk1 h hv hlen l1 hl
    generalize l.take i ++ [p] = L at *
    rw [hn] at *
    clear hn
    go_enter Tryz.func134, Tryz.ntmps134
    go_wp2_with (first | (at_builtin; refine Lib.wpList_append_run _ rfl _ _ _ _ rfl _ _ rfl rfl _ _ hr1 ?_))
    go_ret
    exact ⟨_, rfl, HA.out⟩
/-- What the copies of a Replace in the midst do. -/
theorem mid_facts {w : World} {g cap i j n : Nat} {cur : List Value} {l : List Rg} {vb : Nat} {p : Rg} (h : Lies w g cap cur l) (hn : l.length = n) (hij : i < j) (hj : j < n) (hv : Blk w vb (rc p) 196) (hne : vb ≠ g) (T : Nat) (hT : T = i + 1 + (n - j)) :
    ∃ w1 w2, (Builtin.copy_ #[191, 191] 3 #[.slice (some ⟨g, i * 2, none⟩) (T - i) (cap - i), .slice (some ⟨vb, 0, none⟩) 1 1]).run Tryz.prog w = .ok (goInt 1) w1 ∧
      (Builtin.copy_ #[191, 191] 3 #[.slice (some ⟨g, (i + 1) * 2, none⟩) (T - (i + 1)) (cap - (i + 1)), .slice (some ⟨g, j * 2, none⟩) (n - j) (cap - j)]).run Tryz.prog w1.drew = .ok (goInt (n - j : Nat)) w2 ∧
      Lies w2 g cap (splice (splice cur (i * 2) (rc p)) ((i + 1) * 2) (flat (l.drop j))) (l.take i ++ p :: l.drop j) ∧ Kept (fun k => k = g) w w2 := by
  have hl := h.len
  have hc := h.le
  have hrc : (rc p).length = 2 := rfl
  obtain ⟨w1, hr1, hB1, hk1⟩ := run_cp h.blk 3 (i * 2) (T - i) (cap - i) ⟨vb, 0, none⟩ 1 1 1 (rc p) (Nat.min_eq_left (show 1 ≤ T - i by omega)).symm rfl
    (fun j u hj => by rw [Go.WideShapes.add_plain, Nat.zero_add]; exact hv.cell hj) (by omega) (by intro u hu; simp [rc] at hu; rcases hu with rfl | rfl <;> rfl)
  have l1 : (splice cur (i * 2) (rc p)).length = cap * 2 := by rw [length_splice _ _ _ (by omega), hl]
  have hdl : (flat (l.drop j)).length = (n - j) * 2 := by rw [flat_len, List.length_drop, hn]
  obtain ⟨w2, hr2, hB2, hk2⟩ := run_cp hB1.drew 3 ((i + 1) * 2) (T - (i + 1)) (cap - (i + 1)) ⟨g, j * 2, none⟩ (n - j) (cap - j) (n - j) (flat (l.drop j)) (Nat.min_eq_left (show n - j ≤ T - (i + 1) by omega)).symm hdl
    (fun k u hk => by
      have hk' := (List.getElem?_eq_some_iff.1 hk).1
      rw [Go.WideShapes.add_plain]
      refine hB1.drew.cell ?_
      rw [splice_get (by omega) (by omega), h.cur_at (by omega), ← hk, ← flat_drop, List.getElem?_drop]) (by omega) flat_one
  exact ⟨w1, w2, hr1, hr2, mid_lies h hij (by omega) hB2, hk1.drew.trans hk2⟩
set_option maxHeartbeats 8000000 in
set_option maxRecDepth 100000 in
theorem rep_mid {w : World} {base g cap i j : Nat} {cur : List Value} {l : List Rg} {vb : Nat} {p : Rg} (h : Lies w g cap cur l) (hbg : base ≤ g) (hij : i < j) (hj : j < l.length) (hv : Blk w vb (rc p) 196) (hne : vb ≠ g) (hsm : l.length ≤ 900000) :
    Calls Tryz.prog 134 #[.slice (some ⟨g, 0, none⟩) l.length cap, .int .i64 (i : Int), .int .i64 (j : Int), .slice (some ⟨vb, 0, none⟩) 1 1] w (PutP w base (.slice (some ⟨g, 0, none⟩) l.length cap) (l.take i ++ p :: l.drop j)) := by
  unfold PutP
  have hmost := h.most
  unfold maxLen at hmost
  have hc := h.le
  have hl := h.len
  have H := Lib.hid h
  have HV := Lib.hid hv
  have hput := put_len l p (Nat.le_of_lt hij) (Nat.le_of_lt hj)
  obtain ⟨n, hn⟩ : ∃ n, l.length = n := ⟨_, rfl⟩
  have HN := Lib.hid hn
  rw [hn] at hput hj hsm hc ⊢
  clear h hv hn
  have a1 : ¬ (cap = i) := by omega
  have a2 : ¬ (cap = j) := by omega
  have a3 : ¬ (cap = i + 1) := by omega
  have a4 : ¬ (i = j) := by omega
  have a5 : ¬ (j = n) := by omega
  have a6 : i ≤ j := by omega
  have a7 : i ≤ n := by omega
  have a8 : j ≤ n := by omega
  have HP := Lib.hid hput
  clear hput
  go_enter Tryz.func134, Tryz.ntmps134
  go_upto_region 9 with fail
  go_quiet (fail)
  go_upto_region 10 with fail
  have Hq : Lies (w.drewN nq) g cap cur l := ⟨H.out.blk.drewN nq, H.out.le, H.out.most, H.out.len, H.out.head⟩
  have HVq := HV.out.drewN nq
  have hkq : Kept (fun k => k = g) w (w.drewN nq) := (Kept.refl _ w).drewN nq
  generalize w.drewN nq = w0 at *
  clear H HV
  obtain ⟨T, hT⟩ : ∃ T, T = i + 1 + (n - j) := ⟨_, rfl⟩
  rw [show (i : Int) + 1 + ((n - j : Nat) : Int) = ((T : Nat) : Int) by omega]
  obtain ⟨w1, w2, hr1, hr2, hL, hk⟩ := mid_facts Hq HN.out hij hj HVq hne T hT
  have hk2 := hkq.trans hk
  have hlen := HP.out
  rw [← hT] at hlen
  have b1 : T ≤ n := by omega
  have b2 : ¬ (cap < T) := by omega
  have b3 : i + 1 ≤ j := by omega
  have b4 : i ≤ T := by omega
  have b5 : i + 1 ≤ T := by omega
  have m1 : IntKind.i64.wrap ((i : Int) + 1) = (i : Int) + 1 := by rw [IntKind.wrap_i64]; omega
  have m2 : (0 : Int) ≤ (i : Int) + 1 := by omega
  have m3 : ((i : Int) + 1).toNat = i + 1 := by omega
  have m4 : (i : Int) + 1 ≤ (T : Int) := by omega
  have m5 : (i : Int) + 1 ≤ (j : Int) := by omega
  have ll := hL.len
  rcases Nat.lt_or_ge T n with hlt | hge
  · obtain ⟨w3, hr3, hB3, hk3⟩ := run_clr hL.blk 0 (T * 2) (n - T) (cap - T) (by omega) (by rw [ll]; omega)
    have hL2 := hL.cleared (by rw [hlen]) (by rw [zeros_len, ll]; omega) hB3
    have HA := Lib.hid (hL2.apd (n := n) hbg hlen (hk2.trans hk3))
    have c1 : ¬ (cap = T) := by omega
    clear hL2 hL hB3 hk3 hk2 hk hlen HP HN Hq HVq hkq hT ll
    go_wp2_with (with_reducible refine wpList_copy_run rfl _ _ _ _ rfl rfl rfl hr1 ?_)
    go_region_law (refine step_copy_run rfl _ _ 191 191 rfl (by simp [Act.eval, Act.put]) (by simp [Act.eval, Act.put]) hr2 ?_)
    all_goals
      go_wp2_with (with_reducible refine wpList_clear_run rfl _ _ rfl rfl hr3 ?_)
      go_ret
      exact ⟨_, rfl, HA.out⟩
  · obtain rfl : T = n := by omega
    have HA := Lib.hid (hL.apd (n := T) hbg hlen hk2)
    clear hL hk2 hk hlen HP HN Hq HVq hkq hT ll
    rcases Nat.lt_or_ge T cap with hc1 | hc1
    · have c1 : ¬ (cap = T) := by omega
      go_wp2_with (with_reducible refine wpList_copy_run rfl _ _ _ _ rfl rfl rfl hr1 ?_)
      go_region_law (refine step_copy_run rfl _ _ 191 191 rfl (by simp [Act.eval, Act.put]) (by simp [Act.eval, Act.put]) hr2 ?_)
      all_goals
        go_wp2_with (with_reducible refine wpList_clear_run rfl _ _ rfl rfl (run_clr0 _ _ _ _) ?_)
        go_ret
        exact ⟨_, rfl, HA.out⟩
    · obtain rfl : cap = T := by omega
      go_wp2_with (with_reducible refine wpList_copy_run rfl _ _ _ _ rfl rfl rfl hr1 ?_)
      go_region_law (refine step_copy_run rfl _ _ 191 191 rfl (by simp [Act.eval, Act.put]) (by simp [Act.eval, Act.put]) hr2 ?_)
      all_goals
        go_wp2_with (with_reducible refine wpList_clear_run rfl _ _ rfl rfl (run_clr0 _ _ _ _) ?_)
        go_ret
        exact ⟨_, rfl, HA.out⟩
theorem rep_any {w : World} {base : Nat} {v : Value} {l : List Rg} {vb i j : Nat} {p : Rg} (h : Row w base v l) (hij : i ≤ j) (hj : j ≤ l.length) (hv : Blk w vb (rc p) 196) (hne : v.ownBlock ≠ some vb) (hsm : l.length ≤ 900000) (hbase : base ≤ w.heap.size) :
    Calls Tryz.prog 134 #[v, .int .i64 (i : Int), .int .i64 (j : Int), .slice (some ⟨vb, 0, none⟩) 1 1] w (PutP w base v (l.take i ++ p :: l.drop j)) := by
  rcases Nat.lt_or_ge i j with h1 | h1
  · rcases h.form with ⟨rfl, rfl⟩ | ⟨g, cap, cur, rfl, h2, h3⟩
    · simp at hj; omega
    · rcases Nat.lt_or_ge j l.length with h4 | h4
      · exact rep_mid h3 h2 h1 h4 hv (fun e => hne (by rw [e]; rfl)) hsm
      · obtain rfl : j = l.length := by omega
        rw [List.drop_length]
        exact rep_end h3 h2 h1 hv
  · obtain rfl : i = j := by omega
    exact rep_ins h hj hv hne hsm hbase
end Go.Proofs.YtjjamooihddkgaaGreat.IvR

/- num.Min and num.Max of two; sort.Search. Conditions: each theorem's own. -/
namespace Go.Proofs.YtjjamooihddkgaaGreat.IvN
open Go.RowKit Hp
theorem min1 (a x m : Int) (b : Nat) (w : World) (hm : m = if x < a then x else a) (hc : w.cell? ⟨b, 0, none⟩ = some (.int .i64 x)) :
    Calls Tryz.prog 132 #[.int .i64 a, .slice (some ⟨b, 0, none⟩) 1 1] w fun e w' => e = .returned (.int .i64 m) ∧ w = w' := by
  have HM := Lib.hid hm
  clear hm
  go_enter Tryz.func132, Tryz.ntmps132
  go_wp2
  go_loop [5, 11] (fun v i => ∃ k : Nat, k ≤ 1 ∧ i = .int .i64 k ∧ v = .int .i64 (if k = 0 then a else m)) (fun _ i => 1 - (intOf i).toNat)
  case atStart => exact ⟨0, by omega, rfl, by simp⟩
  case round =>
    obtain ⟨k, hk, rfl, rfl⟩ := hrel
    rcases Nat.lt_or_ge k 1 with h | h
    · obtain rfl : k = 0 := by omega
      go_wp2
      all_goals
        go_round
        case rel => exact ⟨1, by omega, by go_num, by show _ = Value.int .i64 m; rw [HM.out]; first | rw [if_pos (by assumption)] | rw [if_neg (by omega)]⟩
        case measure => simp [intOf]
    · obtain rfl : k = 1 := by omega
      go_wp2
      go_ret
      exact ⟨rfl, rfl⟩
theorem max1 (a x m : Int) (b : Nat) (w : World) (hm : m = if a < x then x else a) (hc : w.cell? ⟨b, 0, none⟩ = some (.int .i64 x)) :
    Calls Tryz.prog 133 #[.int .i64 a, .slice (some ⟨b, 0, none⟩) 1 1] w fun e w' => e = .returned (.int .i64 m) ∧ w = w' := by
  have HM := Lib.hid hm
  clear hm
  go_enter Tryz.func133, Tryz.ntmps133
  go_wp2
  go_loop [5, 11] (fun v i => ∃ k : Nat, k ≤ 1 ∧ i = .int .i64 k ∧ v = .int .i64 (if k = 0 then a else m)) (fun _ i => 1 - (intOf i).toNat)
  case atStart => exact ⟨0, by omega, rfl, by simp⟩
  case round =>
    obtain ⟨k, hk, rfl, rfl⟩ := hrel
    rcases Nat.lt_or_ge k 1 with h | h
    · obtain rfl : k = 0 := by omega
      go_wp2
      all_goals
        go_round
        case rel => exact ⟨1, by omega, by go_num, by show _ = Value.int .i64 m; rw [HM.out]; first | rw [if_pos (by assumption)] | rw [if_neg (by omega)]⟩
        case measure => simp [intOf]
    · obtain rfl : k = 1 := by omega
      go_wp2
      go_ret
      exact ⟨rfl, rfl⟩
theorem min_if (a x : Int) : min a x = if x < a then x else a := by rw [Int.min_def]; split <;> split <;> omega
theorem max_if (a x : Int) : max a x = if a < x then x else a := by rw [Int.max_def]; split <;> split <;> omega
set_option maxHeartbeats 4000000 in
set_option maxRecDepth 1000000 in
/-- The first place at which it is true; a closure that may draw. -/
theorem search_any (g : Nat) (cb : Array Value) (n : Nat) (p : Nat → Bool) (w : World) (eg : ∀ args w, (callFunc g args).run Tryz.prog w = .ok (.enter g args) w) (hsz : n < 4611686018427387904)
    (hf : ∀ (m : Nat) (i : Nat), i < n → Calls Tryz.prog g (#[.int .i64 i] ++ cb) (w.drewN m) fun e w' => e = .returned (.bool (p i)) ∧ ∃ q, w' = w.drewN q)
    (c : Nat) (hc : c ≤ n) (h0 : ∀ t, t < c → p t = false) (h1 : ∀ t, c ≤ t → t < n → p t = true) :
    Calls Tryz.prog 153 #[.int .i64 n, .func (.func g) #[] cb] w fun e w' => e = .returned (.int .i64 (c : Nat)) ∧ ∃ q, w' = w.drewN q := by
  have HF := Lib.hid hf
  have H0 := Lib.hid h0
  have H1 := Lib.hid h1
  clear hf h0 h1
  go_enter Tryz.func153, Tryz.ntmps153
  go_wp2_with fail
  go_loopg [5, 6] n (fun kx s5 s6 wr => ∃ (lo hi q : Nat), s5 = .int .i64 lo ∧ s6 = .int .i64 hi ∧ lo ≤ c ∧ c ≤ hi ∧ hi ≤ n ∧ hi - lo ≤ kx ∧ wr = w.drewN q)
  case atStart => exact ⟨0, n, 0, rfl, rfl, Nat.zero_le _, hc, Nat.le_refl _, by omega, rfl⟩
  case round =>
    obtain ⟨lo, hi, q, rfl, rfl, hlo, hhi, hin, hg, rfl⟩ := hrel
    by_cases hlt : lo < hi
    · have hcl := HF.out q ((lo + hi) / 2) (by omega)
      rw [show (((lo + hi) / 2 : Nat) : Int) = ((lo : Int) + (hi : Int)) / 2 by omega] at hcl
      rcases Nat.lt_or_ge ((lo + hi) / 2) c with hp | hp
      · rw [H0.out _ hp] at hcl
        have HC := Lib.hid hcl
        clear hcl
        go_wp2_with (go_at_fn g; refine HC.out.mono ?_; rintro e w' ⟨rfl, nq, rfl⟩)
        go_roundg (hi - ((lo + hi) / 2 + 1))
        case measure => omega
        case rel => exact ⟨(lo + hi) / 2 + 1, hi, nq, by rw [show ((lo : Int) + (hi : Int)) / 2 + 1 = (((lo + hi) / 2 + 1 : Nat) : Int) by omega], rfl, by omega, hhi, hin, Nat.le_refl _, rfl⟩
      · rw [H1.out _ hp (by omega)] at hcl
        have HC := Lib.hid hcl
        clear hcl
        go_wp2_with (go_at_fn g; refine HC.out.mono ?_; rintro e w' ⟨rfl, nq, rfl⟩)
        go_roundg ((lo + hi) / 2 - lo)
        case measure => omega
        case rel => exact ⟨lo, (lo + hi) / 2, nq, rfl, by rw [show ((lo : Int) + (hi : Int)) / 2 = (((lo + hi) / 2 : Nat) : Int) by omega], hlo, hp, by omega, Nat.le_refl _, rfl⟩
    · obtain rfl : hi = lo := by omega
      obtain rfl : c = hi := by omega
      go_wp2_with fail
      go_ret
      exact ⟨rfl, q, rfl⟩
end Go.Proofs.YtjjamooihddkgaaGreat.IvN

/- The set of ranges: what it may be asked, which runs are touched. Conditions: each theorem's own. -/
namespace Go.Proofs.YtjjamooihddkgaaGreat.Iv
open Go.RowKit Hp IvM IvR IvN
attribute [local go_sem ↓] Go.wp_at_zero Go.wp_at_succ
structure SetV (w : World) (base b : Nat) (v : Value) (n : Int) (l : List Rg) : Prop where
  blk : Blk w b [.int .i64 n, v, .int .i64 (size l)] 193
  row : Row w base v l
  own : v.ownBlock ≠ some b
  low : base ≤ b
  good : IvM.Good n l
  top : 0 ≤ n ∧ n ≤ 1073741824
  few : l.length ≤ 900000
theorem SetV.kept {w w' : World} {F : Nat → Prop} {base b : Nat} {v : Value} {n : Int} {l : List Rg} (h : SetV w base b v n l) (k : Kept F w w') (hb : ¬ F b) (hv : ∀ g, v.ownBlock = some g → ¬ F g) : SetV w' base b v n l :=
  ⟨k.blk h.blk hb, h.row.kept k hv, h.own, h.low, h.good, h.top, h.few⟩
theorem SetV.old {w w' : World} {base b : Nat} {v : Value} {n : Int} {l : List Rg} (h : SetV w base b v n l) (k : Kept (fun _ => False) w w') : SetV w' base b v n l := h.kept k (fun f => f) (fun _ _ f => f)
theorem SetV.drewN {w : World} {base b : Nat} {v : Value} {n : Int} {l : List Rg} (h : SetV w base b v n l) (q : Nat) : SetV (w.drewN q) base b v n l := h.old ((Kept.refl _ w).drewN q)
theorem wider {w w' : World} (h : Kept (fun _ => False) w w') (F : Nat → Prop) : Kept F w w' := h.mono (fun _ _ f => f.elim)
def May (n f t : Int) : Prop := 0 ≤ f ∧ f ≤ t ∧ t ≤ n
instance (n f t : Int) : Decidable (May n f t) := by unfold May; infer_instance
theorem may_nil (f t : Int) (w : World) : Calls Tryz.prog 129 #[.pointer none, .int .i64 f, .int .i64 t] w fun e w' => e = .returned (.bool false) ∧ w = w' := by
  go_enter Tryz.func129, Tryz.ntmps129
  go_wp2_with fail
  go_ret
  exact ⟨rfl, rfl⟩
theorem may_yes {w : World} {base b : Nat} {v : Value} {n : Int} {l : List Rg} (h : SetV w base b v n l) {f t : Int} (hm : May n f t) :
    Calls Tryz.prog 129 #[.pointer (some ⟨b, 0, none⟩), .int .i64 f, .int .i64 t] w fun e w' => e = .returned (.bool true) ∧ w = w' := by
  have c0 := h.blk.cell (o := 0) rfl
  obtain ⟨h1, h2, h3⟩ := hm
  clear h
  go_enter Tryz.func129, Tryz.ntmps129
  go_wp2_with fail
  go_ret
  exact ⟨rfl, rfl⟩
theorem may_no {w : World} {base b : Nat} {v : Value} {n : Int} {l : List Rg} (h : SetV w base b v n l) {f t : Int} (hm : ¬ May n f t) :
    Calls Tryz.prog 129 #[.pointer (some ⟨b, 0, none⟩), .int .i64 f, .int .i64 t] w fun e w' => e = .returned (.bool false) ∧ w = w' := by
  have c0 := h.blk.cell (o := 0) rfl
  have hc : ¬ (0 ≤ f) ∨ (0 ≤ f ∧ ¬ f ≤ t) ∨ (0 ≤ f ∧ f ≤ t ∧ decide (t ≤ n) = false) := by rw [decide_eq_false_iff_not]; unfold May at hm; omega
  clear h hm
  rcases hc with h1 | ⟨h1, h2⟩ | ⟨h1, h2, h3⟩
  all_goals
    go_enter Tryz.func129, Tryz.ntmps129
    go_wp2_with fail
    go_ret
    exact ⟨rfl, rfl⟩
set_option maxHeartbeats 2000000 in
theorem clos1 {W : World} {b g cap bs bf i : Nat} {n x y s f : Int} {len : Nat} (hi : i < len) (cs : W.cell? ⟨bs, 0, none⟩ = some (.pointer (some ⟨b, 0, none⟩))) (cf : W.cell? ⟨bf, 0, none⟩ = some (.int .i64 f))
    (c1 : W.cell? ⟨b, 1, none⟩ = some (.slice (some ⟨g, 0, none⟩) len cap)) (ce : W.cell? ⟨g, i * 2 + 1, none⟩ = some (.int .i64 x)) :
    Calls Tryz.prog 154 (#[.int .i64 i] ++ #[.pointer (some ⟨bs, 0, none⟩), .pointer (some ⟨bf, 0, none⟩)]) W fun e w' => e = .returned (.bool (decide (f ≤ x))) ∧ ∃ q, w' = W.drewN q := by
  have hiz : (i : Int) < (len : Int) := by omega
  go_enter Tryz.func154, Tryz.ntmps154
  go_wp2_with fail
  go_quiet (fail)
  go_wp2_with fail
  go_ret
  exact ⟨rfl, nq, rfl⟩
set_option maxHeartbeats 2000000 in
theorem clos2 {W : World} {b g cap bs bf i : Nat} {n x y s f : Int} {len : Nat} (hi : i < len) (cs : W.cell? ⟨bs, 0, none⟩ = some (.pointer (some ⟨b, 0, none⟩))) (cf : W.cell? ⟨bf, 0, none⟩ = some (.int .i64 f))
    (c1 : W.cell? ⟨b, 1, none⟩ = some (.slice (some ⟨g, 0, none⟩) len cap)) (ce : W.cell? ⟨g, i * 2, none⟩ = some (.int .i64 x)) :
    Calls Tryz.prog 155 (#[.int .i64 i] ++ #[.pointer (some ⟨bs, 0, none⟩), .pointer (some ⟨bf, 0, none⟩)]) W fun e w' => e = .returned (.bool (decide (f < x))) ∧ ∃ q, w' = W.drewN q := by
  have hiz : (i : Int) < (len : Int) := by omega
  go_enter Tryz.func155, Tryz.ntmps155
  go_wp2_with fail
  go_quiet (fail)
  go_wp2_with fail
  go_ret
  exact ⟨rfl, nq, rfl⟩
end Go.Proofs.YtjjamooihddkgaaGreat.Iv

/- The set of ranges: which runs are touched; how many bytes are missing. Conditions: each theorem's own. -/
namespace Go.Proofs.YtjjamooihddkgaaGreat.Iv
open Go.RowKit Hp IvM IvR IvN
attribute [local go_sem ↓] Go.wp_at_zero Go.wp_at_succ
theorem getD_at {l : List Rg} {i : Nat} (h : i < l.length) : l.getD i (0, 0) = l[i] := by simp [List.getD, List.getElem?_eq_getElem h]
/-- What the runs read as, one by one. -/
theorem SetV.runs {w : World} {base b : Nat} {v : Value} {n : Int} {l : List Rg} (h : SetV w base b v n l) :
    ∃ s cap, v = .slice s l.length cap ∧ l.length ≤ cap ∧ cap ≤ 9223372036854775807 ∧ ((s = none ∧ l = [] ∧ cap = 0) ∨ ∃ g, s = some ⟨g, 0, none⟩ ∧ base ≤ g ∧ g < w.heap.size ∧ g ≠ b ∧
      ∀ i, i < l.length → w.cell? ⟨g, i * 2, none⟩ = some (.int .i64 (l.getD i (0, 0)).1) ∧ w.cell? ⟨g, i * 2 + 1, none⟩ = some (.int .i64 (l.getD i (0, 0)).2)) := by
  rcases h.row.form with ⟨rfl, rfl⟩ | ⟨g, cap, cur, rfl, h1, h2⟩
  · exact ⟨none, 0, rfl, Nat.le_refl _, by omega, Or.inl ⟨rfl, rfl, rfl⟩⟩
  · have hm := h2.most
    unfold maxLen at hm
    refine ⟨_, cap, rfl, h2.le, by omega, Or.inr ⟨g, rfl, h1, h2.blk.lt, fun e => h.own (by rw [e]; rfl), fun i hi => ?_⟩⟩
    rw [getD_at hi]
    exact h2.at hi
theorem cut_first {n f t : Int} {l A J B : List Rg} (hG : IvM.Good n l) (c : Cut f t l A J B) (hft : f ≤ t) :
    (∀ i, i < A.length → decide (f ≤ (l.getD i (0, 0)).2) = false) ∧ (∀ i, A.length ≤ i → i < l.length → decide (f ≤ (l.getD i (0, 0)).2) = true) := by
  have he := hG.each
  have hl := c.all
  constructor
  · intro i hi
    have h2 : i < l.length := by rw [hl]; simp; omega
    rw [getD_at h2, decide_eq_false_iff_not]
    have : l[i] = A[i] := by
      have : l[i]? = some A[i] := by rw [hl, List.getElem?_append_left hi, List.getElem?_eq_getElem hi]
      rw [List.getElem?_eq_getElem h2] at this
      exact Option.some.inj this
    have h3 := c.ahead A[i] (List.getElem_mem hi)
    rw [this]; omega
  · intro i hi h2
    rw [getD_at h2, decide_eq_true_eq]
    have hm : l[i] ∈ J ++ B := by
      have e : l[i]? = (J ++ B)[i - A.length]? := by rw [hl, List.getElem?_append_right hi]
      rw [List.getElem?_eq_getElem h2] at e
      exact List.mem_of_getElem? e.symm
    rcases List.mem_append.1 hm with hm | hm
    · exact (c.touch _ hm).1
    · have := c.behind _ hm
      have := he l[i] (List.getElem_mem h2)
      omega
theorem cut_behind {n f t : Int} {l A J B : List Rg} (hG : IvM.Good n l) (c : Cut f t l A J B) (hft : f ≤ t) :
    (∀ i, i < A.length + J.length → decide (t < (l.getD i (0, 0)).1) = false) ∧ (∀ i, A.length + J.length ≤ i → i < l.length → decide (t < (l.getD i (0, 0)).1) = true) := by
  have he := hG.each
  have hl := c.all
  rw [← List.append_assoc] at hl
  constructor
  · intro i hi
    have h2 : i < l.length := by rw [hl]; simp; omega
    rw [getD_at h2, decide_eq_false_iff_not]
    have hm : l[i] ∈ A ++ J := by
      have e : l[i]? = (A ++ J)[i]? := by rw [hl, List.getElem?_append_left (by simpa using hi)]
      rw [List.getElem?_eq_getElem h2] at e
      exact List.mem_of_getElem? e.symm
    rcases List.mem_append.1 hm with hm | hm
    · have := c.ahead _ hm
      have := he l[i] (List.getElem_mem h2)
      omega
    · have := (c.touch _ hm).2
      omega
  · intro i hi h2
    rw [getD_at h2, decide_eq_true_eq]
    have hm : l[i] ∈ B := by
      have e : l[i]? = B[i - (A ++ J).length]? := by rw [hl, List.getElem?_append_right (by simpa using hi)]
      rw [List.getElem?_eq_getElem h2] at e
      exact List.mem_of_getElem? e.symm
    exact c.behind _ hm
set_option maxHeartbeats 8000000 in
set_option maxRecDepth 100000 in
theorem touched_any {w : World} {base b : Nat} {v : Value} {n : Int} {l : List Rg} (h : SetV w base b v n l) {f t : Int} {A J B : List Rg} (c : Cut f t l A J B) (hft : f ≤ t) :
    Calls Tryz.prog 130 #[.pointer (some ⟨b, 0, none⟩), .int .i64 f, .int .i64 t] w fun e w' => e = .returned (.tuple #[.int .i64 (A.length : Nat), .int .i64 (A.length + J.length : Nat)]) ∧ Kept (fun _ => False) w w' := by
  obtain ⟨f0, f1⟩ := cut_first h.good c hft
  obtain ⟨g0, g1⟩ := cut_behind h.good c hft
  have hfew := h.few
  have hlen0 : l.length = A.length + (J.length + B.length) := by rw [c.all]; simp
  have hlen1 : A.length ≤ l.length := by omega
  have hlen2 : A.length + J.length ≤ l.length := by omega
  clear hlen0
  clear c
  obtain ⟨w3, hw3⟩ : ∃ w3, w3 = ((w.alloc (.cells #[.pointer (some ⟨b, 0, none⟩)] 154)).alloc (.cells #[.int .i64 f] 3)).alloc (.cells #[.int .i64 t] 3) := ⟨_, rfl⟩
  have hk3 : Kept (fun _ => False) w w3 := by rw [hw3]; exact (((Kept.refl _ w).alloc _).alloc _).alloc _
  have k0 : w3.cell? ⟨w.heap.size, 0, none⟩ = some (.pointer (some ⟨b, 0, none⟩)) := by
    rw [hw3]; exact (((Blk.new w [.pointer (some ⟨b, 0, none⟩)] _).old _).old _).cell rfl
  have k1 : w3.cell? ⟨w.heap.size + 1, 0, none⟩ = some (.int .i64 f) := by
    rw [hw3]
    have := ((Blk.new (w.alloc (.cells #[.pointer (some ⟨b, 0, none⟩)] 154)) [.int .i64 f] 3).old (.cells #[.int .i64 t] 3)).cell (o := 0) rfl
    simpa using this
  have k2 : w3.cell? ⟨w.heap.size + 1 + 1, 0, none⟩ = some (.int .i64 t) := by
    rw [hw3]
    have := (Blk.new ((w.alloc (.cells #[.pointer (some ⟨b, 0, none⟩)] 154)).alloc (.cells #[.int .i64 f] 3)) [.int .i64 t] 3).cell (o := 0) rfl
    simpa using this
  have h3 := h.old hk3
  have kv := h3.blk.cell (o := 1) rfl
  obtain ⟨s, cap, rfl, hc, hmx, hs⟩ := h3.runs
  have eg1 : ∀ args w, (callFunc 154 args).run Tryz.prog w = .ok (.enter 154 args) w := enters_of Tryz.func154 (by kernel_rfl) rfl
  have eg2 : ∀ args w, (callFunc 155 args).run Tryz.prog w = .ok (.enter 155 args) w := enters_of Tryz.func155 (by kernel_rfl) rfl
  have S1 := search_any 154 #[.pointer (some ⟨w.heap.size, 0, none⟩), .pointer (some ⟨w.heap.size + 1, 0, none⟩)] l.length (fun i => decide (f ≤ (l.getD i (0, 0)).2)) w3 eg1 (by omega)
    (fun m i hi => by
      rcases hs with ⟨_, rfl, _⟩ | ⟨g, rfl, _, _, _, hcell⟩
      · simp at hi
      · exact (clos1 (W := w3.drewN m) (n := 0) (y := 0) (s := 0) hi k0 k1 kv (hcell i hi).2).mono fun e w' ⟨e1, q, e2⟩ => ⟨e1, m + q, by rw [e2]; exact World.drewN_drewN _ _ _⟩) A.length (by omega) f0 f1
  have S2 := fun r => search_any 155 #[.pointer (some ⟨w.heap.size, 0, none⟩), .pointer (some ⟨w.heap.size + 1 + 1, 0, none⟩)] l.length (fun i => decide (t < (l.getD i (0, 0)).1)) (w3.drewN r) eg2 (by omega)
    (fun m i hi => by
      rcases hs with ⟨_, rfl, _⟩ | ⟨g, rfl, _, _, _, hcell⟩
      · simp at hi
      · exact (clos2 (W := (w3.drewN r).drewN m) (n := 0) (y := 0) (s := 0) hi k0 k2 kv (hcell i hi).1).mono fun e w' ⟨e1, q, e2⟩ => ⟨e1, m + q, by rw [e2]; exact World.drewN_drewN _ _ _⟩) (A.length + J.length) (by omega) g0 g1
  have W3 := Lib.hid hw3
  have HS1 := Lib.hid S1
  have HS2 := Lib.hid S2
  have KV := Lib.hid kv
  have K0 := Lib.hid k0
  clear f0 f1 g0 g1 hs h3 h hw3 k1 k2 eg1 eg2 S1 S2 kv k0
  go_enter Tryz.func130, Tryz.ntmps130
  go_upto_region 1 with fail
  rw [← W3.out]
  clear W3
  have k0 := K0.out
  have kv := KV.out
  clear K0 KV
  go_wp2_with fail
  with_reducible refine Calls.mono HS1.out ?_
  rintro e w' ⟨rfl, q, rfl⟩
  go_wp2_with fail
  with_reducible refine Calls.mono (HS2.out _) ?_
  rintro e w' ⟨rfl, r, rfl⟩
  go_wp2_with fail
  go_ret2
  exact ⟨rfl, hk3.drewN _⟩
end Go.Proofs.YtjjamooihddkgaaGreat.Iv

/- The set of ranges: how many bytes are missing in runs that are touched. Conditions: each theorem's own. -/
namespace Go.Proofs.YtjjamooihddkgaaGreat.Iv
open Go.RowKit Hp IvM IvR IvN
attribute [local go_sem ↓] Go.wp_at_zero Go.wp_at_succ
/-- A part of a row, to be read. -/
def Part (w : World) (s : Option Addr) (J : List Rg) : Prop :=
  J = [] ∨ ∃ g o, s = some ⟨g, o, none⟩ ∧ g < w.heap.size ∧ ∀ i, i < J.length → w.cell? ⟨g, o + i * 2, none⟩ = some (.int .i64 (J.getD i (0, 0)).1) ∧ w.cell? ⟨g, o + i * 2 + 1, none⟩ = some (.int .i64 (J.getD i (0, 0)).2)
theorem keptCell {F : Nat → Prop} {w w' : World} (h : Kept F w w') {k : Nat} (hk : k < w.heap.size) (hF : ¬ F k) (o : Nat) : w'.cell? ⟨k, o, none⟩ = w.cell? ⟨k, o, none⟩ := by
  simp [World.cell?, h.block k hk hF]
theorem lap_snoc (f t : Int) : ∀ (J : List Rg) (k : Nat) (h : k < J.length), lap f t (J.take (k + 1)) = lap f t (J.take k) + (min t (J.getD k (0, 0)).2 - max f (J.getD k (0, 0)).1)
  | p :: J, 0, h => by simp [lap]
  | p :: J, k + 1, h => by
    have := lap_snoc f t J k (by simpa using h)
    rw [List.take_succ_cons, List.take_succ_cons, lap, lap, this]
    simp only [List.getD_cons_succ]
    omega
theorem lap_bd {f t : Int} (h0 : 0 ≤ f) (h1 : f ≤ 1073741824) (h2 : 0 ≤ t) (h3 : t ≤ 1073741824) : ∀ (J : List Rg), (∀ p ∈ J, 0 ≤ p.1 ∧ p.1 < p.2 ∧ p.2 ≤ 1073741824) → -(1073741824 * (J.length : Int)) ≤ lap f t J ∧ lap f t J ≤ 1073741824 * (J.length : Int)
  | [], _ => by simp [lap]
  | p :: J, h => by
    have := lap_bd h0 h1 h2 h3 J (fun q hq => h q (by simp [hq]))
    have := h p (by simp)
    rw [lap, List.length_cons]
    omega
set_option maxHeartbeats 8000000 in
set_option maxRecDepth 100000 in
theorem missing_any {w : World} {s : Option Addr} {cap : Nat} {J : List Rg} (hP : Part w s J) {f t : Int} (hJ : ∀ p ∈ J, 0 ≤ p.1 ∧ p.1 < p.2 ∧ p.2 ≤ 1073741824) (h0 : 0 ≤ f) (h1 : f ≤ 1073741824) (h2 : 0 ≤ t) (h3 : t ≤ 1073741824) (hsm : J.length ≤ 900000) :
    Calls Tryz.prog 131 #[.slice s J.length cap, .int .i64 f, .int .i64 t] w fun e w' => e = .returned (.int .i64 ((t - f) - lap f t J)) ∧ Kept (fun _ => False) w w' := by
  have HJ := Lib.hid hJ
  have HP := Lib.hid hP
  clear hJ hP
  go_enter Tryz.func131, Tryz.ntmps131
  go_wp2_with fail
  go_loopg [7, 15] J.length (fun m s7 s15 wr => ∃ (i : Nat) (z : Int), Hid (m = J.length - i) ∧ i ≤ J.length ∧ s15 = .int .i64 ((i : Nat) : Int) ∧ s7 = .int .i64 z ∧ Hid (z = (t - f) - lap f t (J.take i)) ∧ Kept (fun _ => False) w wr)
  case atStart => exact ⟨0, t - f, rfl, by omega, rfl, rfl, Lib.hid (by simp [lap]), Kept.refl _ w⟩
  case round =>
    obtain ⟨i, z, hm, hi, rfl, rfl, hz, hk⟩ := hrel
    by_cases hlt : i < J.length
    · have hp := HJ.out (J.getD i (0, 0)) (by rw [getD_at hlt]; exact List.getElem_mem hlt)
      have hsn := lap_snoc f t J i hlt
      have hb := lap_bd h0 h1 h2 h3 (J.take i) (fun q hq => HJ.out q (List.mem_of_mem_take hq))
      rw [List.length_take] at hb
      obtain ⟨g, o, rfl, hg, hc⟩ := HP.out.resolve_left (fun e => by rw [e] at hlt; simp at hlt)
      have c0 := (keptCell hk hg (fun f => f) _).trans (hc i hlt).1
      have c1 := (keptCell hk hg (fun f => f) _).trans (hc i hlt).2
      generalize J.getD i (0, 0) = p at *
      obtain ⟨a, b⟩ := p
      dsimp only at c0 c1 hp hsn
      obtain ⟨mn, hmn⟩ : ∃ m, m = min t b := ⟨_, rfl⟩
      obtain ⟨mx, hmx⟩ : ∃ m, m = max f a := ⟨_, rfl⟩
      rw [← hmn, ← hmx] at hsn
      have hz' := hz.out
      have z0 : -1000000000000000000 ≤ z := by omega
      have z1 : z ≤ 1000000000000000000 := by omega
      have x0 : 0 ≤ mn := by omega
      have x1 : mn ≤ 1073741824 := by omega
      have y0 : 0 ≤ mx := by omega
      have y1 : mx ≤ 1073741824 := by omega
      have HZ : Hid (z - (mn - mx) = (t - f) - lap f t (J.take (i + 1))) := Lib.hid (by omega)
      have HMN := Lib.hid (hmn.trans (min_if t b))
      have HMX := Lib.hid (hmx.trans (max_if f a))
      have u1 : IntKind.i64.wrap (mn - mx) = mn - mx := by rw [IntKind.wrap_i64]; omega
      have u2 : IntKind.i64.wrap (z - (mn - mx)) = z - (mn - mx) := by rw [IntKind.wrap_i64]; omega
      clear hsn hb hmn hmx hz' hp hc
      go_upto_region 5 with fail
      have hB : Blk (wr.alloc (.cells #[.int .i64 a, .int .i64 b] 196)) wr.heap.size [.int .i64 a, .int .i64 b] 196 := Blk.new wr _ _
      have hk1 : Kept (fun _ => False) w (wr.alloc (.cells #[.int .i64 a, .int .i64 b] 196)) := hk.alloc _
      generalize wr.alloc (.cells #[.int .i64 a, .int .i64 b] 196) = w1 at *
      generalize wr.heap.size = vb at *
      clear hk c0 c1
      have d0 := hB.cell (o := 0) rfl
      have d1 := hB.cell (o := 1) rfl
      have e0 : Kept (fun _ => False) w1 w1 := Kept.refl _ w1
      have KS := Lib.hid fun (w' : World) (k : Kept (fun _ => False) w1 w') => And.intro ((k.blk hB (fun f => f)).cell (o := 0) rfl) ((k.blk hB (fun f => f)).cell (o := 1) rfl)
      have E0 := Lib.hid e0
      clear e0
      go_region_held3 (fun w' => w'.cell? ⟨vb, 0, none⟩ = some (.int .i64 a) ∧ w'.cell? ⟨vb, 1, none⟩ = some (.int .i64 b)) ((refine KS.out _ ?_; repeat (first | exact E0.out | (with_reducible refine Kept.drew ?_) | (with_reducible refine Kept.alloc ?_ _))))
        (first | (go_at_call 132; refine Calls.mono (min1 _ _ _ _ _ HMN.out ?_) ?_; (simp); rintro e w' ⟨rfl, rfl⟩) | (go_at_call 133; refine Calls.mono (max1 _ _ _ _ _ HMX.out ?_) ?_; (simp); rintro e w' ⟨rfl, rfl⟩))
      all_goals
        go_wp2_with fail
        go_roundg (J.length - (i + 1))
        case measure => have := hm.out; omega
        case rel => exact ⟨i + 1, z - (mn - mx), rfl, by omega, by simp, rfl, HZ, hk1.trans (by repeat (first | exact E0.out | (with_reducible refine Kept.drew ?_) | (with_reducible refine Kept.alloc ?_ _)))⟩
    · obtain rfl : i = J.length := by omega
      go_wp2_with fail
      go_ret
      have hz' := hz.out
      rw [List.take_length] at hz'
      rw [← hz']
      exact ⟨rfl, hk⟩
end Go.Proofs.YtjjamooihddkgaaGreat.Iv

