/- slices.Insert of one number without a sign. Conditions: each theorem's own. -/
import Derived.Test.YtaihjnonlnbhhaaIdRow
import Derived.Lib.Overlaps
set_option linter.unusedVariables false
namespace Go.Proofs.Ytaihjnonlnbhhaa.Idw
open Go.RowKit Hp IdM Ro
attribute [local go_sem ↓] Go.wp_at_zero Go.wp_at_succ
/-- One more, in its place. -/
def PutP (w : World) (v : Value) (L : List Int) (e : Ending) (w' : World) : Prop := ∃ v', e = .returned v' ∧ Apd uT w v L v' w'
theorem src_one {w : World} {vb : Nat} {p : Int} (h : Blk w vb [.int .u64 p] 30) : Rw.Src uT w (.slice (some ⟨vb, 0, none⟩) 1 1) [p] :=
  Or.inr ⟨⟨vb, 0, none⟩, 1, rfl, fun j u hj => by rw [Go.WideShapes.add_plain, Nat.zero_add]; exact h.cell (by simpa [Rw.flat] using hj)⟩
set_option maxHeartbeats 4000000 in
set_option maxRecDepth 100000 in
theorem ins_end {w : World} {v : Value} {l : List Int} {vb : Nat} {p : Int} (h : Row uT w v l) (hv : Blk w vb [.int .u64 p] 30) (hsm : l.length ≤ 900000) :
    Calls Try.prog 38 #[v, .int .i64 (l.length : Int), .slice (some ⟨vb, 0, none⟩) 1 1] w (PutP w v (l ++ [p])) := by
  unfold PutP
  have hS := src_one hv
  have HR := Lib.hid h
  clear hv
  rcases h with ⟨rfl, rfl⟩ | ⟨g, o, cap, cur, rfl, h2⟩
  · go_enter Try.func38, Try.ntmps38
    go_wp2_with (at_builtin; refine wpList_app uT rfl _ _ rfl (v := .slice none 0 0) rfl HR.out rfl hS (by simp) ?_; intro v' w' hA)
    go_ret
    exact ⟨_, rfl, hA⟩
  · have hc := h2.le
    have hm := h2.most
    unfold maxLen at hm
    clear h2
    rcases Nat.lt_or_ge l.length cap with hlt | hge
    · have hne : ¬ (cap = l.length) := by omega
      go_enter Try.func38, Try.ntmps38
      go_wp2_with (at_builtin; refine wpList_app uT rfl _ _ rfl (v := .slice (some ⟨g, o, none⟩) l.length cap) rfl HR.out rfl hS (by simp; omega) ?_; intro v' w' hA)
      go_ret
      exact ⟨_, rfl, hA⟩
    · obtain rfl : cap = l.length := by omega
      go_enter Try.func38, Try.ntmps38
      go_wp2_with (at_builtin; refine wpList_app uT rfl _ _ rfl (v := .slice (some ⟨g, o, none⟩) l.length l.length) rfl HR.out rfl hS (by simp; omega) ?_; intro v' w' hA)
      go_ret
      exact ⟨_, rfl, hA⟩
theorem run_over {w : World} {vb g : Nat} {V cur : List Value} (hv : Blk w vb V 30) (hg : Blk w g cur 30) (hne : vb ≠ g) (h0 : 0 < cur.length) (la ca lb cb o : Nat) :
    (callFunc 55 #[.slice (some ⟨vb, 0, none⟩) la ca, .slice (some ⟨g, o, none⟩) lb cb]).run Try.prog w = .ok (.value (.bool false)) w := by
  have hz : ∀ w, (Go.sizeOf 30).run Try.prog w = .ok 1 w := fun w => by kernel_rfl
  have s1 : w.shape? vb = some (30, V.length) := by unfold Blk at hv; simp [World.shape?, hv]
  have s2 : w.shape? g = some (30, cur.length) := by unfold Blk at hg; simp [World.shape?, hg]
  rw [run_callFunc_extern Try.func55 (by kernel_rfl) (by kernel_rfl) (by kernel_rfl) (e := Extern.SlicesOverlaps.overlaps #[23, 23] #[4]) (by kernel_rfl),
    Lib.run_overlaps_apart w 23 4 30 Try.underlying23 1 hz ⟨vb, 0, none⟩ ⟨g, o, none⟩ la ca lb cb hne _ _ _ _ s1 s2 (by omega) (hv.frozen 0) (hv.frozen _)]
  rfl
set_option maxHeartbeats 8000000 in
set_option maxRecDepth 100000 in
theorem ins_grow {w : World} {g o cap i : Nat} {cur : List Value} {l : List Int} {vb : Nat} {p : Int} (h : Lies uT w g o cap cur l) (hi : i < l.length) (hg : cap < l.length + 1) (hv : Blk w vb [.int .u64 p] 30) (hsm : l.length ≤ 900000) :
    Calls Try.prog 38 #[.slice (some ⟨g, o, none⟩) l.length cap, .int .i64 (i : Int), .slice (some ⟨vb, 0, none⟩) 1 1] w (PutP w (.slice (some ⟨g, o, none⟩) l.length cap) (l.take i ++ p :: l.drop i)) := by
  unfold PutP
  have hc := h.le
  have H := Lib.hid h
  have HV := Lib.hid hv
  obtain ⟨n, hn⟩ : ∃ n, l.length = n := ⟨_, rfl⟩
  have HN := Lib.hid hn
  clear h hv
  rw [hn] at hi hg hsm hc ⊢
  obtain rfl : cap = n := by omega
  have hG : g ≠ w.heap.size := by have := H.out.blk.lt; omega
  have hVG : vb ≠ w.heap.size := by have := HV.out.lt; omega
  obtain ⟨c', r, hr1, hc', hM⟩ := run_zeros H.out 3 23 Try.underlying3 i (cap + 1 - i) (by omega) (by omega) (by omega) (by decide)
  rw [show i + (cap + 1 - i) = cap + 1 by omega, show ((cap + 1 - i : Nat) : Int) = (cap : Int) + 1 - (i : Int) by omega] at hr1
  have hB1 : Blk (w.drew.alloc (.cells (Rw.flat uT (l.take i) ++ (zeros uT (cap + 1 - i) ++ zeros uT r)).toArray 30)) w.heap.size (Rw.flat uT (l.take i) ++ (zeros uT (cap + 1 - i) ++ zeros uT r)) 30 := Blk.new w.drew _ _
  have hk1 : Kept (fun _ => False) w (w.drew.alloc (.cells (Rw.flat uT (l.take i) ++ (zeros uT (cap + 1 - i) ++ zeros uT r)).toArray 30)) := (Kept.refl _ w).drew.alloc _
  have hwG : w.heap.size < (w.drew.alloc (.cells (Rw.flat uT (l.take i) ++ (zeros uT (cap + 1 - i) ++ zeros uT r)).toArray 30)).heap.size := by simp
  obtain ⟨cur0, hc0⟩ : ∃ c, c = Rw.flat uT (l.take i) ++ (zeros uT (cap + 1 - i) ++ zeros uT r) := ⟨_, rfl⟩
  have l0 : cur0.length = c' := by rw [hc0, List.length_append, List.length_append, Rw.flat_len, zeros_len, zeros_len, List.length_take]; simp only [Nat.mul_one]; omega
  rw [← hc0] at hr1 hB1 hk1 hwG
  generalize w.drew.alloc (.cells cur0.toArray 30) = w1 at *
  obtain ⟨G, eG⟩ : ∃ G, w.heap.size = G := ⟨_, rfl⟩
  rw [eG] at hr1 hB1 hwG hG hVG
  have hV1 := hk1.blk HV.out (fun h => h)
  have hS1 := H.out.kept hk1 (fun h => h)
  obtain ⟨w2, hr2, hB2, hk2⟩ := run_cp uT hB1 3 i (cap + 1 - i) (c' - i) ⟨vb, 0, none⟩ 1 1 1 [.int .u64 p] (Nat.min_eq_left (show 1 ≤ cap + 1 - i by omega)).symm rfl
    (fun j u hj => by rw [Go.WideShapes.add_plain, Nat.zero_add]; exact hV1.cell hj) (by show i + 1 ≤ _; omega) (by intro u hu; simp at hu; subst hu; rfl)
  have hS2 := hS1.kept hk2 (fun h => hG h)
  have hdl : (Rw.flat uT (l.drop i)).length = cap - i := by rw [Rw.flat_len, List.length_drop, HN.out, Nat.mul_one]
  have l1 : (splice cur0 i [Value.int .u64 p]).length = c' := by rw [length_splice _ _ _ (by show i + 1 ≤ _; omega), l0]
  have hpart : ∀ j u, (Rw.flat uT (l.drop i))[j]? = some u → w2.drew.cell? ((⟨g, o + i, none⟩ : Addr).add j) = some u := by
    have := hS2.drew.part i (cap - i) (by rw [HN.out]; omega)
    rw [List.take_of_length_le (by rw [List.length_drop, HN.out]; omega), Nat.mul_one] at this
    exact this
  obtain ⟨w3, hr3, hB3, hk3⟩ := run_cp uT hB2.drew 3 (i + 1) (cap + 1 - (i + 1)) (c' - (i + 1)) ⟨g, o + i, none⟩ (cap - i) (cap - i) (cap - i) (Rw.flat uT (l.drop i)) (Nat.min_eq_left (show cap - i ≤ cap + 1 - (i + 1) by omega)).symm (by rw [hdl, Nat.mul_one])
    hpart (by rw [l1, hdl]; omega) (Rw.flat_one uT)
  have hL := mid_grow (t := uT) (l := l) (i := i) (p := p) (w := w3) (g := G) (cur1 := splice cur0 i [.int .u64 p]) (cur2 := splice (splice cur0 i [.int .u64 p]) (i + 1) (Rw.flat uT (l.drop i))) (m := cap + 1 - i) (r := r) (by rw [HN.out]; exact hi) (by rw [HN.out]) hc0 hc' hM (by show _ = splice cur0 (i * 1) _; rw [Nat.mul_one]) (by show _ = splice _ ((i + 1) * 1) _; rw [Nat.mul_one]) hB3
  have hkk : Kept (fun k => k = g ∨ k = G) w w3 := (((hk1.mono (fun _ _ f => f.elim)).trans (hk2.mono (fun k _ e => Or.inr e))).drew).trans (hk3.mono (fun k _ e => Or.inr e))
  have hkr : Kept (fun k => (Value.slice (some ⟨g, o, none⟩) cap cap).ownBlock = some k) w w3 := by
    refine ⟨hkk.os, hkk.tape, hkk.output, hkk.size, fun k hk hn => hkk.block k hk ?_⟩
    rintro (e | e)
    · exact hn (by rw [e]; rfl)
    · omega
  have hlen : (l.take i ++ p :: l.drop i).length = cap + 1 := by rw [List.length_append, List.length_cons, List.length_take, List.length_drop, HN.out]; omega
  have hrow := hL.row
  rw [hlen] at hrow
  have HA : Hid (Apd uT w (.slice (some ⟨g, o, none⟩) cap cap) (l.take i ++ p :: l.drop i) (.slice (some ⟨G, 0, none⟩) (cap + 1) c') w3) := ⟨hrow, hkr, fun q hq => by cases hq; right; show w.heap.size ≤ G; omega⟩
  have n1 : ¬ (c' = i) := by omega
  have n2 : ¬ (c' = i + 1) := by omega
  have n3 : ¬ (cap = i) := by omega
  have n4 : i ≤ cap + 1 := by omega
  have n5 : cap ≤ 900000 := hsm
  have n6 : cap + 1 ≤ c' := by omega
  clear hrow hkr hkk hL hB3 hk3 hpart hS2 hS1 hV1 hB2 hk2 hk1 hB1 hwG eG hc0 l0 l1 hdl hc' hM hn hG hVG hlen HN H HV
  go_enter Try.func38, Try.ntmps38
  go_upto_region 9 with fail
  go_wp2_with (first | (at_builtin; refine Lib.wpList_append_run _ rfl _ _ _ _ rfl _ _ rfl rfl _ _ hr1 ?_) | (with_reducible refine wpList_copy_run rfl _ _ _ _ rfl rfl rfl hr2 ?_))
  have m1 : IntKind.i64.wrap ((i : Int) + 1) = (i : Int) + 1 := by rw [IntKind.wrap_i64]; omega
  have m2 : (0 : Int) ≤ (i : Int) + 1 := by omega
  have m3 : ((i : Int) + 1).toNat = i + 1 := by omega
  have m4 : (i : Int) ≤ (cap : Int) := by omega
  go_region_law (refine step_copy_run rfl _ _ 23 23 rfl (by simp [Act.eval, Act.put]) (by simp [Act.eval, Act.put]) hr3 ?_)
  all_goals
    go_wp2_with fail
    go_ret
    exact ⟨_, rfl, HA.out⟩
set_option maxHeartbeats 8000000 in
set_option maxRecDepth 100000 in
theorem ins_room {w : World} {g o cap i : Nat} {cur : List Value} {l : List Int} {vb : Nat} {p : Int} (h : Lies uT w g o cap cur l) (hi : i < l.length) (hg : l.length + 1 ≤ cap) (hv : Blk w vb [.int .u64 p] 30) (hne : vb ≠ g) (hsm : l.length ≤ 900000) :
    Calls Try.prog 38 #[.slice (some ⟨g, o, none⟩) l.length cap, .int .i64 (i : Int), .slice (some ⟨vb, 0, none⟩) 1 1] w (PutP w (.slice (some ⟨g, o, none⟩) l.length cap) (l.take i ++ p :: l.drop i)) := by
  unfold PutP
  have H := Lib.hid h
  have HV := Lib.hid hv
  have hmost := h.most
  unfold maxLen at hmost
  have hfit := h.fit
  rw [Nat.mul_one] at hfit
  have hov := run_over hv h.blk hne (by omega)
  obtain ⟨n, hn⟩ : ∃ n, l.length = n := ⟨_, rfl⟩
  have HN := Lib.hid hn
  clear h hv
  rw [hn] at hi hg hsm ⊢
  clear hn
  have hdl : (Rw.flat uT (l.drop i)).length = n - i := by rw [Rw.flat_len, List.length_drop, HN.out, Nat.mul_one]
  have hpart : ∀ j u, (Rw.flat uT (l.drop i))[j]? = some u → w.drew.cell? ((⟨g, o + i, none⟩ : Addr).add j) = some u := by
    have := H.out.drew.part i (n - i) (by rw [HN.out]; omega)
    rw [List.take_of_length_le (by rw [List.length_drop, HN.out]; omega), Nat.mul_one] at this
    exact this
  obtain ⟨w1, hr1, hB1, hk1⟩ := run_cp uT H.out.drew.blk 3 (o + (i + 1)) (n + 1 - (i + 1)) (cap - (i + 1)) ⟨g, o + i, none⟩ (n + 1 - i) (cap - i) (n - i) (Rw.flat uT (l.drop i)) ((by rw [Nat.min_def]; split <;> omega) : n - i = min (n + 1 - i) (n + 1 - (i + 1))) (by rw [hdl, Nat.mul_one])
    hpart (by rw [hdl]; omega) (Rw.flat_one uT)
  have hV1 := hk1.blk HV.out.drew hne
  have l1 : (splice cur (o + (i + 1)) (Rw.flat uT (l.drop i))).length = cur.length := length_splice _ _ _ (by omega)
  obtain ⟨w2, hr2, hB2, hk2⟩ := run_cp uT hB1 3 (o + i) (n + 1 - i) (cap - i) ⟨vb, 0, none⟩ 1 1 1 [.int .u64 p] (Nat.min_eq_left (show 1 ≤ n + 1 - i by omega)).symm rfl
    (fun j u hj => by rw [Go.WideShapes.add_plain, Nat.zero_add]; exact hV1.cell hj) (by show o + i + 1 ≤ _; omega) (by intro u hu; simp at hu; subst hu; rfl)
  have hL := mid_room (w2 := w2) (p := p) (i := i) (cur1 := splice cur (o + (i + 1)) (Rw.flat uT (l.drop i))) (cur2 := splice (splice cur (o + (i + 1)) (Rw.flat uT (l.drop i))) (o + i) [.int .u64 p]) H.out (by rw [HN.out]; exact hi) (by rw [HN.out]; exact hg) (by show _ = splice cur (o + (i + 1) * 1) _; rw [Nat.mul_one]) (by show _ = splice _ (o + i * 1) _; rw [Nat.mul_one]) hB2
  have hkr : Kept (fun k => (Value.slice (some ⟨g, o, none⟩) n cap).ownBlock = some k) w w2 :=
    ((Kept.refl (fun k => k = g) w).drew.trans (hk1.trans hk2)).mono (fun k _ e => by rw [e]; rfl)
  have hlen : (l.take i ++ p :: l.drop i).length = n + 1 := by rw [List.length_append, List.length_cons, List.length_take, List.length_drop, HN.out]; omega
  have hrow := hL.row
  rw [hlen] at hrow
  have HA : Hid (Apd uT w (.slice (some ⟨g, o, none⟩) n cap) (l.take i ++ p :: l.drop i) (.slice (some ⟨g, o, none⟩) (n + 1) cap) w2) := ⟨hrow, hkr, fun q hq => by cases hq; left; rfl⟩
  have n1 : ¬ (cap = i) := by omega
  have n2 : ¬ (cap = i + 1) := by omega
  have n3 : ¬ (i = n) := by omega
  have m1 : IntKind.i64.wrap ((i : Int) + 1) = (i : Int) + 1 := by rw [IntKind.wrap_i64]; omega
  have m2 : (0 : Int) ≤ (i : Int) + 1 := by omega
  have m3 : ((i : Int) + 1).toNat = i + 1 := by omega
  have m4 : (i : Int) ≤ (n : Int) := by omega
  have m5 : (i : Int) ≤ (n : Int) + 1 := by omega
  have m6 : i ≤ n + 1 := by omega
  clear hrow hkr hL hB2 hk2 hV1 hk1 hB1 hfit l1 hdl hlen HN H HV hpart
  have n4 : ¬ (cap < n + 1) := by omega
  have hn2 : n ≤ cap := by omega
  go_enter Try.func38, Try.ntmps38
  go_wp2_with (simp only [hov])
  clear hov
  go_region_law (refine step_copy_run rfl _ _ 23 23 rfl (by simp [Act.eval, Act.put]) (by simp [Act.eval, Act.put]) hr1 ?_)
  all_goals
    go_wp2_with (with_reducible refine wpList_copy_run rfl _ _ _ _ rfl rfl rfl hr2 ?_)
    go_ret
    exact ⟨_, rfl, HA.out⟩
theorem ins_any {w : World} {v : Value} {l : List Int} {vb i : Nat} {p : Int} (h : Row uT w v l) (hi : i ≤ l.length) (hv : Blk w vb [.int .u64 p] 30) (hne : v.ownBlock ≠ some vb) (hsm : l.length ≤ 900000) :
    Calls Try.prog 38 #[v, .int .i64 (i : Int), .slice (some ⟨vb, 0, none⟩) 1 1] w (PutP w v (l.take i ++ p :: l.drop i)) := by
  by_cases he : i = l.length
  · subst he
    have := ins_end h hv hsm
    rw [List.take_length, List.drop_length]
    exact this
  · rcases h with ⟨rfl, rfl⟩ | ⟨g, o, cap, cur, rfl, h2⟩
    · simp at hi; exact absurd (by simpa using hi) he
    · have hne' : vb ≠ g := fun e => hne (by rw [e]; rfl)
      rcases Nat.lt_or_ge cap (l.length + 1) with hg | hg
      · exact ins_grow h2 (by omega) hg hv hsm
      · exact ins_room h2 (by omega) hg hv hne' hsm
end Go.Proofs.Ytaihjnonlnbhhaa.Idw
