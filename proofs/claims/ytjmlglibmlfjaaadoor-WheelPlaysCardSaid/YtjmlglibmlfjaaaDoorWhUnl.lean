/- Buckets: unlink. Conditions: each theorem's own. -/
import Derived.Test.YtjmlglibmlfjaaaDoorWhCut
set_option linter.unusedVariables false
namespace Go.Proofs.YtjmlglibmlfjaaaDoor.Wh
open Go.RowKit Hp BitsM BitsC Tree
def Unl (b a : Nat) (xs ys : List Tm) (F : Nat → Prop) (w : World) (e : Ending) (w' : World) : Prop := e = .returned (.tuple #[]) ∧ Rep Y w' (.leaf b a (xs ++ ys)) ∧ Kept F w w'
theorem nodup_mid {xs ys : List Tm} {t : Tm} (h : ((xs ++ t :: ys).map (·.b)).Nodup) : ((xs ++ ys).map (·.b)).Nodup ∧ (∀ x ∈ xs, x.b ≠ t.b) ∧ (∀ y ∈ ys, y.b ≠ t.b) ∧ ∀ x ∈ xs, ∀ y ∈ ys, x.b ≠ y.b := by
  simp only [List.map_append, List.map_cons, List.nodup_append, List.nodup_cons] at h ⊢
  obtain ⟨h1, ⟨h2, h3⟩, h4⟩ := h
  refine ⟨⟨h1, h3, fun u hu v hv => h4 u hu v (by simp [hv])⟩, fun x hx => h4 _ (List.mem_map_of_mem hx) _ (by simp), fun y hy e => h2 (List.mem_map.2 ⟨y, hy, e⟩), fun x hx y hy => h4 _ (List.mem_map_of_mem hx) _ (by simp; exact Or.inr ⟨y, hy, rfl⟩)⟩
section
variable {w : World} {b a : Nat} {t : Tm}
set_option maxHeartbeats 400000 in
theorem unlink_1 (hT : Rep Y w (.leaf b a [t])) :
   Calls Tryd.prog 23 #[.pointer (some ⟨b, 0, none⟩), .pointer (some ⟨t.b, 0, none⟩)] w (Unl b a [] [] (Tr.leaf b a [t]).F w) := by
  obtain ⟨h1, h2, h3, h4⟩ := hT
  have bt : Blk w t.b [.int .i64 t.at_, .int .i64 t.id, t.v, .pointer none, .pointer none] Y.tt := h2.1
  have bb : Blk w b [.int .i64 (-1), .int .i64 a, .pointer (some ⟨t.b, 0, none⟩), .pointer (some ⟨t.b, 0, none⟩), .int .u16 0, .slice none 0 0] Y.tb := h1
  have hne := h3 t (by simp)
  have c3 := bt.cell (o := 3) rfl
  have c4 := bt.cell (o := 4) rfl
  have b2 := bb.cell (o := 2) rfl
  have b3 := bb.cell (o := 3) rfl
  have f2 := bb.frozen 2
  have f3 := bb.frozen 3
  go_enter Tryd.func23, Tryd.ntmps23
  go_wp2
  go_end0
  exact ⟨rfl, ⟨(bb.set 2 (.pointer none)).set 3 (.pointer none), trivial, by simp, by simp⟩, (((Kept.refl _ w).set (fun _ => Or.inl rfl) _ _).set (fun _ => Or.inl rfl) _ _)⟩
set_option maxHeartbeats 400000 in
theorem unlink_2 {r : Tm} {ys : List Tm} (hT : Rep Y w (.leaf b a (t :: r :: ys))) :
   Calls Tryd.prog 23 #[.pointer (some ⟨b, 0, none⟩), .pointer (some ⟨t.b, 0, none⟩)] w (Unl b a [] (r :: ys) (Tr.leaf b a (t :: r :: ys)).F w) := by
  obtain ⟨h1, h2, h3, h4⟩ := hT
  obtain ⟨n1, n2, n3, n4⟩ := nodup_mid (xs := []) h4
  have bt : Blk w t.b [.int .i64 t.at_, .int .i64 t.id, t.v, .pointer none, .pointer (some ⟨r.b, 0, none⟩)] Y.tt := h2.1
  have br : Blk w r.b [.int .i64 r.at_, .int .i64 r.id, r.v, .pointer (some ⟨t.b, 0, none⟩), hd ys (.pointer none)] Y.tt := h2.2.1
  have hs := h2.2.2
  have bb : Blk w b [.int .i64 (-1), .int .i64 a, .pointer (some ⟨t.b, 0, none⟩), lst (.pointer none) (r :: ys), .int .u16 0, .slice none 0 0] Y.tb := h1
  have hne := h3 t (by simp)
  have hnr := h3 r (by simp)
  have htr := n3 r (by simp)
  have c3 := bt.cell (o := 3) rfl
  have c4 := bt.cell (o := 4) rfl
  have b2 := bb.cell (o := 2) rfl
  have f2 := bb.frozen 2
  go_enter Tryd.func23, Tryd.ntmps23
  go_wp2
  have bb1 := bb.set 2 (.pointer (some ⟨r.b, 0, none⟩))
  have bt1 := bt.far (p := b) hne.symm 2 (.pointer (some ⟨r.b, 0, none⟩))
  have br1 := br.far (p := b) hnr.symm 2 (.pointer (some ⟨r.b, 0, none⟩))
  have K1 : Kept (Tr.leaf b a (t :: r :: ys)).F w (w.setCell ⟨b, 2, none⟩ (.pointer (some ⟨r.b, 0, none⟩))) := (Kept.refl _ w).set (fun _ => Or.inl rfl) _ _
  have hs1 : Seg Y (w.setCell ⟨b, 2, none⟩ (.pointer (some ⟨r.b, 0, none⟩))) (tptr r) ys (.pointer none) := Seg.heap (fun x hx => (((Kept.refl (fun k => k = b) w).set (fun _ => rfl) 2 _).block _ (hs.lt x hx) (h3 x (by simp [hx])))) hs
  clear c3 c4 b2 f2
  generalize w.setCell ⟨b, 2, none⟩ (.pointer (some ⟨r.b, 0, none⟩)) = w1 at *
  have c3 := bt1.cell (o := 3) rfl
  have c4 := bt1.cell (o := 4) rfl
  have d3 := br1.cell (o := 3) rfl
  have f3 := br1.frozen 3
  go_region
  go_end0
  have hr : ∀ x ∈ ys, x.b ≠ r.b := fun x hx e => by
    have := (List.nodup_cons.1 n1).1
    exact this (List.mem_map.2 ⟨x, hx, e⟩)
  refine ⟨rfl, ⟨?_, ⟨br1.set 3 (.pointer none), Seg.heap (fun x hx => ?_) hs1⟩, fun x hx => h3 x (by simp at hx ⊢; exact Or.inr hx), n1⟩, (K1.set (fun _ => Or.inr ⟨r, by simp, rfl⟩) _ _).drew⟩
  · exact bb1.far (p := r.b) hnr 3 _
  · exact ((Kept.refl (fun k => k = r.b) w1).set (fun _ => rfl) 3 _).block _ (hs1.lt x hx) (hr x hx)
set_option maxHeartbeats 400000 in
theorem unlink_3 {l : Tm} {xs : List Tm} (hT : Rep Y w (.leaf b a (xs ++ [l] ++ [t]))) :
   Calls Tryd.prog 23 #[.pointer (some ⟨b, 0, none⟩), .pointer (some ⟨t.b, 0, none⟩)] w (Unl b a (xs ++ [l]) [] (Tr.leaf b a (xs ++ [l] ++ [t])).F w) := by
  obtain ⟨h1, h2, h3, h4⟩ := hT
  obtain ⟨n1, n2, n3, n4⟩ := nodup_mid (xs := xs ++ [l]) (ys := []) h4
  obtain ⟨s1, s2⟩ := Seg.append.1 h2
  obtain ⟨s3, s4⟩ := Seg.append.1 s1
  have bt : Blk w t.b [.int .i64 t.at_, .int .i64 t.id, t.v, .pointer (some ⟨l.b, 0, none⟩), .pointer none] Y.tt := by have := s2.1; rw [lst_snoc] at this; exact this
  have bl : Blk w l.b [.int .i64 l.at_, .int .i64 l.id, l.v, lst (.pointer none) xs, .pointer (some ⟨t.b, 0, none⟩)] Y.tt := s4.1
  have bb : Blk w b [.int .i64 (-1), .int .i64 a, hd (xs ++ [l] ++ [t]) (.pointer none), .pointer (some ⟨t.b, 0, none⟩), .int .u16 0, .slice none 0 0] Y.tb := by have := h1; rw [lst_snoc] at this; exact this
  have hne := h3 t (by simp)
  have hnl := h3 l (by simp)
  have htl := n2 l (by simp)
  have c3 := bt.cell (o := 3) rfl
  have c4 := bt.cell (o := 4) rfl
  have d4 := bl.cell (o := 4) rfl
  have f4 := bl.frozen 4
  go_enter Tryd.func23, Tryd.ntmps23
  go_wp2_with fail
  go_region
  have bb1 : Blk (w.setCell ⟨l.b, 4, none⟩ (.pointer none)).drew b _ Y.tb := bb.far (p := l.b) hnl 4 (.pointer none)
  have bt1 : Blk (w.setCell ⟨l.b, 4, none⟩ (.pointer none)).drew t.b _ Y.tt := bt.far (p := l.b) htl 4 (.pointer none)
  have bl1 : Blk (w.setCell ⟨l.b, 4, none⟩ (.pointer none)).drew l.b _ Y.tt := bl.set 4 (.pointer none)
  have K1 : Kept (fun k => k = l.b) w (w.setCell ⟨l.b, 4, none⟩ (.pointer none)).drew := (Kept.one w _ _ _).drew
  clear c3 c4 d4 f4
  generalize (w.setCell ⟨l.b, 4, none⟩ (.pointer none)).drew = w1 at *
  have c3 := bt1.cell (o := 3) rfl
  have c4 := bt1.cell (o := 4) rfl
  have e3 := bb1.cell (o := 3) rfl
  have g3 := bb1.frozen 3
  go_wp2
  go_end0
  have hl : ∀ x ∈ xs, x.b ≠ l.b := fun x hx e => by
    rw [List.append_nil, List.map_append, List.nodup_append] at n1
    exact n1.2.2 x.b (List.mem_map_of_mem hx) l.b (by simp) e
  have K2 : Kept (fun k => k = b) w1 (w1.setCell ⟨b, 3, none⟩ (.pointer (some ⟨l.b, 0, none⟩))) := Kept.one w1 _ _ _
  refine ⟨rfl, ⟨?_, ?_, fun x hx => h3 x (by simp at hx ⊢; rcases hx with hx | hx <;> simp [hx]), n1⟩, (K1.mono (fun i _ e => Or.inr ⟨l, by simp, e⟩)).trans (K2.mono (fun i _ e => Or.inl e))⟩
  · rw [List.append_nil, lst_snoc]
    have e : hd (xs ++ [l] ++ [t]) (.pointer none) = hd (xs ++ [l]) (.pointer none) := by cases xs <;> rfl
    rw [← e]; exact bb1.set 3 _
  · rw [List.append_nil]
    refine Seg.setLast s1 (fun x hx => (K2.block _ ?_ (h3 x (by simp [hx]))).trans (K1.block _ (s3.lt x hx) (hl x hx))) (bl1.far (p := b) hnl.symm 3 _)
    exact Nat.lt_of_lt_of_le (s3.lt x hx) K1.size
set_option maxHeartbeats 400000 in
theorem unlink_4 {l r : Tm} {xs ys : List Tm} (hT : Rep Y w (.leaf b a (xs ++ [l] ++ t :: r :: ys))) :
   Calls Tryd.prog 23 #[.pointer (some ⟨b, 0, none⟩), .pointer (some ⟨t.b, 0, none⟩)] w (Unl b a (xs ++ [l]) (r :: ys) (Tr.leaf b a (xs ++ [l] ++ t :: r :: ys)).F w) := by
  obtain ⟨h1, h2, h3, h4⟩ := hT
  obtain ⟨n1, n2, n3, n4⟩ := nodup_mid (xs := xs ++ [l]) (ys := r :: ys) h4
  obtain ⟨s1, s2⟩ := Seg.append.1 h2
  obtain ⟨s3, s4⟩ := Seg.append.1 s1
  have bt : Blk w t.b [.int .i64 t.at_, .int .i64 t.id, t.v, .pointer (some ⟨l.b, 0, none⟩), .pointer (some ⟨r.b, 0, none⟩)] Y.tt := by have := s2.1; rw [lst_snoc] at this; exact this
  have bl : Blk w l.b [.int .i64 l.at_, .int .i64 l.id, l.v, lst (.pointer none) xs, .pointer (some ⟨t.b, 0, none⟩)] Y.tt := s4.1
  have br : Blk w r.b [.int .i64 r.at_, .int .i64 r.id, r.v, .pointer (some ⟨t.b, 0, none⟩), hd ys (.pointer none)] Y.tt := s2.2.1
  have hs : Seg Y w (tptr r) ys (.pointer none) := s2.2.2
  have hne := h3 t (by simp)
  have hnl := h3 l (by simp)
  have hnr := h3 r (by simp)
  have htl := n2 l (by simp)
  have htr := n3 r (by simp)
  have hlr := n4 l (by simp) r (by simp)
  have c3 := bt.cell (o := 3) rfl
  have c4 := bt.cell (o := 4) rfl
  have d4 := bl.cell (o := 4) rfl
  have f4 := bl.frozen 4
  go_enter Tryd.func23, Tryd.ntmps23
  go_wp2_with fail
  go_region
  have br1 : Blk (w.setCell ⟨l.b, 4, none⟩ (.pointer (some ⟨r.b, 0, none⟩))).drew r.b _ Y.tt := br.far (p := l.b) hlr 4 (.pointer (some ⟨r.b, 0, none⟩))
  have bt1 : Blk (w.setCell ⟨l.b, 4, none⟩ (.pointer (some ⟨r.b, 0, none⟩))).drew t.b _ Y.tt := bt.far (p := l.b) htl 4 (.pointer (some ⟨r.b, 0, none⟩))
  have bl1 : Blk (w.setCell ⟨l.b, 4, none⟩ (.pointer (some ⟨r.b, 0, none⟩))).drew l.b _ Y.tt := bl.set 4 (.pointer (some ⟨r.b, 0, none⟩))
  have K1 : Kept (fun k => k = l.b) w (w.setCell ⟨l.b, 4, none⟩ (.pointer (some ⟨r.b, 0, none⟩))).drew := (Kept.one w _ _ _).drew
  clear c3 c4 d4 f4
  generalize (w.setCell ⟨l.b, 4, none⟩ (.pointer (some ⟨r.b, 0, none⟩))).drew = w1 at *
  have c3 := bt1.cell (o := 3) rfl
  have c4 := bt1.cell (o := 4) rfl
  have e3 := br1.cell (o := 3) rfl
  have g3 := br1.frozen 3
  go_wp2_with fail
  go_region
  go_end0
  have K2 : Kept (fun k => k = r.b) w1 (w1.setCell ⟨r.b, 3, none⟩ (.pointer (some ⟨l.b, 0, none⟩))).drew := (Kept.one w1 _ _ _).drew
  have hl : ∀ x ∈ xs, x.b ≠ l.b := fun x hx e => by
    rw [List.map_append, List.nodup_append] at n1
    have := n1.1
    rw [List.map_append, List.nodup_append] at this
    exact this.2.2 x.b (List.mem_map_of_mem hx) l.b (by simp) e
  have hr : ∀ x ∈ ys, x.b ≠ r.b := fun x hx e => by
    rw [List.map_append, List.nodup_append] at n1
    exact (List.nodup_cons.1 n1.2.1).1 (List.mem_map.2 ⟨x, hx, e⟩)
  have hb1 : Blk w1 b _ Y.tb := K1.blk h1 hnl.symm
  refine ⟨rfl, ⟨?_, ?_, fun x hx => h3 x (by simp at hx ⊢; rcases hx with hx | hx | hx | hx <;> simp [hx]), n1⟩, (K1.mono (fun i _ e => Or.inr ⟨l, by simp, e⟩)).trans (K2.mono (fun i _ e => Or.inr ⟨r, by simp, e⟩))⟩
  · have := K2.blk hb1 hnr.symm
    have e : hd (xs ++ [l] ++ t :: r :: ys) (.pointer none) = hd (xs ++ [l] ++ r :: ys) (.pointer none) := by cases xs <;> rfl
    have e' : lst (.pointer none) (xs ++ [l] ++ t :: r :: ys) = lst (.pointer none) (xs ++ [l] ++ r :: ys) := by rw [lst_append (xs ++ [l]), lst_append (xs ++ [l])]; rfl
    rw [e, e'] at this
    exact this
  · refine Seg.append.2 ⟨?_, ?_, ?_⟩
    · refine Seg.setLast s1 (fun x hx => (K2.block _ ?_ (n4 x (by simp [hx]) r (by simp))).trans (K1.block _ (s3.lt x hx) (hl x hx))) (K2.blk bl1 hlr)
      exact Nat.lt_of_lt_of_le (s3.lt x hx) K1.size
    · rw [lst_snoc]; exact br1.set 3 _
    · refine Seg.heap (fun x hx => (K2.block _ ?_ (hr x hx)).trans (K1.block _ (hs.lt x hx) ?_)) hs
      · exact Nat.lt_of_lt_of_le (hs.lt x hx) K1.size
      · exact (n4 l (by simp) x (by simp [hx])).symm
/-- unlink, wherever it stands. -/
theorem unlink_any (xs ys : List Tm) (hT : Rep Y w (.leaf b a (xs ++ t :: ys))) :
   Calls Tryd.prog 23 #[.pointer (some ⟨b, 0, none⟩), .pointer (some ⟨t.b, 0, none⟩)] w (Unl b a xs ys (Tr.leaf b a (xs ++ t :: ys)).F w) := by
  by_cases hx : xs = []
  · subst hx
    cases ys with
    | nil => exact unlink_1 hT
    | cons r ys => exact unlink_2 hT
  · obtain ⟨xs', l, rfl⟩ := split_last hx
    cases ys with
    | nil => exact unlink_3 hT
    | cons r ys => exact unlink_4 hT
end
end Go.Proofs.YtjmlglibmlfjaaaDoor.Wh
