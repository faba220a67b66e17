/- The set of ranges: which runs are touched; how many bytes are missing. Conditions: each theorem's own. -/
import Derived.Test.YtfkcplapmkpkbaaIvSet
import Derived.Deep.RegionHeld3
set_option linter.unusedVariables false
namespace Go.Proofs.Ytfkcplapmkpkbaa.Iv
open Go.RowKit Hp IvM IvR IvN
attribute [local go_sem ↓] Go.wp_at_zero Go.wp_at_succ
theorem getD_at {l : List Rg} {i : Nat} (h : i < l.length) : l.getD i (0, 0) = l[i] := by simp [List.getD, List.getElem?_eq_getElem h]
/-- What the runs read as, one by one. -/
theorem SetV.runs {w : World} {base b : Nat} {v : Value} {n : Int} {l : List Rg} (h : SetV w base b v n l) :
    ∃ s cap, v = .slice s l.length cap ∧ l.length ≤ cap ∧ cap ≤ 9223372036854775807 ∧ ((s = none ∧ l = [] ∧ cap = 0) ∨ ∃ g, s = some ⟨g, 0, none⟩ ∧ base ≤ g ∧ g < w.heap.size ∧ g ≠ b ∧
      ∀ i, i < l.length → w.cell? ⟨g, i * 2, none⟩ = some (.int .i64 (l.getD i (0, 0)).1) ∧ w.cell? ⟨g, i * 2 + 1, none⟩ = some (.int .i64 (l.getD i (0, 0)).2)) := by
  rcases h.row.form with ⟨rfl, rfl⟩ | ⟨g, cap, cur, rfl, h1, h2⟩
  · exact ⟨none, 0, rfl, Nat.le_refl _, by omega, Or.inl ⟨rfl, rfl, rfl⟩⟩
  · have hm := h2.most
    unfold maxLen at hm
    refine ⟨_, cap, rfl, h2.le, by omega, Or.inr ⟨g, rfl, h1, h2.blk.lt, fun e => h.own (by rw [e]; rfl), fun i hi => ?_⟩⟩
    rw [getD_at hi]
    exact h2.at hi
theorem cut_first {n f t : Int} {l A J B : List Rg} (hG : IvM.Good n l) (c : Cut f t l A J B) (hft : f ≤ t) :
    (∀ i, i < A.length → decide (f ≤ (l.getD i (0, 0)).2) = false) ∧ (∀ i, A.length ≤ i → i < l.length → decide (f ≤ (l.getD i (0, 0)).2) = true) := by
  have he := hG.each
  have hl := c.all
  constructor
  · intro i hi
    have h2 : i < l.length := by rw [hl]; simp; omega
    rw [getD_at h2, decide_eq_false_iff_not]
    have : l[i] = A[i] := by
      have : l[i]? = some A[i] := by rw [hl, List.getElem?_append_left hi, List.getElem?_eq_getElem hi]
      rw [List.getElem?_eq_getElem h2] at this
      exact Option.some.inj this
    have h3 := c.ahead A[i] (List.getElem_mem hi)
    rw [this]; omega
  · intro i hi h2
    rw [getD_at h2, decide_eq_true_eq]
    have hm : l[i] ∈ J ++ B := by
      have e : l[i]? = (J ++ B)[i - A.length]? := by rw [hl, List.getElem?_append_right hi]
      rw [List.getElem?_eq_getElem h2] at e
      exact List.mem_of_getElem? e.symm
    rcases List.mem_append.1 hm with hm | hm
    · exact (c.touch _ hm).1
    · have := c.behind _ hm
      have := he l[i] (List.getElem_mem h2)
      omega
theorem cut_behind {n f t : Int} {l A J B : List Rg} (hG : IvM.Good n l) (c : Cut f t l A J B) (hft : f ≤ t) :
    (∀ i, i < A.length + J.length → decide (t < (l.getD i (0, 0)).1) = false) ∧ (∀ i, A.length + J.length ≤ i → i < l.length → decide (t < (l.getD i (0, 0)).1) = true) := by
  have he := hG.each
  have hl := c.all
  rw [← List.append_assoc] at hl
  constructor
  · intro i hi
    have h2 : i < l.length := by rw [hl]; simp; omega
    rw [getD_at h2, decide_eq_false_iff_not]
    have hm : l[i] ∈ A ++ J := by
      have e : l[i]? = (A ++ J)[i]? := by rw [hl, List.getElem?_append_left (by simpa using hi)]
      rw [List.getElem?_eq_getElem h2] at e
      exact List.mem_of_getElem? e.symm
    rcases List.mem_append.1 hm with hm | hm
    · have := c.ahead _ hm
      have := he l[i] (List.getElem_mem h2)
      omega
    · have := (c.touch _ hm).2
      omega
  · intro i hi h2
    rw [getD_at h2, decide_eq_true_eq]
    have hm : l[i] ∈ B := by
      have e : l[i]? = B[i - (A ++ J).length]? := by rw [hl, List.getElem?_append_right (by simpa using hi)]
      rw [List.getElem?_eq_getElem h2] at e
      exact List.mem_of_getElem? e.symm
    exact c.behind _ hm
set_option maxHeartbeats 8000000 in
set_option maxRecDepth 100000 in
theorem touched_any {w : World} {base b : Nat} {v : Value} {n : Int} {l : List Rg} (h : SetV w base b v n l) {f t : Int} {A J B : List Rg} (c : Cut f t l A J B) (hft : f ≤ t) :
    Calls Try.prog 27 #[.pointer (some ⟨b, 0, none⟩), .int .i64 f, .int .i64 t] w fun e w' => e = .returned (.tuple #[.int .i64 (A.length : Nat), .int .i64 (A.length + J.length : Nat)]) ∧ Kept (fun _ => False) w w' := by
  obtain ⟨f0, f1⟩ := cut_first h.good c hft
  obtain ⟨g0, g1⟩ := cut_behind h.good c hft
  have hfew := h.few
  have hlen0 : l.length = A.length + (J.length + B.length) := by rw [c.all]; simp
  have hlen1 : A.length ≤ l.length := by omega
  have hlen2 : A.length + J.length ≤ l.length := by omega
  clear hlen0
  clear c
  obtain ⟨w3, hw3⟩ : ∃ w3, w3 = ((w.alloc (.cells #[.pointer (some ⟨b, 0, none⟩)] 41)).alloc (.cells #[.int .i64 f] 3)).alloc (.cells #[.int .i64 t] 3) := ⟨_, rfl⟩
  have hk3 : Kept (fun _ => False) w w3 := by rw [hw3]; exact (((Kept.refl _ w).alloc _).alloc _).alloc _
  have k0 : w3.cell? ⟨w.heap.size, 0, none⟩ = some (.pointer (some ⟨b, 0, none⟩)) := by
    rw [hw3]; exact (((Blk.new w [.pointer (some ⟨b, 0, none⟩)] _).old _).old _).cell rfl
  have k1 : w3.cell? ⟨w.heap.size + 1, 0, none⟩ = some (.int .i64 f) := by
    rw [hw3]
    have := ((Blk.new (w.alloc (.cells #[.pointer (some ⟨b, 0, none⟩)] 41)) [.int .i64 f] 3).old (.cells #[.int .i64 t] 3)).cell (o := 0) rfl
    simpa using this
  have k2 : w3.cell? ⟨w.heap.size + 1 + 1, 0, none⟩ = some (.int .i64 t) := by
    rw [hw3]
    have := (Blk.new ((w.alloc (.cells #[.pointer (some ⟨b, 0, none⟩)] 41)).alloc (.cells #[.int .i64 f] 3)) [.int .i64 t] 3).cell (o := 0) rfl
    simpa using this
  have h3 := h.old hk3
  have kv := h3.blk.cell (o := 1) rfl
  obtain ⟨s, cap, rfl, hc, hmx, hs⟩ := h3.runs
  have eg1 : ∀ args w, (callFunc 36 args).run Try.prog w = .ok (.enter 36 args) w := enters_of Try.func36 (by kernel_rfl) rfl
  have eg2 : ∀ args w, (callFunc 37 args).run Try.prog w = .ok (.enter 37 args) w := enters_of Try.func37 (by kernel_rfl) rfl
  have S1 := search_any 36 #[.pointer (some ⟨w.heap.size, 0, none⟩), .pointer (some ⟨w.heap.size + 1, 0, none⟩)] l.length (fun i => decide (f ≤ (l.getD i (0, 0)).2)) w3 eg1 (by omega)
    (fun m i hi => by
      rcases hs with ⟨_, rfl, _⟩ | ⟨g, rfl, _, _, _, hcell⟩
      · simp at hi
      · exact (clos1 (W := w3.drewN m) (n := 0) (y := 0) (s := 0) hi k0 k1 kv (hcell i hi).2).mono fun e w' ⟨e1, q, e2⟩ => ⟨e1, m + q, by rw [e2]; exact World.drewN_drewN _ _ _⟩) A.length (by omega) f0 f1
  have S2 := fun r => search_any 37 #[.pointer (some ⟨w.heap.size, 0, none⟩), .pointer (some ⟨w.heap.size + 1 + 1, 0, none⟩)] l.length (fun i => decide (t < (l.getD i (0, 0)).1)) (w3.drewN r) eg2 (by omega)
    (fun m i hi => by
      rcases hs with ⟨_, rfl, _⟩ | ⟨g, rfl, _, _, _, hcell⟩
      · simp at hi
      · exact (clos2 (W := (w3.drewN r).drewN m) (n := 0) (y := 0) (s := 0) hi k0 k2 kv (hcell i hi).1).mono fun e w' ⟨e1, q, e2⟩ => ⟨e1, m + q, by rw [e2]; exact World.drewN_drewN _ _ _⟩) (A.length + J.length) (by omega) g0 g1
  have W3 := Lib.hid hw3
  have HS1 := Lib.hid S1
  have HS2 := Lib.hid S2
  have KV := Lib.hid kv
  have K0 := Lib.hid k0
  clear f0 f1 g0 g1 hs h3 h hw3 k1 k2 eg1 eg2 S1 S2 kv k0
  go_enter Try.func27, Try.ntmps27
  go_upto_region 1 with fail
  rw [← W3.out]
  clear W3
  have k0 := K0.out
  have kv := KV.out
  clear K0 KV
  go_wp2_with fail
  with_reducible refine Calls.mono HS1.out ?_
  rintro e w' ⟨rfl, q, rfl⟩
  go_wp2_with fail
  with_reducible refine Calls.mono (HS2.out _) ?_
  rintro e w' ⟨rfl, r, rfl⟩
  go_wp2_with fail
  go_ret2
  exact ⟨rfl, hk3.drewN _⟩
end Go.Proofs.Ytfkcplapmkpkbaa.Iv
