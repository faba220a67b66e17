/- Rows of numbers that begin anywhere: made, set, shifted; two alike. Conditions: each theorem's own. -/
import Derived.Test.YtbohigfhbjconaaSrOpn
import Derived.Test.YtbohigfhbjconaaRo
set_option linter.unusedVariables false
namespace Go.Proofs.Ytbohigfhbjconaa.Sx
open Go.RowKit Hp Go.Proofs.Ytbohigfhbjconaa.Sr Go.Proofs.Ytbohigfhbjconaa.End
theorem flat_n : ∀ l : List Int, Rw.flat nT l = l.map (Value.int .i64) := nflat
theorem src_one {w : World} {g : Nat} {x : Int} {cap : Nat} (h : Blk w g [.int .i64 x] 3) : Rw.Src nT w (.slice (some ⟨g, 0, none⟩) 1 cap) [x] := Rw.src_blk (t := nT) (K := [x]) cap h
theorem lies_set {w : World} {g o cap : Nat} {cur : List Value} {zs : List Int} (h : Ro.Lies nT w g o cap cur zs) {f : Nat} (hf : f < zs.length) (y : Int) : Ro.Lies nT (w.setCell ⟨g, o + f, none⟩ (.int .i64 y)) g o cap (cur.set (o + f) (.int .i64 y)) (zs.set f y) := by
  refine ⟨h.blk.set _ _, by rw [List.length_set]; exact h.le, h.most, by rw [List.length_set]; exact h.fit, ?_⟩
  have hh := h.head
  rw [flat_n] at hh ⊢
  rw [List.length_set, List.drop_set, if_neg (by omega), Nat.add_sub_cancel_left, List.take_set, hh]
  exact (List.map_set ..).symm
theorem nat_at {w : World} {g o cap : Nat} {cur : List Value} {l : List Int} (h : Ro.Lies nT w g o cap cur l) {i : Nat} {x : Int} (hi : l[i]? = some x) : w.cell? ⟨g, o + i, none⟩ = some (.int .i64 x) := by
  have := h.cell hi (j := 0) (u := .int .i64 x) rfl
  rwa [Nat.add_zero, Nat.mul_one] at this
theorem infoI : (Try.prog.info? 3).map (fun i => (i.zero, i.size, i.bytes)) = some (some (.int .i64 0), 1, 8) := by kernel_rfl
theorem madeN (N : Nat) (hN : N ≤ 1000) (w : World) : (Instr.makeSlice 43 (.int .i64 (N : Int)) (.int .i64 (N : Int))).run Try.prog w = .ok (.slice (some ⟨w.heap.size, 0, none⟩) N N) (w.alloc (.cells ((List.replicate N 0).map (Value.int .i64)).toArray 3)) := by
  obtain ⟨ti, hti, hz0, hz1, hz2⟩ := info_parts infoI
  have := run_make (P := Try.prog) (w := w) 43 3 ti (.int .i64 0) Try.underlying43 hti hz0 .i64 .i64 (N : Int) (N : Int) (by omega) (by omega) (by rw [hz2]; omega) (by omega)
  rw [Int.toNat_natCast, hz1, Nat.mul_one] at this
  rw [this]
  have e : madeCells (Value.int .i64 0).cells N = ((List.replicate N 0).map (Value.int .i64)).toArray := by
    apply Array.toList_inj.1
    have := toList_madeCells_one (.int .i64 0) N
    rw [show (Value.int .i64 0).cells = #[.int .i64 0] from rfl, this]
    simp
  rw [e]
theorem row_cell {w : World} {a : Option Addr} {n c : Nat} {zs : List Int} (h : Ro.Row nT w (.slice a n c) zs) {k : Nat} {x : Int} (hx : zs[k]? = some x) : ∃ g o, a = some ⟨g, o, none⟩ ∧ w.cell? ⟨g, o + k, none⟩ = some (.int .i64 x) := by
  rcases h with ⟨_, rfl⟩ | ⟨g, o, cap, cur, e, h2⟩
  · simp at hx
  · refine ⟨g, o, (Value.slice.inj e).1, ?_⟩
    have := h2.cell hx (j := 0) (u := .int .i64 x) rfl
    rwa [Nat.add_zero, Nat.mul_one] at this
theorem past_apd {w0 w w' : World} {v v' : Value} {l : List Int} (k : Kept (fun i => w0.heap.size ≤ i) w0 w) (a : Ro.Apd nT w v l v' w') (hv : ∀ g, v.ownBlock = some g → w0.heap.size ≤ g) : Kept (fun i => w0.heap.size ≤ i) w0 w' ∧ ∀ g, v'.ownBlock = some g → w0.heap.size ≤ g := by
  have hs := k.size
  exact ⟨k.trans (a.kept.mono (fun i _ e => hv i e)), fun g hg => (a.lies g hg).elim (hv g) (fun h => by omega)⟩
theorem past_of {w w' : World} (k : Kept (fun _ => False) w w') : Kept (fun i => w.heap.size ≤ i) w w' := k.mono (fun _ _ f => f.elim)
theorem of_past {w w' : World} (k : Kept (fun i => w.heap.size ≤ i) w w') : Kept (fun _ => False) w w' := k.mono (fun i hi f => by omega)
def ins (l : List Int) (x : Int) : Nat → List Int := fun p => l.take p ++ x :: l.drop p
theorem ins_perm (l : List Int) (x : Int) (p : Nat) : (ins l x p).Perm (l ++ [x]) := by
  unfold ins
  have h1 : (l.take p ++ x :: l.drop p).Perm (x :: (l.take p ++ l.drop p)) := List.perm_middle
  rw [List.take_append_drop] at h1
  exact h1.trans (List.perm_append_comm (l₁ := [x]) (l₂ := l))
theorem shift_set {s : List Int} {z y : Int} {k : Nat} (hk : k + 1 ≤ s.length) (hy : s[k]? = some y) : (s.take (k + 1) ++ z :: s.drop (k + 1)).set (k + 1) y = s.take k ++ y :: s.drop k := by
  obtain ⟨h, rfl⟩ := List.getElem?_eq_some_iff.1 hy
  have e1 : (s.take (k + 1)).length = k + 1 := by rw [List.length_take]; omega
  rw [List.set_append_right _ _ (by omega), e1, Nat.sub_self, List.set_cons_zero]
  rw [List.take_succ_eq_append_getElem h, List.drop_eq_getElem_cons h, List.append_assoc]
  rfl
theorem shift_get {s : List Int} {z : Int} {k : Nat} (hk : k < s.length) {y : Int} (hy : s[k]? = some y) : (s.take (k + 1) ++ z :: s.drop (k + 1))[k]? = some y := by
  rw [List.getElem?_append_left (by rw [List.length_take]; omega), List.getElem?_take, if_pos (by omega)]; exact hy
theorem shift_last {s : List Int} {z x : Int} {k : Nat} (hk : k ≤ s.length) : (s.take k ++ z :: s.drop k).set k x = ins s x k := by
  have e1 : (s.take k).length = k := by rw [List.length_take]; omega
  unfold ins
  rw [List.set_append_right _ _ (by omega), e1, Nat.sub_self, List.set_cons_zero]
theorem shift_len {s : List Int} {z : Int} {k : Nat} (hk : k ≤ s.length) : (s.take k ++ z :: s.drop k).length = s.length + 1 := by
  rw [List.length_append, List.length_cons, List.length_take, List.length_drop]; omega
theorem row_blk {w : World} {cb J : Nat} {os : List Int} (h : Blk w cb (os.map (Value.int .i64)) 3) (hl : os.length = J) (hJ : J ≤ 1000) : Ro.Row nT w (.slice (some ⟨cb, 0, none⟩) J J) os := by
  have hL : Ro.Lies nT w cb 0 J (os.map (Value.int .i64)) os := ⟨h, by omega, by unfold maxLen; omega, by rw [List.length_map, hl, Nat.mul_one]; omega, by rw [List.drop_zero, flat_n, List.take_of_length_le (by rw [List.length_map, Nat.mul_one]; exact Nat.le_refl _)]⟩
  have := hL.row
  rwa [hl] at this
theorem apd_lies {w w' : World} {v v' : Value} {s : List Int} {z : Int} {m : Nat} (h : Ro.Apd nT w v (s ++ [z]) v' w') (hm : (s ++ [z]).length = m) : ∃ g4 o4 c4 cur4, v' = .slice (some ⟨g4, o4, none⟩) m c4 ∧ Ro.Lies nT w' g4 o4 c4 cur4 (s ++ [z]) := by
  rcases h.row with ⟨_, e⟩ | ⟨g, o, cap, cur, e, h⟩
  · simp at e
  · exact ⟨g, o, cap, cur, by rw [hm] at e; exact e, h⟩
theorem alike_any {w : World} {v v2 : Value} {l : List Int} (h : Ro.Row nT w v l) (h2 : Ro.Row nT w v2 l) (hsm : l.length ≤ 900000) :
    Calls Try.prog 13 #[v, v2] w fun e w' => e = .returned (.bool true) ∧ Kept (fun _ => False) w w' := by
  obtain ⟨a, c, rfl, hc1, hc2⟩ := h.slice
  obtain ⟨a2, c3, rfl, hc3, hc4⟩ := h2.slice
  unfold maxLen at hc2 hc4
  have H := Lib.hid h
  have H2 := Lib.hid h2
  clear h h2
  obtain ⟨n, hn⟩ : ∃ n, l.length = n := ⟨_, rfl⟩
  have HN := Lib.hid hn
  rw [hn] at H H2 hc1 hc3 hsm ⊢
  clear hn
  go_enter Try.func13, Try.ntmps13
  go_wp2_with fail
  go_loopg [5] n (fun m s5 wr => ∃ (i : Nat), Hid (n - i ≤ m) ∧ i ≤ n ∧ s5 = .int .i64 (i : Nat) ∧ Hid (Kept (fun _ => False) w wr))
  case atStart => exact ⟨0, Lib.hid (by omega), by omega, rfl, Lib.hid (Kept.refl _ w)⟩
  case round =>
    obtain ⟨i, hm, hi, rfl, hk⟩ := hrel
    rcases Nat.lt_or_ge i n with hlt | hge
    · obtain ⟨x, hx⟩ : ∃ x, l[i]? = some x := ⟨_, List.getElem?_eq_getElem (by rw [HN.out]; exact hlt)⟩
      obtain ⟨g, o, rfl, e0⟩ := row_cell (H.out.old hk.out) hx
      obtain ⟨g2, o2, rfl, e1⟩ := row_cell (H2.out.old hk.out) hx
      have hlt2 : (i : Int) < (n : Int) := by omega
      clear hx
      go_wp2_with fail
      go_quiet (fail)
      have HK := Lib.hid (hk.out.drewN nq)
      clear e0 e1 hk
      generalize wr.drewN nq = w2 at *
      go_wp2_with fail
      go_roundg (n - (i + 1))
      case measure => have := hm.out; omega
      case rel => exact ⟨i + 1, Lib.hid (Nat.le_refl _), by omega, by go_num, HK⟩
    · obtain rfl : i = n := by omega
      have hlt2 : decide ((i : Int) < (i : Int)) = false := by simp
      go_wp2_with fail
      go_ret
      exact ⟨rfl, hk.out⟩
end Go.Proofs.Ytbohigfhbjconaa.Sx
