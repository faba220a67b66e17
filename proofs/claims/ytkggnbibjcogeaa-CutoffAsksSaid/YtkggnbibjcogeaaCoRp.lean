/- The document's own meter: Prio; a meter and the document's own beside each other. Conditions: each theorem's own. -/
import Derived.Test.YtkggnbibjcogeaaCoRc
set_option linter.unusedVariables false
namespace Go.Proofs.Ytkggnbibjcogeaa.Co
open Go.RowKit Hp CoM CoS NumM NumC Go.Proofs.Ytkggnbibjcogeaa.End
attribute [local go_sem ↓] Go.wp_at_zero Go.wp_at_succ
set_option maxHeartbeats 4000000 in
theorem rprio_any {w : World} {c L M : Nat} {l : List Int} {v : Value} (h : RmV w c L M l v) (h0 : 1 ≤ L) (h1 : L ≤ 8) (hl : l.length ≤ 1000) (hb : ∀ y ∈ l, 0 ≤ y ∧ y ≤ 1073741824) (size window : Int) :
    Calls Try.prog 15 #[.pointer (some ⟨c, 0, none⟩), .int .i64 size, .int .i64 window] w fun e w' => e = .returned (.int .i64 (7 - (below size (cutsM L l window) : Nat))) ∧ Kept (fun _ => False) w w' := by
  have CU := Lib.hid (rcuts_any h h0 h1 hl hb window)
  have hlen := cutsM_len L l window
  obtain ⟨C, hC⟩ : ∃ C, cutsM L l window = C := ⟨_, rfl⟩
  rw [hC] at CU hlen ⊢
  obtain ⟨n, hn⟩ : ∃ n, C.length = n := ⟨_, rfl⟩
  have HN := Lib.hid hn
  rw [hn] at hlen
  have hn7 : n ≤ 7 := by omega
  clear h hC hn hlen h0 h1 hl hb
  go_enter Try.func15, Try.ntmps15
  go_wp2_with fail
  with_reducible refine Calls.mono CU.out ?_
  rintro e w1 ⟨v1, rfl, hR, hk⟩
  obtain ⟨a, cc, rfl, hc1, hc2⟩ := hR.slice
  rw [HN.out] at hR hc1 ⊢
  unfold maxLen at hc2
  have HR := Lib.hid hR
  have HK := Lib.hid hk
  clear hR hk CU
  go_wp2_with fail
  go_loopg [8, 9] n (fun mm s8 s9 wr => ∃ (k b : Nat), Hid (n - k ≤ mm) ∧ k ≤ n ∧ b ≤ k ∧ s9 = .int .i64 (k : Nat) ∧ s8 = .int .i64 (7 - (b : Nat)) ∧ Hid (b = below size (C.take k)) ∧ Hid (Kept (fun _ => False) w1 wr))
  case atStart => exact ⟨0, 0, Lib.hid (by omega), by omega, by omega, rfl, rfl, Lib.hid rfl, Lib.hid (Kept.refl _ _)⟩
  case round =>
    obtain ⟨k, b, hm, hk, hbk, rfl, rfl, hb, hkl⟩ := hrel
    rcases Nat.lt_or_ge k n with hlt | hge
    · have hin : k < C.length := by rw [HN.out]; exact hlt
      obtain ⟨x, hx⟩ : ∃ x, C[k]? = some x := ⟨_, List.getElem?_eq_getElem hin⟩
      obtain ⟨g, o, rfl, hcx⟩ := row_cell (HR.out.old hkl.out) hx
      have HB : Hid (below size (C.take (k + 1)) = b + if x < size then 1 else 0) := Lib.hid (by
        obtain ⟨_, rfl⟩ := List.getElem?_eq_some_iff.1 hx
        rw [List.take_succ_eq_append_getElem hin, below_snoc, hb.out])
      clear hx
      by_cases hc : x < size
      · rw [if_pos hc] at HB
        go_wp2_with fail
        go_roundg (n - (k + 1))
        case measure => have := hm.out; omega
        case rel => exact ⟨k + 1, b + 1, Lib.hid (Nat.le_refl _), by omega, by omega, by go_num, by congr 1; omega, Lib.hid HB.out.symm, hkl⟩
      · rw [if_neg hc] at HB
        have hc' : decide (x < size) = false := by rw [decide_eq_false_iff_not]; exact hc
        go_wp2_with fail
        go_roundg (n - (k + 1))
        case measure => have := hm.out; omega
        case rel => exact ⟨k + 1, b, Lib.hid (Nat.le_refl _), by omega, by omega, by go_num, rfl, Lib.hid HB.out.symm, hkl⟩
    · obtain rfl : k = n := by omega
      have hge' : ¬ k < k := by omega
      have hbb : below size C = b := by rw [hb.out, ← HN.out, List.take_length]
      have HBB := Lib.hid hbb
      clear hbb hb
      go_wp2_with fail
      go_ret
      exact ⟨by rw [HBB.out]; rfl, HK.out.trans hkl.out⟩
/-- Both beside each other. -/
def Duo (w0 : World) (b c L M : Nat) (l l2 : List Int) (w : World) : Prop :=
  ∃ F v, St w0 b L M l F w ∧ RmV w c L M l2 v ∧ w0.heap.size ≤ c ∧ (∀ g, v.ownBlock = some g → w0.heap.size ≤ g) ∧ ∀ i, F i → i ≠ c ∧ v.ownBlock ≠ some i
theorem Duo.kept {w0 w : World} {b c L M : Nat} {l l2 : List Int} (h : Duo w0 b c L M l l2 w) : Kept (fun _ => False) w0 w := by obtain ⟨F, v, h1, _⟩ := h; exact h1.1
theorem Duo.old {w0 w w' : World} {b c L M : Nat} {l l2 : List Int} (h : Duo w0 b c L M l l2 w) (k : Kept (fun _ => False) w w') : Duo w0 b c L M l l2 w' := by
  obtain ⟨F, v, h1, h2, h3⟩ := h
  exact ⟨F, v, h1.old k, h2.old k, h3⟩
theorem Duo.add1 {w0 w : World} {b c L M : Nat} {l l2 : List Int} (h : Duo w0 b c L M l l2 w) (x : Int) :
    Calls Try.prog 9 #[.pointer (some ⟨b, 0, none⟩), .int .i64 x] w fun e w' => e = .returned (.tuple #[]) ∧ Duo w0 b c L M (keep M l (cl x)) l2 w' := by
  obtain ⟨F, v, h1, h2, h3, h4, h5⟩ := h
  refine (add_st h1 x).mono ?_
  rintro e w' ⟨rfl, F', g1, g2⟩
  refine ⟨rfl, F', v, g1, h2.kept g2.1 (fun f => (h5 _ f).1 rfl) (fun g hg f => (h5 _ f).2 hg), h3, h4, fun i hi => ?_⟩
  rcases g2.2 i hi with q | q
  · exact h5 i q
  · exact ⟨fun e => by have := h2.blk.lt; omega, fun e => by have := h2.row.lt i e; omega⟩
theorem Duo.add2 {w0 w : World} {b c L M : Nat} {l l2 : List Int} (h : Duo w0 b c L M l l2 w) (hM : 1 ≤ M) (hM2 : M ≤ 1000) (hl : l2.length ≤ M) (x : Int) :
    Calls Try.prog 10 #[.pointer (some ⟨c, 0, none⟩), .int .i64 x] w fun e w' => e = .returned (.tuple #[]) ∧ Duo w0 b c L M l (keep M l2 (cl x)) w' := by
  obtain ⟨F, v, h1, h2, h3, h4, h5⟩ := h
  refine (radd_any h2 hM hM2 hl x).mono ?_
  rintro e w' ⟨rfl, v', g1, g2, g3⟩
  refine ⟨rfl, F, v', h1.far g2 (fun i hi f => (h5 i f).1 hi) (fun i hi => by omega), g1, h3, fun g hg => Nat.le_trans h1.1.size (g3 g hg).1, fun i hi => ⟨(h5 i hi).1, fun e => ?_⟩⟩
  have h6 := (g3 i e).1
  have h7 := (h1.own i hi).2
  omega
end Go.Proofs.Ytkggnbibjcogeaa.Co
