/- The reference's wheel: Cancel. Conditions: each theorem's own. -/
import Derived.Test.YtjmlglibmlfjaaaDoorRef
import Derived.Deep.RegionLaw
set_option linter.unusedVariables false
namespace Go.Proofs.YtjmlglibmlfjaaaDoor.Rf
open Go.RowKit Hp BitsC Tree Im Wk Go.Proofs.YtjmlglibmlfjaaaDoor.End
attribute [local go_sem ↓] Go.wp_at_zero Go.wp_at_succ
set_option maxRecDepth 100000 in
set_option maxHeartbeats 4000000 in
theorem can_no {w : World} {B b most now last : Nat} {K : List Key} {v : Value} (h : RW w B b most now last K v) (id : Int) (hsm : K.length ≤ 100000) (hid : ∀ k ∈ K, (k.2.1 : Int) ≠ id) :
    Calls Tryd.prog 9 #[.pointer (some ⟨b, 0, none⟩), .int .i64 id] w fun e w' => e = .returned (.int .i64 5) ∧ w = w' := by
  have HID := Lib.hid hid
  clear hid
  obtain ⟨s, cap, rfl, hcap, hs⟩ := h.row.form
  have c3 := h.hb.cell (o := 3) rfl
  have hr := h.row
  clear h
  go_enter Tryd.func9, Tryd.ntmps9
  go_wp2_with fail
  go_loopg [5] K.length (fun k s5 wr => ∃ i : Nat, Hid (k = K.length - i) ∧ i ≤ K.length ∧ s5 = .int .i64 ((i : Nat) : Int) ∧ w = wr)
  case atStart => exact ⟨0, rfl, by omega, rfl, rfl⟩
  case round =>
    obtain ⟨i, hk, hi, rfl, rfl⟩ := hrel
    by_cases hlt : i < K.length
    · rcases hs with ⟨rfl, rfl, rfl⟩ | ⟨g, rfl, hg1, hg2⟩
      · simp at hlt
      · obtain ⟨r0, r1, r2⟩ := hr.at hlt
        have hne := HID.out K[i] (List.getElem_mem hlt)
        obtain ⟨t, ht⟩ : ∃ t, t = K[i].2.1 := ⟨_, rfl⟩
        rw [← ht] at r1 hne
        clear ht r0 r2
        have hne2 : ((t : Int) == id) = false := by rw [beq_eq_false_iff_ne]; exact hne
        clear hne
        go_wp2_with fail
        go_roundg (K.length - (i + 1))
        case measure => have := hk.out; omega
        case rel => exact ⟨i + 1, rfl, by omega, by simp, rfl⟩
    · go_wp2_with fail
      go_ret
      exact ⟨rfl, rfl⟩
/-- What a Cancel leaves. -/
def CanR (b most now last : Nat) (K' : List Key) (w : World) (e : Ending) (w' : World) : Prop :=
  ∃ v2, e = .returned (.int .i64 0) ∧ RW w' w.heap.size b most now last K' v2 ∧ Kept (fun k => k = b) w w' ∧ ∀ g, v2.ownBlock = some g → w.heap.size ≤ g
set_option maxRecDepth 100000 in
set_option maxHeartbeats 8000000 in
theorem can_yes {w : World} {B b most now last : Nat} {K : List Key} {v : Value} (h : RW w B b most now last K v) (id m : Nat) (hsm : K.length ≤ 100000) (hm : m < K.length) (hid : K[m].2.1 = id) (hoff : ∀ j (hj : j < K.length), j < m → K[j].2.1 ≠ id) :
    Calls Tryd.prog 9 #[.pointer (some ⟨b, 0, none⟩), .int .i64 id] w (CanR b most now last (K.take m ++ K.drop (m + 1)) w) := by
  have HID := Lib.hid hid
  have HOFF := Lib.hid hoff
  clear hid hoff
  obtain ⟨s, cap, rfl, hcap, hs⟩ := h.row.form
  rcases hs with ⟨rfl, rfl, rfl⟩ | ⟨g, rfl, hg1, hg2⟩
  · simp at hm
  · have hb := h.hb
    have hr := h.row
    have hgb : g ≠ b := fun e => h.own (by rw [e]; rfl)
    have c3 := hb.cell (o := 3) rfl
    clear h
    go_enter Tryd.func9, Tryd.ntmps9
    go_wp2_with fail
    go_loopg [5] (m + 1) (fun k s5 wr => ∃ i : Nat, Hid (k = m + 1 - i) ∧ i ≤ m ∧ s5 = .int .i64 ((i : Nat) : Int) ∧ w = wr)
    case atStart => exact ⟨0, rfl, by omega, rfl, rfl⟩
    case round =>
      obtain ⟨i, hk, hi, rfl, rfl⟩ := hrel
      have hlt : i < K.length := by omega
      obtain ⟨r0, r1, r2⟩ := hr.at hlt
      by_cases him : i = m
      · subst him
        rw [HID.out] at r1
        clear r0 r2
        have i0 : (0 : Int) ≤ (i : Int) := by omega
        have i1 : (i : Int) ≤ (cap : Int) := by omega
        have i2 : (i : Int) ≤ (K.length : Int) := by omega
        have i3 : (0 : Int) ≤ (i : Int) + 1 := by omega
        have i4 : (i : Int) + 1 ≤ (K.length : Int) := by omega
        have i5 : IntKind.i64.wrap ((i : Int) + 1) = (i : Int) + 1 := by rw [IntKind.wrap_i64]; omega
        have i6 : ((i : Int) + 1).toNat = i + 1 := by omega
        have hblt := hb.lt
        have f3 := hb.frozen 3
        by_cases hci : cap = i + 1
        · have hci' := hci
          subst hci'
          have hkl : K.length ≤ i + 1 := hcap
          have HKL := Lib.hid hkl
          have i7 : (i : Int) ≤ (i : Int) + 1 := by omega
          clear hcap hkl
          have HR := Lib.hid hr
          have HB := Lib.hid hb
          have HW : Hid (b < w.heap.size) := hb.lt
          have KA := Lib.hid ((Kept.refl (fun _ => False) w).alloc (.cells #[] 47))
          go_upto_region 5 with fail
          go_region_law ((first
            | (refine step_app (by rfl) (.tmp 26) (.tmp 32) (by rfl) w.heap.size (by rfl) (by exact RRow.fresh w) (by rfl) (by exact ((RRow.kept HR.out KA.out (fun _ _ h => h)).first i (by omega) (i + 1))) (by rw [List.length_take]; simp; omega) (by simp) ?_; intro v1 w5 A1; have K5 := A1.old (by first | exact KA.out | exact KA.out.drew) (fun g hg => by cases hg; exact Nat.le_refl _); have hb5 := Kept.blk K5 HB.out (fun h => h); have c35 := Blk.cell (o := 3) hb5 rfl)
            | (refine step_app (by rfl) (.tmp 33) (.tmp 40) (by rfl) w.heap.size (by rfl) (by exact A1.row) (by rfl) (by exact src_none (i + 1) (K.length - (i + 1)) HKL.out rfl _ _) (by simp; omega) (by have := K5.size; omega) ?_; intro v2 w7 A2; obtain ⟨sq, nw, capq, ev2⟩ := RRow.form2 A2.row; subst ev2; have K7 := Kept.trans' (by first | exact K5 | exact K5.drew) A2.kept (fun i hi e => by have := (RRow.lt A1.row i e).1; omega); have hb7 := Kept.blk K7 HB.out (fun h => h); have c37 := Blk.cell (o := 3) hb7 rfl; have f37 := Blk.frozen hb7 3; have l37 := Blk.lt hb7)))
          all_goals
            go_wp2_with fail
            go_ret
            have o2 := A2.row
            rw [List.nil_append] at o2
            have l2 := o2.lt
            have hn2 : ∀ g', (Value.slice sq nw capq).ownBlock = some g' → ¬ g' = b := fun g' hg e => by have := l2 g' hg; have := HW.out; omega
            have Kst := Kept.one w7 b 3 (.slice sq nw capq)
            exact ⟨.slice sq nw capq, rfl, ⟨hb7.set 3 (.slice sq nw capq), o2.kept Kst hn2, fun hg => hn2 b hg rfl⟩, (K7.mono (fun _ _ h => h.elim)).trans Kst, fun g' hg => (l2 g' hg).1⟩
        · have hci2 : ¬ (cap : Int) = (i : Int) + 1 := by omega
          have HR := Lib.hid hr
          have HB := Lib.hid hb
          have HW : Hid (b < w.heap.size) := hb.lt
          have KA := Lib.hid ((Kept.refl (fun _ => False) w).alloc (.cells #[] 47))
          go_upto_region 5 with fail
          go_region_law ((first
            | (refine step_app (by rfl) (.tmp 26) (.tmp 32) (by rfl) w.heap.size (by rfl) (by exact RRow.fresh w) (by rfl) (by exact ((RRow.kept HR.out KA.out (fun _ _ h => h)).first i (by omega) cap)) (by rw [List.length_take]; simp; omega) (by simp) ?_; intro v1 w5 A1; have K5 := A1.old (by first | exact KA.out | exact KA.out.drew) (fun g hg => by cases hg; exact Nat.le_refl _); have hb5 := Kept.blk K5 HB.out (fun h => h); have c35 := Blk.cell (o := 3) hb5 rfl)
            | (refine step_app (by rfl) (.tmp 33) (.tmp 40) (by rfl) w.heap.size (by rfl) (by exact A1.row) (by rfl) (by exact ((RRow.kept HR.out K5 (fun _ _ h => h)).rest (i + 1) (K.length - (i + 1)) (by omega) rfl (cap - (i + 1)))) (by simp; omega) (by have := K5.size; omega) ?_; intro v2 w7 A2; obtain ⟨sq, nw, capq, ev2⟩ := RRow.form2 A2.row; subst ev2; have K7 := Kept.trans' (by first | exact K5 | exact K5.drew) A2.kept (fun i hi e => by have := (RRow.lt A1.row i e).1; omega); have hb7 := Kept.blk K7 HB.out (fun h => h); have c37 := Blk.cell (o := 3) hb7 rfl; have f37 := Blk.frozen hb7 3; have l37 := Blk.lt hb7)))
          all_goals
            go_wp2_with fail
            go_ret
            have o2 := A2.row
            rw [List.nil_append] at o2
            have l2 := o2.lt
            have hn2 : ∀ g', (Value.slice sq nw capq).ownBlock = some g' → ¬ g' = b := fun g' hg e => by have := l2 g' hg; have := HW.out; omega
            have Kst := Kept.one w7 b 3 (.slice sq nw capq)
            exact ⟨.slice sq nw capq, rfl, ⟨hb7.set 3 (.slice sq nw capq), o2.kept Kst hn2, fun hg => hn2 b hg rfl⟩, (K7.mono (fun _ _ h => h.elim)).trans Kst, fun g' hg => (l2 g' hg).1⟩
      · have hne := HOFF.out i hlt (by omega)
        obtain ⟨t, ht⟩ : ∃ t, t = K[i].2.1 := ⟨_, rfl⟩
        rw [← ht] at r1 hne
        clear ht r0 r2
        have hne2 : ((t : Int) == (id : Int)) = false := by rw [beq_eq_false_iff_ne]; omega
        clear hne
        go_wp2_with fail
        go_roundg (m + 1 - (i + 1))
        case measure => have := hk.out; omega
        case rel => exact ⟨i + 1, rfl, by omega, by simp, rfl⟩
end Go.Proofs.YtjmlglibmlfjaaaDoor.Rf
