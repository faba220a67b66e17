/- The reference's wheel: what waits, and what time's going on leaves. Conditions: each theorem's own. -/
import Derived.Test.YtjmlglibmlfjaaaDoorRow
import Derived.Deep.RegionHeld3
import Derived.Deep.LoopGhost
import Derived.Deep.DeepCutAuto
import Derived.WalkLawsBesides
import Derived.Deep.DrawnRows
set_option linter.unusedVariables false
namespace Go.Proofs.YtjmlglibmlfjaaaDoor.Rf
open Go.RowKit Hp BitsC Tree Im Wk Go.Proofs.YtjmlglibmlfjaaaDoor.End
open Wheel (owns_kept grown_kept)
def TR : TypeId := 31
/-- The reference's wheel in block b: K waits, in the row v. -/
structure RW (w : World) (B b most now last : Nat) (K : List Key) (v : Value) : Prop where
  hb : Blk w b [.int .i64 most, .int .i64 now, .int .i64 last, v] TR
  row : RRow w B v K
  own : v.ownBlock ≠ some b
/-- By time. -/
def Sorted (K : List Key) : Prop := K.Pairwise fun a b => a.1 ≤ b.1
theorem cut_at {n i : Nat} {K : List Key} (h : Sorted K) (hi : i ≤ K.length) (h1 : ∀ j (hj : j < K.length), j < i → K[j].1 ≤ n) (h2 : ∀ h : i < K.length, n < K[i].1) : upTo n K = K.take i ∧ past n K = K.drop i := by
  have hA : ∀ k ∈ K.take i, k.1 ≤ n := fun k hk => by
    obtain ⟨j, hj, rfl⟩ := List.mem_iff_getElem.1 hk
    rw [List.length_take] at hj
    rw [List.getElem_take]
    exact h1 j (by omega) (by omega)
  have hB : ∀ k ∈ K.drop i, n < k.1 := fun k hk => by
    obtain ⟨j, hj, rfl⟩ := List.mem_iff_getElem.1 hk
    rw [List.length_drop] at hj
    rw [List.getElem_drop]
    have hlt : i < K.length := by omega
    have := h2 hlt
    rcases Nat.eq_zero_or_pos j with rfl | hp
    · simpa using this
    · have := List.pairwise_iff_getElem.1 h i (i + j) hlt (by omega) (by omega)
      omega
  have := split_le hA hB
  rw [List.take_append_drop] at this
  exact this
/-- What Advance leaves. -/
def AdvR (b most last : Nat) (K : List Key) (now' : Nat) (w : World) (e : Ending) (w' : World) : Prop :=
  ∃ v1 v2, e = .returned v1 ∧ RRow w' w.heap.size v1 (upTo now' K) ∧ RW w' w.heap.size b most now' last (past now' K) v2 ∧ Kept (fun k => k = b) w w' ∧ ∀ g, v2.ownBlock = some g → w.heap.size ≤ g
set_option maxRecDepth 100000 in
set_option maxHeartbeats 4000000 in
theorem adv_any {w : World} {B b most now last : Nat} {K : List Key} {v : Value} (h : RW w B b most now last K v) (tgt : Int) (now' : Nat) (hn : (now' : Int) = max (now : Int) (min tgt 1125899906842624)) (hsm : K.length ≤ 100000) (hN : now ≤ 1125899906842624) (hs0 : Sorted K) :
    Calls Tryd.prog 12 #[.pointer (some ⟨b, 0, none⟩), .int .i64 tgt] w (AdvR b most last K now' w) := by
  have hsrt := Lib.hid hs0
  clear hs0
  have hmx : max (now : Int) (min tgt 1125899906842624) = (now' : Int) := hn.symm
  have hN2 : (now' : Int) ≤ 1125899906842624 := by omega
  have hN3 : (0 : Int) ≤ (now' : Int) := by omega
  have HMX := Lib.hid hmx
  clear hmx hn
  obtain ⟨s, cap, rfl, hcap, hs⟩ := h.row.form
  have c1 := h.hb.cell (o := 1) rfl
  have f1 := h.hb.frozen 1
  have hblt := h.hb.lt
  have hbl : Hid (b < w.heap.size) := hblt
  go_enter Tryd.func12, Tryd.ntmps12
  go_wp2_with fail
  rw [HMX.out]
  have hb1 := h.hb.set 1 (.int .i64 (now' : Int))
  have K1 := Kept.one w b 1 (.int .i64 (now' : Int))
  have hr1 := h.row.kept K1 (fun g hg e => h.own (e ▸ hg))
  clear c1 f1 hblt
  generalize w.setCell ⟨b, 1, none⟩ (.int .i64 (now' : Int)) = w1 at *
  have hb1 : Blk w1 b [.int .i64 most, .int .i64 now', .int .i64 last, .slice s K.length cap] TR := hb1
  clear h
  go_loopg [5] K.length (fun k s5 wr => ∃ i : Nat, Hid (k = K.length - i) ∧ i ≤ K.length ∧ s5 = .int .i64 ((i : Nat) : Int) ∧ Hid (∀ j (hj : j < K.length), j < i → K[j].1 ≤ now') ∧
    Blk wr b [.int .i64 most, .int .i64 now', .int .i64 last, .slice s K.length cap] TR ∧ RRow wr B (.slice s K.length cap) K ∧ Kept (fun k => k = b) w wr)
  case atStart => exact ⟨0, rfl, by omega, rfl, fun j _ hj => by omega, hb1, hr1, K1⟩
  case round =>
    obtain ⟨i, hk, hi, rfl, hle, hb2, hr2, hk2⟩ := hrel
    clear hb1 hr1 K1
    have c1 := hb2.cell (o := 1) rfl
    have c3 := hb2.cell (o := 3) rfl
    by_cases hlt : i < K.length
    · rcases hs with ⟨rfl, rfl, rfl⟩ | ⟨g, rfl, hg1, hg2⟩
      · simp at hlt
      · obtain ⟨r0, r1, r2⟩ := hr2.at hlt
        obtain ⟨t, ht⟩ : ∃ t, t = K[i].1 := ⟨_, rfl⟩
        rw [← ht] at r0
        have HT := Lib.hid ht
        clear ht r1 r2
        by_cases hti : t ≤ now'
        · have hd : decide ((t : Int) ≤ (now' : Int)) = true := decide_eq_true (by omega)
          go_wp2_with fail
          go_quiet (fail)
          go_wp2_with fail
          go_roundg (K.length - (i + 1))
          case measure => have := hk.out; omega
          case rel =>
            refine ⟨i + 1, rfl, by omega, by simp, fun j hj hji => ?_, hb2, hr2, hk2.drewN nq⟩
            rcases Nat.lt_succ_iff_lt_or_eq.1 hji with h | rfl
            · exact hle.out j hj h
            · have := HT.out; omega
        · have hd : decide ((t : Int) ≤ (now' : Int)) = false := decide_eq_false (by omega)
          go_wp2_with fail
          go_quiet (fail)
          have hb3 : Blk (wr.drewN nq) b [.int .i64 most, .int .i64 now', .int .i64 last, .slice (some ⟨g, 0, none⟩) K.length cap] TR := hb2
          have hr3 : RRow (wr.drewN nq) B (.slice (some ⟨g, 0, none⟩) K.length cap) K := hr2
          have hk3 := hk2.drewN nq
          clear c1 c3 r0 hb2 hr2 hk2
          generalize wr.drewN nq = w2 at *
          have c3 := hb3.cell (o := 3) rfl
          have hblt := hb3.lt
          have i0 : (0 : Int) ≤ (i : Int) := by omega
          have i1 : (i : Int) ≤ (cap : Int) := by omega
          have hf1 := RRow.fresh w2
          have K4 : Kept (fun _ => False) w2 (w2.alloc (.cells #[] 47)) := (Kept.refl _ w2).alloc _
          have hr4 : Src (w2.alloc (.cells #[] 47)) (.slice (some ⟨g, 0, none⟩) i cap) (K.take i) := (hr3.kept K4 (fun _ _ h => h)).first i hi cap
          go_wp2_with (at_builtin; refine wpList_app rfl (.tmp 41) (.tmp 47) rfl w2.heap.size rfl hf1 rfl hr4 ?c1 ?c2 ?_)
          case c1 => rw [List.length_take]; simp; omega
          case c2 => simp
          intro v1 w5 A1
          have o1 := A1.row
          have K5 := A1.old K4 (fun g hg => by cases hg; exact Nat.le_refl _)
          rw [List.nil_append] at o1
          have hb5 := K5.blk hb3 (fun h => h)
          have hr5 := hr3.kept K5 (fun _ _ h => h)
          have hk5 := hk3.trans (K5.mono (fun _ _ h => h.elim))
          have hs25 := K5.size
          have hws := hk3.size
          clear A1 c3 hf1 hr4 hb3 hr3 hk3
          have c3 := hb5.cell (o := 3) rfl
          have hblt := hb5.lt
          have hf2 := RRow.fresh w5
          have K6 : Kept (fun _ => False) w5 (w5.alloc (.cells #[] 47)) := (Kept.refl _ w5).alloc _
          have hr6 : Src (w5.alloc (.cells #[] 47)) (.slice (some ⟨g, i * 3, none⟩) (K.length - i) (cap - i)) (K.drop i) := (hr5.kept K6 (fun _ _ h => h)).rest i (K.length - i) hi rfl (cap - i)
          have i2 : (i : Int) ≤ (K.length : Int) := by omega
          go_wp2_with (at_builtin; refine wpList_app rfl (.tmp 50) (.tmp 56) rfl w5.heap.size rfl hf2 rfl hr6 ?c1 ?c2 ?_)
          case c1 => rw [List.length_drop]; simp; omega
          case c2 => simp
          intro v2 w7 A2
          have o2 := A2.row
          have K7 := A2.old K6 (fun g hg => by cases hg; exact Nat.le_refl _)
          rw [List.nil_append] at o2
          have hb7 := K7.blk hb5 (fun h => h)
          have o17 := o1.kept K7 (fun _ _ h => h)
          have hk7 := hk5.trans (K7.mono (fun _ _ h => h.elim))
          have l1 := o1.lt
          have l2 := o2.lt
          obtain ⟨sq, capq, ev2, _, _⟩ := o2.form
          rw [List.length_drop] at ev2
          subst ev2
          clear A2 c3 hf2 hr6 hb5 hr5 hk5 o1
          have c3 := hb7.cell (o := 3) rfl
          have f3 := hb7.frozen 3
          have hblt7 := hb7.lt
          go_wp2_with fail
          go_ret
          have hn1 : ∀ g', v1.ownBlock = some g' → ¬ g' = b := fun g' hg e => by have := l1 g' hg; have := hbl.out; omega
          have hn2 : ∀ g', (Value.slice sq (K.length - i) capq).ownBlock = some g' → ¬ g' = b := fun g' hg e => by have := l2 g' hg; have := hbl.out; omega
          have Kst := Kept.one w7 b 3 (.slice sq (K.length - i) capq)
          have hcut := cut_at hsrt.out hi hle.out (fun _ => by have := HT.out; omega)
          refine ⟨v1, .slice sq (K.length - i) capq, rfl, ?_, ⟨hb7.set 3 (.slice sq (K.length - i) capq), ?_, ?_⟩, hk7.trans Kst, fun g' hg => ?_⟩
          · rw [hcut.1]; exact (o17.kept Kst hn1).base (fun g' hg => by have := l1 g' hg; omega)
          · rw [hcut.2]; exact (o2.kept Kst hn2).base (fun g' hg => by have := l2 g' hg; omega)
          · exact fun hg => hn2 b hg rfl
          · have := l2 g' hg; omega
    · rcases hs with ⟨rfl, rfl, rfl⟩ | ⟨g, rfl, hg1, hg2⟩
      · obtain rfl : i = 0 := by simpa using hi
        go_wp2_with fail
        go_quiet (fail)
        have hb3 : Blk (wr.drewN nq) b [.int .i64 most, .int .i64 now', .int .i64 last, .slice none 0 0] TR := hb2
        have hr3 : RRow (wr.drewN nq) B (.slice none 0 0) [] := hr2
        have hk3 := hk2.drewN nq
        clear c1 c3  hb2 hr2 hk2
        generalize wr.drewN nq = w2 at *
        have c3 := hb3.cell (o := 3) rfl
        have hblt := hb3.lt
        have hf1 := RRow.fresh w2
        have K4 : Kept (fun _ => False) w2 (w2.alloc (.cells #[] 47)) := (Kept.refl _ w2).alloc _
        have hr4 : Src (w2.alloc (.cells #[] 47)) (.slice none 0 0) [] := Or.inl ⟨rfl, rfl⟩
        go_wp2_with (at_builtin; refine wpList_app rfl (.tmp 41) (.tmp 47) rfl w2.heap.size rfl hf1 rfl hr4 ?c1 ?c2 ?_)
        case c1 => simp
        case c2 => simp
        intro v1 w5 A1
        have o1 := A1.row
        have K5 := A1.old K4 (fun g hg => by cases hg; exact Nat.le_refl _)
        rw [List.nil_append] at o1
        have hb5 := K5.blk hb3 (fun h => h)
        have hr5 := hr3.kept K5 (fun _ _ h => h)
        have hk5 := hk3.trans (K5.mono (fun _ _ h => h.elim))
        have hs25 := K5.size
        have hws := hk3.size
        clear A1 c3 hf1 hr4 hb3 hr3 hk3
        have c3 := hb5.cell (o := 3) rfl
        have hblt := hb5.lt
        have hf2 := RRow.fresh w5
        have K6 : Kept (fun _ => False) w5 (w5.alloc (.cells #[] 47)) := (Kept.refl _ w5).alloc _
        have hr6 : Src (w5.alloc (.cells #[] 47)) (.slice none (0) (0)) [] := Or.inl ⟨rfl, rfl⟩
        go_wp2_with (at_builtin; refine wpList_app rfl (.tmp 50) (.tmp 56) rfl w5.heap.size rfl hf2 rfl hr6 ?c1 ?c2 ?_)
        case c1 => simp
        case c2 => simp
        intro v2 w7 A2
        have o2 := A2.row
        have K7 := A2.old K6 (fun g hg => by cases hg; exact Nat.le_refl _)
        rw [List.nil_append] at o2
        have hb7 := K7.blk hb5 (fun h => h)
        have o17 := o1.kept K7 (fun _ _ h => h)
        have hk7 := hk5.trans (K7.mono (fun _ _ h => h.elim))
        have l1 := o1.lt
        have l2 := o2.lt
        obtain ⟨sq, capq, ev2, _, _⟩ := o2.form
        subst ev2
        clear A2 c3 hf2 hr6 hb5 hr5 hk5 o1
        have c3 := hb7.cell (o := 3) rfl
        have f3 := hb7.frozen 3
        have hblt7 := hb7.lt
        go_wp2_with fail
        go_ret
        have hn1 : ∀ g', v1.ownBlock = some g' → ¬ g' = b := fun g' hg e => by have := l1 g' hg; have := hbl.out; omega
        have hn2 : ∀ g', (Value.slice sq (0) capq).ownBlock = some g' → ¬ g' = b := fun g' hg e => by have := l2 g' hg; have := hbl.out; omega
        have Kst := Kept.one w7 b 3 (.slice sq (0) capq)
        have hcut := cut_at hsrt.out hi hle.out (fun h => by simp at h)
        refine ⟨v1, .slice sq (0) capq, rfl, ?_, ⟨hb7.set 3 (.slice sq (0) capq), ?_, ?_⟩, hk7.trans Kst, fun g' hg => ?_⟩
        · rw [hcut.1]; exact (o17.kept Kst hn1).base (fun g' hg => by have := l1 g' hg; omega)
        · rw [hcut.2]; exact (o2.kept Kst hn2).base (fun g' hg => by have := l2 g' hg; omega)
        · exact fun hg => hn2 b hg rfl
        · have := l2 g' hg; omega
      · have hd : decide ((i : Int) < (K.length : Int)) = false := decide_eq_false (by omega)
        have HLT := Lib.hid hlt
        have hle2 : K.length ≤ i := by omega
        have HLE := Lib.hid hle2
        clear hle2
        by_cases hci : cap = i
        · have hci' := hci.symm
          subst hci'
          clear hcap
          go_wp2_with fail
          go_quiet (fail)
          have hb3 : Blk (wr.drewN nq) b [.int .i64 most, .int .i64 now', .int .i64 last, .slice (some ⟨g, 0, none⟩) K.length i] TR := hb2
          have hr3 : RRow (wr.drewN nq) B (.slice (some ⟨g, 0, none⟩) K.length i) K := hr2
          have hk3 := hk2.drewN nq
          clear c1 c3  hb2 hr2 hk2
          generalize wr.drewN nq = w2 at *
          have c3 := hb3.cell (o := 3) rfl
          have hblt := hb3.lt
          have i0 : (0 : Int) ≤ (i : Int) := by omega
          have i1 : (i : Int) ≤ (i : Int) := by omega
          have hf1 := RRow.fresh w2
          have K4 : Kept (fun _ => False) w2 (w2.alloc (.cells #[] 47)) := (Kept.refl _ w2).alloc _
          have hr4 : Src (w2.alloc (.cells #[] 47)) (.slice (some ⟨g, 0, none⟩) i i) (K.take i) := (hr3.kept K4 (fun _ _ h => h)).first i hi i
          go_wp2_with (at_builtin; refine wpList_app rfl (.tmp 41) (.tmp 47) rfl w2.heap.size rfl hf1 rfl hr4 ?c1 ?c2 ?_)
          case c1 => rw [List.length_take]; simp; omega
          case c2 => simp
          intro v1 w5 A1
          have o1 := A1.row
          have K5 := A1.old K4 (fun g hg => by cases hg; exact Nat.le_refl _)
          rw [List.nil_append] at o1
          have hb5 := K5.blk hb3 (fun h => h)
          have hr5 := hr3.kept K5 (fun _ _ h => h)
          have hk5 := hk3.trans (K5.mono (fun _ _ h => h.elim))
          have hs25 := K5.size
          have hws := hk3.size
          clear A1 c3 hf1 hr4 hb3 hr3 hk3 hlt hd
          have c3 := hb5.cell (o := 3) rfl
          have hblt := hb5.lt
          have hf2 := RRow.fresh w5
          have K6 : Kept (fun _ => False) w5 (w5.alloc (.cells #[] 47)) := (Kept.refl _ w5).alloc _
          have hr6 : Src (w5.alloc (.cells #[] 47)) (.slice (some ⟨g, 0, none⟩) (K.length - i) 0) (K.drop i) := src_none i (K.length - i) HLE.out rfl _ _
          have i2 : (i : Int) ≤ (K.length : Int) := by omega
          go_wp2_with (at_builtin; refine wpList_app rfl (.tmp 50) (.tmp 56) rfl w5.heap.size rfl hf2 rfl hr6 ?c1 ?c2 ?_)
          case c1 => rw [List.length_drop]; simp; omega
          case c2 => simp
          intro v2 w7 A2
          have o2 := A2.row
          have K7 := A2.old K6 (fun g hg => by cases hg; exact Nat.le_refl _)
          rw [List.nil_append] at o2
          have hb7 := K7.blk hb5 (fun h => h)
          have o17 := o1.kept K7 (fun _ _ h => h)
          have hk7 := hk5.trans (K7.mono (fun _ _ h => h.elim))
          have l1 := o1.lt
          have l2 := o2.lt
          obtain ⟨sq, iq, ev2, _, _⟩ := o2.form
          rw [List.length_drop] at ev2
          subst ev2
          clear A2 c3 hf2 hr6 hb5 hr5 hk5 o1
          have c3 := hb7.cell (o := 3) rfl
          have f3 := hb7.frozen 3
          have hblt7 := hb7.lt
          go_wp2_with fail
          go_ret
          have hn1 : ∀ g', v1.ownBlock = some g' → ¬ g' = b := fun g' hg e => by have := l1 g' hg; have := hbl.out; omega
          have hn2 : ∀ g', (Value.slice sq (K.length - i) iq).ownBlock = some g' → ¬ g' = b := fun g' hg e => by have := l2 g' hg; have := hbl.out; omega
          have Kst := Kept.one w7 b 3 (.slice sq (K.length - i) iq)
          have hcut := cut_at hsrt.out hi hle.out (fun h => absurd h HLT.out)
          refine ⟨v1, .slice sq (K.length - i) iq, rfl, ?_, ⟨hb7.set 3 (.slice sq (K.length - i) iq), ?_, ?_⟩, hk7.trans Kst, fun g' hg => ?_⟩
          · rw [hcut.1]; exact (o17.kept Kst hn1).base (fun g' hg => by have := l1 g' hg; omega)
          · rw [hcut.2]; exact (o2.kept Kst hn2).base (fun g' hg => by have := l2 g' hg; omega)
          · exact fun hg => hn2 b hg rfl
          · have := l2 g' hg; omega
        · have hci2 : ¬ (cap : Int) = (i : Int) := by omega
          go_wp2_with fail
          go_quiet (fail)
          have hb3 : Blk (wr.drewN nq) b [.int .i64 most, .int .i64 now', .int .i64 last, .slice (some ⟨g, 0, none⟩) K.length cap] TR := hb2
          have hr3 : RRow (wr.drewN nq) B (.slice (some ⟨g, 0, none⟩) K.length cap) K := hr2
          have hk3 := hk2.drewN nq
          clear c1 c3  hb2 hr2 hk2
          generalize wr.drewN nq = w2 at *
          have c3 := hb3.cell (o := 3) rfl
          have hblt := hb3.lt
          have i0 : (0 : Int) ≤ (i : Int) := by omega
          have i1 : (i : Int) ≤ (cap : Int) := by omega
          have hf1 := RRow.fresh w2
          have K4 : Kept (fun _ => False) w2 (w2.alloc (.cells #[] 47)) := (Kept.refl _ w2).alloc _
          have hr4 : Src (w2.alloc (.cells #[] 47)) (.slice (some ⟨g, 0, none⟩) i cap) (K.take i) := (hr3.kept K4 (fun _ _ h => h)).first i hi cap
          go_wp2_with (at_builtin; refine wpList_app rfl (.tmp 41) (.tmp 47) rfl w2.heap.size rfl hf1 rfl hr4 ?c1 ?c2 ?_)
          case c1 => rw [List.length_take]; simp; omega
          case c2 => simp
          intro v1 w5 A1
          have o1 := A1.row
          have K5 := A1.old K4 (fun g hg => by cases hg; exact Nat.le_refl _)
          rw [List.nil_append] at o1
          have hb5 := K5.blk hb3 (fun h => h)
          have hr5 := hr3.kept K5 (fun _ _ h => h)
          have hk5 := hk3.trans (K5.mono (fun _ _ h => h.elim))
          have hs25 := K5.size
          have hws := hk3.size
          clear A1 c3 hf1 hr4 hb3 hr3 hk3 hlt hd
          have c3 := hb5.cell (o := 3) rfl
          have hblt := hb5.lt
          have hf2 := RRow.fresh w5
          have K6 : Kept (fun _ => False) w5 (w5.alloc (.cells #[] 47)) := (Kept.refl _ w5).alloc _
          have hr6 : Src (w5.alloc (.cells #[] 47)) (.slice (some ⟨g, i * 3, none⟩) (K.length - i) (cap - i)) (K.drop i) := src_none i (K.length - i) HLE.out rfl _ _
          have i2 : (i : Int) ≤ (K.length : Int) := by omega
          go_wp2_with (at_builtin; refine wpList_app rfl (.tmp 50) (.tmp 56) rfl w5.heap.size rfl hf2 rfl hr6 ?c1 ?c2 ?_)
          case c1 => rw [List.length_drop]; simp; omega
          case c2 => simp
          intro v2 w7 A2
          have o2 := A2.row
          have K7 := A2.old K6 (fun g hg => by cases hg; exact Nat.le_refl _)
          rw [List.nil_append] at o2
          have hb7 := K7.blk hb5 (fun h => h)
          have o17 := o1.kept K7 (fun _ _ h => h)
          have hk7 := hk5.trans (K7.mono (fun _ _ h => h.elim))
          have l1 := o1.lt
          have l2 := o2.lt
          obtain ⟨sq, capq, ev2, _, _⟩ := o2.form
          rw [List.length_drop] at ev2
          subst ev2
          clear A2 c3 hf2 hr6 hb5 hr5 hk5 o1
          have c3 := hb7.cell (o := 3) rfl
          have f3 := hb7.frozen 3
          have hblt7 := hb7.lt
          go_wp2_with fail
          go_ret
          have hn1 : ∀ g', v1.ownBlock = some g' → ¬ g' = b := fun g' hg e => by have := l1 g' hg; have := hbl.out; omega
          have hn2 : ∀ g', (Value.slice sq (K.length - i) capq).ownBlock = some g' → ¬ g' = b := fun g' hg e => by have := l2 g' hg; have := hbl.out; omega
          have Kst := Kept.one w7 b 3 (.slice sq (K.length - i) capq)
          have hcut := cut_at hsrt.out hi hle.out (fun h => absurd h HLT.out)
          refine ⟨v1, .slice sq (K.length - i) capq, rfl, ?_, ⟨hb7.set 3 (.slice sq (K.length - i) capq), ?_, ?_⟩, hk7.trans Kst, fun g' hg => ?_⟩
          · rw [hcut.1]; exact (o17.kept Kst hn1).base (fun g' hg => by have := l1 g' hg; omega)
          · rw [hcut.2]; exact (o2.kept Kst hn2).base (fun g' hg => by have := l2 g' hg; omega)
          · exact fun hg => hn2 b hg rfl
          · have := l2 g' hg; omega
end Go.Proofs.YtjmlglibmlfjaaaDoor.Rf
