/- The reference's wheel: Add. Conditions: each theorem's own. -/
import Derived.Test.YtjmlglibmlfjaaaDoorRef
import Derived.Deep.RegionLaw
set_option linter.unusedVariables false
namespace Go.Proofs.YtjmlglibmlfjaaaDoor.Rf
open Go.RowKit Hp BitsC Tree Im Wk Go.Proofs.YtjmlglibmlfjaaaDoor.End
attribute [local go_sem ↓] Go.wp_at_zero Go.wp_at_succ
theorem add_arg {w : World} (b : Nat) (at_ z : Int) (h : at_ < 0 ∨ (¬ at_ < 0 ∧ 1125899906842624 < at_)) :
    Calls Tryd.prog 7 #[.pointer (some ⟨b, 0, none⟩), .int .i64 at_, .int .i64 z] w fun e w' => e = .returned (.tuple #[.int .i64 0, .int .i64 1]) ∧ w = w' := by
  rcases h with h | ⟨h0, h⟩
  all_goals
    go_enter Tryd.func7, Tryd.ntmps7
    go_wp2_with fail
    go_ret2
    exact ⟨rfl, rfl⟩
theorem add_full {w : World} {B b most now last : Nat} {K : List Key} {v : Value} (h : RW w B b most now last K v) (at_ : Nat) (z : Int) (ha : at_ ≤ 1125899906842624) (hfull : most ≤ K.length) (hsm : K.length ≤ 100000) :
    Calls Tryd.prog 7 #[.pointer (some ⟨b, 0, none⟩), .int .i64 at_, .int .i64 z] w fun e w' => e = .returned (.tuple #[.int .i64 0, .int .i64 4]) ∧ ∃ n, w' = w.drewN n := by
  obtain ⟨s, cap, rfl, hcap, hs⟩ := h.row.form
  have c0 := h.hb.cell (o := 0) rfl
  have c3 := h.hb.cell (o := 3) rfl
  go_enter Tryd.func7, Tryd.ntmps7
  go_wp2_with fail
  go_quiet (fail)
  go_wp2_with fail
  go_ret2
  exact ⟨rfl, _, rfl⟩
theorem src_one {w : World} {b t : Nat} {id : Nat} {z : Int} (h : Blk w b [.int .i64 t, .int .i64 id, .int .i64 z] 47) : Src w (.slice (some ⟨b, 0, none⟩) 1 1) [(t, id, z)] := by
  refine Or.inr ⟨⟨b, 0, none⟩, 1, rfl, fun j u hj => ?_⟩
  rw [Go.WideShapes.add_plain, Nat.zero_add]
  exact h.cell hj
theorem ins_at {x : Key} {i : Nat} {K : List Key} (h : Sorted K) (hi : i ≤ K.length) (h1 : ∀ j (hj : j < K.length), j < i → K[j].1 ≤ x.1) (h2 : ∀ h : i < K.length, x.1 < K[i].1) : ins x K = K.take i ++ x :: K.drop i := by
  obtain ⟨e1, e2⟩ := cut_at (n := x.1) h hi h1 h2
  show upTo x.1 K ++ x :: past x.1 K = _
  rw [e1, e2]
/-- What an Add leaves. -/
def AddR (b most now last : Nat) (K' : List Key) (w : World) (e : Ending) (w' : World) : Prop :=
  ∃ v2, e = .returned (.tuple #[.int .i64 ((last + 1 : Nat) : Int), .int .i64 0]) ∧ RW w' w.heap.size b most now (last + 1) K' v2 ∧ Kept (fun k => k = b) w w' ∧ ∀ g, v2.ownBlock = some g → w.heap.size ≤ g
set_option maxRecDepth 100000 in
set_option maxHeartbeats 16000000 in
theorem add_ok {w : World} {B b most now last : Nat} {K : List Key} {v : Value} (h : RW w B b most now last K v) (at_ : Nat) (z : Int) (ha : at_ ≤ 1125899906842624) (hroom : K.length < most) (hmost : most ≤ 100000) (hlast : last ≤ 1000000000) (hN : now ≤ 1125899906842624) (hs0 : Sorted K) :
    Calls Tryd.prog 7 #[.pointer (some ⟨b, 0, none⟩), .int .i64 at_, .int .i64 z] w (AddR b most now last (ins (max at_ now, last + 1, z) K) w) := by
  have hsrt := Lib.hid hs0
  clear hs0
  obtain ⟨s, cap, rfl, hcap, hs⟩ := h.row.form
  have c0 := h.hb.cell (o := 0) rfl
  have c2 := h.hb.cell (o := 2) rfl
  have c3 := h.hb.cell (o := 3) rfl
  have HW := Lib.hid h
  have hbl : Hid (b < w.heap.size) := h.hb.lt
  clear h
  go_enter Tryd.func7, Tryd.ntmps7
  go_wp2_with fail
  go_quiet (fail)
  have hb1 : Blk (w.drewN nq) b [.int .i64 most, .int .i64 now, .int .i64 last, .slice s K.length cap] TR := HW.out.hb
  have hr1 : RRow (w.drewN nq) B (.slice s K.length cap) K := HW.out.row
  have K1 : Kept (fun k => k = b) w (w.drewN nq) := (Kept.refl _ w).drewN nq
  clear c0 c2 c3
  generalize w.drewN nq = w1 at *
  have c2 := hb1.cell (o := 2) rfl
  have f2 := hb1.frozen 2
  have hblt := hb1.lt
  go_wp2_with fail
  obtain ⟨last', hl⟩ : ∃ l : Nat, l = last + 1 := ⟨_, rfl⟩
  have HL := Lib.hid hl
  rw [show ((last : Int) + 1) = (last' : Int) from by omega]
  have hl9 : last' ≤ 1000000001 := by omega
  clear hl
  have hb2 := hb1.set 2 (.int .i64 (last' : Int))
  have hr2 := hr1.kept (Kept.one w1 b 2 (.int .i64 (last' : Int))) (fun g hg e => HW.out.own (e ▸ hg))
  have K2 := K1.set (b := b) (fun _ => rfl) 2 (.int .i64 (last' : Int))
  clear c2 f2 hblt hb1 hr1 K1
  generalize w1.setCell ⟨b, 2, none⟩ (.int .i64 (last' : Int)) = w2 at *
  have hb2 : Blk w2 b [.int .i64 most, .int .i64 now, .int .i64 last', .slice s K.length cap] TR := hb2
  have c1 := hb2.cell (o := 1) rfl
  have c2 := hb2.cell (o := 2) rfl
  obtain ⟨m, hm⟩ : ∃ m : Nat, m = max at_ now := ⟨_, rfl⟩
  have hmi : max (at_ : Int) (now : Int) = (m : Int) := by omega
  have HM := Lib.hid hm
  have HMI := Lib.hid hmi
  have hm5 : m ≤ 1125899906842624 := by omega
  clear hm hmi
  have c0 : Kept (fun _ => False) w2 w2 := Kept.refl _ _
  have KS : Hid (∀ (w' : World), Kept (fun _ => False) w2 w' → w'.cell? ⟨b, 1, none⟩ = some (.int .i64 now) ∧ w'.cell? ⟨b, 2, none⟩ = some (.int .i64 (last' : Int)) ∧ Kept (fun _ => False) w2 w') :=
    fun w' k => ⟨(k.blk hb2 (fun h => h)).cell (o := 1) rfl, (k.blk hb2 (fun h => h)).cell (o := 2) rfl, k⟩
  go_cut [8] (fun s8 wx => s8 = .pointer (some ⟨w2.heap.size, 0, none⟩) ∧ Blk wx w2.heap.size [.int .i64 m, .int .i64 last', .int .i64 z] TD ∧ Kept (fun _ => False) w2 wx)
  case first =>
    go_region_held3 (fun w' => w'.cell? ⟨b, 1, none⟩ = some (.int .i64 now) ∧ w'.cell? ⟨b, 2, none⟩ = some (.int .i64 (last' : Int)) ∧ Kept (fun _ => False) w2 w') (first | exact KS.out _ (by assumption) | exact KS.out _ c0.drew | exact KS.out _ (c0.alloc _) | exact KS.out _ (c0.alloc _).drew | exact KS.out _ (Kept.alloc (by assumption) _) | exact KS.out _ (Kept.drew (Kept.alloc (by assumption) _)))
      (fail)
    all_goals
      go_wp2_with fail
      rw [HMI.out]
      go_meet
      exact ⟨rfl, (Blk.new w2 [.int .i64 m, .int .i64 last', .int .i64 z] TD).drew, (c0.alloc _).drew⟩
  case rest =>
    obtain ⟨rfl, hx3, K3⟩ := hcut
    have hb3 := K3.blk hb2 (fun h => h)
    have hr3 := hr2.kept K3 (fun _ _ h => h)
    have hk3 := K2.trans (K3.mono (fun _ _ h => h.elim))
    have hxw : Hid (w.heap.size ≤ w2.heap.size) := K2.size
    clear c0 c1 c2 KS hb2 hr2 K2 K3
    generalize w2.heap.size = x at *
    have c3 := hb3.cell (o := 3) rfl
    go_wp2_with fail
    clear c3
    have hxb : ¬ x = b := fun e => by have := hbl.out; have := hxw.out; omega
    go_loopg [9] K.length (fun k s9 wr => ∃ i : Nat, Hid (k = i) ∧ i ≤ K.length ∧ s9 = .int .i64 ((i : Nat) : Int) ∧ Hid (∀ j (hj : j < K.length), i ≤ j → m < K[j].1) ∧
      Blk wr b [.int .i64 most, .int .i64 now, .int .i64 last', .slice s K.length cap] TR ∧ RRow wr B (.slice s K.length cap) K ∧ Blk wr x [.int .i64 m, .int .i64 last', .int .i64 z] TD ∧ Kept (fun k => k = b) w wr)
    case atStart => exact ⟨K.length, rfl, by omega, rfl, fun j hj h => by omega, hb3, hr3, hx3, hk3⟩
    case round =>
      obtain ⟨i, hk, hi, rfl, hle, hb2, hr2, hx2, hk2⟩ := hrel
      clear hb3 hr3 hx3 hk3
      have c3 := hb2.cell (o := 3) rfl
      have x0 := hx2.cell (o := 0) rfl
      have HLE := Lib.hid hle
      rcases Nat.eq_zero_or_pos i with hi0 | hpos
      · have hd : decide ((0 : Int) < (i : Int)) = false := decide_eq_false (by omega)
        have hdn : decide (0 < i) = false := decide_eq_false (by omega)
        rcases hs with ⟨rfl, rfl, rfl⟩ | ⟨g, rfl, hg1, hg2⟩
        · subst hi0
          go_wp2_with fail
          go_quiet (fail)
          have hb3 : Blk (wr.drewN nq) b [.int .i64 most, .int .i64 now, .int .i64 last', .slice none 0 0] TR := hb2
          have hr3 : RRow (wr.drewN nq) B (.slice none 0 0) [] := hr2
          have hx3 : Blk (wr.drewN nq) x [.int .i64 m, .int .i64 last', .int .i64 z] TD := hx2
          have hk3 := hk2.drewN nq
          have HG : Hid (∀ g', (Value.slice none 0 0).ownBlock = some g' → g' < (wr.drewN nq).heap.size) := fun g' hg => (hr3.lt g' hg).2
          have HXL : Hid (x < (wr.drewN nq).heap.size) := hx3.lt
          clear c3  hb2 hr2 hk2 hx2 x0
          generalize wr.drewN nq = w2 at *
          have c3 := hb3.cell (o := 3) rfl
          have hblt := hb3.lt
          have hf1 := RRow.fresh w2
          have K4 : Kept (fun _ => False) w2 (w2.alloc (.cells #[] 47)) := (Kept.refl _ w2).alloc _
          have hr4 : Src (w2.alloc (.cells #[] 47)) (.slice none 0 0) [] := Or.inl ⟨rfl, rfl⟩
          go_wp2_with (at_builtin; refine wpList_app rfl (.tmp 69) (.tmp 75) rfl w2.heap.size rfl hf1 rfl hr4 ?c1 ?c2 ?_)
          case c1 => simp
          case c2 => simp
          intro v1 w5 A1
          have o1 := A1.row
          have K5 := A1.old K4 (fun g hg => by cases hg; exact Nat.le_refl _)
          rw [List.nil_append] at o1
          have hb5 := K5.blk hb3 (fun h => h)
          have hx5 := K5.blk hx3 (fun h => h)
          have hr5 := hr3.kept K5 (fun _ _ h => h)
          have hk5 := hk3.trans (K5.mono (fun _ _ h => h.elim))
          have hs25 := K5.size
          have hws := hk3.size
          clear A1 c3 hf1 hr4 hb3 hr3 hk3 hx3 hd
          have c3 := hb5.cell (o := 3) rfl
          have x0 := hx5.cell (o := 0) rfl
          have x1 := hx5.cell (o := 1) rfl
          have x2 := hx5.cell (o := 2) rfl
          have hblt := hb5.lt
          have hxlt := hx5.lt
          have HB := Lib.hid hb5
          have HX := Lib.hid hx5
          have HR := Lib.hid hr5
          have HO := Lib.hid o1
          have KA := Lib.hid ((Kept.refl (fun _ => False) w5).alloc (.cells #[.int .i64 m, .int .i64 last', .int .i64 z] 47))
          have NB := Lib.hid (Blk.new w5 [.int .i64 m, .int .i64 last', .int .i64 z] 47)
          have L1 := Lib.hid o1.lt
          have HO4 := Lib.hid (RRow.kept HO.out KA.out (fun _ _ h => h))
          have HI := Lib.hid hi
          have HLEE := Lib.hid hle
          have hk5 : Hid (Kept (fun k => k = b) w w5) := hk5
          have hbase : Hid (w.heap.size ≤ w2.heap.size) := hws
          have hs25' : Hid (w2.heap.size ≤ w5.heap.size) := hs25
          have KA2 : Hid (Kept (fun k => v1.ownBlock = some k) w5 (w5.alloc (.cells #[.int .i64 m, .int .i64 last', .int .i64 z] 47))) := KA.out.mono (fun _ _ h => h.elim)
          have hxb2 : ¬ b = x := fun e => hxb e.symm
          clear hb5 hx5 hr5 o1 hws hs25 hle hi K4 K5
          go_upto_region 11 with fail
          go_region_law ((first
            | (refine step_app (by rfl) (.tmp 78) (.tmp 80) (by rfl) w2.heap.size (by rfl) (by exact HO4.out) (by rfl) (by exact src_one NB.out) (by simp) (by have := hs25'.out; simp; omega) ?_; intro v6 w6 A6; have K6 : Kept (fun k => v1.ownBlock = some k) w5 w6 := Kept.trans' (by first | exact KA2.out | exact KA2.out.drew) A6.kept (fun i hi e => e); have hb6 := Kept.blk K6 HB.out (fun e => by have := (L1.out b e).1; have := hbl.out; have := hbase.out; omega); have c36 := Blk.cell (o := 3) hb6 rfl; have hr6 := RRow.kept HR.out K6 (fun g' hg e => by have := (L1.out g' e).1; have := HG.out g' hg; omega); have hx6 := Kept.blk K6 HX.out (fun e => by have := (L1.out x e).1; have := HXL.out; omega))
            | (refine step_app (by rfl) (.tmp 81) (.tmp 87) (by rfl) w2.heap.size (by rfl) (by exact A6.row) (by rfl) (by exact (show Src w6 (.slice none 0 0) [] from Or.inl ⟨rfl, rfl⟩)) (by simp) (by have := hs25'.out; have := K6.size; show w2.heap.size ≤ w6.heap.size; omega) ?_; intro v7 w7 A7; obtain ⟨sq, nw, capq, ev7⟩ := RRow.form2 A7.row; subst ev7; have K7 : Kept (fun k => w2.heap.size ≤ k) w6 w7 := Kept.trans (by first | exact Kept.refl _ w6 | exact (Kept.refl _ w6).drew) (Kept.mono A7.kept (fun i _ e => (RRow.lt A6.row i e).1)); have hb7 := Kept.blk K7 hb6 (fun e => by have := hbl.out; have := hbase.out; omega); have c37 := Blk.cell (o := 3) hb7 rfl; have f37 := Blk.frozen hb7 3; have l37 := Blk.lt hb7; have hx7 := Kept.blk K7 hx6 (fun e => by have := HXL.out; omega); have x17 := Blk.cell (o := 1) hx7 rfl)))
          all_goals
            go_wp2_with fail
            go_ret2
            have o7 := A7.row
            have l7 := o7.lt
            have hn7 : ∀ g', (Value.slice sq nw capq).ownBlock = some g' → ¬ g' = b := fun g' hg e => by have := l7 g' hg; have := hbl.out; have := hbase.out; omega
            have Kst := Kept.one w7 b 3 (.slice sq nw capq)
            have hk7 : Kept (fun k => k = b) w w7 := (hk5.out.trans' K6 (fun i hi e => by have := (L1.out i e).1; have := hbase.out; omega)).trans' K7 (fun i hi e => by have := hbase.out; omega)
            have hins := ins_at (x := (m, last', z)) hsrt.out HI.out (fun j hj => by simp at hj) (fun h => by simp at h)
            rw [List.append_assoc] at o7
            have o8 : RRow w7 w2.heap.size (.slice sq nw capq) (ins (m, last', z) []) := by rw [hins]; exact o7
            have e1 : (max at_ now, last + 1, z) = (m, last', z) := by rw [HM.out, HL.out]
            rw [e1]
            have e2 : ((last + 1 : Nat) : Int) = (last' : Int) := by rw [HL.out]
            refine ⟨.slice sq nw capq, by rw [e2]; rfl, ⟨by rw [← HL.out]; exact hb7.set 3 (.slice sq nw capq), (o8.kept Kst hn7).base (fun g' hg => by have := l7 g' hg; have := hbase.out; omega), fun hg => hn7 b hg rfl⟩, hk7.trans Kst, fun g' hg => by have := l7 g' hg; have := hbase.out; omega⟩
        · have HI0 := Lib.hid hi0
          clear hi0
          by_cases hci : cap = i
          · have hci' := hci.symm
            subst hci'
            have HKL : Hid (K.length ≤ i) := hcap
            clear hcap
            go_wp2_with fail
            go_quiet (fail)
            have hb3 : Blk (wr.drewN nq) b [.int .i64 most, .int .i64 now, .int .i64 last', .slice (some ⟨g, 0, none⟩) K.length i] TR := hb2
            have hr3 : RRow (wr.drewN nq) B (.slice (some ⟨g, 0, none⟩) K.length i) K := hr2
            have hx3 : Blk (wr.drewN nq) x [.int .i64 m, .int .i64 last', .int .i64 z] TD := hx2
            have hk3 := hk2.drewN nq
            have HG : Hid (∀ g', (Value.slice (some ⟨g, 0, none⟩) K.length i).ownBlock = some g' → g' < (wr.drewN nq).heap.size) := fun g' hg => (hr3.lt g' hg).2
            have HXL : Hid (x < (wr.drewN nq).heap.size) := hx3.lt
            clear c3  hb2 hr2 hk2 hx2 x0
            generalize wr.drewN nq = w2 at *
            have c3 := hb3.cell (o := 3) rfl
            have hblt := hb3.lt
            have i0 : (0 : Int) ≤ (i : Int) := by omega
            have i1 : (i : Int) ≤ (i : Int) := by omega
            have hf1 := RRow.fresh w2
            have K4 : Kept (fun _ => False) w2 (w2.alloc (.cells #[] 47)) := (Kept.refl _ w2).alloc _
            have hr4 : Src (w2.alloc (.cells #[] 47)) (.slice (some ⟨g, 0, none⟩) i i) (K.take i) := (hr3.kept K4 (fun _ _ h => h)).first i hi i
            go_wp2_with (at_builtin; refine wpList_app rfl (.tmp 69) (.tmp 75) rfl w2.heap.size rfl hf1 rfl hr4 ?c1 ?c2 ?_)
            case c1 => rw [List.length_take]; simp; omega
            case c2 => simp
            intro v1 w5 A1
            have o1 := A1.row
            have K5 := A1.old K4 (fun g hg => by cases hg; exact Nat.le_refl _)
            rw [List.nil_append] at o1
            have hb5 := K5.blk hb3 (fun h => h)
            have hx5 := K5.blk hx3 (fun h => h)
            have hr5 := hr3.kept K5 (fun _ _ h => h)
            have hk5 := hk3.trans (K5.mono (fun _ _ h => h.elim))
            have hs25 := K5.size
            have hws := hk3.size
            clear A1 c3 hf1 hr4 hb3 hr3 hk3 hx3 hd
            have c3 := hb5.cell (o := 3) rfl
            have x0 := hx5.cell (o := 0) rfl
            have x1 := hx5.cell (o := 1) rfl
            have x2 := hx5.cell (o := 2) rfl
            have hblt := hb5.lt
            have hxlt := hx5.lt
            have HB := Lib.hid hb5
            have HX := Lib.hid hx5
            have HR := Lib.hid hr5
            have HO := Lib.hid o1
            have i2 : (i : Int) ≤ (K.length : Int) := by omega
            have KA := Lib.hid ((Kept.refl (fun _ => False) w5).alloc (.cells #[.int .i64 m, .int .i64 last', .int .i64 z] 47))
            have NB := Lib.hid (Blk.new w5 [.int .i64 m, .int .i64 last', .int .i64 z] 47)
            have L1 := Lib.hid o1.lt
            have HO4 := Lib.hid (RRow.kept HO.out KA.out (fun _ _ h => h))
            have HI := Lib.hid hi
            have HLEE := Lib.hid hle
            have hk5 : Hid (Kept (fun k => k = b) w w5) := hk5
            have hbase : Hid (w.heap.size ≤ w2.heap.size) := hws
            have hs25' : Hid (w2.heap.size ≤ w5.heap.size) := hs25
            have KA2 : Hid (Kept (fun k => v1.ownBlock = some k) w5 (w5.alloc (.cells #[.int .i64 m, .int .i64 last', .int .i64 z] 47))) := KA.out.mono (fun _ _ h => h.elim)
            have hxb2 : ¬ b = x := fun e => hxb e.symm
            clear hb5 hx5 hr5 o1 hws hs25 hle hi K4 K5
            go_upto_region 11 with fail
            go_region_law ((first
              | (refine step_app (by rfl) (.tmp 78) (.tmp 80) (by rfl) w2.heap.size (by rfl) (by exact HO4.out) (by rfl) (by exact src_one NB.out) (by rw [List.length_take]; simp; omega) (by have := hs25'.out; simp; omega) ?_; intro v6 w6 A6; have K6 : Kept (fun k => v1.ownBlock = some k) w5 w6 := Kept.trans' (by first | exact KA2.out | exact KA2.out.drew) A6.kept (fun i hi e => e); have hb6 := Kept.blk K6 HB.out (fun e => by have := (L1.out b e).1; have := hbl.out; have := hbase.out; omega); have c36 := Blk.cell (o := 3) hb6 rfl; have hr6 := RRow.kept HR.out K6 (fun g' hg e => by have := (L1.out g' e).1; have := HG.out g' hg; omega); have hx6 := Kept.blk K6 HX.out (fun e => by have := (L1.out x e).1; have := HXL.out; omega))
              | (refine step_app (by rfl) (.tmp 81) (.tmp 87) (by rfl) w2.heap.size (by rfl) (by exact A6.row) (by rfl) (by exact src_none i (K.length - i) HKL.out rfl _ _) (by rw [List.length_append, List.length_take, List.length_drop]; simp; omega) (by have := hs25'.out; have := K6.size; show w2.heap.size ≤ w6.heap.size; omega) ?_; intro v7 w7 A7; obtain ⟨sq, nw, iq, ev7⟩ := RRow.form2 A7.row; subst ev7; have K7 : Kept (fun k => w2.heap.size ≤ k) w6 w7 := Kept.trans (by first | exact Kept.refl _ w6 | exact (Kept.refl _ w6).drew) (Kept.mono A7.kept (fun i _ e => (RRow.lt A6.row i e).1)); have hb7 := Kept.blk K7 hb6 (fun e => by have := hbl.out; have := hbase.out; omega); have c37 := Blk.cell (o := 3) hb7 rfl; have f37 := Blk.frozen hb7 3; have l37 := Blk.lt hb7; have hx7 := Kept.blk K7 hx6 (fun e => by have := HXL.out; omega); have x17 := Blk.cell (o := 1) hx7 rfl)))
            all_goals
              go_wp2_with fail
              go_ret2
              have o7 := A7.row
              have l7 := o7.lt
              have hn7 : ∀ g', (Value.slice sq nw iq).ownBlock = some g' → ¬ g' = b := fun g' hg e => by have := l7 g' hg; have := hbl.out; have := hbase.out; omega
              have Kst := Kept.one w7 b 3 (.slice sq nw iq)
              have hk7 : Kept (fun k => k = b) w w7 := (hk5.out.trans' K6 (fun i hi e => by have := (L1.out i e).1; have := hbase.out; omega)).trans' K7 (fun i hi e => by have := hbase.out; omega)
              have hins := ins_at (x := (m, last', z)) hsrt.out HI.out (fun j hj hji => by have := HI0.out; omega) (fun h => by have := HKL.out; omega)
              rw [List.append_assoc] at o7
              have o8 : RRow w7 w2.heap.size (.slice sq nw iq) (ins (m, last', z) K) := by rw [hins]; exact o7
              have e1 : (max at_ now, last + 1, z) = (m, last', z) := by rw [HM.out, HL.out]
              rw [e1]
              have e2 : ((last + 1 : Nat) : Int) = (last' : Int) := by rw [HL.out]
              refine ⟨.slice sq nw iq, by rw [e2]; rfl, ⟨by rw [← HL.out]; exact hb7.set 3 (.slice sq nw iq), (o8.kept Kst hn7).base (fun g' hg => by have := l7 g' hg; have := hbase.out; omega), fun hg => hn7 b hg rfl⟩, hk7.trans Kst, fun g' hg => by have := l7 g' hg; have := hbase.out; omega⟩
          · have hci2 : ¬ (cap : Int) = (i : Int) := by omega
            go_wp2_with fail
            go_quiet (fail)
            have hb3 : Blk (wr.drewN nq) b [.int .i64 most, .int .i64 now, .int .i64 last', .slice (some ⟨g, 0, none⟩) K.length cap] TR := hb2
            have hr3 : RRow (wr.drewN nq) B (.slice (some ⟨g, 0, none⟩) K.length cap) K := hr2
            have hx3 : Blk (wr.drewN nq) x [.int .i64 m, .int .i64 last', .int .i64 z] TD := hx2
            have hk3 := hk2.drewN nq
            have HG : Hid (∀ g', (Value.slice (some ⟨g, 0, none⟩) K.length cap).ownBlock = some g' → g' < (wr.drewN nq).heap.size) := fun g' hg => (hr3.lt g' hg).2
            have HXL : Hid (x < (wr.drewN nq).heap.size) := hx3.lt
            clear c3  hb2 hr2 hk2 hx2 x0
            generalize wr.drewN nq = w2 at *
            have c3 := hb3.cell (o := 3) rfl
            have hblt := hb3.lt
            have i0 : (0 : Int) ≤ (i : Int) := by omega
            have i1 : (i : Int) ≤ (cap : Int) := by omega
            have hf1 := RRow.fresh w2
            have K4 : Kept (fun _ => False) w2 (w2.alloc (.cells #[] 47)) := (Kept.refl _ w2).alloc _
            have hr4 : Src (w2.alloc (.cells #[] 47)) (.slice (some ⟨g, 0, none⟩) i cap) (K.take i) := (hr3.kept K4 (fun _ _ h => h)).first i hi cap
            go_wp2_with (at_builtin; refine wpList_app rfl (.tmp 69) (.tmp 75) rfl w2.heap.size rfl hf1 rfl hr4 ?c1 ?c2 ?_)
            case c1 => rw [List.length_take]; simp; omega
            case c2 => simp
            intro v1 w5 A1
            have o1 := A1.row
            have K5 := A1.old K4 (fun g hg => by cases hg; exact Nat.le_refl _)
            rw [List.nil_append] at o1
            have hb5 := K5.blk hb3 (fun h => h)
            have hx5 := K5.blk hx3 (fun h => h)
            have hr5 := hr3.kept K5 (fun _ _ h => h)
            have hk5 := hk3.trans (K5.mono (fun _ _ h => h.elim))
            have hs25 := K5.size
            have hws := hk3.size
            clear A1 c3 hf1 hr4 hb3 hr3 hk3 hx3 hd
            have c3 := hb5.cell (o := 3) rfl
            have x0 := hx5.cell (o := 0) rfl
            have x1 := hx5.cell (o := 1) rfl
            have x2 := hx5.cell (o := 2) rfl
            have hblt := hb5.lt
            have hxlt := hx5.lt
            have HB := Lib.hid hb5
            have HX := Lib.hid hx5
            have HR := Lib.hid hr5
            have HO := Lib.hid o1
            have i2 : (i : Int) ≤ (K.length : Int) := by omega
            have KA := Lib.hid ((Kept.refl (fun _ => False) w5).alloc (.cells #[.int .i64 m, .int .i64 last', .int .i64 z] 47))
            have NB := Lib.hid (Blk.new w5 [.int .i64 m, .int .i64 last', .int .i64 z] 47)
            have L1 := Lib.hid o1.lt
            have HO4 := Lib.hid (RRow.kept HO.out KA.out (fun _ _ h => h))
            have HI := Lib.hid hi
            have HLEE := Lib.hid hle
            have hk5 : Hid (Kept (fun k => k = b) w w5) := hk5
            have hbase : Hid (w.heap.size ≤ w2.heap.size) := hws
            have hs25' : Hid (w2.heap.size ≤ w5.heap.size) := hs25
            have KA2 : Hid (Kept (fun k => v1.ownBlock = some k) w5 (w5.alloc (.cells #[.int .i64 m, .int .i64 last', .int .i64 z] 47))) := KA.out.mono (fun _ _ h => h.elim)
            have hxb2 : ¬ b = x := fun e => hxb e.symm
            clear hb5 hx5 hr5 o1 hws hs25 hle hi K4 K5
            go_upto_region 11 with fail
            go_region_law ((first
              | (refine step_app (by rfl) (.tmp 78) (.tmp 80) (by rfl) w2.heap.size (by rfl) (by exact HO4.out) (by rfl) (by exact src_one NB.out) (by rw [List.length_take]; simp; omega) (by have := hs25'.out; simp; omega) ?_; intro v6 w6 A6; have K6 : Kept (fun k => v1.ownBlock = some k) w5 w6 := Kept.trans' (by first | exact KA2.out | exact KA2.out.drew) A6.kept (fun i hi e => e); have hb6 := Kept.blk K6 HB.out (fun e => by have := (L1.out b e).1; have := hbl.out; have := hbase.out; omega); have c36 := Blk.cell (o := 3) hb6 rfl; have hr6 := RRow.kept HR.out K6 (fun g' hg e => by have := (L1.out g' e).1; have := HG.out g' hg; omega); have hx6 := Kept.blk K6 HX.out (fun e => by have := (L1.out x e).1; have := HXL.out; omega))
              | (refine step_app (by rfl) (.tmp 81) (.tmp 87) (by rfl) w2.heap.size (by rfl) (by exact A6.row) (by rfl) (by exact ((RRow.rest hr6 i (K.length - i) HI.out rfl (cap - i)))) (by rw [List.length_append, List.length_take, List.length_drop]; simp; omega) (by have := hs25'.out; have := K6.size; show w2.heap.size ≤ w6.heap.size; omega) ?_; intro v7 w7 A7; obtain ⟨sq, nw, capq, ev7⟩ := RRow.form2 A7.row; subst ev7; have K7 : Kept (fun k => w2.heap.size ≤ k) w6 w7 := Kept.trans (by first | exact Kept.refl _ w6 | exact (Kept.refl _ w6).drew) (Kept.mono A7.kept (fun i _ e => (RRow.lt A6.row i e).1)); have hb7 := Kept.blk K7 hb6 (fun e => by have := hbl.out; have := hbase.out; omega); have c37 := Blk.cell (o := 3) hb7 rfl; have f37 := Blk.frozen hb7 3; have l37 := Blk.lt hb7; have hx7 := Kept.blk K7 hx6 (fun e => by have := HXL.out; omega); have x17 := Blk.cell (o := 1) hx7 rfl)))
            all_goals
              go_wp2_with fail
              go_ret2
              have o7 := A7.row
              have l7 := o7.lt
              have hn7 : ∀ g', (Value.slice sq nw capq).ownBlock = some g' → ¬ g' = b := fun g' hg e => by have := l7 g' hg; have := hbl.out; have := hbase.out; omega
              have Kst := Kept.one w7 b 3 (.slice sq nw capq)
              have hk7 : Kept (fun k => k = b) w w7 := (hk5.out.trans' K6 (fun i hi e => by have := (L1.out i e).1; have := hbase.out; omega)).trans' K7 (fun i hi e => by have := hbase.out; omega)
              have hins := ins_at (x := (m, last', z)) hsrt.out HI.out (fun j hj hji => by have := HI0.out; omega) (fun h => HLEE.out i h (Nat.le_refl _))
              rw [List.append_assoc] at o7
              have o8 : RRow w7 w2.heap.size (.slice sq nw capq) (ins (m, last', z) K) := by rw [hins]; exact o7
              have e1 : (max at_ now, last + 1, z) = (m, last', z) := by rw [HM.out, HL.out]
              rw [e1]
              have e2 : ((last + 1 : Nat) : Int) = (last' : Int) := by rw [HL.out]
              refine ⟨.slice sq nw capq, by rw [e2]; rfl, ⟨by rw [← HL.out]; exact hb7.set 3 (.slice sq nw capq), (o8.kept Kst hn7).base (fun g' hg => by have := l7 g' hg; have := hbase.out; omega), fun hg => hn7 b hg rfl⟩, hk7.trans Kst, fun g' hg => by have := l7 g' hg; have := hbase.out; omega⟩
      · obtain ⟨j, hj⟩ : ∃ j, i = j + 1 := ⟨i - 1, by omega⟩
        have hjl : j < K.length := by omega
        rcases hs with ⟨rfl, rfl, rfl⟩ | ⟨g, rfl, hg1, hg2⟩
        · simp at hjl
        · obtain ⟨r0, r1, r2⟩ := hr2.at hjl
          obtain ⟨t, ht⟩ : ∃ t, t = K[j].1 := ⟨_, rfl⟩
          rw [← ht] at r0
          have HT := Lib.hid ht
          have hji : (i : Int) - 1 = (j : Int) := by omega
          have hjw : IntKind.i64.wrap (j : Int) = (j : Int) := by rw [IntKind.wrap_i64]; omega
          have hjt : ((j : Int)).toNat = j := by omega
          have j0 : (0 : Int) ≤ (j : Int) := by omega
          have j1 : (j : Int) < (K.length : Int) := by omega
          have hd : decide ((0 : Int) < (i : Int)) = true := decide_eq_true (by omega)
          have hdn : decide (0 < i) = true := decide_eq_true (by omega)
          have HJ := Lib.hid hj
          clear ht r1 r2 hj
          by_cases hti : m < t
          · have hd2 : decide ((m : Int) < (t : Int)) = true := decide_eq_true (by omega)
            go_wp2_with fail
            go_quiet (fail)
            go_wp2_with fail
            go_roundg j
            case measure => have := hk.out; have := HJ.out; omega
            case rel =>
              refine ⟨j, rfl, by omega, rfl, fun k hkl hjk => ?_, hb2, hr2, hx2, hk2.drewN nq⟩
              rcases Nat.lt_or_ge k i with h | h
              · have hjk2 : k = j := by have := HJ.out; omega
                subst hjk2
                have := HT.out
                omega
              · exact hle.out k hkl h
          · have hd2 : decide ((m : Int) < (t : Int)) = false := decide_eq_false (by omega)
            have HEA : Hid (∀ k (hkl : k < K.length), k < i → K[k].1 ≤ m) := fun k hkl hki => by
              have h1 := HT.out
              have h2 := HJ.out
              rcases Nat.lt_or_ge k j with h | h
              · have := List.pairwise_iff_getElem.1 hsrt.out k j hkl hjl h
                omega
              · have : k = j := by omega
                subst this
                omega
            by_cases hci : cap = i
            · have hci' := hci.symm
              subst hci'
              have HKL : Hid (K.length ≤ i) := hcap
              clear hcap
              go_wp2_with fail
              go_quiet (fail)
              have hb3 : Blk (wr.drewN nq) b [.int .i64 most, .int .i64 now, .int .i64 last', .slice (some ⟨g, 0, none⟩) K.length i] TR := hb2
              have hr3 : RRow (wr.drewN nq) B (.slice (some ⟨g, 0, none⟩) K.length i) K := hr2
              have hx3 : Blk (wr.drewN nq) x [.int .i64 m, .int .i64 last', .int .i64 z] TD := hx2
              have hk3 := hk2.drewN nq
              have HG : Hid (∀ g', (Value.slice (some ⟨g, 0, none⟩) K.length i).ownBlock = some g' → g' < (wr.drewN nq).heap.size) := fun g' hg => (hr3.lt g' hg).2
              have HXL : Hid (x < (wr.drewN nq).heap.size) := hx3.lt
              clear c3 r0 hji hjw hjt j0 j1 hb2 hr2 hk2 hx2 x0
              generalize wr.drewN nq = w2 at *
              have c3 := hb3.cell (o := 3) rfl
              have hblt := hb3.lt
              have i0 : (0 : Int) ≤ (i : Int) := by omega
              have i1 : (i : Int) ≤ (i : Int) := by omega
              have hf1 := RRow.fresh w2
              have K4 : Kept (fun _ => False) w2 (w2.alloc (.cells #[] 47)) := (Kept.refl _ w2).alloc _
              have hr4 : Src (w2.alloc (.cells #[] 47)) (.slice (some ⟨g, 0, none⟩) i i) (K.take i) := (hr3.kept K4 (fun _ _ h => h)).first i hi i
              go_wp2_with (at_builtin; refine wpList_app rfl (.tmp 69) (.tmp 75) rfl w2.heap.size rfl hf1 rfl hr4 ?c1 ?c2 ?_)
              case c1 => rw [List.length_take]; simp; omega
              case c2 => simp
              intro v1 w5 A1
              have o1 := A1.row
              have K5 := A1.old K4 (fun g hg => by cases hg; exact Nat.le_refl _)
              rw [List.nil_append] at o1
              have hb5 := K5.blk hb3 (fun h => h)
              have hx5 := K5.blk hx3 (fun h => h)
              have hr5 := hr3.kept K5 (fun _ _ h => h)
              have hk5 := hk3.trans (K5.mono (fun _ _ h => h.elim))
              have hs25 := K5.size
              have hws := hk3.size
              clear A1 c3 hf1 hr4 hb3 hr3 hk3 hx3 hd
              have c3 := hb5.cell (o := 3) rfl
              have x0 := hx5.cell (o := 0) rfl
              have x1 := hx5.cell (o := 1) rfl
              have x2 := hx5.cell (o := 2) rfl
              have hblt := hb5.lt
              have hxlt := hx5.lt
              have HB := Lib.hid hb5
              have HX := Lib.hid hx5
              have HR := Lib.hid hr5
              have HO := Lib.hid o1
              have i2 : (i : Int) ≤ (K.length : Int) := by omega
              have KA := Lib.hid ((Kept.refl (fun _ => False) w5).alloc (.cells #[.int .i64 m, .int .i64 last', .int .i64 z] 47))
              have NB := Lib.hid (Blk.new w5 [.int .i64 m, .int .i64 last', .int .i64 z] 47)
              have L1 := Lib.hid o1.lt
              have HO4 := Lib.hid (RRow.kept HO.out KA.out (fun _ _ h => h))
              have HI := Lib.hid hi
              have HLEE := Lib.hid hle
              have hk5 : Hid (Kept (fun k => k = b) w w5) := hk5
              have hbase : Hid (w.heap.size ≤ w2.heap.size) := hws
              have hs25' : Hid (w2.heap.size ≤ w5.heap.size) := hs25
              have KA2 : Hid (Kept (fun k => v1.ownBlock = some k) w5 (w5.alloc (.cells #[.int .i64 m, .int .i64 last', .int .i64 z] 47))) := KA.out.mono (fun _ _ h => h.elim)
              have hxb2 : ¬ b = x := fun e => hxb e.symm
              clear hb5 hx5 hr5 o1 hws hs25 hle hi K4 K5
              go_upto_region 11 with fail
              go_region_law ((first
                | (refine step_app (by rfl) (.tmp 78) (.tmp 80) (by rfl) w2.heap.size (by rfl) (by exact HO4.out) (by rfl) (by exact src_one NB.out) (by rw [List.length_take]; simp; omega) (by have := hs25'.out; simp; omega) ?_; intro v6 w6 A6; have K6 : Kept (fun k => v1.ownBlock = some k) w5 w6 := Kept.trans' (by first | exact KA2.out | exact KA2.out.drew) A6.kept (fun i hi e => e); have hb6 := Kept.blk K6 HB.out (fun e => by have := (L1.out b e).1; have := hbl.out; have := hbase.out; omega); have c36 := Blk.cell (o := 3) hb6 rfl; have hr6 := RRow.kept HR.out K6 (fun g' hg e => by have := (L1.out g' e).1; have := HG.out g' hg; omega); have hx6 := Kept.blk K6 HX.out (fun e => by have := (L1.out x e).1; have := HXL.out; omega))
                | (refine step_app (by rfl) (.tmp 81) (.tmp 87) (by rfl) w2.heap.size (by rfl) (by exact A6.row) (by rfl) (by exact src_none i (K.length - i) HKL.out rfl _ _) (by rw [List.length_append, List.length_take, List.length_drop]; simp; omega) (by have := hs25'.out; have := K6.size; show w2.heap.size ≤ w6.heap.size; omega) ?_; intro v7 w7 A7; obtain ⟨sq, nw, iq, ev7⟩ := RRow.form2 A7.row; subst ev7; have K7 : Kept (fun k => w2.heap.size ≤ k) w6 w7 := Kept.trans (by first | exact Kept.refl _ w6 | exact (Kept.refl _ w6).drew) (Kept.mono A7.kept (fun i _ e => (RRow.lt A6.row i e).1)); have hb7 := Kept.blk K7 hb6 (fun e => by have := hbl.out; have := hbase.out; omega); have c37 := Blk.cell (o := 3) hb7 rfl; have f37 := Blk.frozen hb7 3; have l37 := Blk.lt hb7; have hx7 := Kept.blk K7 hx6 (fun e => by have := HXL.out; omega); have x17 := Blk.cell (o := 1) hx7 rfl)))
              all_goals
                go_wp2_with fail
                go_ret2
                have o7 := A7.row
                have l7 := o7.lt
                have hn7 : ∀ g', (Value.slice sq nw iq).ownBlock = some g' → ¬ g' = b := fun g' hg e => by have := l7 g' hg; have := hbl.out; have := hbase.out; omega
                have Kst := Kept.one w7 b 3 (.slice sq nw iq)
                have hk7 : Kept (fun k => k = b) w w7 := (hk5.out.trans' K6 (fun i hi e => by have := (L1.out i e).1; have := hbase.out; omega)).trans' K7 (fun i hi e => by have := hbase.out; omega)
                have hins := ins_at (x := (m, last', z)) hsrt.out HI.out HEA.out (fun h => by have := HKL.out; omega)
                rw [List.append_assoc] at o7
                have o8 : RRow w7 w2.heap.size (.slice sq nw iq) (ins (m, last', z) K) := by rw [hins]; exact o7
                have e1 : (max at_ now, last + 1, z) = (m, last', z) := by rw [HM.out, HL.out]
                rw [e1]
                have e2 : ((last + 1 : Nat) : Int) = (last' : Int) := by rw [HL.out]
                refine ⟨.slice sq nw iq, by rw [e2]; rfl, ⟨by rw [← HL.out]; exact hb7.set 3 (.slice sq nw iq), (o8.kept Kst hn7).base (fun g' hg => by have := l7 g' hg; have := hbase.out; omega), fun hg => hn7 b hg rfl⟩, hk7.trans Kst, fun g' hg => by have := l7 g' hg; have := hbase.out; omega⟩
            · have hci2 : ¬ (cap : Int) = (i : Int) := by omega
              go_wp2_with fail
              go_quiet (fail)
              have hb3 : Blk (wr.drewN nq) b [.int .i64 most, .int .i64 now, .int .i64 last', .slice (some ⟨g, 0, none⟩) K.length cap] TR := hb2
              have hr3 : RRow (wr.drewN nq) B (.slice (some ⟨g, 0, none⟩) K.length cap) K := hr2
              have hx3 : Blk (wr.drewN nq) x [.int .i64 m, .int .i64 last', .int .i64 z] TD := hx2
              have hk3 := hk2.drewN nq
              have HG : Hid (∀ g', (Value.slice (some ⟨g, 0, none⟩) K.length cap).ownBlock = some g' → g' < (wr.drewN nq).heap.size) := fun g' hg => (hr3.lt g' hg).2
              have HXL : Hid (x < (wr.drewN nq).heap.size) := hx3.lt
              clear c3 r0 hji hjw hjt j0 j1 hb2 hr2 hk2 hx2 x0
              generalize wr.drewN nq = w2 at *
              have c3 := hb3.cell (o := 3) rfl
              have hblt := hb3.lt
              have i0 : (0 : Int) ≤ (i : Int) := by omega
              have i1 : (i : Int) ≤ (cap : Int) := by omega
              have hf1 := RRow.fresh w2
              have K4 : Kept (fun _ => False) w2 (w2.alloc (.cells #[] 47)) := (Kept.refl _ w2).alloc _
              have hr4 : Src (w2.alloc (.cells #[] 47)) (.slice (some ⟨g, 0, none⟩) i cap) (K.take i) := (hr3.kept K4 (fun _ _ h => h)).first i hi cap
              go_wp2_with (at_builtin; refine wpList_app rfl (.tmp 69) (.tmp 75) rfl w2.heap.size rfl hf1 rfl hr4 ?c1 ?c2 ?_)
              case c1 => rw [List.length_take]; simp; omega
              case c2 => simp
              intro v1 w5 A1
              have o1 := A1.row
              have K5 := A1.old K4 (fun g hg => by cases hg; exact Nat.le_refl _)
              rw [List.nil_append] at o1
              have hb5 := K5.blk hb3 (fun h => h)
              have hx5 := K5.blk hx3 (fun h => h)
              have hr5 := hr3.kept K5 (fun _ _ h => h)
              have hk5 := hk3.trans (K5.mono (fun _ _ h => h.elim))
              have hs25 := K5.size
              have hws := hk3.size
              clear A1 c3 hf1 hr4 hb3 hr3 hk3 hx3 hd
              have c3 := hb5.cell (o := 3) rfl
              have x0 := hx5.cell (o := 0) rfl
              have x1 := hx5.cell (o := 1) rfl
              have x2 := hx5.cell (o := 2) rfl
              have hblt := hb5.lt
              have hxlt := hx5.lt
              have HB := Lib.hid hb5
              have HX := Lib.hid hx5
              have HR := Lib.hid hr5
              have HO := Lib.hid o1
              have i2 : (i : Int) ≤ (K.length : Int) := by omega
              have KA := Lib.hid ((Kept.refl (fun _ => False) w5).alloc (.cells #[.int .i64 m, .int .i64 last', .int .i64 z] 47))
              have NB := Lib.hid (Blk.new w5 [.int .i64 m, .int .i64 last', .int .i64 z] 47)
              have L1 := Lib.hid o1.lt
              have HO4 := Lib.hid (RRow.kept HO.out KA.out (fun _ _ h => h))
              have HI := Lib.hid hi
              have HLEE := Lib.hid hle
              have hk5 : Hid (Kept (fun k => k = b) w w5) := hk5
              have hbase : Hid (w.heap.size ≤ w2.heap.size) := hws
              have hs25' : Hid (w2.heap.size ≤ w5.heap.size) := hs25
              have KA2 : Hid (Kept (fun k => v1.ownBlock = some k) w5 (w5.alloc (.cells #[.int .i64 m, .int .i64 last', .int .i64 z] 47))) := KA.out.mono (fun _ _ h => h.elim)
              have hxb2 : ¬ b = x := fun e => hxb e.symm
              clear hb5 hx5 hr5 o1 hws hs25 hle hi K4 K5
              go_upto_region 11 with fail
              go_region_law ((first
                | (refine step_app (by rfl) (.tmp 78) (.tmp 80) (by rfl) w2.heap.size (by rfl) (by exact HO4.out) (by rfl) (by exact src_one NB.out) (by rw [List.length_take]; simp; omega) (by have := hs25'.out; simp; omega) ?_; intro v6 w6 A6; have K6 : Kept (fun k => v1.ownBlock = some k) w5 w6 := Kept.trans' (by first | exact KA2.out | exact KA2.out.drew) A6.kept (fun i hi e => e); have hb6 := Kept.blk K6 HB.out (fun e => by have := (L1.out b e).1; have := hbl.out; have := hbase.out; omega); have c36 := Blk.cell (o := 3) hb6 rfl; have hr6 := RRow.kept HR.out K6 (fun g' hg e => by have := (L1.out g' e).1; have := HG.out g' hg; omega); have hx6 := Kept.blk K6 HX.out (fun e => by have := (L1.out x e).1; have := HXL.out; omega))
                | (refine step_app (by rfl) (.tmp 81) (.tmp 87) (by rfl) w2.heap.size (by rfl) (by exact A6.row) (by rfl) (by exact ((RRow.rest hr6 i (K.length - i) HI.out rfl (cap - i)))) (by rw [List.length_append, List.length_take, List.length_drop]; simp; omega) (by have := hs25'.out; have := K6.size; show w2.heap.size ≤ w6.heap.size; omega) ?_; intro v7 w7 A7; obtain ⟨sq, nw, capq, ev7⟩ := RRow.form2 A7.row; subst ev7; have K7 : Kept (fun k => w2.heap.size ≤ k) w6 w7 := Kept.trans (by first | exact Kept.refl _ w6 | exact (Kept.refl _ w6).drew) (Kept.mono A7.kept (fun i _ e => (RRow.lt A6.row i e).1)); have hb7 := Kept.blk K7 hb6 (fun e => by have := hbl.out; have := hbase.out; omega); have c37 := Blk.cell (o := 3) hb7 rfl; have f37 := Blk.frozen hb7 3; have l37 := Blk.lt hb7; have hx7 := Kept.blk K7 hx6 (fun e => by have := HXL.out; omega); have x17 := Blk.cell (o := 1) hx7 rfl)))
              all_goals
                go_wp2_with fail
                go_ret2
                have o7 := A7.row
                have l7 := o7.lt
                have hn7 : ∀ g', (Value.slice sq nw capq).ownBlock = some g' → ¬ g' = b := fun g' hg e => by have := l7 g' hg; have := hbl.out; have := hbase.out; omega
                have Kst := Kept.one w7 b 3 (.slice sq nw capq)
                have hk7 : Kept (fun k => k = b) w w7 := (hk5.out.trans' K6 (fun i hi e => by have := (L1.out i e).1; have := hbase.out; omega)).trans' K7 (fun i hi e => by have := hbase.out; omega)
                have hins := ins_at (x := (m, last', z)) hsrt.out HI.out HEA.out (fun h => HLEE.out i h (Nat.le_refl _))
                rw [List.append_assoc] at o7
                have o8 : RRow w7 w2.heap.size (.slice sq nw capq) (ins (m, last', z) K) := by rw [hins]; exact o7
                have e1 : (max at_ now, last + 1, z) = (m, last', z) := by rw [HM.out, HL.out]
                rw [e1]
                have e2 : ((last + 1 : Nat) : Int) = (last' : Int) := by rw [HL.out]
                refine ⟨.slice sq nw capq, by rw [e2]; rfl, ⟨by rw [← HL.out]; exact hb7.set 3 (.slice sq nw capq), (o8.kept Kst hn7).base (fun g' hg => by have := l7 g' hg; have := hbase.out; omega), fun hg => hn7 b hg rfl⟩, hk7.trans Kst, fun g' hg => by have := l7 g' hg; have := hbase.out; omega⟩
end Go.Proofs.YtjmlglibmlfjaaaDoor.Rf
