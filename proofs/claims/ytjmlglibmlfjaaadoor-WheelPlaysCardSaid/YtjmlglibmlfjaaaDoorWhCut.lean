/- Buckets: find, drop, unlink. Conditions: each theorem's own. -/
import Derived.Test.YtjmlglibmlfjaaaDoorWhDrop
set_option linter.unusedVariables false
namespace Go.Proofs.YtjmlglibmlfjaaaDoor.Wh
open Go.RowKit Hp BitsM BitsC Tree
def Found (p : Lf) (w : World) (e : Ending) (w' : World) : Prop := e = .returned (.pointer (some ⟨p.b, 0, none⟩)) ∧ ∃ n, w' = w.drewN n
set_option maxHeartbeats 1000000 in
theorem find_any (T : Tr) (u : Option Addr) (hu : T.ptr = .pointer u) (w : World) (hw : WF T) (hT : Rep Y w T) (p : Lf) (hp : p ∈ T.lvs) (hpa : p.a ≤ 1125899906842624) :
   Calls Tryd.prog 22 #[.pointer u, .int .i64 p.a] w (Found p w) := by
  have HU := Lib.hid hu
  clear hu
  go_enter Tryd.func22, Tryd.ntmps22
  go_wp2_with fail
  go_loopg [0] T.hgt (fun k v wr => ∃ S u n, Hid (S.hgt = k) ∧ WF S ∧ Rep Y w S ∧ Hid (S.ptr = .pointer u) ∧ v = .pointer u ∧ Hid (p ∈ S.lvs) ∧ wr = w.drewN n)
  case atStart => exact ⟨T, u, 0, rfl, hw, hT, HU, rfl, hp, rfl⟩
  case round =>
    obtain ⟨S, u, n, hk, hwS, hS, huS, rfl, hL, rfl⟩ := hrel
    have K0 : Kept (fun _ => False) w (w.drewN n) := (Kept.refl _ w).drewN n
    have hS2 : Rep Y (w.drewN n) S := hS.kept K0 (fun _ _ h => h)
    generalize hw2 : w.drewN n = w2 at hS2 ⊢
    have HW2 := Lib.hid hw2
    clear hw2 K0 hp
    cases S with
    | nil => have := hL.out; simp [Tr.lvs] at this
    | leaf b a ts =>
      have hub : u = some ⟨b, 0, none⟩ := by have := huS.out; cases this; rfl
      subst hub
      have hpb : p.b = b := by have := hL.out; simp only [Tr.lvs, List.mem_singleton] at this; rw [this]
      have HP := Lib.hid hpb
      clear hpb
      have c0 := hS2.1.cell (o := 0) rfl
      go_wp2_with fail
      go_ret
      exact ⟨by rw [HP.out]; rfl, n, HW2.out.symm⟩
    | node b ib h a kids =>
      have hub : u = some ⟨b, 0, none⟩ := by have := huS.out; cases this; rfl
      subst hub
      obtain ⟨⟨m, m1, m2, m3⟩, h2, h3, h4⟩ := hS2
      obtain ⟨k, hh⟩ : ∃ k, h = k + 1 := ⟨h - 1, by have := hwS.1; omega⟩
      rw [show ((h : Int) - 1) = (k : Int) from by omega] at m3
      have h13 : k ≤ 12 := by have := hwS.2.1; omega
      have hkid := mem_kid hwS hL.out
      rw [show h - 1 = k from by omega] at hkid
      have hd := dig_lt p.a k
      obtain ⟨u', hu'⟩ := ptr_pointer (kids (dig p.a k))
      have HU' := Lib.hid hu'
      have HH := Lib.hid hh
      have HL := Lib.hid hkid
      clear hu' hh hkid m2 hL
      have c0 := m3.cell (o := 0) rfl
      have c5 := m3.cell (o := 5) rfl
      have e0 : w2.cell? ⟨ib, dig p.a k, none⟩ = some (.pointer u') := h2.cell (by simp [hd, HU'.out])
      go_wp2_with fail
      go_quiet ((go_at_call 35; exact Calls.quiet_of_same ((digit_any p.a k h13 _).mono fun _ _ ⟨e1, e2⟩ => ⟨e1, e2.symm⟩)))
      go_wp2_with fail
      go_roundg (kids (dig p.a k)).hgt
      case measure => have := ((hwS.2.2.2.2 _ hd).2 (nil_of_mem HL.out)).1; have := hk.out; simp only [Tr.hgt] at this; omega
      case rel => exact ⟨kids (dig p.a k), u', n + nq, rfl, (hwS.2.2.2.2 _ hd).1, (hS.2.2.2 _ hd).1, HU', rfl, HL, by rw [← HW2.out, World.drewN_drewN]⟩
theorem lowest_is (b m i : Nat) (hi : Lib.ctz 16 m = i) (c0 c1 c2 c3 c5 : Value) (w : World) (hb : Blk w b [c0, c1, c2, c3, .int .u16 m, c5] Y.tb) (hm : m < 65536) (h0 : m ≠ 0) (hT : Tab w) :
   Calls Tryd.prog 38 #[.pointer (some ⟨b, 0, none⟩)] w fun e w' => e = .returned (.int .i64 (i : Int)) ∧ w' = w :=
  hi ▸ lowest_any b m c0 c1 c2 c3 c5 w hb hm h0 hT
/-- What a drop leaves. -/
structure Drop (a : Nat) (T T' : Tr) (w w' : World) : Prop where
  rep : Rep Y w' T'
  wf : WF T'
  del : DelL a T.lvs T'.lvs
  foot : ∀ k, T'.F k → T.F k
  kept : Kept T.F w w'
  shape : T'.isNil = false → T'.hgt ≤ T.hgt ∧ T'.rep / 16 ^ T.hgt = T.rep / 16 ^ T.hgt
def Dropped (a : Nat) (T : Tr) (w : World) (e : Ending) (w' : World) : Prop := ∃ T', e = .returned T'.ptr ∧ Drop a T T' w w'
/-- A kid lost the leaf; two kids or more are left, or one. -/
theorem drop_kid {b ib h a c : Nat} {kids : Nat → Tr} {T' : Tr} {w w1 w2 : World} {k m : Nat} (hh : h = k + 1) (hw : WF (.node b ib h a kids)) (hT : Rep Y w (.node b ib h a kids))
   (hp : Drop c (kids (dig c k)) T' w w1) (hm : m < 65536) (hbits : ∀ d, d < 16 → m.testBit d = !(kids d).isNil)
   (hs : SetIn b ib (dig c k) (.int .i64 ((h : Int) - 1)) (.int .i64 a) (.pointer none) (.pointer none) m ((List.range 16).map fun d => (kids d).ptr) T' w1 w2) :
   ∃ m' : Nat, m' < 65536 ∧ m' ≠ 0 ∧ (∀ i, i < 16 → m'.testBit i = !(upd kids (dig c k) T' i).isNil) ∧
     Blk w2 b [.int .i64 ((h : Int) - 1), .int .i64 a, .pointer none, .pointer none, .int .u16 m', .slice (some ⟨ib, 0, none⟩) 16 16] Y.tb ∧
     Blk w2 ib ((List.range 16).map fun i => (upd kids (dig c k) T' i).ptr) Y.tp ∧ Kept (Tr.node b ib h a kids).F w w2 ∧
     (ones m' = 1 → ∀ i, i < 16 → m' = 2 ^ i → Drop c (.node b ib h a kids) (upd kids (dig c k) T' i) w w2) ∧
     (ones m' ≠ 1 → Drop c (.node b ib h a kids) (.node b ib h a (upd kids (dig c k) T')) w w2) := by
  obtain ⟨m', h1, h2, h3, h4, h5⟩ := hs
  have hd := dig_lt c k
  have hk : h - 1 = k := by omega
  have hbits' : ∀ i, i < 16 → m'.testBit i = !(upd kids (dig c k) T' i).isNil := fun i hi => by
    rw [h2 i hi]
    by_cases e : i = dig c k
    · subst e; rw [if_pos rfl, upd_same]
    · rw [if_neg e, upd_other _ e, hbits i hi]
  have h4' : Blk w2 ib ((List.range 16).map fun i => (upd kids (dig c k) T' i).ptr) Y.tp := by rw [← map_upd hd]; exact h4
  obtain ⟨r1, r2, r3⟩ := hT.setKid (T' := T') (X := fun _ => False) hd (fun i e => e.elim) (hp.kept.mono (fun _ _ e => Or.inl e)) hp.rep (fun i hi => Or.inl (hp.foot i hi)) h5 m' h1 hbits' h3 h4'
  have r2' : Kept (Tr.node b ib h a kids).F w w2 := r2.mono (fun i _ e => e.elim (fun e => e) (fun e => e.elim))
  have hlt := hT.lt
  have r3' : ∀ j, (Tr.node b ib h a (upd kids (dig c k) T')).F j → (Tr.node b ib h a kids).F j := fun j hj => by
    -- the new kid's blocks are the old one's
    rcases hj with rfl | rfl | ⟨d, hd', hF⟩
    · exact Or.inl rfl
    · exact Or.inr (Or.inl rfl)
    · by_cases e : d = dig c k
      · subst e; rw [upd_same] at hF; exact Or.inr (Or.inr ⟨_, hd', hp.foot j hF⟩)
      · rw [upd_other _ e] at hF; exact Or.inr (Or.inr ⟨d, hd', hF⟩)
  have hkid := hw.2.2.2.2 (dig c k) hd
  have hdel : DelL c (Tr.node b ib h a kids).lvs (Tr.node b ib h a (upd kids (dig c k) T')).lvs := DelL.kid hd hp.del
  have hnn : (kids (dig c k)).isNil = false := by
    obtain ⟨pre, post, bb, ts, e1, _⟩ := hp.del
    exact nil_of_mem (p := ⟨bb, c, ts⟩) (by rw [e1]; simp)
  have hT'ok : T'.isNil = false → T'.hgt < h ∧ dig T'.rep (h - 1) = dig c k ∧ T'.rep / 16 ^ h = a / 16 ^ h := fun hn => by
    obtain ⟨s1, s2⟩ := hp.shape hn
    obtain ⟨g1, g2, g3⟩ := hkid.2 hnn
    have s3 : T'.rep / 16 ^ (h - 1) = (kids (dig c k)).rep / 16 ^ (h - 1) := div_up s2 (by omega)
    exact ⟨by omega, (dig_of_div s3).trans g2, (div_up s3 (by omega)).trans g3⟩
  have hall : ∀ i, i < 16 → WF (upd kids (dig c k) T' i) ∧ ((upd kids (dig c k) T' i).isNil = false → (upd kids (dig c k) T' i).hgt < h ∧ dig (upd kids (dig c k) T' i).rep (h - 1) = i ∧ (upd kids (dig c k) T' i).rep / 16 ^ h = a / 16 ^ h) := fun i hi => by
    by_cases e : i = dig c k
    · subst e; rw [upd_same]; exact ⟨hp.wf, hT'ok⟩
    · rw [upd_other _ e]; exact hw.2.2.2.2 i hi
  -- another kid is there
  obtain ⟨o, ho, hone, hono⟩ : ∃ o, o < 16 ∧ o ≠ dig c k ∧ (kids o).isNil = false := by
    obtain ⟨i, j, hi, hj, hne, g1, g2⟩ := hw.2.2.2.1
    by_cases e : i = dig c k
    · exact ⟨j, hj, fun e' => hne (e.trans e'.symm), g2⟩
    · exact ⟨i, hi, e, g1⟩
  have hon : (upd kids (dig c k) T' o).isNil = false := by rw [upd_other _ hone]; exact hono
  have hm0 : m' ≠ 0 := mask_ne hbits' ho hon
  refine ⟨m', h1, hm0, hbits', h3, h4', r2', fun h11 i hi hmi => ?_, fun h11 => ?_⟩
  · have hother : ∀ d, d < 16 → d ≠ i → (upd kids (dig c k) T' d).isNil = true := fun d hd' hne => by
      have := hbits' d hd'
      rw [hmi, Nat.testBit_two_pow] at this
      have hne' : ¬ i = d := fun e => hne e.symm
      simpa [hne'] using this.symm
    have hii : (upd kids (dig c k) T' i).isNil = false := by
      have := hbits' i hi
      rw [hmi, Nat.testBit_two_pow] at this
      simpa using this.symm
    obtain ⟨q1, q2⟩ := hall i hi
    obtain ⟨s1, s2, s3⟩ := q2 hii
    refine ⟨(r1.2.2.2 i hi).1, q1, ?_, fun j hj => r3' j (Or.inr (Or.inr ⟨i, hi, hj⟩)), r2', fun _ => ⟨Nat.le_of_lt s1, s3⟩⟩
    rw [← lvs_alone (b := b) (ib := ib) (h := h) (a := a) hi hother]
    exact hdel
  · refine ⟨r1, ⟨hw.1, hw.2.1, hw.2.2.1, ?_, hall⟩, hdel, r3', r2', fun _ => ⟨Nat.le_refl _, rfl⟩⟩
    -- else there would be one bit
    apply Classical.byContradiction
    intro hno
    apply h11
    rw [ones_iff m' h1]
    refine ⟨o, ho, Nat.eq_of_testBit_eq fun j => ?_⟩
    rw [Nat.testBit_two_pow]
    by_cases hj : j < 16
    · rw [hbits' j hj]
      by_cases e : o = j
      · subst e; simp [hon]
      · cases hj0 : (upd kids (dig c k) T' j).isNil with
        | true => simp [e]
        | false => exact absurd ⟨o, j, ho, hj, e, hon, hj0⟩ hno
    · have e1 : m'.testBit j = false := Nat.testBit_lt_two_pow (Nat.lt_of_lt_of_le h1 (show 65536 ≤ 2 ^ j from Nat.le_trans (by decide) (Nat.pow_le_pow_right (n := 2) (by decide) (show 16 ≤ j by omega))))
      have e2 : ¬ o = j := by omega
      rw [e1]; simp [e2]
set_option maxHeartbeats 2000000 in
theorem drop_node (b ib h a : Nat) (kids : Nat → Tr) (w : World) (hw : WF (.node b ib h a kids)) (hT : Rep Y w (.node b ib h a kids)) (hTab : Tab w) (hF0 : ¬ (Tr.node b ib h a kids).F (0)) (c : Nat) (hc : c ≤ 1125899906842624)
   (ih : ∀ w : World, Rep Y w (kids (dig c (h - 1))) → Tab w → Calls Tryd.prog 24 #[(kids (dig c (h - 1))).ptr, .int .i64 c] w (Dropped c (kids (dig c (h - 1))) w)) :
   Calls Tryd.prog 24 #[.pointer (some ⟨b, 0, none⟩), .int .i64 c] w (Dropped c (.node b ib h a kids) w) := by
  obtain ⟨⟨m, m1, m2, m3⟩, h2, h3, h4⟩ := hT
  have hT : Rep Y w (.node b ib h a kids) := ⟨⟨m, m1, m2, m3⟩, h2, h3, h4⟩
  obtain ⟨k, hh⟩ : ∃ k, h = k + 1 := ⟨h - 1, by have := hw.1; omega⟩
  have hk : h - 1 = k := by omega
  have h13 : k ≤ 12 := by have := hw.2.1; omega
  rw [hk] at ih
  have hd := dig_lt c k
  obtain ⟨u, hu⟩ := ptr_pointer (kids (dig c k))
  rw [hu] at ih
  have bb := m3
  rw [show ((h : Int) - 1) = (k : Int) from by omega] at bb
  have HU := Lib.hid hu
  have HH := Lib.hid hh
  have HM := Lib.hid m2
  clear hu hh hk m2 m3
  have c0 := bb.cell (o := 0) rfl
  have c5 := bb.cell (o := 5) rfl
  have e0 : w.cell? ⟨ib, dig c k, none⟩ = some (.pointer u) := h2.cell (by simp [hd, HU.out])
  go_enter Tryd.func24, Tryd.ntmps24
  go_wp2_with fail
  refine (digit_any c k h13 _).mono ?_
  rintro e w' ⟨rfl, rfl⟩
  go_wp2_with fail
  refine (ih w (hT.2.2.2 _ hd).1 hTab).mono ?_
  rintro e w4 ⟨T', rfl, hp⟩
  obtain ⟨u', hu'⟩ := ptr_pointer T'
  rw [hu']
  have HU' := Lib.hid hu'
  clear hu' c5 e0 c0
  have bb4 := hp.kept.blk bb (hT.2.2.2 _ hd).2.1
  have h24 := hp.kept.blk h2 (hT.2.2.2 _ hd).2.2.1
  have hTab4 : Tab w4 := hTab.kept hp.kept (fun e => hF0 (Or.inr (Or.inr ⟨_, hd, e⟩)))
  go_wp2_with fail
  refine (set_ptr b ib (dig c k) m u' _ _ _ _ _ T' HU'.out w4 bb4 h24 (by simp) hd m1 h3).mono ?_
  rintro e w5 ⟨rfl, hs⟩
  rw [show (k : Int) = ((h : Int) - 1) from by have := HH.out; omega] at hs
  obtain ⟨m', n1, n2, n3, n4, n5, n6, n7, n8⟩ := drop_kid HH.out hw hT hp m1 HM.out hs
  have hTab5 : Tab w5 := hTab.kept n6 hF0
  rw [show ((h : Int) - 1) = (k : Int) from by have := HH.out; omega] at n4
  clear bb4 h24 hTab4 hs
  have c4 := n4.cell (o := 4) rfl
  have N3 := Lib.hid n3
  have N7 := Lib.hid n7
  have N8 := Lib.hid n8
  clear n3 n7 n8
  by_cases h11 : ones m' = 1
  · have H11 := Lib.hid h11
    obtain ⟨i, hi, hmi⟩ := (ones_iff m' n1).1 h11
    have hct : Lib.ctz 16 m' = i := by
      obtain ⟨q1, q2, q3⟩ := ctz_low m' n2 n1
      rw [hmi, Nat.testBit_two_pow] at q2
      simp at q2
      rw [← hmi] at q2; exact q2.symm
    have HMI := Lib.hid hmi
    have HCT := Lib.hid hct
    clear h11 hmi hct
    obtain ⟨v, hv⟩ := ptr_pointer (upd kids (dig c k) T' i)
    have HV := Lib.hid hv
    clear hv
    go_wp2_with fail
    refine (ones_any m' n1 w5).mono ?_
    rintro e w6 ⟨rfl, nq6, rfl⟩
    rw [H11.out]
    have K6 : Kept (fun _ => False) w5 (w5.drewN nq6) := (Kept.refl _ w5).drewN nq6
    have n46 := K6.blk n4 (fun h => h)
    have n56 := K6.blk n5 (fun h => h)
    have hTab6 : Tab (w5.drewN nq6) := hTab5.kept K6 (fun h => h)
    generalize w5.drewN nq6 = w6 at *
    clear c4
    have c5 := n46.cell (o := 5) rfl
    have e0 : w6.cell? ⟨ib, i, none⟩ = some (.pointer v) := n56.cell (by simp [hi, HV.out])
    go_wp2_with fail
    go_quiet ((go_at_call 38; exact Calls.quiet_of_same (lowest_is b m' i HCT.out _ _ _ _ _ _ n46 n1 n2 hTab6)))
    go_wp2_with fail
    go_ret
    have D := N7.out H11.out i hi HMI.out
    have K7 := K6.drewN nq
    refine ⟨upd kids (dig c k) T' i, by rw [HV.out]; rfl, D.rep.kept K7 (fun _ _ h => h), D.wf, D.del, D.foot, D.kept.trans (K7.mono (fun _ _ h => h.elim)), D.shape⟩
  · obtain ⟨q, hq⟩ : ∃ q : Int, q = ones m' := ⟨_, rfl⟩
    have hq1 : (q == 1) = false := beq_false_of_ne (by omega)
    have HQ := Lib.hid hq
    have H11 := Lib.hid h11
    clear hq h11
    go_wp2_with fail
    refine (ones_any m' n1 w5).mono ?_
    rintro e w6 ⟨rfl, nq6, rfl⟩
    rw [← HQ.out]
    have K6 : Kept (fun _ => False) w5 (w5.drewN nq6) := (Kept.refl _ w5).drewN nq6
    clear c4
    go_wp2_with fail
    go_ret
    have D := N8.out H11.out
    exact ⟨_, rfl, D.rep.kept K6 (fun _ _ h => h), D.wf, D.del, D.foot, D.kept.trans (K6.mono (fun _ _ h => h.elim)), D.shape⟩
/-- drop, whatever the tree. -/
theorem drop_any (c : Nat) (hc : c ≤ 1125899906842624) : ∀ (T : Tr) (w : World), WF T → Rep Y w T → Tab w → ¬ T.F (0) → (∃ p ∈ T.lvs, p.a = c) →
    Calls Tryd.prog 24 #[T.ptr, .int .i64 c] w (Dropped c T w) := by
  intro T
  induction T with
  | nil => intro w hw hT hTab hF ⟨p, hp, _⟩; simp [Tr.lvs] at hp
  | leaf b a ts =>
    intro w hw hT hTab hF ⟨p, hp, hpc⟩
    simp only [Tr.lvs, List.mem_singleton] at hp
    subst hp
    simp only at hpc
    subst hpc
    have c0 := hT.1.cell (o := 0) rfl
    show Calls Tryd.prog 24 #[.pointer (some ⟨b, 0, none⟩), .int .i64 a] w _
    go_enter Tryd.func24, Tryd.ntmps24
    go_wp2_with fail
    go_ret
    exact ⟨.nil, rfl, trivial, trivial, ⟨[], [], b, ts, rfl, rfl⟩, fun _ h => h.elim, Kept.refl _ _, fun h => by simp [Tr.isNil] at h⟩
  | node b ib h a kids ih =>
    intro w hw hT hTab hF ⟨p, hp, hpc⟩
    have hd := dig_lt c (h - 1)
    have hk := mem_kid hw hp
    rw [hpc] at hk
    exact drop_node b ib h a kids w hw hT hTab hF c hc (fun w' hr ht => ih _ w' (hw.2.2.2.2 _ hd).1 hr ht (fun e => hF (Or.inr (Or.inr ⟨_, hd, e⟩))) ⟨p, hk, hpc⟩)
end Go.Proofs.YtjmlglibmlfjaaaDoor.Wh
