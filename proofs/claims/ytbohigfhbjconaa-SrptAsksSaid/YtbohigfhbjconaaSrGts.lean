/- Who is granted what. Conditions: each theorem's own. -/
import Derived.Test.YtbohigfhbjconaaSrGiv
import Derived.Deep.CutBlock
import Derived.Deep.DeepCutAuto
set_option linter.unusedVariables false
set_option linter.unusedSimpArgs false
namespace Go.Proofs.Ytbohigfhbjconaa.Sr
open Go.RowKit Hp Go.Proofs.Ytbohigfhbjconaa.End Opn SrM So SoM NumM NumC
theorem give_any {wp w : World} {lv fv : Value} {l : List M} {fst : List Int} {rb : Nat} {p : Int} {s : Int × Got} {most : Int} (hl : Rd wp lv l) (hf : RdN wp fv fst) (hfl : fst.length ≤ 60) (hll : l.length ≤ 60) (hr : RoV wp lv fv l fst rb s w) (hg : GB l s) (hk : s.2.length ≤ 60)
    (hp : ∃ j : Nat, p = (j : Int) ∧ j < l.length ∧ ok (at' l (j : Int)) = true) (hm0 : 0 ≤ most) (hm1 : most ≤ 1099511627776) :
    Calls Try.prog 22 #[.pointer (some ⟨rb, 0, none⟩), .int .i64 p, .int .i64 most] w fun e w' => e = .returned (.tuple #[]) ∧ RoV wp lv fv l fst rb (giv l s p most) w' := by
  obtain ⟨j, rfl, hj, ho⟩ := hp
  by_cases hu : upt l s.1 s.2 (j : Int) most ≤ cur l s.2 (j : Int)
  · cases hx : ixn (j : Int) (keys s.2) with
    | some q => exact give_yes_same hl hf hfl hll hr hg hk hj ho hm0 hm1 hx hu
    | none => exact give_no_same hl hf hfl hll hr hg hk hj ho hm0 hm1 hx hu
  · cases hx : ixn (j : Int) (keys s.2) with
    | some q => exact give_yes_more hl hf hfl hll hr hg hk hj ho hm0 hm1 hx hu
    | none => exact give_no_more hl hf hfl hll hr hg hk hj ho hm0 hm1 hx hu
/-- What was granted has different places: no more than there are messages. -/
theorem gb_len {l : List M} {s : Int × Got} (h : GB l s) : s.2.length ≤ l.length := by
  have h1 : (keys s.2).length ≤ (List.range l.length).length := by
    have hn := h.nd
    have hsub : ∀ x ∈ (keys s.2).map Int.toNat, x ∈ List.range l.length := by
      intro x hx
      obtain ⟨y, hy, rfl⟩ := List.mem_map.1 hx
      unfold keys at hy
      obtain ⟨z, hz, rfl⟩ := List.mem_map.1 hy
      obtain ⟨⟨j, e, hj, _⟩, _⟩ := h.in' z hz
      rw [e, List.mem_range]; simpa using hj
    have hn2 : ((keys s.2).map Int.toNat).Nodup := by
      refine List.pairwise_map.2 (hn.imp_of_mem ?_)
      intro a b ha hb hne e
      unfold keys at ha hb
      obtain ⟨z, hz, rfl⟩ := List.mem_map.1 ha
      obtain ⟨y, hy, rfl⟩ := List.mem_map.1 hb
      obtain ⟨⟨j, e1, _⟩, _⟩ := h.in' z hz
      obtain ⟨⟨k, e2, _⟩, _⟩ := h.in' y hy
      rw [e1, e2] at e hne
      exact hne (by omega)
    have := hn2.length_le_of_subset hsub
    simpa using this
  unfold keys at h1
  simpa using h1
theorem RoV.old {wp w w' : World} {lv fv : Value} {l : List M} {fst : List Int} {rb : Nat} {s : Int × Got} (h : RoV wp lv fv l fst rb s w) (k : Kept (fun _ => False) w w') : RoV wp lv fv l fst rb s w' := by
  obtain ⟨pv, gv, h1, h2, h3⟩ := h.ex
  exact ⟨h.kp.trans (k.mono (fun _ _ f => f.elim)), h.lo, pv, gv, k.blk h1 (fun f => f), h2.old k, h3.old k⟩
theorem roV_new {wp : World} {lv fv : Value} {l : List M} {fst : List Int} (room : Int) : RoV wp lv fv l fst wp.heap.size (room, []) (wp.alloc (.cells #[lv, fv, .int .i64 room, .slice none 0 0, .slice none 0 0] 54)) :=
  ⟨(new_kept wp _).mono (fun _ _ f => f.elim), Nat.le_refl _, _, _, Blk.new wp [lv, fv, .int .i64 room, .slice none 0 0, .slice none 0 0] 54, Rw.Row.none _ _ _, Rw.Row.none _ _ _⟩
/-- The numbers that may be handed in. -/
def Fine (k budget share : Int) : Prop := 1 ≤ k ∧ k ≤ 8 ∧ 0 ≤ budget ∧ budget ≤ 1099511627776 ∧ 0 ≤ share ∧ share ≤ budget
set_option maxHeartbeats 4000000 in
theorem grants_bad {k budget share : Int} (a : Option Addr) (n c : Nat) (h : ¬ Fine k budget share) (w : World) :
    Calls Try.prog 9 #[.slice a n c, .int .i64 k, .int .i64 budget, .int .i64 share] w fun e w' => e = .returned (.tuple #[.slice none 0 0, .int .i64 1]) ∧ w = w' := by
  have hc : k < 1 ∨ (decide (k < 1) = false ∧ 8 < k) ∨ (decide (k < 1) = false ∧ decide (8 < k) = false ∧ budget < 0) ∨ (decide (k < 1) = false ∧ decide (8 < k) = false ∧ decide (budget < 0) = false ∧ 1099511627776 < budget) ∨
      (decide (k < 1) = false ∧ decide (8 < k) = false ∧ decide (budget < 0) = false ∧ decide (1099511627776 < budget) = false ∧ share < 0) ∨ (decide (k < 1) = false ∧ decide (8 < k) = false ∧ decide (budget < 0) = false ∧ decide (1099511627776 < budget) = false ∧ decide (share < 0) = false ∧ budget < share) := by
    unfold Fine at h
    simp only [decide_eq_false_iff_not]; omega
  clear h
  rcases hc with h1 | ⟨h1, h2⟩ | ⟨h1, h2, h3⟩ | ⟨h1, h2, h3, h4⟩ | ⟨h1, h2, h3, h4, h5⟩ | ⟨h1, h2, h3, h4, h5, h6⟩
  all_goals
    go_enter Try.func9, Try.ntmps9
    go_wp2_with fail
    go_ret2
    exact ⟨rfl, rfl⟩
/-- What a call of Grants leaves. -/
def GrP (w : World) (l : List M) (k : Nat) (budget share : Int) (e : Ending) (w' : World) : Prop := ∃ v' o old, e = .returned (.tuple #[v', .int .i64 0]) ∧ IsO false l o ∧ Od l old ∧ Rw.Row gT w' w.heap.size v' (gran l o old k budget share) ∧ Kept (fun _ => False) w w'
set_option maxHeartbeats 8000000 in
set_option maxRecDepth 100000 in
theorem grants_ok {l : List M} {v : Value} {k : Nat} {budget share : Int} {w : World} (hl : Rd w v l) (hll : l.length ≤ 60) (hF : Fine (k : Int) budget share) :
    Calls Try.prog 9 #[v, .int .i64 (k : Nat), .int .i64 budget, .int .i64 share] w fun e w' => GrP w l k budget share e w' := by
  obtain ⟨f1, f2, f3, f4, f5, f6⟩ := hF
  have d1 : decide ((k : Int) < 1) = false := decide_eq_false (by omega)
  have d2 : decide ((8 : Int) < (k : Int)) = false := decide_eq_false (by omega)
  have d3 : decide (budget < 0) = false := decide_eq_false (by omega)
  have d4 : decide ((1099511627776 : Int) < budget) = false := decide_eq_false (by omega)
  have d5 : decide (share < 0) = false := decide_eq_false (by omega)
  have d6 : decide (budget < share) = false := decide_eq_false (by omega)
  have OR := Lib.hid (order_any hl hll)
  have HL := Lib.hid hl
  obtain ⟨a, c, rfl, _⟩ := hl
  go_enter Try.func9, Try.ntmps9
  go_upto_region 3 with fail
  clear d1 d2 d3 d4 d5 d6
  go_wp2_with fail
  with_reducible refine Calls.mono OR.out ?_
  rintro e w2 ⟨v2, o, rfl, hr, hO, hk2⟩
  have HO := Lib.hid hO
  have HK2 := Lib.hid hk2
  have HRN := Lib.hid (RdN.of_row hr)
  have hlen := hO.len.2
  obtain ⟨a2, c2, rfl, hc2, _⟩ := hr.slice
  obtain ⟨n, hn⟩ : ∃ n, o.length = n := ⟨_, rfl⟩
  have HN := Lib.hid hn
  rw [hn] at HRN hlen hc2 ⊢
  obtain ⟨q, hq⟩ : ∃ q : Nat, min k n = q := ⟨_, rfl⟩
  have HQ := Lib.hid hq
  have hqk : q ≤ k ∧ q ≤ n := by omega
  obtain ⟨hqk, hqn⟩ := hqk
  have MI := Lib.hid fun (b : Nat) (w' : World) hc => IvN.min1 (k : Int) (n : Int) (q : Int) b w' (by rw [← IvN.min_if]; omega) hc
  have HFS : Hid (RdN w2 (.slice a2 q c2) (o.take k)) := by
    have := HRN.out.take q c2 hqn
    rw [← HQ.out, List.take_eq_take_min (i := k), HN.out]
    rw [← HQ.out] at this
    exact this
  have HFL : Hid ((o.take k).length = q) := by show _ = _; rw [List.length_take, HN.out]; exact HQ.out
  clear OR hO hk2 hr hn hq
  have q1 : (0 : Int) ≤ (q : Int) := by omega
  have q2 : q ≤ c2 := by omega
  have q3 : (q : Int) ≤ (c2 : Int) := by omega
  go_upto_region 4 with fail
  have hB := Blk.new w2 [.int .i64 (n : Nat)] 3
  have hk3 := new_kept w2 (.cells [.int .i64 (n : Nat)].toArray 3)
  dsimp only [List.toArray] at hB hk3
  have cn := hB.cell (o := 0) rfl
  have HK3 := Lib.hid hk3
  clear hB hk3
  go_wp2_with fail
  refine Calls.mono (MI.out _ _ cn) ?_
  rintro e w3 ⟨rfl, rfl⟩
  clear cn MI
  have HK4 := Lib.hid (HK2.out.trans HK3.out)
  have HFS4 := Lib.hid (HFS.out.old HK3.out)
  clear HK2 HK3 HFS
  have HL4 := Lib.hid (HL.out.old HK4.out)
  have AH := Lib.hid (aheadL_any HL4.out hll)
  go_upto_region 5 with fail
  generalize w2.alloc (.cells #[.int .i64 (n : Nat)] 3) = w4 at *
  go_wp2_with fail
  with_reducible refine Calls.mono AH.out ?_
  rintro e w5 ⟨rfl, hk5⟩
  have HK5 := Lib.hid hk5
  have hsum := ahd_bd (l := l) (o := opn l l.length) ok_of
  have hol := opn_len l l.length
  obtain ⟨ah, hah⟩ : ∃ ah, ahd l (opn l l.length) = ah := ⟨_, rfl⟩
  have HAH := Lib.hid hah
  rw [hah] at hsum ⊢
  have SB := Lib.hid fun w => subNum_any budget ah w
  rw [subI_in f3 hsum.1 (by omega) (by omega)] at SB
  obtain ⟨room, hroom⟩ : ∃ room, max (budget - ah) 0 = room := ⟨_, rfl⟩
  have HRM := Lib.hid hroom
  rw [hroom] at SB
  have HL5 := Lib.hid (HL4.out.old hk5)
  have HFS5 := Lib.hid (HFS4.out.old hk5)
  have HKA := Lib.hid (HK4.out.trans hk5)
  clear AH hk5 hsum hol hah hroom HK5 HFS4 HL4
  go_wp2_with fail
  with_reducible refine Calls.mono (SB.out _) ?_
  rintro e w6 ⟨rfl, rfl⟩
  go_upto_region 6 with fail
  have HR0 := Lib.hid (roV_new (wp := w5) (lv := .slice a l.length c) (fv := .slice a2 q c2) (l := l) (fst := o.take k) room)
  have HB0 : Hid (w5.heap.size = w5.heap.size) := rfl
  have hk7 := new_kept w5 (.cells #[.slice a l.length c, .slice a2 q c2, .int .i64 room, .slice none 0 0, .slice none 0 0] 54)
  have OL := Lib.hid (oldest_any (HL5.out.old hk7) hll)
  have HK7 := Lib.hid hk7
  clear hk7 SB
  generalize w5.alloc (.cells #[.slice a l.length c, .slice a2 q c2, .int .i64 room, .slice none 0 0, .slice none 0 0] 54) = w7 at *
  generalize hrb : w5.heap.size = rb at *
  have HRB := Lib.hid hrb
  clear hrb HB0
  go_wp2_with fail
  with_reducible refine Calls.mono OL.out ?_
  rintro e w8 ⟨old, rfl, hOd, hk8⟩
  have HOD := Lib.hid hOd
  have HR8 := Lib.hid (HR0.out.old hk8)
  have hop : 0 ≤ old → ∃ j : Nat, old = (j : Int) ∧ j < l.length ∧ ok (at' l (j : Int)) = true := by
    intro h
    rcases hOd with ⟨_, e⟩ | ⟨e, _⟩
    · omega
    · exact opn_mem.1 e
  have HOP := Lib.hid hop
  have hGB := start_gb hll (budget := budget) (share := share) f3 f4 f5 hop
  have HGB := Lib.hid hGB
  have HST : Hid (SrM.start l old budget share = if 0 ≤ old ∧ 0 < share then giv l (room, []) old share else (room, [])) := by
    show _ = _
    unfold SrM.start
    rw [HAH.out, HRM.out]
  have hz : GB l (room, []) := by
    have := start_gb hll (old := -1) (budget := budget) (share := share) f3 f4 f5 (fun h => by omega)
    unfold SrM.start at this
    rw [if_neg (by omega), HAH.out, HRM.out] at this
    exact this
  have HZ := Lib.hid hz
  obtain ⟨tb, htb⟩ : ∃ tb, tb = decide (0 ≤ old ∧ 0 < share) := ⟨_, rfl⟩
  have HTB := Lib.hid htb
  clear OL hOd hk8 hop hGB hz htb HR0
  go_upto_region 7 with fail
  go_cut [62] from 57 to 61 (fun t wx => t = .bool tb ∧ wx = w8)
  case first =>
    by_cases k1 : 0 ≤ old
    · by_cases k2 : 0 < share
      · have y1 : decide (0 ≤ old) = true := decide_eq_true k1
        have y2 : decide (0 < share) = true := decide_eq_true k2
        go_wp2_with fail
        go_meet
        exact ⟨by rw [HTB.out, decide_eq_true (p := 0 ≤ old ∧ 0 < share) (by omega)], rfl⟩
      · have y2 : decide (0 < share) = false := decide_eq_false k2
        go_wp2_with fail
        go_meet
        exact ⟨by rw [HTB.out, decide_eq_false (p := 0 ≤ old ∧ 0 < share) (by omega)], rfl⟩
    · have y1 : decide (0 ≤ old) = false := decide_eq_false k1
      go_wp2_with fail
      go_meet
      exact ⟨by rw [HTB.out, decide_eq_false (p := 0 ≤ old ∧ 0 < share) (by omega)], rfl⟩
  case rest =>
  obtain ⟨rfl, rfl⟩ := hcut
  go_upto_if 62 with fail
  go_cut [] from 63 to 65 (fun wx => Hid (RoV w5 (.slice a l.length c) (.slice a2 q c2) l (o.take k) rb (SrM.start l old budget share) wx))
  case first =>
    cases tb with
    | true =>
      have ht := of_decide_eq_true HTB.out.symm
      have GV := Lib.hid (give_any HL5.out HFS5.out (by have := HFL.out; omega) hll HR8.out HZ.out (Nat.zero_le _) (HOP.out ht.1) f5 (by omega : share ≤ 1099511627776))
      rw [if_pos ht] at HST
      clear ht
      go_wp2_with fail
      with_reducible refine Calls.mono GV.out ?_
      rintro e w9 ⟨rfl, hw⟩
      have HW := Lib.hid hw
      clear hw GV
      go_wp2_with fail
      go_meet
      show RoV _ _ _ _ _ _ _ _
      rw [HST.out]
      exact HW.out
    | false =>
      have ht := of_decide_eq_false HTB.out.symm
      rw [if_neg ht] at HST
      clear ht
      go_wp2_with fail
      go_meet
      show RoV _ _ _ _ _ _ _ _
      rw [HST.out]
      exact HR8.out
  case rest =>
  have HR9 := hcut
  clear hcut HST HR8 HTB
  obtain ⟨s0, hs0⟩ : ∃ s0, SrM.start l old budget share = s0 := ⟨_, rfl⟩
  have HS0 := Lib.hid hs0
  rw [hs0] at HR9 HGB
  obtain ⟨fst, hfst⟩ : ∃ fst, o.take k = fst := ⟨_, rfl⟩
  have HFST := Lib.hid hfst
  rw [hfst] at HR9 HFS5 HFL
  clear hs0 hfst
  obtain ⟨per, hper⟩ : ∃ per, budget / (k : Int) = per := ⟨_, rfl⟩
  have HPER := Lib.hid hper
  have hp1 : 0 ≤ per := by rw [← hper]; exact Int.ediv_nonneg f3 (by omega)
  have hp2 : per ≤ 1099511627776 := by rw [← hper]; exact Int.le_trans (Int.ediv_le_self _ f3) f4
  have hkz : ((k : Int) == 0) = false := by rw [beq_eq_false_iff_ne]; omega
  have hk0 : ¬ (k : Int) = 0 := by omega
  have htd : budget.tdiv (k : Int) = per := by rw [Int.tdiv_eq_ediv_of_nonneg f3]; exact hper
  have hwr : IntKind.i64.wrap (budget.tdiv (k : Int)) = per := by rw [htd, IntKind.wrap_i64]; omega
  have hwr2 : IntKind.i64.wrap per = per := by rw [IntKind.wrap_i64]; omega
  have HMEM : Hid (∀ x ∈ fst, ∃ j : Nat, x = (j : Int) ∧ j < l.length ∧ ok (at' l (j : Int)) = true) := by
    intro x hx
    rw [← HFST.out] at hx
    exact HO.out.mem.1 (List.mem_of_mem_take hx)
  go_wp2_with fail
  go_loopg [68] q (fun kx s68 wr => ∃ (i : Nat), s68 = .int .i64 i ∧ i ≤ q ∧ q - i ≤ kx ∧ Hid (RoV w5 (.slice a l.length c) (.slice a2 q c2) l fst rb (givs l per s0 (fst.take i)) wr) ∧ Hid (GB l (givs l per s0 (fst.take i))))
  case atStart => exact ⟨0, rfl, Nat.zero_le _, Nat.le_refl _, HR9, HGB⟩
  case round =>
    obtain ⟨i, rfl, hin, hkx, HR, HG⟩ := hrel
    clear HR9
    by_cases hlt : i < q
    · have hltz : (i : Int) < (q : Int) := by omega
      obtain ⟨x, hx⟩ : ∃ x, fst[i]? = some x := ⟨_, List.getElem?_eq_getElem (by have := HFL.out; omega)⟩
      obtain ⟨a', c', e1, hc1⟩ := HFS5.out.low HR.out.kp
      have e3 := (Value.slice.inj e1).1
      clear e1
      subst e3
      obtain ⟨g, o', rfl, _, hcx⟩ := hc1 i x hx
      have hxm := List.mem_of_getElem? hx
      have GV := Lib.hid (give_any HL5.out HFS5.out (by have := HFL.out; omega) hll HR.out HG.out (by have := gb_len HG.out; omega) (HMEM.out x hxm) hp1 hp2)
      have HNX : Hid (givs l per s0 (fst.take (i + 1)) = giv l (givs l per s0 (fst.take i)) x per) := by
        show _ = _
        rw [List.take_add_one, hx]
        show givs l per s0 (fst.take i ++ [x]) = _
        rw [givs_app]; rfl
      have HG2 : Hid (GB l (givs l per s0 (fst.take (i + 1)))) := by show GB _ _; rw [HNX.out]; exact giv_gb HG.out (HMEM.out x hxm) hp1
      clear hc1 hx hxm
      go_wp2_with fail
      with_reducible refine Calls.mono GV.out ?_
      rintro e w9 ⟨rfl, hw⟩
      rw [← HNX.out] at hw
      have HW := Lib.hid hw
      clear hw GV hcx
      go_wp2_with fail
      go_roundg (q - (i + 1))
      case measure => omega
      case rel => exact ⟨i + 1, by go_num, by omega, Nat.le_refl _, HW, HG2⟩
    · have hltz : ¬ (i : Int) < (q : Int) := by omega
      obtain rfl : i = q := by omega
      have hfi : fst.take i = fst := by rw [← HFL.out]; exact List.take_length
      have hR := HR.out
      rw [hfi] at hR
      obtain ⟨pv, gv, hB, hP, hG⟩ := hR.ex
      have HFIN : Hid (Rw.Row gT wr w.heap.size gv (gran l o old k budget share)) := by
        show Rw.Row _ _ _ _ _
        unfold gran
        rw [HS0.out, HFST.out, HPER.out]
        exact hG.base (fun g hg => by have h1 := (hG.lt g hg).1; have h2 := HKA.out.size; omega)
      have HKF : Hid (Kept (fun _ => False) w wr) := HKA.out.trans' hR.kp (fun i hi e => by have h2 := HKA.out.size; omega)
      have c4 := hB.cell (o := 4) rfl
      clear hR hB hP hG
      go_wp2_with fail
      go_ret2
      exact ⟨gv, o, old, rfl, HO.out, HOD.out, HFIN.out, HKF.out⟩
end Go.Proofs.Ytbohigfhbjconaa.Sr
