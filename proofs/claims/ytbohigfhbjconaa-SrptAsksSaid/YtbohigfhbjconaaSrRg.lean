/- The reference's Grants. Conditions: each theorem's own. -/
import Derived.Test.YtbohigfhbjconaaSrRg1
import Derived.Deep.DrawnRows
import Derived.BigRegion
import Derived.Laws.Cover1
set_option linter.unusedVariables false
set_option linter.unusedSimpArgs false
namespace Go.Proofs.Ytbohigfhbjconaa.Sr
open Go.RowKit Hp Go.Proofs.Ytbohigfhbjconaa.End Opn SrM So SoM NumM NumC Go.Proofs.Ytbohigfhbjconaa.Sx
/-- The reference's grants, as elements of rows. -/
@[reducible] def gR : Rw.Ty G4 where
  E := 36
  L := 30
  k := 4
  bz := 32
  enc := fun x => [.int .i64 x.1, .int .u64 x.2.1, .int .i64 x.2.2.1, .int .i64 x.2.2.2]
  z := .agg #[.int .i64 0, .int .u64 0, .int .i64 0, .int .i64 0]
  hL := Try.underlying30
  hI := by kernel_rfl
  hz := rfl
  hk := fun x => rfl
  h1 := fun x v hv => by
    simp only [List.mem_cons, List.not_mem_nil, or_false] at hv
    rcases hv with rfl | rfl | rfl | rfl <;> rfl
  k0 := by decide
  hb := by decide
def GrR (w : World) (l : List M) (k : Nat) (budget share : Int) (e : Ending) (w' : World) : Prop := ∃ v' o old, e = .returned (.tuple #[v', .int .i64 0]) ∧ IsO false l o ∧ Od l old ∧ Ro.Row gR w' v' (gran l o old k budget share) ∧ Kept (fun _ => False) w w'
theorem rep_eq (n : Nat) : Array.replicate n (Value.int .i64 0) = ((List.replicate n (0 : Int)).map I).toArray := by simp
/-- Filled up to i. -/
def fl (l : List M) (n i : Nat) : List Int := (List.range n).map fun p => if p < i then (at' l (p : Int)).g else 0
theorem fl_zero (l : List M) (n : Nat) : fl l n 0 = List.replicate n 0 := by
  apply List.ext_getElem
  · simp [fl]
  · intro j h1 h2; simp [fl]
theorem fl_at (l : List M) {n i p : Nat} (h : p < n) : (fl l n i)[p]? = some (if p < i then (at' l (p : Int)).g else 0) := by unfold fl; simp [h]
theorem fl_len (l : List M) (n i : Nat) : (fl l n i).length = n := by simp [fl]
theorem fl_step (l : List M) (n i : Nat) : fl l n (i + 1) = (fl l n i).set i (at' l (i : Int)).g := by
  apply List.ext_getElem?
  intro j
  rw [List.getElem?_set, fl_len]
  by_cases hj : j < n
  · rw [fl_at l hj]
    by_cases e : i = j
    · rw [if_pos e, if_pos (by omega), if_pos (by omega), e]
    · rw [if_neg e, fl_at l hj]
      by_cases e2 : j < i
      · rw [if_pos e2, if_pos (by omega)]
      · rw [if_neg e2, if_neg (by omega)]
  · rw [List.getElem?_eq_none (by rw [fl_len]; omega)]
    by_cases e : i = j
    · rw [if_pos e, if_neg (by omega)]
    · rw [if_neg e, List.getElem?_eq_none (by rw [fl_len]; omega)]
theorem fl_all (l : List M) (n : Nat) : fl l n n = uF l [] n := by
  unfold fl uF
  apply List.map_congr_left
  intro p hp
  rw [List.mem_range] at hp
  rw [if_pos hp, cur_new (by simp [keys])]
theorem GR.new {l0 : List M} {w0 w2 : World} (k : Kept (fun _ => False) w0 w2) (n : Nat) : GR w0 w2.heap.size (w2.heap.size + 1) n (.slice none 0 0) (fl l0 n 0) (pF [] n) [] ((w2.alloc (.cells (Array.replicate n (.int .i64 0)) 3)).alloc (.cells (Array.replicate n (.int .i64 0)) 3)) := by
  have hs := k.size
  rw [fl_zero, pF_nil, rep_eq]
  refine ⟨((past_of k).alloc _).alloc _, (Blk.new w2 _ _).old _, ?_, by simp, by simp, Ro.Row.none _ _, by omega, fun g hg => (by cases hg), hs, by omega⟩
  have := Blk.new (w2.alloc (.cells ((List.replicate n (0 : Int)).map I).toArray 3)) ((List.replicate n (0 : Int)).map I) 3
  rw [World.size_alloc] at this
  exact this
set_option maxHeartbeats 16000000 in
set_option maxRecDepth 100000 in
theorem grantsR_ok {l : List M} {v : Value} {k : Nat} {budget share : Int} {w : World} (hl : Rd w v l) (hll : l.length ≤ 60) (hF : Fine (k : Int) budget share) :
    Calls Try.prog 10 #[v, .int .i64 (k : Nat), .int .i64 budget, .int .i64 share] w fun e w' => GrR w l k budget share e w' := by
  obtain ⟨f1, f2, f3, f4, f5, f6⟩ := hF
  have d1 : decide ((k : Int) < 1) = false := decide_eq_false (by omega)
  have d2 : decide ((8 : Int) < (k : Int)) = false := decide_eq_false (by omega)
  have d3 : decide (budget < 0) = false := decide_eq_false (by omega)
  have d4 : decide ((1099511627776 : Int) < budget) = false := decide_eq_false (by omega)
  have d5 : decide (share < 0) = false := decide_eq_false (by omega)
  have d6 : decide (budget < share) = false := decide_eq_false (by omega)
  have AH := Lib.hid (aheadR_any hl hll)
  have HL := Lib.hid hl
  have hA := ahd_bd (l := l) (o := opn l l.length) ok_of
  have hol := opn_len l l.length
  obtain ⟨A, hAe⟩ : ∃ A, ahd l (opn l l.length) = A := ⟨_, rfl⟩
  have HA := Lib.hid hAe
  rw [hAe] at AH hA
  obtain ⟨a1, a2⟩ := hA
  have a3 : A ≤ 1073741824 * 60 := by omega
  obtain ⟨a, c, rfl, hcl⟩ := hl
  have HCL := Lib.hid hcl
  obtain ⟨R, hR⟩ : ∃ R, max (budget - A) 0 = R := ⟨_, rfl⟩
  have hmx : ∀ (ts : Array TypeId) (ty : TypeId) (w : World), (Builtin.max_ ts ty #[.int .i64 (budget - A), .int .i64 0]).run Try.prog w = .ok (.int .i64 R) w := by
    intro ts ty w
    rw [← hR, IvN.max_if]
    exact run_max_int2 ..
  have hR0 : 0 ≤ R := by omega
  have hR1 : R ≤ 1099511627776 := by omega
  have HR := Lib.hid hR
  obtain ⟨n, hn⟩ : ∃ n, l.length = n := ⟨_, rfl⟩
  have HN := Lib.hid hn
  rw [hn] at hll AH HL ⊢
  have s1 : -1125899906842624 ≤ budget - A := by omega
  have s2 : budget - A ≤ 1125899906842624 := by omega
  clear hcl hAe hR a1 a2 hol hn
  go_enter Try.func10, Try.ntmps10
  go_upto_region 3 with fail
  clear d1 d2 d3 d4 d5 d6
  go_wp2_with fail
  with_reducible refine Calls.mono AH.out ?_
  rintro e w2 ⟨rfl, hk2⟩
  have HK2 := Lib.hid hk2
  clear hk2 AH
  have MK := fun w => madeN n (by omega) w
  go_upto_region 6 with fail
  clear MK
  have HG0 := Lib.hid (GR.new (l0 := l) HK2.out n)
  have hub : w2.heap.size + 1 ≠ w2.heap.size := by omega
  generalize w2.heap.size + 1 = pb at *
  generalize w2.heap.size = ub at *
  generalize (w2.alloc (Obj.cells (Array.replicate n (Value.int IntKind.i64 0)) 3)).alloc (Obj.cells (Array.replicate n (Value.int IntKind.i64 0)) 3) = w3 at *
  clear HK2 hmx s1 s2
  go_wp2_with fail
  go_loopg [14] n (fun mm s14 wr => ∃ (i : Nat), Hid (n - i ≤ mm) ∧ i ≤ n ∧ s14 = .int .i64 (i : Nat) ∧ Hid (GR w ub pb n (.slice none 0 0) (fl l n i) (pF [] n) [] wr))
  case atStart => exact ⟨0, Lib.hid (by omega), by omega, rfl, HG0⟩
  case round =>
    clear HG0
    obtain ⟨i, hmm, hi, rfl, HG⟩ := hrel
    rcases Nat.lt_or_ge i n with hlt | hge
    · have hlt2 : (i : Int) < (n : Int) := by omega
      obtain ⟨m, hm⟩ : ∃ m, l[i]? = some m := ⟨_, List.getElem?_eq_getElem (by rw [HN.out]; exact hlt)⟩
      obtain ⟨g, o, rfl, hg, hcc⟩ := HCL.out i m hm
      have c4 := (hcc.old HG.out.low hg).c4
      have e0 := HG.out.cu (fl_at l hlt)
      have f0 := HG.out.bu.frozen i
      have HG2 := Lib.hid (HG.out.setU i m.g)
      have hfs := fl_step l n i
      rw [at_is hm] at hfs
      rw [← hfs] at HG2
      obtain ⟨mp, mi, mt, mh, mg, mb⟩ := m
      dsimp only at c4 HG2
      clear hm hcc hfs HG hg
      go_wp2_with fail
      clear c4 e0 f0
      generalize wr.setCell ⟨ub, i, none⟩ (.int .i64 mg) = w4 at *
      go_wp2_with fail
      go_roundg (n - (i + 1))
      case measure => have := hmm.out; omega
      case rel => exact ⟨i + 1, Lib.hid (Nat.le_refl _), by omega, by go_num, HG2⟩
    · obtain rfl : n = i := by omega
      have hlt2 : ¬ (n : Int) < (n : Int) := by omega
      have HG1 : Hid (GR w ub pb n (.slice none 0 0) (uF l [] n) (pF [] n) [] wr) := Lib.hid (by rw [← fl_all]; exact HG.out)
      have OR := Lib.hid (orderR_any (HL.out.old HG1.out.low) (by rw [HN.out]; exact hll))
      clear HG
      go_wp2_with fail
      with_reducible refine Calls.mono OR.out ?_
      rintro e w4 ⟨v4, o, rfl, hro, hO, hfo, hk4⟩
      have HFO : Hid (∀ g, v4.ownBlock = some g → g ≠ ub ∧ g ≠ pb) := Lib.hid (fun g hg => by have := hfo g hg; have h1 := HG1.out.bu.lt; have h2 := HG1.out.bp.lt; omega)
      have HG2 := Lib.hid (HG1.out.old hk4)
      have OD := Lib.hid (oldestR_any (HL.out.old HG2.out.low) (by rw [HN.out]; exact hll))
      have HO := Lib.hid hO
      have HRO := Lib.hid hro
      have hlo := hO.len.2
      rw [HN.out] at hlo
      obtain ⟨ao, co, rfl, hco1, hco2⟩ := hro.slice
      unfold maxLen at hco2
      obtain ⟨no, hno⟩ : ∃ no, o.length = no := ⟨_, rfl⟩
      have HNO := Lib.hid hno
      rw [hno] at HRO HFO hlo hco1 ⊢
      clear OR hro hO hfo hk4 HG1 hno hi hmm hge
      go_wp2_with fail
      with_reducible refine Calls.mono OD.out ?_
      rintro e w5 ⟨old, rfl, hOd, hk5⟩
      have HG3 := Lib.hid (G2.start (HG2.out.old hk5))
      have HRO5 := Lib.hid (HRO.out.old hk5)
      have HOD := Lib.hid hOd
      clear OD hOd hk5 HG2 HRO
      have hop : 0 ≤ old → ∃ j : Nat, old = (j : Int) ∧ j < l.length ∧ ok (at' l (j : Int)) = true := by
        intro h
        rcases HOD.out with ⟨_, e⟩ | ⟨e, _⟩
        · omega
        · exact opn_mem.1 e
      have HOP := Lib.hid hop
      have hll2 : l.length ≤ 60 := by rw [HN.out]; exact hll
      have hGB := start_gb hll2 (budget := budget) (share := share) f3 f4 f5 hop
      have HGB := Lib.hid hGB
      have HST : Hid (SrM.start l old budget share = if 0 ≤ old ∧ 0 < share then giv l (R, []) old share else (R, [])) := by
        show _ = _
        unfold SrM.start
        rw [HA.out, HR.out]
      have hz : GB l (R, []) := by
        have := start_gb hll2 (old := -1) (budget := budget) (share := share) f3 f4 f5 (fun h => by omega)
        unfold SrM.start at this
        rw [if_neg (by omega), HA.out, HR.out] at this
        exact this
      have HZ := Lib.hid hz
      obtain ⟨tb, htb⟩ : ∃ tb, tb = decide (0 ≤ old ∧ 0 < share) := ⟨_, rfl⟩
      have HTB := Lib.hid htb
      clear hop hGB hz htb hll2
      go_upto_region 13 with fail
      go_cut [81] from 76 to 80 (fun t wx => t = .bool tb ∧ wx = w5)
      case first =>
        by_cases k1 : 0 ≤ old
        · by_cases k2 : 0 < share
          · have y1 : decide (0 ≤ old) = true := decide_eq_true k1
            have y2 : decide (0 < share) = true := decide_eq_true k2
            go_wp2_with fail
            go_meet
            exact ⟨by rw [HTB.out, decide_eq_true (p := 0 ≤ old ∧ 0 < share) (by omega)], rfl⟩
          · have y2 : decide (0 < share) = false := decide_eq_false k2
            go_wp2_with fail
            go_meet
            exact ⟨by rw [HTB.out, decide_eq_false (p := 0 ≤ old ∧ 0 < share) (by omega)], rfl⟩
        · have y1 : decide (0 ≤ old) = false := decide_eq_false k1
          go_wp2_with fail
          go_meet
          exact ⟨by rw [HTB.out, decide_eq_false (p := 0 ≤ old ∧ 0 < share) (by omega)], rfl⟩
      case rest =>
      obtain ⟨rfl, hwc⟩ := hcut
      obtain rfl : w5 = wc := hwc.symm
      clear hwc
      go_upto_if 81 with fail
      go_cut [10, 13] (fun s10 s13 wx => ∃ (nW cW : Nat) (aW : Option Addr), s10 = .int .i64 (SrM.start l old budget share).1 ∧ s13 = .slice aW nW cW ∧ Hid ((keys (SrM.start l old budget share).2).length = nW) ∧ nW ≤ cW ∧ cW ≤ 2 ^ 63 - 1 ∧ Hid (G2 w w5 ub pb n (.slice aW nW cW) (uF l (SrM.start l old budget share).2 n) (pF [] n) (keys (SrM.start l old budget share).2) wx))
      case first =>
        cases tb with
        | true =>
          have ht := of_decide_eq_true HTB.out.symm
          rw [if_pos ht] at HST
          obtain ⟨j, rfl, hj, hok⟩ := HOP.out ht.1
          clear ht
          obtain ⟨m, hm⟩ : ∃ m, l[j]? = some m := ⟨_, List.getElem?_eq_getElem hj⟩
          obtain ⟨g, o', rfl, hg, hcc⟩ := HCL.out j m hm
          have hcc2 := hcc.old HG3.out.g.low hg
          have c2 := hcc2.c2
          have c3 := hcc2.c3
          have hji : j < n := by have := HN.out; omega
          have e0 := HG3.out.g.cu (uF_at l [] hji)
          have f0 := HG3.out.g.bu.frozen j
          obtain ⟨g0, g1, g2, g3, g4, g5⟩ := cur_bd HZ.out hok
          dsimp only at g0 g1 g2
          obtain ⟨cu, hcu⟩ : ∃ cu, cur l [] (j : Int) = cu := ⟨_, rfl⟩
          have hup : upt l R [] (j : Int) share = min (min (at' l (j : Int)).t ((at' l (j : Int)).h + share)) (cur l [] (j : Int) + R) := rfl
          obtain ⟨up, hup2⟩ : ∃ up, upt l R [] (j : Int) share = up := ⟨_, rfl⟩
          rw [at_is hm] at hup g1 g2 g3 g4 g5
          rw [hcu] at hup g0 g1 g2 e0
          rw [hup2] at hup
          have HUP := Lib.hid hup2
          have HCU := Lib.hid hcu
          obtain ⟨mp, mi, mt, mh, mg, mb⟩ := m
          dsimp only at c2 c3 hup g0 g1 g2 g3 g4 g5
          have hmn : ∀ (ts : Array TypeId) (ty : TypeId) (w : World), (Builtin.min_ ts ty #[.int .i64 mt, .int .i64 (mh + share), .int .i64 (cu + R)]).run Try.prog w = .ok (.int .i64 up) w := by
            intro ts ty w
            rw [hup, min2_is]
            exact run_min_int3 ..
          obtain ⟨um, hum⟩ : ∃ um, max up cu = um := ⟨_, rfl⟩
          have hmx : ∀ (ts : Array TypeId) (ty : TypeId) (w : World), (Builtin.max_ ts ty #[.int .i64 up, .int .i64 cu]).run Try.prog w = .ok (.int .i64 um) w := by
            intro ts ty w
            rw [← hum, IvN.max_if]
            exact run_max_int2 ..
          have HUM := Lib.hid hum
          have s1 : mh + share ≤ 1125899906842624 := by omega
          have s2 : 0 ≤ mh + share := by omega
          have s3 : cu + R ≤ 1125899906842624 := by omega
          have s4 : 0 ≤ cu + R := by omega
          have hub1 : up ≤ mt := by omega
          clear hm hcc hcc2 hup hup2 hcu hum
          go_wp2_with fail
          go_quiet (fail)
          have HG4 := Lib.hid (HG3.out.old ((Kept.refl (fun _ => False) w5).drewN nq))
          clear c2 c3 e0 f0 hmn hmx s1 s2 s3 s4
          generalize w5.drewN nq = w6 at *
          have e0 : w6.cell? ⟨ub, j, none⟩ = some (.int .i64 cu) := by have := HG4.out.g.cu (uF_at l [] hji); rw [HCU.out] at this; exact this
          by_cases hu : up ≤ cu
          · have hum : um = cu := by have := HUM.out; omega
            have hcmp : decide (cu < um) = false := decide_eq_false (by omega)
            have hs : SrM.start l (j : Int) budget share = (R, []) := by
              rw [HST.out]; unfold giv
              rw [if_pos]
              dsimp only
              rw [HUP.out, HCU.out]; exact hu
            have HS := Lib.hid hs
            clear hs hum
            go_wp2_with fail
            go_meet
            rw [HS.out]
            exact ⟨0, 0, none, rfl, rfl, Lib.hid rfl, Nat.le_refl _, by omega, HG4⟩
          · have hum : um = up := by have := HUM.out; omega
            have hcmp : cu < um := by omega
            have f0 := HG4.out.g.bu.frozen j
            have hs : SrM.start l (j : Int) budget share = (R - (um - cu), putG [] (j : Int) um) := by
              rw [HST.out]; unfold giv
              rw [if_neg (by dsimp only; rw [HUP.out, HCU.out]; exact hu)]
              dsimp only
              rw [HUP.out, HCU.out, hum]
            have HS := Lib.hid hs
            have HUMP := Lib.hid hum
            have t1 : 0 ≤ um - cu := by omega
            have t2 : um - cu ≤ 1073741824 := by omega
            have t3 : -1125899906842624 ≤ R - (um - cu) := by omega
            have t4 : R - (um - cu) ≤ 1125899906842624 := by omega
            have HG5 := Lib.hid (HG4.out.setU j um)
            rw [← uF_put l [] (j : Int) um n rfl] at HG5
            clear hs hum
            go_upto_region 18 with fail
            clear e0 f0
            generalize w6.setCell ⟨ub, j, none⟩ (.int .i64 um) = w7 at *
            have hal := (Kept.refl (fun _ => False) w7).alloc (.cells #[.int .i64 (j : Nat)] 3)
            have HG6 := Lib.hid (HG5.out.old hal)
            have S3 := Lib.hid (src_one (cap := 1) (Blk.new w7 [.int .i64 (j : Nat)] 3))
            have HSM : Hid (([] : List Int).length + [(j : Int)].length ≤ 1000000) := Lib.hid (by simp)
            clear hal
            go_wp2_with (at_builtin; refine Ro.wpList_app nT rfl _ _ rfl (v := .slice none 0 0) rfl HG6.out.g.ww rfl S3.out HSM.out ?_; intro v8 w8 hA; have HA8 := Lib.hid hA; have HG8 := Lib.hid (HG6.out.app hA); clear hA)
            obtain ⟨a8, c8, rfl, q1, q2⟩ := HG8.out.g.ww.slice
            unfold maxLen at q2
            go_meet
            rw [HS.out]
            exact ⟨1, c8, a8, rfl, rfl, Lib.hid rfl, q1, q2, HG8⟩
        | false =>
          have ht := of_decide_eq_false HTB.out.symm
          rw [if_neg ht] at HST
          clear ht
          go_wp2_with fail
          go_meet
          rw [HST.out]
          exact ⟨0, 0, none, rfl, rfl, Lib.hid rfl, Nat.le_refl _, by omega, HG3⟩
      case rest =>
      obtain ⟨nW0, cW0, aW0, rfl, rfl, hkw0, hcw0, hcx0, HG7⟩ := hcut
      clear HST HTB HG3
      obtain ⟨s0, hs0⟩ : ∃ s0, SrM.start l old budget share = s0 := ⟨_, rfl⟩
      have HS0 := Lib.hid hs0
      rw [hs0] at HG7 HGB hkw0 ⊢
      clear hs0
      obtain ⟨per, hper⟩ : ∃ per, budget / (k : Int) = per := ⟨_, rfl⟩
      have HPER := Lib.hid hper
      have hp1 : 0 ≤ per := by rw [← hper]; exact Int.ediv_nonneg f3 (by omega)
      have hp2 : per ≤ 1099511627776 := by rw [← hper]; exact Int.le_trans (Int.ediv_le_self _ f3) f4
      have hkz : ((k : Int) == 0) = false := by rw [beq_eq_false_iff_ne]; omega
      have hk0 : ¬ (k : Int) = 0 := by omega
      have htd : budget.tdiv (k : Int) = per := by rw [Int.tdiv_eq_ediv_of_nonneg f3]; exact hper
      have hwr : IntKind.i64.wrap (budget.tdiv (k : Int)) = per := by rw [htd, IntKind.wrap_i64]; omega
      have hwr2 : IntKind.i64.wrap per = per := by rw [IntKind.wrap_i64]; omega
      clear hper
      go_upto_block 2 with (fail)
      go_cut [10, 13] (fun s10 s13 wx => ∃ (nW cW : Nat) (aW : Option Addr), s10 = .int .i64 (givs l per s0 (o.take k)).1 ∧ s13 = .slice aW nW cW ∧ Hid ((keys (givs l per s0 (o.take k)).2).length = nW) ∧ nW ≤ cW ∧ cW ≤ 2 ^ 63 - 1 ∧ Hid (G2 w w5 ub pb n (.slice aW nW cW) (uF l (givs l per s0 (o.take k)).2 n) (pF (o.take k) n) (keys (givs l per s0 (o.take k)).2) wx) ∧ Hid (GB l (givs l per s0 (o.take k))))
      case first =>
        go_wp2_with fail
        go_loopg [10, 13, 18] no (fun mm s10 s13 s18 wr => ∃ (x nW cW : Nat) (aW : Option Addr), Hid (no - x ≤ mm) ∧ x ≤ no ∧ x ≤ k ∧ s18 = .int .i64 (x : Nat) ∧ s10 = .int .i64 (givs l per s0 (o.take x)).1 ∧ s13 = .slice aW nW cW ∧ Hid ((keys (givs l per s0 (o.take x)).2).length = nW) ∧ nW ≤ cW ∧ cW ≤ 2 ^ 63 - 1 ∧ Hid (G2 w w5 ub pb n (.slice aW nW cW) (uF l (givs l per s0 (o.take x)).2 n) (pF (o.take x) n) (keys (givs l per s0 (o.take x)).2) wr) ∧ Hid (GB l (givs l per s0 (o.take x))))
        case atStart => exact ⟨0, nW0, cW0, aW0, Lib.hid (by omega), Nat.zero_le _, Nat.zero_le _, rfl, rfl, rfl, hkw0, hcw0, hcx0, HG7, HGB⟩
        case round =>
          clear HG7 HGB hkw0
          obtain ⟨x, nW, cW, aW, hmm, hxo, hxk, rfl, rfl, rfl, hkw, hcw, hcx, HG, HB⟩ := hrel
          by_cases hlt : x < no
          · by_cases hlk : x < k
            · have hltz : (x : Int) < (no : Int) := by omega
              have hlkz : (x : Int) < (k : Int) := by omega
              obtain ⟨y, hy⟩ : ∃ y, o[x]? = some y := ⟨_, List.getElem?_eq_getElem (by rw [HNO.out]; exact hlt)⟩
              obtain ⟨j, rfl, hj, hok⟩ := HO.out.mem.1 (List.mem_of_getElem? hy)
              have hnx : givs l per s0 (o.take (x + 1)) = giv l (givs l per s0 (o.take x)) (j : Int) per := by
                rw [List.take_add_one, hy]
                show givs l per s0 (o.take x ++ [(j : Int)]) = _
                rw [givs_app]; rfl
              have hpx : pF (o.take (x + 1)) n = (pF (o.take x) n).set j (max (6 - (x : Int)) 0) := by
                have hnm : (j : Int) ∉ o.take x := by
                  have hnd := HO.out.nodup
                  rw [← List.take_append_drop x o] at hnd
                  obtain ⟨hj1, hj2⟩ := List.getElem?_eq_some_iff.1 hy
                  rw [List.drop_eq_getElem_cons hj1, hj2] at hnd
                  intro hm
                  exact (List.nodup_append.1 hnd).2.2 _ hm _ List.mem_cons_self rfl
                rw [List.take_add_one, hy]
                show pF (o.take x ++ [(j : Int)]) n = _
                rw [pF_put hnm n rfl, List.length_take, HNO.out, Nat.min_eq_left hxo]
              obtain ⟨s, hs⟩ : ∃ s, givs l per s0 (o.take x) = s := ⟨_, rfl⟩
              rw [hs] at hnx hkw HG HB ⊢
              clear hs
              obtain ⟨rm, got⟩ := s
              dsimp only at hkw HG ⊢
              have HNX := Lib.hid hnx
              have HPX := Lib.hid hpx
              have HB2 : Hid (GB l (givs l per s0 (o.take (x + 1)))) := Lib.hid (by rw [HNX.out]; exact giv_gb HB.out ⟨j, rfl, hj, hok⟩ hp1)
              have hrow := HRO5.out.kept HG.out.kb (fun g hg e => by
                have h1 := HFO.out g hg
                have h2 := HRO5.out.lt g hg
                omega)
              obtain ⟨go', oo, rfl, ec⟩ := row_cell hrow hy
              obtain ⟨m, hm⟩ : ∃ m, l[j]? = some m := ⟨_, List.getElem?_eq_getElem hj⟩
              obtain ⟨g, o', rfl, hg, hcc⟩ := HCL.out j m hm
              have hjn : j < n := by have := HN.out; omega
              have e0 := HG.out.g.cp (pF_at (o.take x) hjn)
              have f0 := HG.out.g.bp.frozen j
              have x1 : -100 ≤ 6 - (x : Int) := by omega
              have x2 : 6 - (x : Int) ≤ 6 := by omega
              obtain ⟨pr, hpr⟩ : ∃ pr, max (6 - (x : Int)) 0 = pr := ⟨_, rfl⟩
              have hmx : ∀ (ts : Array TypeId) (ty : TypeId) (w : World), (Builtin.max_ ts ty #[.int .i64 (6 - (x : Int)), .int .i64 0]).run Try.prog w = .ok (.int .i64 pr) w := by
                intro ts ty w
                rw [← hpr, IvN.max_if]
                exact run_max_int2 ..
              have HG2 := Lib.hid (HG.out.setP j pr)
              rw [← hpr, ← HPX.out, hpr] at HG2
              have HH := Lib.hid hm
              have HCC := Lib.hid hcc
              have HGL := Lib.hid hg
              clear hnx hpx hrow hy hm hcc hpr HG hg
              go_upto_region 24 with fail
              clear e0 f0 hmx x1 x2 ec
              generalize wr.setCell ⟨pb, j, none⟩ (.int .i64 pr) = w6 at *
              have hcc2 := HCC.out.old HG2.out.g.low HGL.out
              have c2 := hcc2.c2
              have c3 := hcc2.c3
              have c4 := hcc2.c4
              have e0 := HG2.out.g.cu (uF_at l got hjn)
              have f0 := HG2.out.g.bu.frozen j
              obtain ⟨g0, g1, g2, g3, g4, g5⟩ := cur_bd HB.out hok
              have r0 := HB.out.r0
              have r1 := HB.out.r1
              dsimp only at g0 g1 g2 r0 r1
              obtain ⟨cu, hcu⟩ : ∃ cu, cur l got (j : Int) = cu := ⟨_, rfl⟩
              have hup : upt l rm got (j : Int) per = min (min (at' l (j : Int)).t ((at' l (j : Int)).h + per)) (cur l got (j : Int) + rm) := rfl
              obtain ⟨up, hup2⟩ : ∃ up, upt l rm got (j : Int) per = up := ⟨_, rfl⟩
              have hnew : (j : Int) ∉ keys got → cur l got (j : Int) = (at' l (j : Int)).g := fun h => cur_new h
              have hold : (j : Int) ∈ keys got → (at' l (j : Int)).g < cur l got (j : Int) := fun h => cur_old HB.out h
              rw [at_is HH.out] at hup g1 g2 g3 g4 g5 hnew hold
              rw [hcu] at hup g0 g1 g2 e0 hnew hold
              rw [hup2] at hup
              have HUP := Lib.hid hup2
              have HCU := Lib.hid hcu
              have HNEW := Lib.hid hnew
              have HOLD := Lib.hid hold
              obtain ⟨mp, mi, mt, mh, mg, mb⟩ := m
              dsimp only at c2 c3 c4 hup g0 g1 g2 g3 g4 g5 HNEW HOLD
              have hmn : ∀ (ts : Array TypeId) (ty : TypeId) (w : World), (Builtin.min_ ts ty #[.int .i64 mt, .int .i64 (mh + per), .int .i64 (cu + rm)]).run Try.prog w = .ok (.int .i64 up) w := by
                intro ts ty w
                rw [hup, min2_is]
                exact run_min_int3 ..
              obtain ⟨um, hum⟩ : ∃ um, max up cu = um := ⟨_, rfl⟩
              have hmx : ∀ (ts : Array TypeId) (ty : TypeId) (w : World), (Builtin.max_ ts ty #[.int .i64 up, .int .i64 cu]).run Try.prog w = .ok (.int .i64 um) w := by
                intro ts ty w
                rw [← hum, IvN.max_if]
                exact run_max_int2 ..
              have HUM := Lib.hid hum
              have s1 : mh + per ≤ 1125899906842624 := by omega
              have s2 : 0 ≤ mh + per := by omega
              have s3 : cu + rm ≤ 1125899906842624 := by omega
              have s4 : 0 ≤ cu + rm := by omega
              have hub1 : up ≤ mt := by omega
              clear hcc2 hup hup2 hcu hum hnew hold
              go_quiet (fail)
              have HG4 := Lib.hid (HG2.out.old ((Kept.refl (fun _ => False) w6).drewN nq))
              clear c2 c3 c4 e0 f0 hmn hmx s1 s2 s3 s4
              generalize w6.drewN nq = w7 at *
              have e0 : w7.cell? ⟨ub, j, none⟩ = some (.int .i64 cu) := by have := HG4.out.g.cu (uF_at l got hjn); rw [HCU.out] at this; exact this
              by_cases hu : up ≤ cu
              · have hum : um = cu := by have := HUM.out; omega
                have hq : (um == cu) = true := by rw [hum]; simp
                have hs : givs l per s0 (o.take (x + 1)) = (rm, got) := by
                  rw [HNX.out]; unfold giv
                  rw [if_pos]
                  dsimp only
                  rw [HUP.out, HCU.out]; exact hu
                have HS := Lib.hid hs
                clear hs hum
                go_wp2_with fail
                go_roundg (no - (x + 1))
                case measure => have := hmm.out; omega
                case rel => exact ⟨x + 1, nW, cW, aW, Lib.hid (Nat.le_refl _), by omega, by omega, by go_num, by rw [HS.out], rfl, by rw [HS.out]; exact hkw, hcw, hcx, by rw [HS.out]; exact HG4, HB2⟩
              · have hum : um = up := by have := HUM.out; omega
                have hq : (um == cu) = false := by rw [beq_eq_false_iff_ne]; omega
                have hq1 : ¬ um = cu := by omega
                have hs : givs l per s0 (o.take (x + 1)) = (rm - (um - cu), putG got (j : Int) um) := by
                  rw [HNX.out]; unfold giv
                  rw [if_neg (by dsimp only; rw [HUP.out, HCU.out]; exact hu)]
                  dsimp only
                  rw [HUP.out, HCU.out, hum]
                have HS := Lib.hid hs
                have t0 : um - cu ≤ rm := by have := HUP.out; unfold upt at this; rw [HCU.out] at this; omega
                have t1 : 0 ≤ um - cu := by omega
                have t2 : um - cu ≤ 1073741824 := by omega
                have t3 : -1125899906842624 ≤ rm - (um - cu) := by omega
                have t4 : rm - (um - cu) ≤ 1125899906842624 := by omega
                have c4 := (HCC.out.old HG4.out.g.low HGL.out).c4
                dsimp only at c4
                clear hs hum
                by_cases hkey : (j : Int) ∈ keys got
                · have hgt := HOLD.out hkey
                  have hq2 : (cu == mg) = false := by rw [beq_eq_false_iff_ne]; omega
                  have hq3 : ¬ cu = mg := by omega
                  have hke : keys (putG got (j : Int) um) = keys got := by rw [putG_keys, if_pos hkey]
                  have HKE := Lib.hid hke
                  clear hke hkey
                  go_wp2_with fail
                  go_quiet (fail)
                  have HG5 := Lib.hid (HG4.out.old ((Kept.refl (fun _ => False) w7).drewN nq))
                  clear e0 c4
                  generalize w7.drewN nq = w8 at *
                  have e0 : w8.cell? ⟨ub, j, none⟩ = some (.int .i64 cu) := by have := HG5.out.g.cu (uF_at l got hjn); rw [HCU.out] at this; exact this
                  have f0 := HG5.out.g.bu.frozen j
                  have HG6 := Lib.hid (HG5.out.setU j um)
                  rw [← uF_put l got (j : Int) um n rfl, ← HKE.out] at HG6
                  go_upto_region 21 with fail
                  clear e0 f0
                  generalize w8.setCell ⟨ub, j, none⟩ (.int .i64 um) = w9 at *
                  go_wp2_with fail
                  go_roundg (no - (x + 1))
                  case measure => have := hmm.out; omega
                  case rel => exact ⟨x + 1, nW, cW, aW, Lib.hid (Nat.le_refl _), by omega, by omega, by go_num, by rw [HS.out], rfl, by rw [HS.out]; show Hid (_ = _); rw [HKE.out]; exact hkw, hcw, hcx, by rw [HS.out]; exact HG6, HB2⟩
                · have hgt := HNEW.out hkey
                  have hq2 : (cu == mg) = true := by rw [hgt]; simp
                  have hke : keys (putG got (j : Int) um) = keys got ++ [(j : Int)] := by rw [putG_keys, if_neg hkey]
                  have HKE := Lib.hid hke
                  have hgl := gb_len HB.out
                  have hkl : (keys got).length = got.length := by unfold keys; rw [List.length_map]
                  dsimp only at hgl
                  have HSM : Hid ((keys got).length + [(j : Int)].length ≤ 1000000) := Lib.hid (by have := HN.out; rw [hkl]; simp; omega)
                  have HKW2 : Hid ((keys got ++ [(j : Int)]).length = nW + 1) := Lib.hid (by rw [List.length_append, hkw.out]; rfl)
                  clear hke hkey hgt hgl hkl
                  go_wp2_with fail
                  go_quiet (fail)
                  have HG5 := Lib.hid (HG4.out.old ((Kept.refl (fun _ => False) w7).drewN nq))
                  clear e0 c4
                  generalize w7.drewN nq = w8 at *
                  have hal := (Kept.refl (fun _ => False) w8).alloc (.cells #[.int .i64 (j : Nat)] 3)
                  have HG6 := Lib.hid (HG5.out.old hal)
                  have S3 := Lib.hid (src_one (cap := 1) (Blk.new w8 [.int .i64 (j : Nat)] 3))
                  clear hal HG5
                  go_upto_region 28 with (at_builtin; refine Ro.wpList_app nT rfl _ _ rfl (v := .slice aW nW cW) rfl HG6.out.g.ww rfl S3.out HSM.out ?_; intro v9 w9 hA; have HG7 := Lib.hid (HG6.out.app hA); obtain ⟨a9, c9, hv9, q1, q2⟩ := hA.row.slice; rw [HKW2.out] at hv9 q1; subst hv9; clear hA)
                  unfold maxLen at q2
                  have e0 : w9.cell? ⟨ub, j, none⟩ = some (.int .i64 cu) := by have := HG7.out.g.cu (uF_at l got hjn); rw [HCU.out] at this; exact this
                  have f0 := HG7.out.g.bu.frozen j
                  have HG8 := Lib.hid (HG7.out.setU j um)
                  rw [← uF_put l got (j : Int) um n rfl, ← HKE.out] at HG8
                  clear HG6 S3
                  go_upto_region 21 with fail
                  clear e0 f0
                  generalize w9.setCell ⟨ub, j, none⟩ (.int .i64 um) = w10 at *
                  go_wp2_with fail
                  go_roundg (no - (x + 1))
                  case measure => have := hmm.out; omega
                  case rel => exact ⟨x + 1, nW + 1, c9, a9, Lib.hid (Nat.le_refl _), by omega, by omega, by go_num, by rw [HS.out], rfl, by rw [HS.out]; show Hid (_ = _); rw [HKE.out]; exact HKW2, q1, q2, by rw [HS.out]; exact HG8, HB2⟩
            · have hlk2 : x = k := by omega
              have hlkz : decide ((x : Int) < (k : Int)) = false := decide_eq_false (by omega)
              have hltz : (x : Int) < (no : Int) := by omega
              have htk : o.take x = o.take k := by rw [hlk2]
              rw [htk] at hkw HG HB
              have HTK := Lib.hid htk
              clear hlk2 htk
              go_wp2_with fail
              go_meet
              exact ⟨nW, cW, aW, by rw [HTK.out], rfl, hkw, hcw, hcx, HG, HB⟩
          · have hltz : decide ((x : Int) < (no : Int)) = false := decide_eq_false (by omega)
            have htk : o.take x = o.take k := by
              rw [List.take_of_length_le (by rw [HNO.out]; omega), List.take_of_length_le (by rw [HNO.out]; omega)]
            rw [htk] at hkw HG HB
            have HTK := Lib.hid htk
            clear htk
            go_wp2_with fail
            go_meet
            exact ⟨nW, cW, aW, by rw [HTK.out], rfl, hkw, hcw, hcx, HG, HB⟩
      case rest =>
      obtain ⟨nW, cW, aW, rfl, rfl, hkw, hcw, hcx, HG, HB⟩ := hcut
      clear HG7 HGB hkw0
      obtain ⟨fst, hfst⟩ : ∃ fst, o.take k = fst := ⟨_, rfl⟩
      rw [hfst] at hkw HG HB
      obtain ⟨sF, hsF⟩ : ∃ s, givs l per s0 fst = s := ⟨_, rfl⟩
      rw [hsF] at hkw HG HB
      obtain ⟨T, hT⟩ : ∃ T, sF.2.map (tell l fst) = T := ⟨_, rfl⟩
      have hgran : gran l o old k budget share = T := by unfold gran; rw [HPER.out, HS0.out, hfst, hsF]; exact hT
      have HGRAN := Lib.hid hgran
      have hrm : ∃ rm, (givs l per s0 (o.take k)).1 = rm := ⟨_, rfl⟩
      obtain ⟨rm, hrm⟩ := hrm
      rw [hrm]
      clear hrm hgran hsF hfst
      obtain ⟨rmx, got⟩ := sF
      dsimp only at hkw HG hT
      have hgl : got.length = nW := by have := hkw.out; unfold keys at this; rwa [List.length_map] at this
      have hTl : T.length = nW := by rw [← hT, List.length_map]; exact hgl
      have hW60 : nW ≤ 60 := by have := gb_len HB.out; dsimp only at this; rw [hgl, HN.out] at this; omega
      have HT := Lib.hid hT
      have HGL := Lib.hid hgl
      have HTL := Lib.hid hTl
      clear hT hgl hTl
      go_wp2_with fail
      go_loopg [21, 22] nW (fun mm s21 s22 wr => ∃ (x cO : Nat) (aO : Option Addr), Hid (nW - x ≤ mm) ∧ x ≤ nW ∧ s22 = .int .i64 (x : Nat) ∧ s21 = .slice aO x cO ∧ x ≤ cO ∧ cO ≤ 2 ^ 63 - 1 ∧ Hid (Ro.Row gR wr (.slice aO x cO) (T.take x)) ∧ Hid (∀ g, (Value.slice aO x cO).ownBlock = some g → wc.heap.size ≤ g) ∧ Hid (Kept (fun i => wc.heap.size ≤ i) wc wr))
      case atStart => exact ⟨0, 0, none, Lib.hid (by omega), Nat.zero_le _, rfl, rfl, Nat.le_refl _, by omega, Lib.hid (Ro.Row.none gR wc), Lib.hid (fun g hg => by cases hg), Lib.hid (Kept.refl _ _)⟩
      case round =>
        obtain ⟨x, cO, aO, hmm, hxn, rfl, rfl, hxc, hxm, HRW, HOW, HKW⟩ := hrel
        rcases Nat.lt_or_ge x nW with hlt | hge
        · have hltz : (x : Int) < (nW : Int) := by omega
          obtain ⟨p, u, hgx⟩ : ∃ p u, got[x]? = some (p, u) := ⟨_, _, List.getElem?_eq_getElem (by rw [HGL.out]; exact hlt)⟩
          obtain ⟨⟨j, hpj, hj, _⟩, _⟩ := HB.out.in' (p, u) (List.mem_of_getElem? hgx)
          dsimp only at hpj
          subst hpj
          have hcu := cur_at (l := l) HB.out.nd hgx
          have hkx : (keys got)[x]? = some (j : Int) := by unfold keys; rw [List.getElem?_map, hgx]; rfl
          have hjn : j < n := by have := HN.out; omega
          have hww := HG.out.g.ww.kept HKW.out (fun g hg e => by have := HG.out.g.ww.lt g hg; omega)
          obtain ⟨gw, ow, rfl, ew⟩ := row_cell hww hkx
          obtain ⟨m, hm⟩ : ∃ m, l[j]? = some m := ⟨_, List.getElem?_eq_getElem hj⟩
          obtain ⟨g, o', rfl, hg, hcc⟩ := HCL.out j m hm
          have hcc2 := hcc.old HG.out.g.low hg
          have c0 := hcc2.c0
          have c1 := hcc2.c1
          have cu0 := HG.out.g.cu (uF_at l got hjn)
          rw [hcu] at cu0
          have cp0 := HG.out.g.cp (pF_at fst hjn)
          have htx : T[x]? = some ((at' l (j : Int)).p, (at' l (j : Int)).i, u, prio fst (j : Int)) := by rw [← HT.out, List.getElem?_map, hgx]; rfl
          rw [at_is hm] at htx
          obtain ⟨pr, hpr⟩ : ∃ pr, prio fst (j : Int) = pr := ⟨_, rfl⟩
          rw [hpr] at cp0 htx
          have hgc : g < wc.heap.size := Nat.lt_of_lt_of_le hg HG.out.g.low.size
          have hbu := HG.out.g.bu.lt
          have hbp := HG.out.g.bp.lt
          obtain ⟨mp, mi, mt, mh, mg, mb⟩ := m
          dsimp only at c0 c1 htx
          have KS := Lib.hid fun (w' : World) (k : Kept (fun i => wc.heap.size ≤ i) wc w') => (show w'.cell? ⟨g, o' + j * 6, none⟩ = some (.int .i64 mp) ∧ w'.cell? ⟨g, o' + j * 6 + 1, none⟩ = some (.int .u64 mi) ∧ w'.cell? ⟨ub, j, none⟩ = some (.int .i64 u) ∧ w'.cell? ⟨pb, j, none⟩ = some (.int .i64 pr) from
            ⟨(keptCell k hgc (by omega) _).trans c0, (keptCell k hgc (by omega) _).trans c1, (keptCell k hbu (by omega) _).trans cu0, (keptCell k hbp (by omega) _).trans cp0⟩)
          have HTN : Hid (T.take (x + 1) = T.take x ++ [(mp, mi, u, pr)]) := Lib.hid (by rw [List.take_add_one, htx]; rfl)
          have HTX : Hid ((T.take x ++ [(mp, mi, u, pr)]).length = x + 1) := Lib.hid (by rw [List.length_append, List.length_take, HTL.out, Nat.min_eq_left hxn]; rfl)
          have HSM : Hid ((T.take x).length + [(mp, mi, u, pr)].length ≤ 1000000) := Lib.hid (by rw [List.length_take, HTL.out]; simp; omega)
          have K0 : Hid (Kept (fun i => wc.heap.size ≤ i) wc wr.drew) := Lib.hid HKW.out.drew
          have HR0 : Hid (Ro.Row gR wr.drew (.slice aO x cO) (T.take x)) := Lib.hid (HRW.out.old ((Kept.refl (fun _ => False) wr).drew))
          clear hgx hcu hkx hww hm hcc hcc2 c0 c1 cu0 cp0 htx hpr hg hgc hbu hbp
          go_upto_region 35 with fail
          clear ew
          refine wp_region_held_drew (S := fun w' => w'.cell? ⟨g, o' + j * 6, none⟩ = some (.int .i64 mp) ∧ w'.cell? ⟨g, o' + j * 6 + 1, none⟩ = some (.int .u64 mi) ∧ w'.cell? ⟨ub, j, none⟩ = some (.int .i64 u) ∧ w'.cell? ⟨pb, j, none⟩ = some (.int .i64 pr)) (by kernel_rfl) (KS.out _ K0.out) (fun hHeld => ?_)
          generalize wr.drew = z0 at *
          refine wpAnyH_take (i := 0) (oi := { dst := some 217, op := Go.Op.move (Go.Operand.tmp 21), type := 30, pos := "pace.go:201", after := #[], guard := none }) (v := ?_) rfl (by kernel_rfl) (by kernel_rfl) (by kernel_rfl) (fun _ _ _ h => h) (Or.inl ⟨by rfl, ?_⟩) (by assumption) ?_
          rotate_left 1
          focus (intro w hSw; (try dsimp only at hSw); go_simp; try with_reducible rfl)
          try simp only [Act.put, List.setIfInBounds_toArray, List.set_cons_zero, List.set_cons_succ]
          refine wpAnyH_take (i := 1) (oi := { dst := some 218, op := Go.Op.move (Go.Operand.tmp 0), type := 22, pos := "pace.go:201", after := #[], guard := none }) (v := ?_) rfl (by kernel_rfl) (by kernel_rfl) (by kernel_rfl) (fun _ _ _ h => h) (Or.inl ⟨by rfl, ?_⟩) (by assumption) ?_
          rotate_left 1
          focus (intro w hSw; (try dsimp only at hSw); go_simp; try with_reducible rfl)
          try simp only [Act.put, List.setIfInBounds_toArray, List.set_cons_zero, List.set_cons_succ]
          refine wpAnyH_take (i := 2) (oi := { dst := some 219, op := Go.Op.move (Go.Operand.tmp 23), type := 3, pos := "pace.go:201", after := #[], guard := none }) (v := ?_) rfl (by kernel_rfl) (by kernel_rfl) (by kernel_rfl) (fun _ _ _ h => h) (Or.inl ⟨by rfl, ?_⟩) (by assumption) ?_
          rotate_left 1
          focus (intro w hSw; (try dsimp only at hSw); go_simp; try with_reducible rfl)
          try simp only [Act.put, List.setIfInBounds_toArray, List.set_cons_zero, List.set_cons_succ]
          refine wpAnyH_take (i := 3) (oi := { dst := some 220, op := Go.Op.indexAddr 22 (Go.Operand.tmp 218) (Go.Operand.tmp 219), type := 0, pos := "pace.go:201", after := #[{ on := 1, ground := Go.Ground.data }, { on := 2, ground := Go.Ground.data }], guard := none }) (v := ?_) rfl (by kernel_rfl) (by kernel_rfl) (by kernel_rfl) (fun _ _ _ h => h) (Or.inl ⟨by rfl, ?_⟩) (by assumption) ?_
          rotate_left 1
          focus (intro w hSw; (try dsimp only at hSw); go_simp; try with_reducible rfl)
          try simp only [Act.put, List.setIfInBounds_toArray, List.set_cons_zero, List.set_cons_succ]
          refine wpAnyH_take (i := 4) (oi := { dst := some 221, op := Go.Op.fieldAddr 41 (Go.Operand.tmp 220) 0, type := 0, pos := "pace.go:201", after := #[{ on := 3, ground := Go.Ground.data }], guard := none }) (v := ?_) rfl (by kernel_rfl) (by kernel_rfl) (by kernel_rfl) (fun _ _ _ h => h) (Or.inl ⟨by rfl, ?_⟩) (by assumption) ?_
          rotate_left 1
          focus (intro w hSw; (try dsimp only at hSw); go_simp; try with_reducible rfl)
          try simp only [Act.put, List.setIfInBounds_toArray, List.set_cons_zero, List.set_cons_succ]
          refine wpAnyH_take (i := 5) (oi := { dst := some 222, op := Go.Op.load 3 (Go.Operand.tmp 221), type := 3, pos := "pace.go:201", after := #[{ on := 4, ground := Go.Ground.data }], guard := none }) (v := ?_) rfl (by kernel_rfl) (by kernel_rfl) (by kernel_rfl) (fun _ _ _ h => h) (Or.inl ⟨by rfl, ?_⟩) (by assumption) ?_
          rotate_left 1
          focus (intro w hSw; (try dsimp only at hSw); go_simp; try with_reducible rfl)
          try simp only [Act.put, List.setIfInBounds_toArray, List.set_cons_zero, List.set_cons_succ]
          refine wpAnyH_take (i := 6) (oi := { dst := some 223, op := Go.Op.move (Go.Operand.tmp 0), type := 22, pos := "pace.go:201", after := #[], guard := none }) (v := ?_) rfl (by kernel_rfl) (by kernel_rfl) (by kernel_rfl) (fun _ _ _ h => h) (Or.inl ⟨by rfl, ?_⟩) (by assumption) ?_
          rotate_left 1
          focus (intro w hSw; (try dsimp only at hSw); go_simp; try with_reducible rfl)
          try simp only [Act.put, List.setIfInBounds_toArray, List.set_cons_zero, List.set_cons_succ]
          refine wpAnyH_take (i := 7) (oi := { dst := some 224, op := Go.Op.move (Go.Operand.tmp 23), type := 3, pos := "pace.go:201", after := #[], guard := none }) (v := ?_) rfl (by kernel_rfl) (by kernel_rfl) (by kernel_rfl) (fun _ _ _ h => h) (Or.inl ⟨by rfl, ?_⟩) (by assumption) ?_
          rotate_left 1
          focus (intro w hSw; (try dsimp only at hSw); go_simp; try with_reducible rfl)
          try simp only [Act.put, List.setIfInBounds_toArray, List.set_cons_zero, List.set_cons_succ]
          refine wpAnyH_take (i := 8) (oi := { dst := some 225, op := Go.Op.indexAddr 22 (Go.Operand.tmp 223) (Go.Operand.tmp 224), type := 0, pos := "pace.go:201", after := #[{ on := 6, ground := Go.Ground.data }, { on := 7, ground := Go.Ground.data }], guard := none }) (v := ?_) rfl (by kernel_rfl) (by kernel_rfl) (by kernel_rfl) (fun _ _ _ h => h) (Or.inl ⟨by rfl, ?_⟩) (by assumption) ?_
          rotate_left 1
          focus (intro w hSw; (try dsimp only at hSw); go_simp; try with_reducible rfl)
          try simp only [Act.put, List.setIfInBounds_toArray, List.set_cons_zero, List.set_cons_succ]
          refine wpAnyH_take (i := 9) (oi := { dst := some 226, op := Go.Op.fieldAddr 41 (Go.Operand.tmp 225) 1, type := 0, pos := "pace.go:201", after := #[{ on := 8, ground := Go.Ground.data }], guard := none }) (v := ?_) rfl (by kernel_rfl) (by kernel_rfl) (by kernel_rfl) (fun _ _ _ h => h) (Or.inl ⟨by rfl, ?_⟩) (by assumption) ?_
          rotate_left 1
          focus (intro w hSw; (try dsimp only at hSw); go_simp; try with_reducible rfl)
          try simp only [Act.put, List.setIfInBounds_toArray, List.set_cons_zero, List.set_cons_succ]
          refine wpAnyH_take (i := 10) (oi := { dst := some 227, op := Go.Op.load 33 (Go.Operand.tmp 226), type := 33, pos := "pace.go:201", after := #[{ on := 9, ground := Go.Ground.data }], guard := none }) (v := ?_) rfl (by kernel_rfl) (by kernel_rfl) (by kernel_rfl) (fun _ _ _ h => h) (Or.inl ⟨by rfl, ?_⟩) (by assumption) ?_
          rotate_left 1
          focus (intro w hSw; (try dsimp only at hSw); go_simp; try with_reducible rfl)
          try simp only [Act.put, List.setIfInBounds_toArray, List.set_cons_zero, List.set_cons_succ]
          refine wpAnyH_take (i := 11) (oi := { dst := some 228, op := Go.Op.move (Go.Operand.tmp 11), type := 43, pos := "pace.go:201", after := #[], guard := none }) (v := ?_) rfl (by kernel_rfl) (by kernel_rfl) (by kernel_rfl) (fun _ _ _ h => h) (Or.inl ⟨by rfl, ?_⟩) (by assumption) ?_
          rotate_left 1
          focus (intro w hSw; (try dsimp only at hSw); go_simp; try with_reducible rfl)
          try simp only [Act.put, List.setIfInBounds_toArray, List.set_cons_zero, List.set_cons_succ]
          refine wpAnyH_take (i := 12) (oi := { dst := some 229, op := Go.Op.move (Go.Operand.tmp 23), type := 3, pos := "pace.go:201", after := #[], guard := none }) (v := ?_) rfl (by kernel_rfl) (by kernel_rfl) (by kernel_rfl) (fun _ _ _ h => h) (Or.inl ⟨by rfl, ?_⟩) (by assumption) ?_
          rotate_left 1
          focus (intro w hSw; (try dsimp only at hSw); go_simp; try with_reducible rfl)
          try simp only [Act.put, List.setIfInBounds_toArray, List.set_cons_zero, List.set_cons_succ]
          refine wpAnyH_take (i := 13) (oi := { dst := some 230, op := Go.Op.indexAddr 43 (Go.Operand.tmp 228) (Go.Operand.tmp 229), type := 0, pos := "pace.go:201", after := #[{ on := 11, ground := Go.Ground.data }, { on := 12, ground := Go.Ground.data }], guard := none }) (v := ?_) rfl (by kernel_rfl) (by kernel_rfl) (by kernel_rfl) (fun _ _ _ h => h) (Or.inl ⟨by rfl, ?_⟩) (by assumption) ?_
          rotate_left 1
          focus (intro w hSw; (try dsimp only at hSw); go_simp; try with_reducible rfl)
          try simp only [Act.put, List.setIfInBounds_toArray, List.set_cons_zero, List.set_cons_succ]
          refine wpAnyH_take (i := 14) (oi := { dst := some 231, op := Go.Op.load 3 (Go.Operand.tmp 230), type := 3, pos := "pace.go:201", after := #[{ on := 13, ground := Go.Ground.data }], guard := none }) (v := ?_) rfl (by kernel_rfl) (by kernel_rfl) (by kernel_rfl) (fun _ _ _ h => h) (Or.inl ⟨by rfl, ?_⟩) (by assumption) ?_
          rotate_left 1
          focus (intro w hSw; (try dsimp only at hSw); go_simp; try with_reducible rfl)
          try simp only [Act.put, List.setIfInBounds_toArray, List.set_cons_zero, List.set_cons_succ]
          refine wpAnyH_take (i := 15) (oi := { dst := some 232, op := Go.Op.move (Go.Operand.tmp 12), type := 43, pos := "pace.go:201", after := #[], guard := none }) (v := ?_) rfl (by kernel_rfl) (by kernel_rfl) (by kernel_rfl) (fun _ _ _ h => h) (Or.inl ⟨by rfl, ?_⟩) (by assumption) ?_
          rotate_left 1
          focus (intro w hSw; (try dsimp only at hSw); go_simp; try with_reducible rfl)
          try simp only [Act.put, List.setIfInBounds_toArray, List.set_cons_zero, List.set_cons_succ]
          refine wpAnyH_take (i := 16) (oi := { dst := some 233, op := Go.Op.move (Go.Operand.tmp 23), type := 3, pos := "pace.go:201", after := #[], guard := none }) (v := ?_) rfl (by kernel_rfl) (by kernel_rfl) (by kernel_rfl) (fun _ _ _ h => h) (Or.inl ⟨by rfl, ?_⟩) (by assumption) ?_
          rotate_left 1
          focus (intro w hSw; (try dsimp only at hSw); go_simp; try with_reducible rfl)
          try simp only [Act.put, List.setIfInBounds_toArray, List.set_cons_zero, List.set_cons_succ]
          refine wpAnyH_take (i := 17) (oi := { dst := some 234, op := Go.Op.indexAddr 43 (Go.Operand.tmp 232) (Go.Operand.tmp 233), type := 0, pos := "pace.go:201", after := #[{ on := 15, ground := Go.Ground.data }, { on := 16, ground := Go.Ground.data }], guard := none }) (v := ?_) rfl (by kernel_rfl) (by kernel_rfl) (by kernel_rfl) (fun _ _ _ h => h) (Or.inl ⟨by rfl, ?_⟩) (by assumption) ?_
          rotate_left 1
          focus (intro w hSw; (try dsimp only at hSw); go_simp; try with_reducible rfl)
          try simp only [Act.put, List.setIfInBounds_toArray, List.set_cons_zero, List.set_cons_succ]
          refine wpAnyH_take (i := 18) (oi := { dst := some 235, op := Go.Op.load 3 (Go.Operand.tmp 234), type := 3, pos := "pace.go:201", after := #[{ on := 17, ground := Go.Ground.data }], guard := none }) (v := ?_) rfl (by kernel_rfl) (by kernel_rfl) (by kernel_rfl) (fun _ _ _ h => h) (Or.inl ⟨by rfl, ?_⟩) (by assumption) ?_
          rotate_left 1
          focus (intro w hSw; (try dsimp only at hSw); go_simp; try with_reducible rfl)
          try simp only [Act.put, List.setIfInBounds_toArray, List.set_cons_zero, List.set_cons_succ]
          refine wpAnyH_take (i := 19) (oi := { dst := some 236, op := Go.Op.build 36 #[(0, Go.Operand.tmp 222), (1, Go.Operand.tmp 227), (2, Go.Operand.tmp 231), (3, Go.Operand.tmp 235)], type := 36, pos := "pace.go:201", after := #[{ on := 5, ground := Go.Ground.data }, { on := 10, ground := Go.Ground.data }, { on := 14, ground := Go.Ground.data }, { on := 18, ground := Go.Ground.data }], guard := none }) (v := ?_) rfl (by kernel_rfl) (by kernel_rfl) (by kernel_rfl) (fun _ _ _ h => h) (Or.inl ⟨by rfl, ?_⟩) (by assumption) ?_
          rotate_left 1
          focus (intro w hSw; (try dsimp only at hSw); go_simp; try with_reducible rfl)
          try simp only [Act.put, List.setIfInBounds_toArray, List.set_cons_zero, List.set_cons_succ]
          have hB := Blk.new z0 [.int .i64 mp, .int .u64 mi, .int .i64 u, .int .i64 pr] 36
          have K1 := Lib.hid (K0.out.alloc (.cells #[.int .i64 mp, .int .u64 mi, .int .i64 u, .int .i64 pr] 36))
          have HB1 := Lib.hid (Rw.src_blk (t := gR) (K := [(mp, mi, u, pr)]) 1 hB)
          have hR1 := Lib.hid (HR0.out.old ((Kept.refl (fun _ => False) z0).alloc (.cells #[.int .i64 mp, .int .u64 mi, .int .i64 u, .int .i64 pr] 36)))
          clear hB
          refine wpAnyH_ready (rs := [20]) (by kernel_rfl) (by simp) ?_
          refine AllReadyH.cons (o := { dst := some 237, op := Go.Op.buildSlice 30 1 #[(0, Go.Operand.tmp 236)], type := 30, pos := "pace.go:201", after := #[{ on := 19, ground := Go.Ground.data }], guard := none }) rfl (fun K hK => ?_) AllReadyH.nil
          go_simp
          refine hK.out _ _ (KS.out _ K1.out) (fun hHeld => ?_)
          clear hK K
          try simp only [Act.put, List.setIfInBounds_toArray, List.set_cons_zero, List.set_cons_succ]
          dsimp only [List.toArray] at HB1
          generalize z0.alloc (.cells #[.int .i64 mp, .int .u64 mi, .int .i64 u, .int .i64 pr] 36) = z1 at *
          generalize z0.heap.size = b1 at *
          refine wpAnyH_ready (rs := [21]) (by kernel_rfl) (by simp) ?_
          refine AllReadyH.cons (o := { dst := some 238, op := Go.Op.call { callee := Go.Callee.builtin Go.Builtin.append, args := #[Go.Operand.tmp 217, Go.Operand.tmp 237], argTypes := #[30, 30] }, type := 30, pos := "pace.go:201", after := #[{ on := 0, ground := Go.Ground.data }, { on := 20, ground := Go.Ground.data }], guard := none }) rfl (fun K hK => ?_) AllReadyH.nil
          refine Ro.step_app gR (by rfl) (.tmp 217) (.tmp 237) (by rfl) (v := .slice aO x cO) (by rfl) hR1.out (by rfl) HB1.out HSM.out ?_
          intro vA wA hA
          have HAA := Lib.hid hA
          obtain ⟨a9, c9, hv9, q1, q2⟩ := hA.row.slice
          rw [HTX.out] at hv9 q1
          subst hv9
          clear hA
          have K2 := Lib.hid (K1.out.trans (HAA.out.kept.mono (fun i _ e => HOW.out i e)))
          refine hK.out _ _ (KS.out _ K2.out) (fun hHeld => ?_)
          clear hK K
          try simp only [Act.put, List.setIfInBounds_toArray, List.set_cons_zero, List.set_cons_succ]
          refine wpAnyH_take (i := 22) (oi := { dst := some 21, op := Go.Op.assign (Go.Operand.tmp 238), type := 30, pos := "pace.go:201", after := #[{ on := 21, ground := Go.Ground.data }, { on := 21, ground := Go.Ground.chain }, { on := 0, ground := Go.Ground.phase }, { on := 1, ground := Go.Ground.phase }, { on := 2, ground := Go.Ground.phase }, { on := 3, ground := Go.Ground.phase }, { on := 4, ground := Go.Ground.phase }, { on := 5, ground := Go.Ground.phase }, { on := 6, ground := Go.Ground.phase }, { on := 7, ground := Go.Ground.phase }, { on := 8, ground := Go.Ground.phase }, { on := 9, ground := Go.Ground.phase }, { on := 10, ground := Go.Ground.phase }, { on := 11, ground := Go.Ground.phase }, { on := 12, ground := Go.Ground.phase }, { on := 13, ground := Go.Ground.phase }, { on := 14, ground := Go.Ground.phase }, { on := 15, ground := Go.Ground.phase }, { on := 16, ground := Go.Ground.phase }, { on := 17, ground := Go.Ground.phase }, { on := 18, ground := Go.Ground.phase }, { on := 19, ground := Go.Ground.phase }, { on := 20, ground := Go.Ground.phase }, { on := 21, ground := Go.Ground.phase }], guard := none }) (v := ?_) rfl (by kernel_rfl) (by kernel_rfl) (by kernel_rfl) (fun _ _ _ h => h) (Or.inl ⟨by rfl, ?_⟩) (by assumption) ?_
          rotate_left 1
          focus (intro w hSw; (try dsimp only at hSw); go_simp; try with_reducible rfl)
          try simp only [Act.put, List.setIfInBounds_toArray, List.set_cons_zero, List.set_cons_succ]
          refine wpAnyH_done (by kernel_rfl) ?_ _
          go_wp2_with fail
          go_roundg (nW - (x + 1))
          case measure => have := hmm.out; omega
          case rel => exact ⟨x + 1, c9, a9, Lib.hid (Nat.le_refl _), by omega, by go_num, rfl, q1, by unfold maxLen at q2; omega, Lib.hid (by rw [HTN.out]; exact HAA.out.row), Lib.hid (fun g hg => by
            rcases HAA.out.lies g hg with e | e
            · exact HOW.out g e
            · have := K1.out.size; omega), K2⟩
        · obtain rfl : x = nW := by omega
          have hltz : ¬ (x : Int) < (x : Int) := by omega
          have hfin : GrR w l k budget share (.returned (.tuple #[.slice aO x cO, .int .i64 0])) wr := by
            refine ⟨_, o, old, rfl, HO.out, HOD.out, ?_, ?_⟩
            · rw [HGRAN.out]
              have := HRW.out
              rwa [List.take_of_length_le (by rw [HTL.out]; omega)] at this
            · exact HG.out.g.low.trans' HKW.out (fun i hi e => by have := HG.out.g.low.size; omega)
          have HFIN := Lib.hid hfin
          clear hfin
          go_wp2_with fail
          go_ret2
          exact HFIN.out
end Go.Proofs.Ytbohigfhbjconaa.Sr
