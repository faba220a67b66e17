/- SrptBudget (mizzenlaw17): for every list of messages, every k, budget and share the law returns true (what is granted ahead, old and new, never passes the budget, if it did not already; nobody is granted beyond its end, nor less than it was) and its arguments read as before. Conditions: none. -/
import Derived.Test.YtbohigfhbjconaaRows
import Derived.Test.YtbohigfhbjconaaEnd
import Derived.Test.YtbohigfhbjconaaInts
import Derived.WalkKit
import Derived.ProofKit
import Derived.OpenShut
import Derived.Test.YtbohigfhbjconaaSrMade
import Derived.Test.YtbohigfhbjconaaSrBf
import Derived.Deep.RegionHeld3
import Derived.StillTailTactics
set_option linter.unusedVariables false
namespace Go.Proofs.Ytbohigfhbjconaa.srptBudget
open Go.ChangeShapes Go.WideShapes Go.ChangeAt Go.RowKit Go.Proofs.Ytbohigfhbjconaa.Hp Go.Proofs.Ytbohigfhbjconaa.End
open Go.RowKit Go.Proofs.Ytbohigfhbjconaa.Hp Go.Proofs.Ytbohigfhbjconaa.End Opn SrM So SoM Sr
theorem own : ownKnob Try.prog.godebug = none := by kernel_rfl
def Fin' (n k b s : Int) : Prop := n ≤ 40 ∧ 1 ≤ k ∧ k ≤ 8 ∧ 0 ≤ b ∧ b ≤ 1099511627776 ∧ 0 ≤ s ∧ s ≤ b
set_option maxRecDepth 100000 in
set_option maxHeartbeats 16000000 in
theorem early (s0 : Option Addr) (n cap0 : Nat) (k b s : Int) (w : World) (h : ¬ Fin' (n : Int) k b s) :
    Calls Try.prog 4 #[.slice s0 n cap0, .int .i64 k, .int .i64 b, .int .i64 s] w fun e w' => e = .returned (.bool true) ∧ Old w w' := by
  have HC := Lib.hid fun w => awake_any w
  have hc : (((40 : Int) < (n : Int))) ∨ (decide ((40 : Int) < (n : Int)) = false ∧ (k < 1)) ∨ (decide ((40 : Int) < (n : Int)) = false ∧ decide (k < 1) = false ∧ (8 < k)) ∨ (decide ((40 : Int) < (n : Int)) = false ∧ decide (k < 1) = false ∧ decide (8 < k) = false ∧ (b < 0)) ∨ (decide ((40 : Int) < (n : Int)) = false ∧ decide (k < 1) = false ∧ decide (8 < k) = false ∧ decide (b < 0) = false ∧ (1099511627776 < b)) ∨ (decide ((40 : Int) < (n : Int)) = false ∧ decide (k < 1) = false ∧ decide (8 < k) = false ∧ decide (b < 0) = false ∧ decide (1099511627776 < b) = false ∧ (s < 0)) ∨ (decide ((40 : Int) < (n : Int)) = false ∧ decide (k < 1) = false ∧ decide (8 < k) = false ∧ decide (b < 0) = false ∧ decide (1099511627776 < b) = false ∧ decide (s < 0) = false ∧ (b < s)) := by
    unfold Fin' at h
    simp only [decide_eq_false_iff_not]; omega
  clear h
  rcases hc with h0 | ⟨h0, h1⟩ | ⟨h0, h1, h2⟩ | ⟨h0, h1, h2, h3⟩ | ⟨h0, h1, h2, h3, h4⟩ | ⟨h0, h1, h2, h3, h4, h5⟩ | ⟨h0, h1, h2, h3, h4, h5, h6⟩
  all_goals
    go_enter Try.func4, Try.ntmps4
    go_wp2_with fail
    with_reducible refine Calls.mono (HC.out _) ?_
    rintro e w7 ⟨rfl, ho⟩
    have HO := Lib.hid ho
    clear ho
    go_wp2_with fail
    go_ret
    exact ⟨rfl, HO.out⟩
set_option maxRecDepth 100000 in
set_option maxHeartbeats 16000000 in
theorem late (l : List M) (s0 : Option Addr) (cap0 : Nat) (k : Nat) (b s : Int) (w : World) (hrd : Rd w (.slice s0 l.length cap0) l) (h : Fin' (l.length : Int) (k : Int) b s) :
    Calls Try.prog 4 #[.slice s0 l.length cap0, .int .i64 (k : Nat), .int .i64 b, .int .i64 s] w fun e w' => e = .returned (.bool true) ∧ Old w w' := by
  have HC := Lib.hid fun w => awake_any w
  have HRD := Lib.hid hrd
  have HMD := Lib.hid fun (w' : World) (kk : Kept (fun _ => False) w w') => made_any (hrd.old kk) (by unfold Fin' at h; omega)
  obtain ⟨n, hn⟩ : ∃ n, l.length = n := ⟨_, rfl⟩
  have HN := Lib.hid hn
  rw [hn] at h HMD ⊢
  obtain ⟨h1, h2, h3, h4, h5, h6, h7⟩ := h
  clear hrd hn
  have d0 : decide ((40 : Int) < (n : Int)) = false := decide_eq_false (by omega)
  have d1 : decide ((k : Int) < 1) = false := decide_eq_false (by omega)
  have d2 : decide (8 < (k : Int)) = false := decide_eq_false (by omega)
  have d3 : decide (b < 0) = false := decide_eq_false (by omega)
  have d4 : decide (1099511627776 < b) = false := decide_eq_false (by omega)
  have d5 : decide (s < 0) = false := decide_eq_false (by omega)
  have d6 : decide (b < s) = false := decide_eq_false (by omega)
  go_enter Try.func4, Try.ntmps4
  go_wp2_with fail
  clear d0 d1 d2 d3 d4 d5 d6
  go_loopg [9, 10] n (fun kx s9 s10 wr => ∃ (i : Nat), s9 = .int .i64 i ∧ i ≤ n ∧ n - i ≤ kx ∧ Hid (∀ p q : Nat, p < i → q < p → ¬ ((at' l (p : Int)).p = (at' l (q : Int)).p ∧ (at' l (p : Int)).i = (at' l (q : Int)).i)) ∧ Hid (Kept (fun _ => False) w wr))
  case atStart => exact ⟨0, rfl, Nat.zero_le _, Nat.le_refl _, Lib.hid (fun p q hp => by omega), Lib.hid (Kept.refl _ _)⟩
  case round =>
    obtain ⟨i, rfl, hin, hkx, HD, HK⟩ := hrel
    by_cases hlt : i < n
    · have hltz : (i : Int) < (n : Int) := by omega
      have HI0 : Hid (∀ q : Nat, q < 0 → ¬ ((at' l (i : Int)).p = (at' l (q : Int)).p ∧ (at' l (i : Int)).i = (at' l (q : Int)).i)) := fun q hq => by omega
      have hnx : n - (i + 1) < n - i := by omega
      obtain ⟨ki, hki⟩ : ∃ ki, ki = n - (i + 1) := ⟨_, rfl⟩
      have HKI := Lib.hid hki
      clear hki
      go_wp2_with fail
      obtain ⟨u0, hu0⟩ : ∃ u0 : World, u0 = wr := ⟨_, rfl⟩
      subst hu0
      go_loopg [10] i (fun ky s10 wr => ∃ (j : Nat), s10 = .int .i64 j ∧ j ≤ i ∧ i - j ≤ ky ∧ Hid (∀ q : Nat, q < j → ¬ ((at' l (i : Int)).p = (at' l (q : Int)).p ∧ (at' l (i : Int)).i = (at' l (q : Int)).i)) ∧ Hid (Kept (fun _ => False) w wr))
      case atStart => exact ⟨0, rfl, Nat.zero_le _, Nat.le_refl _, HI0, HK⟩
      case round =>
        clear HI0 HK
        obtain ⟨j, rfl, hji, hky, HI, HK⟩ := hrel
        by_cases hjl : j < i
        · have hjlz : (j : Int) < (i : Int) := by omega
          have hjn : j < n := by omega
          have hjnz : (j : Int) < (n : Int) := by omega
          obtain ⟨a', c', f1, hrx⟩ := HRD.out.old HK.out
          obtain ⟨lg, lo, ee, _, p0, p1, _, _, _, _⟩ := hrx i _ (at_len (by rw [HN.out]; exact hlt))
          obtain ⟨_, _, ee2, _, q0, q1, _, _, _, _⟩ := hrx j _ (at_len (by rw [HN.out]; exact hjn))
          have f3 := (Value.slice.inj f1).1
          rw [ee] at f3 ee2
          subst f3
          cases ee2
          clear f1 hrx ee
          have HE : Hid (∀ P Q : Prop, True) := fun _ _ => trivial
          obtain ⟨pi, hpi⟩ : ∃ x, (at' l (i : Int)).p = x := ⟨_, rfl⟩
          obtain ⟨pj, hpj⟩ : ∃ x, (at' l (j : Int)).p = x := ⟨_, rfl⟩
          obtain ⟨ii, hii⟩ : ∃ x, (at' l (i : Int)).i = x := ⟨_, rfl⟩
          obtain ⟨ij, hij⟩ : ∃ x, (at' l (j : Int)).i = x := ⟨_, rfl⟩
          have HX := Lib.hid (⟨hpi, hpj, hii, hij⟩ : (at' l (i : Int)).p = pi ∧ (at' l (j : Int)).p = pj ∧ (at' l (i : Int)).i = ii ∧ (at' l (j : Int)).i = ij)
          rw [hpi] at p0
          rw [hii] at p1
          rw [hpj] at q0
          rw [hij] at q1
          clear hpi hpj hii hij HE
          by_cases k1 : pi = pj
          · have k1d : (pi == pj) = true := by rw [beq_iff_eq]; exact k1
            have k1e := Lib.hid k1
            clear k1
            by_cases k2 : ii = ij
            · have k2d : (ii == ij) = true := by rw [beq_iff_eq]; exact k2
              clear k2
              go_wp2_with fail
              go_quiet (fail)
              go_wp2_with fail
              with_reducible refine Calls.mono (HC.out _) ?_
              rintro e w7 ⟨rfl, ho⟩
              have HO := Lib.hid ((HK.out.drewN nq).trans ho)
              clear ho
              go_wp2_with fail
              go_ret
              exact ⟨rfl, HO.out⟩
            · have k2d : (ii == ij) = false := by rw [beq_eq_false_iff_ne]; exact k2
              have k2e := Lib.hid k2
              clear k2
              go_wp2_with fail
              go_quiet (fail)
              have HK2 := Lib.hid (HK.out.drewN nq)
              clear p0 p1 q0 q1 HK
              generalize wr.drewN nq = wr2 at *
              go_wp2_with fail
              go_roundg (i - (j + 1))
              case measure => omega
              case rel =>
                refine ⟨j + 1, by go_num, by omega, Nat.le_refl _, Lib.hid (fun q hq => ?_), HK2⟩
                rcases Nat.lt_or_ge q j with h | h
                · exact HI.out q h
                · obtain rfl : q = j := by omega
                  rintro ⟨_, e⟩
                  rw [HX.out.2.2.1, HX.out.2.2.2] at e
                  exact k2e.out e
          · have k1d : (pi == pj) = false := by rw [beq_eq_false_iff_ne]; exact k1
            have k1e := Lib.hid k1
            clear k1
            go_wp2_with fail
            go_quiet (fail)
            have HK2 := Lib.hid (HK.out.drewN nq)
            clear p0 p1 q0 q1 HK
            generalize wr.drewN nq = wr2 at *
            go_wp2_with fail
            go_roundg (i - (j + 1))
            case measure => omega
            case rel =>
              refine ⟨j + 1, by go_num, by omega, Nat.le_refl _, Lib.hid (fun q hq => ?_), HK2⟩
              rcases Nat.lt_or_ge q j with h | h
              · exact HI.out q h
              · obtain rfl : q = j := by omega
                rintro ⟨e, _⟩
                rw [HX.out.1, HX.out.2.1] at e
                exact k1e.out e
        · have hjlz : ¬ (j : Int) < (i : Int) := by omega
          obtain rfl : j = i := by omega
          go_wp2_with fail
          go_roundg ki
          case measure => have := HKI.out; omega
          case rel =>
            refine ⟨j + 1, by go_num, by omega, by have := HKI.out; omega, Lib.hid (fun p q hp hq => ?_), HK⟩
            rcases Nat.lt_or_ge p j with h | h
            · exact HD.out p q h hq
            · obtain rfl : p = j := by omega
              exact HI.out q hq
    · have hltz : ¬ (i : Int) < (n : Int) := by omega
      obtain rfl : i = n := by omega
      have HDF : Hid (Dif l) := Lib.hid (fun p q hp hq hne h => by
        rw [HN.out] at hp hq
        rcases Nat.lt_or_ge p q with h' | h'
        · exact HD.out q p hq h' ⟨h.1.symm, h.2.symm⟩
        · exact HD.out p q hp (by omega) h)
      have MD := Lib.hid (HMD.out wr HK.out)
      clear HD hkx
      go_wp2_with fail
      with_reducible refine Calls.mono MD.out ?_
      rintro e w2 ⟨xv, rfl, hx, hk2⟩
      have HX := Lib.hid hx
      have HK2 := Lib.hid (HK.out.trans hk2)
      have hrx := Rd.of_row hx
      have AH := Lib.hid (aheadL_any hrx (by have := HN.out; omega))
      have GR := Lib.hid fun (w' : World) (kk : Kept (fun _ => False) w2 w') => grants_ok (k := k) (budget := b) (share := s) (hrx.old kk) (by have := HN.out; omega) (by unfold Fine; omega)
      clear hx hk2 hrx MD
      obtain ⟨was, hwas⟩ : ∃ was, ahd l (opn l l.length) = was := ⟨_, rfl⟩
      have HWAS := Lib.hid hwas
      rw [hwas] at AH
      clear hwas
      obtain ⟨xa, xc, hxv, _, _⟩ := HX.out.slice
      rw [HN.out] at hxv
      subst hxv
      go_wp2_with fail
      with_reducible refine Calls.mono AH.out ?_
      rintro e w3 ⟨rfl, hk3⟩
      have HK3 := Lib.hid (HK2.out.trans hk3)
      have HX3 := Lib.hid (HX.out.old hk3)
      have G1 := Lib.hid (GR.out w3 hk3)
      clear AH GR hk3 HX HK2
      go_wp2_with fail
      with_reducible refine Calls.mono G1.out ?_
      rintro e w4 ⟨gv, o, old, rfl, hO, hD, hG, hk4⟩
      obtain ⟨room, got, hge, hgb, hmr, hgl⟩ := bud (k := k) (by have := HN.out; omega) hO hD h4 h5 h6 (share := s) (by omega)
      rw [hge] at hG
      obtain ⟨fst, hfst⟩ : ∃ fst, o.take k = fst := ⟨_, rfl⟩
      rw [hfst] at hG
      obtain ⟨ga, gc, hgv, _, _⟩ := hG.slice
      rw [List.length_map] at hgv
      subst hgv
      obtain ⟨ng, hng⟩ : ∃ ng, got.length = ng := ⟨_, rfl⟩
      have HNG := Lib.hid hng
      rw [hng] at hG hgl ⊢
      have HGB := Lib.hid hgb
      have HEND : Hid (was ≤ ahd (lays l got) (opn (lays l got) (lays l got).length) ∧ ahd (lays l got) (opn (lays l got) (lays l got).length) ≤ max was b) := bud_end hgb HWAS.out (by rw [HWAS.out] at hmr; exact hmr)
      have HG4 := Lib.hid hG
      have HX4 := Lib.hid (HX3.out.old hk4)
      have HK4 := Lib.hid (HK3.out.trans hk4)
      have HQ0 : Hid (w.heap.size ≤ wr.heap.size) := HK.out.size
      clear G1 hO hD hG hk4 hge hgb hmr hfst hng HX3 HK3 HMD HRD HK
      obtain ⟨q0, hq0⟩ : ∃ q0, wr.heap.size = q0 := ⟨_, rfl⟩
      obtain ⟨q1, hq1⟩ : ∃ q1, w3.heap.size = q1 := ⟨_, rfl⟩
      rw [hq0] at HX4 HQ0
      rw [hq1] at HG4
      clear hq0 hq1
      obtain ⟨u0, hu0⟩ : ∃ u0 : World, u0 = wr := ⟨_, rfl⟩
      subst hu0
      have c1 : decide ((k : Int) + 1 < (ng : Int)) = false := decide_eq_false (by omega)
      have c2 : IntKind.i64.wrap ((k : Int) + 1) = (k : Int) + 1 := by rw [IntKind.wrap_i64]; omega
      have hi40 : i ≤ 40 := by omega
      go_upto_region 16 with fail
      clear c1 c2
      go_wp2_with fail
      go_loopg [15] ng (fun kx s15 wr => ∃ (z : Nat), s15 = .int .i64 z ∧ z ≤ ng ∧ ng - z ≤ kx ∧ Hid (Rw.Row mT wr q0 (.slice xa i xc) (lays l (got.take z))) ∧ Hid (Rw.Row gT wr q1 (.slice ga ng gc) (got.map (tell l fst))) ∧ Hid (Kept (fun _ => False) w wr))
      case atStart => exact ⟨0, rfl, Nat.zero_le _, Nat.le_refl _, HX4, HG4, HK4⟩
      case round =>
        clear HX4 HG4 HK4
        obtain ⟨z, rfl, hzn, hkz, HX, HG, HK⟩ := hrel
        by_cases hlt : z < ng
        · have hltz : (z : Int) < (ng : Int) := by omega
          obtain ⟨p, u, hgz, hp, hok, hu1, hu2, hat, hnx, hpi⟩ := gb_at HGB.out (i := z) (by rw [HNG.out]; exact hlt)
          rw [HN.out] at hp
          have hpr := prio_bd fst (p : Int)
          obtain ⟨gg, gcap, gcur, hgve, hgg, hGL⟩ : ∃ gg gcap gcur, Value.slice ga ng gc = .slice (some ⟨gg, 0, none⟩) (got.map (tell l fst)).length gcap ∧ q1 ≤ gg ∧ Rw.Lies gT wr gg gcap gcur (got.map (tell l fst)) := by
            rcases HG.out.form with ⟨_, e⟩ | ⟨a1, a2, a3, a4, a5, a6⟩
            · have := congrArg List.length e; rw [List.length_map, HNG.out] at this; simp at this; omega
            · exact ⟨a1, a2, a3, a4, a5, a6⟩
          have hq1 := (Value.slice.inj hgve).1
          have hq3 := (Value.slice.inj hgve).2.2
          clear hgve
          subst hq1
          subst hq3
          have hgj : (got.map (tell l fst))[z]? = some (tell l fst ((p : Int), u)) := by rw [List.getElem?_map, hgz]; rfl
          have HGJ := Lib.hid hgj
          obtain ⟨P, hP⟩ : ∃ P, (at' l (p : Int)).p = P := ⟨_, rfl⟩
          obtain ⟨I, hI⟩ : ∃ I, (at' l (p : Int)).i = I := ⟨_, rfl⟩
          obtain ⟨pr, hprr⟩ : ∃ pr, prio fst (p : Int) = pr := ⟨_, rfl⟩
          have HT : Hid (tell l fst ((p : Int), u) = (P, I, u, pr)) := by show _ = _; unfold tell; dsimp only; rw [hP, hI, hprr]
          rw [hprr] at hpr
          have HPI := Lib.hid (⟨hP, hI⟩ : (at' l (p : Int)).p = P ∧ (at' l (p : Int)).i = I)
          have HCG : Hid (∀ w' : World, Rw.Lies gT w' gg gc gcur (got.map (tell l fst)) → w'.cell? ⟨gg, z * 4, none⟩ = some (.int .i64 P) ∧ w'.cell? ⟨gg, z * 4 + 1, none⟩ = some (.int .u64 I) ∧ w'.cell? ⟨gg, z * 4 + 2, none⟩ = some (.int .i64 u) ∧ w'.cell? ⟨gg, z * 4 + 3, none⟩ = some (.int .i64 pr)) := by
            intro w' hL
            have hj := HGJ.out
            rw [HT.out] at hj
            have e0 := hL.cell hj (j := 0) rfl
            have e1 := hL.cell hj (j := 1) rfl
            have e2 := hL.cell hj (j := 2) rfl
            have e3 := hL.cell hj (j := 3) rfl
            dsimp only [gT] at e0 e1 e2 e3
            rw [Nat.add_zero] at e0
            exact ⟨e0, e1, e2, e3⟩
          have HGL := Lib.hid hGL
          have HGG := Lib.hid hgg
          have HU := Lib.hid (⟨hok, hu1, hu2⟩ : ok (at' l (p : Int)) = true ∧ (at' l (p : Int)).g < u ∧ u ≤ (at' l (p : Int)).t)
          have HAT0 := Lib.hid hat
          have HNX := Lib.hid hnx
          have HPP := Lib.hid hpi
          obtain ⟨L0, hL0⟩ : ∃ L0, lays l (got.take z) = L0 := ⟨_, rfl⟩
          rw [hL0] at HX HAT0 HNX HPP
          have HL0 : Hid (L0.length = i) := by show _ = _; rw [← hL0, lays_len]; exact HN.out
          clear hgz hok hu1 hu2 hat hnx hpi hgj hGL hgg hP hI hprr hL0 HG
          obtain ⟨pr0, pr6⟩ := hpr
          obtain ⟨kz, hkz2⟩ : ∃ kz, kz = ng - (z + 1) := ⟨_, rfl⟩
          have HKZ := Lib.hid hkz2
          clear hkz2
          have HXS : Hid (Rw.Row mT wr q0 (.slice xa i xc) (if p < 0 then L0.set p (gr (at' l (p : Int)) u) else L0)) := by show Rw.Row _ _ _ _ _; rw [if_neg (by omega)]; exact HX.out
          clear HX
          go_wp2_with fail
          obtain ⟨u0, hu0⟩ : ∃ u0 : World, u0 = wr := ⟨_, rfl⟩
          subst hu0
          go_loopg [16, 17] i (fun ky s16 s17 wr => ∃ (j : Nat) (mt : Bool), s16 = .bool mt ∧ s17 = .int .i64 j ∧ j ≤ i ∧ i - j ≤ ky ∧ Hid (mt = decide (p < j)) ∧ Hid (Rw.Row mT wr q0 (.slice xa i xc) (if p < j then L0.set p (gr (at' l (p : Int)) u) else L0)) ∧ Hid (Rw.Lies gT wr gg gc gcur (got.map (tell l fst))) ∧ Hid (Kept (fun _ => False) w wr))
          case atStart => exact ⟨0, false, rfl, rfl, Nat.zero_le _, Nat.le_refl _, by show _ = _; simp, HXS, HGL, HK⟩
          case round =>
            clear HXS HGL HK
            obtain ⟨j, met, rfl, rfl, hji, hky, HM, HX, HGL, HK⟩ := hrel
            by_cases hjl : j < i
            · have hjlz : (j : Int) < (i : Int) := by omega
              obtain ⟨g0, g1, g2, g3⟩ := HCG.out wr HGL.out
              by_cases hjp : j = p
              · subst j
                have hmf : met = false := by rw [HM.out]; exact decide_eq_false (by omega)
                subst hmf
                rw [if_neg (by omega)] at HX
                have HX0 : Hid (Rw.Row mT wr q0 (.slice xa i xc) L0) := HX
                clear HX HM
                obtain ⟨xg, xcap, xcur, hxve, hxg, hXL⟩ : ∃ xg xcap xcur, Value.slice xa i xc = .slice (some ⟨xg, 0, none⟩) L0.length xcap ∧ q0 ≤ xg ∧ Rw.Lies mT wr xg xcap xcur L0 := by
                  rcases HX0.out.form with ⟨_, e⟩ | ⟨a1, a2, a3, a4, a5, a6⟩
                  · have := HL0.out; rw [e] at this; simp at this; omega
                  · exact ⟨a1, a2, a3, a4, a5, a6⟩
                have hy1 := (Value.slice.inj hxve).1
                have hy3 := (Value.slice.inj hxve).2.2
                clear hxve
                subst hy1
                subst hy3
                obtain ⟨m, hm⟩ : ∃ m, at' l (p : Int) = m := ⟨_, rfl⟩
                have hLp : L0[p]? = some m := by rw [at_len (by rw [HL0.out]; exact hp), HAT0.out, hm]
                have HLP := Lib.hid hLp
                have hPP := HPI.out
                rw [hm] at hPP
                have hUU := HU.out
                rw [hm] at hUU
                have MA := Lib.hid fun w => may_any m w
                rw [(ok_may hUU.1).1] at MA
                have HMM := Lib.hid hm
                obtain ⟨mp, mi, mt, mh, mg, mb⟩ := m
                obtain ⟨hP1, hI1⟩ := hPP
                obtain ⟨_, hu1, hu2⟩ := hUU
                dsimp only at hP1 hI1 hu1 hu2
                subst hP1
                subst hI1
                unfold mv ml at MA
                dsimp only at MA
                have x0 := hXL.cell hLp (j := 0) rfl
                have x1 := hXL.cell hLp (j := 1) rfl
                have x2 := hXL.cell hLp (j := 2) rfl
                have x3 := hXL.cell hLp (j := 3) rfl
                have x4 := hXL.cell hLp (j := 4) rfl
                have x5 := hXL.cell hLp (j := 5) rfl
                dsimp only [mT] at x0 x1 x2 x3 x4 x5
                rw [Nat.add_zero] at x0
                have hxlt := hXL.blk.lt
                have hglt := HGL.out.blk.lt
                have HXL := Lib.hid hXL
                have HXG : Hid (q0 ≤ xg) := hxg
                have KS := Lib.hid fun (w' : World) (kk : Kept (fun _ => False) wr w') => (show w'.cell? ⟨xg, p * 6, none⟩ = some (.int .i64 mp) ∧ w'.cell? ⟨xg, p * 6 + 1, none⟩ = some (.int .u64 mi) ∧ w'.cell? ⟨xg, p * 6 + 2, none⟩ = some (.int .i64 mt) ∧ w'.cell? ⟨xg, p * 6 + 3, none⟩ = some (.int .i64 mh) ∧ w'.cell? ⟨xg, p * 6 + 4, none⟩ = some (.int .i64 mg) ∧ w'.cell? ⟨xg, p * 6 + 5, none⟩ = some (.int .i64 mb) ∧ w'.cell? ⟨gg, z * 4, none⟩ = some (.int .i64 mp) ∧ w'.cell? ⟨gg, z * 4 + 1, none⟩ = some (.int .u64 mi) from
                  ⟨(keptCell kk hxlt (fun f => f) _).trans x0, (keptCell kk hxlt (fun f => f) _).trans x1, (keptCell kk hxlt (fun f => f) _).trans x2, (keptCell kk hxlt (fun f => f) _).trans x3, (keptCell kk hxlt (fun f => f) _).trans x4, (keptCell kk hxlt (fun f => f) _).trans x5, (keptCell kk hglt (fun f => f) _).trans g0, (keptCell kk hglt (fun f => f) _).trans g1⟩)
                have HKZ2 := Lib.hid (Kept.refl (fun _ => False) wr)
                clear hLp hm hXL hxg x0 x1 x2 x3 x4 x5 g0 g1 g2 g3 hxlt hglt
                go_upto_region 23 with fail
                go_region_held3 (fun w' => w'.cell? ⟨xg, p * 6, none⟩ = some (.int .i64 mp) ∧ w'.cell? ⟨xg, p * 6 + 1, none⟩ = some (.int .u64 mi) ∧ w'.cell? ⟨xg, p * 6 + 2, none⟩ = some (.int .i64 mt) ∧ w'.cell? ⟨xg, p * 6 + 3, none⟩ = some (.int .i64 mh) ∧ w'.cell? ⟨xg, p * 6 + 4, none⟩ = some (.int .i64 mg) ∧ w'.cell? ⟨xg, p * 6 + 5, none⟩ = some (.int .i64 mb) ∧ w'.cell? ⟨gg, z * 4, none⟩ = some (.int .i64 mp) ∧ w'.cell? ⟨gg, z * 4 + 1, none⟩ = some (.int .u64 mi)) ((refine KS.out _ ?_; repeat (first | exact Kept.refl _ _ | assumption | (with_reducible refine Kept.drew ?_) | (with_reducible refine Kept.alloc ?_ _))))
                  (first | (go_at_call 11; with_reducible refine Calls.mono (MA.out _) ?_; rintro e w' ⟨rfl, rfl⟩))
                rename_i hHeld
                have hk5 : Kept (fun _ => False) wr ((wr.alloc (.cells #[.int .i64 mp, .int .u64 mi, .int .i64 mt, .int .i64 mh, .int .i64 mg, .int .i64 mb] 39)).drew) := (new_kept wr _).drew
                have HXL5 := Lib.hid (HXL.out.kept hk5 (fun f => f))
                have HGL5 := Lib.hid (HGL.out.kept hk5 (fun f => f))
                have HK5 := Lib.hid (HK.out.trans hk5)
                clear hHeld KS hk5 HXL HGL HK HX0 HKZ2 MA
                generalize (wr.alloc (.cells #[.int .i64 mp, .int .u64 mi, .int .i64 mt, .int .i64 mh, .int .i64 mg, .int .i64 mb] 39)).drew = w5 at *
                obtain ⟨g0, g1, g2, g3⟩ := HCG.out w5 HGL5.out
                have x2 := HXL5.out.cell HLP.out (j := 2) rfl
                have x4 := HXL5.out.cell HLP.out (j := 4) rfl
                dsimp only [mT] at x2 x4
                have b1 : decide (u ≤ mg) = false := decide_eq_false (by omega)
                have b2 : decide (mt < u) = false := decide_eq_false (by omega)
                have b3 : decide (pr < 0) = false := decide_eq_false (by omega)
                have b4 : decide (6 < pr) = false := decide_eq_false (by omega)
                go_upto_region 25 with fail
                go_quiet (fail)
                have HXL6 := Lib.hid (HXL5.out.kept ((Kept.refl (fun _ => False) w5).drewN nq) (fun f => f))
                have HGL6 := Lib.hid (HGL5.out.kept ((Kept.refl (fun _ => False) w5).drewN nq) (fun f => f))
                have HK6 := Lib.hid (HK5.out.drewN nq)
                clear g0 g1 g2 g3 x2 x4 b1 b2 b3 b4 HXL5 HGL5 HK5
                generalize w5.drewN nq = w6 at *
                obtain ⟨g0, g1, g2, g3⟩ := HCG.out w6 HGL6.out
                have x4 := HXL6.out.cell HLP.out (j := 4) rfl
                have f4 := HXL6.out.blk.frozen (p * 6 + 4)
                dsimp only [mT] at x4
                have hp1 : p + 1 ≤ i := hjl
                go_upto_region 22 with fail
                have hk7 := Kept.one w6 xg (p * 6 + 4) (.int .i64 u)
                have hXL7 := lies_set HXL6.out (q := 4) (by decide) (x' := gr (at' l (p : Int)) u) (v := .int .i64 u) HLP.out (by rw [HMM.out]; rfl)
                have HGL7 := Lib.hid (HGL6.out.kept hk7 (fun e => ne_blk HGL6.out.blk HXL6.out.blk (by decide) e))
                have HK7 := Lib.hid (HK6.out.trans' hk7 (fun a ha e => by have := HXG.out; have := HQ0.out; omega))
                have HX7 : Hid (Rw.Row mT (w6.setCell ⟨xg, p * 6 + 4, none⟩ (.int .i64 u)) q0 (.slice (some ⟨xg, 0, none⟩) i xc) (if p < p + 1 then L0.set p (gr (at' l (p : Int)) u) else L0)) := by
                  show Rw.Row _ _ _ _ _
                  rw [if_pos (by omega)]
                  have h := hXL7.row HXG.out
                  rw [List.length_set, HL0.out] at h
                  exact h
                clear hk7 hXL7 g0 g1 g2 g3 x4 f4 HXL6 HGL6 HK6
                generalize w6.setCell ⟨xg, p * 6 + 4, none⟩ (.int .i64 u) = w7 at *
                go_wp2_with fail
                go_roundg (i - (p + 1))
                case measure => omega
                case rel => exact ⟨p + 1, true, rfl, by go_num, hp1, Nat.le_refl _, by show _ = _; simp, HX7, HGL7, HK7⟩
              · have HNE : Hid (¬ ((at' l (j : Int)).p = P ∧ (at' l (j : Int)).i = I)) := by
                  rw [← HPI.out.1, ← HPI.out.2]
                  exact HDF.out j p (by rw [HN.out]; exact hjl) (by rw [HN.out]; exact hp) hjp
                obtain ⟨LX, hLX⟩ : ∃ LX, (if p < j then L0.set p (gr (at' l (p : Int)) u) else L0) = LX := ⟨_, rfl⟩
                have HLJ : Hid ((at' LX (j : Int)).p = (at' l (j : Int)).p ∧ (at' LX (j : Int)).i = (at' l (j : Int)).i ∧ LX.length = i) := by
                  show _ ∧ _ ∧ _
                  have hq := HPP.out j
                  rw [← hLX]
                  split
                  · have e : at' (L0.set p (gr (at' l (p : Int)) u)) (j : Int) = at' L0 (j : Int) := by
                      unfold at'
                      rw [List.getElem?_set, if_neg (by simpa using fun e => hjp e.symm)]
                    rw [e, List.length_set]
                    exact ⟨hq.1, hq.2, HL0.out⟩
                  · exact ⟨hq.1, hq.2, HL0.out⟩
                have HSM : Hid ((if p < j + 1 then L0.set p (gr (at' l (p : Int)) u) else L0) = LX ∧ met = decide (p < j + 1)) := by
                  have hm := HM.out
                  refine ⟨?_, ?_⟩
                  · rw [← hLX]
                    by_cases h : p < j
                    · rw [if_pos h, if_pos (by omega)]
                    · rw [if_neg h, if_neg (by omega)]
                  · rw [hm]
                    by_cases h : p < j
                    · rw [decide_eq_true h, decide_eq_true (by omega)]
                    · rw [decide_eq_false h, decide_eq_false (by omega)]
                rw [hLX] at HX
                clear hLX
                have hrd := Rd.of_row HX.out
                obtain ⟨a', c', f1, hrx⟩ := hrd
                obtain ⟨lg, lo, ee, _, x0, x1, _, _, _, _⟩ := hrx j _ (at_len (by rw [HLJ.out.2.2]; exact hjl))
                have f3 := (Value.slice.inj f1).1
                rw [ee] at f3
                subst f3
                clear f1 hrx ee
                rw [HLJ.out.1] at x0
                rw [HLJ.out.2.1] at x1
                obtain ⟨pj, hpj⟩ : ∃ x, (at' l (j : Int)).p = x := ⟨_, rfl⟩
                obtain ⟨ij, hij⟩ : ∃ x, (at' l (j : Int)).i = x := ⟨_, rfl⟩
                rw [hpj] at x0 HNE
                rw [hij] at x1 HNE
                clear hpj hij
                have hj1 : j + 1 ≤ i := hjl
                by_cases k1 : pj = P
                · have k1d : (pj != P) = false := by rw [bne_eq_false_iff_eq]; exact k1
                  have k2d : (ij != I) = true := by rw [bne_iff_ne]; exact fun e => HNE.out ⟨k1, e⟩
                  clear k1
                  go_wp2_with fail
                  go_quiet (fail)
                  have HX2 := Lib.hid (HX.out.old ((Kept.refl (fun _ => False) wr).drewN nq))
                  have HGL2 := Lib.hid (HGL.out.kept ((Kept.refl (fun _ => False) wr).drewN nq) (fun f => f))
                  have HK2 := Lib.hid (HK.out.drewN nq)
                  clear x0 x1 g0 g1 g2 g3 HX HGL HK
                  generalize wr.drewN nq = wr2 at *
                  go_wp2_with fail
                  go_roundg (i - (j + 1))
                  case measure => omega
                  case rel => exact ⟨j + 1, met, rfl, by go_num, hj1, Nat.le_refl _, HSM.out.2, by show Rw.Row _ _ _ _ _; rw [HSM.out.1]; exact HX2.out, HGL2, HK2⟩
                · have k1d : (pj != P) = true := by rw [bne_iff_ne]; exact k1
                  clear k1
                  go_wp2_with fail
                  go_quiet (fail)
                  have HX2 := Lib.hid (HX.out.old ((Kept.refl (fun _ => False) wr).drewN nq))
                  have HGL2 := Lib.hid (HGL.out.kept ((Kept.refl (fun _ => False) wr).drewN nq) (fun f => f))
                  have HK2 := Lib.hid (HK.out.drewN nq)
                  clear x0 x1 g0 g1 g2 g3 HX HGL HK
                  generalize wr.drewN nq = wr2 at *
                  go_wp2_with fail
                  go_roundg (i - (j + 1))
                  case measure => omega
                  case rel => exact ⟨j + 1, met, rfl, by go_num, hj1, Nat.le_refl _, HSM.out.2, by show Rw.Row _ _ _ _ _; rw [HSM.out.1]; exact HX2.out, HGL2, HK2⟩
            · have hjlz : ¬ (j : Int) < (i : Int) := by omega
              obtain rfl : j = i := by omega
              have hmt : met = true := by rw [HM.out]; exact decide_eq_true hp
              subst hmt
              rw [if_pos hp, ← HNX.out] at HX
              have HGR := Lib.hid (HGL.out.row HGG.out)
              have hl2 : (got.map (tell l fst)).length = ng := by rw [List.length_map]; exact HNG.out
              rw [hl2] at HGR
              clear HM HGL hl2
              go_wp2_with fail
              go_roundg kz
              case measure => have := HKZ.out; omega
              case rel => exact ⟨z + 1, by go_num, by omega, by have := HKZ.out; omega, HX, HGR, HK⟩
        · have hltz : ¬ (z : Int) < (ng : Int) := by omega
          obtain rfl : z = ng := by omega
          have htk : got.take z = got := by rw [← HNG.out]; exact List.take_length
          rw [htk] at HX
          have hll : (lays l got).length = i := by rw [lays_len]; exact HN.out
          have AH := Lib.hid (aheadL_any (Rd.of_row HX.out) (by rw [hll]; omega))
          obtain ⟨now, hnow⟩ : ∃ now, ahd (lays l got) (opn (lays l got) (lays l got).length) = now := ⟨_, rfl⟩
          rw [hnow] at AH HEND
          obtain ⟨mx, hmx⟩ : ∃ mx, max was b = mx := ⟨_, rfl⟩
          rw [hmx] at HEND
          have MX : ∀ (ts : Array TypeId) (ty : TypeId) (w : World), (Builtin.max_ ts ty #[.int .i64 was, .int .i64 b]).run Try.prog w = .ok (.int .i64 mx) w := by
            intro ts ty w
            rw [← hmx, IvN.max_if]
            exact run_max_int2 ..
          have b1 : decide (was ≤ now) = true := decide_eq_true HEND.out.1
          have b2 : decide (now ≤ mx) = true := decide_eq_true HEND.out.2
          clear hnow hmx hll htk
          go_wp2_with fail
          with_reducible refine Calls.mono AH.out ?_
          rintro e w5 ⟨rfl, hk5⟩
          have HK5 := Lib.hid (HK.out.trans hk5)
          clear hk5 AH
          go_wp2_with fail
          with_reducible refine Calls.mono (HC.out _) ?_
          rintro e w6 ⟨rfl, hk6⟩
          have HK6 := Lib.hid (HK5.out.trans hk6)
          clear hk6
          go_wp2_with fail
          go_ret
          exact ⟨rfl, HK6.out⟩
theorem walk (a0 : List (List Value)) (s0 : Option Addr) (cap0 : Nat) (k b s : Int) (w : World) (w0 : Mixed w s0 cap0 QM a0) (w1 : (Lit.int .i64 k).wf = true) (w2 : (Lit.int .i64 b).wf = true) (w3 : (Lit.int .i64 s).wf = true) :
    Calls Try.prog 4 #[.slice s0 a0.length cap0, .int .i64 k, .int .i64 b, .int .i64 s] w fun e w' => e = .returned (.bool true) ∧ Old w w' := by
  by_cases h : Fin' (a0.length : Int) k b s
  · have h' := h
    unfold Fin' at h'
    obtain ⟨c, rfl⟩ : ∃ c : Nat, k = c := ⟨k.toNat, by omega⟩
    have hr := rd_mixed w0
    have hl : (a0.map toM).length = a0.length := List.length_map _
    have := late (a0.map toM) s0 cap0 c b s w hr (by rw [hl]; exact h)
    rw [hl] at this
    exact this
  · exact early s0 a0.length cap0 k b s w h
set_option maxRecDepth 100000 in
set_option maxHeartbeats 1000000 in
theorem lifted (os : Os) (started : os.Started) (H : Type) (enc : TypeId × Value → H) :
    ReturnsInHanded {} Try.checked os 4 .any (Rows.srptBudgetSpec.pre6 enc Try.prog Try.f4 Rows.srptBudgetRow.domain false) (Rows.srptBudgetSpec.post enc Try.prog Try.f4 false true false false) := by
  refine returnsInHanded_of_change (C := Try.checked) own started (by kernel_rfl) Try.func4
    (ChangeSpec.witness6 (enc := enc) (C := Try.checked) false ⟨#[], #[.slice none 0 0, .int .i64 0, .int .i64 0, .int .i64 0], []⟩ 8 (by kernel_rfl) (by kernel_rfl) (by kernel_rfl) (by kernel_rfl)) ?_
  intro W base args ds gs before hval0 hW hcnd _
  have hval : ∀ (j : Nat) t v, Try.f4.params[j]? = some t → args[j]? = some v → Value.okWide Try.prog W .any base t v := hval0
  have hW' := hW
  obtain ⟨p, q, hA0, hV, rfl, hfz, hnd⟩ := hW
  have hA : DataW.TrodAll enc Try.prog W 0 (fun _ => true) true Try.f4.params.toList args.toList ds p := hA0
  rw [Try.params4] at hA hval
  obtain ⟨v0, vs0, d0, ds0, p0, q0, hargs, rfl, rfl, h0, r0⟩ := trodAll_cons hA
  obtain ⟨v1, vs1, d1, ds1, p1, q1, rfl, rfl, rfl, h1, r1⟩ := trodAll_cons r0
  obtain ⟨v2, vs2, d2, ds2, p2, q2, rfl, rfl, rfl, h2, r2⟩ := trodAll_cons r1
  obtain ⟨v3, vs3, d3, ds3, p3, q3, rfl, rfl, rfl, h3, r3⟩ := trodAll_cons r2
  obtain ⟨rfl, rfl, rfl⟩ := trodAll_nil r3
  obtain rfl : args = #[v0, v1, v2, v3] := by cases args; simp_all
  obtain ⟨rfl, rfl⟩ := trodVars_none hV
  obtain ⟨s0, cap0, a0, rfl, w0⟩ := Opn.mixed_of [some .i64, some .u64, some .i64, some .i64, some .i64, some .i64] Try.underlying22 Try.underlying41 (by kernel_rfl) (by kernel_rfl) rfl (by decide) (by intro j f hf; rcases j with _ | _ | _ | _ | _ | _ | j; (simp at hf; subst hf; exact ⟨some .i64, rfl, Try.underlying3⟩); (simp at hf; subst hf; exact ⟨some .u64, rfl, Try.underlying33⟩); (simp at hf; subst hf; exact ⟨some .i64, rfl, Try.underlying3⟩); (simp at hf; subst hf; exact ⟨some .i64, rfl, Try.underlying3⟩); (simp at hf; subst hf; exact ⟨some .i64, rfl, Try.underlying3⟩); (simp at hf; subst hf; exact ⟨some .i64, rfl, Try.underlying3⟩); (simp at hf)) (hval 0 22 v0 rfl rfl) h0
  obtain ⟨a1, rfl, rfl, rfl, w1⟩ := open_int Try.underlying3 (hval 1 3 v1 rfl rfl) h1
  obtain ⟨a2, rfl, rfl, rfl, w2⟩ := open_int Try.underlying3 (hval 2 3 v2 rfl rfl) h2
  obtain ⟨a3, rfl, rfl, rfl, w3⟩ := open_int Try.underlying3 (hval 3 3 v3 rfl rfl) h3
  clear hA0 hval0
  refine (walk a0 s0 cap0 a1 a2 a3 W w0 w1 w2 w3).mono fun e W' ⟨he, hg⟩ => ?_
  subst he
  exact ⟨_, rfl, post_of_old hW' (fun _ _ _ => (trodAll_cons_mk (shut_bool Try.underlying4 _) trodAll_mk0)) (fun sp hsp => (trodAll_cons_mk (Opn.back (by kernel_rfl) (of_decide_eq_true (by kernel_rfl)) h0 hg (fun x hx => hW'.lt x (by simp [hx])) (fun x hx => hsp x (by simp [hx]))) (trodAll_cons_mk (shut_int Try.underlying3 w1) (trodAll_cons_mk (shut_int Try.underlying3 w2) (trodAll_cons_mk (shut_int Try.underlying3 w3) trodAll_mk0))))) (fun _ _ => rfl)
    hg (ok_one (by kernel_rfl) rfl (okWide_bool_mk Try.underlying4 _))⟩
theorem over : Rows.srptBudgetRow.holds Try.pinned (OpenSpec.ofChange Rows.srptBudgetSpec) :=
  OpenClaim.holds_of_wide 4 Try.f4 rfl rfl rfl rfl rfl rfl rfl ⟨rfl, rfl, rfl, rfl, rfl⟩ rfl rfl rfl rfl rfl (by kernel_rfl) Try.func4 (by kernel_rfl)
    (of_decide_eq_true (by kernel_rfl)) (by unfold Func.isWrapper; first | (rw [if_pos (by decide +kernel)]; kernel_rfl) | (rw [if_neg (by decide +kernel)]; exact ⟨rfl, rfl⟩))
    (fun os started H enc _ => lifted os started H enc)
theorem proved : Rows.SrptBudgetSaid :=
  over
#print axioms proved
end Go.Proofs.Ytbohigfhbjconaa.srptBudget
