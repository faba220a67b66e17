/- CreditLoss (mizzenlaw19): for every two slices of ints the law returns true and its arguments read as before. Conditions: none. -/
import Derived.Test.YtaflhkhfkifefaaRows
import Derived.Test.YtaflhkhfkifefaaEnd
import Derived.Test.YtaflhkhfkifefaaInts
import Derived.WalkKit
import Derived.ProofKit
import Derived.OpenShut
import Derived.Test.YtaflhkhfkifefaaCrAwake
import Derived.Test.YtaflhkhfkifefaaCrLs
import Derived.Deep.RegionHeld3
import Derived.Deep.LoopGhost
set_option linter.unusedVariables false
namespace Go.Proofs.Ytaflhkhfkifefaa.creditLoss
open Go.ChangeShapes Go.WideShapes Go.ChangeAt Go.RowKit Go.Proofs.Ytaflhkhfkifefaa.Hp Go.Proofs.Ytaflhkhfkifefaa.End
open Opn CrM Cr NumM NumC Km
theorem own : ownKnob Try.prog.godebug = none := by kernel_rfl
attribute [local go_sem ↓] Go.wp_at_zero Go.wp_at_succ
theorem ofOne (w : World) : Calls Try.prog 17 #[.int .i64 1] w fun e w' => e = .returned (.int .i64 65536) ∧ w = w' := ofRef_any 1 w
theorem mem_more {l : List Int} {x y : Int} : decide (x ∈ l ++ [y]) = (decide (x ∈ l) || (y == x)) := by
  by_cases h1 : x ∈ l
  · simp [h1]
  · by_cases h2 : y = x
    · simp [h2]
    · have h3 : ¬ x = y := fun e => h2 e.symm
      simp [h1, h2, h3]
set_option maxRecDepth 100000 in
set_option maxHeartbeats 16000000 in
theorem early (a0 : List Int) (s0 : Option Addr) (cap0 : Nat) (a1 : List Int) (s1 : Option Addr) (cap1 : Nat) (w : World) (h : ¬ (a0.length ≤ 60 ∧ a1.length ≤ 60)) :
    Calls Try.prog 5 #[.slice s0 a0.length cap0, .slice s1 a1.length cap1] w fun e w' => e = .returned (.bool true) ∧ Old w w' := by
  have HC := Lib.hid fun w => awake_any w
  obtain ⟨p, hp⟩ : ∃ p, a0.length = p := ⟨_, rfl⟩
  obtain ⟨q, hq⟩ : ∃ q, a1.length = q := ⟨_, rfl⟩
  rw [hp, hq] at h ⊢
  clear hp hq
  have hc : ((60 : Int) < (p : Int)) ∨ (decide ((60 : Int) < (p : Int)) = false ∧ (60 : Int) < (q : Int)) := by
    simp only [decide_eq_false_iff_not]; omega
  clear h
  rcases hc with h1 | ⟨h1, h2⟩
  all_goals
    go_enter Try.func5, Try.ntmps5
    go_wp2_with fail
    with_reducible refine Calls.mono (HC.out _) ?_
    rintro e w' ⟨rfl, ho⟩
    go_wp2_with fail
    go_ret
    exact ⟨rfl, ho⟩
set_option maxRecDepth 100000 in
set_option maxHeartbeats 16000000 in
theorem late (a0 : List Int) (s0 : Option Addr) (cap0 : Nat) (a1 : List Int) (s1 : Option Addr) (cap1 : Nat) (w : World) (w0 : Ints w s0 cap0 a0) (w1 : Ints w s1 cap1 a1) (h0 : a0.length ≤ 60) (h1 : a1.length ≤ 60) :
    Calls Try.prog 5 #[.slice s0 a0.length cap0, .slice s1 a1.length cap1] w fun e w' => e = .returned (.bool true) ∧ Old w w' := by
  have HC := Lib.hid fun w => awake_any w
  have W0 := Lib.hid w0
  have W1 := Lib.hid w1
  clear w0 w1
  obtain ⟨n, hn⟩ : ∃ n, a0.length = n := ⟨_, rfl⟩
  obtain ⟨m, hm⟩ : ∃ m, a1.length = m := ⟨_, rfl⟩
  have HN := Lib.hid hn
  have HM := Lib.hid hm
  rw [hn] at h0 ⊢
  rw [hm] at h1 ⊢
  clear hn hm
  have c0 : decide ((60 : Int) < (n : Int)) = false := by rw [decide_eq_false_iff_not]; omega
  have c1 : decide ((60 : Int) < (m : Int)) = false := by rw [decide_eq_false_iff_not]; omega
  go_enter Try.func5, Try.ntmps5
  go_upto_region 4 with (fail)
  clear c0 c1
  have hB := Blk.new w [.int .i64 0, .int .i64 0, .map none] 44
  have hK := (Kept.refl (fun _ => False) w).alloc (.cells #[.int .i64 0, .int .i64 0, .map none] 44)
  dsimp only [List.toArray] at hB
  have HT : Hid (L1 w w.heap.size 0 none (keys (a0.take 0)) (w.alloc (.cells #[.int .i64 0, .int .i64 0, .map none] 44))) :=
    Lib.hid ⟨⟨hB, Or.inl ⟨rfl, rfl⟩⟩, hK, Nat.le_refl _, fun m e => by cases e⟩
  clear hB hK
  generalize w.alloc (.cells #[.int .i64 0, .int .i64 0, .map none] 44) = w2 at *
  obtain ⟨b, hb⟩ : ∃ b, w.heap.size = b := ⟨_, rfl⟩
  rw [hb] at HT
  try rw [hb]
  have HBw := Lib.hid hb
  clear hb
  go_wp2_with fail
  go_loopg [6] n (fun kx s6 wr => ∃ (i : Nat) (mo : Option Nat), Hid (n - i ≤ kx) ∧ i ≤ n ∧ s6 = .int .i64 (i : Nat) ∧ Hid (L1 w b i mo (keys (a0.take i)) wr))
  case atStart => exact ⟨0, none, Lib.hid (by omega), by omega, rfl, HT⟩
  case round =>
    clear HT
    obtain ⟨i, mo, hm, hi, rfl, hT⟩ := hrel
    rcases Nat.lt_or_ge i n with hlt | hge
    · have hin : i < a0.length := by rw [HN.out]; exact hlt
      obtain ⟨g, off, rfl, hg, hc⟩ := W0.out.at hT.out.o (j := i) hin
      have hk1 : ins (keys (a0.take i)) a0[i] = keys (a0.take (i + 1)) := by rw [List.take_succ_eq_append_getElem hin, keys_snoc]
      have SE := hT.out.sent (by omega) a0[i]
      rw [hk1] at SE
      have SE := Lib.hid SE
      generalize a0[i] = z at *
      clear hk1
      go_wp2_with fail
      with_reducible refine Calls.mono SE.out ?_
      rintro e w5 ⟨rfl, mb, hT2⟩
      have HT2 := Lib.hid hT2
      clear hT2 SE hc
      go_wp2_with fail
      go_roundg (n - (i + 1))
      case measure => have := hm.out; omega
      case rel => exact ⟨i + 1, some mb, Lib.hid (Nat.le_refl _), by omega, by go_num, HT2⟩
    · obtain rfl : i = n := by omega
      have hge' : ¬ i < i := by omega
      have hTK : Hid (L1 w b i mo (keys a0) wr) := Lib.hid (by have h := hT.out; rwa [show a0.take i = a0 by rw [← HN.out, List.take_length]] at h)
      clear hge hm hT
      have HT2 : Hid (L2 w b i mo (keys a0) (.slice none 0 0) (a0.take 0) wr) := Lib.hid ⟨hTK.out, Ro.Row.none nT wr, fun g e => by cases e⟩
      clear hTK
      obtain ⟨u0, hu0⟩ : ∃ u0 : World, u0 = wr := ⟨_, rfl⟩
      subst hu0
      go_wp2_with fail
      clear hge'
      go_loopg [7, 8] i (fun kx s7 s8 wr => ∃ (j : Nat), Hid (i - j ≤ kx) ∧ j ≤ i ∧ s8 = .int .i64 (j : Nat) ∧ Hid (L2 w b i mo (keys a0) s7 (a0.take j) wr) ∧ Hid (a0.take j).Nodup)
      case atStart => exact ⟨0, Lib.hid (by omega), by omega, rfl, HT2, Lib.hid (by simp)⟩
      case round =>
        clear HT2
        obtain ⟨j, hm, hj, rfl, hT, hND⟩ := hrel
        rcases Nat.lt_or_ge j i with hlt | hge
        · have hjn : j < a0.length := by rw [HN.out]; exact hlt
          obtain ⟨a7, k7, rfl, hk7, hk72⟩ := hT.out.r.slice
          have hl7 : (a0.take j).length = j := by rw [List.length_take]; omega
          rw [hl7] at hk7 ⊢
          obtain ⟨u1, hu1⟩ : ∃ u1 : World, u1 = wr := ⟨_, rfl⟩
          subst hu1
          unfold maxLen at hk72
          have HL7 := Lib.hid hl7
          clear hl7
          go_wp2_with fail
          go_loopg [9, 10] j (fun kx s9 s10 wr => ∃ (k : Nat), Hid (j - k ≤ kx) ∧ k ≤ j ∧ s9 = .bool (decide (a0[j] ∈ a0.take k)) ∧ s10 = .int .i64 (k : Nat) ∧ Hid (L2 w b i mo (keys a0) (.slice a7 j k7) (a0.take j) wr))
          case atStart =>
            refine ⟨0, Lib.hid (by omega), by omega, by simp, rfl, ?_⟩
            have h := hT
            rwa [HL7.out] at h
          case round =>
            clear hT
            obtain ⟨k, hmk, hk, rfl, rfl, hT⟩ := hrel
            rcases Nat.lt_or_ge k j with hltk | hgek
            · have hk0 : k < a0.length := by omega
              have hx7 : (a0.take j)[k]? = some a0[k] := by rw [List.getElem?_take, if_pos hltk, List.getElem?_eq_getElem hk0]
              obtain ⟨g7, o7, rfl, hc7⟩ := row_cell hT.out.r hx7
              obtain ⟨g, off, rfl, hg, hc⟩ := W0.out.at hT.out.a.o (j := j) hjn
              have hmt : decide (a0[j] ∈ a0.take (k + 1)) = (decide (a0[j] ∈ a0.take k) || (a0[k] == a0[j])) := by
                rw [List.take_succ_eq_append_getElem hk0]
                exact mem_more
              have HMT := Lib.hid hmt
              have HT := Lib.hid hT.out
              clear hmt hx7 hT
              obtain ⟨t, ht⟩ : ∃ t, decide (a0[j] ∈ a0.take k) = t := ⟨_, rfl⟩
              obtain ⟨t2, ht2⟩ : ∃ t2, decide (a0[j] ∈ a0.take (k + 1)) = t2 := ⟨_, rfl⟩
              have HT2 := Lib.hid ht2
              rw [ht, ht2] at HMT
              rw [ht]
              generalize a0[j] = z at *
              generalize a0[k] = y at *
              clear ht ht2
              go_wp2_with fail
              cases t with
              | true =>
                have h2 : t2 = true := HMT.out
                subst h2
                go_quiet (fail)
                go_wp2_with fail
                go_roundg (j - (k + 1))
                case measure => have := hmk.out; omega
                case rel => exact ⟨k + 1, Lib.hid (Nat.le_refl _), by omega, by rw [HT2.out], by go_num, Lib.hid (HT.out.drewN _)⟩
              | false =>
                have h2 : (y == z) = t2 := by rw [HMT.out]; rfl
                have HT3 := Lib.hid h2
                clear h2
                go_quiet (fail)
                go_wp2_with fail
                go_roundg (j - (k + 1))
                case measure => have := hmk.out; omega
                case rel => exact ⟨k + 1, Lib.hid (Nat.le_refl _), by omega, by rw [HT2.out, ← HT3.out], by go_num, Lib.hid (HT.out.drewN _)⟩
            · obtain rfl : k = j := by omega
              have hge' : ¬ k < k := by omega
              have HT := Lib.hid hT.out
              clear hT hgek
              by_cases hin : a0[k] ∈ a0.take k
              · have hd : decide (a0[k] ∈ a0.take k) = true := by simpa using hin
                rw [hd]
                clear hin hd
                go_wp2_with fail
                with_reducible refine Calls.mono (HC.out _) ?_
                rintro e w' ⟨rfl, ho⟩
                go_wp2_with fail
                go_ret
                exact ⟨rfl, HT.out.a.o.trans ho⟩
              · have hd : decide (a0[k] ∈ a0.take k) = false := by simpa using hin
                rw [hd]
                have HND2 : Hid (a0.take (k + 1)).Nodup := Lib.hid (by rw [List.take_succ_eq_append_getElem hjn]; exact nodup_snoc hND.out hin)
                obtain ⟨g, off, rfl, hg, hc⟩ := W0.out.at HT.out.a.o (j := k) hjn
                have HSN : Hid (a0.take k ++ [a0[k]] = a0.take (k + 1)) := Lib.hid (by rw [List.take_succ_eq_append_getElem hjn])
                have HLn : Hid ((a0.take k).length + [a0[k]].length ≤ 1000000) := Lib.hid (by rw [HL7.out]; simp; omega)
                generalize a0[k] = z at *
                clear hin hd hge'
                have HR := Lib.hid (HT.out.r.old ((Kept.refl (fun _ => False) wr).alloc (.cells #[.int .i64 z] 3)))
                have HS := Lib.hid (src_one (cap := 1) (Blk.new wr [.int .i64 z] 3))
                go_wp2_with (at_builtin; refine Ro.wpList_app nT rfl _ _ rfl (v := .slice a7 k k7) rfl HR.out rfl HS.out HLn.out ?_; intro v3 w3 hA; have HT4 := Lib.hid (HT.out.app hA); rw [HSN.out] at HT4; clear hA)
                go_roundg (i - (k + 1))
                case measure => have := hm.out; omega
                case rel => exact ⟨k + 1, Lib.hid (Nat.le_refl _), by omega, by go_num, HT4, HND2⟩
        · obtain rfl : j = i := by omega
          have hge' : ¬ j < j := by omega
          obtain ⟨a7, k7, rfl, hk7, hk72⟩ := hT.out.r.slice
          rw [show a0.take j = a0 by rw [← HN.out, List.take_length]] at hT hND hk7 ⊢
          rw [HN.out] at hk7 ⊢
          rw [keys_nodup hND.out] at hT
          have HT := Lib.hid hT.out
          unfold maxLen at hk72
          clear hT hge hm
          have MK := fun w => madeB j (by omega) w
          go_upto_region 22 with (fail)
          have hK := (Kept.refl (fun _ => False) wr).alloc (.cells ((List.replicate j false).map Value.bool).toArray 4)
          have HT3 : Hid (L3 w b j 0 mo a0 (.slice a7 j k7) a0 wr.heap.size (List.replicate j false) (wr.alloc (.cells ((List.replicate j false).map Value.bool).toArray 4))) := Lib.hid (by
            have hr := HT.out.r
            rw [HN.out] at hr
            refine ⟨HT.out.a.l.kept hK (fun f => f) (fun _ _ f => f), HT.out.a.o.trans hK, HT.out.a.hb, HT.out.a.hm, hr.old hK, fun g hg => ?_, Blk.new wr _ _, ?_, ?_, HT.out.a.o.size⟩
            · have h1 := HT.out.hv g (by rw [HN.out]; exact hg)
              have h2 := hr.lt g hg
              exact ⟨h1.1, h1.2.1, h1.2.2, by omega⟩
            · have := HT.out.a.l.blk.lt; omega
            · intro e
              have h4 := HT.out.a.l
              rw [e] at h4
              have := h4.mlt
              omega)
          clear hK MK HT hge'
          rw [show ((List.replicate j false).map Value.bool).toArray = Array.replicate j (.bool false) by simp] at HT3
          generalize wr.alloc (.cells (Array.replicate j (.bool false)) 4) = w6 at *
          generalize wr.heap.size = gb at *
          have HI := Inv.start hND.out
          rw [HN.out] at HI
          have HI0 : Hid (Inv a0 (List.replicate j false) a0 0) := Lib.hid HI
          clear HI hND
          go_wp2_with fail
          go_loopg [11, 13] m (fun kx s11 s13 wr => ∃ (t : Nat) (bs : List Bool) (M : List Int) (u : Nat), Hid (m - t ≤ kx) ∧ t ≤ m ∧ s11 = .int .i64 (M.length : Nat) ∧ s13 = .int .i64 (t : Nat) ∧ Hid (L3 w b j u mo M (.slice a7 j k7) a0 gb bs wr) ∧ Hid (Inv a0 bs M u))
          case atStart => exact ⟨0, _, a0, 0, Lib.hid (by omega), by omega, by rw [HN.out], rfl, HT3, HI0⟩
          case round =>
            clear HT3 HI0
            obtain ⟨t, bs, M, u, hm, ht, rfl, rfl, HT, HI⟩ := hrel
            have hcn := HI.out.cnt
            rw [HN.out] at hcn
            rcases Nat.lt_or_ge t m with hlt | hge
            · have hin : t < a1.length := by rw [HM.out]; exact hlt
              obtain ⟨g, off, rfl, hg, hc⟩ := W1.out.at HT.out.o (j := t) hin
              have HAT := Lib.hid fun (w' : World) (k : Old w w') => by
                obtain ⟨g', o', e, _, h⟩ := W1.out.at k (j := t) hin
                cases e
                exact h
              have HU := Lib.hid (HT.out.used (by omega) a1[t])
              generalize a1[t] = x at *
              obtain ⟨p, hp0, hp1, hp2⟩ := HI.out.place x
              rw [HN.out] at hp0 hp1 hp2
              have HP1 := Lib.hid hp1
              have HP2 := Lib.hid hp2
              have HBL := Lib.hid HI.out.len
              rw [HN.out] at HBL
              obtain ⟨L, hL⟩ : ∃ L, M.length = L := ⟨_, rfl⟩
              have HL := Lib.hid hL
              rw [hL] at hcn ⊢
              obtain ⟨u2, hu2⟩ : ∃ u2, (if x ∈ M then u + 1 else u) = u2 := ⟨_, rfl⟩
              have HU2 := Lib.hid hu2
              rw [hu2] at HU
              obtain ⟨M2, hM2⟩ : ∃ M2, M.erase x = M2 := ⟨_, rfl⟩
              have HM2 := Lib.hid hM2
              rw [hM2] at HU
              clear hp1 hp2 hL hu2 hM2 HT
              go_wp2_with fail
              with_reducible refine Calls.mono HU.out ?_
              rintro e w7 ⟨rfl, hT2⟩
              have HT2 := Lib.hid hT2
              clear hT2 HU hc
              obtain ⟨kx2, hkx2⟩ : ∃ kx2, kx2 = j := ⟨_, rfl⟩
              obtain ⟨wq, hwq⟩ : ∃ wq : World, wq = wr := ⟨_, rfl⟩
              subst hwq
              have Hm := Lib.hid hm.out
              clear hm
              go_wp2_with fail
              go_loopg [11, 14] j (fun kx s11 s14 wr => ∃ (k : Nat), Hid (j - k ≤ kx) ∧ k ≤ j ∧ s11 = .int .i64 (if p < k then (L : Int) - 1 else (L : Int)) ∧ s14 = .int .i64 (k : Nat) ∧ Hid (L3 w b j u2 mo M2 (.slice a7 j k7) a0 gb (if p < k then bs.set p true else bs) wr))
              case atStart => exact ⟨0, Lib.hid (by omega), by omega, by rw [if_neg (by omega)], rfl, by rw [if_neg (by omega)]; exact HT2⟩
              case round =>
                clear HT2
                obtain ⟨k, hmk, hk, rfl, rfl, HT⟩ := hrel
                rcases Nat.lt_or_ge k j with hltk | hgek
                · have hk0 : k < a0.length := by rw [HN.out]; exact hltk
                  obtain ⟨g7, o7, rfl, hc7⟩ := row_cell HT.out.r (List.getElem?_eq_getElem hk0)
                  have hc := HAT.out _ HT.out.o
                  have hP := HP1.out k hltk
                  rw [List.getElem?_eq_getElem hk0] at hP
                  have hbk : k < bs.length := by rw [HBL.out]; exact hltk
                  by_cases hkp : k = p
                  · subst hkp
                    obtain ⟨e1, e2⟩ := hP.2 rfl
                    have e1 := Option.some.inj e1
                    rw [if_neg (Nat.lt_irrefl k)] at HT ⊢
                    have hbc := HT.out.bcell e2
                    have fbc := HT.out.k.frozen k
                    have hgl := HT.out.k.lt
                    have hpos : 1 ≤ L := by
                      have := List.length_pos_of_mem (HP2.out.1 hltk)
                      rw [HL.out] at this
                      exact this
                    have hwr : IntKind.i64.wrap ((L : Int) - 1) = (L : Int) - 1 := by rw [IntKind.wrap_i64]; omega
                    have HTs := Lib.hid fun q => (HT.out.old ((Kept.refl (fun _ => False) wr).drewN q)).set k
                    generalize a0[k] = y at *
                    subst e1
                    clear hP e2
                    go_wp2_with fail
                    go_quiet (fail)
                    have hbc2 : (wr.drewN nq).cell? ⟨gb, k, none⟩ = some (.bool false) := hbc
                    have fbc2 : (wr.drewN nq).frozen? ⟨gb, k, none⟩ = false := fbc
                    have hgl2 : gb < (wr.drewN nq).heap.size := hgl
                    have HT3 := Lib.hid (HTs.out nq)
                    clear hbc fbc hgl hc7 hc HT HTs
                    generalize wr.drewN nq = w8 at *
                    go_wp2_with fail
                    go_roundg (j - (k + 1))
                    case measure => have := hmk.out; omega
                    case rel => exact ⟨k + 1, Lib.hid (Nat.le_refl _), by omega, by rw [if_pos (Nat.lt_succ_self k)], by go_num, by rw [if_pos (Nat.lt_succ_self k)]; exact HT3⟩
                  · have hpk : (p < k + 1) = (p < k) := propext ⟨fun h => by omega, fun h => by omega⟩
                    have hbv : ∀ z, bs[k]? = some z → (if p < k then bs.set p true else bs)[k]? = some z := fun z hz => by
                      split
                      · rw [List.getElem?_set_ne (fun e => hkp e.symm)]; exact hz
                      · exact hz
                    obtain ⟨c, hcc⟩ : ∃ c, (if p < k then bs.set p true else bs) = c := ⟨_, rfl⟩
                    obtain ⟨Lk, hLk⟩ : ∃ Lk : Int, (if p < k then (L : Int) - 1 else (L : Int)) = Lk := ⟨_, rfl⟩
                    rw [hcc] at HT hbv
                    rw [hLk]
                    have HTs := Lib.hid fun q => HT.out.old ((Kept.refl (fun _ => False) wr).drewN q)
                    by_cases hyx : a0[k] = x
                    · have hbt : bs[k]? = some true := by
                        rw [List.getElem?_eq_getElem hbk]
                        cases hv : bs[k] with
                        | true => rfl
                        | false => exact absurd (hP.1 ⟨by rw [hyx], by rw [List.getElem?_eq_getElem hbk, hv]⟩) hkp
                      have hbc := HT.out.bcell (hbv true hbt)
                      have HPK := Lib.hid hpk
                      have HCC := Lib.hid hcc
                      have HLK := Lib.hid hLk
                      have HKP := Lib.hid hkp
                      clear hP hbv hbt hcc hLk hkp hpk
                      generalize a0[k] = y at *
                      subst hyx
                      go_wp2_with fail
                      go_quiet (fail)
                      go_wp2_with fail
                      go_roundg (j - (k + 1))
                      case measure => have := hmk.out; omega
                      case rel => exact ⟨k + 1, Lib.hid (Nat.le_refl _), by omega, by rw [← HLK.out]; simp only [HPK.out], by go_num, by simp only [HPK.out, HCC.out]; exact Lib.hid (HTs.out nq)⟩
                    · have HPK := Lib.hid hpk
                      have HCC := Lib.hid hcc
                      have HLK := Lib.hid hLk
                      have HKP := Lib.hid hkp
                      have hyx2 : (a0[k] == x) = false := by rw [beq_eq_false_iff_ne]; exact hyx
                      clear hP hbv hcc hLk hkp hpk
                      generalize a0[k] = y at *
                      go_wp2_with fail
                      go_quiet (fail)
                      go_wp2_with fail
                      go_roundg (j - (k + 1))
                      case measure => have := hmk.out; omega
                      case rel => exact ⟨k + 1, Lib.hid (Nat.le_refl _), by omega, by rw [← HLK.out]; simp only [HPK.out], by go_num, by simp only [HPK.out, HCC.out]; exact Lib.hid (HTs.out nq)⟩
                · obtain rfl : k = j := by omega
                  have hge' : ¬ k < k := by omega
                  have hfin : ∃ bs', (if p < k then bs.set p true else bs) = bs' ∧ Inv a0 bs' M2 u2 ∧ (if p < k then (L : Int) - 1 else (L : Int)) = (M2.length : Nat) := by
                    by_cases hx : x ∈ M
                    · have h2 := HP2.out.2 hx
                      refine ⟨_, rfl, ?_, ?_⟩
                      · rw [if_pos h2, ← HM2.out, ← HU2.out, if_pos hx]
                        exact HI.out.hit (by rw [HN.out]; exact HP1.out) (by rw [HN.out]; exact h2) hx
                      · rw [if_pos h2, ← HM2.out, List.length_erase_of_mem hx, HL.out]
                        have := List.length_pos_of_mem hx
                        rw [HL.out] at this
                        omega
                    · have h2 : ¬ p < k := fun h => hx (HP2.out.1 h)
                      refine ⟨_, rfl, ?_, ?_⟩
                      · rw [if_neg h2, ← HM2.out, ← HU2.out, if_neg hx, erase_none hx]
                        exact HI.out
                      · rw [if_neg h2, ← HM2.out, erase_none hx, HL.out]
                  obtain ⟨bs', e1, hI2, e2⟩ := hfin
                  rw [e1] at HT
                  rw [e2]
                  have HI2 := Lib.hid hI2
                  have hl2 : M2.length ≤ 60 := by have := hI2.cnt; rw [HN.out] at this; omega
                  clear e1 e2 hI2 hgek HI
                  obtain ⟨l2, hl2e⟩ : ∃ l2, M2.length = l2 := ⟨_, rfl⟩
                  have HL2 := Lib.hid hl2e
                  rw [hl2e] at hl2 ⊢
                  clear hl2e
                  go_wp2_with fail
                  go_roundg (m - (t + 1))
                  case measure => have := Hm.out; omega
                  case rel => exact ⟨t + 1, bs', M2, u2, Lib.hid (Nat.le_refl _), by omega, by rw [HL2.out], by go_num, HT, HI2⟩
            · obtain rfl : t = m := by omega
              have hge' : ¬ t < t := by omega
              have WI := window_any HT.out.l (by omega) (by omega)
              rw [show ((j : Int) - (u : Int)) = (M.length : Nat) by omega] at WI
              have WI := Lib.hid WI
              have W2 := Lib.hid fun (w' : World) (h : LV w' b 0 0 none []) => (window_any h (by decide) (by decide)).mono fun e w'' h => (⟨h.1, h.2.2⟩ : e = .returned (.tuple #[.int .i64 0, .int .i64 0]) ∧ Kept (fun k => k = b) w' w'')
              have Z0 := Lib.hid HT.out.o
              have HB := Lib.hid HT.out.hb
              obtain ⟨L, hL⟩ : ∃ L, M.length = L := ⟨_, rfl⟩
              rw [hL] at WI ⊢
              clear hL hge hcn HT HI hm
              go_wp2_with fail
              with_reducible refine Calls.mono WI.out ?_
              rintro e w8 ⟨rfl, hl8, k8⟩
              have HL8 := Lib.hid hl8
              have Z8 : Hid (Old w w8) := Lib.hid (Kept.trans' Z0.out k8 (fun i hi e => by have := HB.out; omega))
              clear hl8 k8 WI Z0
              go_wp2_with fail
              with_reducible refine Calls.mono (W2.out _ HL8.out) ?_
              rintro e w9 ⟨rfl, k9⟩
              have Z9 : Hid (Old w w9) := Lib.hid (Kept.trans' Z8.out k9 (fun i hi e => by have := HB.out; omega))
              clear k9 W2 Z8 HL8
              go_wp2_with (first | (go_at_call 14; with_reducible refine Calls.mono (sent_nil _ _) ?_; rintro e w' ⟨rfl, rfl⟩) | (go_at_call 16; with_reducible refine Calls.mono (window_nil _) ?_; rintro e w' ⟨rfl, rfl⟩) | (go_at_call 9; with_reducible refine Calls.mono (upd_nil _ _ _) ?_; rintro e w' ⟨rfl, rfl⟩) | (go_at_call 11; with_reducible refine Calls.mono (rate_nil _) ?_; rintro e w' ⟨rfl, rfl⟩) | (go_at_call 12; with_reducible refine Calls.mono (aggr_nil _) ?_; rintro e w' ⟨rfl, rfl⟩) | (go_at_call 13; with_reducible refine Calls.mono (rises_nil _) ?_; rintro e w' ⟨rfl, rfl⟩) | (go_at_call 17; with_reducible refine Calls.mono (ofOne _) ?_; rintro e w' ⟨rfl, rfl⟩) | (go_at_call 6; with_reducible refine Calls.mono (HC.out _) ?_; rintro e w' ⟨rfl, ho⟩))
              go_ret
              exact ⟨rfl, Z9.out.trans ho⟩
theorem walk (a0 : List Int) (s0 : Option Addr) (cap0 : Nat) (a1 : List Int) (s1 : Option Addr) (cap1 : Nat) (w : World) (w0 : Ints w s0 cap0 a0) (w1 : Ints w s1 cap1 a1) :
    Calls Try.prog 5 #[.slice s0 a0.length cap0, .slice s1 a1.length cap1] w fun e w' => e = .returned (.bool true) ∧ Old w w' := by
  by_cases h : a0.length ≤ 60 ∧ a1.length ≤ 60
  · exact late a0 s0 cap0 a1 s1 cap1 w w0 w1 h.1 h.2
  · exact early a0 s0 cap0 a1 s1 cap1 w h
set_option maxRecDepth 100000 in
set_option maxHeartbeats 1000000 in
theorem lifted (os : Os) (started : os.Started) (H : Type) (enc : TypeId × Value → H) :
    ReturnsInHanded {} Try.checked os 5 .any (Rows.creditLossSpec.pre6 enc Try.prog Try.f5 Rows.creditLossRow.domain false) (Rows.creditLossSpec.post enc Try.prog Try.f5 false true false false) := by
  refine returnsInHanded_of_change (C := Try.checked) own started (by kernel_rfl) Try.func5
    (ChangeSpec.witness6 (enc := enc) (C := Try.checked) false ⟨#[], #[.slice none 0 0, .slice none 0 0], []⟩ 8 (by kernel_rfl) (by kernel_rfl) (by kernel_rfl) (by kernel_rfl)) ?_
  intro W base args ds gs before hval0 hW hcnd _
  have hval : ∀ (j : Nat) t v, Try.f5.params[j]? = some t → args[j]? = some v → Value.okWide Try.prog W .any base t v := hval0
  have hW' := hW
  obtain ⟨p, q, hA0, hV, rfl, hfz, hnd⟩ := hW
  have hA : DataW.TrodAll enc Try.prog W 0 (fun _ => true) true Try.f5.params.toList args.toList ds p := hA0
  rw [Try.params5] at hA hval
  obtain ⟨v0, vs0, d0, ds0, p0, q0, hargs, rfl, rfl, h0, r0⟩ := trodAll_cons hA
  obtain ⟨v1, vs1, d1, ds1, p1, q1, rfl, rfl, rfl, h1, r1⟩ := trodAll_cons r0
  obtain ⟨rfl, rfl, rfl⟩ := trodAll_nil r1
  obtain rfl : args = #[v0, v1] := by cases args; simp_all
  obtain ⟨rfl, rfl⟩ := trodVars_none hV
  obtain ⟨s0, cap0, a0, rfl, w0⟩ := Opn.ints_of Try.underlying41 Try.underlying3 (by kernel_rfl) (hval 0 41 v0 rfl rfl) h0
  obtain ⟨s1, cap1, a1, rfl, w1⟩ := Opn.ints_of Try.underlying41 Try.underlying3 (by kernel_rfl) (hval 1 41 v1 rfl rfl) h1
  clear hA0 hval0
  refine (walk a0 s0 cap0 a1 s1 cap1 W w0 w1).mono fun e W' ⟨he, hg⟩ => ?_
  subst he
  exact ⟨_, rfl, post_of_old hW' (fun _ _ _ => (trodAll_cons_mk (shut_bool Try.underlying4 _) trodAll_mk0)) (fun sp hsp => (trodAll_cons_mk (Opn.back (by kernel_rfl) (of_decide_eq_true (by kernel_rfl)) h0 hg (fun x hx => hW'.lt x (by simp [hx])) (fun x hx => hsp x (by simp [hx]))) (trodAll_cons_mk (Opn.back (by kernel_rfl) (of_decide_eq_true (by kernel_rfl)) h1 hg (fun x hx => hW'.lt x (by simp [hx])) (fun x hx => hsp x (by simp [hx]))) trodAll_mk0))) (fun _ _ => rfl)
    hg (ok_one (by kernel_rfl) rfl (okWide_bool_mk Try.underlying4 _))⟩
theorem over : Rows.creditLossRow.holds Try.pinned (OpenSpec.ofChange Rows.creditLossSpec) :=
  OpenClaim.holds_of_wide 5 Try.f5 rfl rfl rfl rfl rfl rfl rfl ⟨rfl, rfl, rfl, rfl, rfl⟩ rfl rfl rfl rfl rfl (by kernel_rfl) Try.func5 (by kernel_rfl)
    (of_decide_eq_true (by kernel_rfl)) (by unfold Func.isWrapper; first | (rw [if_pos (by decide +kernel)]; kernel_rfl) | (rw [if_neg (by decide +kernel)]; exact ⟨rfl, rfl⟩))
    (fun os started H enc _ => lifted os started H enc)
theorem proved : Rows.CreditLossSaid :=
  over
#print axioms proved
end Go.Proofs.Ytaflhkhfkifefaa.creditLoss
