/- ReasmAny (mizzenlaw7): for every slice of bytes, every int and every slice of ints the law returns true and its arguments read as before. Conditions: none. -/
import Derived.Test.YtfkcplapmkpkbaaRows
import Derived.Test.YtfkcplapmkpkbaaByt
import Derived.Test.YtfkcplapmkpkbaaEnd
import Derived.Test.YtfkcplapmkpkbaaInts
import Derived.WalkKit
import Derived.ProofKit
import Derived.OpenShut
import Derived.Test.YtfkcplapmkpkbaaRmAny
set_option linter.unusedVariables false
namespace Go.Proofs.Ytfkcplapmkpkbaa.reasmAny
open Go.ChangeShapes Go.WideShapes Go.ChangeAt Go.RowKit Go.Proofs.Ytfkcplapmkpkbaa.Hp Go.Proofs.Ytfkcplapmkpkbaa.End
open Opn IvM RmM Rm
theorem own : ownKnob Try.prog.godebug = none := by kernel_rfl
attribute [local go_sem ↓] Go.wp_at_zero Go.wp_at_succ
set_option maxRecDepth 100000 in
set_option maxHeartbeats 4000000 in
theorem early (l : List UInt8) (s : Option Addr) (cap : Nat) (sz : Int) (zs : List Int) (s2 : Option Addr) (cap2 : Nat) (w : World) (h : ¬ (1 ≤ l.length ∧ l.length ≤ 500 ∧ 1 ≤ sz ∧ sz ≤ 500 ∧ zs.length ≤ 60)) :
    Calls Try.prog 3 #[.slice s l.length cap, .int .i64 sz, .slice s2 zs.length cap2] w fun e w' => e = .returned (.bool true) ∧ Old w w' := by
  have HC := Lib.hid fun w => awake_any w
  have hc : l.length = 0 ∨ (((l.length : Int) == 0) = false ∧ 500 < l.length) ∨ (((l.length : Int) == 0) = false ∧ ¬ 500 < l.length ∧ sz < 1) ∨ (((l.length : Int) == 0) = false ∧ ¬ 500 < l.length ∧ ¬ sz < 1 ∧ 500 < sz) ∨ (((l.length : Int) == 0) = false ∧ ¬ 500 < l.length ∧ ¬ sz < 1 ∧ ¬ 500 < sz ∧ 60 < zs.length) := by
    rw [beq_eq_false_iff_ne]; omega
  clear h
  rcases hc with h1 | ⟨h1, h2⟩ | ⟨h1, h2, h3⟩ | ⟨h1, h2, h3, h4⟩ | ⟨h1, h2, h3, h4, h5⟩
  · rw [h1]
    go_enter Try.func3, Try.ntmps3
    go_wp2_with (go_at_call 6; refine (HC.out _).mono ?_; rintro e w' ⟨rfl, ho⟩)
    go_ret
    exact ⟨rfl, ho⟩
  all_goals
    go_enter Try.func3, Try.ntmps3
    go_wp2_with (go_at_call 6; refine (HC.out _).mono ?_; rintro e w' ⟨rfl, ho⟩)
    go_ret
    exact ⟨rfl, ho⟩
theorem infoL : (Try.prog.info? 4).map (fun i => (i.zero, i.size, i.bytes)) = some (some (.bool false), 1, 1) := by kernel_rfl
theorem made (N : Nat) (hN : N ≤ 1000) : ∃ Z : List Value, Z = (List.replicate N false).map Value.bool ∧ ∀ w : World, (Instr.makeSlice 29 (.int .i64 (N : Int)) (.int .i64 (N : Int))).run Try.prog w = .ok (.slice (some ⟨w.heap.size, 0, none⟩) N N) (w.alloc (.cells Z.toArray 4)) := by
  obtain ⟨ti, hti, hz0, hz1, hz2⟩ := info_parts infoL
  refine ⟨_, rfl, fun w => ?_⟩
  have := run_make (P := Try.prog) (w := w) 29 4 ti (.bool false) Try.underlying29 hti hz0 .i64 .i64 (N : Int) (N : Int) (by omega) (by omega) (by rw [hz2]; omega) (by omega)
  rw [Int.toNat_natCast, hz1, Nat.mul_one] at this
  rw [this]
  have e : madeCells (Value.bool false).cells N = ((List.replicate N false).map Value.bool).toArray := by
    apply Array.toList_inj.1
    have := toList_madeCells_one (.bool false) N
    rw [show (Value.bool false).cells = #[.bool false] from rfl, this]
    simp
  rw [e]
set_option maxRecDepth 100000 in
set_option maxHeartbeats 16000000 in
theorem late (l : List UInt8) (b0 o cap sz N : Nat) (zs : List Int) (s2 : Option Addr) (cap2 : Nat) (w : World) (hB : Byts w (some ⟨b0, o, none⟩) cap l) (hZ : Ints w s2 cap2 zs) (g1 : 1 ≤ l.length) (g2 : l.length ≤ 500) (g3 : 1 ≤ sz) (g4 : sz ≤ 500) (g5 : zs.length ≤ 60) (hN : N = (l.length + sz - 1) / sz) :
    Calls Try.prog 3 #[.slice (some ⟨b0, o, none⟩) l.length cap, .int .i64 (sz : Int), .slice s2 zs.length cap2] w fun e w' => e = .returned (.bool true) ∧ Old w w' := by
  have HC := Lib.hid fun w => awake_any w
  have HB := Lib.hid hB
  have HZ := Lib.hid hZ
  have hcap : l.length ≤ cap := by obtain ⟨_, _, e, hc, _⟩ := hB.1; cases e; exact hc
  have NW := Lib.hid fun w => new_yes (n := l.length) (most := (l.length : Int)) (by omega) (by omega) (by omega) (by omega) w
  obtain ⟨n1, n2, n3, n4⟩ := pieces g1 g3 hN
  have hdiv : ((l.length : Int) + (sz : Int) - 1) / (sz : Int) = (N : Int) := by rw [hN, Int.natCast_ediv]; congr 1; omega
  have hq0 : 0 ≤ (l.length : Int) + (sz : Int) - 1 := by omega
  have hm0 : ¬ (sz : Int) = 0 := by omega
  have hm1 : ((sz : Int) == 0) = false := by rw [beq_eq_false_iff_ne]; exact hm0
  have hl0 : ((l.length : Int) == 0) = false := by rw [beq_eq_false_iff_ne]; omega
  have h2 : ¬ (500 < l.length) := by omega
  have h3 : ¬ ((sz : Int) < 1) := by omega
  have h4 : ¬ (500 < sz) := by omega
  have h5 : ¬ (60 < zs.length) := by omega
  have N3 := Lib.hid n3
  have N4 := Lib.hid n4
  obtain ⟨Z, hZe, hmk⟩ := made N (by omega)
  have HZE := Lib.hid hZe
  clear hB hZ hN n3 n4 hZe
  go_enter Try.func3, Try.ntmps3
  go_wp2_with fail
  with_reducible refine Calls.mono (NW.out _) ?_
  rintro e w1 ⟨b, F, rfl, hb1, k1⟩
  have HB1 := Lib.hid hb1
  have K1 := Lib.hid k1
  clear hb1 k1 NW
  go_upto_region 10 with fail
  rw [hdiv]
  have hG0 := Blk.new w1 Z 4
  have k2 : Kept (fun _ => False) w1 (w1.alloc (.cells Z.toArray 4)) := (Kept.refl _ w1).alloc _
  generalize w1.alloc (.cells Z.toArray 4) = w2 at *
  have hs1 := K1.out.size
  have hBf0 : Bf w b w1.heap.size sz l (List.replicate N false) w2 := by
    refine ⟨⟨F, [], _, HB1.out.old k2, agree_nil _ l, fun x => ⟨fun h => by simp [IvM.Has] at h, fun ⟨k, hk, _⟩ => ?_⟩, fun e => ?_⟩, K1.out.trans k2, hs1⟩
    · have hk2 := (List.getElem?_eq_some_iff.1 hk)
      obtain ⟨hk3, hk4⟩ := hk2
      rw [List.getElem_replicate] at hk4
      cases hk4
    · obtain ⟨_, _, _, hb⟩ := HB1.out.bare
      have := (hb.own _ e).2
      omega
  rw [HZE.out] at hG0
  generalize w1.heap.size = gb at *
  have HBF0 := Lib.hid hBf0
  have HG0 := Lib.hid hG0
  have hwn : wants (List.replicate N false) = N := wants_new N
  clear hBf0 hG0 k2 hs1 HB1 hmk hdiv hq0
  go_loopg [11, 12] (zs.length + N) (fun mm s11 s12 wr => ∃ (i u : Nat) (G : List Bool), Hid (mm = zs.length + N - i) ∧ i ≤ zs.length + N ∧ u ≤ N ∧ s11 = .int .i64 ((u : Nat) : Int) ∧ s12 = .int .i64 ((i : Nat) : Int) ∧ Hid (u = wants G) ∧ Hid (G.length = N) ∧
    Hid (Bf w b gb sz l G wr) ∧ Hid (Blk wr gb (G.map Value.bool) 4) ∧ Hid (∀ k, k + zs.length < i → G[k]? = some true))
  case atStart => exact ⟨0, N, List.replicate N false, rfl, by omega, by omega, rfl, rfl, Lib.hid hwn.symm, Lib.hid (by simp), HBF0, HG0, Lib.hid (fun k h => by omega)⟩
  case round =>
    obtain ⟨i, u, G, hm, hi, hu, rfl, rfl, hwu, hGl, hBf, hGb, hall⟩ := hrel
    clear hwn HBF0 HG0
    by_cases hlt : i < zs.length + N
    · have hlt2 : (i : Int) < (zs.length : Int) + (N : Int) := by omega
      go_upto_if 80 with (fail)
      go_cut [13] (fun s13 wx => ∃ k : Nat, s13 = .int .i64 ((k : Nat) : Int) ∧ k < N ∧ Hid (zs.length ≤ i → k + zs.length = i) ∧ wr = wx)
      case first =>
        by_cases hiz : i < zs.length
        · obtain ⟨bz, oz, rfl, hbz, cz⟩ := HZ.out.at hBf.out.old hiz
          have hwf := HZ.out.wf hiz
          have r0 := Int.emod_nonneg zs[i] (show (N : Int) ≠ 0 by omega)
          have r1 := Int.emod_lt_of_pos zs[i] (show (0 : Int) < (N : Int) by omega)
          obtain ⟨k, hk⟩ : ∃ k : Nat, zs[i] % (N : Int) = (k : Int) := ⟨(zs[i] % (N : Int)).toNat, by omega⟩
          have R := Lib.hid fun w => Iv.round_pos (k := zs[i]) (n := (N : Int)) (by omega) (by omega) hwf.1 hwf.2 w
          rw [hk] at R
          have hkN : k < N := by omega
          generalize zs[i] = zi at *
          clear hk r0 r1 hwf
          go_wp2_with fail
          with_reducible refine Calls.mono (R.out _) ?_
          rintro e w' ⟨rfl, rfl⟩
          go_wp2_with fail
          go_meet
          exact ⟨k, rfl, hkN, Lib.hid (fun h => by omega), rfl⟩
        · have hiz2 : ¬ (i : Int) < (zs.length : Int) := by omega
          go_wp2_with fail
          go_meet
          exact ⟨i - zs.length, by rw [show ((i - zs.length : Nat) : Int) = (i : Int) - (zs.length : Int) by omega], by omega, Lib.hid (fun h => by omega), rfl⟩
      case rest =>
      obtain ⟨k, rfl, hkN, hki, rfl⟩ := hcut
      obtain ⟨a, ha⟩ : ∃ a, a = k * sz := ⟨_, rfl⟩
      have hal : a < l.length := by rw [ha]; exact N4.out k hkN
      have hA : (k : Int) * (sz : Int) = (a : Int) := by rw [ha]; simp
      have hA2 : ((k : Int) + 1) * (sz : Int) = ((a + sz : Nat) : Int) := by rw [Int.add_mul, Int.one_mul, hA]; simp
      obtain ⟨a2, ha2⟩ : ∃ a2, a2 = a + sz := ⟨_, rfl⟩
      rw [← ha2] at hA2
      have hWA : IntKind.i64.wrap ((k : Int) * (sz : Int)) = (a : Int) := by rw [hA, IntKind.wrap_i64]; omega
      have hWA2 : IntKind.i64.wrap (((k : Int) + 1) * (sz : Int)) = (a2 : Int) := by rw [hA2, IntKind.wrap_i64]; omega
      obtain ⟨m, hmm⟩ : ∃ m, a + m = min (a + sz) l.length := ⟨min (a + sz) l.length - a, by omega⟩
      obtain ⟨e2, he2⟩ : ∃ e2, e2 = a + m := ⟨_, rfl⟩
      have hme : (if l.length < a2 then (l.length : Int) else (a2 : Int)) = (e2 : Int) := by split <;> omega
      have hsm : e2 - a = m := by omega
      have hne : ¬ (cap = a) := by omega
      have z1 : (0 : Int) ≤ (a : Int) := by omega
      have z2 : (a : Int) ≤ (e2 : Int) := by omega
      have z3 : (e2 : Int) ≤ (cap : Int) := by omega
      have hm500 : m ≤ 500 := by omega
      have hk0 : (0 : Int) ≤ (k : Int) := by omega
      have hkN2 : (k : Int) < (N : Int) := by omega
      have hk500 : (k : Int) + 1 ≤ 501 := by omega
      have HAE := Lib.hid ha
      have HMM := Lib.hid hmm
      have P := Lib.hid fun (q : Bool) (hq : G[k]? = some q) => bf_put hBf.out hGb.out hq (by rw [← ha]; exact hal) g3 HB.out.1 HB.out.2 (m := m) (by rw [← ha]; exact hmm)
      rw [← ha] at P
      clear ha hA hA2 ha2 hmm he2
      obtain ⟨q, hq⟩ : ∃ q, G[k]? = some q := ⟨G[k]'(by rw [hGl.out]; exact hkN), List.getElem?_eq_getElem _⟩
      have P1 := Lib.hid (P.out q hq)
      clear P
      have HQ := Lib.hid hq
      clear hq
      go_upto_region 16 with fail
      clear hme hWA2 hsm hne z1 z2 z3 hk500
      go_wp2_with fail
      with_reducible refine Calls.mono P1.out ?_
      rintro e w3 ⟨rfl, hBf3, hGb3⟩
      obtain ⟨u', hu'⟩ : ∃ u', u' = wants (G.set k true) := ⟨_, rfl⟩
      have hws := wants_set HQ.out
      rw [← hu', ← hwu.out] at hws
      have hG' : (G.map Value.bool)[k]? = some (.bool q) := by rw [List.getElem?_map, HQ.out]; rfl
      have c0 := hGb3.cell hG'
      have f0 := hGb3.frozen k
      have hGb4 : Blk (w3.setCell ⟨gb, k, none⟩ (.bool true)) gb ((G.set k true).map Value.bool) 4 := by
        have := hGb3.set k (.bool true)
        rw [← List.map_set] at this
        exact this
      have hBf4 := hBf3.kept (Kept.one w3 gb k (.bool true))
      have hall' : ∀ j, j + zs.length < i + 1 → (G.set k true)[j]? = some true := fun j hj => by
        rw [set_true (by rw [hGl.out]; exact hkN)]
        by_cases h1 : j + zs.length < i
        · exact Or.inl (hall.out j h1)
        · right
          have := hki.out (by omega)
          omega
      have HBF4 := Lib.hid hBf4
      have HGB4 := Lib.hid hGb4
      have HALL := Lib.hid hall'
      have HU := Lib.hid hu'
      have HGL : Hid ((G.set k true).length = N) := Lib.hid (by rw [List.length_set]; exact hGl.out)
      clear hG' hGb3 hBf3 hGb4 hBf4 hall' hu' hWA P1 hBf hGb hall hwu hGl
      generalize G.set k true = G2 at *
      cases q with
      | true =>
        have hu2 : u' = u := by simpa using hws
        subst hu2
        clear hws
        go_upto_region 22 with fail
        clear c0 f0
        generalize w3.setCell ⟨gb, k, none⟩ (.bool true) = w4 at *
        have huN : u' ≤ N := by omega
        by_cases hu0 : u' = 0
        · have DD := Lib.hid (bf_yes HBF4.out g3 N3.out ((wants_none HGL.out).1 (HU.out.symm.trans hu0)))
          subst hu0
          go_wp2_with fail
          with_reducible refine Calls.mono DD.out ?_
          rintro e w5 ⟨v2, rfl, hR5, k5⟩
          have t1 := Byt.run_str hR5.src
          have t2 := Byt.run_str (HB.out.1.kept (HBF4.out.old.trans k5))
          have HBF5 := Lib.hid (HBF4.out.same k5)
          have HGB5 := Lib.hid (k5.blk HGB4.out (fun f => f))
          clear k5 hR5 DD
          go_wp2_with fail
          go_roundg (zs.length + N - (i + 1))
          case measure => have := hm.out; omega
          case rel => exact ⟨i + 1, 0, G2, rfl, by omega, by omega, rfl, by simp, HU, HGL, HBF5, HGB5, HALL⟩
        · obtain ⟨k2, hk2, hq2⟩ := wants_some (G := G2) (fun e => hu0 (HU.out.trans e))
          have DD := Lib.hid (bf_no HBF4.out g3 hq2 (N4.out k2 (by have := HGL.out; omega)))
          have huz : ((u' : Int) == 0) = false := by rw [beq_eq_false_iff_ne]; omega
          clear hk2 hq2
          go_wp2_with fail
          with_reducible refine Calls.mono DD.out ?_
          rintro e w5 ⟨rfl, k5⟩
          have HBF5 := Lib.hid (HBF4.out.same k5)
          have HGB5 := Lib.hid (k5.blk HGB4.out (fun f => f))
          clear k5 DD
          go_wp2_with fail
          go_roundg (zs.length + N - (i + 1))
          case measure => have := hm.out; omega
          case rel => exact ⟨i + 1, u', G2, rfl, by omega, by omega, rfl, by simp, HU, HGL, HBF5, HGB5, HALL⟩
      | false =>
        have hu1 : (u : Int) - 1 = (u' : Int) := by simp at hws; omega
        clear hws
        go_upto_region 22 with fail
        clear c0 f0
        generalize w3.setCell ⟨gb, k, none⟩ (.bool true) = w4 at *
        have huN : u' ≤ N := by omega
        by_cases hu0 : u' = 0
        · have DD := Lib.hid (bf_yes HBF4.out g3 N3.out ((wants_none HGL.out).1 (HU.out.symm.trans hu0)))
          subst hu0
          go_wp2_with fail
          with_reducible refine Calls.mono DD.out ?_
          rintro e w5 ⟨v2, rfl, hR5, k5⟩
          have t1 := Byt.run_str hR5.src
          have t2 := Byt.run_str (HB.out.1.kept (HBF4.out.old.trans k5))
          have HBF5 := Lib.hid (HBF4.out.same k5)
          have HGB5 := Lib.hid (k5.blk HGB4.out (fun f => f))
          clear k5 hR5 DD
          go_wp2_with fail
          go_roundg (zs.length + N - (i + 1))
          case measure => have := hm.out; omega
          case rel => exact ⟨i + 1, 0, G2, rfl, by omega, by omega, rfl, by simp, HU, HGL, HBF5, HGB5, HALL⟩
        · obtain ⟨k2, hk2, hq2⟩ := wants_some (G := G2) (fun e => hu0 (HU.out.trans e))
          have DD := Lib.hid (bf_no HBF4.out g3 hq2 (N4.out k2 (by have := HGL.out; omega)))
          have huz : ((u' : Int) == 0) = false := by rw [beq_eq_false_iff_ne]; omega
          clear hk2 hq2
          go_wp2_with fail
          with_reducible refine Calls.mono DD.out ?_
          rintro e w5 ⟨rfl, k5⟩
          have HBF5 := Lib.hid (HBF4.out.same k5)
          have HGB5 := Lib.hid (k5.blk HGB4.out (fun f => f))
          clear k5 DD
          go_wp2_with fail
          go_roundg (zs.length + N - (i + 1))
          case measure => have := hm.out; omega
          case rel => exact ⟨i + 1, u', G2, rfl, by omega, by omega, rfl, by simp, HU, HGL, HBF5, HGB5, HALL⟩
    · obtain rfl : i = zs.length + N := by omega
      have hfin : ∀ k, k < N → G[k]? = some true := fun k hk => hall.out k (by omega)
      have LF := Lib.hid (bf_left hBf.out g3 N3.out hfin)
      have ho := hBf.out.old
      have hlt2 : ¬ ((zs.length + N : Nat) : Int) < (zs.length : Int) + (N : Int) := by omega
      have HO := Lib.hid ho
      clear hfin ho hBf hGb hall hm hwu
      go_wp2_with fail
      with_reducible refine Calls.mono LF.out ?_
      rintro e w3 ⟨rfl, k3⟩
      go_wp2_with fail
      with_reducible refine Calls.mono (HC.out _) ?_
      rintro e w4 ⟨rfl, k4⟩
      go_wp2_with fail
      go_ret
      exact ⟨rfl, (HO.out.trans k3).trans k4⟩
theorem walk (l : List UInt8) (s : Option Addr) (cap : Nat) (sz : Int) (zs : List Int) (s2 : Option Addr) (cap2 : Nat) (w : World) (w0 : Byts w s cap l) (w1 : (Lit.int .i64 sz).wf = true) (w2 : Ints w s2 cap2 zs) :
    Calls Try.prog 3 #[.slice s l.length cap, .int .i64 sz, .slice s2 zs.length cap2] w fun e w' => e = .returned (.bool true) ∧ Old w w' := by
  by_cases h : 1 ≤ l.length ∧ l.length ≤ 500 ∧ 1 ≤ sz ∧ sz ≤ 500 ∧ zs.length ≤ 60
  · obtain ⟨_, _, e, hc, hs, _⟩ := w0.1
    cases e
    obtain ⟨b0, o, rfl, _⟩ := hs.resolve_left (fun e => by rw [e] at h; simp at h)
    obtain ⟨q, rfl⟩ : ∃ q : Nat, sz = q := ⟨sz.toNat, by omega⟩
    exact late l b0 o cap q _ zs s2 cap2 w w0 w2 h.1 h.2.1 (by omega) (by omega) h.2.2.2.2 rfl
  · exact early l s cap sz zs s2 cap2 w h
set_option maxRecDepth 100000 in
set_option maxHeartbeats 1000000 in
theorem lifted (os : Os) (started : os.Started) (H : Type) (enc : TypeId × Value → H) :
    ReturnsInHanded {} Try.checked os 3 .any (Rows.reasmAnySpec.pre6 enc Try.prog Try.f3 Rows.reasmAnyRow.domain false) (Rows.reasmAnySpec.post enc Try.prog Try.f3 false true false false) := by
  refine returnsInHanded_of_change (C := Try.checked) own started (by kernel_rfl) Try.func3
    (ChangeSpec.witness6 (enc := enc) (C := Try.checked) false ⟨#[], #[.slice none 0 0, .int .i64 0, .slice none 0 0], []⟩ 8 (by kernel_rfl) (by kernel_rfl) (by kernel_rfl) (by kernel_rfl)) ?_
  intro W base args ds gs before hval0 hW hcnd _
  have hval : ∀ (j : Nat) t v, Try.f3.params[j]? = some t → args[j]? = some v → Value.okWide Try.prog W .any base t v := hval0
  have hW' := hW
  obtain ⟨p, q, hA0, hV, rfl, hfz, hnd⟩ := hW
  have hA : DataW.TrodAll enc Try.prog W 0 (fun _ => true) true Try.f3.params.toList args.toList ds p := hA0
  rw [Try.params3] at hA hval
  obtain ⟨v0, vs0, d0, ds0, p0, q0, hargs, rfl, rfl, h0, r0⟩ := trodAll_cons hA
  obtain ⟨v1, vs1, d1, ds1, p1, q1, rfl, rfl, rfl, h1, r1⟩ := trodAll_cons r0
  obtain ⟨v2, vs2, d2, ds2, p2, q2, rfl, rfl, rfl, h2, r2⟩ := trodAll_cons r1
  obtain ⟨rfl, rfl, rfl⟩ := trodAll_nil r2
  obtain rfl : args = #[v0, v1, v2] := by cases args; simp_all
  obtain ⟨rfl, rfl⟩ := trodVars_none hV
  obtain ⟨s0, cap0, a0, rfl, w0⟩ := Opn.bytes_of (hval 0 22 v0 rfl rfl) h0
  obtain ⟨a1, rfl, rfl, rfl, w1⟩ := open_int Try.underlying3 (hval 1 3 v1 rfl rfl) h1
  obtain ⟨s2, cap2, a2, rfl, w2⟩ := Opn.ints_of Try.underlying23 Try.underlying3 (by kernel_rfl) (hval 2 23 v2 rfl rfl) h2
  clear hA0 hval0
  refine (walk a0 s0 cap0 a1 a2 s2 cap2 W w0 w1 w2).mono fun e W' ⟨he, hg⟩ => ?_
  subst he
  exact ⟨_, rfl, post_of_old hW' (fun _ _ _ => (trodAll_cons_mk (shut_bool Try.underlying4 _) trodAll_mk0)) (fun sp hsp => (trodAll_cons_mk (Opn.back (by kernel_rfl) (of_decide_eq_true (by kernel_rfl)) h0 hg (fun x hx => hW'.lt x (by simp [hx])) (fun x hx => hsp x (by simp [hx]))) (trodAll_cons_mk (shut_int Try.underlying3 w1) (trodAll_cons_mk (Opn.back (by kernel_rfl) (of_decide_eq_true (by kernel_rfl)) h2 hg (fun x hx => hW'.lt x (by simp [hx])) (fun x hx => hsp x (by simp [hx]))) trodAll_mk0)))) (fun _ _ => rfl)
    hg (ok_one (by kernel_rfl) rfl (okWide_bool_mk Try.underlying4 _))⟩
theorem over : Rows.reasmAnyRow.holds Try.pinned (OpenSpec.ofChange Rows.reasmAnySpec) :=
  OpenClaim.holds_of_wide 3 Try.f3 rfl rfl rfl rfl rfl rfl rfl ⟨rfl, rfl, rfl, rfl, rfl⟩ rfl rfl rfl rfl rfl (by kernel_rfl) Try.func3 (by kernel_rfl)
    (of_decide_eq_true (by kernel_rfl)) (by unfold Func.isWrapper; first | (rw [if_pos (by decide +kernel)]; kernel_rfl) | (rw [if_neg (by decide +kernel)]; exact ⟨rfl, rfl⟩))
    (fun os started H enc _ => lifted os started H enc)
theorem proved : Rows.ReasmAnySaid :=
  over
#print axioms proved
end Go.Proofs.Ytfkcplapmkpkbaa.reasmAny
