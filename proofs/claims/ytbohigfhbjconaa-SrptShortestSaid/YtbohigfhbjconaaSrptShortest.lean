/- SrptShortest (mizzenlaw17): for every list of lengths, every k and every budget the law returns true (the one of which the least remains is granted first, as far as there is room, whatever else waits; its line is the highest of those that are granted) and its arguments read as before. Conditions: none. -/
import Derived.Test.YtbohigfhbjconaaRows
import Derived.Test.YtbohigfhbjconaaEnd
import Derived.Test.YtbohigfhbjconaaInts
import Derived.WalkKit
import Derived.ProofKit
import Derived.OpenShut
import Derived.Test.YtbohigfhbjconaaSrAwk
import Derived.Test.YtbohigfhbjconaaSrSh
import Derived.Deep.RegionHeld3
set_option linter.unusedVariables false
namespace Go.Proofs.Ytbohigfhbjconaa.srptShortest
open Go.ChangeShapes Go.WideShapes Go.ChangeAt Go.RowKit Go.Proofs.Ytbohigfhbjconaa.Hp Go.Proofs.Ytbohigfhbjconaa.End
open Go.RowKit Go.Proofs.Ytbohigfhbjconaa.Hp Go.Proofs.Ytbohigfhbjconaa.End Opn SrM So SoM Sr
theorem own : ownKnob Try.prog.godebug = none := by kernel_rfl
def Fin' (n k b : Int) : Prop := n ≠ 0 ∧ n ≤ 40 ∧ 1 ≤ k ∧ k ≤ 8 ∧ k ≤ b ∧ b ≤ 1073741824
set_option maxRecDepth 100000 in
set_option maxHeartbeats 16000000 in
theorem early (a0 : List Int) (s0 : Option Addr) (cap0 : Nat) (k b : Int) (w : World) (h : ¬ Fin' (a0.length : Int) k b) :
    Calls Try.prog 5 #[.slice s0 a0.length cap0, .int .i64 k, .int .i64 b] w fun e w' => e = .returned (.bool true) ∧ Old w w' := by
  have HC := Lib.hid fun w => awake_any w
  obtain ⟨n, hn⟩ : ∃ n, a0.length = n := ⟨_, rfl⟩
  rw [hn] at h ⊢
  clear hn
  have hc : n = 0 ∨ (((n : Int) == 0) = false ∧ ¬ n = 0 ∧ (40 : Int) < (n : Int)) ∨ (((n : Int) == 0) = false ∧ ¬ n = 0 ∧ decide ((40 : Int) < (n : Int)) = false ∧ k < 1) ∨ (((n : Int) == 0) = false ∧ ¬ n = 0 ∧ decide ((40 : Int) < (n : Int)) = false ∧ decide (k < 1) = false ∧ 8 < k) ∨
      (((n : Int) == 0) = false ∧ ¬ n = 0 ∧ decide ((40 : Int) < (n : Int)) = false ∧ decide (k < 1) = false ∧ decide (8 < k) = false ∧ b < k) ∨ (((n : Int) == 0) = false ∧ ¬ n = 0 ∧ decide ((40 : Int) < (n : Int)) = false ∧ decide (k < 1) = false ∧ decide (8 < k) = false ∧ decide (b < k) = false ∧ 1073741824 < b) := by
    unfold Fin' at h
    simp only [decide_eq_false_iff_not, beq_eq_false_iff_ne]; omega
  clear h
  rcases hc with rfl | ⟨h0, h0', h1⟩ | ⟨h0, h0', h1, h2⟩ | ⟨h0, h0', h1, h2, h3⟩ | ⟨h0, h0', h1, h2, h3, h4⟩ | ⟨h0, h0', h1, h2, h3, h4, h5⟩
  all_goals
    go_enter Try.func5, Try.ntmps5
    go_wp2_with fail
    with_reducible refine Calls.mono (HC.out _) ?_
    rintro e w7 ⟨rfl, ho⟩
    have HO := Lib.hid ho
    clear ho
    go_wp2_with fail
    go_ret
    exact ⟨rfl, HO.out⟩
set_option maxRecDepth 100000 in
set_option maxHeartbeats 16000000 in
theorem late (a0 : List Int) (s0 : Option Addr) (cap0 : Nat) (k : Nat) (b : Int) (w : World) (wi : Ints w s0 cap0 a0) (h : Fin' (a0.length : Int) (k : Int) b) :
    Calls Try.prog 5 #[.slice s0 a0.length cap0, .int .i64 (k : Nat), .int .i64 b] w fun e w' => e = .returned (.bool true) ∧ Old w w' := by
  have HC := Lib.hid fun w => awake_any w
  have WI := Lib.hid wi
  obtain ⟨n, hn⟩ : ∃ n, a0.length = n := ⟨_, rfl⟩
  have HN := Lib.hid hn
  rw [hn] at h ⊢
  obtain ⟨h1, h2, h3, h4, h5, h6⟩ := h
  clear wi hn
  have d0 : ((n : Int) == 0) = false := by rw [beq_eq_false_iff_ne]; omega
  have d0' : ¬ n = 0 := by omega
  have d1 : decide ((40 : Int) < (n : Int)) = false := decide_eq_false (by omega)
  have d2 : decide ((k : Int) < 1) = false := decide_eq_false (by omega)
  have d3 : decide ((8 : Int) < (k : Int)) = false := decide_eq_false (by omega)
  have d4 : decide (b < (k : Int)) = false := decide_eq_false (by omega)
  have d5 : decide ((1073741824 : Int) < b) = false := decide_eq_false (by omega)
  go_enter Try.func5, Try.ntmps5
  go_wp2_with fail
  have hn0 : 0 < n := by omega
  clear d0 d0' d1 d2 d3 d4 d5 h1
  go_loopg [7, 8, 9] n (fun kx s7 s8 s9 wr => ∃ (i a : Nat) (v : Value), s7 = v ∧ s8 = .int .i64 a ∧ s9 = .int .i64 i ∧ i ≤ n ∧ n - i ≤ kx ∧ (a < i ∨ i = 0 ∧ a = 0) ∧ Hid (Rw.Row mT wr w.heap.size v (sL a0 i)) ∧ Hid (Kept (fun _ => False) w wr) ∧ Hid (Zs a0 i) ∧ Hid (Best a0 i a))
  case atStart => exact ⟨0, 0, _, rfl, rfl, rfl, Nat.zero_le _, Nat.le_refl _, Or.inr ⟨rfl, rfl⟩, Rw.Row.none _ _ _, Lib.hid (Kept.refl _ _), Lib.hid (fun j hj => by omega), Lib.hid (fun j hj => by omega)⟩
  case round =>
    obtain ⟨i, a, v, rfl, rfl, rfl, hin, hkx, hai, HR, HK, HZ, HB⟩ := hrel
    by_cases hlt : i < n
    · have hltz : (i : Int) < (n : Int) := by omega
      have hz0 : i < a0.length := by rw [HN.out]; exact hlt
      obtain ⟨g, off, rfl, hg, hcz⟩ := WI.out.at HK.out hz0
      have HAT := Lib.hid fun (w' : World) (k : Kept (fun _ => False) w w') => by
        obtain ⟨g', o', e, _, h⟩ := WI.out.at k hz0
        cases e
        exact h
      have hgd : a0.getD i 0 = a0[i] := by rw [List.getD_eq_getElem?_getD, List.getElem?_eq_getElem hz0]; rfl
      have HGD := Lib.hid hgd
      clear hgd
      generalize a0[i] = z at *
      by_cases z1 : z < 1
      · go_wp2_with fail
        with_reducible refine Calls.mono (HC.out _) ?_
        rintro e w7 ⟨rfl, ho⟩
        have HO := Lib.hid ho
        clear ho
        go_wp2_with fail
        go_ret
        exact ⟨rfl, HK.out.trans HO.out⟩
      · have z1d : decide (z < 1) = false := decide_eq_false z1
        by_cases z2 : 1073741824 < z
        · go_wp2_with fail
          with_reducible refine Calls.mono (HC.out _) ?_
          rintro e w7 ⟨rfl, ho⟩
          have HO := Lib.hid ho
          clear ho
          go_wp2_with fail
          go_ret
          exact ⟨rfl, HK.out.trans HO.out⟩
        · have z2d : decide ((1073741824 : Int) < z) = false := decide_eq_false z2
          have HZ2 : Hid (Zs a0 (i + 1)) := Lib.hid (fun j hj => by
            rcases Nat.lt_or_ge j i with h | h
            · exact HZ.out j h
            · obtain rfl : j = i := by omega
              rw [HGD.out]; omega)
          obtain ⟨r, hr⟩ : ∃ r : Int, (i : Int) % 8 = r := ⟨_, rfl⟩
          obtain ⟨q, hq⟩ : ∃ q : Int, (i : Int) / 8 = q := ⟨_, rfl⟩
          have r0 : 0 ≤ r ∧ r < 8 := by omega
          have q1 : 0 ≤ q ∧ q ≤ 40 := by omega
          have t1 : (i : Int).tmod 8 = r := by rw [Int.tmod_eq_emod_of_nonneg (by omega)]; exact hr
          have t2 : (i : Int).tdiv 8 = q := by rw [Int.tdiv_eq_ediv_of_nonneg (by omega)]; exact hq
          obtain ⟨r0, r1⟩ := r0
          obtain ⟨q1, q2⟩ := q1
          have e1 : IntKind.i64.wrap r = r := by rw [IntKind.wrap_i64]; omega
          have e3 : IntKind.i64.wrap q = q := by rw [IntKind.wrap_i64]; omega
          have e4 : IntKind.u64.wrap q = q := by rw [IntKind.wrap_u64]; omega
          have e5 : IntKind.u64.wrap (q + 1) = q + 1 := by rw [IntKind.wrap_u64]; omega
          have HM : Hid (sM i (a0.getD i 0) = ⟨r, q + 1, z, 0, 0, (i : Int)⟩) := by show _ = _; unfold sM; rw [hr, hq, HGD.out]
          have HRQ : Hid ((i : Int) % 8 = r ∧ (i : Int) / 8 = q) := ⟨hr, hq⟩
          clear hr hq hg
          go_upto_region 10 with fail
          have hR5 := HR.out.old (new_kept wr (.cells #[.int .i64 r, .int .u64 (q + 1), .int .i64 z, .int .i64 0, .int .i64 0, .int .i64 (i : Int)] 39))
          have hS5 := Rw.src_blk (t := mT) (K := [(⟨r, q + 1, z, 0, 0, (i : Int)⟩ : M)]) 1 (Blk.new wr [.int .i64 r, .int .u64 (q + 1), .int .i64 z, .int .i64 0, .int .i64 0, .int .i64 (i : Int)] 39)
          have hsm : (sL a0 i).length + [(⟨r, q + 1, z, 0, 0, (i : Int)⟩ : M)].length ≤ 1000000 := by rw [sL_len]; simp; omega
          have hbase : w.heap.size ≤ (wr.alloc (.cells #[.int .i64 r, .int .u64 (q + 1), .int .i64 z, .int .i64 0, .int .i64 0, .int .i64 (i : Int)] 39)).heap.size := by have h1 := HK.out.size; rw [World.size_alloc]; omega
          have HR5 := Lib.hid hR5
          have HS5 := Lib.hid hS5
          have HSM := Lib.hid hsm
          have HBS := Lib.hid hbase
          have HKR := HK
          clear hR5 hS5 hsm hbase
          go_upto_region 11 with (at_builtin; refine Rw.wpList_app mT rfl _ _ rfl w.heap.size rfl HR5.out rfl HS5.out HSM.out HBS.out ?_; intro v' w5 hA; have HA := Lib.hid hA; clear hA)
          have hK5 := past (HK.out.trans (new_kept _ _)) HA.out.kept (fun g hg => (HR.out.lt g hg).1)
          have hR6 : Rw.Row mT w5 w.heap.size v' (sL a0 (i + 1)) := by rw [sL_succ, HM.out]; exact HA.out.row
          have HK5 := Lib.hid hK5
          have HR6 := Lib.hid hR6
          obtain ⟨va, vc, hvv, hcl⟩ := Rd.of_row hR6
          rw [sL_len] at hvv
          subst hvv
          have hax : a < i + 1 := by omega
          obtain ⟨xg, xo, rfl, hxg, p0, p1, p2, p3, p4, p5⟩ := hcl a _ (sL_get hax)
          obtain ⟨_, _, ee, _, x0, x1, x2, x3, x4, x5⟩ := hcl i _ (sL_get (Nat.lt_succ_self i))
          cases ee
          rw [HM.out] at x0 x1 x2 x3 x4 x5
          have hL5 := HAT.out w5 hK5
          have HLS : Hid (Ls a0 i a ↔ z < a0.getD a 0 ∨ z = a0.getD a 0 ∧ (r < (a : Int) % 8 ∨ r = (a : Int) % 8 ∧ q + 1 < (a : Int) / 8 + 1)) := by show _ ↔ _; unfold Ls; rw [HGD.out, HRQ.out.1, HRQ.out.2]
          unfold sM at p0 p1 p2 p3 p4 p5
          dsimp only at p0 p1 p2 p3 p4 p5 x0 x1 x2 x3 x4 x5
          obtain ⟨za, hza⟩ : ∃ za, a0.getD a 0 = za := ⟨_, rfl⟩
          obtain ⟨pa, hpa⟩ : ∃ pa : Int, (a : Int) % 8 = pa := ⟨_, rfl⟩
          obtain ⟨ia, hia⟩ : ∃ ia : Int, (a : Int) / 8 + 1 = ia := ⟨_, rfl⟩
          rw [hza] at p2 HLS
          rw [hpa] at p0 HLS
          rw [hia] at p1 HLS
          have haz : (a : Int) < ((i + 1 : Nat) : Int) := by omega
          obtain ⟨i1, hi1⟩ : ∃ i1, i + 1 = i1 := ⟨_, rfl⟩
          have HI1 := Lib.hid hi1
          have hiz : (i : Int) < (i1 : Int) := by omega
          rw [hi1] at haz HR6 HZ2 ⊢
          clear hK5 hR6 hcl hcz hza hpa hia hi1 HA HR HR5 HS5 HSM HBS HM t1 t2 e1 e3 e4 e5
          have hM6 := Blk.new w5 [.int .i64 pa, .int .u64 ia, .int .i64 za, .int .i64 0, .int .i64 0, .int .i64 (a : Int)] 39
          have hk6 := new_kept w5 (.cells [.int .i64 pa, .int .u64 ia, .int .i64 za, .int .i64 0, .int .i64 0, .int .i64 (a : Int)].toArray 39)
          dsimp only [List.toArray] at hM6 hk6
          have HM6 := Lib.hid hM6
          have HK6 := Lib.hid hk6
          have HXG : Hid (xg < w5.heap.size) := hxg
          have HX := Lib.hid (⟨x0, x1, hL5⟩ : w5.cell? ⟨xg, xo + i * 6, none⟩ = some (.int .i64 r) ∧ w5.cell? ⟨xg, xo + i * 6 + 1, none⟩ = some (.int .u64 (q + 1)) ∧ w5.cell? ⟨g, off + i, none⟩ = some (.int .i64 z))
          obtain ⟨tb, htb⟩ : ∃ tb, tb = decide (z < za ∨ z = za ∧ (r < pa ∨ r = pa ∧ q + 1 < ia)) := ⟨_, rfl⟩
          have HTB := Lib.hid htb
          clear hM6 hk6 hxg htb
          go_upto_region 12 with fail
          generalize w5.alloc (.cells #[.int .i64 pa, .int .u64 ia, .int .i64 za, .int .i64 0, .int .i64 0, .int .i64 (a : Int)] 39) = w6 at *
          have y0 := (keptCell HK6.out HXG.out (fun f => f) (xo + i * 6)).trans HX.out.1
          have y1 := (keptCell HK6.out HXG.out (fun f => f) (xo + i * 6 + 1)).trans HX.out.2.1
          have yL := HAT.out w6 (HK5.out.trans HK6.out)
          have m0 := HM6.out.cell (o := 0) rfl
          have m1 := HM6.out.cell (o := 1) rfl
          have m2 := HM6.out.cell (o := 2) rfl
          clear p0 p1 p2 p3 p4 p5 x0 x1 x2 x3 x4 x5 hL5
          generalize w5.heap.size = mb at *
          go_cut [124] from 79 to 123 (fun t wx => t = .bool tb ∧ Hid (Kept (fun _ => False) w6 wx))
          case first =>
            by_cases k1 : z < za
            · have k1d : decide (z < za) = true := decide_eq_true k1
              go_wp2_with fail
              go_quiet (fail)
              go_wp2_with fail
              go_meet
              exact ⟨by rw [HTB.out, decide_eq_true (p := z < za ∨ z = za ∧ (r < pa ∨ r = pa ∧ q + 1 < ia)) (by omega)], (Kept.refl _ _).drewN nq⟩
            · have k1d : decide (z < za) = false := decide_eq_false k1
              by_cases k2 : z = za
              · have k2d : (z == za) = true := by rw [beq_iff_eq]; exact k2
                have k2c : za ≤ z := by omega
                have k2e := Lib.hid k2
                clear k2
                by_cases k3 : r < pa
                · have k3d : decide (r < pa) = true := decide_eq_true k3
                  go_wp2_with fail
                  go_quiet (fail)
                  go_wp2_with fail
                  go_meet
                  exact ⟨by rw [HTB.out, decide_eq_true (p := z < za ∨ z = za ∧ (r < pa ∨ r = pa ∧ q + 1 < ia)) (by have := k2e.out; omega)], (Kept.refl _ _).drewN nq⟩
                · have k3d : decide (r < pa) = false := decide_eq_false k3
                  by_cases k4 : r = pa
                  · have k4d : (r == pa) = true := by rw [beq_iff_eq]; exact k4
                    have k4e := Lib.hid k4
                    clear k4
                    by_cases k5 : q + 1 < ia
                    · have k5d : decide (q + 1 < ia) = true := decide_eq_true k5
                      go_wp2_with fail
                      go_quiet (fail)
                      go_wp2_with fail
                      go_meet
                      exact ⟨by rw [HTB.out, decide_eq_true (p := z < za ∨ z = za ∧ (r < pa ∨ r = pa ∧ q + 1 < ia)) (by have := k2e.out; have := k4e.out; omega)], (Kept.refl _ _).drewN nq⟩
                    · have k5d : decide (q + 1 < ia) = false := decide_eq_false k5
                      go_wp2_with fail
                      go_quiet (fail)
                      go_wp2_with fail
                      go_meet
                      exact ⟨by rw [HTB.out, decide_eq_false (p := z < za ∨ z = za ∧ (r < pa ∨ r = pa ∧ q + 1 < ia)) (by have := k2e.out; have := k4e.out; omega)], (Kept.refl _ _).drewN nq⟩
                  · have k4d : (r == pa) = false := by rw [beq_eq_false_iff_ne]; exact k4
                    go_wp2_with fail
                    go_quiet (fail)
                    go_wp2_with fail
                    go_meet
                    exact ⟨by rw [HTB.out, decide_eq_false (p := z < za ∨ z = za ∧ (r < pa ∨ r = pa ∧ q + 1 < ia)) (by have := k2e.out; omega)], (Kept.refl _ _).drewN nq⟩
              · have k2d : (z == za) = false := by rw [beq_eq_false_iff_ne]; exact k2
                go_wp2_with fail
                go_quiet (fail)
                go_wp2_with fail
                go_meet
                exact ⟨by rw [HTB.out, decide_eq_false (p := z < za ∨ z = za ∧ (r < pa ∨ r = pa ∧ q + 1 < ia)) (by omega)], (Kept.refl _ _).drewN nq⟩
          case rest =>
          obtain ⟨rfl, hkc⟩ := hcut
          have hK7 := (HK5.out.trans HK6.out).trans hkc.out
          have HK7 := Lib.hid hK7
          have HR7 := Lib.hid ((HR6.out.old HK6.out).old hkc.out)
          clear hkc hK7 HR6 HK6 HM6 HK5 y0 y1 yL m0 m1 m2 HX
          have HBN : Hid (tb = true → Best a0 i1 i) := by
            intro e
            rw [HTB.out] at e
            rw [← HI1.out]
            exact HB.out.new (HLS.out.2 (of_decide_eq_true e)) hai
          have HBS : Hid (tb = false → Best a0 i1 a) := by
            intro e
            rw [HTB.out] at e
            rw [← HI1.out]
            exact HB.out.same (fun h => of_decide_eq_false e (HLS.out.1 h)) hai
          clear HTB HLS HB
          have hi12 : i < i1 := by have := HI1.out; omega
          have hi13 : i1 ≤ n := by have := HI1.out; omega
          cases tb with
          | true =>
            go_wp2_with fail
            go_roundg (n - i1)
            case measure => omega
            case rel => exact ⟨i1, i, _, rfl, rfl, by first | rfl | (rw [← HI1.out]; go_num), hi13, Nat.le_refl _, Or.inl (by have := HI1.out; omega), HR7, HK7, HZ2, Lib.hid (by first | exact HBN.out rfl | exact HBN.out trivial)⟩
          | false =>
            go_wp2_with fail
            go_roundg (n - i1)
            case measure => omega
            case rel => exact ⟨i1, a, _, rfl, rfl, by first | rfl | (rw [← HI1.out]; go_num), hi13, Nat.le_refl _, Or.inl (by have := HI1.out; omega), HR7, HK7, HZ2, Lib.hid (by first | exact HBS.out rfl | exact HBS.out trivial)⟩
    · have hltz : ¬ (i : Int) < (n : Int) := by omega
      obtain rfl : i = n := by omega
      have han : a < i := by omega
      have h40 : i ≤ 40 := by omega
      have h0i : 0 < i := by omega
      have hrd := Rd.of_row HR.out
      have hsl := HR.out.slice
      rw [sL_len] at hsl
      obtain ⟨va, vc, rfl, _, _⟩ := hsl
      have OR := Lib.hid (order_any hrd (by rw [sL_len]; omega))
      have GR := Lib.hid fun (w' : World) (kk : Kept (fun _ => False) wr w') => grants_ok (k := k) (budget := b) (share := 0) (hrd.old kk) (by rw [sL_len]; omega) (by unfold Fine; omega)
      have OL := Lib.hid fun (w' : World) (kk : Kept (fun _ => False) wr w') => oldest_any (hrd.old kk) (by rw [sL_len]; omega)
      have HRD := Lib.hid hrd
      clear hrd HR hkx hai
      go_wp2_with fail
      with_reducible refine Calls.mono OR.out ?_
      rintro e w2 ⟨v2, o, rfl, hr2, hO, hk2⟩
      have HO := Lib.hid hO
      have HK2 := Lib.hid hk2
      have HRO := Lib.hid (RdN.of_row hr2)
      have hol : o.length = i := by have h1 := hO.1.length_eq; have h2 := sL_num HZ.out h40; omega
      have HOL := Lib.hid hol
      obtain ⟨oa, oc, rfl, _, _⟩ := hr2.slice
      rw [hol] at HRO ⊢
      have G1 := Lib.hid (GR.out w2 hk2)
      clear OR hr2 hO hk2 hol GR
      go_wp2_with fail
      with_reducible refine Calls.mono G1.out ?_
      rintro e w3 ⟨v', o', old, rfl, hO', hD, hG, hk3⟩
      obtain ⟨rr, hg, hgl⟩ := sL_gran (k := k) (budget := b) HZ.out h40 han HB.out (by omega) (by omega) h6 (old := old) hO'
      rw [hg] at hG
      obtain ⟨gg, gcap, gcur, rfl, _, hL⟩ : ∃ g cap cur, v' = .slice (some ⟨g, 0, none⟩) ((((a : Int) % 8, (a : Int) / 8 + 1, min (a0.getD a 0) (b / (k : Int)), 6) : G4) :: rr).length cap ∧ w2.heap.size ≤ g ∧ Rw.Lies gT w3 g cap cur ((((a : Int) % 8, (a : Int) / 8 + 1, min (a0.getD a 0) (b / (k : Int)), 6) : G4) :: rr) := by
        rcases hG.form with ⟨_, e⟩ | ⟨a1, a2, a3, a4, a5, a6⟩
        · cases e
        · exact ⟨a1, a2, a3, a4, a5, a6⟩
      obtain ⟨gl, hgl2⟩ : ∃ gl, ((((a : Int) % 8, (a : Int) / 8 + 1, min (a0.getD a 0) (b / (k : Int)), 6) : G4) :: rr).length = gl + 1 := ⟨rr.length, rfl⟩
      rw [hgl2]
      have hgl3 : gl = rr.length := by rw [List.length_cons] at hgl2; exact (Nat.succ.inj hgl2).symm
      rw [← hgl3] at hgl
      have HLG := Lib.hid hL
      have HK3 := Lib.hid (HK2.out.trans hk3)
      obtain ⟨orr, hoe, _⟩ := sL_first HZ.out h40 han HB.out HO.out
      obtain ⟨a', c', e1, hro⟩ := HRO.out.old hk3
      have HRO3 := Lib.hid (HRO.out.old hk3)
      have e3 := (Value.slice.inj e1).1
      clear e1
      subst e3
      have ho0 : o[0]? = some (a : Int) := by rw [hoe]; rfl
      obtain ⟨og, oo, rfl, _, co⟩ := hro 0 _ ho0
      obtain ⟨mn, hmn⟩ : ∃ mn, min (k : Int) (i : Int) = mn := ⟨_, rfl⟩
      have MN : ∀ (ts : Array TypeId) (ty : TypeId) (w : World), (Builtin.min_ ts ty #[.int .i64 (k : Nat), .int .i64 (i : Nat)]).run Try.prog w = .ok (.int .i64 mn) w := by
        intro ts ty w
        rw [← hmn, IvN.min_if]
        exact run_min_int2 ..
      have hgm : ¬ mn < (gl : Int) + 1 := by omega
      have hgmd : decide (mn < (gl : Int) + 1) = false := decide_eq_false hgm
      have hglz : ((gl : Int) + 1 == 0) = false := by rw [beq_eq_false_iff_ne]; omega
      have hglz2 : ¬ (gl : Int) + 1 = 0 := by omega
      clear hro hoe ho0 hmn hgl hgl2 hgl3 hO' hD hg hG hL hk3 G1
      rw [Nat.add_zero] at co
      go_upto_region 18 with fail
      have HKZ := Lib.hid (Kept.refl (fun _ => False) w3)
      obtain ⟨u0, hu0⟩ : ∃ u0 : World, u0 = wr := ⟨_, rfl⟩
      subst hu0
      clear co hgm hgmd hglz hglz2 MN
      go_wp2_with fail
      go_loopg [14] i (fun ky s14 wq => ∃ (j : Nat), s14 = .int .i64 j ∧ 1 ≤ j ∧ j ≤ i ∧ i - j ≤ ky ∧ Hid (Kept (fun _ => False) w3 wq))
      case atStart => exact ⟨1, by first | rfl | go_num, Nat.le_refl _, h0i, by omega, HKZ⟩
      case round =>
        clear HKZ
        obtain ⟨j, rfl, hj1, hji, hky, HKQ⟩ := hrel
        by_cases hjl : j < i
        · obtain ⟨jp, hjp⟩ : ∃ jp, jp + 1 = j := ⟨j - 1, by omega⟩
          have zjp : (j : Int) = (jp : Int) + 1 := by omega
          obtain ⟨p, q, e1, e2, hp, hq, hle⟩ := sL_rise HZ.out h40 HO.out (i := jp) (by have := HOL.out; omega)
          rw [hjp] at e2
          obtain ⟨a', c', f1, hro⟩ := HRO3.out.old HKQ.out
          obtain ⟨_, _, ee, _, cp⟩ := hro jp _ e1
          obtain ⟨_, _, ee2, _, cq⟩ := hro j _ e2
          have f3 := (Value.slice.inj f1).1
          rw [ee] at f3 ee2
          cases f3
          cases ee2
          clear f1 hro ee
          obtain ⟨a2', c2', f1, hrx⟩ := HRD.out.old (HK3.out.trans HKQ.out)
          obtain ⟨xg, xo, ee, _, _, _, xp, _, _, _⟩ := hrx p _ (sL_get hp)
          obtain ⟨_, _, ee2, _, _, _, xq, _, _, _⟩ := hrx q _ (sL_get hq)
          have f3 := (Value.slice.inj f1).1
          rw [ee] at f3 ee2
          subst f3
          cases ee2
          clear f1 hrx ee
          unfold sM at xp xq
          dsimp only at xp xq
          obtain ⟨zp, hzp⟩ : ∃ zp, a0.getD p 0 = zp := ⟨_, rfl⟩
          obtain ⟨zq, hzq⟩ : ∃ zq, a0.getD q 0 = zq := ⟨_, rfl⟩
          rw [hzp] at xp hle
          rw [hzq] at xq hle
          have g1 : decide ((q : Int) < 0) = false := decide_eq_false (by omega)
          have g2 : decide ((i : Int) ≤ (q : Int)) = false := decide_eq_false (by omega)
          have g2n : decide (i ≤ q) = false := decide_eq_false (by omega)
          have g3 : decide (zq < zp) = false := decide_eq_false (by omega)
          have g4 : (q : Int) < (i : Int) := by omega
          have g5 : (p : Int) < (i : Int) := by omega
          have g6 : (jp : Int) + 1 < (i : Int) := by omega
          have g7 : (jp : Int) < (i : Int) := by omega
          have g8 : IntKind.i64.wrap ((jp : Int) + 1) = (jp : Int) + 1 := by rw [IntKind.wrap_i64]; omega
          have g9 : IntKind.i64.wrap (jp : Int) = (jp : Int) := by rw [IntKind.wrap_i64]; omega
          obtain ⟨jN, hjN⟩ : ∃ jN, jN = j := ⟨_, rfl⟩
          have ea : ((jp : Int) + 1).toNat = jN := by omega
          rw [← hjN] at cq
          have HJN := Lib.hid hjN
          have HJP := Lib.hid hjp
          have hjle : j + 1 ≤ i := by omega
          clear hzp hzq e1 e2 hjN hjp
          go_wp2_with fail
          go_quiet (fail)
          have HKQ2 := Lib.hid (HKQ.out.drewN nq)
          clear cp cq xp xq HKQ
          generalize wr.drewN nq = wq2 at *
          go_wp2_with fail
          go_roundg (i - (j + 1))
          case measure => omega
          case rel => exact ⟨j + 1, by first | rfl | go_num | (congr 1; omega), by omega, hjle, Nat.le_refl _, HKQ2⟩
        · have hjlz : ¬ (j : Int) < (i : Int) := by omega
          obtain ⟨pa, hpa⟩ : ∃ pa : Int, (a : Int) % 8 = pa := ⟨_, rfl⟩
          obtain ⟨ia, hia⟩ : ∃ ia : Int, (a : Int) / 8 + 1 = ia := ⟨_, rfl⟩
          obtain ⟨per, hper⟩ : ∃ per, b / (k : Int) = per := ⟨_, rfl⟩
          obtain ⟨za, hza⟩ : ∃ za, a0.getD a 0 = za := ⟨_, rfl⟩
          obtain ⟨mu, hmu⟩ : ∃ mu, min za per = mu := ⟨_, rfl⟩
          have hL := HLG.out.kept HKQ.out (fun f => f)
          obtain ⟨a2', c2', f1, hrx⟩ := HRD.out.old (HK3.out.trans HKQ.out)
          obtain ⟨xg, xo, ee, hxg, x0, x1, _, _, _, _⟩ := hrx a _ (sL_get han)
          have f3 := (Value.slice.inj f1).1
          rw [ee] at f3
          subst f3
          clear f1 hrx ee
          unfold sM at x0 x1
          dsimp only at x0 x1
          have hal : a < a0.length := by rw [HN.out]; exact han
          obtain ⟨lg, lo, hs0, hlg, cl⟩ := WI.out.at (HK.out.trans (HK3.out.trans HKQ.out)) hal
          have hza' : a0[a] = za := by rw [← hza, List.getD_eq_getElem?_getD, List.getElem?_eq_getElem hal]; rfl
          rw [hza'] at cl
          subst hs0
          have hlg2 : lg < wr.heap.size := Nat.lt_of_lt_of_le hlg (HK.out.trans (HK3.out.trans HKQ.out)).size
          rw [hza, hper, hmu] at hL
          rw [hpa, hia] at hL
          rw [hpa] at x0
          rw [hia] at x1
          have hgb := hL.blk.lt
          have q0 := hL.cell (i := 0) rfl (j := 0) rfl
          have q1 := hL.cell (i := 0) rfl (j := 1) rfl
          have q2 := hL.cell (i := 0) rfl (j := 2) rfl
          have q3 := hL.cell (i := 0) rfl (j := 3) rfl
          dsimp only [gT] at q0 q1 q2 q3
          simp only [Nat.zero_mul, Nat.zero_add] at q0 q1 q2 q3
          have KS := Lib.hid fun (w' : World) (kk : Kept (fun _ => False) wr w') => (show w'.cell? ⟨gg, 0, none⟩ = some (.int .i64 pa) ∧ w'.cell? ⟨gg, 1, none⟩ = some (.int .u64 ia) ∧ w'.cell? ⟨gg, 2, none⟩ = some (.int .i64 mu) ∧ w'.cell? ⟨gg, 3, none⟩ = some (.int .i64 6) ∧ w'.cell? ⟨xg, xo + a * 6, none⟩ = some (.int .i64 pa) ∧ w'.cell? ⟨xg, xo + a * 6 + 1, none⟩ = some (.int .u64 ia) ∧ w'.cell? ⟨lg, lo + a, none⟩ = some (.int .i64 za) from
            ⟨(keptCell kk hgb (fun f => f) _).trans q0, (keptCell kk hgb (fun f => f) _).trans q1, (keptCell kk hgb (fun f => f) _).trans q2, (keptCell kk hgb (fun f => f) _).trans q3, (keptCell kk hxg (fun f => f) _).trans x0, (keptCell kk hxg (fun f => f) _).trans x1, (keptCell kk hlg2 (fun f => f) _).trans cl⟩)
          have OL3 : Hid (∀ w', Kept (fun _ => False) wr w' → Calls Try.prog 16 #[.slice (some ⟨xg, xo, none⟩) i vc] w' fun e w'' => e = .returned (.int .i64 0) ∧ Kept (fun _ => False) w' w'') := by
            intro w' kk
            refine (OL.out w' ((HK3.out.trans HKQ.out).trans kk)).mono ?_
            rintro e w'' ⟨x, h1, h2, h3⟩
            exact ⟨by rw [h1, sL_old HZ.out h40 h0i h2], h3⟩
          have hkz : ((k : Int) == 0) = false := by rw [beq_eq_false_iff_ne]; omega
          have hk0 : ¬ (k : Int) = 0 := by omega
          have hk0' : ¬ k = 0 := by omega
          have hp1 : 0 ≤ per := by rw [← hper]; exact Int.ediv_nonneg (by omega) (by omega)
          have hp2 : per ≤ 1073741824 := by rw [← hper]; exact Int.le_trans (Int.ediv_le_self _ (by omega)) h6
          have htd : b.tdiv (k : Int) = per := by rw [Int.tdiv_eq_ediv_of_nonneg (by omega)]; exact hper
          have hwr : IntKind.i64.wrap (b.tdiv (k : Int)) = per := by rw [htd, IntKind.wrap_i64]; omega
          have hwr2 : IntKind.i64.wrap per = per := by rw [IntKind.wrap_i64]; omega
          have MU : ∀ (ts : Array TypeId) (ty : TypeId) (w : World), (Builtin.min_ ts ty #[.int .i64 za, .int .i64 per]).run Try.prog w = .ok (.int .i64 mu) w := by
            intro ts ty w
            rw [← hmu, IvN.min_if]
            exact run_min_int2 ..
          have HKF := Lib.hid (HK.out.trans (HK3.out.trans HKQ.out))
          have haz : (a : Int) < (i : Int) := by omega
          clear hL hza hmu hpa hia hza' q0 q1 q2 q3 x0 x1 cl hxg hlg hlg2 hgb OL HKQ hal
          go_upto_region 23 with fail
          go_region_held3 (fun w' => w'.cell? ⟨gg, 0, none⟩ = some (.int .i64 pa) ∧ w'.cell? ⟨gg, 1, none⟩ = some (.int .u64 ia) ∧ w'.cell? ⟨gg, 2, none⟩ = some (.int .i64 mu) ∧ w'.cell? ⟨gg, 3, none⟩ = some (.int .i64 6) ∧ w'.cell? ⟨xg, xo + a * 6, none⟩ = some (.int .i64 pa) ∧ w'.cell? ⟨xg, xo + a * 6 + 1, none⟩ = some (.int .u64 ia) ∧ w'.cell? ⟨lg, lo + a, none⟩ = some (.int .i64 za)) ((refine KS.out _ ?_; repeat (first | exact Kept.refl _ _ | assumption | (with_reducible refine Kept.drew ?_) | (with_reducible refine Kept.trans ?_ (by assumption)))))
            (first | (go_at_call 16; refine Calls.mono (OL3.out _ (by repeat (first | exact Kept.refl _ _ | assumption | (with_reducible refine Kept.drew ?_)))) ?_; rintro e w' ⟨rfl, hk8⟩) | (go_at_call 7; with_reducible refine Calls.mono (HC.out _) ?_; rintro e w' ⟨rfl, hk9⟩))
          all_goals
            go_wp2_with fail
            go_ret
            refine ⟨rfl, HKF.out.trans ?_⟩
            repeat (first | exact Kept.refl _ _ | assumption | (with_reducible refine Kept.drew ?_) | (with_reducible refine Kept.trans ?_ (by assumption)))
theorem walk (a0 : List Int) (s0 : Option Addr) (cap0 : Nat) (k b : Int) (w : World) (w0 : Ints w s0 cap0 a0) (w1 : (Lit.int .i64 k).wf = true) (w2 : (Lit.int .i64 b).wf = true) :
    Calls Try.prog 5 #[.slice s0 a0.length cap0, .int .i64 k, .int .i64 b] w fun e w' => e = .returned (.bool true) ∧ Old w w' := by
  by_cases h : Fin' (a0.length : Int) k b
  · have h' := h
    unfold Fin' at h'
    obtain ⟨c, rfl⟩ : ∃ c : Nat, k = c := ⟨k.toNat, by omega⟩
    exact late a0 s0 cap0 c b w w0 h
  · exact early a0 s0 cap0 k b w h
set_option maxRecDepth 100000 in
set_option maxHeartbeats 1000000 in
theorem lifted (os : Os) (started : os.Started) (H : Type) (enc : TypeId × Value → H) :
    ReturnsInHanded {} Try.checked os 5 .any (Rows.srptShortestSpec.pre6 enc Try.prog Try.f5 Rows.srptShortestRow.domain false) (Rows.srptShortestSpec.post enc Try.prog Try.f5 false true false false) := by
  refine returnsInHanded_of_change (C := Try.checked) own started (by kernel_rfl) Try.func5
    (ChangeSpec.witness6 (enc := enc) (C := Try.checked) false ⟨#[], #[.slice none 0 0, .int .i64 0, .int .i64 0], []⟩ 8 (by kernel_rfl) (by kernel_rfl) (by kernel_rfl) (by kernel_rfl)) ?_
  intro W base args ds gs before hval0 hW hcnd _
  have hval : ∀ (j : Nat) t v, Try.f5.params[j]? = some t → args[j]? = some v → Value.okWide Try.prog W .any base t v := hval0
  have hW' := hW
  obtain ⟨p, q, hA0, hV, rfl, hfz, hnd⟩ := hW
  have hA : DataW.TrodAll enc Try.prog W 0 (fun _ => true) true Try.f5.params.toList args.toList ds p := hA0
  rw [Try.params5] at hA hval
  obtain ⟨v0, vs0, d0, ds0, p0, q0, hargs, rfl, rfl, h0, r0⟩ := trodAll_cons hA
  obtain ⟨v1, vs1, d1, ds1, p1, q1, rfl, rfl, rfl, h1, r1⟩ := trodAll_cons r0
  obtain ⟨v2, vs2, d2, ds2, p2, q2, rfl, rfl, rfl, h2, r2⟩ := trodAll_cons r1
  obtain ⟨rfl, rfl, rfl⟩ := trodAll_nil r2
  obtain rfl : args = #[v0, v1, v2] := by cases args; simp_all
  obtain ⟨rfl, rfl⟩ := trodVars_none hV
  obtain ⟨s0, cap0, a0, rfl, w0⟩ := Opn.ints_of Try.underlying43 Try.underlying3 (by kernel_rfl) (hval 0 43 v0 rfl rfl) h0
  obtain ⟨a1, rfl, rfl, rfl, w1⟩ := open_int Try.underlying3 (hval 1 3 v1 rfl rfl) h1
  obtain ⟨a2, rfl, rfl, rfl, w2⟩ := open_int Try.underlying3 (hval 2 3 v2 rfl rfl) h2
  clear hA0 hval0
  refine (walk a0 s0 cap0 a1 a2 W w0 w1 w2).mono fun e W' ⟨he, hg⟩ => ?_
  subst he
  exact ⟨_, rfl, post_of_old hW' (fun _ _ _ => (trodAll_cons_mk (shut_bool Try.underlying4 _) trodAll_mk0)) (fun sp hsp => (trodAll_cons_mk (Opn.back (by kernel_rfl) (of_decide_eq_true (by kernel_rfl)) h0 hg (fun x hx => hW'.lt x (by simp [hx])) (fun x hx => hsp x (by simp [hx]))) (trodAll_cons_mk (shut_int Try.underlying3 w1) (trodAll_cons_mk (shut_int Try.underlying3 w2) trodAll_mk0)))) (fun _ _ => rfl)
    hg (ok_one (by kernel_rfl) rfl (okWide_bool_mk Try.underlying4 _))⟩
theorem over : Rows.srptShortestRow.holds Try.pinned (OpenSpec.ofChange Rows.srptShortestSpec) :=
  OpenClaim.holds_of_wide 5 Try.f5 rfl rfl rfl rfl rfl rfl rfl ⟨rfl, rfl, rfl, rfl, rfl⟩ rfl rfl rfl rfl rfl (by kernel_rfl) Try.func5 (by kernel_rfl)
    (of_decide_eq_true (by kernel_rfl)) (by unfold Func.isWrapper; first | (rw [if_pos (by decide +kernel)]; kernel_rfl) | (rw [if_neg (by decide +kernel)]; exact ⟨rfl, rfl⟩))
    (fun os started H enc _ => lifted os started H enc)
theorem proved : Rows.SrptShortestSaid :=
  over
#print axioms proved
end Go.Proofs.Ytbohigfhbjconaa.srptShortest
