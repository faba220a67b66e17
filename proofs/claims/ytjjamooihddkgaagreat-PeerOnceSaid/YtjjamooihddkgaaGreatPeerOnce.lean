/- Proved: PeerOnce holds for whatever texts, size, order and number: in whatever order the pieces come, and however often, each message is delivered once, whole, as it was; retired, it never is again. Conditions: none. -/
import Derived.Test.YtjjamooihddkgaaGreatRows
import Derived.Test.YtjjamooihddkgaaGreatPmG6
import Derived.Test.YtjjamooihddkgaaGreatPmG9
import Derived.WalkKit
import Derived.ProofKit
import Derived.OpenShut
import Derived.Test.YtjjamooihddkgaaGreatPmG20
set_option linter.unusedVariables false
namespace Go.Proofs.YtjjamooihddkgaaGreat.peerOnce
open Go.ChangeShapes Go.WideShapes Go.ChangeAt Go.RowKit Go.Proofs.YtjjamooihddkgaaGreat.Hp Go.Proofs.YtjjamooihddkgaaGreat.End
open Opn Byt Pk Ph
theorem own : ownKnob Tryz.prog.godebug = none := by kernel_rfl
attribute [local go_sem ↓] Go.wp_at_zero Go.wp_at_succ
set_option maxRecDepth 100000 in
set_option maxHeartbeats 64000000 in
theorem walk (T : List (List UInt8)) (s0 : Option Addr) (cap0 : Nat) (a1 : Int) (a2 : List Int) (s2 : Option Addr) (cap2 : Nat) (a3 : Int) (w : World) (w0 : TxIn w s0 cap0 T) (w1 : (Lit.int .i64 a1).wf = true) (w2 : Ints w s2 cap2 a2) (w3 : (Lit.int .u64 a3).wf = true) :
    Calls Tryz.prog 4 #[.slice s0 T.length cap0, .int .i64 a1, .slice s2 a2.length cap2, .int .u64 a3] w fun e w' => e = .returned (.bool true) ∧ Old w w' := by
  have HC := Lib.hid fun w => awake_any w
  have W0 := Lib.hid w0
  have W2 := Lib.hid w2
  obtain ⟨z, hz⟩ : ∃ z, T.length = z := ⟨_, rfl⟩
  have HZ := Lib.hid hz
  obtain ⟨y, hy⟩ : ∃ y, a2.length = y := ⟨_, rfl⟩
  have HY := Lib.hid hy
  have hzm : z ≤ 9223372036854775807 := by have := w0.1; have := w0.2.1; omega
  rw [hz, hy]
  clear w0 w2 hz hy
  go_enter Tryz.func4, Tryz.ntmps4
  go_wp2_with fail
  go_loopg [9, 10] z (fun kx s9 s10 wr => ∃ (i : Nat) (n : Int), Hid (z - i ≤ kx) ∧ i ≤ z ∧ s9 = .int .i64 n ∧ s10 = .int .i64 (i : Nat) ∧ 0 ≤ n ∧ n ≤ 1099511627776 ∧ Hid (n ≤ 500 → ∀ (j : Nat) (t : List UInt8), j < i → T[j]? = some t → t.length ≤ 500) ∧ Hid (Old w wr))
  case atStart => exact ⟨0, 0, Lib.hid (by omega), by omega, rfl, rfl, by omega, by omega, Lib.hid (fun _ j t h => by omega), Lib.hid (Old.refl w)⟩
  case round =>
    obtain ⟨i, n, hkx, hi, rfl, rfl, hn0, hn1, hall, hO⟩ := hrel
    rcases Nat.lt_or_ge i z with hlt | hge
    · obtain ⟨t, ht⟩ : ∃ t, T[i]? = some t := ⟨T[i]'(by rw [HZ.out]; exact hlt), List.getElem?_eq_getElem _⟩
      obtain ⟨b, off, a, c, rfl, hc, hB⟩ := W0.out.at hO.out ht
      have htc : t.length ≤ 9223372036854775807 := by obtain ⟨⟨_, _, e, h1, _⟩, h2⟩ := hB; cases e; omega
      have hltz : (i : Int) < (z : Int) := by omega
      have HT := Lib.hid ht
      have HTC := Lib.hid htc
      have S2 := Lib.hid (sum_any n (t.length : Int) wr.heap.size _ (Blk.new wr [.int .i64 (t.length : Nat), .int .i64 1] 3) hn0 hn1 (by omega) (by omega))
      have HKA := Lib.hid ((Kept.refl (fun _ => False) wr).alloc (.cells #[.int .i64 (t.length : Nat), .int .i64 1] 3))
      clear ht htc hB
      go_wp2_with fail
      with_reducible refine Calls.mono S2.out ?_
      rintro e w' ⟨⟨r, rfl, r0, r1, r2, r3⟩, rfl⟩
      have HR : Hid (r ≤ 500 → n ≤ 500 ∧ t.length ≤ 500) := Lib.hid fun h => by
        rcases Int.lt_or_le 1000 (n + (t.length : Int) + 1) with h2 | h2
        · have := r3 h2; omega
        · have := r2 h2; omega
      clear r2 r3 S2
      go_wp2_with fail
      go_roundg (z - (i + 1))
      case measure => have := hkx.out; omega
      case rel =>
        refine ⟨i + 1, r, Lib.hid (Nat.le_refl _), by omega, rfl, by go_num, r0, r1, Lib.hid fun h j (t2 : List UInt8) hj ht2 => ?_, Lib.hid (hO.out.trans HKA.out)⟩
        have h5 := HR.out h
        by_cases e : j = i
        · subst e
          rw [HT.out] at ht2
          cases ht2
          exact h5.2
        · exact hall.out h5.1 j t2 (by omega) ht2
    · have hge' : ¬ ((i : Int) < (z : Int)) := by omega
      have HL : Hid (n ≤ 500 → ∀ (j : Nat) (t : List UInt8), T[j]? = some t → t.length ≤ 500) := Lib.hid fun h j t hj => hall.out h j t (by have := (List.getElem?_eq_some_iff.1 hj).1; rw [HZ.out] at this; omega) hj
      clear hall
      by_cases hok : n ≤ 500 ∧ z ≤ 8 ∧ 1 ≤ a1 ∧ a1 ≤ 500 ∧ y ≤ 100
      · obtain ⟨h1, h2, h3, h4, h5⟩ := hok
        obtain ⟨sz, rfl⟩ : ∃ sz : Nat, a1 = sz := ⟨a1.toNat, by omega⟩
        have q1 : decide ((500 : Int) < n) = false := decide_eq_false (by omega)
        have q2 : decide ((8 : Int) < (z : Int)) = false := decide_eq_false (by omega)
        have q3 : decide ((sz : Int) < 1) = false := decide_eq_false (by omega)
        have q4 : decide ((500 : Int) < (sz : Int)) = false := decide_eq_false (by omega)
        have q5 : decide ((100 : Int) < (y : Int)) = false := decide_eq_false (by omega)
        have N1 := Lib.hid fun w => Sw.new T sz w
        have hmk := fun w => made_gots z (by omega) w
        go_wp2_with fail
        with_reducible refine Calls.mono (N1.out _) ?_
        rintro e w1 ⟨p, rfl, hs1⟩
        have HS1 := Lib.hid hs1
        clear N1 hs1
        go_upto_region 12 with fail
        obtain ⟨P, hI⟩ := In.begin HS1.out hO.out
        rw [HZ.out] at hI
        have HTL := Lib.hid (HL.out h1)
        generalize w1.alloc (.cells (gots z fun _ => 0).toArray 3) = w2 at *
        generalize w1.heap.size = gb at *
        have HI := Lib.hid hI
        have hyw : IntKind.i64.wrap ((y : Int) + 600) = (y : Int) + 600 := by rw [IntKind.wrap_i64]; omega
        clear hI HS1 hO hmk HL q1 q2 q3 q4 q5
        go_wp2_with fail
        go_loopg [14] (y + 600) (fun kx s14 wq => ∃ (i : Nat) (G : Nat → Nat), Hid (y + 600 - i ≤ kx) ∧ i ≤ y + 600 ∧ s14 = .int .i64 (i : Nat) ∧ Hid (In w p T sz gb P (i - y) G wq))
        case atStart => exact ⟨0, _, Lib.hid (by omega), by omega, rfl, by rw [Nat.zero_sub]; exact HI⟩
        case round =>
          clear HI
          obtain ⟨i, G, hkx, hi, rfl, HI⟩ := hrel
          by_cases hlt : i < y + 600 ∧ 0 < z
          · obtain ⟨hlt, hz0⟩ := hlt
            have c1 : (i : Int) < (y : Int) + 600 := by omega
            have c2 : (0 : Int) < (z : Int) := by omega
            go_upto_if 92 with (fail)
            go_cut [15, 16] (fun s15 s16 wx => ∃ k off : Nat, s15 = .int .i64 (k : Nat) ∧ s16 = .int .i64 (off : Nat) ∧ k < z ∧ off ≤ 300000 ∧ Hid (i < y ∨ (k = (i - y) % z ∧ off = sz * ((i - y) / z))) ∧ Hid (In w p T sz gb P (i - y) G wx))
            case first =>
              by_cases hiy : i < y
              · have hiyz : (i : Int) < (y : Int) := by omega
                obtain ⟨bz, oz, rfl, hbz, cz⟩ := W2.out.at HI.out.old (j := i) (by rw [HY.out]; exact hiy)
                have hwf := W2.out.wf (j := i) (by rw [HY.out]; exact hiy)
                generalize a2[i]'(by rw [HY.out]; exact hiy) = ox at *
                have r0 := Int.emod_nonneg ox (show (z : Int) ≠ 0 by omega)
                have r1 := Int.emod_lt_of_pos ox (show (0 : Int) < (z : Int) by omega)
                obtain ⟨k, hk⟩ : ∃ k : Nat, ox % (z : Int) = (k : Int) := ⟨(ox % (z : Int)).toNat, by omega⟩
                have R := Lib.hid fun w => Iv.round_pos (k := ox) (n := (z : Int)) (by omega) (by omega) hwf.1 hwf.2 w
                rw [hk] at R
                have hkz : k < z := by omega
                clear hk r0 r1
                go_wp2_with fail
                with_reducible refine Calls.mono (R.out _) ?_
                rintro e w' ⟨rfl, rfl⟩
                obtain ⟨t, ht⟩ : ∃ t, T[k]? = some t := ⟨T[k]'(by rw [HZ.out]; exact hkz), List.getElem?_eq_getElem _⟩
                obtain ⟨b, o, a, c, rfl, hc, hB⟩ := W0.out.at HI.out.old ht
                have htl := HTL.out k t ht
                generalize t.length = tl at *
                obtain ⟨q, hq⟩ : ∃ q, tl / sz = q := ⟨_, rfl⟩
                have hql : sz * q ≤ tl := by rw [← hq]; exact Nat.mul_div_le tl sz
                have hqz : (tl : Int) / (sz : Int) = (q : Int) := by rw [← hq]; simp
                have hqt : (tl : Int).tdiv (sz : Int) = (q : Int) := by rw [Int.tdiv_eq_ediv_of_nonneg (by omega)]; exact hqz
                have hq5 : q ≤ 500 := by have := Nat.div_le_self tl sz; omega
                have e0 : ¬ (sz : Int) = 0 := by omega
                have e1 : ((sz : Int) == 0) = false := by rw [beq_eq_false_iff_ne]; exact e0
                have e2 : (0 : Int) ≤ (tl : Int) := by omega
                have e3 : IntKind.i64.wrap (q : Int) = (q : Int) := by rw [IntKind.wrap_i64]; omega
                have e4 : IntKind.i64.wrap ((q : Int) + 1) = (q : Int) + 1 := by rw [IntKind.wrap_i64]; omega
                have b8 : -9223372036854775808 ≤ ox.tdiv 8 ∧ ox.tdiv 8 ≤ 9223372036854775807 := by
                  exact tdiv8 hwf.1 hwf.2
                have e5 : IntKind.i64.wrap (ox.tdiv 8) = ox.tdiv 8 := by rw [IntKind.wrap_i64]; omega
                have r0 := Int.emod_nonneg (ox.tdiv 8) (show ((q : Int) + 1) ≠ 0 by omega)
                have r1 := Int.emod_lt_of_pos (ox.tdiv 8) (show (0 : Int) < (q : Int) + 1 by omega)
                obtain ⟨j, hj⟩ : ∃ j : Nat, ox.tdiv 8 % ((q : Int) + 1) = (j : Int) := ⟨(ox.tdiv 8 % ((q : Int) + 1)).toNat, by omega⟩
                have R2 := Lib.hid fun w => Iv.round_pos (k := ox.tdiv 8) (n := (q : Int) + 1) (by omega) (by omega) b8.1 b8.2 w
                rw [hj] at R2
                obtain ⟨off, hoff⟩ : ∃ off, sz * j = off := ⟨_, rfl⟩
                have ho5 : off ≤ 500 := by
                  have : sz * j ≤ sz * q := Nat.mul_le_mul_left _ (by omega)
                  omega
                have e6 : IntKind.i64.wrap ((sz : Int) * (j : Int)) = (off : Int) := by
                  rw [show (sz : Int) * (j : Int) = (off : Int) by rw [← hoff]; simp, IntKind.wrap_i64]; omega
                have hkz2 : (k : Int) < (z : Int) := by omega
                have hk0 : (0 : Int) ≤ (k : Int) := by omega
                clear hq hql hj r0 r1 hoff b8 hwf hB htl ht R
                go_upto_region 18 with fail
                go_quiet (first | (go_at_call 27; exact Calls.quiet_of_same ((R2.out _).mono fun _ _ ⟨e1, e2⟩ => ⟨e1, e2.symm⟩)))
                have HI2 := Lib.hid (HI.out.keep ((Kept.refl _ wr).drewN nq))
                have hi2 : i < y := hiy
                go_wp2_with fail
                go_meet
                exact ⟨k, off, by first | rfl | go_num, by first | rfl | go_num, hkz, by omega, Lib.hid (Or.inl hi2), HI2⟩
              · have hiyz : ¬ (i : Int) < (y : Int) := by omega
                have d1 : IntKind.i64.wrap ((i : Int) - (y : Int)) = ((i - y : Nat) : Int) := by rw [IntKind.wrap_i64]; omega
                have d1' : (i : Int) - (y : Int) = ((i - y : Nat) : Int) := by omega
                obtain ⟨k, hk⟩ : ∃ k, (i - y) % z = k := ⟨_, rfl⟩
                obtain ⟨q, hq⟩ : ∃ q, (i - y) / z = q := ⟨_, rfl⟩
                have hkz : k < z := by rw [← hk]; exact Nat.mod_lt _ hz0
                have hq6 : q ≤ 600 := by have := Nat.div_le_self (i - y) z; omega
                obtain ⟨off, hoff⟩ : ∃ off, sz * q = off := ⟨_, rfl⟩
                have ho6 : off ≤ 300000 := by have : sz * q ≤ 500 * 600 := Nat.mul_le_mul (by omega) hq6; omega
                have d2 : ((i - y : Nat) : Int) % (z : Int) = (k : Int) := by rw [← hk]; simp
                have d3 : ((i - y : Nat) : Int) / (z : Int) = (q : Int) := by rw [← hq]; simp
                have d4 : ((i - y : Nat) : Int).tmod (z : Int) = (k : Int) := by rw [Int.tmod_eq_emod_of_nonneg (by omega)]; exact d2
                have d5 : ((i - y : Nat) : Int).tdiv (z : Int) = (q : Int) := by rw [Int.tdiv_eq_ediv_of_nonneg (by omega)]; exact d3
                have d6 : IntKind.i64.wrap (q : Int) = (q : Int) := by rw [IntKind.wrap_i64]; omega
                have d7 : IntKind.i64.wrap (k : Int) = (k : Int) := by rw [IntKind.wrap_i64]; omega
                have d8 : IntKind.i64.wrap ((sz : Int) * (q : Int)) = (off : Int) := by
                  rw [show (sz : Int) * (q : Int) = (off : Int) by rw [← hoff]; simp, IntKind.wrap_i64]; omega
                have d9 : ¬ (z : Int) = 0 := by omega
                have d10 : ((z : Int) == 0) = false := by rw [beq_eq_false_iff_ne]; exact d9
                have d11 : (0 : Int) ≤ ((i - y : Nat) : Int) := by omega
                have HCS : Hid (i < y ∨ (k = (i - y) % z ∧ off = sz * ((i - y) / z))) := Lib.hid (Or.inr ⟨hk.symm, by rw [hq]; exact hoff.symm⟩)
                clear hk hq hoff
                go_wp2_with fail
                go_meet
                exact ⟨k, off, by first | rfl | go_num, by first | rfl | go_num, hkz, ho6, HCS, HI⟩
            case rest =>
            obtain ⟨k, off, rfl, rfl, hkz, hoff, hcase, HI⟩ := hcut
            obtain ⟨t, ht⟩ : ∃ t, T[k]? = some t := ⟨T[k]'(by rw [HZ.out]; exact hkz), List.getElem?_eq_getElem _⟩
            obtain ⟨b, o, a, c, rfl, hc, hB⟩ := W0.out.at HI.out.old ht
            have htl := HTL.out k t ht
            have hkz2 : (k : Int) < (z : Int) := by omega
            have hk0 : (0 : Int) ≤ (k : Int) := by omega
            have HB := Lib.hid hB
            have HT := Lib.hid ht
            have hcap : t.length ≤ c := by obtain ⟨⟨_, _, e, h1, _⟩, h2⟩ := hB; cases e; exact h1
            clear hB ht
            by_cases hot : t.length < off
            · have hotz : (t.length : Int) < (off : Int) := by omega
              have NX := nxt_skip HZ.out (by omega) hz0 HT.out hot hcase.out
              have HS := Lib.hid (HI.out.skip (i + 1 - y) NX.1 NX.2)
              clear NX HI hcase
              go_wp2_with fail
              go_roundg (y + 600 - (i + 1))
              case measure => have := hkx.out; omega
              case rel => exact ⟨i + 1, G, Lib.hid (Nat.le_refl _), by omega, by go_num, HS⟩
            · have hotz : ¬ (t.length : Int) < (off : Int) := by omega
              obtain ⟨e2, he2⟩ : ∃ e2, e2 = min (off + sz) t.length := ⟨_, rfl⟩
              obtain ⟨mm, hmm⟩ : ∃ mm, off + mm = e2 := ⟨e2 - off, by omega⟩
              obtain ⟨a2', ha2⟩ : ∃ a2', a2' = off + sz := ⟨_, rfl⟩
              have NX := nxt_step HZ.out (by omega) hz0 HT.out (mm := mm) (by rw [hmm, he2]) hcase.out
              have DT := Lib.hid fun (w1 : World) (k1 : Kept (fun _ => False) wc w1) (v : Value) (hv : Pv P w1 v t off mm) => (HI.out.keep k1).step (by rw [HZ.out]; exact h2) HT.out htl hv (i + 1 - y) NX.1 NX.2
              have PV := Lib.hid fun (w1 : World) (k1 : Kept (fun _ => False) wc w1) => pv_any HB.out HI.out.p1 (HI.out.old.trans k1) (off := off) (mm := mm) (by omega)
              have hWA2 : IntKind.i64.wrap ((off : Int) + (sz : Int)) = (a2' : Int) := by rw [IntKind.wrap_i64]; omega
              have hme : (if t.length < a2' then (t.length : Int) else (a2' : Int)) = (e2 : Int) := by split <;> omega
              have hsm : e2 - off = mm := by omega
              obtain ⟨v, hv, PV⟩ : ∃ v, (∀ w : World, (Instr.slice 25 (.slice a t.length c) (some (.int .i64 (off : Int))) (some (.int .i64 (e2 : Int))) none).run Tryz.prog w = .ok v w) ∧ Hid (∀ (w1 : World) (k1 : Kept (fun _ => False) wc w1), Pv P w1 v t off mm) := by
                refine ⟨_, fun w => ?_, PV⟩
                have E := run_slice_lh (P := Tryz.prog) (w := w) 25 a t.length c (by kernel_rfl) .i64 .i64 (off : Int) (e2 : Int) (by omega) (by omega) (by omega)
                rw [E, show (sizeOf (Tryz.prog.elem 25)).run Tryz.prog w = .ok 1 w by kernel_rfl]
                show Result.ok _ w = _
                unfold sliced
                rw [Nat.mul_one, Int.toNat_natCast, Int.toNat_natCast, hsm]
              have z1 : (0 : Int) ≤ (off : Int) := by omega
              have z2 : (off : Int) ≤ (e2 : Int) := by omega
              have z3 : (e2 : Int) ≤ (c : Int) := by omega
              have hku : IntKind.u64.wrap (k : Int) = (k : Int) := by rw [IntKind.wrap_u64]; omega
              have hku1 : IntKind.u64.wrap ((k : Int) + 1) = (k : Int) + 1 := by rw [IntKind.wrap_u64]; omega
              have HOB := Lib.hid HI.out.old
              have TX : Hid (∀ w1, Old w w1 → w1.cell? ⟨b, o + k, none⟩ = some (.slice a t.length c)) := Lib.hid fun w1 h1 => by
                rw [Byt.keptAt h1 (W0.out.lt HT.out) (fun f => f), ← Byt.keptAt HOB.out (W0.out.lt HT.out) (fun f => f)]
                exact hc
              have HK0 := Lib.hid (Kept.refl (fun _ => False) wc)
              clear NX he2 hmm ha2 hcase
              go_upto_region 22 with fail
              go_region_held3 (fun w' => w'.cell? ⟨b, o + k, none⟩ = some (.slice a t.length c)) (first | exact hc | assumption | exact TX.out _ ho2)
                (first | (go_at_call 28; with_reducible refine Calls.mono (DT.out _ (by first | exact HK0.out | exact HK0.out.drew) _ (PV.out _ (by first | exact HK0.out | exact HK0.out.drew))) ?_; rintro e w2 ⟨⟨r, d, rfl⟩, ho2, hp2⟩))
              have HK2 := Lib.hid hp2
              have HO2 := Lib.hid ho2
              clear DT PV HI HK0 ho2 hp2 hv hWA2 hme hsm z1 z2 z3 hku
              go_wp2_with fail
              with_reducible refine Calls.mono HK2.out ?_
              rintro e w4 (⟨rfl, h6⟩ | ⟨a4, c4, rfl, hs4, ho4, hw4⟩)
              · have HS := Lib.hid (h6.keep ((Kept.refl _ w4).alloc (.cells #[.int .i64 0, .int .u64 0, .slice none 0 0] 70)))
                clear HK2 h6
                go_wp2_with fail
                go_roundg (y + 600 - (i + 1))
                case measure => have := hkx.out; omega
                case rel => exact ⟨i + 1, G, Lib.hid (Nat.le_refl _), by omega, by go_num, HS⟩
              · have km := (Kept.refl (fun _ => False) w4).alloc (.cells #[.int .i64 2, .int .u64 ((k : Int) + 1), .slice a4 t.length c4] 70)
                have hM := Blk.new w4 [.int .i64 2, .int .u64 ((k : Int) + 1), .slice a4 t.length c4] 70
                dsimp only [List.toArray] at hM
                have hO5 := ho4.trans km
                have hs5 := hs4.kept km
                have HW := Lib.hid fun w3 (k3 : Kept (fun _ => False) (w4.alloc (.cells #[.int .i64 2, .int .u64 ((k : Int) + 1), .slice a4 t.length c4] 70)) w3) => hw4 w3 (km.trans k3)
                clear HK2 hs4 ho4 hw4 km
                go_upto_region 27 with fail
                generalize w4.alloc (.cells #[.int .i64 2, .int .u64 ((k : Int) + 1), .slice a4 t.length c4] 70) = w5 at *
                generalize w4.heap.size = mb at *
                have m0 := hM.cell (o := 0) rfl
                have m1 := hM.cell (o := 1) rfl
                have m2 := hM.cell (o := 2) rfl
                have tx := TX.out w5 hO5
                have s1 := Byt.run_str hs5
                have s2 := Byt.run_str (HB.out.1.kept hO5)
                have s3 := fun n => Byt.run_str (hs5.kept ((Kept.refl _ w5).drewN n))
                have s4 := fun n => Byt.run_str (HB.out.1.kept (hO5.trans ((Kept.refl _ w5).drewN n)))
                have hkm : IntKind.u64.wrap ((k : Int) + 1 - 1) = (k : Int) := by rw [IntKind.wrap_u64]; omega
                have hzu : IntKind.u64.wrap (z : Int) = (z : Int) := by rw [IntKind.wrap_u64]; omega
                have j1 : decide ((k : Int) + 1 < 1) = false := decide_eq_false (by omega)
                have j2 : decide ((z : Int) < (k : Int) + 1) = false := decide_eq_false (by omega)
                go_quiet (fail)
                obtain ⟨g0, g1, HN⟩ := HW.out (w5.drewN nq) ((Kept.refl _ w5).drewN nq)
                have HS := Lib.hid HN
                have hMd := hM.drewN nq
                clear HW hM hs5 hO5 m0 m1 m2 tx s1 s2 s3 s4 hzu j1 j2 HN
                generalize w5.drewN nq = w6 at *
                have n1 := hMd.cell (o := 1) rfl
                clear hMd
                go_wp2_with fail
                go_roundg (y + 600 - (i + 1))
                case measure => have := hkx.out; omega
                case rel => exact ⟨i + 1, fun j => if j = k then 1 else G j, Lib.hid (Nat.le_refl _), by omega, by go_num, HS⟩
          · have HIx : Hid (In w p T sz gb P 600 G wr) := by
              rcases Nat.eq_zero_or_pos z with e | e
              · have hT0 : ∀ (k : Nat) (t : List UInt8), T[k]? = some t → False := fun k t hk => by
                  have := (List.getElem?_eq_some_iff.1 hk).1
                  rw [HZ.out] at this
                  omega
                exact Lib.hid (HI.out.skip 600 (fun k t hk => (hT0 k t hk).elim) (fun k t x hk => (hT0 k t hk).elim))
              · have := HI.out
                rw [show i - y = 600 by omega] at this
                exact Lib.hid this
            have hways : ¬ ((i : Int) < (y : Int) + 600) ∨ ((i : Int) < (y : Int) + 600 ∧ ¬ ((0 : Int) < (z : Int))) := by omega
            clear HI hlt
            rcases hways with c1 | ⟨c1, c2⟩
            · go_wp2_with fail
              go_loopg [22] z (fun kx s22 wl => ∃ i3 : Nat, s22 = .int .i64 (i3 : Nat) ∧ i3 ≤ z ∧ Hid (z - i3 ≤ kx) ∧ Hid (In w p T sz gb P 600 G wl))
              case atStart => exact ⟨0, rfl, by omega, Lib.hid (by omega), HIx⟩
              case round =>
                clear HIx
                obtain ⟨i3, rfl, hi3, hkx3, HI3⟩ := hrel
                by_cases hl3 : i3 < z
                · have hl3z : (i3 : Int) < (z : Int) := by omega
                  have h30 : (0 : Int) ≤ (i3 : Int) := by omega
                  obtain ⟨t, ht⟩ : ∃ t, T[i3]? = some t := ⟨T[i3]'(by rw [HZ.out]; exact hl3), List.getElem?_eq_getElem _⟩
                  obtain ⟨b, o, a, c, rfl, hc, hB⟩ := W0.out.at HI3.out.old ht
                  have htl := HTL.out i3 t ht
                  have gc := HI3.out.blk.cell (gots_at (z := T.length) G (k := i3) (by rw [HZ.out]; exact hl3))
                  have hgot := HI3.out.got (by rw [HZ.out]; exact h2) (by omega) ht
                  rw [HZ.out] at hgot
                  generalize t.length = tl at *
                  have HI4 := Lib.hid fun n => HI3.out.keep ((Kept.refl _ wr).drewN n)
                  obtain ⟨q, hq⟩ : ∃ q, tl / sz = q := ⟨_, rfl⟩
                  obtain ⟨q6, hq6⟩ : ∃ q6, 600 / z = q6 := ⟨_, rfl⟩
                  rw [hq, hq6] at hgot
                  have hqz : (tl : Int) / (sz : Int) = (q : Int) := by rw [← hq]; simp
                  have hqt : (tl : Int).tdiv (sz : Int) = (q : Int) := by rw [Int.tdiv_eq_ediv_of_nonneg (by omega)]; exact hqz
                  have hq6z : (600 : Int) / (z : Int) = (q6 : Int) := by rw [← hq6]; simp
                  have hq6t : (600 : Int).tdiv (z : Int) = (q6 : Int) := by rw [Int.tdiv_eq_ediv_of_nonneg (by omega)]; exact hq6z
                  have hq5 : q ≤ 500 := by have := Nat.div_le_self tl sz; omega
                  have hq65 : q6 ≤ 600 := by have := Nat.div_le_self 600 z; omega
                  have e0 : ¬ (sz : Int) = 0 := by omega
                  have e1 : ((sz : Int) == 0) = false := by rw [beq_eq_false_iff_ne]; exact e0
                  have e2 : (0 : Int) ≤ (tl : Int) := by omega
                  have e3 : IntKind.i64.wrap (q : Int) = (q : Int) := by rw [IntKind.wrap_i64]; omega
                  have e4 : IntKind.i64.wrap (q6 : Int) = (q6 : Int) := by rw [IntKind.wrap_i64]; omega
                  have e5 : ¬ (z : Int) = 0 := by omega
                  have e6 : ((z : Int) == 0) = false := by rw [beq_eq_false_iff_ne]; exact e5
                  clear hq hq6 hB ht HI3
                  generalize G i3 = g3 at *
                  rcases hgot with rfl | ⟨rfl, hge3⟩
                  · go_upto_region 33 with fail
                    go_quiet (fail)
                    have HI5 := Lib.hid (HI4.out nq)
                    clear HI4 gc hc
                    go_wp2_with fail
                    go_roundg (z - (i3 + 1))
                    case measure => have := hkx3.out; omega
                    case rel => exact ⟨i3 + 1, by go_num, by omega, Lib.hid (Nat.le_refl _), HI5⟩
                  · have hge3z : decide ((q : Int) < (q6 : Int)) = false := decide_eq_false (by omega)
                    have gc0 : wr.cell? ⟨gb, i3, none⟩ = some (.int .i64 0) := gc
                    have hlt6 : ¬ (q : Int) < (q6 : Int) := by omega
                    clear hge3 gc
                    go_upto_region 33 with fail
                    go_quiet (fail)
                    have HI5 := Lib.hid (HI4.out nq)
                    clear HI4 hc
                    go_wp2_with fail
                    go_roundg (z - (i3 + 1))
                    case measure => have := hkx3.out; omega
                    case rel => exact ⟨i3 + 1, by go_num, by omega, Lib.hid (Nat.le_refl _), HI5⟩
                · have hl3z : ¬ (i3 : Int) < (z : Int) := by omega
                  have RT := Lib.hid (HI3.out.retire (by rw [HZ.out]; exact h2) a3)
                  clear HI3
                  go_wp2_with fail
                  with_reducible refine Calls.mono RT.out ?_
                  rintro e w3 ⟨⟨r, rfl⟩, h7⟩
                  have HF := Lib.hid h7
                  clear RT h7
                  go_wp2_with fail
                  go_loopg [23] z (fun kx s23 wl => ∃ i4 : Nat, s23 = .int .i64 (i4 : Nat) ∧ i4 ≤ z ∧ Hid (z - i4 ≤ kx) ∧ Hid (Fz w p T gb P G wl))
                  case atStart => exact ⟨0, rfl, by omega, Lib.hid (by omega), HF⟩
                  case round =>
                    clear HF
                    obtain ⟨i4, rfl, hi4, hkx4, HF⟩ := hrel
                    by_cases hl4 : i4 < z
                    · have hl4z : (i4 : Int) < (z : Int) := by omega
                      have h40 : (0 : Int) ≤ (i4 : Int) := by omega
                      obtain ⟨t, ht⟩ : ∃ t, T[i4]? = some t := ⟨T[i4]'(by rw [HZ.out]; exact hl4), List.getElem?_eq_getElem _⟩
                      obtain ⟨b, o, a, c, rfl, hc, hB⟩ := W0.out.at HF.out.old ht
                      have htl := HTL.out i4 t ht
                      have AK := Lib.hid (HF.out.ask (by rw [HZ.out]; exact h2) ht htl)
                      have hku : IntKind.u64.wrap (i4 : Int) = (i4 : Int) := by rw [IntKind.wrap_u64]; omega
                      have hku1 : IntKind.u64.wrap ((i4 : Int) + 1) = (i4 : Int) + 1 := by rw [IntKind.wrap_u64]; omega
                      clear hB ht HF
                      go_wp2_with fail
                      with_reducible refine Calls.mono AK.out ?_
                      rintro e w4 ⟨⟨r4, d4, rfl, hd4⟩, h8⟩
                      have gc := h8.blk.cell (gots_at (z := T.length) G (k := i4) (by rw [HZ.out]; exact hl4))
                      have HF4 := Lib.hid h8
                      clear AK h8 hc
                      by_cases hg1 : G i4 = 1
                      · obtain rfl := hd4 hg1
                        rw [hg1] at gc
                        go_wp2_with fail
                        go_roundg (z - (i4 + 1))
                        case measure => have := hkx4.out; omega
                        case rel => exact ⟨i4 + 1, by go_num, by omega, Lib.hid (Nat.le_refl _), HF4⟩
                      · have hg2 : ((G i4 : Int) == 1) = false := by rw [beq_eq_false_iff_ne]; omega
                        clear hd4 hg1
                        generalize (G i4 : Int) = gv at *
                        go_wp2_with fail
                        go_roundg (z - (i4 + 1))
                        case measure => have := hkx4.out; omega
                        case rel => exact ⟨i4 + 1, by go_num, by omega, Lib.hid (Nat.le_refl _), HF4⟩
                    · have hl4z : ¬ (i4 : Int) < (z : Int) := by omega
                      have PL := Lib.hid HF.out.poll
                      clear HF
                      go_wp2_with fail
                      with_reducible refine Calls.mono PL.out ?_
                      rintro e w4 ⟨rfl, h8⟩
                      have HO8 := Lib.hid (h8.alloc (.cells #[.int .i64 0, .int .u64 0, .slice none 0 0] 70))
                      clear PL h8
                      go_wp2_with fail
                      with_reducible refine Calls.mono (HC.out _) ?_
                      rintro e w6 ⟨rfl, ho⟩
                      have HO9 : Hid (Old w w6) := Lib.hid (HO8.out.trans ho)
                      clear ho
                      go_wp2_with fail
                      go_ret
                      exact ⟨rfl, HO9.out⟩
            · have HZ0 : Hid (z = 0) := Lib.hid (by omega)
              go_wp2_with fail
              go_loopg [22] z (fun kx s22 wl => ∃ i3 : Nat, s22 = .int .i64 (i3 : Nat) ∧ i3 ≤ z ∧ Hid (z - i3 ≤ kx) ∧ Hid (In w p T sz gb P 600 G wl))
              case atStart => exact ⟨0, rfl, by omega, Lib.hid (by omega), HIx⟩
              case round =>
                clear HIx
                obtain ⟨i3, rfl, hi3, hkx3, HI3⟩ := hrel
                by_cases hl3 : i3 < z
                · exact absurd hl3 (by have := HZ0.out; omega)
                · have hl3z : ¬ (i3 : Int) < (z : Int) := by omega
                  have RT := Lib.hid (HI3.out.retire (by rw [HZ.out]; exact h2) a3)
                  clear HI3
                  go_wp2_with fail
                  with_reducible refine Calls.mono RT.out ?_
                  rintro e w3 ⟨⟨r, rfl⟩, h7⟩
                  have HF := Lib.hid h7
                  clear RT h7
                  go_wp2_with fail
                  go_loopg [23] z (fun kx s23 wl => ∃ i4 : Nat, s23 = .int .i64 (i4 : Nat) ∧ i4 ≤ z ∧ Hid (z - i4 ≤ kx) ∧ Hid (Fz w p T gb P G wl))
                  case atStart => exact ⟨0, rfl, by omega, Lib.hid (by omega), HF⟩
                  case round =>
                    clear HF
                    obtain ⟨i4, rfl, hi4, hkx4, HF⟩ := hrel
                    by_cases hl4 : i4 < z
                    · exact absurd hl4 (by have := HZ0.out; omega)
                    · have hl4z : ¬ (i4 : Int) < (z : Int) := by omega
                      have PL := Lib.hid HF.out.poll
                      clear HF
                      go_wp2_with fail
                      with_reducible refine Calls.mono PL.out ?_
                      rintro e w4 ⟨rfl, h8⟩
                      have HO8 := Lib.hid (h8.alloc (.cells #[.int .i64 0, .int .u64 0, .slice none 0 0] 70))
                      clear PL h8
                      go_wp2_with fail
                      with_reducible refine Calls.mono (HC.out _) ?_
                      rintro e w6 ⟨rfl, ho⟩
                      have HO9 : Hid (Old w w6) := Lib.hid (HO8.out.trans ho)
                      clear ho
                      go_wp2_with fail
                      go_ret
                      exact ⟨rfl, HO9.out⟩
      · have hc : 500 < n ∨ (decide ((500 : Int) < n) = false ∧ (8 : Int) < (z : Int)) ∨ (decide ((500 : Int) < n) = false ∧ decide ((8 : Int) < (z : Int)) = false ∧ a1 < 1) ∨ (decide ((500 : Int) < n) = false ∧ decide ((8 : Int) < (z : Int)) = false ∧ decide (a1 < 1) = false ∧ 500 < a1) ∨ (decide ((500 : Int) < n) = false ∧ decide ((8 : Int) < (z : Int)) = false ∧ decide (a1 < 1) = false ∧ decide (500 < a1) = false ∧ (100 : Int) < (y : Int)) := by
          simp only [decide_eq_false_iff_not]; omega
        clear hok HL
        rcases hc with q1 | ⟨q1, q2⟩ | ⟨q1, q2, q3⟩ | ⟨q1, q2, q3, q4⟩ | ⟨q1, q2, q3, q4, q5⟩
        all_goals
          go_wp2_with fail
          with_reducible refine Calls.mono (HC.out _) ?_
          rintro e w6 ⟨rfl, ho⟩
          go_wp2_with fail
          go_ret
          exact ⟨rfl, hO.out.trans ho⟩
set_option maxRecDepth 100000 in
set_option maxHeartbeats 1000000 in
theorem lifted (os : Os) (started : os.Started) (H : Type) (enc : TypeId × Value → H) :
    ReturnsInHanded {} Tryz.checked os 4 .any (Rows.peerOnceSpec.pre6 enc Tryz.prog Tryz.f4 Rows.peerOnceRow.domain false) (Rows.peerOnceSpec.post enc Tryz.prog Tryz.f4 false true false false) := by
  refine returnsInHanded_of_change (C := Tryz.checked) own started (by kernel_rfl) Tryz.func4
    (ChangeSpec.witness6 (enc := enc) (C := Tryz.checked) false ⟨#[], #[.slice none 0 0, .int .i64 0, .slice none 0 0, .int .u64 0], []⟩ 8 (by kernel_rfl) (by kernel_rfl) (by kernel_rfl) (by kernel_rfl)) ?_
  intro W base args ds gs before hval0 hW hcnd _
  have hval : ∀ (j : Nat) t v, Tryz.f4.params[j]? = some t → args[j]? = some v → Value.okWide Tryz.prog W .any base t v := hval0
  have hW' := hW
  obtain ⟨p, q, hA0, hV, rfl, hfz, hnd⟩ := hW
  have hA : DataW.TrodAll enc Tryz.prog W 0 (fun _ => true) true Tryz.f4.params.toList args.toList ds p := hA0
  rw [Tryz.params4] at hA hval
  obtain ⟨v0, vs0, d0, ds0, p0, q0, hargs, rfl, rfl, h0, r0⟩ := trodAll_cons hA
  obtain ⟨v1, vs1, d1, ds1, p1, q1, rfl, rfl, rfl, h1, r1⟩ := trodAll_cons r0
  obtain ⟨v2, vs2, d2, ds2, p2, q2, rfl, rfl, rfl, h2, r2⟩ := trodAll_cons r1
  obtain ⟨v3, vs3, d3, ds3, p3, q3, rfl, rfl, rfl, h3, r3⟩ := trodAll_cons r2
  obtain ⟨rfl, rfl, rfl⟩ := trodAll_nil r3
  obtain rfl : args = #[v0, v1, v2, v3] := by cases args; simp_all
  obtain ⟨rfl, rfl⟩ := trodVars_none hV
  obtain ⟨s0, cap0, a0, rfl, w0⟩ := Opn.texts_of (hval 0 61 v0 rfl rfl) h0
  obtain ⟨a1, rfl, rfl, rfl, w1⟩ := open_int Tryz.underlying3 (hval 1 3 v1 rfl rfl) h1
  obtain ⟨s2, cap2, a2, rfl, w2⟩ := Opn.ints_of Tryz.underlying62 Tryz.underlying3 (by kernel_rfl) (hval 2 62 v2 rfl rfl) h2
  obtain ⟨a3, rfl, rfl, rfl, w3⟩ := open_int Tryz.underlying22 (hval 3 22 v3 rfl rfl) h3
  clear hA0 hval0
  refine (walk a0 s0 cap0 a1 a2 s2 cap2 a3 W w0 w1 w2 w3).mono fun e W' ⟨he, hg⟩ => ?_
  subst he
  exact ⟨_, rfl, post_of_old hW' (fun _ _ _ => (trodAll_cons_mk (shut_bool Tryz.underlying4 _) trodAll_mk0)) (fun sp hsp => (trodAll_cons_mk (Opn.back (by kernel_rfl) (of_decide_eq_true (by kernel_rfl)) h0 hg (fun x hx => hW'.lt x (by simp [hx])) (fun x hx => hsp x (by simp [hx]))) (trodAll_cons_mk (shut_int Tryz.underlying3 w1) (trodAll_cons_mk (Opn.back (by kernel_rfl) (of_decide_eq_true (by kernel_rfl)) h2 hg (fun x hx => hW'.lt x (by simp [hx])) (fun x hx => hsp x (by simp [hx]))) (trodAll_cons_mk (shut_int Tryz.underlying22 w3) trodAll_mk0))))) (fun _ _ => rfl)
    hg (ok_one (by kernel_rfl) rfl (okWide_bool_mk Tryz.underlying4 _))⟩
theorem over : Rows.peerOnceRow.holds Tryz.pinned (OpenSpec.ofChange Rows.peerOnceSpec) :=
  OpenClaim.holds_of_wide 4 Tryz.f4 rfl rfl rfl rfl rfl rfl rfl ⟨rfl, rfl, rfl, rfl, rfl⟩ rfl rfl rfl rfl rfl (by kernel_rfl) Tryz.func4 (by kernel_rfl)
    (of_decide_eq_true (by kernel_rfl)) (by unfold Func.isWrapper; first | (rw [if_pos (by decide +kernel)]; kernel_rfl) | (rw [if_neg (by decide +kernel)]; exact ⟨rfl, rfl⟩))
    (fun os started H enc _ => lifted os started H enc)
theorem proved : Rows.PeerOnceSaid :=
  over
#print axioms proved
end Go.Proofs.YtjjamooihddkgaaGreat.peerOnce
