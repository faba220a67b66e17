/- Proved: PeerRetires holds for whatever numbers: what is retired is known no more and never comes, what is above goes on, and other hosts' are untouched. Conditions: none. -/
import Derived.Test.YtjjamooihddkgaaGreatRows
import Derived.Test.YtjjamooihddkgaaGreatPmG6
import Derived.Test.YtjjamooihddkgaaGreatPmG9
import Derived.WalkKit
import Derived.ProofKit
import Derived.OpenShut
import Derived.Test.YtjjamooihddkgaaGreatPmG19
set_option linter.unusedVariables false
namespace Go.Proofs.YtjjamooihddkgaaGreat.peerRetires
open Go.ChangeShapes Go.WideShapes Go.ChangeAt Go.RowKit Go.Proofs.YtjjamooihddkgaaGreat.Hp Go.Proofs.YtjjamooihddkgaaGreat.End
open Opn Byt Pk Ph
theorem own : ownKnob Tryz.prog.godebug = none := by kernel_rfl
attribute [local go_sem ↓] Go.wp_at_zero Go.wp_at_succ
set_option maxRecDepth 100000 in
set_option maxHeartbeats 16000000 in
theorem early (a0 a1 : Int) (w : World) (h : a0 < 1 ∨ (decide (a0 < 1) = false ∧ 20 < a0)) :
    Calls Tryz.prog 7 #[.int .i64 a0, .int .u64 a1] w fun e w' => e = .returned (.bool true) ∧ Old w w' := by
  have HC := Lib.hid fun w => awake_any w
  rcases h with h0 | ⟨h0, h1⟩
  all_goals
    go_enter Tryz.func7, Tryz.ntmps7
    go_wp2_with (go_at_call 9; (with_reducible refine Calls.mono (HC.out _) ?_); rintro e w' ⟨rfl, ho⟩)
    go_ret
    exact ⟨rfl, ho⟩
set_option maxRecDepth 100000 in
set_option maxHeartbeats 64000000 in
theorem late (n : Nat) (bl : Int) (w : World) (hn1 : 1 ≤ n) (hn : n ≤ 20) (hb0 : 0 ≤ bl) (hb1 : bl ≤ 18446744073709551615) :
    Calls Tryz.prog 7 #[.int .i64 (n : Int), .int .u64 bl] w fun e w' => e = .returned (.bool true) ∧ Old w w' := by
  have HC := Lib.hid fun w => awake_any w
  have N1 := Lib.hid fun w => Rs.new w
  have HB := Lib.hid hb0
  have HB1 := Lib.hid hb1
  clear hb0 hb1
  have g1 : decide ((n : Int) < 1) = false := decide_eq_false (by omega)
  have g2 : decide ((20 : Int) < (n : Int)) = false := decide_eq_false (by omega)
  go_enter Tryz.func7, Tryz.ntmps7
  go_wp2_with fail
  with_reducible refine Calls.mono (N1.out _) ?_
  rintro e w1 ⟨p, rfl, h1⟩
  have H1 := Lib.hid h1
  clear N1 h1
  go_wp2_with fail
  go_loopg [7] (n + 1) (fun kx s7 wr => ∃ i : Nat, s7 = .int .i64 (i : Nat) ∧ 1 ≤ i ∧ i ≤ n + 1 ∧ Hid (n + 1 - i ≤ kx) ∧ Hid (Rs w wr p i i))
  case atStart => exact ⟨1, rfl, by omega, by omega, Lib.hid (by omega), H1⟩
  case round =>
    clear H1
    obtain ⟨i, rfl, hi1, hi2, hkx, HL⟩ := hrel
    by_cases hlt : i ≤ n
    · have hltz : (i : Int) ≤ (n : Int) := by omega
      have hw : IntKind.u64.wrap (i : Int) = (i : Int) := by rw [IntKind.wrap_u64]; omega
      have LP := Lib.hid (HL.out.one hi1 (by omega))
      clear HL
      go_wp2_with fail
      with_reducible refine Calls.mono LP.out ?_
      rintro e w2 ⟨rfl, h2⟩
      have LQ := Lib.hid (h2.two hi1 (by omega))
      clear LP h2
      go_wp2_with fail
      with_reducible refine Calls.mono LQ.out ?_
      rintro e w3 ⟨rfl, h3⟩
      have H3 := Lib.hid h3
      clear LQ h3
      go_wp2_with fail
      go_roundg (n + 1 - (i + 1))
      case measure => have := hkx.out; omega
      case rel => exact ⟨i + 1, by go_num, by omega, by omega, Lib.hid (Nat.le_refl _), H3⟩
    · have hltz : ¬ (i : Int) ≤ (n : Int) := by omega
      have HL2 : Hid (Rs w wr p (n + 1) (n + 1)) := Lib.hid (by have := HL.out; rwa [show i = n + 1 by omega] at this)
      clear HL
      go_wp2_with fail
      go_loopg [8, 9] (n + 1) (fun kx s8 s9 wq => ∃ j q : Nat, s8 = .int .i64 (q : Nat) ∧ s9 = .int .i64 (j : Nat) ∧ Hid (q = min (j - 1) (bl - 1).toNat) ∧ 1 ≤ j ∧ j ≤ n + 1 ∧ q ≤ n ∧ Hid (n + 1 - j ≤ kx) ∧ Hid (Rs w wq p (n + 1) (n + 1)))
      case atStart => exact ⟨1, 0, rfl, rfl, Lib.hid (by simp), by omega, by omega, by omega, Lib.hid (by omega), HL2⟩
      case round =>
        clear HL2
        obtain ⟨j, q, rfl, rfl, hq, hj1, hj2, hqn, hkx2, HI⟩ := hrel
        by_cases hlt2 : j ≤ n
        · have hltz2 : (j : Int) ≤ (n : Int) := by omega
          have hv : IntKind.u64.wrap (j : Int) = (j : Int) := by rw [IntKind.wrap_u64]; omega
          by_cases hjb : (j : Int) < bl
          · have hq2 : Hid (q + 1 = min (j + 1 - 1) (bl - 1).toNat) := Lib.hid (by have := hq.out; omega)
            have hqn2 := Lib.hid (show q + 1 ≤ n by have := hq.out; omega)
            clear hq
            go_wp2_with fail
            go_roundg (n + 1 - (j + 1))
            case measure => have := hkx2.out; omega
            case rel => exact ⟨j + 1, q + 1, by go_num, by go_num, hq2, by omega, by omega, hqn2.out, Lib.hid (Nat.le_refl _), HI⟩
          · have hq2 : Hid (q = min (j + 1 - 1) (bl - 1).toNat) := Lib.hid (by have := hq.out; omega)
            clear hq
            go_wp2_with fail
            go_roundg (n + 1 - (j + 1))
            case measure => have := hkx2.out; omega
            case rel => exact ⟨j + 1, q, by go_num, by go_num, hq2, by omega, by omega, by omega, Lib.hid (Nat.le_refl _), HI⟩
        · have hltz2 : ¬ (j : Int) ≤ (n : Int) := by omega
          have LE := Lib.hid HI.out.len
          have RE := Lib.hid (HI.out.retire hn (below := bl) (k := q) (by have := hq.out; omega))
          have ga : IntKind.i64.wrap (2 * (n : Int)) = 2 * (n : Int) := by rw [IntKind.wrap_i64]; omega
          have gb : IntKind.i64.wrap (2 * (n : Int) - (q : Int)) = 2 * (n : Int) - (q : Int) := by rw [IntKind.wrap_i64]; omega
          clear HI
          go_wp2_with fail
          with_reducible refine Calls.mono LE.out ?_
          rintro e w2 ⟨rfl, rfl⟩
          clear LE
          go_wp2_with fail
          with_reducible refine Calls.mono RE.out ?_
          rintro e w2 ⟨rfl, h2, h3⟩
          have HT := Lib.hid h2
          have LE := Lib.hid h3
          clear RE h2 h3
          go_wp2_with fail
          with_reducible refine Calls.mono LE.out ?_
          rintro e w3 ⟨rfl, rfl⟩
          clear LE
          go_wp2_with fail
          go_loopg [10] (n + 1) (fun kx s10 wp => ∃ k : Nat, s10 = .int .i64 (k : Nat) ∧ 1 ≤ k ∧ k ≤ n + 1 ∧ Hid (n + 1 - k ≤ kx) ∧ Hid (Rt w wp p n (mk bl) (2 * n - q) k k))
          case atStart => exact ⟨1, rfl, by omega, by omega, Lib.hid (by omega), HT⟩
          case round =>
            clear HT
            obtain ⟨k, rfl, hk1, hk2, hkx3, HR⟩ := hrel
            by_cases hlt3 : k ≤ n
            · have hltz3 : (k : Int) ≤ (n : Int) := by omega
              have hu : IntKind.u64.wrap (k : Int) = (k : Int) := by rw [IntKind.wrap_u64]; omega
              by_cases hkb : (k : Int) < bl
              · have GO := Lib.hid (HR.out.gone hk1 (by unfold mk; omega) (by omega))
                clear HR
                go_wp2_with fail
                with_reducible refine Calls.mono GO.out ?_
                rintro e w3 ⟨rfl, h3⟩
                have G2 := Lib.hid (h3.two hk1 hlt3 hn (by omega))
                clear GO h3
                go_wp2_with fail
                with_reducible refine Calls.mono G2.out ?_
                rintro e w4 ⟨rfl, h4⟩
                have H4 := Lib.hid h4
                clear G2 h4
                go_wp2_with fail
                go_roundg (n + 1 - (k + 1))
                case measure => have := hkx3.out; omega
                case rel => exact ⟨k + 1, by go_num, by omega, by omega, Lib.hid (Nat.le_refl _), H4⟩
              · have GO := Lib.hid (HR.out.one hk1 (by unfold mk; omega) hlt3 hn (by omega))
                clear HR
                go_wp2_with fail
                with_reducible refine Calls.mono GO.out ?_
                rintro e w3 ⟨rfl, h3⟩
                have G2 := Lib.hid (h3.two hk1 hlt3 hn (by omega))
                clear GO h3
                go_wp2_with fail
                with_reducible refine Calls.mono G2.out ?_
                rintro e w4 ⟨rfl, h4⟩
                have H4 := Lib.hid h4
                clear G2 h4
                go_wp2_with fail
                go_roundg (n + 1 - (k + 1))
                case measure => have := hkx3.out; omega
                case rel => exact ⟨k + 1, by go_num, by omega, by omega, Lib.hid (Nat.le_refl _), H4⟩
            · have hltz3 : ¬ (k : Int) ≤ (n : Int) := by omega
              have FI := Rt.fin (by have := HR.out; rwa [show k = n + 1 by omega] at this)
              have WE := Lib.hid FI.1
              rw [show ((2 * n - q : Nat) : Int) = 2 * (n : Int) - (q : Int) by omega] at WE
              have LE := Lib.hid FI.2.1
              have HK := Lib.hid FI.2.2
              clear FI HR
              go_wp2_with fail
              with_reducible refine Calls.mono WE.out ?_
              rintro e w3 ⟨rfl, rfl⟩
              go_wp2_with fail
              with_reducible refine Calls.mono LE.out ?_
              rintro e w3 ⟨rfl, rfl⟩
              go_wp2_with fail
              with_reducible refine Calls.mono (HC.out _) ?_
              rintro e w3 ⟨rfl, ho⟩
              have HO : Hid (Old w w3) := Lib.hid (HK.out.trans ho)
              clear ho
              go_wp2_with fail
              go_ret
              exact ⟨rfl, HO.out⟩
theorem walk (a0 a1 : Int) (w : World) (w0 : (Lit.int .i64 a0).wf = true) (w1 : (Lit.int .u64 a1).wf = true) :
    Calls Tryz.prog 7 #[.int .i64 a0, .int .u64 a1] w fun e w' => e = .returned (.bool true) ∧ Old w w' := by
  have hu := bounds_u64 w1
  by_cases h : 1 ≤ a0 ∧ a0 ≤ 20
  · obtain ⟨n, rfl⟩ : ∃ n : Nat, a0 = n := ⟨a0.toNat, by omega⟩
    exact late n a1 w (by omega) (by omega) (by omega) (by omega)
  · refine early a0 a1 w ?_
    simp only [decide_eq_false_iff_not]
    omega
set_option maxRecDepth 100000 in
set_option maxHeartbeats 1000000 in
theorem lifted (os : Os) (started : os.Started) (H : Type) (enc : TypeId × Value → H) :
    ReturnsInHanded {} Tryz.checked os 7 .any (Rows.peerRetiresSpec.pre6 enc Tryz.prog Tryz.f7 Rows.peerRetiresRow.domain false) (Rows.peerRetiresSpec.post enc Tryz.prog Tryz.f7 false true false false) := by
  refine returnsInHanded_of_change (C := Tryz.checked) own started (by kernel_rfl) Tryz.func7
    (ChangeSpec.witness6 (enc := enc) (C := Tryz.checked) false ⟨#[], #[.int .i64 0, .int .u64 0], []⟩ 8 (by kernel_rfl) (by kernel_rfl) (by kernel_rfl) (by kernel_rfl)) ?_
  intro W base args ds gs before hval0 hW hcnd _
  have hval : ∀ (j : Nat) t v, Tryz.f7.params[j]? = some t → args[j]? = some v → Value.okWide Tryz.prog W .any base t v := hval0
  have hW' := hW
  obtain ⟨p, q, hA0, hV, rfl, hfz, hnd⟩ := hW
  have hA : DataW.TrodAll enc Tryz.prog W 0 (fun _ => true) true Tryz.f7.params.toList args.toList ds p := hA0
  rw [Tryz.params7] at hA hval
  obtain ⟨v0, vs0, d0, ds0, p0, q0, hargs, rfl, rfl, h0, r0⟩ := trodAll_cons hA
  obtain ⟨v1, vs1, d1, ds1, p1, q1, rfl, rfl, rfl, h1, r1⟩ := trodAll_cons r0
  obtain ⟨rfl, rfl, rfl⟩ := trodAll_nil r1
  obtain rfl : args = #[v0, v1] := by cases args; simp_all
  obtain ⟨rfl, rfl⟩ := trodVars_none hV
  obtain ⟨a0, rfl, rfl, rfl, w0⟩ := open_int Tryz.underlying3 (hval 0 3 v0 rfl rfl) h0
  obtain ⟨a1, rfl, rfl, rfl, w1⟩ := open_int Tryz.underlying22 (hval 1 22 v1 rfl rfl) h1
  clear hA0 hval0
  simp only [List.append_nil] at hW'
  refine (walk a0 a1 W w0 w1).mono fun e W' ⟨he, hg⟩ => ?_
  subst he
  exact ⟨_, rfl, post_of_old (pa := []) (pv := []) hW' (fun _ _ _ => (trodAll_cons_mk (shut_bool Tryz.underlying4 _) trodAll_mk0)) (fun sp _ => (trodAll_cons_mk (shut_int Tryz.underlying3 w0) (trodAll_cons_mk (shut_int Tryz.underlying22 w1) trodAll_mk0))) (fun _ _ => rfl)
    hg (ok_one (by kernel_rfl) rfl (okWide_bool_mk Tryz.underlying4 _))⟩
theorem over : Rows.peerRetiresRow.holds Tryz.pinned (OpenSpec.ofChange Rows.peerRetiresSpec) :=
  OpenClaim.holds_of_wide 7 Tryz.f7 rfl rfl rfl rfl rfl rfl rfl ⟨rfl, rfl, rfl, rfl, rfl⟩ rfl rfl rfl rfl rfl (by kernel_rfl) Tryz.func7 (by kernel_rfl)
    (of_decide_eq_true (by kernel_rfl)) (by unfold Func.isWrapper; first | (rw [if_pos (by decide +kernel)]; kernel_rfl) | (rw [if_neg (by decide +kernel)]; exact ⟨rfl, rfl⟩))
    (fun os started H enc _ => lifted os started H enc)
theorem proved : Rows.PeerRetiresSaid :=
  over
#print axioms proved
end Go.Proofs.YtjjamooihddkgaaGreat.peerRetires
