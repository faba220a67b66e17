/- Proved: PeerNothing holds for whatever host, message and bytes: senders and receivers that are none keep nothing, and each of their calls answers so. Conditions: none. -/
import Derived.Test.YtjjamooihddkgaaGreatRows
import Derived.Test.YtjjamooihddkgaaGreatPmG10
import Derived.Test.YtjjamooihddkgaaGreatPmG6
import Derived.Test.YtjjamooihddkgaaGreatPmG9
import Derived.WalkKit
import Derived.ProofKit
import Derived.OpenShut
import Derived.Test.YtjjamooihddkgaaGreatPmG20
set_option linter.unusedVariables false
namespace Go.Proofs.YtjjamooihddkgaaGreat.peerNothing
open Go.ChangeShapes Go.WideShapes Go.ChangeAt Go.RowKit Go.Proofs.YtjjamooihddkgaaGreat.Hp Go.Proofs.YtjjamooihddkgaaGreat.End
open Opn Byt Pk Ph
theorem own : ownKnob Tryz.prog.godebug = none := by kernel_rfl
attribute [local go_sem ↓] Go.wp_at_zero Go.wp_at_succ
set_option maxRecDepth 100000 in
set_option maxHeartbeats 16000000 in
theorem early (a0 a1 : Int) (a2 : List UInt8) (s2 : Option Addr) (cap2 : Nat) (w : World) (h : 100 < a2.length) :
    Calls Tryz.prog 5 #[.int .i64 a0, .int .u64 a1, .slice s2 a2.length cap2] w fun e w' => e = .returned (.bool true) ∧ Old w w' := by
  have HC := Lib.hid fun w => awake_any w
  have h1 : 100 < (a2.length : Int) := by omega
  go_enter Tryz.func5, Tryz.ntmps5
  go_wp2_with (go_at_call 9; (with_reducible refine Calls.mono (HC.out _) ?_); rintro e w' ⟨rfl, ho⟩)
  go_ret
  exact ⟨rfl, ho⟩
theorem walk (a0 a1 : Int) (a2 : List UInt8) (s2 : Option Addr) (cap2 : Nat) (w : World) (w0 : (Lit.int .i64 a0).wf = true) (w1 : (Lit.int .u64 a1).wf = true) (w2 : Byts w s2 cap2 a2) :
    Calls Tryz.prog 5 #[.int .i64 a0, .int .u64 a1, .slice s2 a2.length cap2] w fun e w' => e = .returned (.bool true) ∧ Old w w' := by
  by_cases h : 100 < a2.length
  · exact early a0 a1 a2 s2 cap2 w h
  · have hu := bounds_u64 w1
    by_cases h1 : a0 < 0
    · exact late1 a0 a1 a2.length s2 cap2 w h h1
    have h1' : decide (a0 < 0) = false := decide_eq_false h1
    by_cases h2 : 7 < a0
    · exact late2 a0 a1 a2.length s2 cap2 w h h1' h2
    have h2' : decide (7 < a0) = false := decide_eq_false h2
    by_cases h3 : a1 = 0
    · subst h3
      exact late3 a0 a2.length s2 cap2 w h h1' h2'
    have h3' : decide (a1 = 0) = false := decide_eq_false h3
    by_cases h4 : 1152921504606846976 < a1
    · exact late4 a0 a1 a2.length s2 cap2 w h h1' h2' h3' h4
    · exact late5 a0 a1 a2.length s2 cap2 w h h1' h2' h3' (decide_eq_false h4) (by omega)
set_option maxRecDepth 100000 in
set_option maxHeartbeats 1000000 in
theorem lifted (os : Os) (started : os.Started) (H : Type) (enc : TypeId × Value → H) :
    ReturnsInHanded {} Tryz.checked os 5 .any (Rows.peerNothingSpec.pre6 enc Tryz.prog Tryz.f5 Rows.peerNothingRow.domain false) (Rows.peerNothingSpec.post enc Tryz.prog Tryz.f5 false true false false) := by
  refine returnsInHanded_of_change (C := Tryz.checked) own started (by kernel_rfl) Tryz.func5
    (ChangeSpec.witness6 (enc := enc) (C := Tryz.checked) false ⟨#[], #[.int .i64 0, .int .u64 0, .slice none 0 0], []⟩ 8 (by kernel_rfl) (by kernel_rfl) (by kernel_rfl) (by kernel_rfl)) ?_
  intro W base args ds gs before hval0 hW hcnd _
  have hval : ∀ (j : Nat) t v, Tryz.f5.params[j]? = some t → args[j]? = some v → Value.okWide Tryz.prog W .any base t v := hval0
  have hW' := hW
  obtain ⟨p, q, hA0, hV, rfl, hfz, hnd⟩ := hW
  have hA : DataW.TrodAll enc Tryz.prog W 0 (fun _ => true) true Tryz.f5.params.toList args.toList ds p := hA0
  rw [Tryz.params5] at hA hval
  obtain ⟨v0, vs0, d0, ds0, p0, q0, hargs, rfl, rfl, h0, r0⟩ := trodAll_cons hA
  obtain ⟨v1, vs1, d1, ds1, p1, q1, rfl, rfl, rfl, h1, r1⟩ := trodAll_cons r0
  obtain ⟨v2, vs2, d2, ds2, p2, q2, rfl, rfl, rfl, h2, r2⟩ := trodAll_cons r1
  obtain ⟨rfl, rfl, rfl⟩ := trodAll_nil r2
  obtain rfl : args = #[v0, v1, v2] := by cases args; simp_all
  obtain ⟨rfl, rfl⟩ := trodVars_none hV
  obtain ⟨a0, rfl, rfl, rfl, w0⟩ := open_int Tryz.underlying3 (hval 0 3 v0 rfl rfl) h0
  obtain ⟨a1, rfl, rfl, rfl, w1⟩ := open_int Tryz.underlying22 (hval 1 22 v1 rfl rfl) h1
  obtain ⟨s2, cap2, a2, rfl, w2⟩ := Opn.bytes_of (hval 2 25 v2 rfl rfl) h2
  clear hA0 hval0
  refine (walk a0 a1 a2 s2 cap2 W w0 w1 w2).mono fun e W' ⟨he, hg⟩ => ?_
  subst he
  exact ⟨_, rfl, post_of_old hW' (fun _ _ _ => (trodAll_cons_mk (shut_bool Tryz.underlying4 _) trodAll_mk0)) (fun sp hsp => (trodAll_cons_mk (shut_int Tryz.underlying3 w0) (trodAll_cons_mk (shut_int Tryz.underlying22 w1) (trodAll_cons_mk (Opn.back (by kernel_rfl) (of_decide_eq_true (by kernel_rfl)) h2 hg (fun x hx => hW'.lt x (by simp [hx])) (fun x hx => hsp x (by simp [hx]))) trodAll_mk0)))) (fun _ _ => rfl)
    hg (ok_one (by kernel_rfl) rfl (okWide_bool_mk Tryz.underlying4 _))⟩
theorem over : Rows.peerNothingRow.holds Tryz.pinned (OpenSpec.ofChange Rows.peerNothingSpec) :=
  OpenClaim.holds_of_wide 5 Tryz.f5 rfl rfl rfl rfl rfl rfl rfl ⟨rfl, rfl, rfl, rfl, rfl⟩ rfl rfl rfl rfl rfl (by kernel_rfl) Tryz.func5 (by kernel_rfl)
    (of_decide_eq_true (by kernel_rfl)) (by unfold Func.isWrapper; first | (rw [if_pos (by decide +kernel)]; kernel_rfl) | (rw [if_neg (by decide +kernel)]; exact ⟨rfl, rfl⟩))
    (fun os started H enc _ => lifted os started H enc)
theorem proved : Rows.PeerNothingSaid :=
  over
#print axioms proved
end Go.Proofs.YtjjamooihddkgaaGreat.peerNothing
