/- PortNothing (mizzenlaw13): for every int the law returns true and its argument reads as before. Conditions: none beyond the model's. -/
import Derived.Test.YtiffnlcpemfmoaaRows
import Derived.Test.YtiffnlcpemfmoaaEnd
import Derived.Test.YtiffnlcpemfmoaaInts
import Derived.WalkKit
import Derived.ProofKit
import Derived.OpenShut
import Derived.Test.YtiffnlcpemfmoaaPoNil
set_option linter.unusedVariables false
namespace Go.Proofs.Ytiffnlcpemfmoaa.portNothing
open Go.ChangeShapes Go.WideShapes Go.ChangeAt Go.RowKit Go.Proofs.Ytiffnlcpemfmoaa.Hp Go.Proofs.Ytiffnlcpemfmoaa.End
open Go.Proofs.Ytiffnlcpemfmoaa.Po Go.Proofs.Ytiffnlcpemfmoaa.Qu
theorem own : ownKnob Try.prog.godebug = none := by kernel_rfl
set_option maxRecDepth 100000 in
set_option maxHeartbeats 4000000 in
theorem walk (a0 : Int) (w : World) (w0 : (Lit.int .i64 a0).wf = true) :
    Calls Try.prog 3 #[.int .i64 a0] w fun e w' => e = .returned (.bool true) ∧ Old w w' := by
  have TK := Lib.hid fun w => take_nil a0 w
  have DR := Lib.hid fun w => drop_nil a0 w
  have DB := Lib.hid fun w => double_nil a0 w
  have PU := Lib.hid fun w => put_nil ⟨⟨5, 0, 0, 0, 0, 0, 0, 0, 0, []⟩, none, 0, 0⟩ w
  have WA := Lib.hid fun w => waiting_nil w
  have CR := Lib.hid fun w => credits_nil w
  have US := Lib.hid fun w => pused_nil w
  have AW := Lib.hid fun w => awake_any w
  go_enter Try.func3, Try.ntmps3
  go_wp2_with fail
  with_reducible refine Calls.mono (TK.out _) ?_
  rintro e w1 ⟨rfl, hk1⟩
  have HK1 := Lib.hid (hk1.alloc (.cells #[.int .i64 0, .int .i64 0, .int .i64 0, .int .i64 0, .int .u64 0, .int .i64 0, .int .i64 0, .int .i64 0, .int .i64 0, .slice none 0 0, .int .i64 0] 28))
  clear hk1 TK
  go_upto_region 3 with fail
  try dsimp only [List.length_nil, Int.natCast_zero] at HK1 ⊢
  generalize w1.alloc (.cells #[.int .i64 0, .int .i64 0, .int .i64 0, .int .i64 0, .int .u64 0, .int .i64 0, .int .i64 0, .int .i64 0, .int .i64 0, .slice none 0 0, .int .i64 0] 28) = w2 at *
  go_wp2_with fail
  with_reducible refine Calls.mono (DR.out _) ?_
  rintro e w3 ⟨rfl, hk3⟩
  have HK3 := Lib.hid ((HK1.out.trans hk3).alloc (.cells #[.int .i64 0, .int .i64 0, .int .i64 0, .int .i64 0, .int .u64 0, .int .i64 0, .int .i64 0, .int .i64 0, .int .i64 0, .slice none 0 0, .int .i64 0] 28))
  clear hk3 DR HK1
  go_upto_region 4 with fail
  try dsimp only [List.length_nil, Int.natCast_zero] at HK3 ⊢
  generalize w3.alloc (.cells #[.int .i64 0, .int .i64 0, .int .i64 0, .int .i64 0, .int .u64 0, .int .i64 0, .int .i64 0, .int .i64 0, .int .i64 0, .slice none 0 0, .int .i64 0] 28) = w4 at *
  go_wp2_with fail
  with_reducible refine Calls.mono (PU.out _) ?_
  rintro e w5 ⟨rfl, hk5⟩
  have HK5 := Lib.hid (HK3.out.trans hk5)
  clear hk5 PU HK3
  go_wp2_with fail
  with_reducible refine Calls.mono (DB.out _) ?_
  rintro e w6 ⟨rfl, hk6⟩
  have HK6 := Lib.hid (HK5.out.trans hk6)
  clear hk6 DB HK5
  go_wp2_with fail
  with_reducible refine Calls.mono (WA.out _) ?_
  rintro e w7 ⟨rfl, rfl⟩
  go_wp2_with fail
  with_reducible refine Calls.mono (CR.out _) ?_
  rintro e w7 ⟨rfl, rfl⟩
  go_wp2_with fail
  with_reducible refine Calls.mono (US.out _) ?_
  rintro e w7 ⟨rfl, rfl⟩
  go_wp2_with fail
  with_reducible refine Calls.mono (AW.out _) ?_
  rintro e w7 ⟨rfl, ho⟩
  have HO : Hid (Old w w7) := Lib.hid (HK6.out.trans ho)
  clear ho
  go_wp2_with fail
  go_ret
  exact ⟨rfl, HO.out⟩
set_option maxRecDepth 100000 in
set_option maxHeartbeats 1000000 in
theorem lifted (os : Os) (started : os.Started) (H : Type) (enc : TypeId × Value → H) :
    ReturnsInHanded {} Try.checked os 3 .any (Rows.portNothingSpec.pre6 enc Try.prog Try.f3 Rows.portNothingRow.domain false) (Rows.portNothingSpec.post enc Try.prog Try.f3 false true false false) := by
  refine returnsInHanded_of_change (C := Try.checked) own started (by kernel_rfl) Try.func3
    (ChangeSpec.witness6 (enc := enc) (C := Try.checked) false ⟨#[], #[.int .i64 0], []⟩ 8 (by kernel_rfl) (by kernel_rfl) (by kernel_rfl) (by kernel_rfl)) ?_
  intro W base args ds gs before hval0 hW hcnd _
  have hval : ∀ (j : Nat) t v, Try.f3.params[j]? = some t → args[j]? = some v → Value.okWide Try.prog W .any base t v := hval0
  have hW' := hW
  obtain ⟨p, q, hA0, hV, rfl, hfz, hnd⟩ := hW
  have hA : DataW.TrodAll enc Try.prog W 0 (fun _ => true) true Try.f3.params.toList args.toList ds p := hA0
  rw [Try.params3] at hA hval
  obtain ⟨v0, vs0, d0, ds0, p0, q0, hargs, rfl, rfl, h0, r0⟩ := trodAll_cons hA
  obtain ⟨rfl, rfl, rfl⟩ := trodAll_nil r0
  obtain rfl : args = #[v0] := by cases args; simp_all
  obtain ⟨rfl, rfl⟩ := trodVars_none hV
  obtain ⟨a0, rfl, rfl, rfl, w0⟩ := open_int Try.underlying3 (hval 0 3 v0 rfl rfl) h0
  clear hA0 hval0
  simp only [List.append_nil] at hW'
  refine (walk a0 W w0).mono fun e W' ⟨he, hg⟩ => ?_
  subst he
  exact ⟨_, rfl, post_of_old (pa := []) (pv := []) hW' (fun _ _ _ => (trodAll_cons_mk (shut_bool Try.underlying4 _) trodAll_mk0)) (fun sp _ => (trodAll_cons_mk (shut_int Try.underlying3 w0) trodAll_mk0)) (fun _ _ => rfl)
    hg (ok_one (by kernel_rfl) rfl (okWide_bool_mk Try.underlying4 _))⟩
theorem over : Rows.portNothingRow.holds Try.pinned (OpenSpec.ofChange Rows.portNothingSpec) :=
  OpenClaim.holds_of_wide 3 Try.f3 rfl rfl rfl rfl rfl rfl rfl ⟨rfl, rfl, rfl, rfl, rfl⟩ rfl rfl rfl rfl rfl (by kernel_rfl) Try.func3 (by kernel_rfl)
    (of_decide_eq_true (by kernel_rfl)) (by unfold Func.isWrapper; first | (rw [if_pos (by decide +kernel)]; kernel_rfl) | (rw [if_neg (by decide +kernel)]; exact ⟨rfl, rfl⟩))
    (fun os started H enc _ => lifted os started H enc)
theorem proved : Rows.PortNothingSaid :=
  over
#print axioms proved
end Go.Proofs.Ytiffnlcpemfmoaa.portNothing
