/- MuxOrder's row out of its run. Conditions: the theorem's own. -/
import Derived.Test.YtoieogembfdmfaaMoG23
import Derived.Test.YtoieogembfdmfaaRows
import Derived.Conc.LeavingOf
import Derived.JoinedOf
set_option linter.unusedVariables false
set_option linter.unusedSimpArgs false
namespace Go.Proofs.Ytoieogembfdmfaa.muxOrder
open Go.ChangeShapes Go.WideShapes Go.ChangeAt Go.RowKit Go.Conc Hp Go.Proofs.Ytoieogembfdmfaa.End Opn
theorem own : ownKnob Try.prog.godebug = none := by kernel_rfl
/-- What the run leaves, the tape aside. -/
def PostB (w : World) (v : Value) (w' : World) : Prop := v = .bool true ∧ w'.os = w.os ∧ w'.output = w.output ∧ w.heap.size ≤ w'.heap.size ∧ ∀ b, b < w.heap.size → w'.heap[b]? = w.heap[b]?
def Runs : Prop := ∀ (w : World) (s0 s1 : Option Addr) (cap0 cap1 : Nat) (a b : List Int) (n : Int), Ints w s0 cap0 a → Ints w s1 cap1 b →
    ∃ N last o w' t', runNT Try.prog (N + 1) (solo (G (Frame.enter Try.prog 3 #[.slice s0 a.length cap0, .slice s1 b.length cap1, .int .i64 n] .normal) []) w) #[] = (.ended o w', t') ∧
      runN Try.prog N (solo (G (Frame.enter Try.prog 3 #[.slice s0 a.length cap0, .slice s1 b.length cap1, .int .i64 n] .normal) []) w) = .next last ∧ step Try.prog last = .ended o w' ∧ Go.Conc.Good Try.prog (PostB w) last o w' t'
set_option maxRecDepth 100000 in
set_option maxHeartbeats 1000000 in
theorem lifted (hrun : Runs) (os : Os) (started : os.Started) (H : Type) (enc : TypeId × Value → H) :
    ReturnsInLeavingWide {} Try.checked os 3 .any (Rows.muxOrderSpec.pre6 enc Try.prog Try.f3 Rows.muxOrderRow.domain false) (Rows.muxOrderSpec.post enc Try.prog Try.f3 false true false false) := by
  refine returnsInLeavingWide_of_good (C := Try.checked) own started
    (ChangeSpec.witness6 (enc := enc) (C := Try.checked) false ⟨#[], #[.slice none 0 0, .slice none 0 0, .int .i64 0], []⟩ 8 (by kernel_rfl) (by kernel_rfl) (by kernel_rfl) (by kernel_rfl)) ?_
  intro w tape i _ _ _ hok hpre hholds
  obtain ⟨_, _, _, fn', hfn', _, _, _, _, hval0⟩ := hok
  have efn : fn' = Try.f3 := Option.some.inj (hfn'.symm.trans Try.func3)
  subst efn
  obtain ⟨⟨ds, gs, before, hw, hcnd⟩, hz⟩ := hpre
  have hW : DataW.Whole enc Try.prog Try.f3.params.toList Rows.muxOrderSpec.vars false (w.forCall tape i).blind i.args.toList ds gs before := DataW.Whole.of_heap (by rfl) hw
  generalize i.args = args at *
  generalize hWd : w.forCall tape i = W at *
  have hval : ∀ (j : Nat) t v, Try.f3.params[j]? = some t → args[j]? = some v → Value.okWide Try.prog W.blind .any w.heap.size t v := hval0
  have hW' := hW
  obtain ⟨p, q, hA0, hV, rfl, hfz, hnd⟩ := hW
  have hA : DataW.TrodAll enc Try.prog W.blind 0 (fun _ => true) true Try.f3.params.toList args.toList ds p := hA0
  rw [Try.params3] at hA hval
  obtain ⟨v0, vs0, d0, ds0, p0, q0, hargs, rfl, rfl, h0, r0⟩ := trodAll_cons hA
  obtain ⟨v1, vs1, d1, ds1, p1, q1, rfl, rfl, rfl, h1, r1⟩ := trodAll_cons r0
  obtain ⟨v2, vs2, d2, ds2, p2, q2, rfl, rfl, rfl, h2, r2⟩ := trodAll_cons r1
  obtain ⟨rfl, rfl, rfl⟩ := trodAll_nil r2
  obtain rfl : args = #[v0, v1, v2] := by cases args; simp_all
  obtain ⟨rfl, rfl⟩ := trodVars_none hV
  obtain ⟨s0, cap0, a0, rfl, w0⟩ := Opn.ints_of Try.underlying22 Try.underlying3 (by kernel_rfl) (hval 0 22 v0 rfl rfl) h0
  obtain ⟨s1, cap1, a1, rfl, w1⟩ := Opn.ints_of Try.underlying22 Try.underlying3 (by kernel_rfl) (hval 1 22 v1 rfl rfl) h1
  obtain ⟨n, rfl, rfl, rfl, w2⟩ := open_int Try.underlying3 (hval 2 3 v2 rfl rfl) h2
  clear hA0 hval0
  obtain ⟨N, last, o, w', t', r1, r2, r3, r4⟩ := hrun W s0 s1 cap0 cap1 a0 a1 n w0 w1
  refine ⟨N, last, o, w', t', r1, r2, r3, r4.mono fun v hP => ?_⟩
  obtain ⟨rfl, e1, e2, e3, e4⟩ := hP
  have hg : Old W.blind w'.blind := ⟨e1, rfl, e2, e3, fun b hb _ => e4 b hb⟩
  exact post_of_old hW' (fun _ _ _ => (trodAll_cons_mk (shut_bool Try.underlying4 _) trodAll_mk0))
    (fun sp hsp => (trodAll_cons_mk (Opn.back (by kernel_rfl) (of_decide_eq_true (by kernel_rfl)) h0 hg (fun x hx => hW'.lt x (by simp [hx])) (fun x hx => hsp x (by simp [hx]))) (trodAll_cons_mk (Opn.back (by kernel_rfl) (of_decide_eq_true (by kernel_rfl)) h1 hg (fun x hx => hW'.lt x (by simp [hx])) (fun x hx => hsp x (by simp [hx]))) (trodAll_cons_mk (shut_int Try.underlying3 w2) trodAll_mk0)))) (fun _ _ => rfl)
    hg (ok_one (by kernel_rfl) rfl (okWide_bool_mk Try.underlying4 _))
theorem over (hrun : Runs) : Rows.muxOrderRow.holds Try.pinned (OpenSpec.ofChange Rows.muxOrderSpec) :=
  OpenClaim.holds_of_wide_leaving 3 Try.f3 rfl rfl rfl rfl rfl rfl rfl ⟨rfl, rfl, rfl, rfl, rfl⟩ rfl rfl rfl rfl rfl (by kernel_rfl) Try.func3 (by kernel_rfl)
    (of_decide_eq_true (by kernel_rfl)) (by unfold Func.isWrapper; first | (rw [if_pos (by decide +kernel)]; kernel_rfl) | (rw [if_neg (by decide +kernel)]; exact ⟨rfl, rfl⟩))
    (fun os started H enc _ => lifted hrun os started H enc)
theorem said (hrun : Runs) : Rows.MuxOrderSaid := over hrun
end Go.Proofs.Ytoieogembfdmfaa.muxOrder

