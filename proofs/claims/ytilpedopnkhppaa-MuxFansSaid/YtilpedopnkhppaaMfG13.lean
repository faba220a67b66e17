/- send: a list's elements' addresses into a channel, one by one; then it is closed. Conditions: each theorem's own. -/
import Derived.Test.YtilpedopnkhppaaMfG11
import Derived.Test.YtilpedopnkhppaaMfG12
import Derived.WideLaws
import Derived.Conc.WgWords
import Derived.Test.YtilpedopnkhppaaRows
import Derived.WalkKit
import Derived.ProofKit
import Derived.Lib.Hide
import Derived.BigQuiet
import Derived.OrdersHeld
import Derived.Deep.QuietTactic
import Derived.LoopTactic
import Derived.Outline
import Derived.Deep.LoopGhost
import Derived.Deep.CutBlock
import Derived.WalkLawsBesides
import Derived.KernelRfl
set_option linter.unusedVariables false
set_option linter.unusedSimpArgs false
namespace Go.Proofs.Ytilpedopnkhppaa.MxS
open Go.Conc Go.Conc.Lib Go.ConcR.Gen Go.Proofs.Ytilpedopnkhppaa.Mx
open Go.ConcR (DC0)
noncomputable def snd0 : Code := (Try.f58).body.getD .skip
noncomputable def sndL : Code := match snd0 with | .seq (.seq _ (.block _ (.loop c))) _ => c | _ => .skip
noncomputable def sndT : Code := match snd0 with | .seq _ c => c | _ => .skip
theorem loudS : (Try.prog.funcs[(base 58).fn]?).any (·.norace) = false := by kernel_rfl
theorem elems_length {oa : Option Addr} {n : Nat} (hz : oa = none → n = 0) : (Grp.elems oa n).length = n := by
 cases oa with
 | none => simp [Grp.elems, hz rfl]
 | some a => simp [Grp.elems]
section
variable {s : Grp} {f : FuncId} {tL tC : TypeId} {z : Value} {Anch Post : Goroutine → World → Prop} {k : Nat} {b₀ : Frame} {a₀ : Act} {ops₀ : Array Oper} {i₀ : Nat} {rest₀ : List Nat} {k₀ : List Item} {cs : List Frame}
set_option maxRecDepth 100000 in
theorem sendLoop (oa : Option Addr) (n cp : Nat) (hz : oa = none → n = 0) (hn : n < 9223372036854775807) (hT : ∃ m, Goes Try.prog false (Rk ((s.ph f tL tC z Anch Post).KL k)) ((s.ph f tL tC z Anch Post).DR k) ((s.ph f tL tC z Anch Post).T0 k) m (G (b₀.at (a₀.put ((ops₀[i₀]?).bind (·.dst)) (.tuple #[])) (.inRegion ops₀ rest₀ :: k₀)) cs) default)
  (l : List Value) : ∀ (i : Nat) (x2 x3 x4 x5 x8 x9 x10 x11 x12 x13 x14 x15 : Value) (w : World), l = (Grp.elems oa n).drop i → i ≤ n →
   ∃ m, Goes Try.prog false (Rk ((s.ph f tL tC z Anch Post).KL k)) ((s.ph f tL tC z Anch Post).DR k) ((s.ph f tL tC z Anch Post).SStop k l) m
    (G ((base 58).at ⟨#[.chan (some (s.chan k)), .slice oa n cp, x2, x3, x4, x5, .int .i64 n, .int .i64 i, x8, x9, x10, x11, x12, x13, x14, x15], []⟩ [.code sndL, .inLoop sndL, .inBlock 0, .code sndT]) (b₀.at a₀ (.inRegion ops₀ (i₀ :: rest₀) :: k₀) :: cs)) w := by
 induction l with
 | nil =>
  intro i x2 x3 x4 x5 x8 x9 x10 x11 x12 x13 x14 x15 w hl hi
  have hin : i = n := by
   have := congrArg List.length hl
   simp [elems_length hz] at this
   omega
  subst hin
  clear hl
  obtain ⟨m, hT⟩ := hT
  refine ⟨40, ?_⟩
  simp only [sndL, sndT, snd0, Try.f58, Option.getD_some]
  have hF : True := trivial
  (u_in klr hF; rw [stepG_seq]; simp only [goes_go]; refine ⟨by ((first | refine dr_none ?_ | refine dm_none ?_); intro e he; simp at he), ?_⟩)
  (u_in klr hF; rw [stepG_region]; simp only [goes_go, List.size_toArray, List.length_cons, List.length_nil, Nat.reduceAdd, Nat.zero_add, List.range, List.range.loop]; refine ⟨by ((first | refine dr_none ?_ | refine dm_none ?_); intro e he; simp at he), ?_⟩)
  (u_in klr hF
   refine goes_oper_k rfl rfl (by k_ne) (fun K hK => ?_)
   go_simp
   refine hK _ _ ⟨?_, ?_⟩
   ·(first | refine dr_none ?_ | refine dm_none ?_)
    intro e he
    have hm := mem_listed he
    simp [go_sem, *] at hm
   clear hK K
   try w_num)
  (u_in klr hF; rw [stepG_region_end]; simp only [goes_go]; refine ⟨by ((first | refine dr_none ?_ | refine dm_none ?_); intro e he; simp at he), ?_⟩)
  (u_in klr hF; rw [stepG_seq]; simp only [goes_go]; refine ⟨by ((first | refine dr_none ?_ | refine dm_none ?_); intro e he; simp at he), ?_⟩)
  (u_in klr hF; rw [stepG_cond (t := false) (by first | rfl | (simp [Act.eval]; omega))]; simp only [goes_go, if_true, if_false, Bool.false_eq_true, ↓reduceIte]; refine ⟨by ((first | refine dr_none ?_ | refine dm_none ?_); intro e he; simp at he), ?_⟩)
  (u_in klr hF; refine goes_exit rfl ?_; refine ⟨by ((first | refine dr_none ?_ | refine dm_none ?_); intro e he; simp at he), ?_⟩)
  (u_in klr hF; rw [stepG_region]; simp only [goes_go, List.size_toArray, List.length_cons, List.length_nil, Nat.reduceAdd, Nat.zero_add, List.range, List.range.loop]; refine ⟨by ((first | refine dr_none ?_ | refine dm_none ?_); intro e he; simp at he), ?_⟩)
  (u_in klr hF
   refine goes_oper_k rfl rfl (by k_ne) (fun K hK => ?_)
   go_simp
   refine hK _ _ ⟨?_, ?_⟩
   ·(first | refine dr_none ?_ | refine dm_none ?_)
    intro e he
    have hm := mem_listed he
    simp [go_sem, *] at hm
   clear hK K
   try w_num)
  refine Goes.stop fun w₁ h₁ => ⟨rfl, by simp [mayWake, G, Frame.at], _, fun w cap buf a r hK hc => stepG_close rfl rfl (by k_ne) rfl rfl hc loudS, rfl, m + 3, ?_⟩
  clear hF
  have hF : True := trivial
  walk_nrm
  (u_in klr hF; rw [stepG_region_end]; simp only [goes_go]; refine ⟨by ((first | refine dr_none ?_ | refine dm_none ?_); intro e he; simp at he), ?_⟩)
  (u_in klr hF; rw [stepG_end]; simp only [goes_go]; refine ⟨by ((first | refine dr_none ?_ | refine dm_none ?_); intro e he; simp at he), ?_⟩)
  (u_in klr hF; refine goes_leave0 rfl rfl Try.func58 rfl ⟨by ((first | refine dr_none ?_ | refine dm_none ?_); intro e he; simp at he), ?_⟩; walk_nrm)
  exact goes_rk hT _
 | cons v l ih =>
  intro i x2 x3 x4 x5 x8 x9 x10 x11 x12 x13 x14 x15 w hl hi
  have hin : i < n := by
   have := congrArg List.length hl
   simp [elems_length hz] at this
   omega
  obtain ⟨ad, rfl⟩ : ∃ ad, oa = some ad := by
   cases oa with
   | none => have := hz rfl; omega
   | some ad => exact ⟨ad, rfl⟩
  have hv : v = .pointer (some (ad.add i)) ∧ l = (Grp.elems (some ad) n).drop (i + 1) := by
   have h0 := hl
   rw [List.drop_eq_getElem_cons (by simpa [Grp.elems] using hin)] at h0
   injection h0 with h1 h2
   refine ⟨h1.trans ?_, h2⟩
   simp [Grp.elems]
  obtain ⟨rfl, hl'⟩ := hv
  clear hl
  refine ⟨40, ?_⟩
  simp only [sndL, sndT, snd0, Try.f58, Option.getD_some]
  have hF : True := trivial
  (u_in klr hF; rw [stepG_seq]; simp only [goes_go]; refine ⟨by ((first | refine dr_none ?_ | refine dm_none ?_); intro e he; simp at he), ?_⟩)
  (u_in klr hF; rw [stepG_region]; simp only [goes_go, List.size_toArray, List.length_cons, List.length_nil, Nat.reduceAdd, Nat.zero_add, List.range, List.range.loop]; refine ⟨by ((first | refine dr_none ?_ | refine dm_none ?_); intro e he; simp at he), ?_⟩)
  (u_in klr hF
   refine goes_oper_k rfl rfl (by k_ne) (fun K hK => ?_)
   go_simp
   refine hK _ _ ⟨?_, ?_⟩
   ·(first | refine dr_none ?_ | refine dm_none ?_)
    intro e he
    have hm := mem_listed he
    simp [go_sem, *] at hm
   clear hK K
   try w_num)
  (u_in klr hF; rw [stepG_region_end]; simp only [goes_go]; refine ⟨by ((first | refine dr_none ?_ | refine dm_none ?_); intro e he; simp at he), ?_⟩)
  (u_in klr hF; rw [stepG_seq]; simp only [goes_go]; refine ⟨by ((first | refine dr_none ?_ | refine dm_none ?_); intro e he; simp at he), ?_⟩)
  (u_in klr hF; rw [stepG_cond (t := true) (by first | rfl | (simp [Act.eval]; omega))]; simp only [goes_go, if_true, if_false, Bool.false_eq_true, ↓reduceIte]; refine ⟨by ((first | refine dr_none ?_ | refine dm_none ?_); intro e he; simp at he), ?_⟩)
  (u_in klr hF; rw [stepG_skip]; simp only [goes_go]; refine ⟨by ((first | refine dr_none ?_ | refine dm_none ?_); intro e he; simp at he), ?_⟩)
  (u_in klr hF; rw [stepG_seq]; simp only [goes_go]; refine ⟨by ((first | refine dr_none ?_ | refine dm_none ?_); intro e he; simp at he), ?_⟩)
  (u_in klr hF; rw [stepG_block]; simp only [goes_go]; refine ⟨by ((first | refine dr_none ?_ | refine dm_none ?_); intro e he; simp at he), ?_⟩)
  (u_in klr hF; rw [stepG_seq]; simp only [goes_go]; refine ⟨by ((first | refine dr_none ?_ | refine dm_none ?_); intro e he; simp at he), ?_⟩)
  (u_in klr hF; rw [stepG_region]; simp only [goes_go, List.size_toArray, List.length_cons, List.length_nil, Nat.reduceAdd, Nat.zero_add, List.range, List.range.loop]; refine ⟨by ((first | refine dr_none ?_ | refine dm_none ?_); intro e he; simp at he), ?_⟩)
  iterate 2
   (u_in klr hF
    refine goes_oper_k rfl rfl (by k_ne) (fun K hK => ?_)
    go_simp
    refine hK _ _ ⟨?_, ?_⟩
    ·(first | refine dr_none ?_ | refine dm_none ?_)
     intro e he
     have hm := mem_listed he
     simp [go_sem, *] at hm
    clear hK K
    try w_num)
  (u_in klr hF; rw [stepG_region_end]; simp only [goes_go]; refine ⟨by ((first | refine dr_none ?_ | refine dm_none ?_); intro e he; simp at he), ?_⟩)
  (u_in klr hF; rw [stepG_region]; simp only [goes_go, List.size_toArray, List.length_cons, List.length_nil, Nat.reduceAdd, Nat.zero_add, List.range, List.range.loop]; refine ⟨by ((first | refine dr_none ?_ | refine dm_none ?_); intro e he; simp at he), ?_⟩)
  iterate 4
   (u_in klr hF
    refine goes_oper_k rfl rfl (by k_ne) (fun K hK => ?_)
    go_simp
    refine hK _ _ ⟨?_, ?_⟩
    ·(first | refine dr_none ?_ | refine dm_none ?_)
     intro e he
     have hm := mem_listed he
     simp [go_sem, *] at hm
    clear hK K
    try w_num)
  obtain ⟨m, hm⟩ := ih (i + 1) x2 x3 (.int .i64 i) x5 (.bool true) (.int .i64 i) (.chan (some (s.chan k))) (.slice (some ad) n cp) (.int .i64 i) (.pointer (some (ad.add i))) (.int .i64 ((i : Int) + 1)) x15 default hl' (by omega)
  have ei : ((i + 1 : Nat) : Int) = (i : Int) + 1 := by omega
  simp only [ei, sndL, sndT, snd0, Try.f58, Option.getD_some] at hm
  refine Goes.stop fun w₁ h₁ => ⟨rfl, _, _, fun w hK => stepG_sendV rfl rfl (by k_ne) rfl rfl rfl, ?_⟩
  rw [served_at]
  refine (Ph.sends_iff _ _ _ _).2 ⟨m + 7, ?_⟩
  clear hF ih
  have hF : True := trivial
  have e1 : IntKind.i64.wrap ((i : Int) + 1) = (i : Int) + 1 := by rw [IntKind.wrap_i64]; omega
  walk_nrm
  (u_in klr hF; rw [stepG_region_end]; simp only [goes_go]; refine ⟨by ((first | refine dr_none ?_ | refine dm_none ?_); intro e he; simp at he), ?_⟩)
  (u_in klr hF; rw [stepG_inBlock]; simp only [goes_go]; refine ⟨by ((first | refine dr_none ?_ | refine dm_none ?_); intro e he; simp at he), ?_⟩)
  (u_in klr hF; rw [stepG_region]; simp only [goes_go, List.size_toArray, List.length_cons, List.length_nil, Nat.reduceAdd, Nat.zero_add, List.range, List.range.loop]; refine ⟨by ((first | refine dr_none ?_ | refine dm_none ?_); intro e he; simp at he), ?_⟩)
  iterate 2
   (u_in klr hF
    refine goes_oper_k rfl rfl (by k_ne) (fun K hK => ?_)
    go_simp
    refine hK _ _ ⟨?_, ?_⟩
    ·(first | refine dr_none ?_ | refine dm_none ?_)
     intro e he
     have hm := mem_listed he
     simp [go_sem, *] at hm
    clear hK K
    try w_num)
  (u_in klr hF; rw [stepG_region_end]; simp only [goes_go]; refine ⟨by ((first | refine dr_none ?_ | refine dm_none ?_); intro e he; simp at he), ?_⟩)
  (u_in klr hF; rw [stepG_inLoop]; simp only [goes_go]; refine ⟨by ((first | refine dr_none ?_ | refine dm_none ?_); intro e he; simp at he), ?_⟩)
  exact goes_rk hm _
set_option maxRecDepth 100000 in
theorem sendWalk (oa : Option Addr) (n cp : Nat) (hz : oa = none → n = 0) (hn : n < 9223372036854775807) (hT : ∃ m, Goes Try.prog false (Rk ((s.ph f tL tC z Anch Post).KL k)) ((s.ph f tL tC z Anch Post).DR k) ((s.ph f tL tC z Anch Post).T0 k) m (G (b₀.at (a₀.put ((ops₀[i₀]?).bind (·.dst)) (.tuple #[])) (.inRegion ops₀ rest₀ :: k₀)) cs) default) (w : World) :
  ∃ m, Goes Try.prog false (Rk ((s.ph f tL tC z Anch Post).KL k)) ((s.ph f tL tC z Anch Post).DR k) ((s.ph f tL tC z Anch Post).SStop k (Grp.elems oa n)) m
   (G ((base 58).at ⟨#[.chan (some (s.chan k)), .slice oa n cp, undef, undef, undef, undef, undef, undef, undef, undef, undef, undef, undef, undef, undef, undef], []⟩ [.code snd0]) (b₀.at a₀ (.inRegion ops₀ (i₀ :: rest₀) :: k₀) :: cs)) w := by
 obtain ⟨m, hm⟩ := sendLoop oa n cp hz hn hT _ 0 undef undef undef (.slice oa n cp) undef undef undef undef undef undef undef undef default (by simp; rfl) (by omega)
 simp only [sndL, sndT, snd0, Try.f58, Option.getD_some] at hm
 refine ⟨m + 30, ?_⟩
 simp only [snd0, Try.f58, Option.getD_some]
 clear hT
 have hF : True := trivial
 iterate 2
  (u_in klr hF; rw [stepG_seq]; simp only [goes_go]; refine ⟨by ((first | refine dr_none ?_ | refine dm_none ?_); intro e he; simp at he), ?_⟩)
 (u_in klr hF; rw [stepG_region]; simp only [goes_go, List.size_toArray, List.length_cons, List.length_nil, Nat.reduceAdd, Nat.zero_add, List.range, List.range.loop]; refine ⟨by ((first | refine dr_none ?_ | refine dm_none ?_); intro e he; simp at he), ?_⟩)
 iterate 3
  (u_in klr hF
   refine goes_oper_k rfl rfl (by k_ne) (fun K hK => ?_)
   go_simp
   refine hK _ _ ⟨?_, ?_⟩
   ·(first | refine dr_none ?_ | refine dm_none ?_)
    intro e he
    have hm := mem_listed he
    simp [go_sem, *] at hm
   clear hK K
   try w_num)
 (u_in klr hF; rw [stepG_region_end]; simp only [goes_go]; refine ⟨by ((first | refine dr_none ?_ | refine dm_none ?_); intro e he; simp at he), ?_⟩)
 (u_in klr hF; rw [stepG_block]; simp only [goes_go]; refine ⟨by ((first | refine dr_none ?_ | refine dm_none ?_); intro e he; simp at he), ?_⟩)
 (u_in klr hF; rw [stepG_loop]; simp only [goes_go]; refine ⟨by ((first | refine dr_none ?_ | refine dm_none ?_); intro e he; simp at he), ?_⟩)
 exact Goes.mono (goes_rk hm _) (by omega)
end
end Go.Proofs.Ytilpedopnkhppaa.MxS

/- A sender, from its birth. Conditions: each theorem's own. -/
namespace Go.Proofs.Ytilpedopnkhppaa.MxS
open Go.Conc Go.Conc.Lib Go.ConcR.Gen Go.RowKit Go.Proofs.Ytilpedopnkhppaa.Mx
open Go.ConcR (DC0 Payload wgBlock WgAt)
theorem under_any : Try.prog.underlying 20 = some (.interface (Try.prog.methodsAt 20)) := by kernel_rfl
theorem ev_eq_nil (d : Nat) {w : World} (es : Array Event) : (Op.equalIn (d + 1) 20 .nilIface .nilIface).events Try.prog w es = es := by
 simp [Op.equalIn, run_underlying under_any]
theorem ev_neq_nil {w : World} (es : Array Event) : (binOp .neq 20 .nilIface .nilIface).events Try.prog w es = es := by
 have h : (Op.equal 20 .nilIface .nilIface).events Try.prog w es = es := ev_eq_nil 9999 es
 simp only [binOp]
 simp [h]
theorem run_neq_nil {w : World} : (binOp .neq 20 .nilIface .nilIface).run Try.prog w = .ok (.bool false) w := run_neq_nil_nil w 20 under_any
def bL : Frame := baseD 43
noncomputable def botL : Frame := { (default : Frame) with fn := Try.prog.funcs.size, defers := [], mode := .panicking [goexitEntry] }
noncomputable def bodyL : Code := (Try.f43).body.getD .skip
theorem quitsBot (T : Array Value) : QuitsD Try.prog 2 0 (G { bL.at ⟨T, []⟩ [] with mode := .returning } [botL]) := by
 refine QuitsD.ctl (g' := G botL []) rfl (fun w => ?_) ?_
 ·simp [G, stepG, unwind, doReturn, results, Frame.at, bL, baseD, botL, Try.func43, Try.f43, seen, GStep.after, goexitEntry]
 refine QuitsD.ctl (g' := { G botL [] with status := .finished }) rfl (fun w => ?_) ⟨rfl, rfl⟩
 simp [G, stepG, unwind, botL, goexitEntry, Frame.catches]
 rfl
theorem bornStep (x y : Value) (w : World) : stepG Try.prog false (born Try.prog (dlit 43 #[x, y])) w = .go (G (bL.at ⟨#[x, y, undef, undef, undef], []⟩ [.code bodyL]) [botL]) w #[] := by
 simp [born, dlit, stepG, unwind, callDeferred, invoke, callFunc, Try.func43, Try.f43, seen, GStep.after, G, Frame.enter, Frame.at, bL, baseD, botL, bodyL]
section
variable {s : Grp} {z : Value} {Anch Post : Goroutine → World → Prop} {k : Nat}
noncomputable abbrev phI (s : Grp) (z : Value) (Anch Post : Goroutine → World → Prop) : Ph := s.ph 57 53 76 z Anch Post
set_option maxRecDepth 100000 in
theorem tailWalk (hk : (phI s z Anch Post).Ok) (hkn : k < s.n) (hB : s.M + 5 * s.n ≤ s.B) (x2 x3 x4 : Value) (w : World) :
  ∃ m, Goes Try.prog false (Rk ((phI s z Anch Post).KL k)) ((phI s z Anch Post).DR k) ((phI s z Anch Post).T0 k) m (G (bL.at ⟨#[.pointer (some (s.gbox k)), .pointer (some (s.fbox k)), x2, x3, x4], [dlit 44 #[.pointer (some (s.gbox k))]]⟩ []) [botL]) w := by
 refine ⟨60, ?_⟩
 have hF : True := trivial
 (u_in klr hF; rw [stepG_end]; simp only [goes_go]; refine ⟨by ((first | refine dr_none ?_ | refine dm_none ?_); intro e he; simp at he), ?_⟩)
 (u_in klr hF; rw [(stepG_unwind_lit rfl Try.func44 (by kernel_rfl) rfl)]; simp only [goes_go]; refine ⟨by ((first | refine dr_none ?_ | refine dm_none ?_); intro e he; simp at he), ?_⟩)
 walk_nrmf Try.f44
 iterate 2
  (u_in klr hF; rw [stepG_seq]; simp only [goes_go]; refine ⟨by ((first | refine dr_none ?_ | refine dm_none ?_); intro e he; simp at he), ?_⟩)
 (u_in klr hF; rw [stepG_region]; simp only [goes_go, List.size_toArray, List.length_cons, List.length_nil, Nat.reduceAdd, Nat.zero_add, List.range, List.range.loop]; refine ⟨by ((first | refine dr_none ?_ | refine dm_none ?_); intro e he; simp at he), ?_⟩)
 (u_in klr hF; rw [(stepG_recover0 rfl rfl rfl rfl rfl)]; simp only [goes_go]; refine ⟨by ((first | refine dr_none ?_ | refine dm_none ?_); intro e he; simp at he), ?_⟩)
 walk_nrm
 (u_in klr hF
  refine goes_oper_k rfl rfl (by k_ne) (fun K hK => ?_)
  go_simp
  refine hK _ _ ⟨?_, ?_⟩
  ·(first | refine dr_none ?_ | refine dm_none ?_)
   intro e he
   have hm := mem_listed he
   simp [go_sem, *] at hm
  clear hK K
  try w_num)
 (u_in klr hF; rw [stepG_region_end]; simp only [goes_go]; refine ⟨by ((first | refine dr_none ?_ | refine dm_none ?_); intro e he; simp at he), ?_⟩)
 (u_in klr hF; rw [stepG_seq]; simp only [goes_go]; refine ⟨by ((first | refine dr_none ?_ | refine dm_none ?_); intro e he; simp at he), ?_⟩)
 (u_in klr hF; rw [stepG_region]; simp only [goes_go, List.size_toArray, List.length_cons, List.length_nil, Nat.reduceAdd, Nat.zero_add, List.range, List.range.loop]; refine ⟨by ((first | refine dr_none ?_ | refine dm_none ?_); intro e he; simp at he), ?_⟩)
 (u_in klr hF
  refine goes_oper_k rfl rfl (by k_ne) (fun K hK => ?_)
  go_simp
  refine hK _ _ ⟨?_, ?_⟩
  ·(first | refine dr_none ?_ | refine dm_none ?_)
   intro e he
   have hm := mem_listed he
   simp [go_sem, *] at hm
  clear hK K
  try w_num)
 have hne := fun w => run_neq_nil (w := w)
 have hev := fun w => ev_neq_nil (w := w)
 (u_in klr hF
  refine goes_oper_k rfl rfl (by k_ne) (fun K hK => ?_)
  go_simp
  refine hK _ _ ⟨?_, ?_⟩
  ·(first | refine dr_none ?_ | refine dm_none ?_)
   intro e he
   have hm := mem_listed he
   simp [go_sem, *] at hm
  clear hK K
  try w_num)
 (u_in klr hF; rw [stepG_region_end]; simp only [goes_go]; refine ⟨by ((first | refine dr_none ?_ | refine dm_none ?_); intro e he; simp at he), ?_⟩)
 clear hne hev
 (u_in klr hF; rw [stepG_cond (t := false) rfl]; simp only [goes_go, if_true, if_false, Bool.false_eq_true, ↓reduceIte]; refine ⟨by ((first | refine dr_none ?_ | refine dm_none ?_); intro e he; simp at he), ?_⟩)
 (u_in klr hF; rw [stepG_skip]; simp only [goes_go]; refine ⟨by ((first | refine dr_none ?_ | refine dm_none ?_); intro e he; simp at he), ?_⟩)
 (u_in klr hF; rw [stepG_region]; simp only [goes_go, List.size_toArray, List.length_cons, List.length_nil, Nat.reduceAdd, Nat.zero_add, List.range, List.range.loop]; refine ⟨by ((first | refine dr_none ?_ | refine dm_none ?_); intro e he; simp at he), ?_⟩)
 (u_in klr hF
  refine goes_oper_k rfl rfl (by k_ne) (fun K hK => ?_)
  have hld := Grp.Boxes.gc hF.1
  go_simp
  refine hK _ _ ⟨⟨rfl, fun e he => ?_⟩, ?_⟩
  ·have hm := mem_listed he
   simp [go_sem, *] at hm
   try (subst hm; exact (evK_read _ (.inr ⟨_, rfl, by simp [Grp.gbox] <;> omega, by simp [Grp.gbox] <;> omega⟩) (by simp [Grp.gbox, Grp.ph] <;> omega)))
  clear hK K hld)
 (u_in klr hF; refine goes_call rfl rfl (by k_ne) rfl Try.func45 (by kernel_rfl) rfl ⟨by ((first | refine dr_none ?_ | refine dm_none ?_); intro e he; simp at he), ?_⟩; walk_nrmf Try.f45)
 (u_in klr hF; rw [stepG_region]; simp only [goes_go, List.size_toArray, List.length_cons, List.length_nil, Nat.reduceAdd, Nat.zero_add, List.range, List.range.loop]; refine ⟨by ((first | refine dr_none ?_ | refine dm_none ?_); intro e he; simp at he), ?_⟩)
 (u_in klr hF
  refine goes_oper_k rfl rfl (by k_ne) (fun K hK => ?_)
  go_simp
  refine hK _ _ ⟨?_, ?_⟩
  ·(first | refine dr_none ?_ | refine dm_none ?_)
   intro e he
   have hm := mem_listed he
   simp [go_sem, *] at hm
  clear hK K
  try w_num)
 have hA := @addT0 s 57 53 76 z Anch Post k
 simp only [body_add, addFn, Option.getD_some, Array.replicate, List.replicate, List.append_toArray, List.cons_append, List.nil_append] at hA
 (u_in klr hF; refine goes_call rfl rfl (by k_ne) rfl wgLib.f_add (nm_add lnk) rfl ⟨by ((first | refine dr_none ?_ | refine dm_none ?_); intro e he; simp at he), ?_⟩; walk_nrmf addFn)
 refine Goes.mono (goes_rk (hA hk hkn (qt := 8) ?_) _) (by omega)
 q_c stepG_region_end
 q_c stepG_end
 q_leave0 Try.func45
 q_c stepG_region_end
 q_c stepG_end
 exact QuitsD.leaveD rfl rfl Try.func44 rfl rfl (quitsBot _)
set_option maxRecDepth 100000 in
theorem childSends (hk : (phI s z Anch Post).Ok) (hkn : k < s.n) (hB : s.M + 5 * s.n ≤ s.B) (hz : s.ad k = none → s.len k = 0) (hn : s.len k < 9223372036854775807) :
  (phI s z Anch Post).Sends k (Grp.elems (s.ad k) (s.len k)) (born Try.prog (dlit 43 #[.pointer (some (s.gbox k)), .pointer (some (s.fbox k))])) := by
 have hF : True := trivial
 obtain ⟨m, hm⟩ := sendWalk (s := s) (f := 57) (tL := 53) (tC := 76) (z := z) (Anch := Anch) (Post := Post) (k := k)
  (b₀ := base 57) (a₀ := ⟨#[.pointer (some (s.ibox k)), .pointer (some (s.lbox k)), .chan (some (s.chan k)), .slice (s.ad k) (s.len k) (s.cp k), undef], []⟩)
  (ops₀ := match (Try.f57).body with | some (.region _ ops _) => ops | _ => #[]) (i₀ := 2) (rest₀ := []) (k₀ := [])
  (cs := [bL.at ⟨#[.pointer (some (s.gbox k)), .pointer (some (s.fbox k)), .func (.func 44) #[] #[.pointer (some (s.gbox k))], s.lit 57 k, undef], [dlit 44 #[.pointer (some (s.gbox k))]]⟩
   [.inRegion (match (Try.f43).body with | some (.seq _ (.region _ ops _)) => ops | _ => #[]) [1]], botL])
  (s.ad k) (s.len k) (s.cp k) hz hn (by
   obtain ⟨m, hm⟩ := tailWalk hk hkn hB (.func (.func 44) #[] #[.pointer (some (s.gbox k))]) (s.lit 57 k) (.tuple #[]) default
   refine ⟨m + 8, ?_⟩
   simp only [Try.f57, Try.f43]
   walk_nrm
   (u_in klr hF; rw [stepG_region_end]; simp only [goes_go]; refine ⟨by ((first | refine dr_none ?_ | refine dm_none ?_); intro e he; simp at he), ?_⟩)
   (u_in klr hF; rw [stepG_end]; simp only [goes_go]; refine ⟨by ((first | refine dr_none ?_ | refine dm_none ?_); intro e he; simp at he), ?_⟩)
   (u_in klr hF; refine goes_leave0 rfl rfl Try.func57 rfl ⟨by ((first | refine dr_none ?_ | refine dm_none ?_); intro e he; simp at he), ?_⟩; walk_nrm)
   (u_in klr hF; rw [stepG_region_end]; simp only [goes_go]; refine ⟨by ((first | refine dr_none ?_ | refine dm_none ?_); intro e he; simp at he), ?_⟩)
   exact Goes.mono (goes_rk hm _) (by omega)) default
 simp only [snd0, Try.f58, Try.f57, Try.f43, Option.getD_some] at hm
 refine (Ph.sends_iff _ _ _ _).2 ⟨m + 60, ?_⟩
 show Goes Try.prog false _ _ _ _ _ _
 (u_in klr hF; rw [bornStep]; simp only [goes_go]; refine ⟨by ((first | refine dr_none ?_ | refine dm_none ?_); intro e he; simp at he), ?_⟩)
 simp only [bodyL, Try.f43, Option.getD_some]
 (u_in klr hF; rw [stepG_seq]; simp only [goes_go]; refine ⟨by ((first | refine dr_none ?_ | refine dm_none ?_); intro e he; simp at he), ?_⟩)
 (u_in klr hF; rw [stepG_region]; simp only [goes_go, List.size_toArray, List.length_cons, List.length_nil, Nat.reduceAdd, Nat.zero_add, List.range, List.range.loop]; refine ⟨by ((first | refine dr_none ?_ | refine dm_none ?_); intro e he; simp at he), ?_⟩)
 (u_in klr hF
  refine goes_oper_k rfl rfl (by k_ne) (fun K hK => ?_)
  go_simp
  refine hK _ _ ⟨?_, ?_⟩
  ·(first | refine dr_none ?_ | refine dm_none ?_)
   intro e he
   have hm := mem_listed he
   simp [go_sem, *] at hm
  clear hK K
  try w_num)
 (u_in klr hF; rw [(stepG_deferV rfl rfl (by k_ne) rfl rfl)]; simp only [goes_go]; refine ⟨by ((first | refine dr_none ?_ | refine dm_none ?_); intro e he; simp at he), ?_⟩)
 walk_nrm
 (u_in klr hF; rw [stepG_region_end]; simp only [goes_go]; refine ⟨by ((first | refine dr_none ?_ | refine dm_none ?_); intro e he; simp at he), ?_⟩)
 (u_in klr hF; rw [stepG_region]; simp only [goes_go, List.size_toArray, List.length_cons, List.length_nil, Nat.reduceAdd, Nat.zero_add, List.range, List.range.loop]; refine ⟨by ((first | refine dr_none ?_ | refine dm_none ?_); intro e he; simp at he), ?_⟩)
 (u_in klr hF
  refine goes_oper_k rfl rfl (by k_ne) (fun K hK => ?_)
  have hld := Grp.Boxes.fc hF.1
  go_simp
  refine hK _ _ ⟨⟨rfl, fun e he => ?_⟩, ?_⟩
  ·have hm := mem_listed he
   simp [go_sem, *] at hm
   try (subst hm; exact (evK_read _ (.inr ⟨_, rfl, by simp [Grp.fbox] <;> omega, by simp [Grp.fbox] <;> omega⟩) (by simp [Grp.fbox, Grp.ph] <;> omega)))
  clear hK K hld)
 (u_in klr hF; rw [(stepG_callV rfl rfl (by k_ne) rfl rfl Try.func57 (by kernel_rfl) rfl)]; simp only [goes_go]; refine ⟨by ((first | refine dr_none ?_ | refine dm_none ?_); intro e he; simp at he), ?_⟩)
 walk_nrmf Try.f57
 (u_in klr hF; rw [stepG_region]; simp only [goes_go, List.size_toArray, List.length_cons, List.length_nil, Nat.reduceAdd, Nat.zero_add, List.range, List.range.loop]; refine ⟨by ((first | refine dr_none ?_ | refine dm_none ?_); intro e he; simp at he), ?_⟩)
 (u_in klr hF
  refine goes_oper_k rfl rfl (by k_ne) (fun K hK => ?_)
  have hld := Grp.Boxes.ic hF.1
  go_simp
  refine hK _ _ ⟨⟨rfl, fun e he => ?_⟩, ?_⟩
  ·have hm := mem_listed he
   simp [go_sem, *] at hm
   try (subst hm; exact (evK_read _ (.inr ⟨_, rfl, by simp [Grp.ibox] <;> omega, by simp [Grp.ibox] <;> omega⟩) (by simp [Grp.ibox, Grp.ph] <;> omega)))
  clear hK K hld)
 (u_in klr hF
  refine goes_oper_k rfl rfl (by k_ne) (fun K hK => ?_)
  have hld := Grp.Boxes.lc hF.1
  go_simp
  refine hK _ _ ⟨⟨rfl, fun e he => ?_⟩, ?_⟩
  ·have hm := mem_listed he
   simp [go_sem, *] at hm
   try (subst hm; exact (evK_read _ (.inr ⟨_, rfl, by simp [Grp.lbox] <;> omega, by simp [Grp.lbox] <;> omega⟩) (by simp [Grp.lbox, Grp.ph] <;> omega)))
  clear hK K hld)
 (u_in klr hF; refine goes_call rfl rfl (by k_ne) rfl Try.func58 (by kernel_rfl) rfl ⟨by ((first | refine dr_none ?_ | refine dm_none ?_); intro e he; simp at he), ?_⟩; walk_nrmf Try.f58)
 exact Goes.mono (goes_rk hm _) (by omega)
end
end Go.Proofs.Ytilpedopnkhppaa.MxS

/- WaitGroup.Go, by the starter, in company. Conditions: each theorem's own. -/
namespace Go.Proofs.Ytilpedopnkhppaa.MxS
open Go.Conc Go.Conc.Lib Br Go.Proofs.Ytilpedopnkhppaa.Mx
theorem spawn_lit {P : Program} {main : Bool} {b : Frame} {a : Act} {k : List Item} {cs : List Frame} {w : World} {ops : Array Oper} {i : Nat} {rest : List Nat} {o : Oper} {x : Operand} {ats : Array TypeId} {f : FuncId} {cap : Array Value} (ho : ops[i]? = some o) (hw : Region.wanted o (yielded ops a.tmps) = true) (hk : b.kind ≠ .early)
  (hop : o.op = .go { callee := .value x, args := #[], argTypes := ats }) (hx : a.eval x = .func (.func f) #[] cap) :
  stepG P main (G (b.at a (.inRegion ops (i :: rest) :: k)) cs) w = .spawn (G (b.at (a.put o.dst undef) (.inRegion ops rest :: k)) cs) (born P (dlit f cap)) w #[] := by
 have hr : (execOp a.eval o).runT P w #[] = (.ok (.spawn (dlit f cap)) w, #[]) := by
  simp only [execOp, hop, resolve, hx, List.map_toArray, List.map_nil]
  rfl
 rw [stepG_spawn (d := dlit f cap) ho hw hk (w' := w) (by rw [← Sem.runT_fst P _ w #[], hr]) rfl]
 have he : listed P b.fn a o w = #[] := by
  unfold listed Sem.events
  rw [hr]
  exact seen_none _ _
 rw [he]
section
variable {s : Grp} {X : Sh} {z : Value} {Anch Post : Goroutine → World → Prop} {j : Nat} {Next : Goroutine → World → Prop} {cs : List Frame}
structure Rdy (s : Grp) (X : Sh) (j : Nat) (Inv : World → Prop) (w : World) : Prop where
 box : s.Boxes 57 53 76 j w
 chan : w.heap[s.chan j]? = some (.chan (min (s.len j) 64) #[] false 0 0 false)
 inv : ∃ v, Like (s.Sd X j) w v ∧ Inv v
 size : w.heap.size = s.M + 5 * j + 5
theorem Rdy.far {Inv : World → Prop} {w w₁ : World} (hWM : s.Wg < s.M) (h : (phI s z Anch Post).Far j w w₁) (r : Rdy s X j Inv w) : Rdy s X j Inv w₁ := by
 have hb : ∀ i, i < 5 → w₁.heap[s.M + 5 * j + i]? = w.heap[s.M + 5 * j + i]? := fun i hi => h.block _ (by show s.M + 5 * j + i ≠ s.Wg; omega) fun k hk => by show s.M + 5 * j + i ≠ s.M + 5 * k + 1; omega
 obtain ⟨v, hv, hi⟩ := r.inv
 exact ⟨⟨(hb 0 (by omega)).trans r.box.l, (hb 2 (by omega)).trans r.box.i, (hb 3 (by omega)).trans r.box.g, (hb 4 (by omega)).trans r.box.f⟩, (hb 1 (by omega)).trans r.chan, ⟨v, (sd_rely h hv).1, hi⟩, h.size.trans r.size⟩
theorem goTail (hk : (phI s z Anch Post).Ok) (hj : j < s.n) (hB : s.M + 5 * s.n ≤ s.B) (hWM : s.Wg < s.M) (hz : s.ad j = none → s.len j = 0) (hn : s.len j < 9223372036854775807) {Inv : World → Prop} {fv u5 : Value}
  (hnext : ∀ w, Rdy s X j Inv w → (phI s z Anch Post).Live w → Next (G ((base 32).at ⟨#[.pointer (some s.wga), fv, .pointer (some (s.gbox j)), .pointer (some (s.fbox j)), .pointer (some s.wga), u5, .func (.func 43) #[] #[.pointer (some (s.gbox j)), .pointer (some (s.fbox j))]], []⟩ [.inRegion (match (Try.f32).body with | some (.seq _ (.seq _ (.region _ ops _))) => ops | _ => #[]) []]) cs) w)
  (w : World) (hF : Rdy s X j Inv w ∧ (phI s z Anch Post).Live w) :
  Goes Try.prog true ((phI s z Anch Post).Far j) ((phI s z Anch Post).DM j) ((phI s z Anch Post).U4 j Next) 3 (G ((base 32).at ⟨#[.pointer (some s.wga), fv, .pointer (some (s.gbox j)), .pointer (some (s.fbox j)), .pointer (some s.wga), u5, undef], []⟩
   [.inRegion (match (Try.f32).body with | some (.seq _ (.seq (.region _ ops _) _)) => ops | _ => #[]) [], .code (match (Try.f32).body with | some (.seq _ (.seq _ c)) => c | _ => .skip)]) cs) w := by
 refine MG.regEnd ?_
 refine MG.reg ?_
 refine MG.pure (y := .func (.func 43) #[] #[.pointer (some (s.gbox j)), .pointer (some (s.fbox j))]) rfl rfl rfl (fun w => by
  simp only [execOp, List.getElem_toArray, List.getElem_cons_zero, List.map_toArray, List.map_cons, List.map_nil, Act.eval, Instr.makeFunc]
  rfl) ?_
 refine MG.stop fun w₁ h₁ => ?_
 have r := hF.1.far hWM h₁
 have hl := h₁.live hF.2
 refine ⟨rfl, _, _, ?_, childSends hk hj hB hz hn, r.box, r.chan, hnext w₁ r hl⟩
 exact spawn_lit (b := base 32) (a := ⟨#[.pointer (some s.wga), fv, .pointer (some (s.gbox j)), .pointer (some (s.fbox j)), .pointer (some s.wga), u5, .func (.func 43) #[] #[.pointer (some (s.gbox j)), .pointer (some (s.fbox j))]], []⟩)
  (ops := match (Try.f32).body with | some (.seq _ (.seq _ (.region _ ops _))) => ops | _ => #[]) (i := 1) (rest := []) (k := []) (x := .tmp 6) rfl rfl (by decide) rfl rfl
theorem like_same {S : Sh} {w v v' : World} (h : Like S w v) (h' : Like S w v') : v'.heap = v.heap := by
 refine Array.ext_getElem? fun b => ?_
 by_cases hb : S b
 ·rw [h.dead b hb, h'.dead b hb]
 ·rw [h.off b hb, h'.off b hb]
theorem sd_no (hWM : s.Wg < s.M) (hXM : ∀ b, X b → b < s.M) {i : Nat} : ¬ s.Sd X j (s.M + 5 * j + i) := by
 rintro (h | h | ⟨k, hk, h1, h2⟩)
 ·have := hXM _ h; omega
 ·omega
 ·omega
structure Pre (s : Grp) (j : Nat) (Inv : World → Prop) (v : World) : Prop where
 size : v.heap.size = s.M + 5 * j + 3
 l : v.heap[s.M + 5 * j]? = some (.cells #[.slice (s.ad j) (s.len j) (s.cp j)] 53)
 c : v.heap[s.M + 5 * j + 1]? = some (.chan (min (s.len j) 64) #[] false 0 0 false)
 i : v.heap[s.M + 5 * j + 2]? = some (.cells #[.chan (some (s.chan j))] 76)
 inv : Inv v
set_option maxRecDepth 100000 in
theorem goWalk (hX : ShunIn X s.Shun) (hXM : ∀ b, X b → b < s.M) (hk : (phI s z Anch Post).Ok) (hj : j < s.n) (hB : s.M + 5 * s.n ≤ s.B) (hWM : s.Wg < s.M) (hz : s.ad j = none → s.len j = 0) (hn : s.len j < 9223372036854775807)
  {Inv : World → Prop} (hI : ∀ v v' : World, (∀ b, b < s.M + 5 * j → v'.heap[b]? = v.heap[b]?) → Inv v → Inv v')
  (hnext : ∀ w u5, Rdy s X j Inv w → (phI s z Anch Post).Live w → Next (G ((base 32).at ⟨#[.pointer (some s.wga), s.lit 57 j, .pointer (some (s.gbox j)), .pointer (some (s.fbox j)), .pointer (some s.wga), u5, .func (.func 43) #[] #[.pointer (some (s.gbox j)), .pointer (some (s.fbox j))]], []⟩ [.inRegion (match (Try.f32).body with | some (.seq _ (.seq _ (.region _ ops _))) => ops | _ => #[]) []]) cs) w)
  {w v : World} (hl : Like (s.Sd X j) w v) (hp : Pre s j Inv v) (hlive : (phI s z Anch Post).Live w) {c : Code} (hc : (Try.f32).body = some c) :
  Goes Try.prog true ((phI s z Anch Post).Far j) ((phI s z Anch Post).DM j) ((phI s z Anch Post).U1 j Next) 39 (G ((base 32).at ⟨#[.pointer (some s.wga), s.lit 57 j, undef, undef, undef, undef, undef], []⟩ [.code c]) cs) w := by
 unfold Try.f32 at hc
 simp only [Option.some.injEq] at hc
 subst hc
 show MG (phI s z Anch Post) j _ (38 + 1) _ _
 refine MG.seq ?_
 refine m_region (m := 34) (R := fun t v' => t = #[.pointer (some s.wga), s.lit 57 j, .pointer (some (s.gbox j)), .pointer (some (s.fbox j)), undef, undef, undef] ∧ v'.heap = (v.heap.push (.cells #[.pointer (some s.wga)] 101)).push (.cells #[s.lit 57 j] 1))
  hX rfl (by kernel_rfl) rfl hlive hl (fun v1 h1 => ?_) (fun a' w' v' hd hi' hl' hR => ?_)
 ·have hh := like_same hl h1
  go_wp2
  refine ⟨⟨by rw [hp.size]; rfl, by rw [hp.size]; rfl⟩, ?_⟩
  rw [← hh]
  rfl
 ·obtain ⟨t', d'⟩ := a'
  have hd1 : d' = [] := hd
  subst hd1
  obtain ⟨ht, hv⟩ := hR
  have ht1 : t' = #[.pointer (some s.wga), s.lit 57 j, .pointer (some (s.gbox j)), .pointer (some (s.fbox j)), undef, undef, undef] := ht
  subst ht1
  clear ht hd
  have hsz : v.heap.size = s.M + 5 * j + 3 := hp.size
  have old : ∀ b, b < s.M + 5 * j + 3 → v'.heap[b]? = v.heap[b]? := fun b hb => by
   rw [hv, Array.getElem?_push_lt (by simp; omega), Array.getElem_push_lt (by omega)]
   simp [show b < v.heap.size by omega]
  have n3 : v'.heap[s.M + 5 * j + 3]? = some (.cells #[.pointer (some s.wga)] 101) := by
   rw [hv, ← hsz, Array.getElem?_push_lt (by simp), Array.getElem_push_eq]
  have n4 : v'.heap[s.M + 5 * j + 4]? = some (.cells #[s.lit 57 j] 1) := by
   rw [hv, show s.M + 5 * j + 4 = (v.heap.push (.cells #[.pointer (some s.wga)] 101)).size by simp; omega, Array.getElem?_push_size]
  have off : ∀ i, w'.heap[s.M + 5 * j + i]? = v'.heap[s.M + 5 * j + i]? := fun i => (hl'.off _ (sd_no hWM hXM)).symm
  have rdy : Rdy s X j Inv w' := ⟨⟨(off 0).trans ((old _ (by omega)).trans hp.l), (off 2).trans ((old _ (by omega)).trans hp.i), (off 3).trans n3, (off 4).trans n4⟩, (off 1).trans ((old _ (by omega)).trans hp.c), ⟨v', hl', hI v v' (fun b hb => old b (by omega)) hp.inv⟩, by rw [← hl'.size, hv]; simp [hsz]⟩
  show MG (phI s z Anch Post) j _ (33 + 1) _ _
  refine MG.seq ?_
  refine MG.reg ?_
  refine m_one (m := 31) (R := fun y v2 => y = .pointer (some s.wga) ∧ v2.heap = v'.heap) hX rfl rfl rfl (by kernel_rfl) hi' hl' (fun v1 h1 => ?_) (fun y w2 v2 hi2 hl2 hR => ?_)
  ·have hh := like_same hl' h1
   have hcell : v1.cell? (s.gbox j) = some (.pointer (some s.wga)) := by
    unfold World.cell? Grp.gbox
    rw [hh, n3]
    rfl
   refine ⟨.pointer (some s.wga), v1, .inl ?_, rfl, hh⟩
   simp [go_sem, execOp, Act.eval, hcell]
  ·obtain ⟨rfl, hv2⟩ := hR
   have e2 : ∀ i, w2.heap[s.M + 5 * j + i]? = w'.heap[s.M + 5 * j + i]? := fun i => by rw [← hl2.off _ (sd_no hWM hXM), hv2, hl'.off _ (sd_no hWM hXM)]
   have rdy2 : Rdy s X j Inv w2 := ⟨⟨(e2 0).trans rdy.box.l, (e2 2).trans rdy.box.i, (e2 3).trans rdy.box.g, (e2 4).trans rdy.box.f⟩, (e2 1).trans rdy.chan, ⟨v2, hl2, hI v v2 (fun b hb => by rw [hv2]; exact old b (by omega)) hp.inv⟩, by rw [← hl2.size, hv2, hl'.size]; exact rdy.size⟩
   show MG (phI s z Anch Post) j _ (30 + 1) _ _
   refine MG.call' (f := lnk.add) (vals := #[.pointer (some ⟨s.Wg, 0, none⟩), .int .i64 1]) rfl rfl rfl rfl wgLib.f_add (Go.ConcR.Gen.nm_add lnk) rfl (by simp [Act.eval, Act.put, Grp.wga]) ?_
   have hA := addPos (s := s) (f := 57) (tL := 53) (tC := 76) (z := z) (Anch := Anch) (Post := Post) (j := j) (Next := Next) (F := Rdy s X j Inv) (b₀ := base 32)
    (a₀ := ⟨#[.pointer (some s.wga), s.lit 57 j, .pointer (some (s.gbox j)), .pointer (some (s.fbox j)), .pointer (some s.wga), undef, undef], []⟩)
    (ops₀ := match (Try.f32).body with | some (.seq _ (.seq (.region _ ops _) _)) => ops | _ => #[]) (i₀ := 1) (rest₀ := []) (k₀ := [.code (match (Try.f32).body with | some (.seq _ (.seq _ c)) => c | _ => .skip)]) (cs := cs) (mT := 3)
    (by have := hk.lowWg; exact this) (fun w w₁ h r => r.far hWM h) (fun w hw => goTail hk hj hB hWM hz hn (fun w h1 h2 => hnext w _ h1 h2) w hw) w2 ⟨rdy2, hi2⟩
   exact hA
end
end Go.Proofs.Ytilpedopnkhppaa.MxS

/- A sender is started: what it has got is dead to the starter's lone walk from then on. Conditions: each theorem's own. -/
namespace Go.Proofs.Ytilpedopnkhppaa.MxS
open Go.Conc Go.Conc.Lib Br Go.Proofs.Ytilpedopnkhppaa.Mx
open Classical in
theorem like_kill {S T : Sh} {w v : World} (hos : T.os = S.os) (hout : T.out = S.out) (h : Like S w v) (hS : ∀ b, S b → T b) (hT : ∀ b, T b → S b ∨ ∃ o, w.heap[b]? = some o ∧ Solid o) :
  ∃ v', Like T w v' ∧ ∀ b, (T b → S b) → v'.heap[b]? = v.heap[b]? := by
 have hs : ∀ b, T b → ∃ o, w.heap[b]? = some o ∧ Solid o := fun b hb => (hT b hb).elim (fun h' => h.solid b h') id
 have hlt : ∀ b, T b → b < v.heap.size := fun b hb => by
  obtain ⟨o, ho, _⟩ := hs b hb
  rw [h.size]
  exact (Array.getElem?_eq_some_iff.1 ho).1
 let v' : World := { v with heap := Array.ofFn fun i : Fin v.heap.size => if T i.1 then .coro none else v.heap[i.1] }
 have e1 : ∀ b, T b → v'.heap[b]? = some (.coro none) := fun b hb => by
  have := hlt b hb
  simp [v', this, hb]
 have e2 : ∀ b, ¬ T b → v'.heap[b]? = v.heap[b]? := fun b hb => by
  rcases Nat.lt_or_ge b v.heap.size with hl | hl
  ·simp [v', hl, hb]
  ·rw [Array.getElem?_eq_none hl, Array.getElem?_eq_none (by simpa [v'] using hl)]
 refine ⟨v', ⟨by simp [v', h.size], h.os, h.out, h.osx.trans hos.symm, h.outx.trans hout.symm, fun b hb => (e2 b hb).trans (h.off b fun h' => hb (hS b h')), e1, hs⟩, fun b hb => ?_⟩
 by_cases hT' : T b
 ·rw [e1 b hT', h.dead b (hb hT')]
 ·exact e2 b hT'
section
variable {s : Grp} {X : Sh} {j : Nat} {w : World}
theorem sd_grow {Inv : World → Prop} (hI : ∀ v v' : World, (∀ b, b < s.M + 5 * j → v'.heap[b]? = v.heap[b]?) → Inv v → Inv v') (r : Rdy s X j Inv w) : ∃ v', Like (s.Sd X (j + 1)) w v' ∧ Inv v' ∧ v'.heap.size = s.M + 5 * (j + 1) := by
 obtain ⟨v, hl, hi⟩ := r.inv
 have old : ∀ b, s.SdP X j b → s.SdP X (j + 1) b := by
  rintro b (h | h | ⟨k, hk, h1⟩)
  ·exact .inl h
  ·exact .inr (.inl h)
  ·exact .inr (.inr ⟨k, by omega, h1⟩)
 have new : ∀ b, s.SdP X (j + 1) b → s.SdP X j b ∨ (s.M + 5 * j ≤ b ∧ b < s.M + 5 * j + 5) := by
  rintro b (h | h | ⟨k, hk, h1⟩)
  ·exact .inl (.inl h)
  ·exact .inl (.inr (.inl h))
  ·rcases Nat.lt_or_ge k j with hkj | hkj
   ·exact .inl (.inr (.inr ⟨k, hkj, h1⟩))
   ·obtain rfl : k = j := by omega
    exact .inr h1
 obtain ⟨v', hl', hv⟩ := like_kill (S := s.Sd X j) (T := s.Sd X (j + 1)) rfl rfl hl old fun b hb => by
  rcases new b hb with h | ⟨h1, h2⟩
  ·exact .inl h
  ·right
   obtain ⟨i, rfl⟩ : ∃ i, b = s.M + 5 * j + i := ⟨b - (s.M + 5 * j), by omega⟩
   have hi5 : i = 0 ∨ i = 1 ∨ i = 2 ∨ i = 3 ∨ i = 4 := by omega
   rcases hi5 with rfl | rfl | rfl | rfl | rfl
   ·exact ⟨_, r.box.l, .inl ⟨_, _, rfl, by simp⟩⟩
   ·exact ⟨_, r.chan, .inr ⟨_, _, _, _, _, _, rfl⟩⟩
   ·exact ⟨_, r.box.i, .inl ⟨_, _, rfl, by simp⟩⟩
   ·exact ⟨_, r.box.g, .inl ⟨_, _, rfl, by simp⟩⟩
   ·exact ⟨_, r.box.f, .inl ⟨_, _, rfl, by simp⟩⟩
 refine ⟨v', hl', hI v v' (fun b hb => hv b fun h => ?_) hi, by rw [hl'.size, r.size]; omega⟩
 rcases new b h with h' | ⟨h1, _⟩
 ·exact h'
 ·omega
end
end Go.Proofs.Ytilpedopnkhppaa.MxS

/- Blocks known whole: what a cell of one reads, what a store leaves, what a new one leaves. Conditions: none. -/
namespace Go.Proofs.Ytilpedopnkhppaa.Hp
open Go.RowKit
def Blk (w : World) (b : Nat) (c : List Value) (T : TypeId) : Prop := w.heap[b]? = some (.cells c.toArray T (0, 0))
theorem Blk.cell {w : World} {b : Nat} {c : List Value} {T : TypeId} (h : Blk w b c T) {o : Nat} {v : Value} (hv : c[o]? = some v) : w.cell? ⟨b, o, none⟩ = some v := by
 unfold Blk at h
 simp [World.cell?, h, hv]
theorem Blk.frozen {w : World} {b : Nat} {c : List Value} {T : TypeId} (h : Blk w b c T) (o : Nat) : w.frozen? ⟨b, o, none⟩ = false := by
 unfold Blk at h
 simp [World.frozen?, h]
theorem Blk.lt {w : World} {b : Nat} {c : List Value} {T : TypeId} (h : Blk w b c T) : b < w.heap.size := by
 unfold Blk at h
 rcases Nat.lt_or_ge b w.heap.size with h' | h'
 ·exact h'
 ·rw [Array.getElem?_eq_none h'] at h; cases h
theorem Blk.set {w : World} {b : Nat} {c : List Value} {T : TypeId} (h : Blk w b c T) (o : Nat) (v : Value) : Blk (w.setCell ⟨b, o, none⟩ v) b (c.set o v) T := by
 unfold Blk at h ⊢
 simp only [World.setCell, Array.getElem?_modify, ↓reduceIte, h, Option.map_some]
 simp
theorem Blk.far {w : World} {b : Nat} {c : List Value} {T : TypeId} (h : Blk w b c T) {p : Nat} (hp : p ≠ b) (o : Nat) (v : Value) : Blk (w.setCell ⟨p, o, none⟩ v) b c T := by
 unfold Blk at h ⊢
 simp only [World.setCell, Array.getElem?_modify]
 rw [if_neg (by simpa using hp)]
 exact h
theorem Blk.old {w : World} {b : Nat} {c : List Value} {T : TypeId} (h : Blk w b c T) (o : Obj) : Blk (w.alloc o) b c T := by
 have := h.lt
 unfold Blk at h ⊢
 simp only [World.alloc, Array.getElem?_push]
 rw [if_neg (by omega)]
 exact h
theorem Blk.new (w : World) (c : List Value) (T : TypeId) : Blk (w.alloc (.cells c.toArray T)) w.heap.size c T := by
 unfold Blk
 simp only [World.alloc, Array.getElem?_push, if_pos]
theorem Blk.heap {w w' : World} {b : Nat} {c : List Value} {T : TypeId} (h : Blk w b c T) (e : w'.heap[b]? = w.heap[b]?) : Blk w' b c T := by
 unfold Blk at h ⊢; rw [e]; exact h
theorem Blk.inj {w : World} {b : Nat} {c c' : List Value} {T T' : TypeId} (h : Blk w b c T) (h' : Blk w b c' T') : c = c' ∧ T = T' := by
 unfold Blk at h h'
 rw [h] at h'
 simp at h'
 exact h'
structure Kept (F : Nat → Prop) (w w' : World) : Prop where
 os : w'.os = w.os
 tape : w'.tape = w.tape
 output : w'.output = w.output
 size : w.heap.size ≤ w'.heap.size
 block : ∀ k, k < w.heap.size → ¬ F k → w'.heap[k]? = w.heap[k]?
theorem Kept.refl (F : Nat → Prop) (w : World) : Kept F w w := ⟨rfl, rfl, rfl, Nat.le_refl _, fun _ _ _ => rfl⟩
theorem Kept.trans {F : Nat → Prop} {a b c : World} (h : Kept F a b) (k : Kept F b c) : Kept F a c :=
 ⟨k.os.trans h.os, k.tape.trans h.tape, k.output.trans h.output, Nat.le_trans h.size k.size, fun i hi hF => (k.block i (Nat.lt_of_lt_of_le hi h.size) hF).trans (h.block i hi hF)⟩
theorem Kept.trans' {F G : Nat → Prop} {a b c : World} (h : Kept F a b) (k : Kept G b c) (hG : ∀ i, i < a.heap.size → G i → F i) : Kept F a c :=
 ⟨k.os.trans h.os, k.tape.trans h.tape, k.output.trans h.output, Nat.le_trans h.size k.size, fun i hi hF => (k.block i (Nat.lt_of_lt_of_le hi h.size) (fun g => hF (hG i hi g))).trans (h.block i hi hF)⟩
theorem Kept.mono {F G : Nat → Prop} {w w' : World} (h : Kept F w w') (hF : ∀ i, i < w.heap.size → F i → G i) : Kept G w w' :=
 ⟨h.os, h.tape, h.output, h.size, fun i hi hG => h.block i hi fun f => hG (hF i hi f)⟩
theorem Kept.set {F : Nat → Prop} {a w : World} (h : Kept F a w) {b : Nat} (hb : b < a.heap.size → F b) (o : Nat) (v : Value) : Kept F a (w.setCell ⟨b, o, none⟩ v) :=
 h.trans' (G := fun k => k = b) ⟨rfl, rfl, rfl, by simp, fun k _ hk => by simp only [World.setCell, Array.getElem?_modify]; rw [if_neg (fun e => hk e.symm)]⟩ (fun i hi e => e ▸ hb (e ▸ hi))
theorem Kept.alloc {F : Nat → Prop} {a w : World} (h : Kept F a w) (o : Obj) : Kept F a (w.alloc o) :=
 h.trans ⟨rfl, rfl, rfl, by simp, fun k hk _ => by simp only [World.alloc, Array.getElem?_push]; rw [if_neg (by omega)]⟩
theorem Kept.drew {F : Nat → Prop} {a w : World} (h : Kept F a w) : Kept F a w.drew := ⟨h.os, h.tape, h.output, h.size, h.block⟩
theorem Kept.blk {F : Nat → Prop} {w w' : World} (h : Kept F w w') {b : Nat} {c : List Value} {T : TypeId} (hb : Blk w b c T) (hF : ¬ F b) : Blk w' b c T := hb.heap (h.block b hb.lt hF)
theorem Blk.drew {w : World} {b : Nat} {c : List Value} {T : TypeId} (h : Blk w b c T) : Blk w.drew b c T := h
theorem Kept.one (w : World) (b o : Nat) (v : Value) : Kept (fun k => k = b) w (w.setCell ⟨b, o, none⟩ v) := (Kept.refl (fun k => k = b) w).set (b := b) (fun _ => rfl) o v
/-- An operation that may come up is taken; one whose guard is off. -/
theorem tk {P : Program} {ops : Array Oper} {Q : Exit → Act → World → Prop} {md : Region.Mode} {S : World → Prop} {fuel : Nat} {listed : Array Bool} {a : Act} {w : World} (i : Nat) (oi : Oper) {v : Value} (hi : ops[i]? = some oi) (hv : ∀ w, S w → (execOp a.eval oi).run P w = .ok (.value v) w)
  (h : wpAnyH P md ops Q S fuel (listed.setIfInBounds i true) (a.put oi.dst v) w) (hw : Region.wanted oi (yielded ops a.tmps) = true := by rfl) (hs : Region.noSelect ops = true := by kernel_rfl) (hf : Region.free md ops listed i = true := by kernel_rfl)
  (hr : (Region.ready md ops listed).contains i = true := by kernel_rfl) (hQ : ∀ c a w, Q (.panic c) (a.put oi.dst v) w → Q (.panic c) a w := by exact fun _ _ _ h => h) (hS : S w := by assumption) : wpAnyH P md ops Q S (fuel + 1) listed a w :=
 wpAnyH_take hi hs hf hr hQ (Or.inl ⟨hw, hv⟩) hS h
theorem tko {P : Program} {ops : Array Oper} {Q : Exit → Act → World → Prop} {md : Region.Mode} {S : World → Prop} {fuel : Nat} {listed : Array Bool} {a : Act} {w : World} (i : Nat) (oi : Oper) (hi : ops[i]? = some oi)
  (h : wpAnyH P md ops Q S fuel (listed.setIfInBounds i true) (a.put oi.dst undef) w) (hw : Region.wanted oi (yielded ops a.tmps) = false := by rfl) (hs : Region.noSelect ops = true := by kernel_rfl) (hf : Region.free md ops listed i = true := by kernel_rfl)
  (hr : (Region.ready md ops listed).contains i = true := by kernel_rfl) (hQ : ∀ c a w, Q (.panic c) (a.put oi.dst undef) w → Q (.panic c) a w := by exact fun _ _ _ h => h) (hS : S w := by assumption) : wpAnyH P md ops Q S (fuel + 1) listed a w :=
 wpAnyH_take hi hs hf hr hQ (Or.inr ⟨hw, rfl⟩) hS h
theorem cs9 {w : World} {b : Nat} {T : TypeId} {a0 a1 a2 a3 a4 a5 a6 a7 a8 : Value} {l : List Value} (h : Blk w b (a0 :: a1 :: a2 :: a3 :: a4 :: a5 :: a6 :: a7 :: a8 :: l) T) : w.cell? ⟨b, 0, none⟩ = some a0 ∧ w.cell? ⟨b, 1, none⟩ = some a1 ∧ w.cell? ⟨b, 2, none⟩ = some a2 ∧ w.cell? ⟨b, 3, none⟩ = some a3 ∧ w.cell? ⟨b, 4, none⟩ = some a4 ∧ w.cell? ⟨b, 5, none⟩ = some a5 ∧ w.cell? ⟨b, 6, none⟩ = some a6 ∧ w.cell? ⟨b, 7, none⟩ = some a7 ∧ w.cell? ⟨b, 8, none⟩ = some a8 := ⟨h.cell rfl, h.cell rfl, h.cell rfl, h.cell rfl, h.cell rfl, h.cell rfl, h.cell rfl, h.cell rfl, h.cell rfl⟩
theorem cs10 {w : World} {b : Nat} {T : TypeId} {a0 a1 a2 a3 a4 a5 a6 a7 a8 a9 : Value} {l : List Value} (h : Blk w b (a0 :: a1 :: a2 :: a3 :: a4 :: a5 :: a6 :: a7 :: a8 :: a9 :: l) T) : w.cell? ⟨b, 0, none⟩ = some a0 ∧ w.cell? ⟨b, 1, none⟩ = some a1 ∧ w.cell? ⟨b, 2, none⟩ = some a2 ∧ w.cell? ⟨b, 3, none⟩ = some a3 ∧ w.cell? ⟨b, 4, none⟩ = some a4 ∧ w.cell? ⟨b, 5, none⟩ = some a5 ∧ w.cell? ⟨b, 6, none⟩ = some a6 ∧ w.cell? ⟨b, 7, none⟩ = some a7 ∧ w.cell? ⟨b, 8, none⟩ = some a8 ∧ w.cell? ⟨b, 9, none⟩ = some a9 := ⟨h.cell rfl, h.cell rfl, h.cell rfl, h.cell rfl, h.cell rfl, h.cell rfl, h.cell rfl, h.cell rfl, h.cell rfl, h.cell rfl⟩
theorem cs11 {w : World} {b : Nat} {T : TypeId} {a0 a1 a2 a3 a4 a5 a6 a7 a8 a9 a10 : Value} {l : List Value} (h : Blk w b (a0 :: a1 :: a2 :: a3 :: a4 :: a5 :: a6 :: a7 :: a8 :: a9 :: a10 :: l) T) : w.cell? ⟨b, 0, none⟩ = some a0 ∧ w.cell? ⟨b, 1, none⟩ = some a1 ∧ w.cell? ⟨b, 2, none⟩ = some a2 ∧ w.cell? ⟨b, 3, none⟩ = some a3 ∧ w.cell? ⟨b, 4, none⟩ = some a4 ∧ w.cell? ⟨b, 5, none⟩ = some a5 ∧ w.cell? ⟨b, 6, none⟩ = some a6 ∧ w.cell? ⟨b, 7, none⟩ = some a7 ∧ w.cell? ⟨b, 8, none⟩ = some a8 ∧ w.cell? ⟨b, 9, none⟩ = some a9 ∧ w.cell? ⟨b, 10, none⟩ = some a10 := ⟨h.cell rfl, h.cell rfl, h.cell rfl, h.cell rfl, h.cell rfl, h.cell rfl, h.cell rfl, h.cell rfl, h.cell rfl, h.cell rfl, h.cell rfl⟩
theorem cs12 {w : World} {b : Nat} {T : TypeId} {a0 a1 a2 a3 a4 a5 a6 a7 a8 a9 a10 a11 : Value} {l : List Value} (h : Blk w b (a0 :: a1 :: a2 :: a3 :: a4 :: a5 :: a6 :: a7 :: a8 :: a9 :: a10 :: a11 :: l) T) : w.cell? ⟨b, 0, none⟩ = some a0 ∧ w.cell? ⟨b, 1, none⟩ = some a1 ∧ w.cell? ⟨b, 2, none⟩ = some a2 ∧ w.cell? ⟨b, 3, none⟩ = some a3 ∧ w.cell? ⟨b, 4, none⟩ = some a4 ∧ w.cell? ⟨b, 5, none⟩ = some a5 ∧ w.cell? ⟨b, 6, none⟩ = some a6 ∧ w.cell? ⟨b, 7, none⟩ = some a7 ∧ w.cell? ⟨b, 8, none⟩ = some a8 ∧ w.cell? ⟨b, 9, none⟩ = some a9 ∧ w.cell? ⟨b, 10, none⟩ = some a10 ∧ w.cell? ⟨b, 11, none⟩ = some a11 := ⟨h.cell rfl, h.cell rfl, h.cell rfl, h.cell rfl, h.cell rfl, h.cell rfl, h.cell rfl, h.cell rfl, h.cell rfl, h.cell rfl, h.cell rfl, h.cell rfl⟩
theorem cs13 {w : World} {b : Nat} {T : TypeId} {a0 a1 a2 a3 a4 a5 a6 a7 a8 a9 a10 a11 a12 : Value} {l : List Value} (h : Blk w b (a0 :: a1 :: a2 :: a3 :: a4 :: a5 :: a6 :: a7 :: a8 :: a9 :: a10 :: a11 :: a12 :: l) T) : w.cell? ⟨b, 0, none⟩ = some a0 ∧ w.cell? ⟨b, 1, none⟩ = some a1 ∧ w.cell? ⟨b, 2, none⟩ = some a2 ∧ w.cell? ⟨b, 3, none⟩ = some a3 ∧ w.cell? ⟨b, 4, none⟩ = some a4 ∧ w.cell? ⟨b, 5, none⟩ = some a5 ∧ w.cell? ⟨b, 6, none⟩ = some a6 ∧ w.cell? ⟨b, 7, none⟩ = some a7 ∧ w.cell? ⟨b, 8, none⟩ = some a8 ∧ w.cell? ⟨b, 9, none⟩ = some a9 ∧ w.cell? ⟨b, 10, none⟩ = some a10 ∧ w.cell? ⟨b, 11, none⟩ = some a11 ∧ w.cell? ⟨b, 12, none⟩ = some a12 := ⟨h.cell rfl, h.cell rfl, h.cell rfl, h.cell rfl, h.cell rfl, h.cell rfl, h.cell rfl, h.cell rfl, h.cell rfl, h.cell rfl, h.cell rfl, h.cell rfl, h.cell rfl⟩
theorem fz10 {w : World} {b : Nat} {T : TypeId} {c : List Value} (h : Blk w b c T) : w.frozen? ⟨b, 0, none⟩ = false ∧ w.frozen? ⟨b, 1, none⟩ = false ∧ w.frozen? ⟨b, 2, none⟩ = false ∧ w.frozen? ⟨b, 3, none⟩ = false ∧ w.frozen? ⟨b, 4, none⟩ = false ∧ w.frozen? ⟨b, 5, none⟩ = false ∧ w.frozen? ⟨b, 6, none⟩ = false ∧ w.frozen? ⟨b, 7, none⟩ = false ∧ w.frozen? ⟨b, 8, none⟩ = false ∧ w.frozen? ⟨b, 9, none⟩ = false := ⟨h.frozen 0, h.frozen 1, h.frozen 2, h.frozen 3, h.frozen 4, h.frozen 5, h.frozen 6, h.frozen 7, h.frozen 8, h.frozen 9⟩
theorem fz11 {w : World} {b : Nat} {T : TypeId} {c : List Value} (h : Blk w b c T) : w.frozen? ⟨b, 0, none⟩ = false ∧ w.frozen? ⟨b, 1, none⟩ = false ∧ w.frozen? ⟨b, 2, none⟩ = false ∧ w.frozen? ⟨b, 3, none⟩ = false ∧ w.frozen? ⟨b, 4, none⟩ = false ∧ w.frozen? ⟨b, 5, none⟩ = false ∧ w.frozen? ⟨b, 6, none⟩ = false ∧ w.frozen? ⟨b, 7, none⟩ = false ∧ w.frozen? ⟨b, 8, none⟩ = false ∧ w.frozen? ⟨b, 9, none⟩ = false ∧ w.frozen? ⟨b, 10, none⟩ = false := ⟨h.frozen 0, h.frozen 1, h.frozen 2, h.frozen 3, h.frozen 4, h.frozen 5, h.frozen 6, h.frozen 7, h.frozen 8, h.frozen 9, h.frozen 10⟩
theorem fz12 {w : World} {b : Nat} {T : TypeId} {c : List Value} (h : Blk w b c T) : w.frozen? ⟨b, 0, none⟩ = false ∧ w.frozen? ⟨b, 1, none⟩ = false ∧ w.frozen? ⟨b, 2, none⟩ = false ∧ w.frozen? ⟨b, 3, none⟩ = false ∧ w.frozen? ⟨b, 4, none⟩ = false ∧ w.frozen? ⟨b, 5, none⟩ = false ∧ w.frozen? ⟨b, 6, none⟩ = false ∧ w.frozen? ⟨b, 7, none⟩ = false ∧ w.frozen? ⟨b, 8, none⟩ = false ∧ w.frozen? ⟨b, 9, none⟩ = false ∧ w.frozen? ⟨b, 10, none⟩ = false ∧ w.frozen? ⟨b, 11, none⟩ = false := ⟨h.frozen 0, h.frozen 1, h.frozen 2, h.frozen 3, h.frozen 4, h.frozen 5, h.frozen 6, h.frozen 7, h.frozen 8, h.frozen 9, h.frozen 10, h.frozen 11⟩
theorem ppA {α : Type} (l : List α) (i : Nat) (a : α) : l.toArray.setIfInBounds i a = (l.set i a).toArray := List.setIfInBounds_toArray ..
theorem ppB {α : Type} (a b : α) (l : List α) : (a :: l).set 0 b = b :: l := rfl
theorem ppC {α : Type} (a b : α) (l : List α) (n : Nat) : (a :: l).set (n + 1) b = a :: l.set n b := rfl
end Go.Proofs.Ytilpedopnkhppaa.Hp

/- A box of ints: a channel of pointers with room; Offer, Take, Len of one goroutine that alone has it. Conditions: each theorem's own. -/
namespace Go.Proofs.Ytilpedopnkhppaa.Mo
open Go.Conc Go.RowKit Hp
abbrev ptr (b : Nat) : Value := .pointer (some ⟨b, 0, none⟩)
structure Bx (w : World) (b c room : Nat) (ps : List Nat) (vs : List Int) : Prop where
 box : Blk w b [.chan (some c)] 70
 chan : ∃ s r, w.heap[c]? = some (.chan room (ps.map ptr).toArray false s r false)
 len : ps.length = vs.length
 cells : ∀ (i : Nat) (p : Nat) (v : Int), ps[i]? = some p → vs[i]? = some v → Blk w p [.int .i64 v] 3
end Go.Proofs.Ytilpedopnkhppaa.Mo

/- Offer, Take, Len, New of boxes of ints. Conditions: each theorem's own. -/
namespace Go.Proofs.Ytilpedopnkhppaa.Mo
open Go.Conc Go.RowKit Hp
theorem setChan_other (w : World) (c c' cap : Nat) (buf : Array Value) (closed : Bool) (s r : Nat) (tm : Bool) (h : c ≠ c') : (w.setChan c cap buf closed s r tm).heap[c']? = w.heap[c']? := by
 simp [World.setChan, Array.getElem?_setIfInBounds_ne h]
theorem kept_setChan (w : World) (c cap : Nat) (buf : Array Value) (closed : Bool) (s r : Nat) (tm : Bool) : Kept (fun i => i = c) w (w.setChan c cap buf closed s r tm) :=
 ⟨rfl, rfl, rfl, by rw [size_setChan]; exact Nat.le_refl _, fun k _ hk => setChan_other _ _ _ _ _ _ _ _ _ (fun e => hk e.symm)⟩
theorem heap_old (w : World) (o : Obj) {c : Nat} (h : c < w.heap.size) : (w.alloc o).heap[c]? = w.heap[c]? := by
 simp only [World.alloc, Array.getElem?_push]
 rw [if_neg (by omega)]
end Go.Proofs.Ytilpedopnkhppaa.Mo

/- Take of a box of ints. Conditions: each theorem's own. -/
namespace Go.Proofs.Ytilpedopnkhppaa.Mo
open Go.Conc Go.RowKit Hp
end Go.Proofs.Ytilpedopnkhppaa.Mo

/- New and Len of boxes of ints. Conditions: each theorem's own. -/
namespace Go.Proofs.Ytilpedopnkhppaa.Mo
open Go.Conc Go.RowKit Hp
theorem bytesPtr : ∃ i, Try.prog.info? 72 = some i ∧ i.bytes = 8 := by
 have h : (Try.prog.info? 72).map (·.bytes) = some 8 := by kernel_rfl
 obtain ⟨i, hi, hb⟩ := Option.map_eq_some_iff.1 h
 exact ⟨i, hi, hb⟩
theorem mkBox {n : Int} (h0 : 0 ≤ n) (h1 : n ≤ 10000) (w : World) : (Instr.makeChan 68 (.int .i64 n)).run Try.prog w = .ok (.chan (some w.heap.size)) (w.alloc (.chan n.toNat #[] false 0 0 false)) := by
 obtain ⟨i, hi, hb⟩ := bytesPtr
 obtain ⟨k, rfl⟩ := Int.eq_ofNat_of_zero_le h0
 simpa using run_makeChan (P := Try.prog) (w := w) Try.underlying68 hi .i64 k (by omega) (by rw [hb]; omega)
theorem new_bad {n : Int} (h : n < 0 ∨ 10000 < n) (w : World) : Calls Try.prog 12 #[.int .i64 n] w fun e w' => e = .returned (.tuple #[.pointer none, .int .i64 1]) ∧ w = w' := by
 rcases Int.lt_or_le n 0 with h1 | h1
 ·clear h
  go_enter Try.func12, Try.ntmps12
  go_wp2
  go_ret2
  exact ⟨rfl, rfl⟩
 ·have h2 : 10000 < n := by omega
  clear h
  go_enter Try.func12, Try.ntmps12
  go_wp2
  go_ret2
  exact ⟨rfl, rfl⟩
end Go.Proofs.Ytilpedopnkhppaa.Mo

/- A box of ints: a channel of pointers with room; Offer, Take, Len of one goroutine that alone has it. Conditions: each theorem's own. -/
namespace Go.Proofs.Ytilpedopnkhppaa.MoS
open Go.Conc Go.RowKit Hp Mo
structure Bx (w : World) (b c room : Nat) (ps : List Nat) (vs : List ByteArray) : Prop where
 box : Blk w b [.chan (some c)] 78
 chan : ∃ s r, w.heap[c]? = some (.chan room (ps.map ptr).toArray false s r false)
 len : ps.length = vs.length
 cells : ∀ (i : Nat) (p : Nat) (v : ByteArray), ps[i]? = some p → vs[i]? = some v → Blk w p [.string v] 9
theorem Bx.lt {w : World} {b c room : Nat} {ps : List Nat} {vs : List ByteArray} (h : Bx w b c room ps vs) : c < w.heap.size := by
 obtain ⟨s, r, hc⟩ := h.chan
 rcases Nat.lt_or_ge c w.heap.size with h' | h'
 ·exact h'
 ·rw [Array.getElem?_eq_none h'] at hc; cases hc
theorem Bx.ne {w : World} {b c room : Nat} {ps : List Nat} {vs : List ByteArray} (h : Bx w b c room ps vs) {p : Nat} {l : List Value} {T : TypeId} (hp : Blk w p l T) : p ≠ c := by
 rintro rfl
 obtain ⟨s, r, hc⟩ := h.chan
 unfold Blk at hp
 rw [hp] at hc
 cases hc
theorem chan_box {w : World} {b c : Nat} (h : Blk w b [.chan (some c)] 78) : Calls Try.prog 31 #[ptr b] w fun e w' => e = .returned (.chan (some c)) ∧ w = w' := by
 have e1 := h.cell (o := 0) rfl
 unfold ptr
 go_enter Try.func31, Try.ntmps31
 go_wp2
 go_ret
 exact ⟨rfl, rfl⟩
end Go.Proofs.Ytilpedopnkhppaa.MoS

