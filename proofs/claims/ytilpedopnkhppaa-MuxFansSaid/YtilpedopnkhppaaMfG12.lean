/- A sender's Add(-1), ahead of the release. Conditions: each theorem's own. -/
import Derived.Test.YtilpedopnkhppaaMfG11
import Derived.WideLaws
import Derived.Conc.WgWords
set_option linter.unusedVariables false
set_option linter.unusedSimpArgs false
namespace Go.Proofs.Ytilpedopnkhppaa.Mx
open Go.Conc Go.Conc.Lib Go.ConcR.Gen Go.RowKit
open Go.ConcR (DC0 Payload wgBlock WgAt)
open Go.ConcN (WgLive)
open Go.ConcN.Gen (WgLive.cell0)
def Sil (P : Program) (K : World → Prop) (Q : Goroutine → Prop) : Nat → Goroutine → Prop
 | 0, g => Q g
 | n + 1, g => ∃ g', g.status = .running ∧ (∀ w, K w → stepG P false g w = .go g' w #[]) ∧ Sil P K Q n g'
def AtRel (P : Program) (K : World → Prop) (g : Goroutine) : Prop :=
 ∃ g1 g2 g3 g4 g5 a, (∀ w, K w → stepG P false g w = .go g1 w #[Go.ConcR.mk (.releaseMerge a)]) ∧ (∀ w, stepG P false g1 w = .go g2 w #[]) ∧ (∀ w, stepG P false g2 w = .go g3 w #[]) ∧ (∀ w, stepG P false g3 w = .go g4 w #[]) ∧ ∀ w, stepG P false g4 w = .go g5 w #[Go.ConcR.mk .disable]
theorem sil_goes {p : Ph} [Payload] {k C : Nat} {val : Value} (hb : BoxAt p k C val) (hk : p.Ok) (hkn : k < p.n) {n : Nat} : ∀ (m : Nat) (g : Goroutine), Sil p.P (p.KL k) (AtRel p.P (p.KL k)) m g → Old p k C val (n + 5 + m) g → Goes p.P false (Rk (p.KL k)) (p.DR k) (p.T0 k) m g default
 | 0, g, ⟨g1, g2, g3, g4, g5, a, h, h1, h2, h3, h4⟩, ho => old_stop hb hk hkn ho h h1 h2 h3 h4
 | m + 1, g, ⟨g', hs, h, h'⟩, ho => old_step hs h ho fun ho' => sil_goes hb hk hkn m g' h' ho'
section
variable {P : Program} {main : Bool} {b : Frame} {a : Act} {k : List Item} {cs : List Frame} {w : World} {ops : Array Oper} {i : Nat} {rest : List Nat} {o : Oper}
theorem stepG_pure {v : Value} (ho : ops[i]? = some o) (hw : Region.wanted o (yielded ops a.tmps) = true) (hk : b.kind ≠ .early) (hr : (execOp a.eval o).run P w = .ok (.value v) w) (he : (execOp a.eval o).events P w #[] = #[]) :
  stepG P main (G (b.at a (.inRegion ops (i :: rest) :: k)) cs) w = .go (G (b.at (a.put o.dst v) (.inRegion ops rest :: k)) cs) w #[] := by
 rw [stepG_value ho hw hk hr, listed_nil he]
end
section
variable {P : Program} {b : Frame} {a : Act} {k : List Item} {cs : List Frame} {ops : Array Oper} {i : Nat} {rest : List Nat} {o : Oper}
theorem sil_op {K : World → Prop} {Q : Goroutine → Prop} {n : Nat} {v : Value} (ho : ops[i]? = some o) (hw : Region.wanted o (yielded ops a.tmps) = true) (hk : b.kind ≠ .early) (hr : ∀ w, K w → (execOp a.eval o).run P w = .ok (.value v) w) (he : ∀ w, K w → (execOp a.eval o).events P w #[] = #[])
  (h : Sil P K Q n (G (b.at (a.put o.dst v) (.inRegion ops rest :: k)) cs)) : Sil P K Q (n + 1) (G (b.at a (.inRegion ops (i :: rest) :: k)) cs) :=
 ⟨_, rfl, fun w hw' => stepG_pure ho hw hk (hr w hw') (he w hw'), h⟩
end
section
variable {s : Grp} {f : FuncId} {tL tC : TypeId} {z : Value} {Anch Post : Goroutine → World → Prop} {k : Nat} {b₀ : Frame} {a₀ : Act} {ops₀ : Array Oper} {i₀ : Nat} {rest₀ : List Nat} {k₀ : List Item} {cs : List Frame}
theorem wkind_conv {w : World} (h : (s.ph f tL tC z Anch Post).KL k w) : ∃ v, w.cell? ⟨s.Wg, 0, none⟩ = some v := WgLive.cell0 h.2
set_option maxRecDepth 100000 in
set_option maxHeartbeats 4000000 in
theorem addSil : Sil Try.prog ((s.ph f tL tC z Anch Post).KL k) (AtRel Try.prog ((s.ph f tL tC z Anch Post).KL k)) 12 (G ((base lnk.add).at ⟨#[.pointer (some ⟨s.Wg, 0, none⟩), .int .i64 (-1)] ++ Array.replicate 115 undef, []⟩ [.code (body_add lnk)]) (b₀.at a₀ (.inRegion ops₀ (i₀ :: rest₀) :: k₀) :: cs)) := by
 have H := wgLib
 lib_facts
 simp only [body_add, addFn, Option.getD_some, Array.replicate, List.replicate, List.append_toArray, List.cons_append, List.nil_append]
 refine ⟨_, rfl, fun _ _ => stepG_seq, ?_⟩
 (refine ⟨_, rfl, fun _ _ => stepG_cond (t := true) rfl, ?_⟩; simp only [if_true, if_false, Bool.false_eq_true, ↓reduceIte])
 iterate 2
  refine ⟨_, rfl, fun _ _ => stepG_seq, ?_⟩
 (refine ⟨_, rfl, fun _ _ => stepG_region, ?_⟩; simp only [List.size_toArray, List.length_cons, List.length_nil, Nat.reduceAdd, Nat.zero_add, List.range, List.range.loop])
 iterate 2
  (co_applyP sil_op rfl rfl (by k_ne) (fun w hw => run_eq_of ?run) (fun w hw => ?ev) ?_
   case run =>
    intro K hK
    go_simp
    try w_num
    exact hK
   case ev => simp [go_sem, *]
   walk_nrm
   try w_num)
 refine ⟨_, rfl, fun _ _ => stepG_region_end, ?_⟩
 (refine ⟨_, rfl, fun _ _ => stepG_cond (t := true) rfl, ?_⟩; simp only [if_true, if_false, Bool.false_eq_true, ↓reduceIte])
 (refine ⟨_, rfl, fun _ _ => stepG_region, ?_⟩; simp only [List.size_toArray, List.length_cons, List.length_nil, Nat.reduceAdd, Nat.zero_add, List.range, List.range.loop])
 (co_applyP sil_op rfl rfl (by k_ne) (fun w hw => run_eq_of ?run) (fun w hw => ?ev) ?_
  case run =>
   intro K hK
   go_simp
   try w_num
   exact hK
  case ev => simp [go_sem, *]
  walk_nrm
  try w_num)
 co_applyP sil_op rfl rfl (by k_ne) (fun w hw => run_eq_of ?run) (fun w hw => ?ev) ?_
 case run =>
  intro K hK
  obtain ⟨v, hc⟩ := wkind_conv hw
  have hcv := run_convert_to_unsafe (P := Try.prog) H.underlying_tWgP H.underlying_tUP H.room_tWg hc
  go_simp
  exact hK
 case ev =>
  obtain ⟨v, hc⟩ := wkind_conv hw
  have hce := fun es => events_convert_to_unsafe (P := Try.prog) H.underlying_tWgP H.underlying_tUP H.room_tWg hc es
  simp [go_sem, hce]
 walk_nrm
 exact ⟨_, _, _, _, _, Go.ConcR.stA s.Wg, fun w _ => stepG_markAt .releaseMerge (by simp) rfl rfl (by k_ne) rfl H.f_relMerge (x_relMerge_n lnk) (x_relMerge_b lnk) (x_relMerge_x lnk) (x_relMerge_f lnk) (by simp [Act.eval, Go.ConcR.stA]),
  fun w => stepG_region_end, fun w => stepG_seq, fun w => stepG_region, fun w => by
   simp only [List.size_toArray, List.length_cons, List.length_nil, Nat.reduceAdd, Nat.zero_add, List.range, List.range.loop]
   exact stepG_mark0 .disable (by simp) rfl rfl (by k_ne) rfl H.f_disable (x_disable_n lnk) (x_disable_b lnk) (x_disable_x lnk) (x_disable_f lnk)⟩
set_option maxRecDepth 100000 in
theorem addT0 (hk : (s.ph f tL tC z Anch Post).Ok) (hkn : k < s.n) {qt : Nat} (hT : QuitsD Try.prog qt 0 (G (b₀.at (a₀.put ((ops₀[i₀]?).bind (·.dst)) (.tuple #[])) (.inRegion ops₀ rest₀ :: k₀)) cs)) :
  Goes Try.prog false (Rk ((s.ph f tL tC z Anch Post).KL k)) ((s.ph f tL tC z Anch Post).DR k) ((s.ph f tL tC z Anch Post).T0 k) 12 (G ((base lnk.add).at ⟨#[.pointer (some ⟨s.Wg, 0, none⟩), .int .i64 (-1)] ++ Array.replicate 115 undef, []⟩ [.code (body_add lnk)]) (b₀.at a₀ (.inRegion ops₀ (i₀ :: rest₀) :: k₀) :: cs)) default := by
 letI : Payload := ⟨tL⟩
 have hb : BoxAt (s.ph f tL tC z Anch Post) k (s.M + 5 * k) (.slice (s.ad k) (s.len k) (s.cp k)) := fun w hw => ⟨⟨_, hw.l, rfl⟩, cell_of hw.l⟩
 refine sil_goes (n := 3) hb hk hkn 12 _ addSil fun w hw => ?_
 simp only [Array.replicate, List.replicate, List.append_toArray, List.cons_append, List.nil_append]
 exact @Go.ConcN.Gen.addNegN _ lnk Try.prog wgLib (fun _ _ => False) (fun _ _ => False) s.Wg (s.M + 5 * k) 1 0 1 _ b₀ a₀ ops₀ i₀ rest₀ k₀ cs qt hT w ⟨hw.2, cell_of hw.1.l⟩
end
end Go.Proofs.Ytilpedopnkhppaa.Mx

/- A sender, from its birth. Conditions: each theorem's own. -/
namespace Go.Proofs.Ytilpedopnkhppaa.Mx
open Go.Conc Go.Conc.Lib Go.ConcR.Gen Go.RowKit
open Go.ConcR (DC0 Payload wgBlock WgAt)
theorem under_any : Try.prog.underlying 20 = some (.interface (Try.prog.methodsAt 20)) := by kernel_rfl
theorem ev_eq_nil (d : Nat) {w : World} (es : Array Event) : (Op.equalIn (d + 1) 20 .nilIface .nilIface).events Try.prog w es = es := by
 simp [Op.equalIn, run_underlying under_any]
theorem ev_neq_nil {w : World} (es : Array Event) : (binOp .neq 20 .nilIface .nilIface).events Try.prog w es = es := by
 have h : (Op.equal 20 .nilIface .nilIface).events Try.prog w es = es := ev_eq_nil 9999 es
 simp only [binOp]
 simp [h]
theorem run_neq_nil {w : World} : (binOp .neq 20 .nilIface .nilIface).run Try.prog w = .ok (.bool false) w := run_neq_nil_nil w 20 under_any
def bL : Frame := baseD 43
noncomputable def botL : Frame := { (default : Frame) with fn := Try.prog.funcs.size, defers := [], mode := .panicking [goexitEntry] }
noncomputable def bodyL : Code := (Try.f43).body.getD .skip
theorem quitsBot (T : Array Value) : QuitsD Try.prog 2 0 (G { bL.at ⟨T, []⟩ [] with mode := .returning } [botL]) := by
 refine QuitsD.ctl (g' := G botL []) rfl (fun w => ?_) ?_
 ·simp [G, stepG, unwind, doReturn, results, Frame.at, bL, baseD, botL, Try.func43, Try.f43, seen, GStep.after, goexitEntry]
 refine QuitsD.ctl (g' := { G botL [] with status := .finished }) rfl (fun w => ?_) ⟨rfl, rfl⟩
 simp [G, stepG, unwind, botL, goexitEntry, Frame.catches]
 rfl
theorem bornStep (x y : Value) (w : World) : stepG Try.prog false (born Try.prog (dlit 43 #[x, y])) w = .go (G (bL.at ⟨#[x, y, undef, undef, undef], []⟩ [.code bodyL]) [botL]) w #[] := by
 simp [born, dlit, stepG, unwind, callDeferred, invoke, callFunc, Try.func43, Try.f43, seen, GStep.after, G, Frame.enter, Frame.at, bL, baseD, botL, bodyL]
section
variable {s : Grp} {z : Value} {Anch Post : Goroutine → World → Prop} {k : Nat}
noncomputable abbrev phI (s : Grp) (z : Value) (Anch Post : Goroutine → World → Prop) : Ph := s.ph 33 28 68 z Anch Post
set_option maxRecDepth 100000 in
theorem tailWalk (hk : (phI s z Anch Post).Ok) (hkn : k < s.n) (hB : s.M + 5 * s.n ≤ s.B) (x2 x3 x4 : Value) (w : World) :
  ∃ m, Goes Try.prog false (Rk ((phI s z Anch Post).KL k)) ((phI s z Anch Post).DR k) ((phI s z Anch Post).T0 k) m (G (bL.at ⟨#[.pointer (some (s.gbox k)), .pointer (some (s.fbox k)), x2, x3, x4], [dlit 44 #[.pointer (some (s.gbox k))]]⟩ []) [botL]) w := by
 refine ⟨60, ?_⟩
 have hF : True := trivial
 (u_in klr hF; rw [stepG_end]; simp only [goes_go]; refine ⟨by ((first | refine dr_none ?_ | refine dm_none ?_); intro e he; simp at he), ?_⟩)
 (u_in klr hF; rw [(stepG_unwind_lit rfl Try.func44 (by kernel_rfl) rfl)]; simp only [goes_go]; refine ⟨by ((first | refine dr_none ?_ | refine dm_none ?_); intro e he; simp at he), ?_⟩)
 walk_nrmf Try.f44
 iterate 2
  (u_in klr hF; rw [stepG_seq]; simp only [goes_go]; refine ⟨by ((first | refine dr_none ?_ | refine dm_none ?_); intro e he; simp at he), ?_⟩)
 (u_in klr hF; rw [stepG_region]; simp only [goes_go, List.size_toArray, List.length_cons, List.length_nil, Nat.reduceAdd, Nat.zero_add, List.range, List.range.loop]; refine ⟨by ((first | refine dr_none ?_ | refine dm_none ?_); intro e he; simp at he), ?_⟩)
 (u_in klr hF; rw [(stepG_recover0 rfl rfl rfl rfl rfl)]; simp only [goes_go]; refine ⟨by ((first | refine dr_none ?_ | refine dm_none ?_); intro e he; simp at he), ?_⟩)
 walk_nrm
 (u_in klr hF
  refine goes_oper_k rfl rfl (by k_ne) (fun K hK => ?_)
  go_simp
  refine hK _ _ ⟨?_, ?_⟩
  ·(first | refine dr_none ?_ | refine dm_none ?_)
   intro e he
   have hm := mem_listed he
   simp [go_sem, *] at hm
  clear hK K
  try w_num)
 (u_in klr hF; rw [stepG_region_end]; simp only [goes_go]; refine ⟨by ((first | refine dr_none ?_ | refine dm_none ?_); intro e he; simp at he), ?_⟩)
 (u_in klr hF; rw [stepG_seq]; simp only [goes_go]; refine ⟨by ((first | refine dr_none ?_ | refine dm_none ?_); intro e he; simp at he), ?_⟩)
 (u_in klr hF; rw [stepG_region]; simp only [goes_go, List.size_toArray, List.length_cons, List.length_nil, Nat.reduceAdd, Nat.zero_add, List.range, List.range.loop]; refine ⟨by ((first | refine dr_none ?_ | refine dm_none ?_); intro e he; simp at he), ?_⟩)
 (u_in klr hF
  refine goes_oper_k rfl rfl (by k_ne) (fun K hK => ?_)
  go_simp
  refine hK _ _ ⟨?_, ?_⟩
  ·(first | refine dr_none ?_ | refine dm_none ?_)
   intro e he
   have hm := mem_listed he
   simp [go_sem, *] at hm
  clear hK K
  try w_num)
 have hne := fun w => run_neq_nil (w := w)
 have hev := fun w => ev_neq_nil (w := w)
 (u_in klr hF
  refine goes_oper_k rfl rfl (by k_ne) (fun K hK => ?_)
  go_simp
  refine hK _ _ ⟨?_, ?_⟩
  ·(first | refine dr_none ?_ | refine dm_none ?_)
   intro e he
   have hm := mem_listed he
   simp [go_sem, *] at hm
  clear hK K
  try w_num)
 (u_in klr hF; rw [stepG_region_end]; simp only [goes_go]; refine ⟨by ((first | refine dr_none ?_ | refine dm_none ?_); intro e he; simp at he), ?_⟩)
 clear hne hev
 (u_in klr hF; rw [stepG_cond (t := false) rfl]; simp only [goes_go, if_true, if_false, Bool.false_eq_true, ↓reduceIte]; refine ⟨by ((first | refine dr_none ?_ | refine dm_none ?_); intro e he; simp at he), ?_⟩)
 (u_in klr hF; rw [stepG_skip]; simp only [goes_go]; refine ⟨by ((first | refine dr_none ?_ | refine dm_none ?_); intro e he; simp at he), ?_⟩)
 (u_in klr hF; rw [stepG_region]; simp only [goes_go, List.size_toArray, List.length_cons, List.length_nil, Nat.reduceAdd, Nat.zero_add, List.range, List.range.loop]; refine ⟨by ((first | refine dr_none ?_ | refine dm_none ?_); intro e he; simp at he), ?_⟩)
 (u_in klr hF
  refine goes_oper_k rfl rfl (by k_ne) (fun K hK => ?_)
  have hld := Grp.Boxes.gc hF.1
  go_simp
  refine hK _ _ ⟨⟨rfl, fun e he => ?_⟩, ?_⟩
  ·have hm := mem_listed he
   simp [go_sem, *] at hm
   try (subst hm; exact (evK_read _ (.inr ⟨_, rfl, by simp [Grp.gbox] <;> omega, by simp [Grp.gbox] <;> omega⟩) (by simp [Grp.gbox, Grp.ph] <;> omega)))
  clear hK K hld)
 (u_in klr hF; refine goes_call rfl rfl (by k_ne) rfl Try.func45 (by kernel_rfl) rfl ⟨by ((first | refine dr_none ?_ | refine dm_none ?_); intro e he; simp at he), ?_⟩; walk_nrmf Try.f45)
 (u_in klr hF; rw [stepG_region]; simp only [goes_go, List.size_toArray, List.length_cons, List.length_nil, Nat.reduceAdd, Nat.zero_add, List.range, List.range.loop]; refine ⟨by ((first | refine dr_none ?_ | refine dm_none ?_); intro e he; simp at he), ?_⟩)
 (u_in klr hF
  refine goes_oper_k rfl rfl (by k_ne) (fun K hK => ?_)
  go_simp
  refine hK _ _ ⟨?_, ?_⟩
  ·(first | refine dr_none ?_ | refine dm_none ?_)
   intro e he
   have hm := mem_listed he
   simp [go_sem, *] at hm
  clear hK K
  try w_num)
 have hA := @addT0 s 33 28 68 z Anch Post k
 simp only [body_add, addFn, Option.getD_some, Array.replicate, List.replicate, List.append_toArray, List.cons_append, List.nil_append] at hA
 (u_in klr hF; refine goes_call rfl rfl (by k_ne) rfl wgLib.f_add (nm_add lnk) rfl ⟨by ((first | refine dr_none ?_ | refine dm_none ?_); intro e he; simp at he), ?_⟩; walk_nrmf addFn)
 refine Goes.mono (goes_rk (hA hk hkn (qt := 8) ?_) _) (by omega)
 q_c stepG_region_end
 q_c stepG_end
 q_leave0 Try.func45
 q_c stepG_region_end
 q_c stepG_end
 exact QuitsD.leaveD rfl rfl Try.func44 rfl rfl (quitsBot _)
set_option maxRecDepth 100000 in
theorem childSends (hk : (phI s z Anch Post).Ok) (hkn : k < s.n) (hB : s.M + 5 * s.n ≤ s.B) (hz : s.ad k = none → s.len k = 0) (hn : s.len k < 9223372036854775807) :
  (phI s z Anch Post).Sends k (Grp.elems (s.ad k) (s.len k)) (born Try.prog (dlit 43 #[.pointer (some (s.gbox k)), .pointer (some (s.fbox k))])) := by
 have hF : True := trivial
 obtain ⟨m, hm⟩ := sendWalk (s := s) (f := 33) (tL := 28) (tC := 68) (z := z) (Anch := Anch) (Post := Post) (k := k)
  (b₀ := base 33) (a₀ := ⟨#[.pointer (some (s.ibox k)), .pointer (some (s.lbox k)), .chan (some (s.chan k)), .slice (s.ad k) (s.len k) (s.cp k), undef], []⟩)
  (ops₀ := match (Try.f33).body with | some (.region _ ops _) => ops | _ => #[]) (i₀ := 2) (rest₀ := []) (k₀ := [])
  (cs := [bL.at ⟨#[.pointer (some (s.gbox k)), .pointer (some (s.fbox k)), .func (.func 44) #[] #[.pointer (some (s.gbox k))], s.lit 33 k, undef], [dlit 44 #[.pointer (some (s.gbox k))]]⟩
   [.inRegion (match (Try.f43).body with | some (.seq _ (.region _ ops _)) => ops | _ => #[]) [1]], botL])
  (s.ad k) (s.len k) (s.cp k) hz hn (by
   obtain ⟨m, hm⟩ := tailWalk hk hkn hB (.func (.func 44) #[] #[.pointer (some (s.gbox k))]) (s.lit 33 k) (.tuple #[]) default
   refine ⟨m + 8, ?_⟩
   simp only [Try.f33, Try.f43]
   walk_nrm
   (u_in klr hF; rw [stepG_region_end]; simp only [goes_go]; refine ⟨by ((first | refine dr_none ?_ | refine dm_none ?_); intro e he; simp at he), ?_⟩)
   (u_in klr hF; rw [stepG_end]; simp only [goes_go]; refine ⟨by ((first | refine dr_none ?_ | refine dm_none ?_); intro e he; simp at he), ?_⟩)
   (u_in klr hF; refine goes_leave0 rfl rfl Try.func33 rfl ⟨by ((first | refine dr_none ?_ | refine dm_none ?_); intro e he; simp at he), ?_⟩; walk_nrm)
   (u_in klr hF; rw [stepG_region_end]; simp only [goes_go]; refine ⟨by ((first | refine dr_none ?_ | refine dm_none ?_); intro e he; simp at he), ?_⟩)
   exact Goes.mono (goes_rk hm _) (by omega)) default
 simp only [snd0, Try.f34, Try.f33, Try.f43, Option.getD_some] at hm
 refine (Ph.sends_iff _ _ _ _).2 ⟨m + 60, ?_⟩
 show Goes Try.prog false _ _ _ _ _ _
 (u_in klr hF; rw [bornStep]; simp only [goes_go]; refine ⟨by ((first | refine dr_none ?_ | refine dm_none ?_); intro e he; simp at he), ?_⟩)
 simp only [bodyL, Try.f43, Option.getD_some]
 (u_in klr hF; rw [stepG_seq]; simp only [goes_go]; refine ⟨by ((first | refine dr_none ?_ | refine dm_none ?_); intro e he; simp at he), ?_⟩)
 (u_in klr hF; rw [stepG_region]; simp only [goes_go, List.size_toArray, List.length_cons, List.length_nil, Nat.reduceAdd, Nat.zero_add, List.range, List.range.loop]; refine ⟨by ((first | refine dr_none ?_ | refine dm_none ?_); intro e he; simp at he), ?_⟩)
 (u_in klr hF
  refine goes_oper_k rfl rfl (by k_ne) (fun K hK => ?_)
  go_simp
  refine hK _ _ ⟨?_, ?_⟩
  ·(first | refine dr_none ?_ | refine dm_none ?_)
   intro e he
   have hm := mem_listed he
   simp [go_sem, *] at hm
  clear hK K
  try w_num)
 (u_in klr hF; rw [(stepG_deferV rfl rfl (by k_ne) rfl rfl)]; simp only [goes_go]; refine ⟨by ((first | refine dr_none ?_ | refine dm_none ?_); intro e he; simp at he), ?_⟩)
 walk_nrm
 (u_in klr hF; rw [stepG_region_end]; simp only [goes_go]; refine ⟨by ((first | refine dr_none ?_ | refine dm_none ?_); intro e he; simp at he), ?_⟩)
 (u_in klr hF; rw [stepG_region]; simp only [goes_go, List.size_toArray, List.length_cons, List.length_nil, Nat.reduceAdd, Nat.zero_add, List.range, List.range.loop]; refine ⟨by ((first | refine dr_none ?_ | refine dm_none ?_); intro e he; simp at he), ?_⟩)
 (u_in klr hF
  refine goes_oper_k rfl rfl (by k_ne) (fun K hK => ?_)
  have hld := Grp.Boxes.fc hF.1
  go_simp
  refine hK _ _ ⟨⟨rfl, fun e he => ?_⟩, ?_⟩
  ·have hm := mem_listed he
   simp [go_sem, *] at hm
   try (subst hm; exact (evK_read _ (.inr ⟨_, rfl, by simp [Grp.fbox] <;> omega, by simp [Grp.fbox] <;> omega⟩) (by simp [Grp.fbox, Grp.ph] <;> omega)))
  clear hK K hld)
 (u_in klr hF; rw [(stepG_callV rfl rfl (by k_ne) rfl rfl Try.func33 (by kernel_rfl) rfl)]; simp only [goes_go]; refine ⟨by ((first | refine dr_none ?_ | refine dm_none ?_); intro e he; simp at he), ?_⟩)
 walk_nrmf Try.f33
 (u_in klr hF; rw [stepG_region]; simp only [goes_go, List.size_toArray, List.length_cons, List.length_nil, Nat.reduceAdd, Nat.zero_add, List.range, List.range.loop]; refine ⟨by ((first | refine dr_none ?_ | refine dm_none ?_); intro e he; simp at he), ?_⟩)
 (u_in klr hF
  refine goes_oper_k rfl rfl (by k_ne) (fun K hK => ?_)
  have hld := Grp.Boxes.ic hF.1
  go_simp
  refine hK _ _ ⟨⟨rfl, fun e he => ?_⟩, ?_⟩
  ·have hm := mem_listed he
   simp [go_sem, *] at hm
   try (subst hm; exact (evK_read _ (.inr ⟨_, rfl, by simp [Grp.ibox] <;> omega, by simp [Grp.ibox] <;> omega⟩) (by simp [Grp.ibox, Grp.ph] <;> omega)))
  clear hK K hld)
 (u_in klr hF
  refine goes_oper_k rfl rfl (by k_ne) (fun K hK => ?_)
  have hld := Grp.Boxes.lc hF.1
  go_simp
  refine hK _ _ ⟨⟨rfl, fun e he => ?_⟩, ?_⟩
  ·have hm := mem_listed he
   simp [go_sem, *] at hm
   try (subst hm; exact (evK_read _ (.inr ⟨_, rfl, by simp [Grp.lbox] <;> omega, by simp [Grp.lbox] <;> omega⟩) (by simp [Grp.lbox, Grp.ph] <;> omega)))
  clear hK K hld)
 (u_in klr hF; refine goes_call rfl rfl (by k_ne) rfl Try.func34 (by kernel_rfl) rfl ⟨by ((first | refine dr_none ?_ | refine dm_none ?_); intro e he; simp at he), ?_⟩; walk_nrmf Try.f34)
 exact Goes.mono (goes_rk hm _) (by omega)
end
end Go.Proofs.Ytilpedopnkhppaa.Mx

/- The starter's Add(1), in company: whatever the count. Conditions: each theorem's own. -/
namespace Go.Proofs.Ytilpedopnkhppaa.Mx
open Go.Conc Go.Conc.Lib Go.ConcR.Gen Go.RowKit
open Go.ConcR (KK DC0 Payload wgBlock WgAt stA smA rd wr)
open Go.ConcN.Gen (WgLive.cell0 WgLive.cell1)
open Go.ConcN (st_flag st_waiters)
theorem evM_said {p : Ph} {j : Nat} (a : Addr) (hW : a.block = p.Wg) (hB : p.Wg < p.B) : p.EvM j ⟨.mark (.read a), false, true⟩ := by
 refine ⟨⟨fun y hy => ?_, ?_, ?_⟩, by simp, by simp⟩
 ·simp only [MemAct.ofEvent, MemAct.touch?, Option.some.injEq] at hy
  subst hy
  exact ⟨fun _ => by simp, fun h => by simp at h⟩
 ·show a.block < p.B
  omega
 ·simp [MemAct.ofEvent]
theorem evM_saidW {p : Ph} {j : Nat} (a : Addr) (hW : a.block = p.Wg) (hB : p.Wg < p.B) (hR : ∀ k, k < j → ¬ p.Rd k (.cell a)) : p.EvM j ⟨.mark (.write a), false, true⟩ := by
 refine ⟨⟨fun y hy => ?_, ?_, ?_⟩, by simp, by simp⟩
 ·simp only [MemAct.ofEvent, MemAct.touch?, Option.some.injEq] at hy
  subst hy
  exact ⟨fun _ => by simp, fun _ => hR⟩
 ·show a.block < p.B
  omega
 ·simp [MemAct.ofEvent]
theorem dm_ev {p : Ph} {j : Nat} {w : World} {e : Event} (h : p.EvM j e) : p.DM j w w #[e] := ⟨rfl, fun _ _ => rfl, fun _ _ h => h, fun e' he => by rw [Array.mem_singleton] at he; subst he; exact ⟨h.1.up bd_b, h.2⟩, Nat.le_refl _⟩
section
variable {s : Grp} {f : FuncId} {tL tC : TypeId} {z : Value} {Anch Post : Goroutine → World → Prop} {j : Nat} {Next : Goroutine → World → Prop} {F : World → Prop}
 {b₀ : Frame} {a₀ : Act} {ops₀ : Array Oper} {i₀ : Nat} {rest₀ : List Nat} {k₀ : List Item} {cs : List Frame} {mT : Nat}
theorem live0 {w : World} (h : (s.ph f tL tC z Anch Post).Live w) : ∃ v, w.cell? ⟨s.Wg, 0, none⟩ = some v := WgLive.cell0 h
theorem live1 {w : World} (h : (s.ph f tL tC z Anch Post).Live w) : ∃ v, w.cell? ⟨s.Wg, 1, none⟩ = some v := WgLive.cell1 h
set_option maxRecDepth 100000 in
set_option maxHeartbeats 8000000 in
theorem addPos (hWB : s.Wg < s.B) (hF2 : ∀ w w₁, (s.ph f tL tC z Anch Post).Far j w w₁ → F w → F w₁)
  (hT : ∀ w, F w ∧ (s.ph f tL tC z Anch Post).Live w → Goes Try.prog true ((s.ph f tL tC z Anch Post).Far j) ((s.ph f tL tC z Anch Post).DM j) ((s.ph f tL tC z Anch Post).U4 j Next) mT (G (b₀.at (a₀.put ((ops₀[i₀]?).bind (·.dst)) (.tuple #[])) (.inRegion ops₀ rest₀ :: k₀)) cs) w)
  (w : World) (hF : F w ∧ (s.ph f tL tC z Anch Post).Live w) :
  Goes Try.prog true ((s.ph f tL tC z Anch Post).Far j) ((s.ph f tL tC z Anch Post).DM j) ((s.ph f tL tC z Anch Post).U1 j Next) 30
   (G ((base lnk.add).at ⟨#[.pointer (some ⟨s.Wg, 0, none⟩), .int .i64 1] ++ Array.replicate 115 undef, []⟩ [.code (body_add lnk)]) (b₀.at a₀ (.inRegion ops₀ (i₀ :: rest₀) :: k₀) :: cs)) w := by
 have H := wgLib
 lib_facts
 simp only [body_add, addFn, Option.getD_some, Array.replicate, List.replicate, List.append_toArray, List.cons_append, List.nil_append]
 (u_in (far_rely hF2) hF; rw [stepG_seq]; simp only [goes_go]; refine ⟨by ((first | refine dr_none ?_ | refine dm_none ?_); intro e he; simp at he), ?_⟩)
 (u_in (far_rely hF2) hF; rw [stepG_cond (t := true) rfl]; simp only [goes_go, if_true, if_false, Bool.false_eq_true, ↓reduceIte]; refine ⟨by ((first | refine dr_none ?_ | refine dm_none ?_); intro e he; simp at he), ?_⟩)
 iterate 2
  (u_in (far_rely hF2) hF; rw [stepG_seq]; simp only [goes_go]; refine ⟨by ((first | refine dr_none ?_ | refine dm_none ?_); intro e he; simp at he), ?_⟩)
 (u_in (far_rely hF2) hF; rw [stepG_region]; simp only [goes_go, List.size_toArray, List.length_cons, List.length_nil, Nat.reduceAdd, Nat.zero_add, List.range, List.range.loop]; refine ⟨by ((first | refine dr_none ?_ | refine dm_none ?_); intro e he; simp at he), ?_⟩)
 iterate 2
  (u_in (far_rely hF2) hF
   refine goes_oper_k rfl rfl (by k_ne) (fun K hK => ?_)
   go_simp
   refine hK _ _ ⟨?_, ?_⟩
   ·(first | refine dr_none ?_ | refine dm_none ?_)
    intro e he
    have hm := mem_listed he
    simp [go_sem, *] at hm
   clear hK K
   try w_num)
 (u_in (far_rely hF2) hF; rw [stepG_region_end]; simp only [goes_go]; refine ⟨by ((first | refine dr_none ?_ | refine dm_none ?_); intro e he; simp at he), ?_⟩)
 (u_in (far_rely hF2) hF; rw [stepG_cond (t := false) rfl]; simp only [goes_go, if_true, if_false, Bool.false_eq_true, ↓reduceIte]; refine ⟨by ((first | refine dr_none ?_ | refine dm_none ?_); intro e he; simp at he), ?_⟩)
 (u_in (far_rely hF2) hF; rw [stepG_skip]; simp only [goes_go]; refine ⟨by ((first | refine dr_none ?_ | refine dm_none ?_); intro e he; simp at he), ?_⟩)
 (u_in (far_rely hF2) hF; rw [stepG_seq]; simp only [goes_go]; refine ⟨by ((first | refine dr_none ?_ | refine dm_none ?_); intro e he; simp at he), ?_⟩)
 (u_in (far_rely hF2) hF; rw [stepG_region]; simp only [goes_go, List.size_toArray, List.length_cons, List.length_nil, Nat.reduceAdd, Nat.zero_add, List.range, List.range.loop]; refine ⟨by ((first | refine dr_none ?_ | refine dm_none ?_); intro e he; simp at he), ?_⟩)
 refine Goes.stop (fun w₁ h₁ => ?_)
 replace hF := far_rely hF2 hF h₁
 clear h₁
 refine ⟨rfl, _, stepG_mark0 .disable (by simp) rfl rfl (by k_ne) rfl H.f_disable (x_disable_n lnk) (x_disable_b lnk) (x_disable_x lnk) (x_disable_f lnk), 60, ?_⟩
 show Goes Try.prog true _ _ _ _ _ _
 walk_nrm
 (u_in (far_rely hF2) hF; rw [stepG_region_end]; simp only [goes_go]; refine ⟨by ((first | refine dr_none ?_ | refine dm_none ?_); intro e he; simp at he), ?_⟩)
 (u_in (far_rely hF2) hF; rw [stepG_region]; simp only [goes_go, List.size_toArray, List.length_cons, List.length_nil, Nat.reduceAdd, Nat.zero_add, List.range, List.range.loop]; refine ⟨by ((first | refine dr_none ?_ | refine dm_none ?_); intro e he; simp at he), ?_⟩)
 (u_in (far_rely hF2) hF; rw [stepG_defer rfl rfl (by k_ne) rfl]; simp only [goes_go]; refine ⟨by ((first | refine dr_none ?_ | refine dm_none ?_); intro e he; simp at he), ?_⟩; walk_nrm)
 (u_in (far_rely hF2) hF; rw [stepG_region_end]; simp only [goes_go]; refine ⟨by ((first | refine dr_none ?_ | refine dm_none ?_); intro e he; simp at he), ?_⟩)
 (u_in (far_rely hF2) hF; rw [stepG_seq]; simp only [goes_go]; refine ⟨by ((first | refine dr_none ?_ | refine dm_none ?_); intro e he; simp at he), ?_⟩)
 (u_in (far_rely hF2) hF; rw [stepG_region]; simp only [goes_go, List.size_toArray, List.length_cons, List.length_nil, Nat.reduceAdd, Nat.zero_add, List.range, List.range.loop]; refine ⟨by ((first | refine dr_none ?_ | refine dm_none ?_); intro e he; simp at he), ?_⟩)
 (u_in (far_rely hF2) hF
  refine goes_oper_k rfl rfl (by k_ne) (fun K hK => ?_)
  go_simp
  refine hK _ _ ⟨?_, ?_⟩
  ·(first | refine dr_none ?_ | refine dm_none ?_)
   intro e he
   have hm := mem_listed he
   simp [go_sem, *] at hm
  clear hK K
  try w_num)
 (u_in (far_rely hF2) hF; rw [stepG_region_end]; simp only [goes_go]; refine ⟨by ((first | refine dr_none ?_ | refine dm_none ?_); intro e he; simp at he), ?_⟩)
 iterate 2
  (u_in (far_rely hF2) hF; rw [stepG_seq]; simp only [goes_go]; refine ⟨by ((first | refine dr_none ?_ | refine dm_none ?_); intro e he; simp at he), ?_⟩)
 (u_in (far_rely hF2) hF; rw [stepG_region]; simp only [goes_go, List.size_toArray, List.length_cons, List.length_nil, Nat.reduceAdd, Nat.zero_add, List.range, List.range.loop]; refine ⟨by ((first | refine dr_none ?_ | refine dm_none ?_); intro e he; simp at he), ?_⟩)
 u_in (far_rely hF2) hF
 rw [stepG_entry_pure (.bool false) rfl rfl (by k_ne) rfl H.f_inBubble (x_inBubble_n lnk) (x_inBubble_b lnk) (x_inBubble_x lnk) (x_inBubble_f lnk)]
 simp only [goes_go]
 refine ⟨by (first | refine dr_none ?_ | refine dm_none ?_); intro e he; simp at he, ?_⟩
 walk_nrm
 (u_in (far_rely hF2) hF; rw [stepG_region_end]; simp only [goes_go]; refine ⟨by ((first | refine dr_none ?_ | refine dm_none ?_); intro e he; simp at he), ?_⟩)
 (u_in (far_rely hF2) hF; rw [stepG_cond (t := false) rfl]; simp only [goes_go, if_true, if_false, Bool.false_eq_true, ↓reduceIte]; refine ⟨by ((first | refine dr_none ?_ | refine dm_none ?_); intro e he; simp at he), ?_⟩)
 (u_in (far_rely hF2) hF; rw [stepG_skip]; simp only [goes_go]; refine ⟨by ((first | refine dr_none ?_ | refine dm_none ?_); intro e he; simp at he), ?_⟩)
 (u_in (far_rely hF2) hF; rw [stepG_seq]; simp only [goes_go]; refine ⟨by ((first | refine dr_none ?_ | refine dm_none ?_); intro e he; simp at he), ?_⟩)
 (u_in (far_rely hF2) hF; rw [stepG_region]; simp only [goes_go, List.size_toArray, List.length_cons, List.length_nil, Nat.reduceAdd, Nat.zero_add, List.range, List.range.loop]; refine ⟨by ((first | refine dr_none ?_ | refine dm_none ?_); intro e he; simp at he), ?_⟩)
 iterate 6
  (u_in (far_rely hF2) hF
   refine goes_oper_k rfl rfl (by k_ne) (fun K hK => ?_)
   go_simp
   refine hK _ _ ⟨?_, ?_⟩
   ·(first | refine dr_none ?_ | refine dm_none ?_)
    intro e he
    have hm := mem_listed he
    simp [go_sem, *] at hm
   clear hK K
   try w_num)
 (u_in (far_rely hF2) hF; refine goes_call rfl rfl (by k_ne) rfl H.f_uAdd (nm_uAdd lnk) rfl ⟨by ((first | refine dr_none ?_ | refine dm_none ?_); intro e he; simp at he), ?_⟩; walk_nrmf uAddFn)
 (u_in (far_rely hF2) hF; rw [stepG_seq]; simp only [goes_go]; refine ⟨by ((first | refine dr_none ?_ | refine dm_none ?_); intro e he; simp at he), ?_⟩)
 (u_in (far_rely hF2) hF; rw [stepG_region]; simp only [goes_go, List.size_toArray, List.length_cons, List.length_nil, Nat.reduceAdd, Nat.zero_add, List.range, List.range.loop]; refine ⟨by ((first | refine dr_none ?_ | refine dm_none ?_); intro e he; simp at he), ?_⟩)
 (u_in (far_rely hF2) hF
  refine goes_oper_k rfl rfl (by k_ne) (fun K hK => ?_)
  go_simp
  refine hK _ _ ⟨?_, ?_⟩
  ·(first | refine dr_none ?_ | refine dm_none ?_)
   intro e he
   have hm := mem_listed he
   simp [go_sem, *] at hm
  clear hK K
  try w_num)
 (u_in (far_rely hF2) hF; rw [stepG_region_end]; simp only [goes_go]; refine ⟨by ((first | refine dr_none ?_ | refine dm_none ?_); intro e he; simp at he), ?_⟩)
 (u_in (far_rely hF2) hF; rw [stepG_seq]; simp only [goes_go]; refine ⟨by ((first | refine dr_none ?_ | refine dm_none ?_); intro e he; simp at he), ?_⟩)
 (u_in (far_rely hF2) hF; rw [stepG_region]; simp only [goes_go, List.size_toArray, List.length_cons, List.length_nil, Nat.reduceAdd, Nat.zero_add, List.range, List.range.loop]; refine ⟨by ((first | refine dr_none ?_ | refine dm_none ?_); intro e he; simp at he), ?_⟩)
 iterate 4
  (u_in (far_rely hF2) hF
   refine goes_oper_k rfl rfl (by k_ne) (fun K hK => ?_)
   go_simp
   refine hK _ _ ⟨?_, ?_⟩
   ·(first | refine dr_none ?_ | refine dm_none ?_)
    intro e he
    have hm := mem_listed he
    simp [go_sem, *] at hm
   clear hK K
   try w_num)
 refine Goes.stop (fun w₂ h₂ => ?_)
 replace hF := far_rely hF2 hF h₂
 clear h₂
 refine ⟨rfl, fun v hv hw => ?_⟩
 replace hw : WgAt lnk.tWg s.Wg w₂ ((v : Int) * KK) 0 := hw
 rcases Nat.eq_zero_or_pos v with rfl | hvp
 ·replace hw : WgAt lnk.tWg s.Wg w₂ 0 0 := by simpa using hw
  have z0 : (((0 : Nat) : Int) + 1) * KK = KK := by simp
  rw [z0]
  have e0 : IntKind.u64.wrap (0 + 4294967296) = KK := by decide
  refine ⟨_, (stepG_add_atomic rfl rfl (by k_ne) rfl H.f_addU64 (x_addU64_n lnk) (x_addU64_b lnk) (x_addU64_x lnk) .u64 (x_addU64_f lnk) rfl rfl hw.cellSt (hw.thaw 0)).trans (by rw [e0]; rfl), 130, ?_⟩
  show Goes Try.prog true _ _ _ _ _ _
  have hwn : WgAt lnk.tWg s.Wg (w₂.setCell ⟨s.Wg, 0, none⟩ (.int .u64 KK)) KK 0 := hw.setSt _
  replace hF := far_rely hF2 hF (Far.setWg (p := s.ph f tL tC z Anch Post) hw hwn)
  clear hw hwn
  simp only [KK] at hF ⊢
  walk_nrm
  (u_in (far_rely hF2) hF
   refine goes_oper_k rfl rfl (by k_ne) (fun K hK => ?_)
   go_simp
   refine hK _ _ ⟨?_, ?_⟩
   ·(first | refine dr_none ?_ | refine dm_none ?_)
    intro e he
    have hm := mem_listed he
    simp [go_sem, *] at hm
   clear hK K
   try w_num)
  (u_in (far_rely hF2) hF; rw [stepG_region_end]; simp only [goes_go]; refine ⟨by ((first | refine dr_none ?_ | refine dm_none ?_); intro e he; simp at he), ?_⟩)
  (u_in (far_rely hF2) hF; rw [stepG_ret']; simp only [goes_go]; refine ⟨by ((first | refine dr_none ?_ | refine dm_none ?_); intro e he; simp at he), ?_⟩)
  (u_in (far_rely hF2) hF; refine goes_leave1 rfl rfl H.f_uAdd rfl ⟨by ((first | refine dr_none ?_ | refine dm_none ?_); intro e he; simp at he), ?_⟩; walk_nrm)
  (u_in (far_rely hF2) hF
   refine goes_oper_k rfl rfl (by k_ne) (fun K hK => ?_)
   go_simp
   refine hK _ _ ⟨?_, ?_⟩
   ·(first | refine dr_none ?_ | refine dm_none ?_)
    intro e he
    have hm := mem_listed he
    simp [go_sem, *] at hm
   clear hK K
   try w_num)
  (u_in (far_rely hF2) hF; rw [stepG_region_end]; simp only [goes_go]; refine ⟨by ((first | refine dr_none ?_ | refine dm_none ?_); intro e he; simp at he), ?_⟩)
  iterate 2
   (u_in (far_rely hF2) hF; rw [stepG_seq]; simp only [goes_go]; refine ⟨by ((first | refine dr_none ?_ | refine dm_none ?_); intro e he; simp at he), ?_⟩)
  (u_in (far_rely hF2) hF; rw [stepG_region]; simp only [goes_go, List.size_toArray, List.length_cons, List.length_nil, Nat.reduceAdd, Nat.zero_add, List.range, List.range.loop]; refine ⟨by ((first | refine dr_none ?_ | refine dm_none ?_); intro e he; simp at he), ?_⟩)
  iterate 4
   (u_in (far_rely hF2) hF
    refine goes_oper_k rfl rfl (by k_ne) (fun K hK => ?_)
    go_simp
    refine hK _ _ ⟨?_, ?_⟩
    ·(first | refine dr_none ?_ | refine dm_none ?_)
     intro e he
     have hm := mem_listed he
     simp [go_sem, *] at hm
    clear hK K
    try w_num)
  iterate 2
   (u_in (far_rely hF2) hF; rw [stepG_unwanted rfl rfl]; simp only [goes_go]; refine ⟨by ((first | refine dr_none ?_ | refine dm_none ?_); intro e he; simp at he), ?_⟩; walk_nrm)
  (u_in (far_rely hF2) hF
   refine goes_oper_k rfl rfl (by k_ne) (fun K hK => ?_)
   go_simp
   refine hK _ _ ⟨?_, ?_⟩
   ·(first | refine dr_none ?_ | refine dm_none ?_)
    intro e he
    have hm := mem_listed he
    simp [go_sem, *] at hm
   clear hK K
   try w_num)
  (u_in (far_rely hF2) hF; rw [stepG_region_end]; simp only [goes_go]; refine ⟨by ((first | refine dr_none ?_ | refine dm_none ?_); intro e he; simp at he), ?_⟩)
  (u_in (far_rely hF2) hF; rw [stepG_cond (t := false) (by first | rfl | (simp [Act.eval]; omega))]; simp only [goes_go, if_true, if_false, Bool.false_eq_true, ↓reduceIte]; refine ⟨by ((first | refine dr_none ?_ | refine dm_none ?_); intro e he; simp at he), ?_⟩)
  (u_in (far_rely hF2) hF; rw [stepG_skip]; simp only [goes_go]; refine ⟨by ((first | refine dr_none ?_ | refine dm_none ?_); intro e he; simp at he), ?_⟩)
  iterate 2
   (u_in (far_rely hF2) hF; rw [stepG_seq]; simp only [goes_go]; refine ⟨by ((first | refine dr_none ?_ | refine dm_none ?_); intro e he; simp at he), ?_⟩)
   (u_in (far_rely hF2) hF; rw [stepG_region]; simp only [goes_go, List.size_toArray, List.length_cons, List.length_nil, Nat.reduceAdd, Nat.zero_add, List.range, List.range.loop]; refine ⟨by ((first | refine dr_none ?_ | refine dm_none ?_); intro e he; simp at he), ?_⟩)
   iterate 4
    (u_in (far_rely hF2) hF
     refine goes_oper_k rfl rfl (by k_ne) (fun K hK => ?_)
     go_simp
     refine hK _ _ ⟨?_, ?_⟩
     ·(first | refine dr_none ?_ | refine dm_none ?_)
      intro e he
      have hm := mem_listed he
      simp [go_sem, *] at hm
     clear hK K
     try w_num)
   (u_in (far_rely hF2) hF; rw [stepG_region_end]; simp only [goes_go]; refine ⟨by ((first | refine dr_none ?_ | refine dm_none ?_); intro e he; simp at he), ?_⟩)
  iterate 2
   (u_in (far_rely hF2) hF; rw [stepG_seq]; simp only [goes_go]; refine ⟨by ((first | refine dr_none ?_ | refine dm_none ?_); intro e he; simp at he), ?_⟩)
  (u_in (far_rely hF2) hF; rw [stepG_region]; simp only [goes_go, List.size_toArray, List.length_cons, List.length_nil, Nat.reduceAdd, Nat.zero_add, List.range, List.range.loop]; refine ⟨by ((first | refine dr_none ?_ | refine dm_none ?_); intro e he; simp at he), ?_⟩)
  iterate 10
   (u_in (far_rely hF2) hF
    refine goes_oper_k rfl rfl (by k_ne) (fun K hK => ?_)
    go_simp
    refine hK _ _ ⟨?_, ?_⟩
    ·(first | refine dr_none ?_ | refine dm_none ?_)
     intro e he
     have hm := mem_listed he
     simp [go_sem, *] at hm
    clear hK K
    try w_num)
  (u_in (far_rely hF2) hF; rw [stepG_region_end]; simp only [goes_go]; refine ⟨by ((first | refine dr_none ?_ | refine dm_none ?_); intro e he; simp at he), ?_⟩)
  (u_in (far_rely hF2) hF; rw [stepG_cond (t := true) (by first | rfl | (simp [Act.eval]; omega))]; simp only [goes_go, if_true, if_false, Bool.false_eq_true, ↓reduceIte]; refine ⟨by ((first | refine dr_none ?_ | refine dm_none ?_); intro e he; simp at he), ?_⟩)
  (u_in (far_rely hF2) hF; rw [stepG_region]; simp only [goes_go, List.size_toArray, List.length_cons, List.length_nil, Nat.reduceAdd, Nat.zero_add, List.range, List.range.loop]; refine ⟨by ((first | refine dr_none ?_ | refine dm_none ?_); intro e he; simp at he), ?_⟩)
  iterate 3
   (u_in (far_rely hF2) hF
    refine goes_oper_k rfl rfl (by k_ne) (fun K hK => ?_)
    go_simp
    refine hK _ _ ⟨?_, ?_⟩
    ·(first | refine dr_none ?_ | refine dm_none ?_)
     intro e he
     have hm := mem_listed he
     simp [go_sem, *] at hm
    clear hK K
    try w_num)
  (u_in (far_rely hF2) hF
   refine goes_oper_k rfl rfl (by k_ne) (fun Kx hKx => ?_)
   have hcv := run_convert_to_unsafe (P := Try.prog) wgLib.underlying_tPU32 wgLib.underlying_tUP wgLib.room_tU32 (live1 hF.2).choose_spec
   have hce := fun es => events_convert_to_unsafe (P := Try.prog) wgLib.underlying_tPU32 wgLib.underlying_tUP wgLib.room_tU32 (live1 hF.2).choose_spec es
   go_simp
   refine hKx _ _ ⟨?_, ?_⟩
   ·(first | refine dr_none ?_ | refine dm_none ?_)
    intro ex hex
    have hmx := mem_listed hex
    simp [go_sem, hce] at hmx
   clear hKx Kx hcv hce)
  u_in (far_rely hF2) hF
  rw [stepG_markAt .read (by simp) rfl rfl (by k_ne) rfl H.f_raceRead (x_raceRead_n lnk) (x_raceRead_b lnk) (x_raceRead_x lnk) (x_raceRead_f lnk) (ad := ⟨s.Wg, 1, none⟩) (by simp [Act.eval])]
  simp only [goes_go]
  refine ⟨dm_ev (evM_said _ rfl hWB), ?_⟩
  walk_nrm
  (u_in (far_rely hF2) hF; rw [stepG_region_end]; simp only [goes_go]; refine ⟨by ((first | refine dr_none ?_ | refine dm_none ?_); intro e he; simp at he), ?_⟩)
  iterate 2
   (u_in (far_rely hF2) hF; rw [stepG_seq]; simp only [goes_go]; refine ⟨by ((first | refine dr_none ?_ | refine dm_none ?_); intro e he; simp at he), ?_⟩)
  (u_in (far_rely hF2) hF; rw [stepG_region]; simp only [goes_go, List.size_toArray, List.length_cons, List.length_nil, Nat.reduceAdd, Nat.zero_add, List.range, List.range.loop]; refine ⟨by ((first | refine dr_none ?_ | refine dm_none ?_); intro e he; simp at he), ?_⟩)
  iterate 2
   (u_in (far_rely hF2) hF
    refine goes_oper_k rfl rfl (by k_ne) (fun K hK => ?_)
    go_simp
    refine hK _ _ ⟨?_, ?_⟩
    ·(first | refine dr_none ?_ | refine dm_none ?_)
     intro e he
     have hm := mem_listed he
     simp [go_sem, *] at hm
    clear hK K
    try w_num)
  (u_in (far_rely hF2) hF; rw [stepG_region_end]; simp only [goes_go]; refine ⟨by ((first | refine dr_none ?_ | refine dm_none ?_); intro e he; simp at he), ?_⟩)
  (u_in (far_rely hF2) hF; rw [stepG_cond (t := false) (by first | rfl | (simp [Act.eval]; omega))]; simp only [goes_go, if_true, if_false, Bool.false_eq_true, ↓reduceIte]; refine ⟨by ((first | refine dr_none ?_ | refine dm_none ?_); intro e he; simp at he), ?_⟩)
  (u_in (far_rely hF2) hF; rw [stepG_skip]; simp only [goes_go]; refine ⟨by ((first | refine dr_none ?_ | refine dm_none ?_); intro e he; simp at he), ?_⟩)
  iterate 2
   (u_in (far_rely hF2) hF; rw [stepG_seq]; simp only [goes_go]; refine ⟨by ((first | refine dr_none ?_ | refine dm_none ?_); intro e he; simp at he), ?_⟩)
  (u_in (far_rely hF2) hF; rw [stepG_region]; simp only [goes_go, List.size_toArray, List.length_cons, List.length_nil, Nat.reduceAdd, Nat.zero_add, List.range, List.range.loop]; refine ⟨by ((first | refine dr_none ?_ | refine dm_none ?_); intro e he; simp at he), ?_⟩)
  iterate 3
   (u_in (far_rely hF2) hF
    refine goes_oper_k rfl rfl (by k_ne) (fun K hK => ?_)
    go_simp
    refine hK _ _ ⟨?_, ?_⟩
    ·(first | refine dr_none ?_ | refine dm_none ?_)
     intro e he
     have hm := mem_listed he
     simp [go_sem, *] at hm
    clear hK K
    try w_num)
  iterate 2
   (u_in (far_rely hF2) hF; rw [stepG_unwanted rfl rfl]; simp only [goes_go]; refine ⟨by ((first | refine dr_none ?_ | refine dm_none ?_); intro e he; simp at he), ?_⟩; walk_nrm)
  iterate 2
   (u_in (far_rely hF2) hF
    refine goes_oper_k rfl rfl (by k_ne) (fun K hK => ?_)
    go_simp
    refine hK _ _ ⟨?_, ?_⟩
    ·(first | refine dr_none ?_ | refine dm_none ?_)
     intro e he
     have hm := mem_listed he
     simp [go_sem, *] at hm
    clear hK K
    try w_num)
  iterate 4
   (u_in (far_rely hF2) hF; rw [stepG_unwanted rfl rfl]; simp only [goes_go]; refine ⟨by ((first | refine dr_none ?_ | refine dm_none ?_); intro e he; simp at he), ?_⟩; walk_nrm)
  (u_in (far_rely hF2) hF
   refine goes_oper_k rfl rfl (by k_ne) (fun K hK => ?_)
   go_simp
   refine hK _ _ ⟨?_, ?_⟩
   ·(first | refine dr_none ?_ | refine dm_none ?_)
    intro e he
    have hm := mem_listed he
    simp [go_sem, *] at hm
   clear hK K
   try w_num)
  (u_in (far_rely hF2) hF; rw [stepG_region_end]; simp only [goes_go]; refine ⟨by ((first | refine dr_none ?_ | refine dm_none ?_); intro e he; simp at he), ?_⟩)
  (u_in (far_rely hF2) hF; rw [stepG_cond (t := false) (by first | rfl | (simp [Act.eval]; omega))]; simp only [goes_go, if_true, if_false, Bool.false_eq_true, ↓reduceIte]; refine ⟨by ((first | refine dr_none ?_ | refine dm_none ?_); intro e he; simp at he), ?_⟩)
  (u_in (far_rely hF2) hF; rw [stepG_skip]; simp only [goes_go]; refine ⟨by ((first | refine dr_none ?_ | refine dm_none ?_); intro e he; simp at he), ?_⟩)
  iterate 2
   (u_in (far_rely hF2) hF; rw [stepG_seq]; simp only [goes_go]; refine ⟨by ((first | refine dr_none ?_ | refine dm_none ?_); intro e he; simp at he), ?_⟩)
  (u_in (far_rely hF2) hF; rw [stepG_region]; simp only [goes_go, List.size_toArray, List.length_cons, List.length_nil, Nat.reduceAdd, Nat.zero_add, List.range, List.range.loop]; refine ⟨by ((first | refine dr_none ?_ | refine dm_none ?_); intro e he; simp at he), ?_⟩)
  iterate 3
   (u_in (far_rely hF2) hF
    refine goes_oper_k rfl rfl (by k_ne) (fun K hK => ?_)
    go_simp
    refine hK _ _ ⟨?_, ?_⟩
    ·(first | refine dr_none ?_ | refine dm_none ?_)
     intro e he
     have hm := mem_listed he
     simp [go_sem, *] at hm
    clear hK K
    try w_num)
  iterate 2
   (u_in (far_rely hF2) hF; rw [stepG_unwanted rfl rfl]; simp only [goes_go]; refine ⟨by ((first | refine dr_none ?_ | refine dm_none ?_); intro e he; simp at he), ?_⟩; walk_nrm)
  (u_in (far_rely hF2) hF
   refine goes_oper_k rfl rfl (by k_ne) (fun K hK => ?_)
   go_simp
   refine hK _ _ ⟨?_, ?_⟩
   ·(first | refine dr_none ?_ | refine dm_none ?_)
    intro e he
    have hm := mem_listed he
    simp [go_sem, *] at hm
   clear hK K
   try w_num)
  (u_in (far_rely hF2) hF; rw [stepG_region_end]; simp only [goes_go]; refine ⟨by ((first | refine dr_none ?_ | refine dm_none ?_); intro e he; simp at he), ?_⟩)
  (u_in (far_rely hF2) hF; rw [stepG_cond (t := true) (by first | rfl | (simp [Act.eval]; omega))]; simp only [goes_go, if_true, if_false, Bool.false_eq_true, ↓reduceIte]; refine ⟨by ((first | refine dr_none ?_ | refine dm_none ?_); intro e he; simp at he), ?_⟩)
  (u_in (far_rely hF2) hF; rw [stepG_ret']; simp only [goes_go]; refine ⟨by ((first | refine dr_none ?_ | refine dm_none ?_); intro e he; simp at he), ?_⟩)
  refine Goes.stop (fun w₃ h₃ => ?_)
  replace hF := far_rely hF2 hF h₃
  clear h₃
  refine ⟨rfl, _, stepG_unwind_entry (v := .tuple #[]) (evs := #[Go.ConcR.mk .enable]) rfl H.f_enable (x_enable_n lnk) (x_enable_b lnk) (x_enable_x lnk) (x_enable_f lnk) (by simp [Extern.Race.none_]) (by simp [Go.ConcR.mk]) (by simp [Go.ConcR.mk]), mT + 1, ?_⟩
  show Goes Try.prog true _ _ _ _ _ _
  (u_in (far_rely hF2) hF; refine goes_leave0 rfl rfl H.f_add rfl ⟨by ((first | refine dr_none ?_ | refine dm_none ?_); intro e he; simp at he), ?_⟩; walk_nrm)
  exact hT _ hF
 ·obtain ⟨V, hV⟩ : ∃ V : Int, V = (v : Int) + 1 := ⟨_, rfl⟩
  obtain ⟨S, hS⟩ : ∃ S : Int, S = V * KK := ⟨_, rfl⟩
  have eS : IntKind.u64.wrap ((v : Int) * KK + 4294967296) = S := by rw [IntKind.wrap_u64, hS, hV]; simp only [KK]; omega
  have a1 : S / 4294967296 = V := by rw [hS]; simp only [KK]; omega
  have b1 : bits .and .u64 S 2147483648 = 0 := by rw [hS, hV]; have := st_flag (v + 1) 0 (by omega) (by omega); simpa [KK] using this
  have b2 : bits .and .u64 S 2147483647 = 0 := by rw [hS, hV]; have := st_waiters (v + 1) 0 (by omega) (by omega); simpa [KK] using this
  have c1 : IntKind.i32.wrap V = V := by rw [IntKind.wrap_i32]; omega
  have hV1 : 1 < V := by omega
  have q1 : (V == 1) = false := by simp; omega
  have q2 : decide (V = 1) = false := decide_eq_false (by omega)
  have q3 : decide (V < 0) = false := decide_eq_false (by omega)
  have q4 : decide (0 < V) = true := decide_eq_true (by omega)
  have q5 : (V == 0) = false := by simp; omega
  have q6 : decide (V = 0) = false := decide_eq_false (by omega)
  rw [← hV, ← hS]
  refine ⟨_, (stepG_add_atomic rfl rfl (by k_ne) rfl H.f_addU64 (x_addU64_n lnk) (x_addU64_b lnk) (x_addU64_x lnk) .u64 (x_addU64_f lnk) rfl rfl hw.cellSt (hw.thaw 0)).trans (by rw [eS]; rfl), 130, ?_⟩
  show Goes Try.prog true _ _ _ _ _ _
  have hwn : WgAt lnk.tWg s.Wg (w₂.setCell ⟨s.Wg, 0, none⟩ (.int .u64 S)) S 0 := hw.setSt _
  replace hF := far_rely hF2 hF (Far.setWg (p := s.ph f tL tC z Anch Post) hw hwn)
  clear hw hwn hS hV eS
  walk_nrm
  (u_in (far_rely hF2) hF
   refine goes_oper_k rfl rfl (by k_ne) (fun K hK => ?_)
   go_simp
   refine hK _ _ ⟨?_, ?_⟩
   ·(first | refine dr_none ?_ | refine dm_none ?_)
    intro e he
    have hm := mem_listed he
    simp [go_sem, *] at hm
   clear hK K
   try w_num)
  (u_in (far_rely hF2) hF; rw [stepG_region_end]; simp only [goes_go]; refine ⟨by ((first | refine dr_none ?_ | refine dm_none ?_); intro e he; simp at he), ?_⟩)
  (u_in (far_rely hF2) hF; rw [stepG_ret']; simp only [goes_go]; refine ⟨by ((first | refine dr_none ?_ | refine dm_none ?_); intro e he; simp at he), ?_⟩)
  (u_in (far_rely hF2) hF; refine goes_leave1 rfl rfl H.f_uAdd rfl ⟨by ((first | refine dr_none ?_ | refine dm_none ?_); intro e he; simp at he), ?_⟩; walk_nrm)
  (u_in (far_rely hF2) hF
   refine goes_oper_k rfl rfl (by k_ne) (fun K hK => ?_)
   go_simp
   refine hK _ _ ⟨?_, ?_⟩
   ·(first | refine dr_none ?_ | refine dm_none ?_)
    intro e he
    have hm := mem_listed he
    simp [go_sem, *] at hm
   clear hK K
   try w_num)
  (u_in (far_rely hF2) hF; rw [stepG_region_end]; simp only [goes_go]; refine ⟨by ((first | refine dr_none ?_ | refine dm_none ?_); intro e he; simp at he), ?_⟩)
  iterate 2
   (u_in (far_rely hF2) hF; rw [stepG_seq]; simp only [goes_go]; refine ⟨by ((first | refine dr_none ?_ | refine dm_none ?_); intro e he; simp at he), ?_⟩)
  (u_in (far_rely hF2) hF; rw [stepG_region]; simp only [goes_go, List.size_toArray, List.length_cons, List.length_nil, Nat.reduceAdd, Nat.zero_add, List.range, List.range.loop]; refine ⟨by ((first | refine dr_none ?_ | refine dm_none ?_); intro e he; simp at he), ?_⟩)
  iterate 4
   (u_in (far_rely hF2) hF
    refine goes_oper_k rfl rfl (by k_ne) (fun K hK => ?_)
    go_simp
    refine hK _ _ ⟨?_, ?_⟩
    ·(first | refine dr_none ?_ | refine dm_none ?_)
     intro e he
     have hm := mem_listed he
     simp [go_sem, *] at hm
    clear hK K
    try w_num)
  iterate 2
   (u_in (far_rely hF2) hF; rw [stepG_unwanted rfl rfl]; simp only [goes_go]; refine ⟨by ((first | refine dr_none ?_ | refine dm_none ?_); intro e he; simp at he), ?_⟩; walk_nrm)
  (u_in (far_rely hF2) hF
   refine goes_oper_k rfl rfl (by k_ne) (fun K hK => ?_)
   go_simp
   refine hK _ _ ⟨?_, ?_⟩
   ·(first | refine dr_none ?_ | refine dm_none ?_)
    intro e he
    have hm := mem_listed he
    simp [go_sem, *] at hm
   clear hK K
   try w_num)
  (u_in (far_rely hF2) hF; rw [stepG_region_end]; simp only [goes_go]; refine ⟨by ((first | refine dr_none ?_ | refine dm_none ?_); intro e he; simp at he), ?_⟩)
  (u_in (far_rely hF2) hF; rw [stepG_cond (t := false) (by first | rfl | (simp [Act.eval]; omega))]; simp only [goes_go, if_true, if_false, Bool.false_eq_true, ↓reduceIte]; refine ⟨by ((first | refine dr_none ?_ | refine dm_none ?_); intro e he; simp at he), ?_⟩)
  (u_in (far_rely hF2) hF; rw [stepG_skip]; simp only [goes_go]; refine ⟨by ((first | refine dr_none ?_ | refine dm_none ?_); intro e he; simp at he), ?_⟩)
  iterate 2
   (u_in (far_rely hF2) hF; rw [stepG_seq]; simp only [goes_go]; refine ⟨by ((first | refine dr_none ?_ | refine dm_none ?_); intro e he; simp at he), ?_⟩)
   (u_in (far_rely hF2) hF; rw [stepG_region]; simp only [goes_go, List.size_toArray, List.length_cons, List.length_nil, Nat.reduceAdd, Nat.zero_add, List.range, List.range.loop]; refine ⟨by ((first | refine dr_none ?_ | refine dm_none ?_); intro e he; simp at he), ?_⟩)
   iterate 4
    (u_in (far_rely hF2) hF
     refine goes_oper_k rfl rfl (by k_ne) (fun K hK => ?_)
     go_simp
     refine hK _ _ ⟨?_, ?_⟩
     ·(first | refine dr_none ?_ | refine dm_none ?_)
      intro e he
      have hm := mem_listed he
      simp [go_sem, *] at hm
     clear hK K
     try w_num)
   (u_in (far_rely hF2) hF; rw [stepG_region_end]; simp only [goes_go]; refine ⟨by ((first | refine dr_none ?_ | refine dm_none ?_); intro e he; simp at he), ?_⟩)
  iterate 2
   (u_in (far_rely hF2) hF; rw [stepG_seq]; simp only [goes_go]; refine ⟨by ((first | refine dr_none ?_ | refine dm_none ?_); intro e he; simp at he), ?_⟩)
  (u_in (far_rely hF2) hF; rw [stepG_region]; simp only [goes_go, List.size_toArray, List.length_cons, List.length_nil, Nat.reduceAdd, Nat.zero_add, List.range, List.range.loop]; refine ⟨by ((first | refine dr_none ?_ | refine dm_none ?_); intro e he; simp at he), ?_⟩)
  iterate 10
   (u_in (far_rely hF2) hF
    refine goes_oper_k rfl rfl (by k_ne) (fun K hK => ?_)
    go_simp
    refine hK _ _ ⟨?_, ?_⟩
    ·(first | refine dr_none ?_ | refine dm_none ?_)
     intro e he
     have hm := mem_listed he
     simp [go_sem, *] at hm
    clear hK K
    try w_num)
  iterate 2
   (u_in (far_rely hF2) hF; rw [stepG_region_end]; simp only [goes_go]; refine ⟨by ((first | refine dr_none ?_ | refine dm_none ?_); intro e he; simp at he), ?_⟩)
   (u_in (far_rely hF2) hF; rw [stepG_cond (t := false) (by first | rfl | (simp [Act.eval]; omega))]; simp only [goes_go, if_true, if_false, Bool.false_eq_true, ↓reduceIte]; refine ⟨by ((first | refine dr_none ?_ | refine dm_none ?_); intro e he; simp at he), ?_⟩)
   (u_in (far_rely hF2) hF; rw [stepG_skip]; simp only [goes_go]; refine ⟨by ((first | refine dr_none ?_ | refine dm_none ?_); intro e he; simp at he), ?_⟩)
   iterate 2
    (u_in (far_rely hF2) hF; rw [stepG_seq]; simp only [goes_go]; refine ⟨by ((first | refine dr_none ?_ | refine dm_none ?_); intro e he; simp at he), ?_⟩)
   (u_in (far_rely hF2) hF; rw [stepG_region]; simp only [goes_go, List.size_toArray, List.length_cons, List.length_nil, Nat.reduceAdd, Nat.zero_add, List.range, List.range.loop]; refine ⟨by ((first | refine dr_none ?_ | refine dm_none ?_); intro e he; simp at he), ?_⟩)
   iterate 2
    (u_in (far_rely hF2) hF
     refine goes_oper_k rfl rfl (by k_ne) (fun K hK => ?_)
     go_simp
     refine hK _ _ ⟨?_, ?_⟩
     ·(first | refine dr_none ?_ | refine dm_none ?_)
      intro e he
      have hm := mem_listed he
      simp [go_sem, *] at hm
     clear hK K
     try w_num)
  (u_in (far_rely hF2) hF
   refine goes_oper_k rfl rfl (by k_ne) (fun K hK => ?_)
   go_simp
   refine hK _ _ ⟨?_, ?_⟩
   ·(first | refine dr_none ?_ | refine dm_none ?_)
    intro e he
    have hm := mem_listed he
    simp [go_sem, *] at hm
   clear hK K
   try w_num)
  iterate 2
   (u_in (far_rely hF2) hF; rw [stepG_unwanted rfl rfl]; simp only [goes_go]; refine ⟨by ((first | refine dr_none ?_ | refine dm_none ?_); intro e he; simp at he), ?_⟩; walk_nrm)
  iterate 2
   (u_in (far_rely hF2) hF
    refine goes_oper_k rfl rfl (by k_ne) (fun K hK => ?_)
    go_simp
    refine hK _ _ ⟨?_, ?_⟩
    ·(first | refine dr_none ?_ | refine dm_none ?_)
     intro e he
     have hm := mem_listed he
     simp [go_sem, *] at hm
    clear hK K
    try w_num)
  iterate 4
   (u_in (far_rely hF2) hF; rw [stepG_unwanted rfl rfl]; simp only [goes_go]; refine ⟨by ((first | refine dr_none ?_ | refine dm_none ?_); intro e he; simp at he), ?_⟩; walk_nrm)
  (u_in (far_rely hF2) hF
   refine goes_oper_k rfl rfl (by k_ne) (fun K hK => ?_)
   go_simp
   refine hK _ _ ⟨?_, ?_⟩
   ·(first | refine dr_none ?_ | refine dm_none ?_)
    intro e he
    have hm := mem_listed he
    simp [go_sem, *] at hm
   clear hK K
   try w_num)
  (u_in (far_rely hF2) hF; rw [stepG_region_end]; simp only [goes_go]; refine ⟨by ((first | refine dr_none ?_ | refine dm_none ?_); intro e he; simp at he), ?_⟩)
  (u_in (far_rely hF2) hF; rw [stepG_cond (t := false) (by first | rfl | (simp [Act.eval]; omega))]; simp only [goes_go, if_true, if_false, Bool.false_eq_true, ↓reduceIte]; refine ⟨by ((first | refine dr_none ?_ | refine dm_none ?_); intro e he; simp at he), ?_⟩)
  (u_in (far_rely hF2) hF; rw [stepG_skip]; simp only [goes_go]; refine ⟨by ((first | refine dr_none ?_ | refine dm_none ?_); intro e he; simp at he), ?_⟩)
  iterate 2
   (u_in (far_rely hF2) hF; rw [stepG_seq]; simp only [goes_go]; refine ⟨by ((first | refine dr_none ?_ | refine dm_none ?_); intro e he; simp at he), ?_⟩)
  (u_in (far_rely hF2) hF; rw [stepG_region]; simp only [goes_go, List.size_toArray, List.length_cons, List.length_nil, Nat.reduceAdd, Nat.zero_add, List.range, List.range.loop]; refine ⟨by ((first | refine dr_none ?_ | refine dm_none ?_); intro e he; simp at he), ?_⟩)
  iterate 3
   (u_in (far_rely hF2) hF
    refine goes_oper_k rfl rfl (by k_ne) (fun K hK => ?_)
    go_simp
    refine hK _ _ ⟨?_, ?_⟩
    ·(first | refine dr_none ?_ | refine dm_none ?_)
     intro e he
     have hm := mem_listed he
     simp [go_sem, *] at hm
    clear hK K
    try w_num)
  iterate 2
   (u_in (far_rely hF2) hF; rw [stepG_unwanted rfl rfl]; simp only [goes_go]; refine ⟨by ((first | refine dr_none ?_ | refine dm_none ?_); intro e he; simp at he), ?_⟩; walk_nrm)
  (u_in (far_rely hF2) hF
   refine goes_oper_k rfl rfl (by k_ne) (fun K hK => ?_)
   go_simp
   refine hK _ _ ⟨?_, ?_⟩
   ·(first | refine dr_none ?_ | refine dm_none ?_)
    intro e he
    have hm := mem_listed he
    simp [go_sem, *] at hm
   clear hK K
   try w_num)
  (u_in (far_rely hF2) hF; rw [stepG_region_end]; simp only [goes_go]; refine ⟨by ((first | refine dr_none ?_ | refine dm_none ?_); intro e he; simp at he), ?_⟩)
  (u_in (far_rely hF2) hF; rw [stepG_cond (t := true) (by first | rfl | (simp [Act.eval]; omega))]; simp only [goes_go, if_true, if_false, Bool.false_eq_true, ↓reduceIte]; refine ⟨by ((first | refine dr_none ?_ | refine dm_none ?_); intro e he; simp at he), ?_⟩)
  (u_in (far_rely hF2) hF; rw [stepG_ret']; simp only [goes_go]; refine ⟨by ((first | refine dr_none ?_ | refine dm_none ?_); intro e he; simp at he), ?_⟩)
  refine Goes.stop (fun w₃ h₃ => ?_)
  replace hF := far_rely hF2 hF h₃
  clear h₃
  refine ⟨rfl, _, stepG_unwind_entry (v := .tuple #[]) (evs := #[Go.ConcR.mk .enable]) rfl H.f_enable (x_enable_n lnk) (x_enable_b lnk) (x_enable_x lnk) (x_enable_f lnk) (by simp [Extern.Race.none_]) (by simp [Go.ConcR.mk]) (by simp [Go.ConcR.mk]), mT + 1, ?_⟩
  show Goes Try.prog true _ _ _ _ _ _
  (u_in (far_rely hF2) hF; refine goes_leave0 rfl rfl H.f_add rfl ⟨by ((first | refine dr_none ?_ | refine dm_none ?_); intro e he; simp at he), ?_⟩; walk_nrm)
  exact hT _ hF
end
end Go.Proofs.Ytilpedopnkhppaa.Mx

