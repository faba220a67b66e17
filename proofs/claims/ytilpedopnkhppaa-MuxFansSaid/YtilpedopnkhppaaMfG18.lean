/- Wait, by the starter, in company: from its entry to behind its acquire. Conditions: each theorem's own. -/
import Derived.Test.YtilpedopnkhppaaMfG12
import Derived.Test.YtilpedopnkhppaaMfG17
import Derived.Test.YtilpedopnkhppaaMfG10
set_option linter.unusedVariables false
set_option linter.unusedSimpArgs false
namespace Go.Proofs.Ytilpedopnkhppaa.Mx
open Go.Conc Go.Conc.Lib Go.ConcR.Gen Go.RowKit
open Go.ConcR (KK DC0 Payload wgBlock WgAt stA smA rd wr)
open Go.ConcN.Gen (WgLive.cell0 WgLive.cell1)
open Go.ConcN (st_flag st_waiters)
def DS (w w' : World) (es : Array Event) : Prop := w' = w ∧ ∀ e ∈ es, False
def RT (_ _ : World) : Prop := True
theorem ds_none {w : World} {es : Array Event} (h : ∀ e ∈ es, False) : DS w w es := ⟨rfl, h⟩
theorem rt_on {α : Prop} {w w₁ : World} (h : α) (_ : RT w w₁) : α := h
def Slips (g g' : Goroutine) : Prop := ∃ m, Goes Try.prog true RT DS (fun h _ => h = g') m g default
def AnchW (wg : Nat) (F : World → Prop) (c : Frame) (cs : List Frame) (g : Goroutine) (w : World) : Prop :=
 ∃ T : Array Value, g = G ((base lnk.wait).at ⟨T, []⟩ [.code (L7 lnk), .inLoop (L7 lnk), .inBlock 0]) (c :: cs) ∧ T.size = 84 ∧ T[0]? = some (.pointer (some ⟨wg, 0, none⟩)) ∧ F w ∧ ∃ st sm, WgAt lnk.tWg wg w st sm
def PostW (F : World → Prop) (g' : Goroutine) (g : Goroutine) (w : World) : Prop := F w ∧ Slips g g'
section
variable {s : Grp} {f : FuncId} {tL tC : TypeId} {z : Value} {F : World → Prop} {Anch Post : Goroutine → World → Prop}
 {b₀ : Frame} {a₀ : Act} {ops₀ : Array Oper} {i₀ : Nat} {rest₀ : List Nat} {k₀ : List Item} {cs : List Frame}
set_option maxRecDepth 100000 in
theorem waitStart (hF2 : ∀ w w₁, (s.ph f tL tC z Anch Post).Far s.n w w₁ → F w → F w₁) (hA : ∀ g w, AnchW s.Wg F (b₀.at a₀ (.inRegion ops₀ (i₀ :: rest₀) :: k₀)) cs g w → Anch g w)
  (w : World) (hF : F w ∧ (s.ph f tL tC z Anch Post).Live w) :
  Goes Try.prog true ((s.ph f tL tC z Anch Post).Far s.n) ((s.ph f tL tC z Anch Post).DM s.n) (s.ph f tL tC z Anch Post).V1 3
   (G ((base lnk.wait).at ⟨#[.pointer (some ⟨s.Wg, 0, none⟩)] ++ Array.replicate 83 undef, []⟩ [.code (body_wait lnk)]) (b₀.at a₀ (.inRegion ops₀ (i₀ :: rest₀) :: k₀) :: cs)) w := by
 have H := wgLib
 lib_facts
 simp only [body_wait, waitFn, Option.getD_some, Array.replicate, List.replicate, List.append_toArray, List.cons_append, List.nil_append]
 (u_in (far_rely hF2) hF; rw [stepG_seq]; simp only [goes_go]; refine ⟨by ((first | refine dr_none ?_ | refine dm_none ?_ | refine ds_none ?_); intro e he; simp at he), ?_⟩)
 (u_in (far_rely hF2) hF; rw [stepG_cond (t := true) rfl]; simp only [goes_go, if_true, if_false, Bool.false_eq_true, ↓reduceIte]; refine ⟨by ((first | refine dr_none ?_ | refine dm_none ?_ | refine ds_none ?_); intro e he; simp at he), ?_⟩)
 (u_in (far_rely hF2) hF; rw [stepG_region]; simp only [goes_go, List.size_toArray, List.length_cons, List.length_nil, Nat.reduceAdd, Nat.zero_add, List.range, List.range.loop]; refine ⟨by ((first | refine dr_none ?_ | refine dm_none ?_ | refine ds_none ?_); intro e he; simp at he), ?_⟩)
 refine Goes.stop (fun w₁ h₁ => ?_)
 replace hF := far_rely hF2 hF h₁
 clear h₁
 refine ⟨rfl, _, stepG_mark0 .disable (by simp) rfl rfl (by k_ne) rfl H.f_disable (x_disable_n lnk) (x_disable_b lnk) (x_disable_x lnk) (x_disable_f lnk), 3, ?_⟩
 show Goes Try.prog true _ _ _ _ _ _
 walk_nrm
 (u_in (far_rely hF2) hF; rw [stepG_region_end]; simp only [goes_go]; refine ⟨by ((first | refine dr_none ?_ | refine dm_none ?_ | refine ds_none ?_); intro e he; simp at he), ?_⟩)
 (u_in (far_rely hF2) hF; rw [stepG_block]; simp only [goes_go]; refine ⟨by ((first | refine dr_none ?_ | refine dm_none ?_ | refine ds_none ?_); intro e he; simp at he), ?_⟩)
 (u_in (far_rely hF2) hF; rw [stepG_loop]; simp only [goes_go]; refine ⟨by ((first | refine dr_none ?_ | refine dm_none ?_ | refine ds_none ?_); intro e he; simp at he), ?_⟩)
 exact Goes.stop (fun w₂ h₂ => hA _ _ ⟨_, rfl, by simp, by simp, far_rely hF2 hF h₂⟩)
set_option maxRecDepth 100000 in
set_option maxHeartbeats 8000000 in
theorem waitRound (hWB : s.Wg < s.B) (hRd : ∀ k, k < s.n → ¬ s.Rd k (.cell ⟨s.Wg, 1, none⟩)) (hF2 : ∀ w w₁, (s.ph f tL tC z Anch Post).Far s.n w w₁ → F w → F w₁) (hA : ∀ g w, AnchW s.Wg F (b₀.at a₀ (.inRegion ops₀ (i₀ :: rest₀) :: k₀)) cs g w → Anch g w)
  (hP : ∀ g w, PostW F (G (b₀.at (a₀.put ((ops₀[i₀]?).bind (·.dst)) (.tuple #[])) (.inRegion ops₀ rest₀ :: k₀)) cs) g w → Post g w)
  (g : Goroutine) (w : World) (h : AnchW s.Wg F (b₀.at a₀ (.inRegion ops₀ (i₀ :: rest₀) :: k₀)) cs g w) :
  ∃ m, Goes Try.prog true ((s.ph f tL tC z Anch Post).Far s.n) ((s.ph f tL tC z Anch Post).DM s.n) (s.ph f tL tC z Anch Post).V2 m g w := by
 have H := wgLib
 lib_facts
 obtain ⟨T, rfl, hT84, t0, hF⟩ := h
 obtain ⟨v0, v1, v2, v3, v4, v5, v6, v7, v8, v9, v10, v11, v12, v13, v14, v15, v16, v17, v18, v19, v20, v21, v22, v23, v24, v25, v26, v27, v28, v29, v30, v31, v32, v33, v34, v35, v36, v37, v38, v39, v40, v41, v42, v43, v44, v45, v46, v47, v48, v49, v50, v51, v52, v53, v54, v55, v56, v57, v58, v59, v60, v61, v62, v63, v64, v65, v66, v67, v68, v69, v70, v71, v72, v73, v74, v75, v76, v77, v78, v79, v80, v81, v82, v83, rfl⟩ := array84 T hT84
 simp only [List.getElem?_toArray, List.getElem?_cons_zero, Option.some.injEq] at t0
 subst t0
 refine ⟨30, ?_⟩
 simp only [L7, body_wait, waitFn, Option.getD_some]
 (u_in (far_rely hF2) hF; rw [stepG_block]; simp only [goes_go]; refine ⟨by ((first | refine dr_none ?_ | refine dm_none ?_ | refine ds_none ?_); intro e he; simp at he), ?_⟩)
 (u_in (far_rely hF2) hF; rw [stepG_seq]; simp only [goes_go]; refine ⟨by ((first | refine dr_none ?_ | refine dm_none ?_ | refine ds_none ?_); intro e he; simp at he), ?_⟩)
 (u_in (far_rely hF2) hF; rw [stepG_region]; simp only [goes_go, List.size_toArray, List.length_cons, List.length_nil, Nat.reduceAdd, Nat.zero_add, List.range, List.range.loop]; refine ⟨by ((first | refine dr_none ?_ | refine dm_none ?_ | refine ds_none ?_); intro e he; simp at he), ?_⟩)
 iterate 3
  (u_in (far_rely hF2) hF
   refine goes_oper_k rfl rfl (by k_ne) (fun K hK => ?_)
   go_simp
   refine hK _ _ ⟨?_, ?_⟩
   ·(first | refine dr_none ?_ | refine dm_none ?_ | refine ds_none ?_)
    intro e he
    have hm := mem_listed he
    simp [go_sem, *] at hm
   clear hK K
   try w_num)
 (u_in (far_rely hF2) hF; refine goes_call rfl rfl (by k_ne) rfl H.f_uLoad (nm_uLoad lnk) rfl ⟨by ((first | refine dr_none ?_ | refine dm_none ?_ | refine ds_none ?_); intro e he; simp at he), ?_⟩; walk_nrmf uLoadFn)
 (u_in (far_rely hF2) hF; rw [stepG_seq]; simp only [goes_go]; refine ⟨by ((first | refine dr_none ?_ | refine dm_none ?_ | refine ds_none ?_); intro e he; simp at he), ?_⟩)
 (u_in (far_rely hF2) hF; rw [stepG_region]; simp only [goes_go, List.size_toArray, List.length_cons, List.length_nil, Nat.reduceAdd, Nat.zero_add, List.range, List.range.loop]; refine ⟨by ((first | refine dr_none ?_ | refine dm_none ?_ | refine ds_none ?_); intro e he; simp at he), ?_⟩)
 (u_in (far_rely hF2) hF
  refine goes_oper_k rfl rfl (by k_ne) (fun K hK => ?_)
  go_simp
  refine hK _ _ ⟨?_, ?_⟩
  ·(first | refine dr_none ?_ | refine dm_none ?_ | refine ds_none ?_)
   intro e he
   have hm := mem_listed he
   simp [go_sem, *] at hm
  clear hK K
  try w_num)
 (u_in (far_rely hF2) hF; rw [stepG_region_end]; simp only [goes_go]; refine ⟨by ((first | refine dr_none ?_ | refine dm_none ?_ | refine ds_none ?_); intro e he; simp at he), ?_⟩)
 (u_in (far_rely hF2) hF; rw [stepG_seq]; simp only [goes_go]; refine ⟨by ((first | refine dr_none ?_ | refine dm_none ?_ | refine ds_none ?_); intro e he; simp at he), ?_⟩)
 (u_in (far_rely hF2) hF; rw [stepG_region]; simp only [goes_go, List.size_toArray, List.length_cons, List.length_nil, Nat.reduceAdd, Nat.zero_add, List.range, List.range.loop]; refine ⟨by ((first | refine dr_none ?_ | refine dm_none ?_ | refine ds_none ?_); intro e he; simp at he), ?_⟩)
 iterate 3
  (u_in (far_rely hF2) hF
   refine goes_oper_k rfl rfl (by k_ne) (fun K hK => ?_)
   go_simp
   refine hK _ _ ⟨?_, ?_⟩
   ·(first | refine dr_none ?_ | refine dm_none ?_ | refine ds_none ?_)
    intro e he
    have hm := mem_listed he
    simp [go_sem, *] at hm
   clear hK K
   try w_num)
 refine Goes.stop (fun w₁ h₁ => ?_)
 replace hF := far_rely hF2 hF h₁
 clear h₁
 refine ⟨rfl, fun v hv hw => ?_⟩
 replace hw : WgAt lnk.tWg s.Wg w₁ ((v : Int) * KK) 0 := hw
 rcases Nat.eq_zero_or_pos v with rfl | hvp
 ·replace hw : WgAt lnk.tWg s.Wg w₁ 0 0 := by simpa using hw
  refine ⟨_, stepG_load_atomic (v := 0) rfl rfl (by k_ne) rfl H.f_loadU64 (x_loadU64_n lnk) (x_loadU64_b lnk) (x_loadU64_x lnk) .u64 (x_loadU64_f lnk) rfl hw.cellSt, fun _ => ⟨80, ?_⟩, fun h => absurd rfl h⟩
  show Goes Try.prog true _ _ _ _ _ _
  clear hw
  walk_nrm
  (u_in (far_rely hF2) hF
   refine goes_oper_k rfl rfl (by k_ne) (fun K hK => ?_)
   go_simp
   refine hK _ _ ⟨?_, ?_⟩
   ·(first | refine dr_none ?_ | refine dm_none ?_ | refine ds_none ?_)
    intro e he
    have hm := mem_listed he
    simp [go_sem, *] at hm
   clear hK K
   try w_num)
  (u_in (far_rely hF2) hF; rw [stepG_region_end]; simp only [goes_go]; refine ⟨by ((first | refine dr_none ?_ | refine dm_none ?_ | refine ds_none ?_); intro e he; simp at he), ?_⟩)
  (u_in (far_rely hF2) hF; rw [stepG_ret']; simp only [goes_go]; refine ⟨by ((first | refine dr_none ?_ | refine dm_none ?_ | refine ds_none ?_); intro e he; simp at he), ?_⟩)
  (u_in (far_rely hF2) hF; refine goes_leave1 rfl rfl H.f_uLoad rfl ⟨by ((first | refine dr_none ?_ | refine dm_none ?_ | refine ds_none ?_); intro e he; simp at he), ?_⟩; walk_nrm)
  iterate 2
   (u_in (far_rely hF2) hF
    refine goes_oper_k rfl rfl (by k_ne) (fun K hK => ?_)
    go_simp
    refine hK _ _ ⟨?_, ?_⟩
    ·(first | refine dr_none ?_ | refine dm_none ?_ | refine ds_none ?_)
     intro e he
     have hm := mem_listed he
     simp [go_sem, *] at hm
    clear hK K
    try w_num)
   (u_in (far_rely hF2) hF; rw [stepG_region_end]; simp only [goes_go]; refine ⟨by ((first | refine dr_none ?_ | refine dm_none ?_ | refine ds_none ?_); intro e he; simp at he), ?_⟩)
   (u_in (far_rely hF2) hF; rw [stepG_seq]; simp only [goes_go]; refine ⟨by ((first | refine dr_none ?_ | refine dm_none ?_ | refine ds_none ?_); intro e he; simp at he), ?_⟩)
   (u_in (far_rely hF2) hF; rw [stepG_region]; simp only [goes_go, List.size_toArray, List.length_cons, List.length_nil, Nat.reduceAdd, Nat.zero_add, List.range, List.range.loop]; refine ⟨by ((first | refine dr_none ?_ | refine dm_none ?_ | refine ds_none ?_); intro e he; simp at he), ?_⟩)
   iterate 3
    (u_in (far_rely hF2) hF
     refine goes_oper_k rfl rfl (by k_ne) (fun K hK => ?_)
     go_simp
     refine hK _ _ ⟨?_, ?_⟩
     ·(first | refine dr_none ?_ | refine dm_none ?_ | refine ds_none ?_)
      intro e he
      have hm := mem_listed he
      simp [go_sem, *] at hm
     clear hK K
     try w_num)
  (u_in (far_rely hF2) hF
   refine goes_oper_k rfl rfl (by k_ne) (fun K hK => ?_)
   go_simp
   refine hK _ _ ⟨?_, ?_⟩
   ·(first | refine dr_none ?_ | refine dm_none ?_ | refine ds_none ?_)
    intro e he
    have hm := mem_listed he
    simp [go_sem, *] at hm
   clear hK K
   try w_num)
  (u_in (far_rely hF2) hF; rw [stepG_region_end]; simp only [goes_go]; refine ⟨by ((first | refine dr_none ?_ | refine dm_none ?_ | refine ds_none ?_); intro e he; simp at he), ?_⟩)
  iterate 2
   (u_in (far_rely hF2) hF; rw [stepG_seq]; simp only [goes_go]; refine ⟨by ((first | refine dr_none ?_ | refine dm_none ?_ | refine ds_none ?_); intro e he; simp at he), ?_⟩)
  (u_in (far_rely hF2) hF; rw [stepG_region]; simp only [goes_go, List.size_toArray, List.length_cons, List.length_nil, Nat.reduceAdd, Nat.zero_add, List.range, List.range.loop]; refine ⟨by ((first | refine dr_none ?_ | refine dm_none ?_ | refine ds_none ?_); intro e he; simp at he), ?_⟩)
  iterate 2
   (u_in (far_rely hF2) hF
    refine goes_oper_k rfl rfl (by k_ne) (fun K hK => ?_)
    go_simp
    refine hK _ _ ⟨?_, ?_⟩
    ·(first | refine dr_none ?_ | refine dm_none ?_ | refine ds_none ?_)
     intro e he
     have hm := mem_listed he
     simp [go_sem, *] at hm
    clear hK K
    try w_num)
  (u_in (far_rely hF2) hF; rw [stepG_region_end]; simp only [goes_go]; refine ⟨by ((first | refine dr_none ?_ | refine dm_none ?_ | refine ds_none ?_); intro e he; simp at he), ?_⟩)
  iterate 2
   (u_in (far_rely hF2) hF; rw [stepG_cond (t := true) (by first | rfl | (simp [Act.eval]; omega))]; simp only [goes_go, if_true, if_false, Bool.false_eq_true, ↓reduceIte]; refine ⟨by ((first | refine dr_none ?_ | refine dm_none ?_ | refine ds_none ?_); intro e he; simp at he), ?_⟩)
   (u_in (far_rely hF2) hF; rw [stepG_seq]; simp only [goes_go]; refine ⟨by ((first | refine dr_none ?_ | refine dm_none ?_ | refine ds_none ?_); intro e he; simp at he), ?_⟩)
  (u_in (far_rely hF2) hF; rw [stepG_region]; simp only [goes_go, List.size_toArray, List.length_cons, List.length_nil, Nat.reduceAdd, Nat.zero_add, List.range, List.range.loop]; refine ⟨by ((first | refine dr_none ?_ | refine dm_none ?_ | refine ds_none ?_); intro e he; simp at he), ?_⟩)
  refine Goes.stop (fun w₅ h₅ => ?_)
  replace hF := far_rely hF2 hF h₅
  clear h₅
  refine ⟨rfl, _, stepG_mark0 .enable (by simp) rfl rfl (by k_ne) rfl H.f_enable (x_enable_n lnk) (x_enable_b lnk) (x_enable_x lnk) (x_enable_f lnk), 30, ?_⟩
  show Goes Try.prog true _ _ _ _ _ _
  walk_nrm
  (u_in (far_rely hF2) hF; rw [stepG_region_end]; simp only [goes_go]; refine ⟨by ((first | refine dr_none ?_ | refine dm_none ?_ | refine ds_none ?_); intro e he; simp at he), ?_⟩)
  (u_in (far_rely hF2) hF; rw [stepG_region]; simp only [goes_go, List.size_toArray, List.length_cons, List.length_nil, Nat.reduceAdd, Nat.zero_add, List.range, List.range.loop]; refine ⟨by ((first | refine dr_none ?_ | refine dm_none ?_ | refine ds_none ?_); intro e he; simp at he), ?_⟩)
  (u_in (far_rely hF2) hF
   refine goes_oper_k rfl rfl (by k_ne) (fun K hK => ?_)
   go_simp
   refine hK _ _ ⟨?_, ?_⟩
   ·(first | refine dr_none ?_ | refine dm_none ?_ | refine ds_none ?_)
    intro e he
    have hm := mem_listed he
    simp [go_sem, *] at hm
   clear hK K
   try w_num)
  (u_in (far_rely hF2) hF
   refine goes_oper_k rfl rfl (by k_ne) (fun Kx hKx => ?_)
   have hcv := run_convert_to_unsafe (P := Try.prog) H.underlying_tWgP wgLib.underlying_tUP H.room_tWg (live0 hF.2).choose_spec
   have hce := fun es => events_convert_to_unsafe (P := Try.prog) H.underlying_tWgP wgLib.underlying_tUP H.room_tWg (live0 hF.2).choose_spec es
   go_simp
   refine hKx _ _ ⟨?_, ?_⟩
   ·(first | refine dr_none ?_ | refine dm_none ?_ | refine ds_none ?_)
    intro ex hex
    have hmx := mem_listed hex
    simp [go_sem, hce] at hmx
   clear hKx Kx hcv hce)
  skip
  refine Goes.stop (fun w₆ h₆ => ?_)
  replace hF := far_rely hF2 hF h₆
  clear h₆
  refine ⟨rfl, _, stepG_markAt .acquire (by simp) rfl rfl (by k_ne) rfl H.f_acquire (x_acquire_n lnk) (x_acquire_b lnk) (x_acquire_x lnk) (x_acquire_f lnk) (by simp [Act.eval, stA] <;> rfl), hP _ _ ⟨hF.1, 40, ?_⟩⟩
  show Goes Try.prog true _ _ _ _ _ _
  clear hF
  have hF : True := trivial
  walk_nrm
  (u_in rt_on hF; rw [stepG_region_end]; simp only [goes_go]; refine ⟨by ((first | refine dr_none ?_ | refine dm_none ?_ | refine ds_none ?_); intro e he; simp at he), ?_⟩)
  iterate 2
   (u_in rt_on hF; rw [stepG_seq]; simp only [goes_go]; refine ⟨by ((first | refine dr_none ?_ | refine dm_none ?_ | refine ds_none ?_); intro e he; simp at he), ?_⟩)
  (u_in rt_on hF; rw [stepG_region]; simp only [goes_go, List.size_toArray, List.length_cons, List.length_nil, Nat.reduceAdd, Nat.zero_add, List.range, List.range.loop]; refine ⟨by ((first | refine dr_none ?_ | refine dm_none ?_ | refine ds_none ?_); intro e he; simp at he), ?_⟩)
  iterate 8
   (u_in rt_on hF
    refine goes_oper_k rfl rfl (by k_ne) (fun K hK => ?_)
    go_simp
    refine hK _ _ ⟨?_, ?_⟩
    ·(first | refine dr_none ?_ | refine dm_none ?_ | refine ds_none ?_)
     intro e he
     have hm := mem_listed he
     simp [go_sem, *] at hm
    clear hK K
    try w_num)
  iterate 2
   (u_in rt_on hF; rw [stepG_unwanted rfl rfl]; simp only [goes_go]; refine ⟨by ((first | refine dr_none ?_ | refine dm_none ?_ | refine ds_none ?_); intro e he; simp at he), ?_⟩; walk_nrm)
  (u_in rt_on hF
   refine goes_oper_k rfl rfl (by k_ne) (fun K hK => ?_)
   go_simp
   refine hK _ _ ⟨?_, ?_⟩
   ·(first | refine dr_none ?_ | refine dm_none ?_ | refine ds_none ?_)
    intro e he
    have hm := mem_listed he
    simp [go_sem, *] at hm
   clear hK K
   try w_num)
  (u_in rt_on hF; rw [stepG_region_end]; simp only [goes_go]; refine ⟨by ((first | refine dr_none ?_ | refine dm_none ?_ | refine ds_none ?_); intro e he; simp at he), ?_⟩)
  (u_in rt_on hF; rw [stepG_cond (t := false) (by first | rfl | (simp [Act.eval]; omega))]; simp only [goes_go, if_true, if_false, Bool.false_eq_true, ↓reduceIte]; refine ⟨by ((first | refine dr_none ?_ | refine dm_none ?_ | refine ds_none ?_); intro e he; simp at he), ?_⟩)
  (u_in rt_on hF; rw [stepG_skip]; simp only [goes_go]; refine ⟨by ((first | refine dr_none ?_ | refine dm_none ?_ | refine ds_none ?_); intro e he; simp at he), ?_⟩)
  (u_in rt_on hF; rw [stepG_ret']; simp only [goes_go]; refine ⟨by ((first | refine dr_none ?_ | refine dm_none ?_ | refine ds_none ?_); intro e he; simp at he), ?_⟩)
  (u_in rt_on hF; refine goes_leave0 rfl rfl H.f_wait rfl ⟨by ((first | refine dr_none ?_ | refine dm_none ?_ | refine ds_none ?_); intro e he; simp at he), ?_⟩; walk_nrm)
  exact Goes.stop (fun _ _ => rfl)
 ·obtain ⟨S, hS⟩ : ∃ S : Int, (v : Int) * KK = S := ⟨_, rfl⟩
  have a1 : S / 4294967296 = (v : Int) := by rw [← hS]; simp only [KK]; omega
  have b1 : bits .and .u64 S 2147483648 = 0 := by rw [← hS]; have := st_flag v 0 (by omega) (by omega); simpa [KK] using this
  have b2 : bits .and .u64 S 2147483647 = 0 := by rw [← hS]; have := st_waiters v 0 (by omega) (by omega); simpa [KK] using this
  have c1 : IntKind.i32.wrap (v : Int) = (v : Int) := by rw [IntKind.wrap_i32]; omega
  have w1 : IntKind.u64.wrap (S + 1) = S + 1 := by rw [IntKind.wrap_u64, ← hS]; simp only [KK]; omega
  have q3 : decide ((v : Int) < 0) = false := decide_eq_false (by omega)
  have q4 : decide (0 < (v : Int)) = true := decide_eq_true (by omega)
  have q5 : ((v : Int) == 0) = false := by simp; omega
  have q6 : decide ((v : Int) = 0) = false := decide_eq_false (by omega)
  rw [hS] at hw
  refine ⟨_, stepG_load_atomic (v := S) rfl rfl (by k_ne) rfl H.f_loadU64 (x_loadU64_n lnk) (x_loadU64_b lnk) (x_loadU64_x lnk) .u64 (x_loadU64_f lnk) rfl hw.cellSt, fun h0 => absurd h0 (by omega), fun _ => ⟨100, ?_⟩⟩
  show Goes Try.prog true _ _ _ _ _ _
  clear hw
  walk_nrm
  (u_in (far_rely hF2) hF
   refine goes_oper_k rfl rfl (by k_ne) (fun K hK => ?_)
   go_simp
   refine hK _ _ ⟨?_, ?_⟩
   ·(first | refine dr_none ?_ | refine dm_none ?_ | refine ds_none ?_)
    intro e he
    have hm := mem_listed he
    simp [go_sem, *] at hm
   clear hK K
   try w_num)
  (u_in (far_rely hF2) hF; rw [stepG_region_end]; simp only [goes_go]; refine ⟨by ((first | refine dr_none ?_ | refine dm_none ?_ | refine ds_none ?_); intro e he; simp at he), ?_⟩)
  (u_in (far_rely hF2) hF; rw [stepG_ret']; simp only [goes_go]; refine ⟨by ((first | refine dr_none ?_ | refine dm_none ?_ | refine ds_none ?_); intro e he; simp at he), ?_⟩)
  (u_in (far_rely hF2) hF; refine goes_leave1 rfl rfl H.f_uLoad rfl ⟨by ((first | refine dr_none ?_ | refine dm_none ?_ | refine ds_none ?_); intro e he; simp at he), ?_⟩; walk_nrm)
  iterate 2
   (u_in (far_rely hF2) hF
    refine goes_oper_k rfl rfl (by k_ne) (fun K hK => ?_)
    go_simp
    refine hK _ _ ⟨?_, ?_⟩
    ·(first | refine dr_none ?_ | refine dm_none ?_ | refine ds_none ?_)
     intro e he
     have hm := mem_listed he
     simp [go_sem, *] at hm
    clear hK K
    try w_num)
   (u_in (far_rely hF2) hF; rw [stepG_region_end]; simp only [goes_go]; refine ⟨by ((first | refine dr_none ?_ | refine dm_none ?_ | refine ds_none ?_); intro e he; simp at he), ?_⟩)
   (u_in (far_rely hF2) hF; rw [stepG_seq]; simp only [goes_go]; refine ⟨by ((first | refine dr_none ?_ | refine dm_none ?_ | refine ds_none ?_); intro e he; simp at he), ?_⟩)
   (u_in (far_rely hF2) hF; rw [stepG_region]; simp only [goes_go, List.size_toArray, List.length_cons, List.length_nil, Nat.reduceAdd, Nat.zero_add, List.range, List.range.loop]; refine ⟨by ((first | refine dr_none ?_ | refine dm_none ?_ | refine ds_none ?_); intro e he; simp at he), ?_⟩)
   iterate 3
    (u_in (far_rely hF2) hF
     refine goes_oper_k rfl rfl (by k_ne) (fun K hK => ?_)
     go_simp
     refine hK _ _ ⟨?_, ?_⟩
     ·(first | refine dr_none ?_ | refine dm_none ?_ | refine ds_none ?_)
      intro e he
      have hm := mem_listed he
      simp [go_sem, *] at hm
     clear hK K
     try w_num)
  (u_in (far_rely hF2) hF
   refine goes_oper_k rfl rfl (by k_ne) (fun K hK => ?_)
   go_simp
   refine hK _ _ ⟨?_, ?_⟩
   ·(first | refine dr_none ?_ | refine dm_none ?_ | refine ds_none ?_)
    intro e he
    have hm := mem_listed he
    simp [go_sem, *] at hm
   clear hK K
   try w_num)
  (u_in (far_rely hF2) hF; rw [stepG_region_end]; simp only [goes_go]; refine ⟨by ((first | refine dr_none ?_ | refine dm_none ?_ | refine ds_none ?_); intro e he; simp at he), ?_⟩)
  iterate 2
   (u_in (far_rely hF2) hF; rw [stepG_seq]; simp only [goes_go]; refine ⟨by ((first | refine dr_none ?_ | refine dm_none ?_ | refine ds_none ?_); intro e he; simp at he), ?_⟩)
  (u_in (far_rely hF2) hF; rw [stepG_region]; simp only [goes_go, List.size_toArray, List.length_cons, List.length_nil, Nat.reduceAdd, Nat.zero_add, List.range, List.range.loop]; refine ⟨by ((first | refine dr_none ?_ | refine dm_none ?_ | refine ds_none ?_); intro e he; simp at he), ?_⟩)
  iterate 2
   (u_in (far_rely hF2) hF
    refine goes_oper_k rfl rfl (by k_ne) (fun K hK => ?_)
    go_simp
    refine hK _ _ ⟨?_, ?_⟩
    ·(first | refine dr_none ?_ | refine dm_none ?_ | refine ds_none ?_)
     intro e he
     have hm := mem_listed he
     simp [go_sem, *] at hm
    clear hK K
    try w_num)
  (u_in (far_rely hF2) hF; rw [stepG_region_end]; simp only [goes_go]; refine ⟨by ((first | refine dr_none ?_ | refine dm_none ?_ | refine ds_none ?_); intro e he; simp at he), ?_⟩)
  (u_in (far_rely hF2) hF; rw [stepG_cond (t := false) (by first | rfl | (simp [Act.eval]; omega))]; simp only [goes_go, if_true, if_false, Bool.false_eq_true, ↓reduceIte]; refine ⟨by ((first | refine dr_none ?_ | refine dm_none ?_ | refine ds_none ?_); intro e he; simp at he), ?_⟩)
  (u_in (far_rely hF2) hF; rw [stepG_skip]; simp only [goes_go]; refine ⟨by ((first | refine dr_none ?_ | refine dm_none ?_ | refine ds_none ?_); intro e he; simp at he), ?_⟩)
  (u_in (far_rely hF2) hF; rw [stepG_seq]; simp only [goes_go]; refine ⟨by ((first | refine dr_none ?_ | refine dm_none ?_ | refine ds_none ?_); intro e he; simp at he), ?_⟩)
  (u_in (far_rely hF2) hF; rw [stepG_region]; simp only [goes_go, List.size_toArray, List.length_cons, List.length_nil, Nat.reduceAdd, Nat.zero_add, List.range, List.range.loop]; refine ⟨by ((first | refine dr_none ?_ | refine dm_none ?_ | refine ds_none ?_); intro e he; simp at he), ?_⟩)
  iterate 6
   (u_in (far_rely hF2) hF
    refine goes_oper_k rfl rfl (by k_ne) (fun K hK => ?_)
    go_simp
    refine hK _ _ ⟨?_, ?_⟩
    ·(first | refine dr_none ?_ | refine dm_none ?_ | refine ds_none ?_)
     intro e he
     have hm := mem_listed he
     simp [go_sem, *] at hm
    clear hK K
    try w_num)
  (u_in (far_rely hF2) hF; refine goes_call rfl rfl (by k_ne) rfl H.f_uCas (nm_uCas lnk) rfl ⟨by ((first | refine dr_none ?_ | refine dm_none ?_ | refine ds_none ?_); intro e he; simp at he), ?_⟩; walk_nrmf uCasFn)
  (u_in (far_rely hF2) hF; rw [stepG_seq]; simp only [goes_go]; refine ⟨by ((first | refine dr_none ?_ | refine dm_none ?_ | refine ds_none ?_); intro e he; simp at he), ?_⟩)
  (u_in (far_rely hF2) hF; rw [stepG_region]; simp only [goes_go, List.size_toArray, List.length_cons, List.length_nil, Nat.reduceAdd, Nat.zero_add, List.range, List.range.loop]; refine ⟨by ((first | refine dr_none ?_ | refine dm_none ?_ | refine ds_none ?_); intro e he; simp at he), ?_⟩)
  (u_in (far_rely hF2) hF
   refine goes_oper_k rfl rfl (by k_ne) (fun K hK => ?_)
   go_simp
   refine hK _ _ ⟨?_, ?_⟩
   ·(first | refine dr_none ?_ | refine dm_none ?_ | refine ds_none ?_)
    intro e he
    have hm := mem_listed he
    simp [go_sem, *] at hm
   clear hK K
   try w_num)
  (u_in (far_rely hF2) hF; rw [stepG_region_end]; simp only [goes_go]; refine ⟨by ((first | refine dr_none ?_ | refine dm_none ?_ | refine ds_none ?_); intro e he; simp at he), ?_⟩)
  (u_in (far_rely hF2) hF; rw [stepG_seq]; simp only [goes_go]; refine ⟨by ((first | refine dr_none ?_ | refine dm_none ?_ | refine ds_none ?_); intro e he; simp at he), ?_⟩)
  (u_in (far_rely hF2) hF; rw [stepG_region]; simp only [goes_go, List.size_toArray, List.length_cons, List.length_nil, Nat.reduceAdd, Nat.zero_add, List.range, List.range.loop]; refine ⟨by ((first | refine dr_none ?_ | refine dm_none ?_ | refine ds_none ?_); intro e he; simp at he), ?_⟩)
  iterate 5
   (u_in (far_rely hF2) hF
    refine goes_oper_k rfl rfl (by k_ne) (fun K hK => ?_)
    go_simp
    refine hK _ _ ⟨?_, ?_⟩
    ·(first | refine dr_none ?_ | refine dm_none ?_ | refine ds_none ?_)
     intro e he
     have hm := mem_listed he
     simp [go_sem, *] at hm
    clear hK K
    try w_num)
  refine Goes.stop (fun w₂ h₂ => ?_)
  replace hF := far_rely hF2 hF h₂
  clear h₂
  refine ⟨rfl, fun v' hv' hw => ⟨fun e => ?_, fun e => ?_⟩⟩
  ·subst e
   replace hw : WgAt lnk.tWg s.Wg w₂ ((v' : Int) * KK) 0 := hw
   rw [hS] at hw ⊢
   refine ⟨_, (stepG_cas_hit (v := S) (n := S + 1) rfl rfl (by k_ne) rfl H.f_casU64 (x_casU64_n lnk) (x_casU64_b lnk) (x_casU64_x lnk) .u64 (x_casU64_f lnk) rfl rfl rfl hw.cellSt (hw.thaw 0)).trans (by rfl), 100, ?_⟩
   show Goes Try.prog true _ _ _ _ _ _
   have hwn : WgAt lnk.tWg s.Wg (w₂.setCell (stA s.Wg) (.int .u64 (S + 1))) (S + 1) 0 := hw.setSt _
   replace hF := far_rely hF2 hF (Far.setWg (p := s.ph f tL tC z Anch Post) hw hwn)
   clear hw hwn
   walk_nrm
   (u_in (far_rely hF2) hF
    refine goes_oper_k rfl rfl (by k_ne) (fun K hK => ?_)
    go_simp
    refine hK _ _ ⟨?_, ?_⟩
    ·(first | refine dr_none ?_ | refine dm_none ?_ | refine ds_none ?_)
     intro e he
     have hm := mem_listed he
     simp [go_sem, *] at hm
    clear hK K
    try w_num)
   (u_in (far_rely hF2) hF; rw [stepG_region_end]; simp only [goes_go]; refine ⟨by ((first | refine dr_none ?_ | refine dm_none ?_ | refine ds_none ?_); intro e he; simp at he), ?_⟩)
   (u_in (far_rely hF2) hF; rw [stepG_ret']; simp only [goes_go]; refine ⟨by ((first | refine dr_none ?_ | refine dm_none ?_ | refine ds_none ?_); intro e he; simp at he), ?_⟩)
   (u_in (far_rely hF2) hF; refine goes_leave1 rfl rfl H.f_uCas rfl ⟨by ((first | refine dr_none ?_ | refine dm_none ?_ | refine ds_none ?_); intro e he; simp at he), ?_⟩; walk_nrm)
   (u_in (far_rely hF2) hF; rw [stepG_region_end]; simp only [goes_go]; refine ⟨by ((first | refine dr_none ?_ | refine dm_none ?_ | refine ds_none ?_); intro e he; simp at he), ?_⟩)
   (u_in (far_rely hF2) hF; rw [stepG_cond (t := true) (by first | rfl | (simp [Act.eval]; omega))]; simp only [goes_go, if_true, if_false, Bool.false_eq_true, ↓reduceIte]; refine ⟨by ((first | refine dr_none ?_ | refine dm_none ?_ | refine ds_none ?_); intro e he; simp at he), ?_⟩)
   iterate 2
    (u_in (far_rely hF2) hF; rw [stepG_seq]; simp only [goes_go]; refine ⟨by ((first | refine dr_none ?_ | refine dm_none ?_ | refine ds_none ?_); intro e he; simp at he), ?_⟩)
   (u_in (far_rely hF2) hF; rw [stepG_region]; simp only [goes_go, List.size_toArray, List.length_cons, List.length_nil, Nat.reduceAdd, Nat.zero_add, List.range, List.range.loop]; refine ⟨by ((first | refine dr_none ?_ | refine dm_none ?_ | refine ds_none ?_); intro e he; simp at he), ?_⟩)
   iterate 4
    (u_in (far_rely hF2) hF
     refine goes_oper_k rfl rfl (by k_ne) (fun K hK => ?_)
     go_simp
     refine hK _ _ ⟨?_, ?_⟩
     ·(first | refine dr_none ?_ | refine dm_none ?_ | refine ds_none ?_)
      intro e he
      have hm := mem_listed he
      simp [go_sem, *] at hm
     clear hK K
     try w_num)
   (u_in (far_rely hF2) hF; rw [stepG_region_end]; simp only [goes_go]; refine ⟨by ((first | refine dr_none ?_ | refine dm_none ?_ | refine ds_none ?_); intro e he; simp at he), ?_⟩)
   (u_in (far_rely hF2) hF; rw [stepG_cond (t := true) (by first | rfl | (simp [Act.eval]; omega))]; simp only [goes_go, if_true, if_false, Bool.false_eq_true, ↓reduceIte]; refine ⟨by ((first | refine dr_none ?_ | refine dm_none ?_ | refine ds_none ?_); intro e he; simp at he), ?_⟩)
   (u_in (far_rely hF2) hF; rw [stepG_region]; simp only [goes_go, List.size_toArray, List.length_cons, List.length_nil, Nat.reduceAdd, Nat.zero_add, List.range, List.range.loop]; refine ⟨by ((first | refine dr_none ?_ | refine dm_none ?_ | refine ds_none ?_); intro e he; simp at he), ?_⟩)
   iterate 3
    (u_in (far_rely hF2) hF
     refine goes_oper_k rfl rfl (by k_ne) (fun K hK => ?_)
     go_simp
     refine hK _ _ ⟨?_, ?_⟩
     ·(first | refine dr_none ?_ | refine dm_none ?_ | refine ds_none ?_)
      intro e he
      have hm := mem_listed he
      simp [go_sem, *] at hm
     clear hK K
     try w_num)
   (u_in (far_rely hF2) hF
    refine goes_oper_k rfl rfl (by k_ne) (fun Kx hKx => ?_)
    have hcv := run_convert_to_unsafe (P := Try.prog) wgLib.underlying_tPU32 wgLib.underlying_tUP wgLib.room_tU32 (live1 hF.2).choose_spec
    have hce := fun es => events_convert_to_unsafe (P := Try.prog) wgLib.underlying_tPU32 wgLib.underlying_tUP wgLib.room_tU32 (live1 hF.2).choose_spec es
    go_simp
    refine hKx _ _ ⟨?_, ?_⟩
    ·(first | refine dr_none ?_ | refine dm_none ?_ | refine ds_none ?_)
     intro ex hex
     have hmx := mem_listed hex
     simp [go_sem, hce] at hmx
    clear hKx Kx hcv hce)
   u_in (far_rely hF2) hF
   rw [stepG_markAt .write (by simp) rfl rfl (by k_ne) rfl H.f_raceWrite (x_raceWrite_n lnk) (x_raceWrite_b lnk) (x_raceWrite_x lnk) (x_raceWrite_f lnk) (ad := ⟨s.Wg, 1, none⟩) (by simp [Act.eval])]
   simp only [goes_go]
   refine ⟨dm_ev (evM_saidW _ rfl hWB hRd), ?_⟩
   walk_nrm
   (u_in (far_rely hF2) hF; rw [stepG_region_end]; simp only [goes_go]; refine ⟨by ((first | refine dr_none ?_ | refine dm_none ?_ | refine ds_none ?_); intro e he; simp at he), ?_⟩)
   (u_in (far_rely hF2) hF; rw [stepG_seq]; simp only [goes_go]; refine ⟨by ((first | refine dr_none ?_ | refine dm_none ?_ | refine ds_none ?_); intro e he; simp at he), ?_⟩)
   (u_in (far_rely hF2) hF; rw [stepG_region]; simp only [goes_go, List.size_toArray, List.length_cons, List.length_nil, Nat.reduceAdd, Nat.zero_add, List.range, List.range.loop]; refine ⟨by ((first | refine dr_none ?_ | refine dm_none ?_ | refine ds_none ?_); intro e he; simp at he), ?_⟩)
   (u_in (far_rely hF2) hF
    refine goes_oper_k rfl rfl (by k_ne) (fun K hK => ?_)
    go_simp
    refine hK _ _ ⟨?_, ?_⟩
    ·(first | refine dr_none ?_ | refine dm_none ?_ | refine ds_none ?_)
     intro e he
     have hm := mem_listed he
     simp [go_sem, *] at hm
    clear hK K
    try w_num)
   (u_in (far_rely hF2) hF; rw [stepG_region_end]; simp only [goes_go]; refine ⟨by ((first | refine dr_none ?_ | refine dm_none ?_ | refine ds_none ?_); intro e he; simp at he), ?_⟩)
   iterate 2
    (u_in (far_rely hF2) hF; rw [stepG_seq]; simp only [goes_go]; refine ⟨by ((first | refine dr_none ?_ | refine dm_none ?_ | refine ds_none ?_); intro e he; simp at he), ?_⟩)
   (u_in (far_rely hF2) hF; rw [stepG_region]; simp only [goes_go, List.size_toArray, List.length_cons, List.length_nil, Nat.reduceAdd, Nat.zero_add, List.range, List.range.loop]; refine ⟨by ((first | refine dr_none ?_ | refine dm_none ?_ | refine ds_none ?_); intro e he; simp at he), ?_⟩)
   iterate 4
    (u_in (far_rely hF2) hF
     refine goes_oper_k rfl rfl (by k_ne) (fun K hK => ?_)
     go_simp
     refine hK _ _ ⟨?_, ?_⟩
     ·(first | refine dr_none ?_ | refine dm_none ?_ | refine ds_none ?_)
      intro e he
      have hm := mem_listed he
      simp [go_sem, *] at hm
     clear hK K
     try w_num)
   (u_in (far_rely hF2) hF; rw [stepG_unwanted rfl rfl]; simp only [goes_go]; refine ⟨by ((first | refine dr_none ?_ | refine dm_none ?_ | refine ds_none ?_); intro e he; simp at he), ?_⟩; walk_nrm)
   (u_in (far_rely hF2) hF
    refine goes_oper_k rfl rfl (by k_ne) (fun K hK => ?_)
    go_simp
    refine hK _ _ ⟨?_, ?_⟩
    ·(first | refine dr_none ?_ | refine dm_none ?_ | refine ds_none ?_)
     intro e he
     have hm := mem_listed he
     simp [go_sem, *] at hm
    clear hK K
    try w_num)
   (u_in (far_rely hF2) hF; rw [stepG_region_end]; simp only [goes_go]; refine ⟨by ((first | refine dr_none ?_ | refine dm_none ?_ | refine ds_none ?_); intro e he; simp at he), ?_⟩)
   (u_in (far_rely hF2) hF; rw [stepG_cond (t := false) (by first | rfl | (simp [Act.eval]; omega))]; simp only [goes_go, if_true, if_false, Bool.false_eq_true, ↓reduceIte]; refine ⟨by ((first | refine dr_none ?_ | refine dm_none ?_ | refine ds_none ?_); intro e he; simp at he), ?_⟩)
   (u_in (far_rely hF2) hF; rw [stepG_skip]; simp only [goes_go]; refine ⟨by ((first | refine dr_none ?_ | refine dm_none ?_ | refine ds_none ?_); intro e he; simp at he), ?_⟩)
   (u_in (far_rely hF2) hF; rw [stepG_seq]; simp only [goes_go]; refine ⟨by ((first | refine dr_none ?_ | refine dm_none ?_ | refine ds_none ?_); intro e he; simp at he), ?_⟩)
   (u_in (far_rely hF2) hF; rw [stepG_region]; simp only [goes_go, List.size_toArray, List.length_cons, List.length_nil, Nat.reduceAdd, Nat.zero_add, List.range, List.range.loop]; refine ⟨by ((first | refine dr_none ?_ | refine dm_none ?_ | refine ds_none ?_); intro e he; simp at he), ?_⟩)
   iterate 4
    (u_in (far_rely hF2) hF
     refine goes_oper_k rfl rfl (by k_ne) (fun K hK => ?_)
     go_simp
     refine hK _ _ ⟨?_, ?_⟩
     ·(first | refine dr_none ?_ | refine dm_none ?_ | refine ds_none ?_)
      intro e he
      have hm := mem_listed he
      simp [go_sem, *] at hm
     clear hK K
     try w_num)
   refine Goes.stop (fun w₃ h₃ => ?_)
   replace hF := far_rely hF2 hF h₃
   clear h₃
   refine ⟨rfl, rfl, fun ⟨st, hw⟩ => stepG_semacquire_wait rfl rfl rfl H.f_semacquire (x_semacquire_n lnk) (x_semacquire_b lnk) (x_semacquire_x lnk) (x_semacquire_f lnk) (by simp [Act.eval, smA] <;> rfl) (WgAt.cellSm (ty := lnk.tWg) hw), fun hf => ?_⟩
   replace hf : WgAt lnk.tWg s.Wg w₃ 0 1 := hf
   refine ⟨_, (stepG_semacquire (n := 1) rfl rfl (by k_ne) rfl H.f_semacquire (x_semacquire_n lnk) (x_semacquire_b lnk) (x_semacquire_x lnk) (x_semacquire_f lnk) (by simp [Act.eval, smA] <;> rfl) hf.cellSm (by k_ne) (hf.thaw 1)).trans (by rfl), 60, ?_⟩
   show Goes Try.prog true _ _ _ _ _ _
   have hwn : WgAt lnk.tWg s.Wg (w₃.setCell (smA s.Wg) (.int .u32 0)) 0 0 := hf.setSm 0
   replace hF := far_rely hF2 hF (Far.setWg (p := s.ph f tL tC z Anch Post) hf hwn)
   clear hf hwn
   walk_nrm
   (u_in (far_rely hF2) hF; rw [stepG_region_end]; simp only [goes_go]; refine ⟨by ((first | refine dr_none ?_ | refine dm_none ?_ | refine ds_none ?_); intro e he; simp at he), ?_⟩)
   (u_in (far_rely hF2) hF; rw [stepG_seq]; simp only [goes_go]; refine ⟨by ((first | refine dr_none ?_ | refine dm_none ?_ | refine ds_none ?_); intro e he; simp at he), ?_⟩)
   (u_in (far_rely hF2) hF; rw [stepG_region]; simp only [goes_go, List.size_toArray, List.length_cons, List.length_nil, Nat.reduceAdd, Nat.zero_add, List.range, List.range.loop]; refine ⟨by ((first | refine dr_none ?_ | refine dm_none ?_ | refine ds_none ?_); intro e he; simp at he), ?_⟩)
   iterate 3
    (u_in (far_rely hF2) hF
     refine goes_oper_k rfl rfl (by k_ne) (fun K hK => ?_)
     go_simp
     refine hK _ _ ⟨?_, ?_⟩
     ·(first | refine dr_none ?_ | refine dm_none ?_ | refine ds_none ?_)
      intro e he
      have hm := mem_listed he
      simp [go_sem, *] at hm
     clear hK K
     try w_num)
   (u_in (far_rely hF2) hF; refine goes_call rfl rfl (by k_ne) rfl H.f_uLoad (nm_uLoad lnk) rfl ⟨by ((first | refine dr_none ?_ | refine dm_none ?_ | refine ds_none ?_); intro e he; simp at he), ?_⟩; walk_nrmf uLoadFn)
   (u_in (far_rely hF2) hF; rw [stepG_seq]; simp only [goes_go]; refine ⟨by ((first | refine dr_none ?_ | refine dm_none ?_ | refine ds_none ?_); intro e he; simp at he), ?_⟩)
   (u_in (far_rely hF2) hF; rw [stepG_region]; simp only [goes_go, List.size_toArray, List.length_cons, List.length_nil, Nat.reduceAdd, Nat.zero_add, List.range, List.range.loop]; refine ⟨by ((first | refine dr_none ?_ | refine dm_none ?_ | refine ds_none ?_); intro e he; simp at he), ?_⟩)
   (u_in (far_rely hF2) hF
    refine goes_oper_k rfl rfl (by k_ne) (fun K hK => ?_)
    go_simp
    refine hK _ _ ⟨?_, ?_⟩
    ·(first | refine dr_none ?_ | refine dm_none ?_ | refine ds_none ?_)
     intro e he
     have hm := mem_listed he
     simp [go_sem, *] at hm
    clear hK K
    try w_num)
   (u_in (far_rely hF2) hF; rw [stepG_region_end]; simp only [goes_go]; refine ⟨by ((first | refine dr_none ?_ | refine dm_none ?_ | refine ds_none ?_); intro e he; simp at he), ?_⟩)
   (u_in (far_rely hF2) hF; rw [stepG_seq]; simp only [goes_go]; refine ⟨by ((first | refine dr_none ?_ | refine dm_none ?_ | refine ds_none ?_); intro e he; simp at he), ?_⟩)
   (u_in (far_rely hF2) hF; rw [stepG_region]; simp only [goes_go, List.size_toArray, List.length_cons, List.length_nil, Nat.reduceAdd, Nat.zero_add, List.range, List.range.loop]; refine ⟨by ((first | refine dr_none ?_ | refine dm_none ?_ | refine ds_none ?_); intro e he; simp at he), ?_⟩)
   iterate 3
    (u_in (far_rely hF2) hF
     refine goes_oper_k rfl rfl (by k_ne) (fun K hK => ?_)
     go_simp
     refine hK _ _ ⟨?_, ?_⟩
     ·(first | refine dr_none ?_ | refine dm_none ?_ | refine ds_none ?_)
      intro e he
      have hm := mem_listed he
      simp [go_sem, *] at hm
     clear hK K
     try w_num)
   refine Goes.stop (fun w₄ h₄ => ?_)
   replace hF := far_rely hF2 hF h₄
   clear h₄
   refine ⟨rfl, fun hw => ?_⟩
   replace hw : WgAt lnk.tWg s.Wg w₄ 0 0 := hw
   refine ⟨_, stepG_load_atomic (v := 0) rfl rfl (by k_ne) rfl H.f_loadU64 (x_loadU64_n lnk) (x_loadU64_b lnk) (x_loadU64_x lnk) .u64 (x_loadU64_f lnk) rfl hw.cellSt, 60, ?_⟩
   show Goes Try.prog true _ _ _ _ _ _
   clear hw
   walk_nrm
   (u_in (far_rely hF2) hF
    refine goes_oper_k rfl rfl (by k_ne) (fun K hK => ?_)
    go_simp
    refine hK _ _ ⟨?_, ?_⟩
    ·(first | refine dr_none ?_ | refine dm_none ?_ | refine ds_none ?_)
     intro e he
     have hm := mem_listed he
     simp [go_sem, *] at hm
    clear hK K
    try w_num)
   (u_in (far_rely hF2) hF; rw [stepG_region_end]; simp only [goes_go]; refine ⟨by ((first | refine dr_none ?_ | refine dm_none ?_ | refine ds_none ?_); intro e he; simp at he), ?_⟩)
   (u_in (far_rely hF2) hF; rw [stepG_ret']; simp only [goes_go]; refine ⟨by ((first | refine dr_none ?_ | refine dm_none ?_ | refine ds_none ?_); intro e he; simp at he), ?_⟩)
   (u_in (far_rely hF2) hF; refine goes_leave1 rfl rfl H.f_uLoad rfl ⟨by ((first | refine dr_none ?_ | refine dm_none ?_ | refine ds_none ?_); intro e he; simp at he), ?_⟩; walk_nrm)
   iterate 2
    (u_in (far_rely hF2) hF
     refine goes_oper_k rfl rfl (by k_ne) (fun K hK => ?_)
     go_simp
     refine hK _ _ ⟨?_, ?_⟩
     ·(first | refine dr_none ?_ | refine dm_none ?_ | refine ds_none ?_)
      intro e he
      have hm := mem_listed he
      simp [go_sem, *] at hm
     clear hK K
     try w_num)
   (u_in (far_rely hF2) hF; rw [stepG_region_end]; simp only [goes_go]; refine ⟨by ((first | refine dr_none ?_ | refine dm_none ?_ | refine ds_none ?_); intro e he; simp at he), ?_⟩)
   (u_in (far_rely hF2) hF; rw [stepG_seq]; simp only [goes_go]; refine ⟨by ((first | refine dr_none ?_ | refine dm_none ?_ | refine ds_none ?_); intro e he; simp at he), ?_⟩)
   (u_in (far_rely hF2) hF; rw [stepG_cond (t := true) (by first | rfl | (simp [Act.eval]; omega))]; simp only [goes_go, if_true, if_false, Bool.false_eq_true, ↓reduceIte]; refine ⟨by ((first | refine dr_none ?_ | refine dm_none ?_ | refine ds_none ?_); intro e he; simp at he), ?_⟩)
   (u_in (far_rely hF2) hF; rw [stepG_seq]; simp only [goes_go]; refine ⟨by ((first | refine dr_none ?_ | refine dm_none ?_ | refine ds_none ?_); intro e he; simp at he), ?_⟩)
   (u_in (far_rely hF2) hF; rw [stepG_region]; simp only [goes_go, List.size_toArray, List.length_cons, List.length_nil, Nat.reduceAdd, Nat.zero_add, List.range, List.range.loop]; refine ⟨by ((first | refine dr_none ?_ | refine dm_none ?_ | refine ds_none ?_); intro e he; simp at he), ?_⟩)
   refine Goes.stop (fun w₅ h₅ => ?_)
   replace hF := far_rely hF2 hF h₅
   clear h₅
   refine ⟨rfl, _, stepG_mark0 .enable (by simp) rfl rfl (by k_ne) rfl H.f_enable (x_enable_n lnk) (x_enable_b lnk) (x_enable_x lnk) (x_enable_f lnk), 30, ?_⟩
   show Goes Try.prog true _ _ _ _ _ _
   walk_nrm
   (u_in (far_rely hF2) hF; rw [stepG_region_end]; simp only [goes_go]; refine ⟨by ((first | refine dr_none ?_ | refine dm_none ?_ | refine ds_none ?_); intro e he; simp at he), ?_⟩)
   (u_in (far_rely hF2) hF; rw [stepG_region]; simp only [goes_go, List.size_toArray, List.length_cons, List.length_nil, Nat.reduceAdd, Nat.zero_add, List.range, List.range.loop]; refine ⟨by ((first | refine dr_none ?_ | refine dm_none ?_ | refine ds_none ?_); intro e he; simp at he), ?_⟩)
   (u_in (far_rely hF2) hF
    refine goes_oper_k rfl rfl (by k_ne) (fun K hK => ?_)
    go_simp
    refine hK _ _ ⟨?_, ?_⟩
    ·(first | refine dr_none ?_ | refine dm_none ?_ | refine ds_none ?_)
     intro e he
     have hm := mem_listed he
     simp [go_sem, *] at hm
    clear hK K
    try w_num)
   (u_in (far_rely hF2) hF
    refine goes_oper_k rfl rfl (by k_ne) (fun Kx hKx => ?_)
    have hcv := run_convert_to_unsafe (P := Try.prog) H.underlying_tWgP wgLib.underlying_tUP H.room_tWg (live0 hF.2).choose_spec
    have hce := fun es => events_convert_to_unsafe (P := Try.prog) H.underlying_tWgP wgLib.underlying_tUP H.room_tWg (live0 hF.2).choose_spec es
    go_simp
    refine hKx _ _ ⟨?_, ?_⟩
    ·(first | refine dr_none ?_ | refine dm_none ?_ | refine ds_none ?_)
     intro ex hex
     have hmx := mem_listed hex
     simp [go_sem, hce] at hmx
    clear hKx Kx hcv hce)
   skip
   refine Goes.stop (fun w₆ h₆ => ?_)
   replace hF := far_rely hF2 hF h₆
   clear h₆
   refine ⟨rfl, _, stepG_markAt .acquire (by simp) rfl rfl (by k_ne) rfl H.f_acquire (x_acquire_n lnk) (x_acquire_b lnk) (x_acquire_x lnk) (x_acquire_f lnk) (by simp [Act.eval, stA] <;> rfl), hP _ _ ⟨hF.1, 40, ?_⟩⟩
   show Goes Try.prog true _ _ _ _ _ _
   clear hF
   have hF : True := trivial
   walk_nrm
   (u_in rt_on hF; rw [stepG_region_end]; simp only [goes_go]; refine ⟨by ((first | refine dr_none ?_ | refine dm_none ?_ | refine ds_none ?_); intro e he; simp at he), ?_⟩)
   iterate 2
    (u_in rt_on hF; rw [stepG_seq]; simp only [goes_go]; refine ⟨by ((first | refine dr_none ?_ | refine dm_none ?_ | refine ds_none ?_); intro e he; simp at he), ?_⟩)
   (u_in rt_on hF; rw [stepG_region]; simp only [goes_go, List.size_toArray, List.length_cons, List.length_nil, Nat.reduceAdd, Nat.zero_add, List.range, List.range.loop]; refine ⟨by ((first | refine dr_none ?_ | refine dm_none ?_ | refine ds_none ?_); intro e he; simp at he), ?_⟩)
   (u_in rt_on hF
    refine goes_oper_k rfl rfl (by k_ne) (fun K hK => ?_)
    go_simp
    refine hK _ _ ⟨?_, ?_⟩
    ·(first | refine dr_none ?_ | refine dm_none ?_ | refine ds_none ?_)
     intro e he
     have hm := mem_listed he
     simp [go_sem, *] at hm
    clear hK K
    try w_num)
   (u_in rt_on hF; rw [stepG_region_end]; simp only [goes_go]; refine ⟨by ((first | refine dr_none ?_ | refine dm_none ?_ | refine ds_none ?_); intro e he; simp at he), ?_⟩)
   (u_in rt_on hF; rw [stepG_cond (t := false) (by first | rfl | (simp [Act.eval]; omega))]; simp only [goes_go, if_true, if_false, Bool.false_eq_true, ↓reduceIte]; refine ⟨by ((first | refine dr_none ?_ | refine dm_none ?_ | refine ds_none ?_); intro e he; simp at he), ?_⟩)
   (u_in rt_on hF; rw [stepG_skip]; simp only [goes_go]; refine ⟨by ((first | refine dr_none ?_ | refine dm_none ?_ | refine ds_none ?_); intro e he; simp at he), ?_⟩)
   (u_in rt_on hF; rw [stepG_ret']; simp only [goes_go]; refine ⟨by ((first | refine dr_none ?_ | refine dm_none ?_ | refine ds_none ?_); intro e he; simp at he), ?_⟩)
   (u_in rt_on hF; refine goes_leave0 rfl rfl H.f_wait rfl ⟨by ((first | refine dr_none ?_ | refine dm_none ?_ | refine ds_none ?_); intro e he; simp at he), ?_⟩; walk_nrm)
   exact Goes.stop (fun _ _ => rfl)
  ·replace hw : WgAt lnk.tWg s.Wg w₂ ((v' : Int) * KK) 0 := hw
   refine ⟨_, stepG_cas_miss (v := (v' : Int) * KK) (old := S) (n := S + 1) rfl rfl (by k_ne) rfl H.f_casU64 (x_casU64_n lnk) (x_casU64_b lnk) (x_casU64_x lnk) .u64 (x_casU64_f lnk) rfl rfl rfl hw.cellSt (hw.thaw 0) (by rw [← hS]; simp only [KK]; omega), 40, ?_⟩
   show Goes Try.prog true _ _ _ _ _ _
   clear hw
   walk_nrm
   (u_in (far_rely hF2) hF
    refine goes_oper_k rfl rfl (by k_ne) (fun K hK => ?_)
    go_simp
    refine hK _ _ ⟨?_, ?_⟩
    ·(first | refine dr_none ?_ | refine dm_none ?_ | refine ds_none ?_)
     intro e he
     have hm := mem_listed he
     simp [go_sem, *] at hm
    clear hK K
    try w_num)
   (u_in (far_rely hF2) hF; rw [stepG_region_end]; simp only [goes_go]; refine ⟨by ((first | refine dr_none ?_ | refine dm_none ?_ | refine ds_none ?_); intro e he; simp at he), ?_⟩)
   (u_in (far_rely hF2) hF; rw [stepG_ret']; simp only [goes_go]; refine ⟨by ((first | refine dr_none ?_ | refine dm_none ?_ | refine ds_none ?_); intro e he; simp at he), ?_⟩)
   (u_in (far_rely hF2) hF; refine goes_leave1 rfl rfl H.f_uCas rfl ⟨by ((first | refine dr_none ?_ | refine dm_none ?_ | refine ds_none ?_); intro e he; simp at he), ?_⟩; walk_nrm)
   (u_in (far_rely hF2) hF; rw [stepG_region_end]; simp only [goes_go]; refine ⟨by ((first | refine dr_none ?_ | refine dm_none ?_ | refine ds_none ?_); intro e he; simp at he), ?_⟩)
   (u_in (far_rely hF2) hF; rw [stepG_cond (t := false) (by first | rfl | (simp [Act.eval]; omega))]; simp only [goes_go, if_true, if_false, Bool.false_eq_true, ↓reduceIte]; refine ⟨by ((first | refine dr_none ?_ | refine dm_none ?_ | refine ds_none ?_); intro e he; simp at he), ?_⟩)
   (u_in (far_rely hF2) hF; rw [stepG_skip]; simp only [goes_go]; refine ⟨by ((first | refine dr_none ?_ | refine dm_none ?_ | refine ds_none ?_); intro e he; simp at he), ?_⟩)
   (u_in (far_rely hF2) hF; rw [stepG_inBlock]; simp only [goes_go]; refine ⟨by ((first | refine dr_none ?_ | refine dm_none ?_ | refine ds_none ?_); intro e he; simp at he), ?_⟩)
   (u_in (far_rely hF2) hF; rw [stepG_inLoop]; simp only [goes_go]; refine ⟨by ((first | refine dr_none ?_ | refine dm_none ?_ | refine ds_none ?_); intro e he; simp at he), ?_⟩)
   exact Goes.stop (fun w₃ h₃ => hA _ _ ⟨_, rfl, by simp, by simp, far_rely hF2 hF h₃⟩)
end
end Go.Proofs.Ytilpedopnkhppaa.Mx

/- atOnce from the head of its first loop on: all senders, all takes, Wait. Conditions: each theorem's own. -/
namespace Go.Proofs.Ytilpedopnkhppaa.MxS
open Go.Conc Go.Conc.Lib Br Go.RowKit Hp Rw Ro Go.Proofs.Ytilpedopnkhppaa.Mx
theorem goes_mono {P : Program} {main : Bool} {Rl : World → World → Prop} {D : World → World → Array Event → Prop} {St St' : Goroutine → World → Prop} (h : ∀ g w, St g w → St' g w) : ∀ {n : Nat} {g : Goroutine} {w : World}, Goes P main Rl D St n g w → Goes P main Rl D St' n g w := by
 intro n
 induction n with
 | zero => exact fun {g w} hg => fun w₁ hw => h _ _ (hg w₁ hw)
 | succ n ih =>
  intro g w hg
  rcases hg with hg | ⟨hs, hg⟩
  ·exact .inl fun w₁ hw => h _ _ (hg w₁ hw)
  ·refine .inr ⟨hs, fun w₁ hw => ?_⟩
   have := hg w₁ hw
   cases e : stepG P main g w₁ with
   | go g' w' es => rw [e] at this; exact ⟨this.1, ih this.2⟩
   | _ => rw [e] at this; exact this.elim
section
variable {s : Grp} {X : Sh} {Anch Post : Goroutine → World → Prop} {first : Int} {vals : Nat → List ByteArray} {wy N : Nat} {v0 v v' w' vM : World} {h lb lo cl r : Nat} {T : Nat → Nat} {al : Value} {L : List It}
def Fin (s : Grp) (X : Sh) (first : Int) (vals : Nat → List ByteArray) (wy N : Nat) (vM : World) (al : Value) (w : World) : Prop :=
 ∃ v, Like (s.Sd X s.n) w v ∧ Rw.Row iT v s.M al (allOf s first vals N) ∧ s.M + 5 * s.n ≤ v.heap.size ∧ ∀ b, b < s.M → b ≠ wy → v.heap[b]? = vM.heap[b]?
theorem fin_far {w w₁ : World} (hf : (phI s zN Anch Post).Far s.n w w₁) : Fin s X first vals wy N vM al w → Fin s X first vals wy N vM al w₁ := fun ⟨v, h1, h2⟩ => ⟨v, far_on hf h1, h2⟩
theorem wayC_T : wayC s first s.n N = wayT (wfN s first) (wcT s zN Anch Post Ph.T00) (fun _ => nilS) N := by
 unfold wayC wayT
 refine List.map_congr_left fun i _ => ?_
 unfold wayV wfN
 have e : wcT s zN Anch Post Ph.T00 (i / 3) = if i / 3 < s.n then some (s.chan (i / 3)) else none := by
  by_cases hk : i / 3 < s.n
  ·rw [wcT_some ⟨hk, Nat.zero_le _⟩, if_pos hk]
  ·rw [wcT_none (fun h => hk h.1), if_neg hk]
 rw [e]
 by_cases hk : i / 3 < s.n
 ·simp only [hk, if_true]
 ·simp only [hk, if_false]
structure LsM (s : Grp) (Anch Post : Goroutine → World → Prop) (vals : Nat → List ByteArray) (wy : Nat) (vM : World) : Prop where
 len : ∀ k, k < s.n → (vals k).length = lenv s Anch Post k
 none : ∀ k, s.n ≤ k → vals k = []
 hwy : wy < s.M
 at_ : ∀ (k i : Nat) (x : ByteArray), k < s.n → (vals k)[i]? = some x → ∃ q : Addr, ((phI s zN Anch Post).vs k)[i]? = some (Value.pointer (some q)) ∧ q.block < s.M ∧ q.block ≠ wy ∧ vM.cell? q = some (Value.string x)
set_option maxRecDepth 100000 in
set_option maxHeartbeats 4000000 in
theorem atOnceGoes (hX : ShunIn X s.Shun) (hXM : ∀ b, X b → b < s.M) (hk : (phI s zN Anch Post).Ok) (hB : s.M + 5 * s.n ≤ s.B) (hWM : s.Wg < s.M) (hlM : lb < s.M) (hlw : lb ≠ wy) {q : Nat} (hq : s.n = q + 1)
  (hz : ∀ k, s.ad k = none → s.len k = 0) (hn : ∀ k, s.len k < 9223372036854775807) (hNn : s.n ≤ N) (hN9 : N < 1000000) (hev : 2 * r = N) (hf0 : 0 ≤ first) (hf1 : first + (s.n : Int) < 9223372036854775807)
  (hL : LsM s Anch Post vals wy vM) (hv9 : ∀ k, (vals k).length ≤ 100000) (hsm : ∀ h, h ≤ N → (allOf s first vals h).length ≤ 900000)
  {bA : Frame} (hbA : bA.kind = .normal) {kA : List Item} {csA : List Frame}
  (hA : ∀ t al g w, FT s al wy N first N t → AnchW s.Wg (Fin s X first vals wy N vM al) (bA.at ⟨t, []⟩ (.inRegion (tk17 (sndOf spa)) [0] :: .code (sndOf (sndOf spa)) :: kA)) csA g w → Anch g w)
  {t : Array Value} (ht : FR s nilS lb lo cl wy N first 0 t) {w v : World} (hl : Like (s.Sd X 0) w v) (hsz : v.heap.size = s.M + 5 * 0) (hi : SpI s lb lo wy N first (fun v => ∀ b, b < s.M → b ≠ wy → v.heap[b]? = vM.heap[b]?) 0 v) (hlive : (phI s zN Anch Post).Live w) :
  Goes Try.prog true ((phI s zN Anch Post).Far 0) ((phI s zN Anch Post).DM 0) ((phI s zN Anch Post).U1 0 ((phI s zN Anch Post).Spawns ((phI s zN Anch Post).Takes (rem s.n (lenv s Anch Post) Ph.T00) Ph.T00) q)) 1000 (G (bA.at ⟨t, []⟩ (.code spc :: .inLoop spc :: .inBlock 0 :: .code spa :: kA)) csA) w := by
 have hwM := hL.hwy
 have key := spawns (s := s) (X := X) (z := zN) (al := nilS) (Anch := Anch) (Post := Post) (lo := lo) (cl := cl) (wy := wy) (N := N) (first := first) hX hXM hk hB hWM hwM hlM hlw (by omega) hz hn hNn (by omega) hf0 hf1
  (Rest := fun v => ∀ b, b < s.M → b ≠ wy → v.heap[b]? = vM.heap[b]?) (fun v v' e h b h1 h2 => (e b h1 h2).trans (h b h1 h2)) hbA (k := .inBlock 0 :: .code spa :: kA) (cs := csA)
  (Fin := (phI s zN Anch Post).Takes (rem s.n (lenv s Anch Post) Ph.T00) Ph.T00) (StF := (phI s zN Anch Post).TStop (rem s.n (lenv s Anch Post) Ph.T00) Ph.T00) (mF := 3 + 40 + 400 * r + 20)
  (fun g w m hg => ((phI s zN Anch Post).takes_iff _ _ _ _).2 ⟨m, hg⟩) (fun t w v ht hl hs hi hlive => ?_) q 0 (by omega) t w v ht hl hsz hi hlive
 ·exact key
 ·refine spOut hX (Inv := fun v => Hp.Blk v wy (wayC s first s.n N) 117 ∧ ∀ b, b < s.M → b ≠ wy → v.heap[b]? = vM.heap[b]?) (fun v v' e i => ⟨i.1.heap (by rw [e]), fun b h1 h2 => by rw [e]; exact i.2 b h1 h2⟩) hbA (k := kA) (fun t w v ht hl hs hi hlive => ?_) ht hl hs ⟨hi.ways, hi.rest⟩ hlive rfl rfl
  have hLv : Ls s Anch Post vals wy v := ⟨hL.len, hL.none, by omega, fun k i x hk hx => by
   obtain ⟨qa, h1, h2, h3, h4⟩ := hL.at_ k i x hk hx
   exact ⟨_, h1, by omega, h3, by rw [World.cell?, hi.2 _ h2 h3]; exact h4⟩⟩
  have hvs : s.M + 5 * s.n ≤ v.heap.size := Nat.le_of_eq hs.symm
  refine pairs (F := 3 + 40) hX hLv hv9 hN9 hsm hbA (kk := .inBlock 2 :: .code (sndOf spa) :: kA) (fun T al t w v' m hT hi' ht hl hlive _ => ?_) hNn r 0 Ph.T00 nilS w v t _ (by omega) (fun k _ => Nat.zero_le _) (fun k hk => by omega) (fun k _ => rfl)
   ⟨by rw [← wayC_T]; exact hi.1, Rw.Row.none iT v _, ⟨Nat.le_refl _, fun _ _ _ => rfl⟩⟩ ht hl hlive (Nat.le_refl _)
  refine tkOut hX (Inv := HI s Anch Post first wy N v T al (allOf s first vals N)) (fun v v' e i => i.heap e) hN9 (Nat.le_refl _) hbA (k := kA) (fun t w v' ht hl hi' hlive => ?_) ht hl hi' hlive rfl rfl
  refine goes_mono (St := (phI s zN Anch Post).V1) (fun g w hg => Or.inr ⟨hT, hg⟩) ?_
  exact waitStart (F := Fin s X first vals wy N vM al) (fun w w₁ hf => fin_far hf) (fun g w hg => hA t al g w ht hg) w
   ⟨⟨v', hl, hi'.ra.base fun g hg => by have := (hi'.ra.lt g hg).1; omega, Nat.le_trans hvs hi'.kh.size, fun b h1 h2 => by rw [hi'.kh.same b (by omega) h2]; exact hi.2 b h1 h2⟩, hlive⟩
end
end Go.Proofs.Ytilpedopnkhppaa.MxS

/- The phase of atOnce: what its machine's text asks for holds. Conditions: each theorem's own. -/
namespace Go.Proofs.Ytilpedopnkhppaa.MxS
open Go.Conc Go.Conc.Lib Br Go.RowKit Hp Rw Ro Go.Proofs.Ytilpedopnkhppaa.Mx
open Go.ConcR (WgAt)
section
variable (s : Grp) (X : Sh) (first : Int) (vals : Nat → List ByteArray) (wy N : Nat) (vM : World) (bA : Frame) (kA : List Item) (csA : List Frame)
def AnchG (g : Goroutine) (w : World) : Prop := ∃ t al, FT s al wy N first N t ∧ AnchW s.Wg (Fin s X first vals wy N vM al) (bA.at ⟨t, []⟩ (.inRegion (tk17 (sndOf spa)) [0] :: .code (sndOf (sndOf spa)) :: kA)) csA g w
def PostG (g : Goroutine) (w : World) : Prop := ∃ t al, FT s al wy N first N t ∧ PostW (Fin s X first vals wy N vM al) (G (bA.at (Act.put ⟨t, []⟩ (((tk17 (sndOf spa))[0]?).bind (·.dst)) (.tuple #[])) (.inRegion (tk17 (sndOf spa)) [] :: .code (sndOf (sndOf spa)) :: kA)) csA) g w
noncomputable abbrev phG : Ph := phI s zN (AnchG s X first vals wy N vM bA kA csA) (PostG s X first vals wy N vM bA kA csA)
end
section
variable {s : Grp} {X : Sh} {first : Int} {vals : Nat → List ByteArray} {wy N : Nat} {vM : World} {bA : Frame} {kA : List Item} {csA : List Frame}
theorem elems0 (a : Option Addr) : Grp.elems a 0 = [] := by cases a <;> simp [Grp.elems]
theorem okG (hX : ShunIn X s.Shun) (hXM : ∀ b, X b → b < s.M) (hb : 1 ≤ s.b) (hn31 : s.n < 2147483648) (hB : s.M + 5 * s.n ≤ s.B) (hWM : s.Wg < s.M) (hWB : s.Wg < s.B) :
  (phG s X first vals wy N vM bA kA csA).Ok where
 b1 := hb
 n31 := hn31
 chInj := fun k k' _ _ h => by
  have : s.M + 5 * k + 1 = s.M + 5 * k' + 1 := h
  omega
 chWg := fun k _ h => by
  have : s.M + 5 * k + 1 = s.Wg := h
  omega
 kFar := fun k w w₁ hk hf hb => by
  have hk' : k < s.n := hk
  have nb : ∀ i, i < 5 → i ≠ 1 → w₁.heap[s.M + 5 * k + i]? = w.heap[s.M + 5 * k + i]? := fun i h5 h1 => hf.block _ (fun e => by have : s.M + 5 * k + i = s.Wg := e; omega) (fun k' _ e => by have : s.M + 5 * k + i = s.M + 5 * k' + 1 := e; omega)
  have hb' : s.Boxes _ _ _ k w := hb
  exact ⟨(nb 0 (by omega) (by omega)).trans hb'.l, (nb 2 (by omega) (by omega)).trans hb'.i, (nb 3 (by omega) (by omega)).trans hb'.g, (nb 4 (by omega) (by omega)).trans hb'.f⟩
 rdMem := fun k l h => by
  rcases h with rfl | ⟨a, rfl, _⟩ <;> rfl
 rdNo := fun k l h hs => by
  rcases h with rfl | ⟨a, rfl, h1, h2⟩
  ·rcases hs with hs | ⟨a, ha, _⟩
   ·obtain ⟨a, ha, _⟩ := hX _ hs
    cases ha
   ·cases ha
  ·rcases hs with hs | ⟨b, hb, hw⟩
   ·obtain ⟨b, hb, hx⟩ := hX _ hs
    cases hb
    have := hXM _ hx
    omega
   ·cases hb
    have : a.block = s.Wg := hw
    omega
 rdObj := fun k _ => Or.inl rfl
 lowWg := hWB
 chLow := fun k hk => by
  have hk' : k < s.n := hk
  show s.M + 5 * k + 1 < s.B
  omega
 capOk := fun k _ => by
  by_cases h0 : s.len k = 0
  ·left
   show Grp.elems (s.ad k) (s.len k) = []
   rw [h0, elems0]
  ·right
   show 1 ≤ min (s.len k) 64
   omega
 anRun := fun g w ⟨t, al, _, T, hg, _⟩ => by rw [hg]; rfl
 an := fun g w ⟨t, al, ht, hg⟩ =>
  waitRound (F := Fin s X first vals wy N vM al) hWB (fun k _ h => by
   rcases h with h | ⟨a, ha, h1, _⟩
   ·cases h
   ·cases ha
    have : s.M + 5 * k ≤ s.Wg := h1
    omega) (fun w w₁ hf => fin_far hf) (fun g w hg => ⟨t, al, ht, hg⟩) (fun g w hg => ⟨t, al, ht, hg⟩) g w hg
end
end Go.Proofs.Ytilpedopnkhppaa.MxS

