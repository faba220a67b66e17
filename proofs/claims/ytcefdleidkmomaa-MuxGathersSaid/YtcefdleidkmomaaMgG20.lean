/- Wait, by the starter, in company: from its entry to behind its acquire. Conditions: each theorem's own. -/
import Derived.Test.YtcefdleidkmomaaMgG13
set_option linter.unusedVariables false
set_option linter.unusedSimpArgs false
namespace Go.Proofs.Ytcefdleidkmomaa.Mx
open Go.Conc Go.Conc.Lib Go.ConcR.Gen Go.RowKit
open Go.ConcR (KK DC0 Payload wgBlock WgAt stA smA rd wr)
open Go.ConcN.Gen (WgLive.cell0 WgLive.cell1)
open Go.ConcN (st_flag st_waiters)
/-- A silent step. -/
def DS (w w' : World) (es : Array Event) : Prop := w' = w ∧ ∀ e ∈ es, False
def RT (_ _ : World) : Prop := True
theorem ds_none {w : World} {es : Array Event} (h : ∀ e ∈ es, False) : DS w w es := ⟨rfl, h⟩
theorem rt_on {α : Prop} {w w₁ : World} (h : α) (_ : RT w w₁) : α := h
/-- Silently to there, whatever the world. -/
def Slips (g g' : Goroutine) : Prop := ∃ m, Goes Try.prog true RT DS (fun h _ => h = g') m g default
/-- At the head of Wait's loop. -/
def AnchW (wg : Nat) (F : World → Prop) (c : Frame) (cs : List Frame) (g : Goroutine) (w : World) : Prop :=
  ∃ T : Array Value, g = G ((base lnk.wait).at ⟨T, []⟩ [.code (L7 lnk), .inLoop (L7 lnk), .inBlock 0]) (c :: cs) ∧ T.size = 84 ∧ T[0]? = some (.pointer (some ⟨wg, 0, none⟩)) ∧ F w ∧ ∃ st sm, WgAt lnk.tWg wg w st sm
/-- Behind its acquire: nothing is left but to go back to who called it. -/
def PostW (F : World → Prop) (g' : Goroutine) (g : Goroutine) (w : World) : Prop := F w ∧ Slips g g'
section
variable {s : Grp} {f : FuncId} {tL tC : TypeId} {z : Value} {F : World → Prop} {Anch Post : Goroutine → World → Prop}
  {b₀ : Frame} {a₀ : Act} {ops₀ : Array Oper} {i₀ : Nat} {rest₀ : List Nat} {k₀ : List Item} {cs : List Frame}
set_option maxRecDepth 100000 in
theorem waitStart (hF2 : ∀ w w₁, (s.ph f tL tC z Anch Post).Far s.n w w₁ → F w → F w₁) (hA : ∀ g w, AnchW s.Wg F (b₀.at a₀ (.inRegion ops₀ (i₀ :: rest₀) :: k₀)) cs g w → Anch g w)
    (w : World) (hF : F w ∧ (s.ph f tL tC z Anch Post).Live w) :
    Goes Try.prog true ((s.ph f tL tC z Anch Post).Far s.n) ((s.ph f tL tC z Anch Post).DM s.n) (s.ph f tL tC z Anch Post).V1 3
      (G ((base lnk.wait).at ⟨#[.pointer (some ⟨s.Wg, 0, none⟩)] ++ Array.replicate 83 undef, []⟩ [.code (body_wait lnk)]) (b₀.at a₀ (.inRegion ops₀ (i₀ :: rest₀) :: k₀) :: cs)) w := by
  have H := wgLib
  lib_facts
  simp only [body_wait, waitFn, Option.getD_some, Array.replicate, List.replicate, List.append_toArray, List.cons_append, List.nil_append]
  (u_in (far_rely hF2) hF; rw [stepG_seq]; simp only [goes_go]; refine ⟨by ((first | refine dr_none ?_ | refine dm_none ?_ | refine ds_none ?_); intro e he; simp at he), ?_⟩)
  (u_in (far_rely hF2) hF; rw [stepG_cond (t := true) rfl]; simp only [goes_go, if_true, if_false, Bool.false_eq_true, ↓reduceIte]; refine ⟨by ((first | refine dr_none ?_ | refine dm_none ?_ | refine ds_none ?_); intro e he; simp at he), ?_⟩)
  (u_in (far_rely hF2) hF; rw [stepG_region]; simp only [goes_go, List.size_toArray, List.length_cons, List.length_nil, Nat.reduceAdd, Nat.zero_add, List.range, List.range.loop]; refine ⟨by ((first | refine dr_none ?_ | refine dm_none ?_ | refine ds_none ?_); intro e he; simp at he), ?_⟩)
  refine Goes.stop (fun w₁ h₁ => ?_)
  replace hF := far_rely hF2 hF h₁
  clear h₁
  refine ⟨rfl, _, stepG_mark0 .disable (by simp) rfl rfl (by k_ne) rfl H.f_disable (x_disable_n lnk) (x_disable_b lnk) (x_disable_x lnk) (x_disable_f lnk), 3, ?_⟩
  show Goes Try.prog true _ _ _ _ _ _
  walk_nrm
  (u_in (far_rely hF2) hF; rw [stepG_region_end]; simp only [goes_go]; refine ⟨by ((first | refine dr_none ?_ | refine dm_none ?_ | refine ds_none ?_); intro e he; simp at he), ?_⟩)
  (u_in (far_rely hF2) hF; rw [stepG_block]; simp only [goes_go]; refine ⟨by ((first | refine dr_none ?_ | refine dm_none ?_ | refine ds_none ?_); intro e he; simp at he), ?_⟩)
  (u_in (far_rely hF2) hF; rw [stepG_loop]; simp only [goes_go]; refine ⟨by ((first | refine dr_none ?_ | refine dm_none ?_ | refine ds_none ?_); intro e he; simp at he), ?_⟩)
  exact Goes.stop (fun w₂ h₂ => hA _ _ ⟨_, rfl, by simp, by simp, far_rely hF2 hF h₂⟩)
set_option maxRecDepth 100000 in
set_option maxHeartbeats 8000000 in
theorem waitRound (hWB : s.Wg < s.B) (hRd : ∀ k, k < s.n → ¬ s.Rd k (.cell ⟨s.Wg, 1, none⟩)) (hF2 : ∀ w w₁, (s.ph f tL tC z Anch Post).Far s.n w w₁ → F w → F w₁) (hA : ∀ g w, AnchW s.Wg F (b₀.at a₀ (.inRegion ops₀ (i₀ :: rest₀) :: k₀)) cs g w → Anch g w)
    (hP : ∀ g w, PostW F (G (b₀.at (a₀.put ((ops₀[i₀]?).bind (·.dst)) (.tuple #[])) (.inRegion ops₀ rest₀ :: k₀)) cs) g w → Post g w)
    (g : Goroutine) (w : World) (h : AnchW s.Wg F (b₀.at a₀ (.inRegion ops₀ (i₀ :: rest₀) :: k₀)) cs g w) :
    ∃ m, Goes Try.prog true ((s.ph f tL tC z Anch Post).Far s.n) ((s.ph f tL tC z Anch Post).DM s.n) (s.ph f tL tC z Anch Post).V2 m g w := by
  have H := wgLib
  lib_facts
  obtain ⟨T, rfl, hT84, t0, hF⟩ := h
  obtain ⟨v0, v1, v2, v3, v4, v5, v6, v7, v8, v9, v10, v11, v12, v13, v14, v15, v16, v17, v18, v19, v20, v21, v22, v23, v24, v25, v26, v27, v28, v29, v30, v31, v32, v33, v34, v35, v36, v37, v38, v39, v40, v41, v42, v43, v44, v45, v46, v47, v48, v49, v50, v51, v52, v53, v54, v55, v56, v57, v58, v59, v60, v61, v62, v63, v64, v65, v66, v67, v68, v69, v70, v71, v72, v73, v74, v75, v76, v77, v78, v79, v80, v81, v82, v83, rfl⟩ := array84 T hT84
  simp only [List.getElem?_toArray, List.getElem?_cons_zero, Option.some.injEq] at t0
  subst t0
  refine ⟨30, ?_⟩
  simp only [L7, body_wait, waitFn, Option.getD_some]
  (u_in (far_rely hF2) hF; rw [stepG_block]; simp only [goes_go]; refine ⟨by ((first | refine dr_none ?_ | refine dm_none ?_ | refine ds_none ?_); intro e he; simp at he), ?_⟩)
  (u_in (far_rely hF2) hF; rw [stepG_seq]; simp only [goes_go]; refine ⟨by ((first | refine dr_none ?_ | refine dm_none ?_ | refine ds_none ?_); intro e he; simp at he), ?_⟩)
  (u_in (far_rely hF2) hF; rw [stepG_region]; simp only [goes_go, List.size_toArray, List.length_cons, List.length_nil, Nat.reduceAdd, Nat.zero_add, List.range, List.range.loop]; refine ⟨by ((first | refine dr_none ?_ | refine dm_none ?_ | refine ds_none ?_); intro e he; simp at he), ?_⟩)
  (u_in (far_rely hF2) hF
   refine goes_oper_k rfl rfl (by k_ne) (fun K hK => ?_)
   go_simp
   refine hK _ _ ⟨?_, ?_⟩
   · (first | refine dr_none ?_ | refine dm_none ?_ | refine ds_none ?_)
     intro e he
     have hm := mem_listed he
     simp [go_sem, *] at hm
   clear hK K
   try w_num)
  (u_in (far_rely hF2) hF
   refine goes_oper_k rfl rfl (by k_ne) (fun K hK => ?_)
   go_simp
   refine hK _ _ ⟨?_, ?_⟩
   · (first | refine dr_none ?_ | refine dm_none ?_ | refine ds_none ?_)
     intro e he
     have hm := mem_listed he
     simp [go_sem, *] at hm
   clear hK K
   try w_num)
  (u_in (far_rely hF2) hF
   refine goes_oper_k rfl rfl (by k_ne) (fun K hK => ?_)
   go_simp
   refine hK _ _ ⟨?_, ?_⟩
   · (first | refine dr_none ?_ | refine dm_none ?_ | refine ds_none ?_)
     intro e he
     have hm := mem_listed he
     simp [go_sem, *] at hm
   clear hK K
   try w_num)
  (u_in (far_rely hF2) hF; refine goes_call rfl rfl (by k_ne) rfl H.f_uLoad (nm_uLoad lnk) rfl ⟨by ((first | refine dr_none ?_ | refine dm_none ?_ | refine ds_none ?_); intro e he; simp at he), ?_⟩; walk_nrmf uLoadFn)
  (u_in (far_rely hF2) hF; rw [stepG_seq]; simp only [goes_go]; refine ⟨by ((first | refine dr_none ?_ | refine dm_none ?_ | refine ds_none ?_); intro e he; simp at he), ?_⟩)
  (u_in (far_rely hF2) hF; rw [stepG_region]; simp only [goes_go, List.size_toArray, List.length_cons, List.length_nil, Nat.reduceAdd, Nat.zero_add, List.range, List.range.loop]; refine ⟨by ((first | refine dr_none ?_ | refine dm_none ?_ | refine ds_none ?_); intro e he; simp at he), ?_⟩)
  (u_in (far_rely hF2) hF
   refine goes_oper_k rfl rfl (by k_ne) (fun K hK => ?_)
   go_simp
   refine hK _ _ ⟨?_, ?_⟩
   · (first | refine dr_none ?_ | refine dm_none ?_ | refine ds_none ?_)
     intro e he
     have hm := mem_listed he
     simp [go_sem, *] at hm
   clear hK K
   try w_num)
  (u_in (far_rely hF2) hF; rw [stepG_region_end]; simp only [goes_go]; refine ⟨by ((first | refine dr_none ?_ | refine dm_none ?_ | refine ds_none ?_); intro e he; simp at he), ?_⟩)
  (u_in (far_rely hF2) hF; rw [stepG_seq]; simp only [goes_go]; refine ⟨by ((first | refine dr_none ?_ | refine dm_none ?_ | refine ds_none ?_); intro e he; simp at he), ?_⟩)
  (u_in (far_rely hF2) hF; rw [stepG_region]; simp only [goes_go, List.size_toArray, List.length_cons, List.length_nil, Nat.reduceAdd, Nat.zero_add, List.range, List.range.loop]; refine ⟨by ((first | refine dr_none ?_ | refine dm_none ?_ | refine ds_none ?_); intro e he; simp at he), ?_⟩)
  (u_in (far_rely hF2) hF
   refine goes_oper_k rfl rfl (by k_ne) (fun K hK => ?_)
   go_simp
   refine hK _ _ ⟨?_, ?_⟩
   · (first | refine dr_none ?_ | refine dm_none ?_ | refine ds_none ?_)
     intro e he
     have hm := mem_listed he
     simp [go_sem, *] at hm
   clear hK K
   try w_num)
  (u_in (far_rely hF2) hF
   refine goes_oper_k rfl rfl (by k_ne) (fun K hK => ?_)
   go_simp
   refine hK _ _ ⟨?_, ?_⟩
   · (first | refine dr_none ?_ | refine dm_none ?_ | refine ds_none ?_)
     intro e he
     have hm := mem_listed he
     simp [go_sem, *] at hm
   clear hK K
   try w_num)
  (u_in (far_rely hF2) hF
   refine goes_oper_k rfl rfl (by k_ne) (fun K hK => ?_)
   go_simp
   refine hK _ _ ⟨?_, ?_⟩
   · (first | refine dr_none ?_ | refine dm_none ?_ | refine ds_none ?_)
     intro e he
     have hm := mem_listed he
     simp [go_sem, *] at hm
   clear hK K
   try w_num)
  refine Goes.stop (fun w₁ h₁ => ?_)
  replace hF := far_rely hF2 hF h₁
  clear h₁
  refine ⟨rfl, fun v hv hw => ?_⟩
  replace hw : WgAt lnk.tWg s.Wg w₁ ((v : Int) * KK) 0 := hw
  rcases Nat.eq_zero_or_pos v with rfl | hvp
  · replace hw : WgAt lnk.tWg s.Wg w₁ 0 0 := by simpa using hw
    refine ⟨_, stepG_load_atomic (v := 0) rfl rfl (by k_ne) rfl H.f_loadU64 (x_loadU64_n lnk) (x_loadU64_b lnk) (x_loadU64_x lnk) .u64 (x_loadU64_f lnk) rfl hw.cellSt, fun _ => ⟨80, ?_⟩, fun h => absurd rfl h⟩
    show Goes Try.prog true _ _ _ _ _ _
    clear hw
    walk_nrm
    (u_in (far_rely hF2) hF
     refine goes_oper_k rfl rfl (by k_ne) (fun K hK => ?_)
     go_simp
     refine hK _ _ ⟨?_, ?_⟩
     · (first | refine dr_none ?_ | refine dm_none ?_ | refine ds_none ?_)
       intro e he
       have hm := mem_listed he
       simp [go_sem, *] at hm
     clear hK K
     try w_num)
    (u_in (far_rely hF2) hF; rw [stepG_region_end]; simp only [goes_go]; refine ⟨by ((first | refine dr_none ?_ | refine dm_none ?_ | refine ds_none ?_); intro e he; simp at he), ?_⟩)
    (u_in (far_rely hF2) hF; rw [stepG_ret']; simp only [goes_go]; refine ⟨by ((first | refine dr_none ?_ | refine dm_none ?_ | refine ds_none ?_); intro e he; simp at he), ?_⟩)
    (u_in (far_rely hF2) hF; refine goes_leave1 rfl rfl H.f_uLoad rfl ⟨by ((first | refine dr_none ?_ | refine dm_none ?_ | refine ds_none ?_); intro e he; simp at he), ?_⟩; walk_nrm)
    (u_in (far_rely hF2) hF
     refine goes_oper_k rfl rfl (by k_ne) (fun K hK => ?_)
     go_simp
     refine hK _ _ ⟨?_, ?_⟩
     · (first | refine dr_none ?_ | refine dm_none ?_ | refine ds_none ?_)
       intro e he
       have hm := mem_listed he
       simp [go_sem, *] at hm
     clear hK K
     try w_num)
    (u_in (far_rely hF2) hF; rw [stepG_region_end]; simp only [goes_go]; refine ⟨by ((first | refine dr_none ?_ | refine dm_none ?_ | refine ds_none ?_); intro e he; simp at he), ?_⟩)
    (u_in (far_rely hF2) hF; rw [stepG_seq]; simp only [goes_go]; refine ⟨by ((first | refine dr_none ?_ | refine dm_none ?_ | refine ds_none ?_); intro e he; simp at he), ?_⟩)
    (u_in (far_rely hF2) hF; rw [stepG_region]; simp only [goes_go, List.size_toArray, List.length_cons, List.length_nil, Nat.reduceAdd, Nat.zero_add, List.range, List.range.loop]; refine ⟨by ((first | refine dr_none ?_ | refine dm_none ?_ | refine ds_none ?_); intro e he; simp at he), ?_⟩)
    (u_in (far_rely hF2) hF
     refine goes_oper_k rfl rfl (by k_ne) (fun K hK => ?_)
     go_simp
     refine hK _ _ ⟨?_, ?_⟩
     · (first | refine dr_none ?_ | refine dm_none ?_ | refine ds_none ?_)
       intro e he
       have hm := mem_listed he
       simp [go_sem, *] at hm
     clear hK K
     try w_num)
    (u_in (far_rely hF2) hF
     refine goes_oper_k rfl rfl (by k_ne) (fun K hK => ?_)
     go_simp
     refine hK _ _ ⟨?_, ?_⟩
     · (first | refine dr_none ?_ | refine dm_none ?_ | refine ds_none ?_)
       intro e he
       have hm := mem_listed he
       simp [go_sem, *] at hm
     clear hK K
     try w_num)
    (u_in (far_rely hF2) hF
     refine goes_oper_k rfl rfl (by k_ne) (fun K hK => ?_)
     go_simp
     refine hK _ _ ⟨?_, ?_⟩
     · (first | refine dr_none ?_ | refine dm_none ?_ | refine ds_none ?_)
       intro e he
       have hm := mem_listed he
       simp [go_sem, *] at hm
     clear hK K
     try w_num)
    (u_in (far_rely hF2) hF
     refine goes_oper_k rfl rfl (by k_ne) (fun K hK => ?_)
     go_simp
     refine hK _ _ ⟨?_, ?_⟩
     · (first | refine dr_none ?_ | refine dm_none ?_ | refine ds_none ?_)
       intro e he
       have hm := mem_listed he
       simp [go_sem, *] at hm
     clear hK K
     try w_num)
    (u_in (far_rely hF2) hF; rw [stepG_region_end]; simp only [goes_go]; refine ⟨by ((first | refine dr_none ?_ | refine dm_none ?_ | refine ds_none ?_); intro e he; simp at he), ?_⟩)
    (u_in (far_rely hF2) hF; rw [stepG_seq]; simp only [goes_go]; refine ⟨by ((first | refine dr_none ?_ | refine dm_none ?_ | refine ds_none ?_); intro e he; simp at he), ?_⟩)
    (u_in (far_rely hF2) hF; rw [stepG_region]; simp only [goes_go, List.size_toArray, List.length_cons, List.length_nil, Nat.reduceAdd, Nat.zero_add, List.range, List.range.loop]; refine ⟨by ((first | refine dr_none ?_ | refine dm_none ?_ | refine ds_none ?_); intro e he; simp at he), ?_⟩)
    (u_in (far_rely hF2) hF
     refine goes_oper_k rfl rfl (by k_ne) (fun K hK => ?_)
     go_simp
     refine hK _ _ ⟨?_, ?_⟩
     · (first | refine dr_none ?_ | refine dm_none ?_ | refine ds_none ?_)
       intro e he
       have hm := mem_listed he
       simp [go_sem, *] at hm
     clear hK K
     try w_num)
    (u_in (far_rely hF2) hF
     refine goes_oper_k rfl rfl (by k_ne) (fun K hK => ?_)
     go_simp
     refine hK _ _ ⟨?_, ?_⟩
     · (first | refine dr_none ?_ | refine dm_none ?_ | refine ds_none ?_)
       intro e he
       have hm := mem_listed he
       simp [go_sem, *] at hm
     clear hK K
     try w_num)
    (u_in (far_rely hF2) hF
     refine goes_oper_k rfl rfl (by k_ne) (fun K hK => ?_)
     go_simp
     refine hK _ _ ⟨?_, ?_⟩
     · (first | refine dr_none ?_ | refine dm_none ?_ | refine ds_none ?_)
       intro e he
       have hm := mem_listed he
       simp [go_sem, *] at hm
     clear hK K
     try w_num)
    (u_in (far_rely hF2) hF
     refine goes_oper_k rfl rfl (by k_ne) (fun K hK => ?_)
     go_simp
     refine hK _ _ ⟨?_, ?_⟩
     · (first | refine dr_none ?_ | refine dm_none ?_ | refine ds_none ?_)
       intro e he
       have hm := mem_listed he
       simp [go_sem, *] at hm
     clear hK K
     try w_num)
    (u_in (far_rely hF2) hF; rw [stepG_region_end]; simp only [goes_go]; refine ⟨by ((first | refine dr_none ?_ | refine dm_none ?_ | refine ds_none ?_); intro e he; simp at he), ?_⟩)
    (u_in (far_rely hF2) hF; rw [stepG_seq]; simp only [goes_go]; refine ⟨by ((first | refine dr_none ?_ | refine dm_none ?_ | refine ds_none ?_); intro e he; simp at he), ?_⟩)
    (u_in (far_rely hF2) hF; rw [stepG_seq]; simp only [goes_go]; refine ⟨by ((first | refine dr_none ?_ | refine dm_none ?_ | refine ds_none ?_); intro e he; simp at he), ?_⟩)
    (u_in (far_rely hF2) hF; rw [stepG_region]; simp only [goes_go, List.size_toArray, List.length_cons, List.length_nil, Nat.reduceAdd, Nat.zero_add, List.range, List.range.loop]; refine ⟨by ((first | refine dr_none ?_ | refine dm_none ?_ | refine ds_none ?_); intro e he; simp at he), ?_⟩)
    (u_in (far_rely hF2) hF
     refine goes_oper_k rfl rfl (by k_ne) (fun K hK => ?_)
     go_simp
     refine hK _ _ ⟨?_, ?_⟩
     · (first | refine dr_none ?_ | refine dm_none ?_ | refine ds_none ?_)
       intro e he
       have hm := mem_listed he
       simp [go_sem, *] at hm
     clear hK K
     try w_num)
    (u_in (far_rely hF2) hF
     refine goes_oper_k rfl rfl (by k_ne) (fun K hK => ?_)
     go_simp
     refine hK _ _ ⟨?_, ?_⟩
     · (first | refine dr_none ?_ | refine dm_none ?_ | refine ds_none ?_)
       intro e he
       have hm := mem_listed he
       simp [go_sem, *] at hm
     clear hK K
     try w_num)
    (u_in (far_rely hF2) hF; rw [stepG_region_end]; simp only [goes_go]; refine ⟨by ((first | refine dr_none ?_ | refine dm_none ?_ | refine ds_none ?_); intro e he; simp at he), ?_⟩)
    (u_in (far_rely hF2) hF; rw [stepG_cond (t := true) (by first | rfl | (simp [Act.eval]; omega))]; simp only [goes_go, if_true, if_false, Bool.false_eq_true, ↓reduceIte]; refine ⟨by ((first | refine dr_none ?_ | refine dm_none ?_ | refine ds_none ?_); intro e he; simp at he), ?_⟩)
    (u_in (far_rely hF2) hF; rw [stepG_seq]; simp only [goes_go]; refine ⟨by ((first | refine dr_none ?_ | refine dm_none ?_ | refine ds_none ?_); intro e he; simp at he), ?_⟩)
    (u_in (far_rely hF2) hF; rw [stepG_cond (t := true) (by first | rfl | (simp [Act.eval]; omega))]; simp only [goes_go, if_true, if_false, Bool.false_eq_true, ↓reduceIte]; refine ⟨by ((first | refine dr_none ?_ | refine dm_none ?_ | refine ds_none ?_); intro e he; simp at he), ?_⟩)
    (u_in (far_rely hF2) hF; rw [stepG_seq]; simp only [goes_go]; refine ⟨by ((first | refine dr_none ?_ | refine dm_none ?_ | refine ds_none ?_); intro e he; simp at he), ?_⟩)
    (u_in (far_rely hF2) hF; rw [stepG_region]; simp only [goes_go, List.size_toArray, List.length_cons, List.length_nil, Nat.reduceAdd, Nat.zero_add, List.range, List.range.loop]; refine ⟨by ((first | refine dr_none ?_ | refine dm_none ?_ | refine ds_none ?_); intro e he; simp at he), ?_⟩)
    refine Goes.stop (fun w₅ h₅ => ?_)
    replace hF := far_rely hF2 hF h₅
    clear h₅
    refine ⟨rfl, _, stepG_mark0 .enable (by simp) rfl rfl (by k_ne) rfl H.f_enable (x_enable_n lnk) (x_enable_b lnk) (x_enable_x lnk) (x_enable_f lnk), 30, ?_⟩
    show Goes Try.prog true _ _ _ _ _ _
    walk_nrm
    (u_in (far_rely hF2) hF; rw [stepG_region_end]; simp only [goes_go]; refine ⟨by ((first | refine dr_none ?_ | refine dm_none ?_ | refine ds_none ?_); intro e he; simp at he), ?_⟩)
    (u_in (far_rely hF2) hF; rw [stepG_region]; simp only [goes_go, List.size_toArray, List.length_cons, List.length_nil, Nat.reduceAdd, Nat.zero_add, List.range, List.range.loop]; refine ⟨by ((first | refine dr_none ?_ | refine dm_none ?_ | refine ds_none ?_); intro e he; simp at he), ?_⟩)
    (u_in (far_rely hF2) hF
     refine goes_oper_k rfl rfl (by k_ne) (fun K hK => ?_)
     go_simp
     refine hK _ _ ⟨?_, ?_⟩
     · (first | refine dr_none ?_ | refine dm_none ?_ | refine ds_none ?_)
       intro e he
       have hm := mem_listed he
       simp [go_sem, *] at hm
     clear hK K
     try w_num)
    (u_in (far_rely hF2) hF
     refine goes_oper_k rfl rfl (by k_ne) (fun Kx hKx => ?_)
     have hcv := run_convert_to_unsafe (P := Try.prog) H.underlying_tWgP wgLib.underlying_tUP H.room_tWg (live0 hF.2).choose_spec
     have hce := fun es => events_convert_to_unsafe (P := Try.prog) H.underlying_tWgP wgLib.underlying_tUP H.room_tWg (live0 hF.2).choose_spec es
     go_simp
     refine hKx _ _ ⟨?_, ?_⟩
     · (first | refine dr_none ?_ | refine dm_none ?_ | refine ds_none ?_)
       intro ex hex
       have hmx := mem_listed hex
       simp [go_sem, hce] at hmx
     clear hKx Kx hcv hce)
    skip
    refine Goes.stop (fun w₆ h₆ => ?_)
    replace hF := far_rely hF2 hF h₆
    clear h₆
    refine ⟨rfl, _, stepG_markAt .acquire (by simp) rfl rfl (by k_ne) rfl H.f_acquire (x_acquire_n lnk) (x_acquire_b lnk) (x_acquire_x lnk) (x_acquire_f lnk) (by simp [Act.eval, stA] <;> rfl), hP _ _ ⟨hF.1, 40, ?_⟩⟩
    show Goes Try.prog true _ _ _ _ _ _
    clear hF
    have hF : True := trivial
    walk_nrm
    (u_in rt_on hF; rw [stepG_region_end]; simp only [goes_go]; refine ⟨by ((first | refine dr_none ?_ | refine dm_none ?_ | refine ds_none ?_); intro e he; simp at he), ?_⟩)
    (u_in rt_on hF; rw [stepG_seq]; simp only [goes_go]; refine ⟨by ((first | refine dr_none ?_ | refine dm_none ?_ | refine ds_none ?_); intro e he; simp at he), ?_⟩)
    (u_in rt_on hF; rw [stepG_seq]; simp only [goes_go]; refine ⟨by ((first | refine dr_none ?_ | refine dm_none ?_ | refine ds_none ?_); intro e he; simp at he), ?_⟩)
    (u_in rt_on hF; rw [stepG_region]; simp only [goes_go, List.size_toArray, List.length_cons, List.length_nil, Nat.reduceAdd, Nat.zero_add, List.range, List.range.loop]; refine ⟨by ((first | refine dr_none ?_ | refine dm_none ?_ | refine ds_none ?_); intro e he; simp at he), ?_⟩)
    (u_in rt_on hF
     refine goes_oper_k rfl rfl (by k_ne) (fun K hK => ?_)
     go_simp
     refine hK _ _ ⟨?_, ?_⟩
     · (first | refine dr_none ?_ | refine dm_none ?_ | refine ds_none ?_)
       intro e he
       have hm := mem_listed he
       simp [go_sem, *] at hm
     clear hK K
     try w_num)
    (u_in rt_on hF
     refine goes_oper_k rfl rfl (by k_ne) (fun K hK => ?_)
     go_simp
     refine hK _ _ ⟨?_, ?_⟩
     · (first | refine dr_none ?_ | refine dm_none ?_ | refine ds_none ?_)
       intro e he
       have hm := mem_listed he
       simp [go_sem, *] at hm
     clear hK K
     try w_num)
    (u_in rt_on hF
     refine goes_oper_k rfl rfl (by k_ne) (fun K hK => ?_)
     go_simp
     refine hK _ _ ⟨?_, ?_⟩
     · (first | refine dr_none ?_ | refine dm_none ?_ | refine ds_none ?_)
       intro e he
       have hm := mem_listed he
       simp [go_sem, *] at hm
     clear hK K
     try w_num)
    (u_in rt_on hF
     refine goes_oper_k rfl rfl (by k_ne) (fun K hK => ?_)
     go_simp
     refine hK _ _ ⟨?_, ?_⟩
     · (first | refine dr_none ?_ | refine dm_none ?_ | refine ds_none ?_)
       intro e he
       have hm := mem_listed he
       simp [go_sem, *] at hm
     clear hK K
     try w_num)
    (u_in rt_on hF
     refine goes_oper_k rfl rfl (by k_ne) (fun K hK => ?_)
     go_simp
     refine hK _ _ ⟨?_, ?_⟩
     · (first | refine dr_none ?_ | refine dm_none ?_ | refine ds_none ?_)
       intro e he
       have hm := mem_listed he
       simp [go_sem, *] at hm
     clear hK K
     try w_num)
    (u_in rt_on hF
     refine goes_oper_k rfl rfl (by k_ne) (fun K hK => ?_)
     go_simp
     refine hK _ _ ⟨?_, ?_⟩
     · (first | refine dr_none ?_ | refine dm_none ?_ | refine ds_none ?_)
       intro e he
       have hm := mem_listed he
       simp [go_sem, *] at hm
     clear hK K
     try w_num)
    (u_in rt_on hF
     refine goes_oper_k rfl rfl (by k_ne) (fun K hK => ?_)
     go_simp
     refine hK _ _ ⟨?_, ?_⟩
     · (first | refine dr_none ?_ | refine dm_none ?_ | refine ds_none ?_)
       intro e he
       have hm := mem_listed he
       simp [go_sem, *] at hm
     clear hK K
     try w_num)
    (u_in rt_on hF
     refine goes_oper_k rfl rfl (by k_ne) (fun K hK => ?_)
     go_simp
     refine hK _ _ ⟨?_, ?_⟩
     · (first | refine dr_none ?_ | refine dm_none ?_ | refine ds_none ?_)
       intro e he
       have hm := mem_listed he
       simp [go_sem, *] at hm
     clear hK K
     try w_num)
    (u_in rt_on hF; rw [stepG_unwanted rfl rfl]; simp only [goes_go]; refine ⟨by ((first | refine dr_none ?_ | refine dm_none ?_ | refine ds_none ?_); intro e he; simp at he), ?_⟩; walk_nrm)
    (u_in rt_on hF; rw [stepG_unwanted rfl rfl]; simp only [goes_go]; refine ⟨by ((first | refine dr_none ?_ | refine dm_none ?_ | refine ds_none ?_); intro e he; simp at he), ?_⟩; walk_nrm)
    (u_in rt_on hF
     refine goes_oper_k rfl rfl (by k_ne) (fun K hK => ?_)
     go_simp
     refine hK _ _ ⟨?_, ?_⟩
     · (first | refine dr_none ?_ | refine dm_none ?_ | refine ds_none ?_)
       intro e he
       have hm := mem_listed he
       simp [go_sem, *] at hm
     clear hK K
     try w_num)
    (u_in rt_on hF; rw [stepG_region_end]; simp only [goes_go]; refine ⟨by ((first | refine dr_none ?_ | refine dm_none ?_ | refine ds_none ?_); intro e he; simp at he), ?_⟩)
    (u_in rt_on hF; rw [stepG_cond (t := false) (by first | rfl | (simp [Act.eval]; omega))]; simp only [goes_go, if_true, if_false, Bool.false_eq_true, ↓reduceIte]; refine ⟨by ((first | refine dr_none ?_ | refine dm_none ?_ | refine ds_none ?_); intro e he; simp at he), ?_⟩)
    (u_in rt_on hF; rw [stepG_skip]; simp only [goes_go]; refine ⟨by ((first | refine dr_none ?_ | refine dm_none ?_ | refine ds_none ?_); intro e he; simp at he), ?_⟩)
    (u_in rt_on hF; rw [stepG_ret']; simp only [goes_go]; refine ⟨by ((first | refine dr_none ?_ | refine dm_none ?_ | refine ds_none ?_); intro e he; simp at he), ?_⟩)
    (u_in rt_on hF; refine goes_leave0 rfl rfl H.f_wait rfl ⟨by ((first | refine dr_none ?_ | refine dm_none ?_ | refine ds_none ?_); intro e he; simp at he), ?_⟩; walk_nrm)
    exact Goes.stop (fun _ _ => rfl)
  · obtain ⟨S, hS⟩ : ∃ S : Int, (v : Int) * KK = S := ⟨_, rfl⟩
    have a1 : S / 4294967296 = (v : Int) := by rw [← hS]; simp only [KK]; omega
    have b1 : bits .and .u64 S 2147483648 = 0 := by rw [← hS]; have := st_flag v 0 (by omega) (by omega); simpa [KK] using this
    have b2 : bits .and .u64 S 2147483647 = 0 := by rw [← hS]; have := st_waiters v 0 (by omega) (by omega); simpa [KK] using this
    have c1 : IntKind.i32.wrap (v : Int) = (v : Int) := by rw [IntKind.wrap_i32]; omega
    have w1 : IntKind.u64.wrap (S + 1) = S + 1 := by rw [IntKind.wrap_u64, ← hS]; simp only [KK]; omega
    have q3 : decide ((v : Int) < 0) = false := decide_eq_false (by omega)
    have q4 : decide (0 < (v : Int)) = true := decide_eq_true (by omega)
    have q5 : ((v : Int) == 0) = false := by simp; omega
    have q6 : decide ((v : Int) = 0) = false := decide_eq_false (by omega)
    rw [hS] at hw
    refine ⟨_, stepG_load_atomic (v := S) rfl rfl (by k_ne) rfl H.f_loadU64 (x_loadU64_n lnk) (x_loadU64_b lnk) (x_loadU64_x lnk) .u64 (x_loadU64_f lnk) rfl hw.cellSt, fun h0 => absurd h0 (by omega), fun _ => ⟨100, ?_⟩⟩
    show Goes Try.prog true _ _ _ _ _ _
    clear hw
    walk_nrm
    (u_in (far_rely hF2) hF
     refine goes_oper_k rfl rfl (by k_ne) (fun K hK => ?_)
     go_simp
     refine hK _ _ ⟨?_, ?_⟩
     · (first | refine dr_none ?_ | refine dm_none ?_ | refine ds_none ?_)
       intro e he
       have hm := mem_listed he
       simp [go_sem, *] at hm
     clear hK K
     try w_num)
    (u_in (far_rely hF2) hF; rw [stepG_region_end]; simp only [goes_go]; refine ⟨by ((first | refine dr_none ?_ | refine dm_none ?_ | refine ds_none ?_); intro e he; simp at he), ?_⟩)
    (u_in (far_rely hF2) hF; rw [stepG_ret']; simp only [goes_go]; refine ⟨by ((first | refine dr_none ?_ | refine dm_none ?_ | refine ds_none ?_); intro e he; simp at he), ?_⟩)
    (u_in (far_rely hF2) hF; refine goes_leave1 rfl rfl H.f_uLoad rfl ⟨by ((first | refine dr_none ?_ | refine dm_none ?_ | refine ds_none ?_); intro e he; simp at he), ?_⟩; walk_nrm)
    (u_in (far_rely hF2) hF
     refine goes_oper_k rfl rfl (by k_ne) (fun K hK => ?_)
     go_simp
     refine hK _ _ ⟨?_, ?_⟩
     · (first | refine dr_none ?_ | refine dm_none ?_ | refine ds_none ?_)
       intro e he
       have hm := mem_listed he
       simp [go_sem, *] at hm
     clear hK K
     try w_num)
    (u_in (far_rely hF2) hF; rw [stepG_region_end]; simp only [goes_go]; refine ⟨by ((first | refine dr_none ?_ | refine dm_none ?_ | refine ds_none ?_); intro e he; simp at he), ?_⟩)
    (u_in (far_rely hF2) hF; rw [stepG_seq]; simp only [goes_go]; refine ⟨by ((first | refine dr_none ?_ | refine dm_none ?_ | refine ds_none ?_); intro e he; simp at he), ?_⟩)
    (u_in (far_rely hF2) hF; rw [stepG_region]; simp only [goes_go, List.size_toArray, List.length_cons, List.length_nil, Nat.reduceAdd, Nat.zero_add, List.range, List.range.loop]; refine ⟨by ((first | refine dr_none ?_ | refine dm_none ?_ | refine ds_none ?_); intro e he; simp at he), ?_⟩)
    (u_in (far_rely hF2) hF
     refine goes_oper_k rfl rfl (by k_ne) (fun K hK => ?_)
     go_simp
     refine hK _ _ ⟨?_, ?_⟩
     · (first | refine dr_none ?_ | refine dm_none ?_ | refine ds_none ?_)
       intro e he
       have hm := mem_listed he
       simp [go_sem, *] at hm
     clear hK K
     try w_num)
    (u_in (far_rely hF2) hF
     refine goes_oper_k rfl rfl (by k_ne) (fun K hK => ?_)
     go_simp
     refine hK _ _ ⟨?_, ?_⟩
     · (first | refine dr_none ?_ | refine dm_none ?_ | refine ds_none ?_)
       intro e he
       have hm := mem_listed he
       simp [go_sem, *] at hm
     clear hK K
     try w_num)
    (u_in (far_rely hF2) hF
     refine goes_oper_k rfl rfl (by k_ne) (fun K hK => ?_)
     go_simp
     refine hK _ _ ⟨?_, ?_⟩
     · (first | refine dr_none ?_ | refine dm_none ?_ | refine ds_none ?_)
       intro e he
       have hm := mem_listed he
       simp [go_sem, *] at hm
     clear hK K
     try w_num)
    (u_in (far_rely hF2) hF
     refine goes_oper_k rfl rfl (by k_ne) (fun K hK => ?_)
     go_simp
     refine hK _ _ ⟨?_, ?_⟩
     · (first | refine dr_none ?_ | refine dm_none ?_ | refine ds_none ?_)
       intro e he
       have hm := mem_listed he
       simp [go_sem, *] at hm
     clear hK K
     try w_num)
    (u_in (far_rely hF2) hF; rw [stepG_region_end]; simp only [goes_go]; refine ⟨by ((first | refine dr_none ?_ | refine dm_none ?_ | refine ds_none ?_); intro e he; simp at he), ?_⟩)
    (u_in (far_rely hF2) hF; rw [stepG_seq]; simp only [goes_go]; refine ⟨by ((first | refine dr_none ?_ | refine dm_none ?_ | refine ds_none ?_); intro e he; simp at he), ?_⟩)
    (u_in (far_rely hF2) hF; rw [stepG_region]; simp only [goes_go, List.size_toArray, List.length_cons, List.length_nil, Nat.reduceAdd, Nat.zero_add, List.range, List.range.loop]; refine ⟨by ((first | refine dr_none ?_ | refine dm_none ?_ | refine ds_none ?_); intro e he; simp at he), ?_⟩)
    (u_in (far_rely hF2) hF
     refine goes_oper_k rfl rfl (by k_ne) (fun K hK => ?_)
     go_simp
     refine hK _ _ ⟨?_, ?_⟩
     · (first | refine dr_none ?_ | refine dm_none ?_ | refine ds_none ?_)
       intro e he
       have hm := mem_listed he
       simp [go_sem, *] at hm
     clear hK K
     try w_num)
    (u_in (far_rely hF2) hF
     refine goes_oper_k rfl rfl (by k_ne) (fun K hK => ?_)
     go_simp
     refine hK _ _ ⟨?_, ?_⟩
     · (first | refine dr_none ?_ | refine dm_none ?_ | refine ds_none ?_)
       intro e he
       have hm := mem_listed he
       simp [go_sem, *] at hm
     clear hK K
     try w_num)
    (u_in (far_rely hF2) hF
     refine goes_oper_k rfl rfl (by k_ne) (fun K hK => ?_)
     go_simp
     refine hK _ _ ⟨?_, ?_⟩
     · (first | refine dr_none ?_ | refine dm_none ?_ | refine ds_none ?_)
       intro e he
       have hm := mem_listed he
       simp [go_sem, *] at hm
     clear hK K
     try w_num)
    (u_in (far_rely hF2) hF
     refine goes_oper_k rfl rfl (by k_ne) (fun K hK => ?_)
     go_simp
     refine hK _ _ ⟨?_, ?_⟩
     · (first | refine dr_none ?_ | refine dm_none ?_ | refine ds_none ?_)
       intro e he
       have hm := mem_listed he
       simp [go_sem, *] at hm
     clear hK K
     try w_num)
    (u_in (far_rely hF2) hF; rw [stepG_region_end]; simp only [goes_go]; refine ⟨by ((first | refine dr_none ?_ | refine dm_none ?_ | refine ds_none ?_); intro e he; simp at he), ?_⟩)
    (u_in (far_rely hF2) hF; rw [stepG_seq]; simp only [goes_go]; refine ⟨by ((first | refine dr_none ?_ | refine dm_none ?_ | refine ds_none ?_); intro e he; simp at he), ?_⟩)
    (u_in (far_rely hF2) hF; rw [stepG_seq]; simp only [goes_go]; refine ⟨by ((first | refine dr_none ?_ | refine dm_none ?_ | refine ds_none ?_); intro e he; simp at he), ?_⟩)
    (u_in (far_rely hF2) hF; rw [stepG_region]; simp only [goes_go, List.size_toArray, List.length_cons, List.length_nil, Nat.reduceAdd, Nat.zero_add, List.range, List.range.loop]; refine ⟨by ((first | refine dr_none ?_ | refine dm_none ?_ | refine ds_none ?_); intro e he; simp at he), ?_⟩)
    (u_in (far_rely hF2) hF
     refine goes_oper_k rfl rfl (by k_ne) (fun K hK => ?_)
     go_simp
     refine hK _ _ ⟨?_, ?_⟩
     · (first | refine dr_none ?_ | refine dm_none ?_ | refine ds_none ?_)
       intro e he
       have hm := mem_listed he
       simp [go_sem, *] at hm
     clear hK K
     try w_num)
    (u_in (far_rely hF2) hF
     refine goes_oper_k rfl rfl (by k_ne) (fun K hK => ?_)
     go_simp
     refine hK _ _ ⟨?_, ?_⟩
     · (first | refine dr_none ?_ | refine dm_none ?_ | refine ds_none ?_)
       intro e he
       have hm := mem_listed he
       simp [go_sem, *] at hm
     clear hK K
     try w_num)
    (u_in (far_rely hF2) hF; rw [stepG_region_end]; simp only [goes_go]; refine ⟨by ((first | refine dr_none ?_ | refine dm_none ?_ | refine ds_none ?_); intro e he; simp at he), ?_⟩)
    (u_in (far_rely hF2) hF; rw [stepG_cond (t := false) (by first | rfl | (simp [Act.eval]; omega))]; simp only [goes_go, if_true, if_false, Bool.false_eq_true, ↓reduceIte]; refine ⟨by ((first | refine dr_none ?_ | refine dm_none ?_ | refine ds_none ?_); intro e he; simp at he), ?_⟩)
    (u_in (far_rely hF2) hF; rw [stepG_skip]; simp only [goes_go]; refine ⟨by ((first | refine dr_none ?_ | refine dm_none ?_ | refine ds_none ?_); intro e he; simp at he), ?_⟩)
    (u_in (far_rely hF2) hF; rw [stepG_seq]; simp only [goes_go]; refine ⟨by ((first | refine dr_none ?_ | refine dm_none ?_ | refine ds_none ?_); intro e he; simp at he), ?_⟩)
    (u_in (far_rely hF2) hF; rw [stepG_region]; simp only [goes_go, List.size_toArray, List.length_cons, List.length_nil, Nat.reduceAdd, Nat.zero_add, List.range, List.range.loop]; refine ⟨by ((first | refine dr_none ?_ | refine dm_none ?_ | refine ds_none ?_); intro e he; simp at he), ?_⟩)
    (u_in (far_rely hF2) hF
     refine goes_oper_k rfl rfl (by k_ne) (fun K hK => ?_)
     go_simp
     refine hK _ _ ⟨?_, ?_⟩
     · (first | refine dr_none ?_ | refine dm_none ?_ | refine ds_none ?_)
       intro e he
       have hm := mem_listed he
       simp [go_sem, *] at hm
     clear hK K
     try w_num)
    (u_in (far_rely hF2) hF
     refine goes_oper_k rfl rfl (by k_ne) (fun K hK => ?_)
     go_simp
     refine hK _ _ ⟨?_, ?_⟩
     · (first | refine dr_none ?_ | refine dm_none ?_ | refine ds_none ?_)
       intro e he
       have hm := mem_listed he
       simp [go_sem, *] at hm
     clear hK K
     try w_num)
    (u_in (far_rely hF2) hF
     refine goes_oper_k rfl rfl (by k_ne) (fun K hK => ?_)
     go_simp
     refine hK _ _ ⟨?_, ?_⟩
     · (first | refine dr_none ?_ | refine dm_none ?_ | refine ds_none ?_)
       intro e he
       have hm := mem_listed he
       simp [go_sem, *] at hm
     clear hK K
     try w_num)
    (u_in (far_rely hF2) hF
     refine goes_oper_k rfl rfl (by k_ne) (fun K hK => ?_)
     go_simp
     refine hK _ _ ⟨?_, ?_⟩
     · (first | refine dr_none ?_ | refine dm_none ?_ | refine ds_none ?_)
       intro e he
       have hm := mem_listed he
       simp [go_sem, *] at hm
     clear hK K
     try w_num)
    (u_in (far_rely hF2) hF
     refine goes_oper_k rfl rfl (by k_ne) (fun K hK => ?_)
     go_simp
     refine hK _ _ ⟨?_, ?_⟩
     · (first | refine dr_none ?_ | refine dm_none ?_ | refine ds_none ?_)
       intro e he
       have hm := mem_listed he
       simp [go_sem, *] at hm
     clear hK K
     try w_num)
    (u_in (far_rely hF2) hF
     refine goes_oper_k rfl rfl (by k_ne) (fun K hK => ?_)
     go_simp
     refine hK _ _ ⟨?_, ?_⟩
     · (first | refine dr_none ?_ | refine dm_none ?_ | refine ds_none ?_)
       intro e he
       have hm := mem_listed he
       simp [go_sem, *] at hm
     clear hK K
     try w_num)
    (u_in (far_rely hF2) hF; refine goes_call rfl rfl (by k_ne) rfl H.f_uCas (nm_uCas lnk) rfl ⟨by ((first | refine dr_none ?_ | refine dm_none ?_ | refine ds_none ?_); intro e he; simp at he), ?_⟩; walk_nrmf uCasFn)
    (u_in (far_rely hF2) hF; rw [stepG_seq]; simp only [goes_go]; refine ⟨by ((first | refine dr_none ?_ | refine dm_none ?_ | refine ds_none ?_); intro e he; simp at he), ?_⟩)
    (u_in (far_rely hF2) hF; rw [stepG_region]; simp only [goes_go, List.size_toArray, List.length_cons, List.length_nil, Nat.reduceAdd, Nat.zero_add, List.range, List.range.loop]; refine ⟨by ((first | refine dr_none ?_ | refine dm_none ?_ | refine ds_none ?_); intro e he; simp at he), ?_⟩)
    (u_in (far_rely hF2) hF
     refine goes_oper_k rfl rfl (by k_ne) (fun K hK => ?_)
     go_simp
     refine hK _ _ ⟨?_, ?_⟩
     · (first | refine dr_none ?_ | refine dm_none ?_ | refine ds_none ?_)
       intro e he
       have hm := mem_listed he
       simp [go_sem, *] at hm
     clear hK K
     try w_num)
    (u_in (far_rely hF2) hF; rw [stepG_region_end]; simp only [goes_go]; refine ⟨by ((first | refine dr_none ?_ | refine dm_none ?_ | refine ds_none ?_); intro e he; simp at he), ?_⟩)
    (u_in (far_rely hF2) hF; rw [stepG_seq]; simp only [goes_go]; refine ⟨by ((first | refine dr_none ?_ | refine dm_none ?_ | refine ds_none ?_); intro e he; simp at he), ?_⟩)
    (u_in (far_rely hF2) hF; rw [stepG_region]; simp only [goes_go, List.size_toArray, List.length_cons, List.length_nil, Nat.reduceAdd, Nat.zero_add, List.range, List.range.loop]; refine ⟨by ((first | refine dr_none ?_ | refine dm_none ?_ | refine ds_none ?_); intro e he; simp at he), ?_⟩)
    (u_in (far_rely hF2) hF
     refine goes_oper_k rfl rfl (by k_ne) (fun K hK => ?_)
     go_simp
     refine hK _ _ ⟨?_, ?_⟩
     · (first | refine dr_none ?_ | refine dm_none ?_ | refine ds_none ?_)
       intro e he
       have hm := mem_listed he
       simp [go_sem, *] at hm
     clear hK K
     try w_num)
    (u_in (far_rely hF2) hF
     refine goes_oper_k rfl rfl (by k_ne) (fun K hK => ?_)
     go_simp
     refine hK _ _ ⟨?_, ?_⟩
     · (first | refine dr_none ?_ | refine dm_none ?_ | refine ds_none ?_)
       intro e he
       have hm := mem_listed he
       simp [go_sem, *] at hm
     clear hK K
     try w_num)
    (u_in (far_rely hF2) hF
     refine goes_oper_k rfl rfl (by k_ne) (fun K hK => ?_)
     go_simp
     refine hK _ _ ⟨?_, ?_⟩
     · (first | refine dr_none ?_ | refine dm_none ?_ | refine ds_none ?_)
       intro e he
       have hm := mem_listed he
       simp [go_sem, *] at hm
     clear hK K
     try w_num)
    (u_in (far_rely hF2) hF
     refine goes_oper_k rfl rfl (by k_ne) (fun K hK => ?_)
     go_simp
     refine hK _ _ ⟨?_, ?_⟩
     · (first | refine dr_none ?_ | refine dm_none ?_ | refine ds_none ?_)
       intro e he
       have hm := mem_listed he
       simp [go_sem, *] at hm
     clear hK K
     try w_num)
    (u_in (far_rely hF2) hF
     refine goes_oper_k rfl rfl (by k_ne) (fun K hK => ?_)
     go_simp
     refine hK _ _ ⟨?_, ?_⟩
     · (first | refine dr_none ?_ | refine dm_none ?_ | refine ds_none ?_)
       intro e he
       have hm := mem_listed he
       simp [go_sem, *] at hm
     clear hK K
     try w_num)
    refine Goes.stop (fun w₂ h₂ => ?_)
    replace hF := far_rely hF2 hF h₂
    clear h₂
    refine ⟨rfl, fun v' hv' hw => ⟨fun e => ?_, fun e => ?_⟩⟩
    · subst e
      replace hw : WgAt lnk.tWg s.Wg w₂ ((v' : Int) * KK) 0 := hw
      rw [hS] at hw ⊢
      refine ⟨_, (stepG_cas_hit (v := S) (n := S + 1) rfl rfl (by k_ne) rfl H.f_casU64 (x_casU64_n lnk) (x_casU64_b lnk) (x_casU64_x lnk) .u64 (x_casU64_f lnk) rfl rfl rfl hw.cellSt (hw.thaw 0)).trans (by rfl), 100, ?_⟩
      show Goes Try.prog true _ _ _ _ _ _
      have hwn : WgAt lnk.tWg s.Wg (w₂.setCell (stA s.Wg) (.int .u64 (S + 1))) (S + 1) 0 := hw.setSt _
      replace hF := far_rely hF2 hF (Far.setWg (p := s.ph f tL tC z Anch Post) hw hwn)
      clear hw hwn
      walk_nrm
      (u_in (far_rely hF2) hF
       refine goes_oper_k rfl rfl (by k_ne) (fun K hK => ?_)
       go_simp
       refine hK _ _ ⟨?_, ?_⟩
       · (first | refine dr_none ?_ | refine dm_none ?_ | refine ds_none ?_)
         intro e he
         have hm := mem_listed he
         simp [go_sem, *] at hm
       clear hK K
       try w_num)
      (u_in (far_rely hF2) hF; rw [stepG_region_end]; simp only [goes_go]; refine ⟨by ((first | refine dr_none ?_ | refine dm_none ?_ | refine ds_none ?_); intro e he; simp at he), ?_⟩)
      (u_in (far_rely hF2) hF; rw [stepG_ret']; simp only [goes_go]; refine ⟨by ((first | refine dr_none ?_ | refine dm_none ?_ | refine ds_none ?_); intro e he; simp at he), ?_⟩)
      (u_in (far_rely hF2) hF; refine goes_leave1 rfl rfl H.f_uCas rfl ⟨by ((first | refine dr_none ?_ | refine dm_none ?_ | refine ds_none ?_); intro e he; simp at he), ?_⟩; walk_nrm)
      (u_in (far_rely hF2) hF; rw [stepG_region_end]; simp only [goes_go]; refine ⟨by ((first | refine dr_none ?_ | refine dm_none ?_ | refine ds_none ?_); intro e he; simp at he), ?_⟩)
      (u_in (far_rely hF2) hF; rw [stepG_cond (t := true) (by first | rfl | (simp [Act.eval]; omega))]; simp only [goes_go, if_true, if_false, Bool.false_eq_true, ↓reduceIte]; refine ⟨by ((first | refine dr_none ?_ | refine dm_none ?_ | refine ds_none ?_); intro e he; simp at he), ?_⟩)
      (u_in (far_rely hF2) hF; rw [stepG_seq]; simp only [goes_go]; refine ⟨by ((first | refine dr_none ?_ | refine dm_none ?_ | refine ds_none ?_); intro e he; simp at he), ?_⟩)
      (u_in (far_rely hF2) hF; rw [stepG_seq]; simp only [goes_go]; refine ⟨by ((first | refine dr_none ?_ | refine dm_none ?_ | refine ds_none ?_); intro e he; simp at he), ?_⟩)
      (u_in (far_rely hF2) hF; rw [stepG_region]; simp only [goes_go, List.size_toArray, List.length_cons, List.length_nil, Nat.reduceAdd, Nat.zero_add, List.range, List.range.loop]; refine ⟨by ((first | refine dr_none ?_ | refine dm_none ?_ | refine ds_none ?_); intro e he; simp at he), ?_⟩)
      (u_in (far_rely hF2) hF
       refine goes_oper_k rfl rfl (by k_ne) (fun K hK => ?_)
       go_simp
       refine hK _ _ ⟨?_, ?_⟩
       · (first | refine dr_none ?_ | refine dm_none ?_ | refine ds_none ?_)
         intro e he
         have hm := mem_listed he
         simp [go_sem, *] at hm
       clear hK K
       try w_num)
      (u_in (far_rely hF2) hF
       refine goes_oper_k rfl rfl (by k_ne) (fun K hK => ?_)
       go_simp
       refine hK _ _ ⟨?_, ?_⟩
       · (first | refine dr_none ?_ | refine dm_none ?_ | refine ds_none ?_)
         intro e he
         have hm := mem_listed he
         simp [go_sem, *] at hm
       clear hK K
       try w_num)
      (u_in (far_rely hF2) hF
       refine goes_oper_k rfl rfl (by k_ne) (fun K hK => ?_)
       go_simp
       refine hK _ _ ⟨?_, ?_⟩
       · (first | refine dr_none ?_ | refine dm_none ?_ | refine ds_none ?_)
         intro e he
         have hm := mem_listed he
         simp [go_sem, *] at hm
       clear hK K
       try w_num)
      (u_in (far_rely hF2) hF
       refine goes_oper_k rfl rfl (by k_ne) (fun K hK => ?_)
       go_simp
       refine hK _ _ ⟨?_, ?_⟩
       · (first | refine dr_none ?_ | refine dm_none ?_ | refine ds_none ?_)
         intro e he
         have hm := mem_listed he
         simp [go_sem, *] at hm
       clear hK K
       try w_num)
      (u_in (far_rely hF2) hF; rw [stepG_region_end]; simp only [goes_go]; refine ⟨by ((first | refine dr_none ?_ | refine dm_none ?_ | refine ds_none ?_); intro e he; simp at he), ?_⟩)
      (u_in (far_rely hF2) hF; rw [stepG_cond (t := true) (by first | rfl | (simp [Act.eval]; omega))]; simp only [goes_go, if_true, if_false, Bool.false_eq_true, ↓reduceIte]; refine ⟨by ((first | refine dr_none ?_ | refine dm_none ?_ | refine ds_none ?_); intro e he; simp at he), ?_⟩)
      (u_in (far_rely hF2) hF; rw [stepG_region]; simp only [goes_go, List.size_toArray, List.length_cons, List.length_nil, Nat.reduceAdd, Nat.zero_add, List.range, List.range.loop]; refine ⟨by ((first | refine dr_none ?_ | refine dm_none ?_ | refine ds_none ?_); intro e he; simp at he), ?_⟩)
      (u_in (far_rely hF2) hF
       refine goes_oper_k rfl rfl (by k_ne) (fun K hK => ?_)
       go_simp
       refine hK _ _ ⟨?_, ?_⟩
       · (first | refine dr_none ?_ | refine dm_none ?_ | refine ds_none ?_)
         intro e he
         have hm := mem_listed he
         simp [go_sem, *] at hm
       clear hK K
       try w_num)
      (u_in (far_rely hF2) hF
       refine goes_oper_k rfl rfl (by k_ne) (fun K hK => ?_)
       go_simp
       refine hK _ _ ⟨?_, ?_⟩
       · (first | refine dr_none ?_ | refine dm_none ?_ | refine ds_none ?_)
         intro e he
         have hm := mem_listed he
         simp [go_sem, *] at hm
       clear hK K
       try w_num)
      (u_in (far_rely hF2) hF
       refine goes_oper_k rfl rfl (by k_ne) (fun K hK => ?_)
       go_simp
       refine hK _ _ ⟨?_, ?_⟩
       · (first | refine dr_none ?_ | refine dm_none ?_ | refine ds_none ?_)
         intro e he
         have hm := mem_listed he
         simp [go_sem, *] at hm
       clear hK K
       try w_num)
      (u_in (far_rely hF2) hF
       refine goes_oper_k rfl rfl (by k_ne) (fun Kx hKx => ?_)
       have hcv := run_convert_to_unsafe (P := Try.prog) wgLib.underlying_tPU32 wgLib.underlying_tUP wgLib.room_tU32 (live1 hF.2).choose_spec
       have hce := fun es => events_convert_to_unsafe (P := Try.prog) wgLib.underlying_tPU32 wgLib.underlying_tUP wgLib.room_tU32 (live1 hF.2).choose_spec es
       go_simp
       refine hKx _ _ ⟨?_, ?_⟩
       · (first | refine dr_none ?_ | refine dm_none ?_ | refine ds_none ?_)
         intro ex hex
         have hmx := mem_listed hex
         simp [go_sem, hce] at hmx
       clear hKx Kx hcv hce)
      u_in (far_rely hF2) hF
      rw [stepG_markAt .write (by simp) rfl rfl (by k_ne) rfl H.f_raceWrite (x_raceWrite_n lnk) (x_raceWrite_b lnk) (x_raceWrite_x lnk) (x_raceWrite_f lnk) (ad := ⟨s.Wg, 1, none⟩) (by simp [Act.eval])]
      simp only [goes_go]
      refine ⟨dm_ev (evM_saidW _ rfl hWB hRd), ?_⟩
      walk_nrm
      (u_in (far_rely hF2) hF; rw [stepG_region_end]; simp only [goes_go]; refine ⟨by ((first | refine dr_none ?_ | refine dm_none ?_ | refine ds_none ?_); intro e he; simp at he), ?_⟩)
      (u_in (far_rely hF2) hF; rw [stepG_seq]; simp only [goes_go]; refine ⟨by ((first | refine dr_none ?_ | refine dm_none ?_ | refine ds_none ?_); intro e he; simp at he), ?_⟩)
      (u_in (far_rely hF2) hF; rw [stepG_region]; simp only [goes_go, List.size_toArray, List.length_cons, List.length_nil, Nat.reduceAdd, Nat.zero_add, List.range, List.range.loop]; refine ⟨by ((first | refine dr_none ?_ | refine dm_none ?_ | refine ds_none ?_); intro e he; simp at he), ?_⟩)
      (u_in (far_rely hF2) hF
       refine goes_oper_k rfl rfl (by k_ne) (fun K hK => ?_)
       go_simp
       refine hK _ _ ⟨?_, ?_⟩
       · (first | refine dr_none ?_ | refine dm_none ?_ | refine ds_none ?_)
         intro e he
         have hm := mem_listed he
         simp [go_sem, *] at hm
       clear hK K
       try w_num)
      (u_in (far_rely hF2) hF; rw [stepG_region_end]; simp only [goes_go]; refine ⟨by ((first | refine dr_none ?_ | refine dm_none ?_ | refine ds_none ?_); intro e he; simp at he), ?_⟩)
      (u_in (far_rely hF2) hF; rw [stepG_seq]; simp only [goes_go]; refine ⟨by ((first | refine dr_none ?_ | refine dm_none ?_ | refine ds_none ?_); intro e he; simp at he), ?_⟩)
      (u_in (far_rely hF2) hF; rw [stepG_seq]; simp only [goes_go]; refine ⟨by ((first | refine dr_none ?_ | refine dm_none ?_ | refine ds_none ?_); intro e he; simp at he), ?_⟩)
      (u_in (far_rely hF2) hF; rw [stepG_region]; simp only [goes_go, List.size_toArray, List.length_cons, List.length_nil, Nat.reduceAdd, Nat.zero_add, List.range, List.range.loop]; refine ⟨by ((first | refine dr_none ?_ | refine dm_none ?_ | refine ds_none ?_); intro e he; simp at he), ?_⟩)
      (u_in (far_rely hF2) hF
       refine goes_oper_k rfl rfl (by k_ne) (fun K hK => ?_)
       go_simp
       refine hK _ _ ⟨?_, ?_⟩
       · (first | refine dr_none ?_ | refine dm_none ?_ | refine ds_none ?_)
         intro e he
         have hm := mem_listed he
         simp [go_sem, *] at hm
       clear hK K
       try w_num)
      (u_in (far_rely hF2) hF
       refine goes_oper_k rfl rfl (by k_ne) (fun K hK => ?_)
       go_simp
       refine hK _ _ ⟨?_, ?_⟩
       · (first | refine dr_none ?_ | refine dm_none ?_ | refine ds_none ?_)
         intro e he
         have hm := mem_listed he
         simp [go_sem, *] at hm
       clear hK K
       try w_num)
      (u_in (far_rely hF2) hF
       refine goes_oper_k rfl rfl (by k_ne) (fun K hK => ?_)
       go_simp
       refine hK _ _ ⟨?_, ?_⟩
       · (first | refine dr_none ?_ | refine dm_none ?_ | refine ds_none ?_)
         intro e he
         have hm := mem_listed he
         simp [go_sem, *] at hm
       clear hK K
       try w_num)
      (u_in (far_rely hF2) hF
       refine goes_oper_k rfl rfl (by k_ne) (fun K hK => ?_)
       go_simp
       refine hK _ _ ⟨?_, ?_⟩
       · (first | refine dr_none ?_ | refine dm_none ?_ | refine ds_none ?_)
         intro e he
         have hm := mem_listed he
         simp [go_sem, *] at hm
       clear hK K
       try w_num)
      (u_in (far_rely hF2) hF; rw [stepG_unwanted rfl rfl]; simp only [goes_go]; refine ⟨by ((first | refine dr_none ?_ | refine dm_none ?_ | refine ds_none ?_); intro e he; simp at he), ?_⟩; walk_nrm)
      (u_in (far_rely hF2) hF
       refine goes_oper_k rfl rfl (by k_ne) (fun K hK => ?_)
       go_simp
       refine hK _ _ ⟨?_, ?_⟩
       · (first | refine dr_none ?_ | refine dm_none ?_ | refine ds_none ?_)
         intro e he
         have hm := mem_listed he
         simp [go_sem, *] at hm
       clear hK K
       try w_num)
      (u_in (far_rely hF2) hF; rw [stepG_region_end]; simp only [goes_go]; refine ⟨by ((first | refine dr_none ?_ | refine dm_none ?_ | refine ds_none ?_); intro e he; simp at he), ?_⟩)
      (u_in (far_rely hF2) hF; rw [stepG_cond (t := false) (by first | rfl | (simp [Act.eval]; omega))]; simp only [goes_go, if_true, if_false, Bool.false_eq_true, ↓reduceIte]; refine ⟨by ((first | refine dr_none ?_ | refine dm_none ?_ | refine ds_none ?_); intro e he; simp at he), ?_⟩)
      (u_in (far_rely hF2) hF; rw [stepG_skip]; simp only [goes_go]; refine ⟨by ((first | refine dr_none ?_ | refine dm_none ?_ | refine ds_none ?_); intro e he; simp at he), ?_⟩)
      (u_in (far_rely hF2) hF; rw [stepG_seq]; simp only [goes_go]; refine ⟨by ((first | refine dr_none ?_ | refine dm_none ?_ | refine ds_none ?_); intro e he; simp at he), ?_⟩)
      (u_in (far_rely hF2) hF; rw [stepG_region]; simp only [goes_go, List.size_toArray, List.length_cons, List.length_nil, Nat.reduceAdd, Nat.zero_add, List.range, List.range.loop]; refine ⟨by ((first | refine dr_none ?_ | refine dm_none ?_ | refine ds_none ?_); intro e he; simp at he), ?_⟩)
      (u_in (far_rely hF2) hF
       refine goes_oper_k rfl rfl (by k_ne) (fun K hK => ?_)
       go_simp
       refine hK _ _ ⟨?_, ?_⟩
       · (first | refine dr_none ?_ | refine dm_none ?_ | refine ds_none ?_)
         intro e he
         have hm := mem_listed he
         simp [go_sem, *] at hm
       clear hK K
       try w_num)
      (u_in (far_rely hF2) hF
       refine goes_oper_k rfl rfl (by k_ne) (fun K hK => ?_)
       go_simp
       refine hK _ _ ⟨?_, ?_⟩
       · (first | refine dr_none ?_ | refine dm_none ?_ | refine ds_none ?_)
         intro e he
         have hm := mem_listed he
         simp [go_sem, *] at hm
       clear hK K
       try w_num)
      (u_in (far_rely hF2) hF
       refine goes_oper_k rfl rfl (by k_ne) (fun K hK => ?_)
       go_simp
       refine hK _ _ ⟨?_, ?_⟩
       · (first | refine dr_none ?_ | refine dm_none ?_ | refine ds_none ?_)
         intro e he
         have hm := mem_listed he
         simp [go_sem, *] at hm
       clear hK K
       try w_num)
      (u_in (far_rely hF2) hF
       refine goes_oper_k rfl rfl (by k_ne) (fun K hK => ?_)
       go_simp
       refine hK _ _ ⟨?_, ?_⟩
       · (first | refine dr_none ?_ | refine dm_none ?_ | refine ds_none ?_)
         intro e he
         have hm := mem_listed he
         simp [go_sem, *] at hm
       clear hK K
       try w_num)
      refine Goes.stop (fun w₃ h₃ => ?_)
      replace hF := far_rely hF2 hF h₃
      clear h₃
      refine ⟨rfl, rfl, fun ⟨st, hw⟩ => stepG_semacquire_wait rfl rfl rfl H.f_semacquire (x_semacquire_n lnk) (x_semacquire_b lnk) (x_semacquire_x lnk) (x_semacquire_f lnk) (by simp [Act.eval, smA] <;> rfl) (WgAt.cellSm (ty := lnk.tWg) hw), fun hf => ?_⟩
      replace hf : WgAt lnk.tWg s.Wg w₃ 0 1 := hf
      refine ⟨_, (stepG_semacquire (n := 1) rfl rfl (by k_ne) rfl H.f_semacquire (x_semacquire_n lnk) (x_semacquire_b lnk) (x_semacquire_x lnk) (x_semacquire_f lnk) (by simp [Act.eval, smA] <;> rfl) hf.cellSm (by k_ne) (hf.thaw 1)).trans (by rfl), 60, ?_⟩
      show Goes Try.prog true _ _ _ _ _ _
      have hwn : WgAt lnk.tWg s.Wg (w₃.setCell (smA s.Wg) (.int .u32 0)) 0 0 := hf.setSm 0
      replace hF := far_rely hF2 hF (Far.setWg (p := s.ph f tL tC z Anch Post) hf hwn)
      clear hf hwn
      walk_nrm
      (u_in (far_rely hF2) hF; rw [stepG_region_end]; simp only [goes_go]; refine ⟨by ((first | refine dr_none ?_ | refine dm_none ?_ | refine ds_none ?_); intro e he; simp at he), ?_⟩)
      (u_in (far_rely hF2) hF; rw [stepG_seq]; simp only [goes_go]; refine ⟨by ((first | refine dr_none ?_ | refine dm_none ?_ | refine ds_none ?_); intro e he; simp at he), ?_⟩)
      (u_in (far_rely hF2) hF; rw [stepG_region]; simp only [goes_go, List.size_toArray, List.length_cons, List.length_nil, Nat.reduceAdd, Nat.zero_add, List.range, List.range.loop]; refine ⟨by ((first | refine dr_none ?_ | refine dm_none ?_ | refine ds_none ?_); intro e he; simp at he), ?_⟩)
      (u_in (far_rely hF2) hF
       refine goes_oper_k rfl rfl (by k_ne) (fun K hK => ?_)
       go_simp
       refine hK _ _ ⟨?_, ?_⟩
       · (first | refine dr_none ?_ | refine dm_none ?_ | refine ds_none ?_)
         intro e he
         have hm := mem_listed he
         simp [go_sem, *] at hm
       clear hK K
       try w_num)
      (u_in (far_rely hF2) hF
       refine goes_oper_k rfl rfl (by k_ne) (fun K hK => ?_)
       go_simp
       refine hK _ _ ⟨?_, ?_⟩
       · (first | refine dr_none ?_ | refine dm_none ?_ | refine ds_none ?_)
         intro e he
         have hm := mem_listed he
         simp [go_sem, *] at hm
       clear hK K
       try w_num)
      (u_in (far_rely hF2) hF
       refine goes_oper_k rfl rfl (by k_ne) (fun K hK => ?_)
       go_simp
       refine hK _ _ ⟨?_, ?_⟩
       · (first | refine dr_none ?_ | refine dm_none ?_ | refine ds_none ?_)
         intro e he
         have hm := mem_listed he
         simp [go_sem, *] at hm
       clear hK K
       try w_num)
      (u_in (far_rely hF2) hF; refine goes_call rfl rfl (by k_ne) rfl H.f_uLoad (nm_uLoad lnk) rfl ⟨by ((first | refine dr_none ?_ | refine dm_none ?_ | refine ds_none ?_); intro e he; simp at he), ?_⟩; walk_nrmf uLoadFn)
      (u_in (far_rely hF2) hF; rw [stepG_seq]; simp only [goes_go]; refine ⟨by ((first | refine dr_none ?_ | refine dm_none ?_ | refine ds_none ?_); intro e he; simp at he), ?_⟩)
      (u_in (far_rely hF2) hF; rw [stepG_region]; simp only [goes_go, List.size_toArray, List.length_cons, List.length_nil, Nat.reduceAdd, Nat.zero_add, List.range, List.range.loop]; refine ⟨by ((first | refine dr_none ?_ | refine dm_none ?_ | refine ds_none ?_); intro e he; simp at he), ?_⟩)
      (u_in (far_rely hF2) hF
       refine goes_oper_k rfl rfl (by k_ne) (fun K hK => ?_)
       go_simp
       refine hK _ _ ⟨?_, ?_⟩
       · (first | refine dr_none ?_ | refine dm_none ?_ | refine ds_none ?_)
         intro e he
         have hm := mem_listed he
         simp [go_sem, *] at hm
       clear hK K
       try w_num)
      (u_in (far_rely hF2) hF; rw [stepG_region_end]; simp only [goes_go]; refine ⟨by ((first | refine dr_none ?_ | refine dm_none ?_ | refine ds_none ?_); intro e he; simp at he), ?_⟩)
      (u_in (far_rely hF2) hF; rw [stepG_seq]; simp only [goes_go]; refine ⟨by ((first | refine dr_none ?_ | refine dm_none ?_ | refine ds_none ?_); intro e he; simp at he), ?_⟩)
      (u_in (far_rely hF2) hF; rw [stepG_region]; simp only [goes_go, List.size_toArray, List.length_cons, List.length_nil, Nat.reduceAdd, Nat.zero_add, List.range, List.range.loop]; refine ⟨by ((first | refine dr_none ?_ | refine dm_none ?_ | refine ds_none ?_); intro e he; simp at he), ?_⟩)
      (u_in (far_rely hF2) hF
       refine goes_oper_k rfl rfl (by k_ne) (fun K hK => ?_)
       go_simp
       refine hK _ _ ⟨?_, ?_⟩
       · (first | refine dr_none ?_ | refine dm_none ?_ | refine ds_none ?_)
         intro e he
         have hm := mem_listed he
         simp [go_sem, *] at hm
       clear hK K
       try w_num)
      (u_in (far_rely hF2) hF
       refine goes_oper_k rfl rfl (by k_ne) (fun K hK => ?_)
       go_simp
       refine hK _ _ ⟨?_, ?_⟩
       · (first | refine dr_none ?_ | refine dm_none ?_ | refine ds_none ?_)
         intro e he
         have hm := mem_listed he
         simp [go_sem, *] at hm
       clear hK K
       try w_num)
      (u_in (far_rely hF2) hF
       refine goes_oper_k rfl rfl (by k_ne) (fun K hK => ?_)
       go_simp
       refine hK _ _ ⟨?_, ?_⟩
       · (first | refine dr_none ?_ | refine dm_none ?_ | refine ds_none ?_)
         intro e he
         have hm := mem_listed he
         simp [go_sem, *] at hm
       clear hK K
       try w_num)
      refine Goes.stop (fun w₄ h₄ => ?_)
      replace hF := far_rely hF2 hF h₄
      clear h₄
      refine ⟨rfl, fun hw => ?_⟩
      replace hw : WgAt lnk.tWg s.Wg w₄ 0 0 := hw
      refine ⟨_, stepG_load_atomic (v := 0) rfl rfl (by k_ne) rfl H.f_loadU64 (x_loadU64_n lnk) (x_loadU64_b lnk) (x_loadU64_x lnk) .u64 (x_loadU64_f lnk) rfl hw.cellSt, 60, ?_⟩
      show Goes Try.prog true _ _ _ _ _ _
      clear hw
      walk_nrm
      (u_in (far_rely hF2) hF
       refine goes_oper_k rfl rfl (by k_ne) (fun K hK => ?_)
       go_simp
       refine hK _ _ ⟨?_, ?_⟩
       · (first | refine dr_none ?_ | refine dm_none ?_ | refine ds_none ?_)
         intro e he
         have hm := mem_listed he
         simp [go_sem, *] at hm
       clear hK K
       try w_num)
      (u_in (far_rely hF2) hF; rw [stepG_region_end]; simp only [goes_go]; refine ⟨by ((first | refine dr_none ?_ | refine dm_none ?_ | refine ds_none ?_); intro e he; simp at he), ?_⟩)
      (u_in (far_rely hF2) hF; rw [stepG_ret']; simp only [goes_go]; refine ⟨by ((first | refine dr_none ?_ | refine dm_none ?_ | refine ds_none ?_); intro e he; simp at he), ?_⟩)
      (u_in (far_rely hF2) hF; refine goes_leave1 rfl rfl H.f_uLoad rfl ⟨by ((first | refine dr_none ?_ | refine dm_none ?_ | refine ds_none ?_); intro e he; simp at he), ?_⟩; walk_nrm)
      (u_in (far_rely hF2) hF
       refine goes_oper_k rfl rfl (by k_ne) (fun K hK => ?_)
       go_simp
       refine hK _ _ ⟨?_, ?_⟩
       · (first | refine dr_none ?_ | refine dm_none ?_ | refine ds_none ?_)
         intro e he
         have hm := mem_listed he
         simp [go_sem, *] at hm
       clear hK K
       try w_num)
      (u_in (far_rely hF2) hF
       refine goes_oper_k rfl rfl (by k_ne) (fun K hK => ?_)
       go_simp
       refine hK _ _ ⟨?_, ?_⟩
       · (first | refine dr_none ?_ | refine dm_none ?_ | refine ds_none ?_)
         intro e he
         have hm := mem_listed he
         simp [go_sem, *] at hm
       clear hK K
       try w_num)
      (u_in (far_rely hF2) hF; rw [stepG_region_end]; simp only [goes_go]; refine ⟨by ((first | refine dr_none ?_ | refine dm_none ?_ | refine ds_none ?_); intro e he; simp at he), ?_⟩)
      (u_in (far_rely hF2) hF; rw [stepG_seq]; simp only [goes_go]; refine ⟨by ((first | refine dr_none ?_ | refine dm_none ?_ | refine ds_none ?_); intro e he; simp at he), ?_⟩)
      (u_in (far_rely hF2) hF; rw [stepG_cond (t := true) (by first | rfl | (simp [Act.eval]; omega))]; simp only [goes_go, if_true, if_false, Bool.false_eq_true, ↓reduceIte]; refine ⟨by ((first | refine dr_none ?_ | refine dm_none ?_ | refine ds_none ?_); intro e he; simp at he), ?_⟩)
      (u_in (far_rely hF2) hF; rw [stepG_seq]; simp only [goes_go]; refine ⟨by ((first | refine dr_none ?_ | refine dm_none ?_ | refine ds_none ?_); intro e he; simp at he), ?_⟩)
      (u_in (far_rely hF2) hF; rw [stepG_region]; simp only [goes_go, List.size_toArray, List.length_cons, List.length_nil, Nat.reduceAdd, Nat.zero_add, List.range, List.range.loop]; refine ⟨by ((first | refine dr_none ?_ | refine dm_none ?_ | refine ds_none ?_); intro e he; simp at he), ?_⟩)
      refine Goes.stop (fun w₅ h₅ => ?_)
      replace hF := far_rely hF2 hF h₅
      clear h₅
      refine ⟨rfl, _, stepG_mark0 .enable (by simp) rfl rfl (by k_ne) rfl H.f_enable (x_enable_n lnk) (x_enable_b lnk) (x_enable_x lnk) (x_enable_f lnk), 30, ?_⟩
      show Goes Try.prog true _ _ _ _ _ _
      walk_nrm
      (u_in (far_rely hF2) hF; rw [stepG_region_end]; simp only [goes_go]; refine ⟨by ((first | refine dr_none ?_ | refine dm_none ?_ | refine ds_none ?_); intro e he; simp at he), ?_⟩)
      (u_in (far_rely hF2) hF; rw [stepG_region]; simp only [goes_go, List.size_toArray, List.length_cons, List.length_nil, Nat.reduceAdd, Nat.zero_add, List.range, List.range.loop]; refine ⟨by ((first | refine dr_none ?_ | refine dm_none ?_ | refine ds_none ?_); intro e he; simp at he), ?_⟩)
      (u_in (far_rely hF2) hF
       refine goes_oper_k rfl rfl (by k_ne) (fun K hK => ?_)
       go_simp
       refine hK _ _ ⟨?_, ?_⟩
       · (first | refine dr_none ?_ | refine dm_none ?_ | refine ds_none ?_)
         intro e he
         have hm := mem_listed he
         simp [go_sem, *] at hm
       clear hK K
       try w_num)
      (u_in (far_rely hF2) hF
       refine goes_oper_k rfl rfl (by k_ne) (fun Kx hKx => ?_)
       have hcv := run_convert_to_unsafe (P := Try.prog) H.underlying_tWgP wgLib.underlying_tUP H.room_tWg (live0 hF.2).choose_spec
       have hce := fun es => events_convert_to_unsafe (P := Try.prog) H.underlying_tWgP wgLib.underlying_tUP H.room_tWg (live0 hF.2).choose_spec es
       go_simp
       refine hKx _ _ ⟨?_, ?_⟩
       · (first | refine dr_none ?_ | refine dm_none ?_ | refine ds_none ?_)
         intro ex hex
         have hmx := mem_listed hex
         simp [go_sem, hce] at hmx
       clear hKx Kx hcv hce)
      skip
      refine Goes.stop (fun w₆ h₆ => ?_)
      replace hF := far_rely hF2 hF h₆
      clear h₆
      refine ⟨rfl, _, stepG_markAt .acquire (by simp) rfl rfl (by k_ne) rfl H.f_acquire (x_acquire_n lnk) (x_acquire_b lnk) (x_acquire_x lnk) (x_acquire_f lnk) (by simp [Act.eval, stA] <;> rfl), hP _ _ ⟨hF.1, 40, ?_⟩⟩
      show Goes Try.prog true _ _ _ _ _ _
      clear hF
      have hF : True := trivial
      walk_nrm
      (u_in rt_on hF; rw [stepG_region_end]; simp only [goes_go]; refine ⟨by ((first | refine dr_none ?_ | refine dm_none ?_ | refine ds_none ?_); intro e he; simp at he), ?_⟩)
      (u_in rt_on hF; rw [stepG_seq]; simp only [goes_go]; refine ⟨by ((first | refine dr_none ?_ | refine dm_none ?_ | refine ds_none ?_); intro e he; simp at he), ?_⟩)
      (u_in rt_on hF; rw [stepG_seq]; simp only [goes_go]; refine ⟨by ((first | refine dr_none ?_ | refine dm_none ?_ | refine ds_none ?_); intro e he; simp at he), ?_⟩)
      (u_in rt_on hF; rw [stepG_region]; simp only [goes_go, List.size_toArray, List.length_cons, List.length_nil, Nat.reduceAdd, Nat.zero_add, List.range, List.range.loop]; refine ⟨by ((first | refine dr_none ?_ | refine dm_none ?_ | refine ds_none ?_); intro e he; simp at he), ?_⟩)
      (u_in rt_on hF
       refine goes_oper_k rfl rfl (by k_ne) (fun K hK => ?_)
       go_simp
       refine hK _ _ ⟨?_, ?_⟩
       · (first | refine dr_none ?_ | refine dm_none ?_ | refine ds_none ?_)
         intro e he
         have hm := mem_listed he
         simp [go_sem, *] at hm
       clear hK K
       try w_num)
      (u_in rt_on hF; rw [stepG_region_end]; simp only [goes_go]; refine ⟨by ((first | refine dr_none ?_ | refine dm_none ?_ | refine ds_none ?_); intro e he; simp at he), ?_⟩)
      (u_in rt_on hF; rw [stepG_cond (t := false) (by first | rfl | (simp [Act.eval]; omega))]; simp only [goes_go, if_true, if_false, Bool.false_eq_true, ↓reduceIte]; refine ⟨by ((first | refine dr_none ?_ | refine dm_none ?_ | refine ds_none ?_); intro e he; simp at he), ?_⟩)
      (u_in rt_on hF; rw [stepG_skip]; simp only [goes_go]; refine ⟨by ((first | refine dr_none ?_ | refine dm_none ?_ | refine ds_none ?_); intro e he; simp at he), ?_⟩)
      (u_in rt_on hF; rw [stepG_ret']; simp only [goes_go]; refine ⟨by ((first | refine dr_none ?_ | refine dm_none ?_ | refine ds_none ?_); intro e he; simp at he), ?_⟩)
      (u_in rt_on hF; refine goes_leave0 rfl rfl H.f_wait rfl ⟨by ((first | refine dr_none ?_ | refine dm_none ?_ | refine ds_none ?_); intro e he; simp at he), ?_⟩; walk_nrm)
      exact Goes.stop (fun _ _ => rfl)
    · replace hw : WgAt lnk.tWg s.Wg w₂ ((v' : Int) * KK) 0 := hw
      refine ⟨_, stepG_cas_miss (v := (v' : Int) * KK) (old := S) (n := S + 1) rfl rfl (by k_ne) rfl H.f_casU64 (x_casU64_n lnk) (x_casU64_b lnk) (x_casU64_x lnk) .u64 (x_casU64_f lnk) rfl rfl rfl hw.cellSt (hw.thaw 0) (by rw [← hS]; simp only [KK]; omega), 40, ?_⟩
      show Goes Try.prog true _ _ _ _ _ _
      clear hw
      walk_nrm
      (u_in (far_rely hF2) hF
       refine goes_oper_k rfl rfl (by k_ne) (fun K hK => ?_)
       go_simp
       refine hK _ _ ⟨?_, ?_⟩
       · (first | refine dr_none ?_ | refine dm_none ?_ | refine ds_none ?_)
         intro e he
         have hm := mem_listed he
         simp [go_sem, *] at hm
       clear hK K
       try w_num)
      (u_in (far_rely hF2) hF; rw [stepG_region_end]; simp only [goes_go]; refine ⟨by ((first | refine dr_none ?_ | refine dm_none ?_ | refine ds_none ?_); intro e he; simp at he), ?_⟩)
      (u_in (far_rely hF2) hF; rw [stepG_ret']; simp only [goes_go]; refine ⟨by ((first | refine dr_none ?_ | refine dm_none ?_ | refine ds_none ?_); intro e he; simp at he), ?_⟩)
      (u_in (far_rely hF2) hF; refine goes_leave1 rfl rfl H.f_uCas rfl ⟨by ((first | refine dr_none ?_ | refine dm_none ?_ | refine ds_none ?_); intro e he; simp at he), ?_⟩; walk_nrm)
      (u_in (far_rely hF2) hF; rw [stepG_region_end]; simp only [goes_go]; refine ⟨by ((first | refine dr_none ?_ | refine dm_none ?_ | refine ds_none ?_); intro e he; simp at he), ?_⟩)
      (u_in (far_rely hF2) hF; rw [stepG_cond (t := false) (by first | rfl | (simp [Act.eval]; omega))]; simp only [goes_go, if_true, if_false, Bool.false_eq_true, ↓reduceIte]; refine ⟨by ((first | refine dr_none ?_ | refine dm_none ?_ | refine ds_none ?_); intro e he; simp at he), ?_⟩)
      (u_in (far_rely hF2) hF; rw [stepG_skip]; simp only [goes_go]; refine ⟨by ((first | refine dr_none ?_ | refine dm_none ?_ | refine ds_none ?_); intro e he; simp at he), ?_⟩)
      (u_in (far_rely hF2) hF; rw [stepG_inBlock]; simp only [goes_go]; refine ⟨by ((first | refine dr_none ?_ | refine dm_none ?_ | refine ds_none ?_); intro e he; simp at he), ?_⟩)
      (u_in (far_rely hF2) hF; rw [stepG_inLoop]; simp only [goes_go]; refine ⟨by ((first | refine dr_none ?_ | refine dm_none ?_ | refine ds_none ?_); intro e he; simp at he), ?_⟩)
      exact Goes.stop (fun w₃ h₃ => hA _ _ ⟨_, rfl, by simp, by simp, far_rely hF2 hF h₃⟩)
end
end Go.Proofs.Ytcefdleidkmomaa.Mx

