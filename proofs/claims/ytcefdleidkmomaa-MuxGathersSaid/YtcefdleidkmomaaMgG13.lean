/- The starter's Add(1), in company: whatever the count. Conditions: each theorem's own. -/
import Derived.Test.YtcefdleidkmomaaMgG12
set_option linter.unusedVariables false
set_option linter.unusedSimpArgs false
namespace Go.Proofs.Ytcefdleidkmomaa.Mx
open Go.Conc Go.Conc.Lib Go.ConcR.Gen Go.RowKit
open Go.ConcR (KK DC0 Payload wgBlock WgAt stA smA rd wr)
open Go.ConcN.Gen (WgLive.cell0 WgLive.cell1)
open Go.ConcN (st_flag st_waiters)
theorem evM_said {p : Ph} {j : Nat} (a : Addr) (hW : a.block = p.Wg) (hB : p.Wg < p.B) : p.EvM j ⟨.mark (.read a), false, true⟩ := by
  refine ⟨⟨fun y hy => ?_, ?_, ?_⟩, by simp, by simp⟩
  · simp only [MemAct.ofEvent, MemAct.touch?, Option.some.injEq] at hy
    subst hy
    exact ⟨fun _ => by simp, fun h => by simp at h⟩
  · show a.block < p.B
    omega
  · simp [MemAct.ofEvent]
theorem evM_saidW {p : Ph} {j : Nat} (a : Addr) (hW : a.block = p.Wg) (hB : p.Wg < p.B) (hR : ∀ k, k < j → ¬ p.Rd k (.cell a)) : p.EvM j ⟨.mark (.write a), false, true⟩ := by
  refine ⟨⟨fun y hy => ?_, ?_, ?_⟩, by simp, by simp⟩
  · simp only [MemAct.ofEvent, MemAct.touch?, Option.some.injEq] at hy
    subst hy
    exact ⟨fun _ => by simp, fun _ => hR⟩
  · show a.block < p.B
    omega
  · simp [MemAct.ofEvent]
theorem dm_ev {p : Ph} {j : Nat} {w : World} {e : Event} (h : p.EvM j e) : p.DM j w w #[e] := ⟨rfl, fun _ _ => rfl, fun _ _ h => h, fun e' he => by rw [Array.mem_singleton] at he; subst he; exact ⟨h.1.up bd_b, h.2⟩, Nat.le_refl _⟩
section
variable {s : Grp} {f : FuncId} {tL tC : TypeId} {z : Value} {Anch Post : Goroutine → World → Prop} {j : Nat} {Next : Goroutine → World → Prop} {F : World → Prop}
  {b₀ : Frame} {a₀ : Act} {ops₀ : Array Oper} {i₀ : Nat} {rest₀ : List Nat} {k₀ : List Item} {cs : List Frame} {mT : Nat}
theorem live0 {w : World} (h : (s.ph f tL tC z Anch Post).Live w) : ∃ v, w.cell? ⟨s.Wg, 0, none⟩ = some v := WgLive.cell0 h
theorem live1 {w : World} (h : (s.ph f tL tC z Anch Post).Live w) : ∃ v, w.cell? ⟨s.Wg, 1, none⟩ = some v := WgLive.cell1 h
set_option maxRecDepth 100000 in
set_option maxHeartbeats 8000000 in
theorem addPos (hWB : s.Wg < s.B) (hF2 : ∀ w w₁, (s.ph f tL tC z Anch Post).Far j w w₁ → F w → F w₁)
    (hT : ∀ w, F w ∧ (s.ph f tL tC z Anch Post).Live w → Goes Try.prog true ((s.ph f tL tC z Anch Post).Far j) ((s.ph f tL tC z Anch Post).DM j) ((s.ph f tL tC z Anch Post).U4 j Next) mT (G (b₀.at (a₀.put ((ops₀[i₀]?).bind (·.dst)) (.tuple #[])) (.inRegion ops₀ rest₀ :: k₀)) cs) w)
    (w : World) (hF : F w ∧ (s.ph f tL tC z Anch Post).Live w) :
    Goes Try.prog true ((s.ph f tL tC z Anch Post).Far j) ((s.ph f tL tC z Anch Post).DM j) ((s.ph f tL tC z Anch Post).U1 j Next) 30
      (G ((base lnk.add).at ⟨#[.pointer (some ⟨s.Wg, 0, none⟩), .int .i64 1] ++ Array.replicate 115 undef, []⟩ [.code (body_add lnk)]) (b₀.at a₀ (.inRegion ops₀ (i₀ :: rest₀) :: k₀) :: cs)) w := by
  have H := wgLib
  lib_facts
  simp only [body_add, addFn, Option.getD_some, Array.replicate, List.replicate, List.append_toArray, List.cons_append, List.nil_append]
  (u_in (far_rely hF2) hF; rw [stepG_seq]; simp only [goes_go]; refine ⟨by ((first | refine dr_none ?_ | refine dm_none ?_); intro e he; simp at he), ?_⟩)
  (u_in (far_rely hF2) hF; rw [stepG_cond (t := true) rfl]; simp only [goes_go, if_true, if_false, Bool.false_eq_true, ↓reduceIte]; refine ⟨by ((first | refine dr_none ?_ | refine dm_none ?_); intro e he; simp at he), ?_⟩)
  (u_in (far_rely hF2) hF; rw [stepG_seq]; simp only [goes_go]; refine ⟨by ((first | refine dr_none ?_ | refine dm_none ?_); intro e he; simp at he), ?_⟩)
  (u_in (far_rely hF2) hF; rw [stepG_seq]; simp only [goes_go]; refine ⟨by ((first | refine dr_none ?_ | refine dm_none ?_); intro e he; simp at he), ?_⟩)
  (u_in (far_rely hF2) hF; rw [stepG_region]; simp only [goes_go, List.size_toArray, List.length_cons, List.length_nil, Nat.reduceAdd, Nat.zero_add, List.range, List.range.loop]; refine ⟨by ((first | refine dr_none ?_ | refine dm_none ?_); intro e he; simp at he), ?_⟩)
  (u_in (far_rely hF2) hF
   refine goes_oper_k rfl rfl (by k_ne) (fun K hK => ?_)
   go_simp
   refine hK _ _ ⟨?_, ?_⟩
   · (first | refine dr_none ?_ | refine dm_none ?_)
     intro e he
     have hm := mem_listed he
     simp [go_sem, *] at hm
   clear hK K
   try w_num)
  (u_in (far_rely hF2) hF
   refine goes_oper_k rfl rfl (by k_ne) (fun K hK => ?_)
   go_simp
   refine hK _ _ ⟨?_, ?_⟩
   · (first | refine dr_none ?_ | refine dm_none ?_)
     intro e he
     have hm := mem_listed he
     simp [go_sem, *] at hm
   clear hK K
   try w_num)
  (u_in (far_rely hF2) hF; rw [stepG_region_end]; simp only [goes_go]; refine ⟨by ((first | refine dr_none ?_ | refine dm_none ?_); intro e he; simp at he), ?_⟩)
  (u_in (far_rely hF2) hF; rw [stepG_cond (t := false) rfl]; simp only [goes_go, if_true, if_false, Bool.false_eq_true, ↓reduceIte]; refine ⟨by ((first | refine dr_none ?_ | refine dm_none ?_); intro e he; simp at he), ?_⟩)
  (u_in (far_rely hF2) hF; rw [stepG_skip]; simp only [goes_go]; refine ⟨by ((first | refine dr_none ?_ | refine dm_none ?_); intro e he; simp at he), ?_⟩)
  (u_in (far_rely hF2) hF; rw [stepG_seq]; simp only [goes_go]; refine ⟨by ((first | refine dr_none ?_ | refine dm_none ?_); intro e he; simp at he), ?_⟩)
  (u_in (far_rely hF2) hF; rw [stepG_region]; simp only [goes_go, List.size_toArray, List.length_cons, List.length_nil, Nat.reduceAdd, Nat.zero_add, List.range, List.range.loop]; refine ⟨by ((first | refine dr_none ?_ | refine dm_none ?_); intro e he; simp at he), ?_⟩)
  refine Goes.stop (fun w₁ h₁ => ?_)
  replace hF := far_rely hF2 hF h₁
  clear h₁
  refine ⟨rfl, _, stepG_mark0 .disable (by simp) rfl rfl (by k_ne) rfl H.f_disable (x_disable_n lnk) (x_disable_b lnk) (x_disable_x lnk) (x_disable_f lnk), 60, ?_⟩
  show Goes Try.prog true _ _ _ _ _ _
  walk_nrm
  (u_in (far_rely hF2) hF; rw [stepG_region_end]; simp only [goes_go]; refine ⟨by ((first | refine dr_none ?_ | refine dm_none ?_); intro e he; simp at he), ?_⟩)
  (u_in (far_rely hF2) hF; rw [stepG_region]; simp only [goes_go, List.size_toArray, List.length_cons, List.length_nil, Nat.reduceAdd, Nat.zero_add, List.range, List.range.loop]; refine ⟨by ((first | refine dr_none ?_ | refine dm_none ?_); intro e he; simp at he), ?_⟩)
  (u_in (far_rely hF2) hF; rw [stepG_defer rfl rfl (by k_ne) rfl]; simp only [goes_go]; refine ⟨by ((first | refine dr_none ?_ | refine dm_none ?_); intro e he; simp at he), ?_⟩; walk_nrm)
  (u_in (far_rely hF2) hF; rw [stepG_region_end]; simp only [goes_go]; refine ⟨by ((first | refine dr_none ?_ | refine dm_none ?_); intro e he; simp at he), ?_⟩)
  (u_in (far_rely hF2) hF; rw [stepG_seq]; simp only [goes_go]; refine ⟨by ((first | refine dr_none ?_ | refine dm_none ?_); intro e he; simp at he), ?_⟩)
  (u_in (far_rely hF2) hF; rw [stepG_region]; simp only [goes_go, List.size_toArray, List.length_cons, List.length_nil, Nat.reduceAdd, Nat.zero_add, List.range, List.range.loop]; refine ⟨by ((first | refine dr_none ?_ | refine dm_none ?_); intro e he; simp at he), ?_⟩)
  (u_in (far_rely hF2) hF
   refine goes_oper_k rfl rfl (by k_ne) (fun K hK => ?_)
   go_simp
   refine hK _ _ ⟨?_, ?_⟩
   · (first | refine dr_none ?_ | refine dm_none ?_)
     intro e he
     have hm := mem_listed he
     simp [go_sem, *] at hm
   clear hK K
   try w_num)
  (u_in (far_rely hF2) hF; rw [stepG_region_end]; simp only [goes_go]; refine ⟨by ((first | refine dr_none ?_ | refine dm_none ?_); intro e he; simp at he), ?_⟩)
  (u_in (far_rely hF2) hF; rw [stepG_seq]; simp only [goes_go]; refine ⟨by ((first | refine dr_none ?_ | refine dm_none ?_); intro e he; simp at he), ?_⟩)
  (u_in (far_rely hF2) hF; rw [stepG_seq]; simp only [goes_go]; refine ⟨by ((first | refine dr_none ?_ | refine dm_none ?_); intro e he; simp at he), ?_⟩)
  (u_in (far_rely hF2) hF; rw [stepG_region]; simp only [goes_go, List.size_toArray, List.length_cons, List.length_nil, Nat.reduceAdd, Nat.zero_add, List.range, List.range.loop]; refine ⟨by ((first | refine dr_none ?_ | refine dm_none ?_); intro e he; simp at he), ?_⟩)
  u_in (far_rely hF2) hF
  rw [stepG_entry_pure (.bool false) rfl rfl (by k_ne) rfl H.f_inBubble (x_inBubble_n lnk) (x_inBubble_b lnk) (x_inBubble_x lnk) (x_inBubble_f lnk)]
  simp only [goes_go]
  refine ⟨by (first | refine dr_none ?_ | refine dm_none ?_); intro e he; simp at he, ?_⟩
  walk_nrm
  (u_in (far_rely hF2) hF; rw [stepG_region_end]; simp only [goes_go]; refine ⟨by ((first | refine dr_none ?_ | refine dm_none ?_); intro e he; simp at he), ?_⟩)
  (u_in (far_rely hF2) hF; rw [stepG_cond (t := false) rfl]; simp only [goes_go, if_true, if_false, Bool.false_eq_true, ↓reduceIte]; refine ⟨by ((first | refine dr_none ?_ | refine dm_none ?_); intro e he; simp at he), ?_⟩)
  (u_in (far_rely hF2) hF; rw [stepG_skip]; simp only [goes_go]; refine ⟨by ((first | refine dr_none ?_ | refine dm_none ?_); intro e he; simp at he), ?_⟩)
  (u_in (far_rely hF2) hF; rw [stepG_seq]; simp only [goes_go]; refine ⟨by ((first | refine dr_none ?_ | refine dm_none ?_); intro e he; simp at he), ?_⟩)
  (u_in (far_rely hF2) hF; rw [stepG_region]; simp only [goes_go, List.size_toArray, List.length_cons, List.length_nil, Nat.reduceAdd, Nat.zero_add, List.range, List.range.loop]; refine ⟨by ((first | refine dr_none ?_ | refine dm_none ?_); intro e he; simp at he), ?_⟩)
  (u_in (far_rely hF2) hF
   refine goes_oper_k rfl rfl (by k_ne) (fun K hK => ?_)
   go_simp
   refine hK _ _ ⟨?_, ?_⟩
   · (first | refine dr_none ?_ | refine dm_none ?_)
     intro e he
     have hm := mem_listed he
     simp [go_sem, *] at hm
   clear hK K
   try w_num)
  (u_in (far_rely hF2) hF
   refine goes_oper_k rfl rfl (by k_ne) (fun K hK => ?_)
   go_simp
   refine hK _ _ ⟨?_, ?_⟩
   · (first | refine dr_none ?_ | refine dm_none ?_)
     intro e he
     have hm := mem_listed he
     simp [go_sem, *] at hm
   clear hK K
   try w_num)
  (u_in (far_rely hF2) hF
   refine goes_oper_k rfl rfl (by k_ne) (fun K hK => ?_)
   go_simp
   refine hK _ _ ⟨?_, ?_⟩
   · (first | refine dr_none ?_ | refine dm_none ?_)
     intro e he
     have hm := mem_listed he
     simp [go_sem, *] at hm
   clear hK K
   try w_num)
  (u_in (far_rely hF2) hF
   refine goes_oper_k rfl rfl (by k_ne) (fun K hK => ?_)
   go_simp
   refine hK _ _ ⟨?_, ?_⟩
   · (first | refine dr_none ?_ | refine dm_none ?_)
     intro e he
     have hm := mem_listed he
     simp [go_sem, *] at hm
   clear hK K
   try w_num)
  (u_in (far_rely hF2) hF
   refine goes_oper_k rfl rfl (by k_ne) (fun K hK => ?_)
   go_simp
   refine hK _ _ ⟨?_, ?_⟩
   · (first | refine dr_none ?_ | refine dm_none ?_)
     intro e he
     have hm := mem_listed he
     simp [go_sem, *] at hm
   clear hK K
   try w_num)
  (u_in (far_rely hF2) hF
   refine goes_oper_k rfl rfl (by k_ne) (fun K hK => ?_)
   go_simp
   refine hK _ _ ⟨?_, ?_⟩
   · (first | refine dr_none ?_ | refine dm_none ?_)
     intro e he
     have hm := mem_listed he
     simp [go_sem, *] at hm
   clear hK K
   try w_num)
  (u_in (far_rely hF2) hF; refine goes_call rfl rfl (by k_ne) rfl H.f_uAdd (nm_uAdd lnk) rfl ⟨by ((first | refine dr_none ?_ | refine dm_none ?_); intro e he; simp at he), ?_⟩; walk_nrmf uAddFn)
  (u_in (far_rely hF2) hF; rw [stepG_seq]; simp only [goes_go]; refine ⟨by ((first | refine dr_none ?_ | refine dm_none ?_); intro e he; simp at he), ?_⟩)
  (u_in (far_rely hF2) hF; rw [stepG_region]; simp only [goes_go, List.size_toArray, List.length_cons, List.length_nil, Nat.reduceAdd, Nat.zero_add, List.range, List.range.loop]; refine ⟨by ((first | refine dr_none ?_ | refine dm_none ?_); intro e he; simp at he), ?_⟩)
  (u_in (far_rely hF2) hF
   refine goes_oper_k rfl rfl (by k_ne) (fun K hK => ?_)
   go_simp
   refine hK _ _ ⟨?_, ?_⟩
   · (first | refine dr_none ?_ | refine dm_none ?_)
     intro e he
     have hm := mem_listed he
     simp [go_sem, *] at hm
   clear hK K
   try w_num)
  (u_in (far_rely hF2) hF; rw [stepG_region_end]; simp only [goes_go]; refine ⟨by ((first | refine dr_none ?_ | refine dm_none ?_); intro e he; simp at he), ?_⟩)
  (u_in (far_rely hF2) hF; rw [stepG_seq]; simp only [goes_go]; refine ⟨by ((first | refine dr_none ?_ | refine dm_none ?_); intro e he; simp at he), ?_⟩)
  (u_in (far_rely hF2) hF; rw [stepG_region]; simp only [goes_go, List.size_toArray, List.length_cons, List.length_nil, Nat.reduceAdd, Nat.zero_add, List.range, List.range.loop]; refine ⟨by ((first | refine dr_none ?_ | refine dm_none ?_); intro e he; simp at he), ?_⟩)
  (u_in (far_rely hF2) hF
   refine goes_oper_k rfl rfl (by k_ne) (fun K hK => ?_)
   go_simp
   refine hK _ _ ⟨?_, ?_⟩
   · (first | refine dr_none ?_ | refine dm_none ?_)
     intro e he
     have hm := mem_listed he
     simp [go_sem, *] at hm
   clear hK K
   try w_num)
  (u_in (far_rely hF2) hF
   refine goes_oper_k rfl rfl (by k_ne) (fun K hK => ?_)
   go_simp
   refine hK _ _ ⟨?_, ?_⟩
   · (first | refine dr_none ?_ | refine dm_none ?_)
     intro e he
     have hm := mem_listed he
     simp [go_sem, *] at hm
   clear hK K
   try w_num)
  (u_in (far_rely hF2) hF
   refine goes_oper_k rfl rfl (by k_ne) (fun K hK => ?_)
   go_simp
   refine hK _ _ ⟨?_, ?_⟩
   · (first | refine dr_none ?_ | refine dm_none ?_)
     intro e he
     have hm := mem_listed he
     simp [go_sem, *] at hm
   clear hK K
   try w_num)
  (u_in (far_rely hF2) hF
   refine goes_oper_k rfl rfl (by k_ne) (fun K hK => ?_)
   go_simp
   refine hK _ _ ⟨?_, ?_⟩
   · (first | refine dr_none ?_ | refine dm_none ?_)
     intro e he
     have hm := mem_listed he
     simp [go_sem, *] at hm
   clear hK K
   try w_num)
  refine Goes.stop (fun w₂ h₂ => ?_)
  replace hF := far_rely hF2 hF h₂
  clear h₂
  refine ⟨rfl, fun v hv hw => ?_⟩
  replace hw : WgAt lnk.tWg s.Wg w₂ ((v : Int) * KK) 0 := hw
  rcases Nat.eq_zero_or_pos v with rfl | hvp
  · replace hw : WgAt lnk.tWg s.Wg w₂ 0 0 := by simpa using hw
    have z0 : (((0 : Nat) : Int) + 1) * KK = KK := by simp
    rw [z0]
    have e0 : IntKind.u64.wrap (0 + 4294967296) = KK := by decide
    refine ⟨_, (stepG_add_atomic rfl rfl (by k_ne) rfl H.f_addU64 (x_addU64_n lnk) (x_addU64_b lnk) (x_addU64_x lnk) .u64 (x_addU64_f lnk) rfl rfl hw.cellSt (hw.thaw 0)).trans (by rw [e0]; rfl), 130, ?_⟩
    show Goes Try.prog true _ _ _ _ _ _
    have hwn : WgAt lnk.tWg s.Wg (w₂.setCell ⟨s.Wg, 0, none⟩ (.int .u64 KK)) KK 0 := hw.setSt _
    replace hF := far_rely hF2 hF (Far.setWg (p := s.ph f tL tC z Anch Post) hw hwn)
    clear hw hwn
    simp only [KK] at hF ⊢
    walk_nrm
    (u_in (far_rely hF2) hF
     refine goes_oper_k rfl rfl (by k_ne) (fun K hK => ?_)
     go_simp
     refine hK _ _ ⟨?_, ?_⟩
     · (first | refine dr_none ?_ | refine dm_none ?_)
       intro e he
       have hm := mem_listed he
       simp [go_sem, *] at hm
     clear hK K
     try w_num)
    (u_in (far_rely hF2) hF; rw [stepG_region_end]; simp only [goes_go]; refine ⟨by ((first | refine dr_none ?_ | refine dm_none ?_); intro e he; simp at he), ?_⟩)
    (u_in (far_rely hF2) hF; rw [stepG_ret']; simp only [goes_go]; refine ⟨by ((first | refine dr_none ?_ | refine dm_none ?_); intro e he; simp at he), ?_⟩)
    (u_in (far_rely hF2) hF; refine goes_leave1 rfl rfl H.f_uAdd rfl ⟨by ((first | refine dr_none ?_ | refine dm_none ?_); intro e he; simp at he), ?_⟩; walk_nrm)
    (u_in (far_rely hF2) hF
     refine goes_oper_k rfl rfl (by k_ne) (fun K hK => ?_)
     go_simp
     refine hK _ _ ⟨?_, ?_⟩
     · (first | refine dr_none ?_ | refine dm_none ?_)
       intro e he
       have hm := mem_listed he
       simp [go_sem, *] at hm
     clear hK K
     try w_num)
    (u_in (far_rely hF2) hF; rw [stepG_region_end]; simp only [goes_go]; refine ⟨by ((first | refine dr_none ?_ | refine dm_none ?_); intro e he; simp at he), ?_⟩)
    (u_in (far_rely hF2) hF; rw [stepG_seq]; simp only [goes_go]; refine ⟨by ((first | refine dr_none ?_ | refine dm_none ?_); intro e he; simp at he), ?_⟩)
    (u_in (far_rely hF2) hF; rw [stepG_seq]; simp only [goes_go]; refine ⟨by ((first | refine dr_none ?_ | refine dm_none ?_); intro e he; simp at he), ?_⟩)
    (u_in (far_rely hF2) hF; rw [stepG_region]; simp only [goes_go, List.size_toArray, List.length_cons, List.length_nil, Nat.reduceAdd, Nat.zero_add, List.range, List.range.loop]; refine ⟨by ((first | refine dr_none ?_ | refine dm_none ?_); intro e he; simp at he), ?_⟩)
    (u_in (far_rely hF2) hF
     refine goes_oper_k rfl rfl (by k_ne) (fun K hK => ?_)
     go_simp
     refine hK _ _ ⟨?_, ?_⟩
     · (first | refine dr_none ?_ | refine dm_none ?_)
       intro e he
       have hm := mem_listed he
       simp [go_sem, *] at hm
     clear hK K
     try w_num)
    (u_in (far_rely hF2) hF
     refine goes_oper_k rfl rfl (by k_ne) (fun K hK => ?_)
     go_simp
     refine hK _ _ ⟨?_, ?_⟩
     · (first | refine dr_none ?_ | refine dm_none ?_)
       intro e he
       have hm := mem_listed he
       simp [go_sem, *] at hm
     clear hK K
     try w_num)
    (u_in (far_rely hF2) hF
     refine goes_oper_k rfl rfl (by k_ne) (fun K hK => ?_)
     go_simp
     refine hK _ _ ⟨?_, ?_⟩
     · (first | refine dr_none ?_ | refine dm_none ?_)
       intro e he
       have hm := mem_listed he
       simp [go_sem, *] at hm
     clear hK K
     try w_num)
    (u_in (far_rely hF2) hF
     refine goes_oper_k rfl rfl (by k_ne) (fun K hK => ?_)
     go_simp
     refine hK _ _ ⟨?_, ?_⟩
     · (first | refine dr_none ?_ | refine dm_none ?_)
       intro e he
       have hm := mem_listed he
       simp [go_sem, *] at hm
     clear hK K
     try w_num)
    (u_in (far_rely hF2) hF; rw [stepG_unwanted rfl rfl]; simp only [goes_go]; refine ⟨by ((first | refine dr_none ?_ | refine dm_none ?_); intro e he; simp at he), ?_⟩; walk_nrm)
    (u_in (far_rely hF2) hF; rw [stepG_unwanted rfl rfl]; simp only [goes_go]; refine ⟨by ((first | refine dr_none ?_ | refine dm_none ?_); intro e he; simp at he), ?_⟩; walk_nrm)
    (u_in (far_rely hF2) hF
     refine goes_oper_k rfl rfl (by k_ne) (fun K hK => ?_)
     go_simp
     refine hK _ _ ⟨?_, ?_⟩
     · (first | refine dr_none ?_ | refine dm_none ?_)
       intro e he
       have hm := mem_listed he
       simp [go_sem, *] at hm
     clear hK K
     try w_num)
    (u_in (far_rely hF2) hF; rw [stepG_region_end]; simp only [goes_go]; refine ⟨by ((first | refine dr_none ?_ | refine dm_none ?_); intro e he; simp at he), ?_⟩)
    (u_in (far_rely hF2) hF; rw [stepG_cond (t := false) (by first | rfl | (simp [Act.eval]; omega))]; simp only [goes_go, if_true, if_false, Bool.false_eq_true, ↓reduceIte]; refine ⟨by ((first | refine dr_none ?_ | refine dm_none ?_); intro e he; simp at he), ?_⟩)
    (u_in (far_rely hF2) hF; rw [stepG_skip]; simp only [goes_go]; refine ⟨by ((first | refine dr_none ?_ | refine dm_none ?_); intro e he; simp at he), ?_⟩)
    (u_in (far_rely hF2) hF; rw [stepG_seq]; simp only [goes_go]; refine ⟨by ((first | refine dr_none ?_ | refine dm_none ?_); intro e he; simp at he), ?_⟩)
    (u_in (far_rely hF2) hF; rw [stepG_region]; simp only [goes_go, List.size_toArray, List.length_cons, List.length_nil, Nat.reduceAdd, Nat.zero_add, List.range, List.range.loop]; refine ⟨by ((first | refine dr_none ?_ | refine dm_none ?_); intro e he; simp at he), ?_⟩)
    (u_in (far_rely hF2) hF
     refine goes_oper_k rfl rfl (by k_ne) (fun K hK => ?_)
     go_simp
     refine hK _ _ ⟨?_, ?_⟩
     · (first | refine dr_none ?_ | refine dm_none ?_)
       intro e he
       have hm := mem_listed he
       simp [go_sem, *] at hm
     clear hK K
     try w_num)
    (u_in (far_rely hF2) hF
     refine goes_oper_k rfl rfl (by k_ne) (fun K hK => ?_)
     go_simp
     refine hK _ _ ⟨?_, ?_⟩
     · (first | refine dr_none ?_ | refine dm_none ?_)
       intro e he
       have hm := mem_listed he
       simp [go_sem, *] at hm
     clear hK K
     try w_num)
    (u_in (far_rely hF2) hF
     refine goes_oper_k rfl rfl (by k_ne) (fun K hK => ?_)
     go_simp
     refine hK _ _ ⟨?_, ?_⟩
     · (first | refine dr_none ?_ | refine dm_none ?_)
       intro e he
       have hm := mem_listed he
       simp [go_sem, *] at hm
     clear hK K
     try w_num)
    (u_in (far_rely hF2) hF
     refine goes_oper_k rfl rfl (by k_ne) (fun K hK => ?_)
     go_simp
     refine hK _ _ ⟨?_, ?_⟩
     · (first | refine dr_none ?_ | refine dm_none ?_)
       intro e he
       have hm := mem_listed he
       simp [go_sem, *] at hm
     clear hK K
     try w_num)
    (u_in (far_rely hF2) hF; rw [stepG_region_end]; simp only [goes_go]; refine ⟨by ((first | refine dr_none ?_ | refine dm_none ?_); intro e he; simp at he), ?_⟩)
    (u_in (far_rely hF2) hF; rw [stepG_seq]; simp only [goes_go]; refine ⟨by ((first | refine dr_none ?_ | refine dm_none ?_); intro e he; simp at he), ?_⟩)
    (u_in (far_rely hF2) hF; rw [stepG_region]; simp only [goes_go, List.size_toArray, List.length_cons, List.length_nil, Nat.reduceAdd, Nat.zero_add, List.range, List.range.loop]; refine ⟨by ((first | refine dr_none ?_ | refine dm_none ?_); intro e he; simp at he), ?_⟩)
    (u_in (far_rely hF2) hF
     refine goes_oper_k rfl rfl (by k_ne) (fun K hK => ?_)
     go_simp
     refine hK _ _ ⟨?_, ?_⟩
     · (first | refine dr_none ?_ | refine dm_none ?_)
       intro e he
       have hm := mem_listed he
       simp [go_sem, *] at hm
     clear hK K
     try w_num)
    (u_in (far_rely hF2) hF
     refine goes_oper_k rfl rfl (by k_ne) (fun K hK => ?_)
     go_simp
     refine hK _ _ ⟨?_, ?_⟩
     · (first | refine dr_none ?_ | refine dm_none ?_)
       intro e he
       have hm := mem_listed he
       simp [go_sem, *] at hm
     clear hK K
     try w_num)
    (u_in (far_rely hF2) hF
     refine goes_oper_k rfl rfl (by k_ne) (fun K hK => ?_)
     go_simp
     refine hK _ _ ⟨?_, ?_⟩
     · (first | refine dr_none ?_ | refine dm_none ?_)
       intro e he
       have hm := mem_listed he
       simp [go_sem, *] at hm
     clear hK K
     try w_num)
    (u_in (far_rely hF2) hF
     refine goes_oper_k rfl rfl (by k_ne) (fun K hK => ?_)
     go_simp
     refine hK _ _ ⟨?_, ?_⟩
     · (first | refine dr_none ?_ | refine dm_none ?_)
       intro e he
       have hm := mem_listed he
       simp [go_sem, *] at hm
     clear hK K
     try w_num)
    (u_in (far_rely hF2) hF; rw [stepG_region_end]; simp only [goes_go]; refine ⟨by ((first | refine dr_none ?_ | refine dm_none ?_); intro e he; simp at he), ?_⟩)
    (u_in (far_rely hF2) hF; rw [stepG_seq]; simp only [goes_go]; refine ⟨by ((first | refine dr_none ?_ | refine dm_none ?_); intro e he; simp at he), ?_⟩)
    (u_in (far_rely hF2) hF; rw [stepG_seq]; simp only [goes_go]; refine ⟨by ((first | refine dr_none ?_ | refine dm_none ?_); intro e he; simp at he), ?_⟩)
    (u_in (far_rely hF2) hF; rw [stepG_region]; simp only [goes_go, List.size_toArray, List.length_cons, List.length_nil, Nat.reduceAdd, Nat.zero_add, List.range, List.range.loop]; refine ⟨by ((first | refine dr_none ?_ | refine dm_none ?_); intro e he; simp at he), ?_⟩)
    (u_in (far_rely hF2) hF
     refine goes_oper_k rfl rfl (by k_ne) (fun K hK => ?_)
     go_simp
     refine hK _ _ ⟨?_, ?_⟩
     · (first | refine dr_none ?_ | refine dm_none ?_)
       intro e he
       have hm := mem_listed he
       simp [go_sem, *] at hm
     clear hK K
     try w_num)
    (u_in (far_rely hF2) hF
     refine goes_oper_k rfl rfl (by k_ne) (fun K hK => ?_)
     go_simp
     refine hK _ _ ⟨?_, ?_⟩
     · (first | refine dr_none ?_ | refine dm_none ?_)
       intro e he
       have hm := mem_listed he
       simp [go_sem, *] at hm
     clear hK K
     try w_num)
    (u_in (far_rely hF2) hF
     refine goes_oper_k rfl rfl (by k_ne) (fun K hK => ?_)
     go_simp
     refine hK _ _ ⟨?_, ?_⟩
     · (first | refine dr_none ?_ | refine dm_none ?_)
       intro e he
       have hm := mem_listed he
       simp [go_sem, *] at hm
     clear hK K
     try w_num)
    (u_in (far_rely hF2) hF
     refine goes_oper_k rfl rfl (by k_ne) (fun K hK => ?_)
     go_simp
     refine hK _ _ ⟨?_, ?_⟩
     · (first | refine dr_none ?_ | refine dm_none ?_)
       intro e he
       have hm := mem_listed he
       simp [go_sem, *] at hm
     clear hK K
     try w_num)
    (u_in (far_rely hF2) hF
     refine goes_oper_k rfl rfl (by k_ne) (fun K hK => ?_)
     go_simp
     refine hK _ _ ⟨?_, ?_⟩
     · (first | refine dr_none ?_ | refine dm_none ?_)
       intro e he
       have hm := mem_listed he
       simp [go_sem, *] at hm
     clear hK K
     try w_num)
    (u_in (far_rely hF2) hF
     refine goes_oper_k rfl rfl (by k_ne) (fun K hK => ?_)
     go_simp
     refine hK _ _ ⟨?_, ?_⟩
     · (first | refine dr_none ?_ | refine dm_none ?_)
       intro e he
       have hm := mem_listed he
       simp [go_sem, *] at hm
     clear hK K
     try w_num)
    (u_in (far_rely hF2) hF
     refine goes_oper_k rfl rfl (by k_ne) (fun K hK => ?_)
     go_simp
     refine hK _ _ ⟨?_, ?_⟩
     · (first | refine dr_none ?_ | refine dm_none ?_)
       intro e he
       have hm := mem_listed he
       simp [go_sem, *] at hm
     clear hK K
     try w_num)
    (u_in (far_rely hF2) hF
     refine goes_oper_k rfl rfl (by k_ne) (fun K hK => ?_)
     go_simp
     refine hK _ _ ⟨?_, ?_⟩
     · (first | refine dr_none ?_ | refine dm_none ?_)
       intro e he
       have hm := mem_listed he
       simp [go_sem, *] at hm
     clear hK K
     try w_num)
    (u_in (far_rely hF2) hF
     refine goes_oper_k rfl rfl (by k_ne) (fun K hK => ?_)
     go_simp
     refine hK _ _ ⟨?_, ?_⟩
     · (first | refine dr_none ?_ | refine dm_none ?_)
       intro e he
       have hm := mem_listed he
       simp [go_sem, *] at hm
     clear hK K
     try w_num)
    (u_in (far_rely hF2) hF
     refine goes_oper_k rfl rfl (by k_ne) (fun K hK => ?_)
     go_simp
     refine hK _ _ ⟨?_, ?_⟩
     · (first | refine dr_none ?_ | refine dm_none ?_)
       intro e he
       have hm := mem_listed he
       simp [go_sem, *] at hm
     clear hK K
     try w_num)
    (u_in (far_rely hF2) hF; rw [stepG_region_end]; simp only [goes_go]; refine ⟨by ((first | refine dr_none ?_ | refine dm_none ?_); intro e he; simp at he), ?_⟩)
    (u_in (far_rely hF2) hF; rw [stepG_cond (t := true) (by first | rfl | (simp [Act.eval]; omega))]; simp only [goes_go, if_true, if_false, Bool.false_eq_true, ↓reduceIte]; refine ⟨by ((first | refine dr_none ?_ | refine dm_none ?_); intro e he; simp at he), ?_⟩)
    (u_in (far_rely hF2) hF; rw [stepG_region]; simp only [goes_go, List.size_toArray, List.length_cons, List.length_nil, Nat.reduceAdd, Nat.zero_add, List.range, List.range.loop]; refine ⟨by ((first | refine dr_none ?_ | refine dm_none ?_); intro e he; simp at he), ?_⟩)
    (u_in (far_rely hF2) hF
     refine goes_oper_k rfl rfl (by k_ne) (fun K hK => ?_)
     go_simp
     refine hK _ _ ⟨?_, ?_⟩
     · (first | refine dr_none ?_ | refine dm_none ?_)
       intro e he
       have hm := mem_listed he
       simp [go_sem, *] at hm
     clear hK K
     try w_num)
    (u_in (far_rely hF2) hF
     refine goes_oper_k rfl rfl (by k_ne) (fun K hK => ?_)
     go_simp
     refine hK _ _ ⟨?_, ?_⟩
     · (first | refine dr_none ?_ | refine dm_none ?_)
       intro e he
       have hm := mem_listed he
       simp [go_sem, *] at hm
     clear hK K
     try w_num)
    (u_in (far_rely hF2) hF
     refine goes_oper_k rfl rfl (by k_ne) (fun K hK => ?_)
     go_simp
     refine hK _ _ ⟨?_, ?_⟩
     · (first | refine dr_none ?_ | refine dm_none ?_)
       intro e he
       have hm := mem_listed he
       simp [go_sem, *] at hm
     clear hK K
     try w_num)
    (u_in (far_rely hF2) hF
     refine goes_oper_k rfl rfl (by k_ne) (fun Kx hKx => ?_)
     have hcv := run_convert_to_unsafe (P := Try.prog) wgLib.underlying_tPU32 wgLib.underlying_tUP wgLib.room_tU32 (live1 hF.2).choose_spec
     have hce := fun es => events_convert_to_unsafe (P := Try.prog) wgLib.underlying_tPU32 wgLib.underlying_tUP wgLib.room_tU32 (live1 hF.2).choose_spec es
     go_simp
     refine hKx _ _ ⟨?_, ?_⟩
     · (first | refine dr_none ?_ | refine dm_none ?_)
       intro ex hex
       have hmx := mem_listed hex
       simp [go_sem, hce] at hmx
     clear hKx Kx hcv hce)
    u_in (far_rely hF2) hF
    rw [stepG_markAt .read (by simp) rfl rfl (by k_ne) rfl H.f_raceRead (x_raceRead_n lnk) (x_raceRead_b lnk) (x_raceRead_x lnk) (x_raceRead_f lnk) (ad := ⟨s.Wg, 1, none⟩) (by simp [Act.eval])]
    simp only [goes_go]
    refine ⟨dm_ev (evM_said _ rfl hWB), ?_⟩
    walk_nrm
    (u_in (far_rely hF2) hF; rw [stepG_region_end]; simp only [goes_go]; refine ⟨by ((first | refine dr_none ?_ | refine dm_none ?_); intro e he; simp at he), ?_⟩)
    (u_in (far_rely hF2) hF; rw [stepG_seq]; simp only [goes_go]; refine ⟨by ((first | refine dr_none ?_ | refine dm_none ?_); intro e he; simp at he), ?_⟩)
    (u_in (far_rely hF2) hF; rw [stepG_seq]; simp only [goes_go]; refine ⟨by ((first | refine dr_none ?_ | refine dm_none ?_); intro e he; simp at he), ?_⟩)
    (u_in (far_rely hF2) hF; rw [stepG_region]; simp only [goes_go, List.size_toArray, List.length_cons, List.length_nil, Nat.reduceAdd, Nat.zero_add, List.range, List.range.loop]; refine ⟨by ((first | refine dr_none ?_ | refine dm_none ?_); intro e he; simp at he), ?_⟩)
    (u_in (far_rely hF2) hF
     refine goes_oper_k rfl rfl (by k_ne) (fun K hK => ?_)
     go_simp
     refine hK _ _ ⟨?_, ?_⟩
     · (first | refine dr_none ?_ | refine dm_none ?_)
       intro e he
       have hm := mem_listed he
       simp [go_sem, *] at hm
     clear hK K
     try w_num)
    (u_in (far_rely hF2) hF
     refine goes_oper_k rfl rfl (by k_ne) (fun K hK => ?_)
     go_simp
     refine hK _ _ ⟨?_, ?_⟩
     · (first | refine dr_none ?_ | refine dm_none ?_)
       intro e he
       have hm := mem_listed he
       simp [go_sem, *] at hm
     clear hK K
     try w_num)
    (u_in (far_rely hF2) hF; rw [stepG_region_end]; simp only [goes_go]; refine ⟨by ((first | refine dr_none ?_ | refine dm_none ?_); intro e he; simp at he), ?_⟩)
    (u_in (far_rely hF2) hF; rw [stepG_cond (t := false) (by first | rfl | (simp [Act.eval]; omega))]; simp only [goes_go, if_true, if_false, Bool.false_eq_true, ↓reduceIte]; refine ⟨by ((first | refine dr_none ?_ | refine dm_none ?_); intro e he; simp at he), ?_⟩)
    (u_in (far_rely hF2) hF; rw [stepG_skip]; simp only [goes_go]; refine ⟨by ((first | refine dr_none ?_ | refine dm_none ?_); intro e he; simp at he), ?_⟩)
    (u_in (far_rely hF2) hF; rw [stepG_seq]; simp only [goes_go]; refine ⟨by ((first | refine dr_none ?_ | refine dm_none ?_); intro e he; simp at he), ?_⟩)
    (u_in (far_rely hF2) hF; rw [stepG_seq]; simp only [goes_go]; refine ⟨by ((first | refine dr_none ?_ | refine dm_none ?_); intro e he; simp at he), ?_⟩)
    (u_in (far_rely hF2) hF; rw [stepG_region]; simp only [goes_go, List.size_toArray, List.length_cons, List.length_nil, Nat.reduceAdd, Nat.zero_add, List.range, List.range.loop]; refine ⟨by ((first | refine dr_none ?_ | refine dm_none ?_); intro e he; simp at he), ?_⟩)
    (u_in (far_rely hF2) hF
     refine goes_oper_k rfl rfl (by k_ne) (fun K hK => ?_)
     go_simp
     refine hK _ _ ⟨?_, ?_⟩
     · (first | refine dr_none ?_ | refine dm_none ?_)
       intro e he
       have hm := mem_listed he
       simp [go_sem, *] at hm
     clear hK K
     try w_num)
    (u_in (far_rely hF2) hF
     refine goes_oper_k rfl rfl (by k_ne) (fun K hK => ?_)
     go_simp
     refine hK _ _ ⟨?_, ?_⟩
     · (first | refine dr_none ?_ | refine dm_none ?_)
       intro e he
       have hm := mem_listed he
       simp [go_sem, *] at hm
     clear hK K
     try w_num)
    (u_in (far_rely hF2) hF
     refine goes_oper_k rfl rfl (by k_ne) (fun K hK => ?_)
     go_simp
     refine hK _ _ ⟨?_, ?_⟩
     · (first | refine dr_none ?_ | refine dm_none ?_)
       intro e he
       have hm := mem_listed he
       simp [go_sem, *] at hm
     clear hK K
     try w_num)
    (u_in (far_rely hF2) hF; rw [stepG_unwanted rfl rfl]; simp only [goes_go]; refine ⟨by ((first | refine dr_none ?_ | refine dm_none ?_); intro e he; simp at he), ?_⟩; walk_nrm)
    (u_in (far_rely hF2) hF; rw [stepG_unwanted rfl rfl]; simp only [goes_go]; refine ⟨by ((first | refine dr_none ?_ | refine dm_none ?_); intro e he; simp at he), ?_⟩; walk_nrm)
    (u_in (far_rely hF2) hF
     refine goes_oper_k rfl rfl (by k_ne) (fun K hK => ?_)
     go_simp
     refine hK _ _ ⟨?_, ?_⟩
     · (first | refine dr_none ?_ | refine dm_none ?_)
       intro e he
       have hm := mem_listed he
       simp [go_sem, *] at hm
     clear hK K
     try w_num)
    (u_in (far_rely hF2) hF
     refine goes_oper_k rfl rfl (by k_ne) (fun K hK => ?_)
     go_simp
     refine hK _ _ ⟨?_, ?_⟩
     · (first | refine dr_none ?_ | refine dm_none ?_)
       intro e he
       have hm := mem_listed he
       simp [go_sem, *] at hm
     clear hK K
     try w_num)
    (u_in (far_rely hF2) hF; rw [stepG_unwanted rfl rfl]; simp only [goes_go]; refine ⟨by ((first | refine dr_none ?_ | refine dm_none ?_); intro e he; simp at he), ?_⟩; walk_nrm)
    (u_in (far_rely hF2) hF; rw [stepG_unwanted rfl rfl]; simp only [goes_go]; refine ⟨by ((first | refine dr_none ?_ | refine dm_none ?_); intro e he; simp at he), ?_⟩; walk_nrm)
    (u_in (far_rely hF2) hF; rw [stepG_unwanted rfl rfl]; simp only [goes_go]; refine ⟨by ((first | refine dr_none ?_ | refine dm_none ?_); intro e he; simp at he), ?_⟩; walk_nrm)
    (u_in (far_rely hF2) hF; rw [stepG_unwanted rfl rfl]; simp only [goes_go]; refine ⟨by ((first | refine dr_none ?_ | refine dm_none ?_); intro e he; simp at he), ?_⟩; walk_nrm)
    (u_in (far_rely hF2) hF
     refine goes_oper_k rfl rfl (by k_ne) (fun K hK => ?_)
     go_simp
     refine hK _ _ ⟨?_, ?_⟩
     · (first | refine dr_none ?_ | refine dm_none ?_)
       intro e he
       have hm := mem_listed he
       simp [go_sem, *] at hm
     clear hK K
     try w_num)
    (u_in (far_rely hF2) hF; rw [stepG_region_end]; simp only [goes_go]; refine ⟨by ((first | refine dr_none ?_ | refine dm_none ?_); intro e he; simp at he), ?_⟩)
    (u_in (far_rely hF2) hF; rw [stepG_cond (t := false) (by first | rfl | (simp [Act.eval]; omega))]; simp only [goes_go, if_true, if_false, Bool.false_eq_true, ↓reduceIte]; refine ⟨by ((first | refine dr_none ?_ | refine dm_none ?_); intro e he; simp at he), ?_⟩)
    (u_in (far_rely hF2) hF; rw [stepG_skip]; simp only [goes_go]; refine ⟨by ((first | refine dr_none ?_ | refine dm_none ?_); intro e he; simp at he), ?_⟩)
    (u_in (far_rely hF2) hF; rw [stepG_seq]; simp only [goes_go]; refine ⟨by ((first | refine dr_none ?_ | refine dm_none ?_); intro e he; simp at he), ?_⟩)
    (u_in (far_rely hF2) hF; rw [stepG_seq]; simp only [goes_go]; refine ⟨by ((first | refine dr_none ?_ | refine dm_none ?_); intro e he; simp at he), ?_⟩)
    (u_in (far_rely hF2) hF; rw [stepG_region]; simp only [goes_go, List.size_toArray, List.length_cons, List.length_nil, Nat.reduceAdd, Nat.zero_add, List.range, List.range.loop]; refine ⟨by ((first | refine dr_none ?_ | refine dm_none ?_); intro e he; simp at he), ?_⟩)
    (u_in (far_rely hF2) hF
     refine goes_oper_k rfl rfl (by k_ne) (fun K hK => ?_)
     go_simp
     refine hK _ _ ⟨?_, ?_⟩
     · (first | refine dr_none ?_ | refine dm_none ?_)
       intro e he
       have hm := mem_listed he
       simp [go_sem, *] at hm
     clear hK K
     try w_num)
    (u_in (far_rely hF2) hF
     refine goes_oper_k rfl rfl (by k_ne) (fun K hK => ?_)
     go_simp
     refine hK _ _ ⟨?_, ?_⟩
     · (first | refine dr_none ?_ | refine dm_none ?_)
       intro e he
       have hm := mem_listed he
       simp [go_sem, *] at hm
     clear hK K
     try w_num)
    (u_in (far_rely hF2) hF
     refine goes_oper_k rfl rfl (by k_ne) (fun K hK => ?_)
     go_simp
     refine hK _ _ ⟨?_, ?_⟩
     · (first | refine dr_none ?_ | refine dm_none ?_)
       intro e he
       have hm := mem_listed he
       simp [go_sem, *] at hm
     clear hK K
     try w_num)
    (u_in (far_rely hF2) hF; rw [stepG_unwanted rfl rfl]; simp only [goes_go]; refine ⟨by ((first | refine dr_none ?_ | refine dm_none ?_); intro e he; simp at he), ?_⟩; walk_nrm)
    (u_in (far_rely hF2) hF; rw [stepG_unwanted rfl rfl]; simp only [goes_go]; refine ⟨by ((first | refine dr_none ?_ | refine dm_none ?_); intro e he; simp at he), ?_⟩; walk_nrm)
    (u_in (far_rely hF2) hF
     refine goes_oper_k rfl rfl (by k_ne) (fun K hK => ?_)
     go_simp
     refine hK _ _ ⟨?_, ?_⟩
     · (first | refine dr_none ?_ | refine dm_none ?_)
       intro e he
       have hm := mem_listed he
       simp [go_sem, *] at hm
     clear hK K
     try w_num)
    (u_in (far_rely hF2) hF; rw [stepG_region_end]; simp only [goes_go]; refine ⟨by ((first | refine dr_none ?_ | refine dm_none ?_); intro e he; simp at he), ?_⟩)
    (u_in (far_rely hF2) hF; rw [stepG_cond (t := true) (by first | rfl | (simp [Act.eval]; omega))]; simp only [goes_go, if_true, if_false, Bool.false_eq_true, ↓reduceIte]; refine ⟨by ((first | refine dr_none ?_ | refine dm_none ?_); intro e he; simp at he), ?_⟩)
    (u_in (far_rely hF2) hF; rw [stepG_ret']; simp only [goes_go]; refine ⟨by ((first | refine dr_none ?_ | refine dm_none ?_); intro e he; simp at he), ?_⟩)
    refine Goes.stop (fun w₃ h₃ => ?_)
    replace hF := far_rely hF2 hF h₃
    clear h₃
    refine ⟨rfl, _, stepG_unwind_entry (v := .tuple #[]) (evs := #[Go.ConcR.mk .enable]) rfl H.f_enable (x_enable_n lnk) (x_enable_b lnk) (x_enable_x lnk) (x_enable_f lnk) (by simp [Extern.Race.none_]) (by simp [Go.ConcR.mk]) (by simp [Go.ConcR.mk]), mT + 1, ?_⟩
    show Goes Try.prog true _ _ _ _ _ _
    (u_in (far_rely hF2) hF; refine goes_leave0 rfl rfl H.f_add rfl ⟨by ((first | refine dr_none ?_ | refine dm_none ?_); intro e he; simp at he), ?_⟩; walk_nrm)
    exact hT _ hF
  · obtain ⟨V, hV⟩ : ∃ V : Int, V = (v : Int) + 1 := ⟨_, rfl⟩
    obtain ⟨S, hS⟩ : ∃ S : Int, S = V * KK := ⟨_, rfl⟩
    have eS : IntKind.u64.wrap ((v : Int) * KK + 4294967296) = S := by rw [IntKind.wrap_u64, hS, hV]; simp only [KK]; omega
    have a1 : S / 4294967296 = V := by rw [hS]; simp only [KK]; omega
    have b1 : bits .and .u64 S 2147483648 = 0 := by rw [hS, hV]; have := st_flag (v + 1) 0 (by omega) (by omega); simpa [KK] using this
    have b2 : bits .and .u64 S 2147483647 = 0 := by rw [hS, hV]; have := st_waiters (v + 1) 0 (by omega) (by omega); simpa [KK] using this
    have c1 : IntKind.i32.wrap V = V := by rw [IntKind.wrap_i32]; omega
    have hV1 : 1 < V := by omega
    have q1 : (V == 1) = false := by simp; omega
    have q2 : decide (V = 1) = false := decide_eq_false (by omega)
    have q3 : decide (V < 0) = false := decide_eq_false (by omega)
    have q4 : decide (0 < V) = true := decide_eq_true (by omega)
    have q5 : (V == 0) = false := by simp; omega
    have q6 : decide (V = 0) = false := decide_eq_false (by omega)
    rw [← hV, ← hS]
    refine ⟨_, (stepG_add_atomic rfl rfl (by k_ne) rfl H.f_addU64 (x_addU64_n lnk) (x_addU64_b lnk) (x_addU64_x lnk) .u64 (x_addU64_f lnk) rfl rfl hw.cellSt (hw.thaw 0)).trans (by rw [eS]; rfl), 130, ?_⟩
    show Goes Try.prog true _ _ _ _ _ _
    have hwn : WgAt lnk.tWg s.Wg (w₂.setCell ⟨s.Wg, 0, none⟩ (.int .u64 S)) S 0 := hw.setSt _
    replace hF := far_rely hF2 hF (Far.setWg (p := s.ph f tL tC z Anch Post) hw hwn)
    clear hw hwn hS hV eS
    walk_nrm
    (u_in (far_rely hF2) hF
     refine goes_oper_k rfl rfl (by k_ne) (fun K hK => ?_)
     go_simp
     refine hK _ _ ⟨?_, ?_⟩
     · (first | refine dr_none ?_ | refine dm_none ?_)
       intro e he
       have hm := mem_listed he
       simp [go_sem, *] at hm
     clear hK K
     try w_num)
    (u_in (far_rely hF2) hF; rw [stepG_region_end]; simp only [goes_go]; refine ⟨by ((first | refine dr_none ?_ | refine dm_none ?_); intro e he; simp at he), ?_⟩)
    (u_in (far_rely hF2) hF; rw [stepG_ret']; simp only [goes_go]; refine ⟨by ((first | refine dr_none ?_ | refine dm_none ?_); intro e he; simp at he), ?_⟩)
    (u_in (far_rely hF2) hF; refine goes_leave1 rfl rfl H.f_uAdd rfl ⟨by ((first | refine dr_none ?_ | refine dm_none ?_); intro e he; simp at he), ?_⟩; walk_nrm)
    (u_in (far_rely hF2) hF
     refine goes_oper_k rfl rfl (by k_ne) (fun K hK => ?_)
     go_simp
     refine hK _ _ ⟨?_, ?_⟩
     · (first | refine dr_none ?_ | refine dm_none ?_)
       intro e he
       have hm := mem_listed he
       simp [go_sem, *] at hm
     clear hK K
     try w_num)
    (u_in (far_rely hF2) hF; rw [stepG_region_end]; simp only [goes_go]; refine ⟨by ((first | refine dr_none ?_ | refine dm_none ?_); intro e he; simp at he), ?_⟩)
    (u_in (far_rely hF2) hF; rw [stepG_seq]; simp only [goes_go]; refine ⟨by ((first | refine dr_none ?_ | refine dm_none ?_); intro e he; simp at he), ?_⟩)
    (u_in (far_rely hF2) hF; rw [stepG_seq]; simp only [goes_go]; refine ⟨by ((first | refine dr_none ?_ | refine dm_none ?_); intro e he; simp at he), ?_⟩)
    (u_in (far_rely hF2) hF; rw [stepG_region]; simp only [goes_go, List.size_toArray, List.length_cons, List.length_nil, Nat.reduceAdd, Nat.zero_add, List.range, List.range.loop]; refine ⟨by ((first | refine dr_none ?_ | refine dm_none ?_); intro e he; simp at he), ?_⟩)
    (u_in (far_rely hF2) hF
     refine goes_oper_k rfl rfl (by k_ne) (fun K hK => ?_)
     go_simp
     refine hK _ _ ⟨?_, ?_⟩
     · (first | refine dr_none ?_ | refine dm_none ?_)
       intro e he
       have hm := mem_listed he
       simp [go_sem, *] at hm
     clear hK K
     try w_num)
    (u_in (far_rely hF2) hF
     refine goes_oper_k rfl rfl (by k_ne) (fun K hK => ?_)
     go_simp
     refine hK _ _ ⟨?_, ?_⟩
     · (first | refine dr_none ?_ | refine dm_none ?_)
       intro e he
       have hm := mem_listed he
       simp [go_sem, *] at hm
     clear hK K
     try w_num)
    (u_in (far_rely hF2) hF
     refine goes_oper_k rfl rfl (by k_ne) (fun K hK => ?_)
     go_simp
     refine hK _ _ ⟨?_, ?_⟩
     · (first | refine dr_none ?_ | refine dm_none ?_)
       intro e he
       have hm := mem_listed he
       simp [go_sem, *] at hm
     clear hK K
     try w_num)
    (u_in (far_rely hF2) hF
     refine goes_oper_k rfl rfl (by k_ne) (fun K hK => ?_)
     go_simp
     refine hK _ _ ⟨?_, ?_⟩
     · (first | refine dr_none ?_ | refine dm_none ?_)
       intro e he
       have hm := mem_listed he
       simp [go_sem, *] at hm
     clear hK K
     try w_num)
    (u_in (far_rely hF2) hF; rw [stepG_unwanted rfl rfl]; simp only [goes_go]; refine ⟨by ((first | refine dr_none ?_ | refine dm_none ?_); intro e he; simp at he), ?_⟩; walk_nrm)
    (u_in (far_rely hF2) hF; rw [stepG_unwanted rfl rfl]; simp only [goes_go]; refine ⟨by ((first | refine dr_none ?_ | refine dm_none ?_); intro e he; simp at he), ?_⟩; walk_nrm)
    (u_in (far_rely hF2) hF
     refine goes_oper_k rfl rfl (by k_ne) (fun K hK => ?_)
     go_simp
     refine hK _ _ ⟨?_, ?_⟩
     · (first | refine dr_none ?_ | refine dm_none ?_)
       intro e he
       have hm := mem_listed he
       simp [go_sem, *] at hm
     clear hK K
     try w_num)
    (u_in (far_rely hF2) hF; rw [stepG_region_end]; simp only [goes_go]; refine ⟨by ((first | refine dr_none ?_ | refine dm_none ?_); intro e he; simp at he), ?_⟩)
    (u_in (far_rely hF2) hF; rw [stepG_cond (t := false) (by first | rfl | (simp [Act.eval]; omega))]; simp only [goes_go, if_true, if_false, Bool.false_eq_true, ↓reduceIte]; refine ⟨by ((first | refine dr_none ?_ | refine dm_none ?_); intro e he; simp at he), ?_⟩)
    (u_in (far_rely hF2) hF; rw [stepG_skip]; simp only [goes_go]; refine ⟨by ((first | refine dr_none ?_ | refine dm_none ?_); intro e he; simp at he), ?_⟩)
    (u_in (far_rely hF2) hF; rw [stepG_seq]; simp only [goes_go]; refine ⟨by ((first | refine dr_none ?_ | refine dm_none ?_); intro e he; simp at he), ?_⟩)
    (u_in (far_rely hF2) hF; rw [stepG_region]; simp only [goes_go, List.size_toArray, List.length_cons, List.length_nil, Nat.reduceAdd, Nat.zero_add, List.range, List.range.loop]; refine ⟨by ((first | refine dr_none ?_ | refine dm_none ?_); intro e he; simp at he), ?_⟩)
    (u_in (far_rely hF2) hF
     refine goes_oper_k rfl rfl (by k_ne) (fun K hK => ?_)
     go_simp
     refine hK _ _ ⟨?_, ?_⟩
     · (first | refine dr_none ?_ | refine dm_none ?_)
       intro e he
       have hm := mem_listed he
       simp [go_sem, *] at hm
     clear hK K
     try w_num)
    (u_in (far_rely hF2) hF
     refine goes_oper_k rfl rfl (by k_ne) (fun K hK => ?_)
     go_simp
     refine hK _ _ ⟨?_, ?_⟩
     · (first | refine dr_none ?_ | refine dm_none ?_)
       intro e he
       have hm := mem_listed he
       simp [go_sem, *] at hm
     clear hK K
     try w_num)
    (u_in (far_rely hF2) hF
     refine goes_oper_k rfl rfl (by k_ne) (fun K hK => ?_)
     go_simp
     refine hK _ _ ⟨?_, ?_⟩
     · (first | refine dr_none ?_ | refine dm_none ?_)
       intro e he
       have hm := mem_listed he
       simp [go_sem, *] at hm
     clear hK K
     try w_num)
    (u_in (far_rely hF2) hF
     refine goes_oper_k rfl rfl (by k_ne) (fun K hK => ?_)
     go_simp
     refine hK _ _ ⟨?_, ?_⟩
     · (first | refine dr_none ?_ | refine dm_none ?_)
       intro e he
       have hm := mem_listed he
       simp [go_sem, *] at hm
     clear hK K
     try w_num)
    (u_in (far_rely hF2) hF; rw [stepG_region_end]; simp only [goes_go]; refine ⟨by ((first | refine dr_none ?_ | refine dm_none ?_); intro e he; simp at he), ?_⟩)
    (u_in (far_rely hF2) hF; rw [stepG_seq]; simp only [goes_go]; refine ⟨by ((first | refine dr_none ?_ | refine dm_none ?_); intro e he; simp at he), ?_⟩)
    (u_in (far_rely hF2) hF; rw [stepG_region]; simp only [goes_go, List.size_toArray, List.length_cons, List.length_nil, Nat.reduceAdd, Nat.zero_add, List.range, List.range.loop]; refine ⟨by ((first | refine dr_none ?_ | refine dm_none ?_); intro e he; simp at he), ?_⟩)
    (u_in (far_rely hF2) hF
     refine goes_oper_k rfl rfl (by k_ne) (fun K hK => ?_)
     go_simp
     refine hK _ _ ⟨?_, ?_⟩
     · (first | refine dr_none ?_ | refine dm_none ?_)
       intro e he
       have hm := mem_listed he
       simp [go_sem, *] at hm
     clear hK K
     try w_num)
    (u_in (far_rely hF2) hF
     refine goes_oper_k rfl rfl (by k_ne) (fun K hK => ?_)
     go_simp
     refine hK _ _ ⟨?_, ?_⟩
     · (first | refine dr_none ?_ | refine dm_none ?_)
       intro e he
       have hm := mem_listed he
       simp [go_sem, *] at hm
     clear hK K
     try w_num)
    (u_in (far_rely hF2) hF
     refine goes_oper_k rfl rfl (by k_ne) (fun K hK => ?_)
     go_simp
     refine hK _ _ ⟨?_, ?_⟩
     · (first | refine dr_none ?_ | refine dm_none ?_)
       intro e he
       have hm := mem_listed he
       simp [go_sem, *] at hm
     clear hK K
     try w_num)
    (u_in (far_rely hF2) hF
     refine goes_oper_k rfl rfl (by k_ne) (fun K hK => ?_)
     go_simp
     refine hK _ _ ⟨?_, ?_⟩
     · (first | refine dr_none ?_ | refine dm_none ?_)
       intro e he
       have hm := mem_listed he
       simp [go_sem, *] at hm
     clear hK K
     try w_num)
    (u_in (far_rely hF2) hF; rw [stepG_region_end]; simp only [goes_go]; refine ⟨by ((first | refine dr_none ?_ | refine dm_none ?_); intro e he; simp at he), ?_⟩)
    (u_in (far_rely hF2) hF; rw [stepG_seq]; simp only [goes_go]; refine ⟨by ((first | refine dr_none ?_ | refine dm_none ?_); intro e he; simp at he), ?_⟩)
    (u_in (far_rely hF2) hF; rw [stepG_seq]; simp only [goes_go]; refine ⟨by ((first | refine dr_none ?_ | refine dm_none ?_); intro e he; simp at he), ?_⟩)
    (u_in (far_rely hF2) hF; rw [stepG_region]; simp only [goes_go, List.size_toArray, List.length_cons, List.length_nil, Nat.reduceAdd, Nat.zero_add, List.range, List.range.loop]; refine ⟨by ((first | refine dr_none ?_ | refine dm_none ?_); intro e he; simp at he), ?_⟩)
    (u_in (far_rely hF2) hF
     refine goes_oper_k rfl rfl (by k_ne) (fun K hK => ?_)
     go_simp
     refine hK _ _ ⟨?_, ?_⟩
     · (first | refine dr_none ?_ | refine dm_none ?_)
       intro e he
       have hm := mem_listed he
       simp [go_sem, *] at hm
     clear hK K
     try w_num)
    (u_in (far_rely hF2) hF
     refine goes_oper_k rfl rfl (by k_ne) (fun K hK => ?_)
     go_simp
     refine hK _ _ ⟨?_, ?_⟩
     · (first | refine dr_none ?_ | refine dm_none ?_)
       intro e he
       have hm := mem_listed he
       simp [go_sem, *] at hm
     clear hK K
     try w_num)
    (u_in (far_rely hF2) hF
     refine goes_oper_k rfl rfl (by k_ne) (fun K hK => ?_)
     go_simp
     refine hK _ _ ⟨?_, ?_⟩
     · (first | refine dr_none ?_ | refine dm_none ?_)
       intro e he
       have hm := mem_listed he
       simp [go_sem, *] at hm
     clear hK K
     try w_num)
    (u_in (far_rely hF2) hF
     refine goes_oper_k rfl rfl (by k_ne) (fun K hK => ?_)
     go_simp
     refine hK _ _ ⟨?_, ?_⟩
     · (first | refine dr_none ?_ | refine dm_none ?_)
       intro e he
       have hm := mem_listed he
       simp [go_sem, *] at hm
     clear hK K
     try w_num)
    (u_in (far_rely hF2) hF
     refine goes_oper_k rfl rfl (by k_ne) (fun K hK => ?_)
     go_simp
     refine hK _ _ ⟨?_, ?_⟩
     · (first | refine dr_none ?_ | refine dm_none ?_)
       intro e he
       have hm := mem_listed he
       simp [go_sem, *] at hm
     clear hK K
     try w_num)
    (u_in (far_rely hF2) hF
     refine goes_oper_k rfl rfl (by k_ne) (fun K hK => ?_)
     go_simp
     refine hK _ _ ⟨?_, ?_⟩
     · (first | refine dr_none ?_ | refine dm_none ?_)
       intro e he
       have hm := mem_listed he
       simp [go_sem, *] at hm
     clear hK K
     try w_num)
    (u_in (far_rely hF2) hF
     refine goes_oper_k rfl rfl (by k_ne) (fun K hK => ?_)
     go_simp
     refine hK _ _ ⟨?_, ?_⟩
     · (first | refine dr_none ?_ | refine dm_none ?_)
       intro e he
       have hm := mem_listed he
       simp [go_sem, *] at hm
     clear hK K
     try w_num)
    (u_in (far_rely hF2) hF
     refine goes_oper_k rfl rfl (by k_ne) (fun K hK => ?_)
     go_simp
     refine hK _ _ ⟨?_, ?_⟩
     · (first | refine dr_none ?_ | refine dm_none ?_)
       intro e he
       have hm := mem_listed he
       simp [go_sem, *] at hm
     clear hK K
     try w_num)
    (u_in (far_rely hF2) hF
     refine goes_oper_k rfl rfl (by k_ne) (fun K hK => ?_)
     go_simp
     refine hK _ _ ⟨?_, ?_⟩
     · (first | refine dr_none ?_ | refine dm_none ?_)
       intro e he
       have hm := mem_listed he
       simp [go_sem, *] at hm
     clear hK K
     try w_num)
    (u_in (far_rely hF2) hF
     refine goes_oper_k rfl rfl (by k_ne) (fun K hK => ?_)
     go_simp
     refine hK _ _ ⟨?_, ?_⟩
     · (first | refine dr_none ?_ | refine dm_none ?_)
       intro e he
       have hm := mem_listed he
       simp [go_sem, *] at hm
     clear hK K
     try w_num)
    (u_in (far_rely hF2) hF; rw [stepG_region_end]; simp only [goes_go]; refine ⟨by ((first | refine dr_none ?_ | refine dm_none ?_); intro e he; simp at he), ?_⟩)
    (u_in (far_rely hF2) hF; rw [stepG_cond (t := false) (by first | rfl | (simp [Act.eval]; omega))]; simp only [goes_go, if_true, if_false, Bool.false_eq_true, ↓reduceIte]; refine ⟨by ((first | refine dr_none ?_ | refine dm_none ?_); intro e he; simp at he), ?_⟩)
    (u_in (far_rely hF2) hF; rw [stepG_skip]; simp only [goes_go]; refine ⟨by ((first | refine dr_none ?_ | refine dm_none ?_); intro e he; simp at he), ?_⟩)
    (u_in (far_rely hF2) hF; rw [stepG_seq]; simp only [goes_go]; refine ⟨by ((first | refine dr_none ?_ | refine dm_none ?_); intro e he; simp at he), ?_⟩)
    (u_in (far_rely hF2) hF; rw [stepG_seq]; simp only [goes_go]; refine ⟨by ((first | refine dr_none ?_ | refine dm_none ?_); intro e he; simp at he), ?_⟩)
    (u_in (far_rely hF2) hF; rw [stepG_region]; simp only [goes_go, List.size_toArray, List.length_cons, List.length_nil, Nat.reduceAdd, Nat.zero_add, List.range, List.range.loop]; refine ⟨by ((first | refine dr_none ?_ | refine dm_none ?_); intro e he; simp at he), ?_⟩)
    (u_in (far_rely hF2) hF
     refine goes_oper_k rfl rfl (by k_ne) (fun K hK => ?_)
     go_simp
     refine hK _ _ ⟨?_, ?_⟩
     · (first | refine dr_none ?_ | refine dm_none ?_)
       intro e he
       have hm := mem_listed he
       simp [go_sem, *] at hm
     clear hK K
     try w_num)
    (u_in (far_rely hF2) hF
     refine goes_oper_k rfl rfl (by k_ne) (fun K hK => ?_)
     go_simp
     refine hK _ _ ⟨?_, ?_⟩
     · (first | refine dr_none ?_ | refine dm_none ?_)
       intro e he
       have hm := mem_listed he
       simp [go_sem, *] at hm
     clear hK K
     try w_num)
    (u_in (far_rely hF2) hF; rw [stepG_region_end]; simp only [goes_go]; refine ⟨by ((first | refine dr_none ?_ | refine dm_none ?_); intro e he; simp at he), ?_⟩)
    (u_in (far_rely hF2) hF; rw [stepG_cond (t := false) (by first | rfl | (simp [Act.eval]; omega))]; simp only [goes_go, if_true, if_false, Bool.false_eq_true, ↓reduceIte]; refine ⟨by ((first | refine dr_none ?_ | refine dm_none ?_); intro e he; simp at he), ?_⟩)
    (u_in (far_rely hF2) hF; rw [stepG_skip]; simp only [goes_go]; refine ⟨by ((first | refine dr_none ?_ | refine dm_none ?_); intro e he; simp at he), ?_⟩)
    (u_in (far_rely hF2) hF; rw [stepG_seq]; simp only [goes_go]; refine ⟨by ((first | refine dr_none ?_ | refine dm_none ?_); intro e he; simp at he), ?_⟩)
    (u_in (far_rely hF2) hF; rw [stepG_seq]; simp only [goes_go]; refine ⟨by ((first | refine dr_none ?_ | refine dm_none ?_); intro e he; simp at he), ?_⟩)
    (u_in (far_rely hF2) hF; rw [stepG_region]; simp only [goes_go, List.size_toArray, List.length_cons, List.length_nil, Nat.reduceAdd, Nat.zero_add, List.range, List.range.loop]; refine ⟨by ((first | refine dr_none ?_ | refine dm_none ?_); intro e he; simp at he), ?_⟩)
    (u_in (far_rely hF2) hF
     refine goes_oper_k rfl rfl (by k_ne) (fun K hK => ?_)
     go_simp
     refine hK _ _ ⟨?_, ?_⟩
     · (first | refine dr_none ?_ | refine dm_none ?_)
       intro e he
       have hm := mem_listed he
       simp [go_sem, *] at hm
     clear hK K
     try w_num)
    (u_in (far_rely hF2) hF
     refine goes_oper_k rfl rfl (by k_ne) (fun K hK => ?_)
     go_simp
     refine hK _ _ ⟨?_, ?_⟩
     · (first | refine dr_none ?_ | refine dm_none ?_)
       intro e he
       have hm := mem_listed he
       simp [go_sem, *] at hm
     clear hK K
     try w_num)
    (u_in (far_rely hF2) hF
     refine goes_oper_k rfl rfl (by k_ne) (fun K hK => ?_)
     go_simp
     refine hK _ _ ⟨?_, ?_⟩
     · (first | refine dr_none ?_ | refine dm_none ?_)
       intro e he
       have hm := mem_listed he
       simp [go_sem, *] at hm
     clear hK K
     try w_num)
    (u_in (far_rely hF2) hF; rw [stepG_unwanted rfl rfl]; simp only [goes_go]; refine ⟨by ((first | refine dr_none ?_ | refine dm_none ?_); intro e he; simp at he), ?_⟩; walk_nrm)
    (u_in (far_rely hF2) hF; rw [stepG_unwanted rfl rfl]; simp only [goes_go]; refine ⟨by ((first | refine dr_none ?_ | refine dm_none ?_); intro e he; simp at he), ?_⟩; walk_nrm)
    (u_in (far_rely hF2) hF
     refine goes_oper_k rfl rfl (by k_ne) (fun K hK => ?_)
     go_simp
     refine hK _ _ ⟨?_, ?_⟩
     · (first | refine dr_none ?_ | refine dm_none ?_)
       intro e he
       have hm := mem_listed he
       simp [go_sem, *] at hm
     clear hK K
     try w_num)
    (u_in (far_rely hF2) hF
     refine goes_oper_k rfl rfl (by k_ne) (fun K hK => ?_)
     go_simp
     refine hK _ _ ⟨?_, ?_⟩
     · (first | refine dr_none ?_ | refine dm_none ?_)
       intro e he
       have hm := mem_listed he
       simp [go_sem, *] at hm
     clear hK K
     try w_num)
    (u_in (far_rely hF2) hF; rw [stepG_unwanted rfl rfl]; simp only [goes_go]; refine ⟨by ((first | refine dr_none ?_ | refine dm_none ?_); intro e he; simp at he), ?_⟩; walk_nrm)
    (u_in (far_rely hF2) hF; rw [stepG_unwanted rfl rfl]; simp only [goes_go]; refine ⟨by ((first | refine dr_none ?_ | refine dm_none ?_); intro e he; simp at he), ?_⟩; walk_nrm)
    (u_in (far_rely hF2) hF; rw [stepG_unwanted rfl rfl]; simp only [goes_go]; refine ⟨by ((first | refine dr_none ?_ | refine dm_none ?_); intro e he; simp at he), ?_⟩; walk_nrm)
    (u_in (far_rely hF2) hF; rw [stepG_unwanted rfl rfl]; simp only [goes_go]; refine ⟨by ((first | refine dr_none ?_ | refine dm_none ?_); intro e he; simp at he), ?_⟩; walk_nrm)
    (u_in (far_rely hF2) hF
     refine goes_oper_k rfl rfl (by k_ne) (fun K hK => ?_)
     go_simp
     refine hK _ _ ⟨?_, ?_⟩
     · (first | refine dr_none ?_ | refine dm_none ?_)
       intro e he
       have hm := mem_listed he
       simp [go_sem, *] at hm
     clear hK K
     try w_num)
    (u_in (far_rely hF2) hF; rw [stepG_region_end]; simp only [goes_go]; refine ⟨by ((first | refine dr_none ?_ | refine dm_none ?_); intro e he; simp at he), ?_⟩)
    (u_in (far_rely hF2) hF; rw [stepG_cond (t := false) (by first | rfl | (simp [Act.eval]; omega))]; simp only [goes_go, if_true, if_false, Bool.false_eq_true, ↓reduceIte]; refine ⟨by ((first | refine dr_none ?_ | refine dm_none ?_); intro e he; simp at he), ?_⟩)
    (u_in (far_rely hF2) hF; rw [stepG_skip]; simp only [goes_go]; refine ⟨by ((first | refine dr_none ?_ | refine dm_none ?_); intro e he; simp at he), ?_⟩)
    (u_in (far_rely hF2) hF; rw [stepG_seq]; simp only [goes_go]; refine ⟨by ((first | refine dr_none ?_ | refine dm_none ?_); intro e he; simp at he), ?_⟩)
    (u_in (far_rely hF2) hF; rw [stepG_seq]; simp only [goes_go]; refine ⟨by ((first | refine dr_none ?_ | refine dm_none ?_); intro e he; simp at he), ?_⟩)
    (u_in (far_rely hF2) hF; rw [stepG_region]; simp only [goes_go, List.size_toArray, List.length_cons, List.length_nil, Nat.reduceAdd, Nat.zero_add, List.range, List.range.loop]; refine ⟨by ((first | refine dr_none ?_ | refine dm_none ?_); intro e he; simp at he), ?_⟩)
    (u_in (far_rely hF2) hF
     refine goes_oper_k rfl rfl (by k_ne) (fun K hK => ?_)
     go_simp
     refine hK _ _ ⟨?_, ?_⟩
     · (first | refine dr_none ?_ | refine dm_none ?_)
       intro e he
       have hm := mem_listed he
       simp [go_sem, *] at hm
     clear hK K
     try w_num)
    (u_in (far_rely hF2) hF
     refine goes_oper_k rfl rfl (by k_ne) (fun K hK => ?_)
     go_simp
     refine hK _ _ ⟨?_, ?_⟩
     · (first | refine dr_none ?_ | refine dm_none ?_)
       intro e he
       have hm := mem_listed he
       simp [go_sem, *] at hm
     clear hK K
     try w_num)
    (u_in (far_rely hF2) hF
     refine goes_oper_k rfl rfl (by k_ne) (fun K hK => ?_)
     go_simp
     refine hK _ _ ⟨?_, ?_⟩
     · (first | refine dr_none ?_ | refine dm_none ?_)
       intro e he
       have hm := mem_listed he
       simp [go_sem, *] at hm
     clear hK K
     try w_num)
    (u_in (far_rely hF2) hF; rw [stepG_unwanted rfl rfl]; simp only [goes_go]; refine ⟨by ((first | refine dr_none ?_ | refine dm_none ?_); intro e he; simp at he), ?_⟩; walk_nrm)
    (u_in (far_rely hF2) hF; rw [stepG_unwanted rfl rfl]; simp only [goes_go]; refine ⟨by ((first | refine dr_none ?_ | refine dm_none ?_); intro e he; simp at he), ?_⟩; walk_nrm)
    (u_in (far_rely hF2) hF
     refine goes_oper_k rfl rfl (by k_ne) (fun K hK => ?_)
     go_simp
     refine hK _ _ ⟨?_, ?_⟩
     · (first | refine dr_none ?_ | refine dm_none ?_)
       intro e he
       have hm := mem_listed he
       simp [go_sem, *] at hm
     clear hK K
     try w_num)
    (u_in (far_rely hF2) hF; rw [stepG_region_end]; simp only [goes_go]; refine ⟨by ((first | refine dr_none ?_ | refine dm_none ?_); intro e he; simp at he), ?_⟩)
    (u_in (far_rely hF2) hF; rw [stepG_cond (t := true) (by first | rfl | (simp [Act.eval]; omega))]; simp only [goes_go, if_true, if_false, Bool.false_eq_true, ↓reduceIte]; refine ⟨by ((first | refine dr_none ?_ | refine dm_none ?_); intro e he; simp at he), ?_⟩)
    (u_in (far_rely hF2) hF; rw [stepG_ret']; simp only [goes_go]; refine ⟨by ((first | refine dr_none ?_ | refine dm_none ?_); intro e he; simp at he), ?_⟩)
    refine Goes.stop (fun w₃ h₃ => ?_)
    replace hF := far_rely hF2 hF h₃
    clear h₃
    refine ⟨rfl, _, stepG_unwind_entry (v := .tuple #[]) (evs := #[Go.ConcR.mk .enable]) rfl H.f_enable (x_enable_n lnk) (x_enable_b lnk) (x_enable_x lnk) (x_enable_f lnk) (by simp [Extern.Race.none_]) (by simp [Go.ConcR.mk]) (by simp [Go.ConcR.mk]), mT + 1, ?_⟩
    show Goes Try.prog true _ _ _ _ _ _
    (u_in (far_rely hF2) hF; refine goes_leave0 rfl rfl H.f_add rfl ⟨by ((first | refine dr_none ?_ | refine dm_none ?_); intro e he; simp at he), ?_⟩; walk_nrm)
    exact hT _ hF
end
end Go.Proofs.Ytcefdleidkmomaa.Mx

