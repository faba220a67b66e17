/- What a round grants. Conditions: each theorem's own. -/
import Derived.Test.YtbohigfhbjconaaSrGt
import Derived.StillTailTactics
set_option linter.unusedVariables false
set_option linter.unusedSimpArgs false
namespace Go.Proofs.Ytbohigfhbjconaa.Sr
open Go.RowKit Hp Go.Proofs.Ytbohigfhbjconaa.End Opn SrM So SoM NumM NumC
theorem newAt2 {w : World} {n : Nat} (a b : Int) (h : n = w.heap.size) : (w.alloc (.cells #[.int .i64 a, .int .i64 b] 3)).drew.cell? ⟨n, 0, none⟩ = some (.int .i64 a) ∧ (w.alloc (.cells #[.int .i64 a, .int .i64 b] 3)).drew.cell? ⟨n, 1, none⟩ = some (.int .i64 b) := by
  subst h
  have hB := (Blk.new w [.int .i64 a, .int .i64 b] 3).drew
  exact ⟨hB.cell rfl, hB.cell rfl⟩
theorem size_drew (w : World) : w.drew.heap.size = w.heap.size := rfl
theorem pown {α : Type} {t : Rw.Ty α} {w : World} {b g : Nat} {v : Value} {l : List α} {cs : List Value} {T : TypeId} (h : Rw.Row t w b v l) (hg : v.ownBlock = some g) (hB : Blk w g cs T) (hT : t.E ≠ T) : False := by
  rcases h.form with ⟨rfl, _⟩ | ⟨g', cap, cur, rfl, _, hL⟩
  · cases hg
  · obtain rfl : g' = g := Option.some.inj hg
    exact hT (hL.blk.inj hB).2
set_option maxHeartbeats 8000000 in
set_option maxRecDepth 100000 in
theorem give_yes_same {wp w : World} {lv fv : Value} {l : List M} {fst : List Int} {rb p j : Nat} {s : Int × Got} {most : Int} (hl : Rd wp lv l) (hf : RdN wp fv fst) (hfl : fst.length ≤ 60) (hll : l.length ≤ 60) (hr : RoV wp lv fv l fst rb s w) (hg : GB l s) (hk : s.2.length ≤ 60) (hp : p < l.length) (ho : ok (at' l (p : Int)) = true)
    (hm0 : 0 ≤ most) (hm1 : most ≤ 1099511627776) (hx : ixn (p : Int) (keys s.2) = some j) (hu : upt l s.1 s.2 (p : Int) most ≤ cur l s.2 (p : Int)) :
    Calls Try.prog 22 #[.pointer (some ⟨rb, 0, none⟩), .int .i64 (p : Nat), .int .i64 most] w fun e w' => e = .returned (.tuple #[]) ∧ RoV wp lv fv l fst rb (giv l s (p : Int) most) w' := by
  obtain ⟨m, hm⟩ : ∃ m, l[p]? = some m := ⟨_, List.getElem?_eq_getElem hp⟩
  obtain ⟨g0, g1, g2, g3, g4, g5⟩ := cur_bd hg ho
  obtain ⟨u0, hu0⟩ := keys_at (ixn_some.1 hx).1
  have hcu : cur l s.2 (p : Int) = u0 := by unfold cur; rw [hx]; simp only [hu0, Option.getD_some]
  have hix : ixI (p : Int) (keys s.2) = (j : Int) := by unfold ixI; rw [hx]
  have hjl : j < s.2.length := (List.getElem?_eq_some_iff.1 hu0).1
  have hr0 := hg.r0
  have hr1 := hg.r1
  have hgv : giv l s (p : Int) most = s := by unfold giv; rw [if_pos hu]
  rw [hgv]
  have hut : upt l s.1 s.2 (p : Int) most = min (min m.t (m.h + most)) (cur l s.2 (p : Int) + s.1) := by unfold upt; rw [at_is hm]
  rw [at_is hm] at g1 g2 g3 g4 g5
  obtain ⟨u, hue⟩ : ∃ u, upt l s.1 s.2 (p : Int) most = u := ⟨_, rfl⟩
  rw [hue] at hut hu 
  rw [hcu] at g0 g1 g2 hut hu 
  obtain ⟨pv, gv, hB, hP, hG⟩ := hr.ex
  have HLO : Hid (wp.heap.size ≤ rb) := hr.lo
  have HKP : Hid (Kept (fun i => wp.heap.size ≤ i) wp w) := hr.kp
  obtain ⟨room, got⟩ := s
  dsimp only at hB hP hG hu hut hr0 hr1 hix hu0 hjl hk 
  have HIX := Lib.hid fun (w' : World) (h : Rw.Row nT w' wp.heap.size pv (keys got)) => index_any (RdN.of_row h) (by unfold keys; rw [List.length_map]; omega) (p : Int)
  rw [hix] at HIX
  have hMN := fun (b : Nat) (w' : World) hc hc1 => min2 m.t (m.h + most) (u0 + room) _ u b w' rfl (by rw [hut]; exact min2_is _ _ _) hc hc1
  have MN := Lib.hid hMN
  have hub : u ≤ u0 + room ∧ u ≤ m.t ∧ (0 : Int) ≤ u := by rw [hut]; omega
  obtain ⟨hub1, hub2, hub3⟩ := hub
  have HLW := hl.low hr.kp
  obtain ⟨a, c, hlv, hc⟩ := HLW
  obtain ⟨lg, lo, rfl, hlg, q1⟩ := hc p m hm
  subst hlv
  have c0 := hB.cell (o := 0) rfl
  have c3 := hB.cell (o := 3) rfl
  obtain ⟨d0, d1, d2, d3, d4, d5⟩ := q1
  obtain ⟨n, hn⟩ : ∃ n, l.length = n := ⟨_, rfl⟩
  have HN := Lib.hid hn
  rw [hn] at c0 hp hB hll
  have hpz : (p : Int) < (n : Int) := by omega
  have HB := Lib.hid hB
  have HP := Lib.hid hP
  have HG := Lib.hid hG
  obtain ⟨pva, pvc, hpv, _, _⟩ := hP.slice
  obtain ⟨gva, gvc, hgv2, hgc, _⟩ := hG.slice
  subst hpv
  subst hgv2
  have hkl : (keys got).length = got.length := by unfold keys; simp
  rw [hkl] at c3 HB HP HIX
  rw [List.length_map] at HG HB
  obtain ⟨ng, hng⟩ : ∃ ng, got.length = ng := ⟨_, rfl⟩
  have HNG := Lib.hid hng
  have HF0 := Lib.hid hf
  have HMM := Lib.hid hm
  rw [hng] at c3 HB HP HIX HG hjl
  obtain ⟨mp, mi, mt, mh, mg, mb⟩ := m
  dsimp only at d0 d1 d2 d3 d4 d5 MN hub1 hub2 g1 g2 g3 g4 g5
  clear hr hg hm hc hB hP hG hn hMN hut hgv hue hcu hix hx hlg hkl hng  hl hf ho
  go_enter Try.func22, Try.ntmps22
  go_upto_region 1 with fail
  have hM := Blk.new w [.int .i64 mp, .int .u64 mi, .int .i64 mt, .int .i64 mh, .int .i64 mg, .int .i64 mb] 39
  have hK1 := new_kept w (.cells [.int .i64 mp, .int .u64 mi, .int .i64 mt, .int .i64 mh, .int .i64 mg, .int .i64 mb].toArray 39)
  have hB1 := HB.out.old (.cells [.int .i64 mp, .int .u64 mi, .int .i64 mt, .int .i64 mh, .int .i64 mg, .int .i64 mb].toArray 39)
  have c3 := hB1.cell (o := 3) rfl
  dsimp only [List.toArray] at hM hK1 hB1 c3
  have hP1 := HP.out.old hK1
  have hG1 := HG.out.old hK1
  have IX := Lib.hid (HIX.out _ hP1)
  have HMS : Hid (wp.heap.size ≤ w.heap.size) := HKP.out.size
  have HM := Lib.hid hM
  have HK1 := Lib.hid hK1
  have HB1 := Lib.hid hB1
  have HP1 := Lib.hid hP1
  have HG1 := Lib.hid hG1
  clear hM hK1 hB1 hP1 hG1 HB HP HG c0 d0 d1 d2 d3 d4 d5 HIX
  have HW : Hid (rb ≠ w.heap.size) := by have := HB1.out; exact ne_blk this HM.out (by decide)
  generalize w.alloc (.cells #[.int .i64 mp, .int .u64 mi, .int .i64 mt, .int .i64 mh, .int .i64 mg, .int .i64 mb] 39) = w1 at *
  generalize w.heap.size = xb at *
  have c3 := HB1.out.cell (o := 3) rfl
  go_wp2_with fail
  with_reducible refine Calls.mono IX.out ?_
  rintro e w2 ⟨rfl, rfl⟩
  clear c3 IX
  have hjz : (0 : Int) ≤ (j : Int) := by omega
  have hjn : (j : Int) < (ng : Int) := by omega
  have hgj : (got.map (tell l fst))[j]? = some (tell l fst ((p : Int), u0)) := by rw [List.getElem?_map, hu0]; rfl
  obtain ⟨gg, gcap, gcur, hgve, hgg, hGL⟩ : ∃ gg gcap gcur, Value.slice gva ng gvc = .slice (some ⟨gg, 0, none⟩) (got.map (tell l fst)).length gcap ∧ wp.heap.size ≤ gg ∧ Rw.Lies gT w1 gg gcap gcur (got.map (tell l fst)) := by
    rcases HG1.out.form with ⟨_, e⟩ | ⟨a1, a2, a3, a4, a5, a6⟩
    · rw [e] at hgj; simp at hgj
    · exact ⟨a1, a2, a3, a4, a5, a6⟩
  have hq1 := (Value.slice.inj hgve).1
  have hq3 := (Value.slice.inj hgve).2.2
  clear hgve
  subst hq1
  subst hq3
  have hcg := hGL.cell hgj (j := 2) (u := .int .i64 u0) rfl
  have c4 := HB1.out.cell (o := 4) rfl
  have e4 := HM.out.cell (o := 4) rfl
  have f4 := HM.out.frozen 4
  have HGL := Lib.hid hGL
  have HGJ := Lib.hid hgj
  have HGG : Hid (wp.heap.size ≤ gg) := hgg
  dsimp only [gT] at hcg
  clear hGL hgj hgg
  go_upto_region 4 with fail
  have HK2 : Hid (Kept (fun i => i = xb) w1 (w1.setCell ⟨xb, 4, none⟩ (.int .i64 u0))) := Kept.one w1 xb 4 _
  have hM2 := HM.out.set 4 (.int .i64 u0)
  dsimp only [List.set_cons_zero, List.set_cons_succ] at hM2
  have HM2 := Lib.hid hM2
  have HB2 := Lib.hid (HK2.out.blk HB1.out (fun e => HW.out e))
  have HXG : Hid (gg ≠ xb) := ne_blk HGL.out.blk HM.out (by decide)
  have HP2 := Lib.hid (HP1.out.kept HK2.out (fun g hg e => by subst e; exact pown HP1.out hg HM.out (by decide)))
  have HGL2 := Lib.hid (HGL.out.kept HK2.out (fun e => HXG.out e))
  have HKQ : Hid (Kept (fun i => xb ≤ i) w w1) := HK1.out.mono (fun _ _ f => f.elim)
  have HK3 := Lib.hid (HKQ.out.trans (HK2.out.mono (G := fun i => xb ≤ i) (fun i _ e => by omega)))
  clear c4 e4 f4 hcg hM2 HM HB1 HP1 HGL HK2 HKQ HG1
  generalize w1.setCell ⟨xb, 4, none⟩ (.int .i64 u0) = w2 at *
  have KS := Lib.hid fun (w' : World) (k : Kept (fun _ => False) w2 w') => (show w'.cell? ⟨xb, 2, none⟩ = some (.int .i64 mt) ∧ w'.cell? ⟨xb, 3, none⟩ = some (.int .i64 mh) ∧ w'.cell? ⟨xb, 4, none⟩ = some (.int .i64 u0) ∧ w'.cell? ⟨rb, 2, none⟩ = some (.int .i64 room) from
    ⟨(k.blk HM2.out (fun f => f)).cell rfl, (k.blk HM2.out (fun f => f)).cell rfl, (k.blk HM2.out (fun f => f)).cell rfl, (k.blk HB2.out (fun f => f)).cell rfl⟩)
  have i1 : IntKind.i64.wrap (mh + most) = mh + most := by rw [IntKind.wrap_i64]; omega
  have i2 : IntKind.i64.wrap (u0 + room) = u0 + room := by rw [IntKind.wrap_i64]; omega
  go_region_held3 (fun w' => w'.cell? ⟨xb, 2, none⟩ = some (.int .i64 mt) ∧ w'.cell? ⟨xb, 3, none⟩ = some (.int .i64 mh) ∧ w'.cell? ⟨xb, 4, none⟩ = some (.int .i64 u0) ∧ w'.cell? ⟨rb, 2, none⟩ = some (.int .i64 room)) ((refine KS.out _ ?_; repeat (first | exact Kept.refl _ _ | (with_reducible refine Kept.drew ?_) | (with_reducible refine Kept.alloc ?_ _))))
    (first | (go_at_call 20; refine Calls.mono (MN.out _ _ (newAt2 (mh + most) (u0 + room) (by simp only [World.size_alloc, size_drew])).1 (newAt2 (mh + most) (u0 + room) (by simp only [World.size_alloc, size_drew])).2) ?_; rintro e w' ⟨rfl, rfl⟩))
  rename_i hHeld
  have hk4 : Kept (fun _ => False) w2 ((w2.alloc (.cells #[.int .i64 (mh + most), .int .i64 (u0 + room)] 3)).drew) := ((new_kept w2 _).drew)
  have HM4 := Lib.hid (hk4.blk HM2.out (fun f => f))
  have HB4 := Lib.hid (hk4.blk HB2.out (fun f => f))
  have HP4 := Lib.hid (HP2.out.old hk4)
  have HGL4 := Lib.hid (HGL2.out.kept hk4 (fun f => f))
  have HK4 := Lib.hid (HK3.out.trans (hk4.mono (fun _ _ f => f.elim)))
  clear hk4 KS HM2 HB2 HP2 HGL2 HK3 MN i1 i2 hHeld
  generalize (w2.alloc (.cells #[.int .i64 (mh + most), .int .i64 (u0 + room)] 3)).drew = w4 at *
  have e4 := HM4.out.cell (o := 4) rfl
  go_wp2_with fail
  (try simp only [Exit.inBlock, Exit.then])
  refine bodyPost_ret (results_none rfl _ _ _) rfl ?_
  obtain rfl := HN.out
  exact ⟨rfl, HKP.out.trans (HK4.out.mono (fun i _ e => by have := HMS.out; omega)), HLO.out, _, _, HB4.out, HP4.out, (by have h := HGL4.out.row HGG.out; rw [List.length_map, HNG.out] at h; exact h)⟩
set_option maxHeartbeats 8000000 in
set_option maxRecDepth 100000 in
theorem give_yes_more {wp w : World} {lv fv : Value} {l : List M} {fst : List Int} {rb p j : Nat} {s : Int × Got} {most : Int} (hl : Rd wp lv l) (hf : RdN wp fv fst) (hfl : fst.length ≤ 60) (hll : l.length ≤ 60) (hr : RoV wp lv fv l fst rb s w) (hg : GB l s) (hk : s.2.length ≤ 60) (hp : p < l.length) (ho : ok (at' l (p : Int)) = true)
    (hm0 : 0 ≤ most) (hm1 : most ≤ 1099511627776) (hx : ixn (p : Int) (keys s.2) = some j) (hu : ¬ upt l s.1 s.2 (p : Int) most ≤ cur l s.2 (p : Int)) :
    Calls Try.prog 22 #[.pointer (some ⟨rb, 0, none⟩), .int .i64 (p : Nat), .int .i64 most] w fun e w' => e = .returned (.tuple #[]) ∧ RoV wp lv fv l fst rb (giv l s (p : Int) most) w' := by
  obtain ⟨m, hm⟩ : ∃ m, l[p]? = some m := ⟨_, List.getElem?_eq_getElem hp⟩
  obtain ⟨g0, g1, g2, g3, g4, g5⟩ := cur_bd hg ho
  obtain ⟨u0, hu0⟩ := keys_at (ixn_some.1 hx).1
  have hcu : cur l s.2 (p : Int) = u0 := by unfold cur; rw [hx]; simp only [hu0, Option.getD_some]
  have hix : ixI (p : Int) (keys s.2) = (j : Int) := by unfold ixI; rw [hx]
  have hjl : j < s.2.length := (List.getElem?_eq_some_iff.1 hu0).1
  have hr0 := hg.r0
  have hr1 := hg.r1
  have hgv : giv l s (p : Int) most = (s.1 - (upt l s.1 s.2 (p : Int) most - cur l s.2 (p : Int)), putG s.2 (p : Int) (upt l s.1 s.2 (p : Int) most)) := by unfold giv; rw [if_neg hu]
  rw [hgv]
  have hut : upt l s.1 s.2 (p : Int) most = min (min m.t (m.h + most)) (cur l s.2 (p : Int) + s.1) := by unfold upt; rw [at_is hm]
  rw [at_is hm] at g1 g2 g3 g4 g5
  obtain ⟨u, hue⟩ : ∃ u, upt l s.1 s.2 (p : Int) most = u := ⟨_, rfl⟩
  rw [hue] at hut hu ⊢
  rw [hcu] at g0 g1 g2 hut hu ⊢
  obtain ⟨pv, gv, hB, hP, hG⟩ := hr.ex
  have HLO : Hid (wp.heap.size ≤ rb) := hr.lo
  have HKP : Hid (Kept (fun i => wp.heap.size ≤ i) wp w) := hr.kp
  obtain ⟨room, got⟩ := s
  dsimp only at hB hP hG hu hut hr0 hr1 hix hu0 hjl hk ⊢
  have hpg : putG got (p : Int) u = got.set j ((p : Int), u) := by unfold putG; rw [hx]
  have hku : keys (got.set j ((p : Int), u)) = keys got := by rw [← hpg, putG_keys, if_pos (List.mem_of_getElem? (ixn_some.1 hx).1)]
  rw [hpg]
  have HIX := Lib.hid fun (w' : World) (h : Rw.Row nT w' wp.heap.size pv (keys got)) => index_any (RdN.of_row h) (by unfold keys; rw [List.length_map]; omega) (p : Int)
  rw [hix] at HIX
  have hMN := fun (b : Nat) (w' : World) hc hc1 => min2 m.t (m.h + most) (u0 + room) _ u b w' rfl (by rw [hut]; exact min2_is _ _ _) hc hc1
  have MN := Lib.hid hMN
  have hub : u ≤ u0 + room ∧ u ≤ m.t ∧ (0 : Int) ≤ u := by rw [hut]; omega
  obtain ⟨hub1, hub2, hub3⟩ := hub
  have HLW := hl.low hr.kp
  obtain ⟨a, c, hlv, hc⟩ := HLW
  obtain ⟨lg, lo, rfl, hlg, q1⟩ := hc p m hm
  subst hlv
  have c0 := hB.cell (o := 0) rfl
  have c3 := hB.cell (o := 3) rfl
  obtain ⟨d0, d1, d2, d3, d4, d5⟩ := q1
  obtain ⟨n, hn⟩ : ∃ n, l.length = n := ⟨_, rfl⟩
  have HN := Lib.hid hn
  rw [hn] at c0 hp hB hll
  have hpz : (p : Int) < (n : Int) := by omega
  have HB := Lib.hid hB
  have HP := Lib.hid hP
  have HG := Lib.hid hG
  obtain ⟨pva, pvc, hpv, _, _⟩ := hP.slice
  obtain ⟨gva, gvc, hgv2, hgc, _⟩ := hG.slice
  subst hpv
  subst hgv2
  have hkl : (keys got).length = got.length := by unfold keys; simp
  rw [hkl] at c3 HB HP HIX
  rw [List.length_map] at HG HB
  obtain ⟨ng, hng⟩ : ∃ ng, got.length = ng := ⟨_, rfl⟩
  have HNG := Lib.hid hng
  have HF0 := Lib.hid hf
  have HMM := Lib.hid hm
  rw [hng] at c3 HB HP HIX HG hjl
  obtain ⟨mp, mi, mt, mh, mg, mb⟩ := m
  dsimp only at d0 d1 d2 d3 d4 d5 MN hub1 hub2 g1 g2 g3 g4 g5
  clear hr hg hm hc hB hP hG hn hMN hut hgv hue hcu hix hx hlg hkl hng hpg hl hf ho
  go_enter Try.func22, Try.ntmps22
  go_upto_region 1 with fail
  have hM := Blk.new w [.int .i64 mp, .int .u64 mi, .int .i64 mt, .int .i64 mh, .int .i64 mg, .int .i64 mb] 39
  have hK1 := new_kept w (.cells [.int .i64 mp, .int .u64 mi, .int .i64 mt, .int .i64 mh, .int .i64 mg, .int .i64 mb].toArray 39)
  have hB1 := HB.out.old (.cells [.int .i64 mp, .int .u64 mi, .int .i64 mt, .int .i64 mh, .int .i64 mg, .int .i64 mb].toArray 39)
  have c3 := hB1.cell (o := 3) rfl
  dsimp only [List.toArray] at hM hK1 hB1 c3
  have hP1 := HP.out.old hK1
  have hG1 := HG.out.old hK1
  have IX := Lib.hid (HIX.out _ hP1)
  have HMS : Hid (wp.heap.size ≤ w.heap.size) := HKP.out.size
  have HM := Lib.hid hM
  have HK1 := Lib.hid hK1
  have HB1 := Lib.hid hB1
  have HP1 := Lib.hid hP1
  have HG1 := Lib.hid hG1
  clear hM hK1 hB1 hP1 hG1 HB HP HG c0 d0 d1 d2 d3 d4 d5 HIX
  have HW : Hid (rb ≠ w.heap.size) := by have := HB1.out; exact ne_blk this HM.out (by decide)
  generalize w.alloc (.cells #[.int .i64 mp, .int .u64 mi, .int .i64 mt, .int .i64 mh, .int .i64 mg, .int .i64 mb] 39) = w1 at *
  generalize w.heap.size = xb at *
  have c3 := HB1.out.cell (o := 3) rfl
  go_wp2_with fail
  with_reducible refine Calls.mono IX.out ?_
  rintro e w2 ⟨rfl, rfl⟩
  clear c3 IX
  have hjz : (0 : Int) ≤ (j : Int) := by omega
  have hjn : (j : Int) < (ng : Int) := by omega
  have hgj : (got.map (tell l fst))[j]? = some (tell l fst ((p : Int), u0)) := by rw [List.getElem?_map, hu0]; rfl
  obtain ⟨gg, gcap, gcur, hgve, hgg, hGL⟩ : ∃ gg gcap gcur, Value.slice gva ng gvc = .slice (some ⟨gg, 0, none⟩) (got.map (tell l fst)).length gcap ∧ wp.heap.size ≤ gg ∧ Rw.Lies gT w1 gg gcap gcur (got.map (tell l fst)) := by
    rcases HG1.out.form with ⟨_, e⟩ | ⟨a1, a2, a3, a4, a5, a6⟩
    · rw [e] at hgj; simp at hgj
    · exact ⟨a1, a2, a3, a4, a5, a6⟩
  have hq1 := (Value.slice.inj hgve).1
  have hq3 := (Value.slice.inj hgve).2.2
  clear hgve
  subst hq1
  subst hq3
  have hcg := hGL.cell hgj (j := 2) (u := .int .i64 u0) rfl
  have c4 := HB1.out.cell (o := 4) rfl
  have e4 := HM.out.cell (o := 4) rfl
  have f4 := HM.out.frozen 4
  have HGL := Lib.hid hGL
  have HGJ := Lib.hid hgj
  have HGG : Hid (wp.heap.size ≤ gg) := hgg
  dsimp only [gT] at hcg
  clear hGL hgj hgg
  go_upto_region 4 with fail
  have HK2 : Hid (Kept (fun i => i = xb) w1 (w1.setCell ⟨xb, 4, none⟩ (.int .i64 u0))) := Kept.one w1 xb 4 _
  have hM2 := HM.out.set 4 (.int .i64 u0)
  dsimp only [List.set_cons_zero, List.set_cons_succ] at hM2
  have HM2 := Lib.hid hM2
  have HB2 := Lib.hid (HK2.out.blk HB1.out (fun e => HW.out e))
  have HXG : Hid (gg ≠ xb) := ne_blk HGL.out.blk HM.out (by decide)
  have HP2 := Lib.hid (HP1.out.kept HK2.out (fun g hg e => by subst e; exact pown HP1.out hg HM.out (by decide)))
  have HGL2 := Lib.hid (HGL.out.kept HK2.out (fun e => HXG.out e))
  have HKQ : Hid (Kept (fun i => xb ≤ i) w w1) := HK1.out.mono (fun _ _ f => f.elim)
  have HK3 := Lib.hid (HKQ.out.trans (HK2.out.mono (G := fun i => xb ≤ i) (fun i _ e => by omega)))
  clear c4 e4 f4 hcg hM2 HM HB1 HP1 HGL HK2 HKQ HG1
  generalize w1.setCell ⟨xb, 4, none⟩ (.int .i64 u0) = w2 at *
  have KS := Lib.hid fun (w' : World) (k : Kept (fun _ => False) w2 w') => (show w'.cell? ⟨xb, 2, none⟩ = some (.int .i64 mt) ∧ w'.cell? ⟨xb, 3, none⟩ = some (.int .i64 mh) ∧ w'.cell? ⟨xb, 4, none⟩ = some (.int .i64 u0) ∧ w'.cell? ⟨rb, 2, none⟩ = some (.int .i64 room) from
    ⟨(k.blk HM2.out (fun f => f)).cell rfl, (k.blk HM2.out (fun f => f)).cell rfl, (k.blk HM2.out (fun f => f)).cell rfl, (k.blk HB2.out (fun f => f)).cell rfl⟩)
  have i1 : IntKind.i64.wrap (mh + most) = mh + most := by rw [IntKind.wrap_i64]; omega
  have i2 : IntKind.i64.wrap (u0 + room) = u0 + room := by rw [IntKind.wrap_i64]; omega
  go_region_held3 (fun w' => w'.cell? ⟨xb, 2, none⟩ = some (.int .i64 mt) ∧ w'.cell? ⟨xb, 3, none⟩ = some (.int .i64 mh) ∧ w'.cell? ⟨xb, 4, none⟩ = some (.int .i64 u0) ∧ w'.cell? ⟨rb, 2, none⟩ = some (.int .i64 room)) ((refine KS.out _ ?_; repeat (first | exact Kept.refl _ _ | (with_reducible refine Kept.drew ?_) | (with_reducible refine Kept.alloc ?_ _))))
    (first | (go_at_call 20; refine Calls.mono (MN.out _ _ (newAt2 (mh + most) (u0 + room) (by simp only [World.size_alloc, size_drew])).1 (newAt2 (mh + most) (u0 + room) (by simp only [World.size_alloc, size_drew])).2) ?_; rintro e w' ⟨rfl, rfl⟩))
  rename_i hHeld
  have hk4 : Kept (fun _ => False) w2 ((w2.alloc (.cells #[.int .i64 (mh + most), .int .i64 (u0 + room)] 3)).drew) := ((new_kept w2 _).drew)
  have HM4 := Lib.hid (hk4.blk HM2.out (fun f => f))
  have HB4 := Lib.hid (hk4.blk HB2.out (fun f => f))
  have HP4 := Lib.hid (HP2.out.old hk4)
  have HGL4 := Lib.hid (HGL2.out.kept hk4 (fun f => f))
  have HK4 := Lib.hid (HK3.out.trans (hk4.mono (fun _ _ f => f.elim)))
  clear hk4 KS HM2 HB2 HP2 HGL2 HK3 MN i1 i2 hHeld
  generalize (w2.alloc (.cells #[.int .i64 (mh + most), .int .i64 (u0 + room)] 3)).drew = w4 at *
  have e4 := HM4.out.cell (o := 4) rfl
  have hud : decide (u ≤ u0) = false := decide_eq_false (by omega)
  have i3 : IntKind.i64.wrap (u - u0) = u - u0 := by rw [IntKind.wrap_i64]; omega
  have i4 : IntKind.i64.wrap (room - (u - u0)) = room - (u - u0) := by rw [IntKind.wrap_i64]; omega
  go_upto_region 6 with fail
  have c2 := HB4.out.cell (o := 2) rfl
  go_still_tail 9, (by kernel_rfl)
  have HM5 := Lib.hid HM4.out.drew
  have HB5 := Lib.hid HB4.out.drew
  have hk5 : Kept (fun _ => False) w4 w4.drew := (Kept.refl _ w4).drew
  have HP5 := Lib.hid (HP4.out.old hk5)
  have HGL5 := Lib.hid (HGL4.out.kept hk5 (fun f => f))
  have HK5 := Lib.hid HK4.out.drew
  clear HM4 HB4 HP4 HGL4 HK4 hk5 c2 e4
  change wpList _ _ _ _ _ w4.drew
  generalize w4.drew = w5 at *
  have c2 := HB5.out.cell (o := 2) rfl
  have f2 := HB5.out.frozen 2
  go_upto_region 7 with fail
  have hk6 := Kept.one w5 rb 2 (.int .i64 (room - (u - u0)))
  have hB6 := HB5.out.set 2 (.int .i64 (room - (u - u0)))
  dsimp only [List.set_cons_zero, List.set_cons_succ] at hB6
  have HB6 := Lib.hid hB6
  have HM6 := Lib.hid (hk6.blk HM5.out (fun e => HW.out e.symm))
  have HP6 := Lib.hid (HP5.out.kept hk6 (fun g hg e => by subst e; exact pown HP5.out hg HB5.out (by decide)))
  have HGL6 := Lib.hid (HGL5.out.kept hk6 (fun e => ne_blk HGL5.out.blk HB5.out (by decide) e))
  have HK6 := Lib.hid ((HKP.out.trans (HK5.out.mono (fun i _ e => by have := HMS.out; omega))).trans (hk6.mono (G := fun i => wp.heap.size ≤ i) (fun i _ e => by have := HLO.out; omega)))
  clear hk6 hB6 HB5 HM5 HP5 HGL5 HK5 c2 f2
  generalize w5.setCell ⟨rb, 2, none⟩ (.int .i64 (room - (u - u0))) = w6 at *
  have c4 := HB6.out.cell (o := 4) rfl
  have hcg := HGL6.out.cell HGJ.out (j := 2) (u := .int .i64 u0) rfl
  have fg := HGL6.out.blk.frozen (j * 4 + 2)
  dsimp only [gT] at hcg
  go_wp2_with fail
  (try simp only [Exit.inBlock, Exit.then])
  refine bodyPost_ret (results_none rfl _ _ _) rfl ?_
  obtain rfl := HN.out
  have hL7 := lies_set HGL6.out (q := 2) (by decide) (x' := tell l fst ((p : Int), u)) (v := .int .i64 u) HGJ.out rfl
  have hk7 := Kept.one w6 gg (j * 4 + 2) (.int .i64 u)
  refine ⟨rfl, HK6.out.trans (hk7.mono (G := fun i => wp.heap.size ≤ i) (fun i _ e => by have := HGG.out; omega)), HLO.out, _, _, hk7.blk HB6.out (fun e => ne_blk HGL6.out.blk HB6.out (by decide) e.symm), ?_, ?_⟩
  · dsimp only
    rw [hku]
    exact HP6.out.kept hk7 (fun g hg e => by subst e; exact pown HP6.out hg HGL6.out.blk (by decide))
  · have h := hL7.row HGG.out
    rw [List.length_set, List.length_map, HNG.out] at h
    dsimp only
    rw [List.map_set]
    exact h
set_option maxHeartbeats 8000000 in
set_option maxRecDepth 100000 in
theorem give_no_same {wp w : World} {lv fv : Value} {l : List M} {fst : List Int} {rb p : Nat} {s : Int × Got} {most : Int} (hl : Rd wp lv l) (hf : RdN wp fv fst) (hfl : fst.length ≤ 60) (hll : l.length ≤ 60) (hr : RoV wp lv fv l fst rb s w) (hg : GB l s) (hk : s.2.length ≤ 60) (hp : p < l.length) (ho : ok (at' l (p : Int)) = true)
    (hm0 : 0 ≤ most) (hm1 : most ≤ 1099511627776) (hx : ixn (p : Int) (keys s.2) = none) (hu : upt l s.1 s.2 (p : Int) most ≤ cur l s.2 (p : Int)) :
    Calls Try.prog 22 #[.pointer (some ⟨rb, 0, none⟩), .int .i64 (p : Nat), .int .i64 most] w fun e w' => e = .returned (.tuple #[]) ∧ RoV wp lv fv l fst rb (giv l s (p : Int) most) w' := by
  obtain ⟨m, hm⟩ : ∃ m, l[p]? = some m := ⟨_, List.getElem?_eq_getElem hp⟩
  obtain ⟨g0, g1, g2, g3, g4, g5⟩ := cur_bd hg ho
  have hcu : cur l s.2 (p : Int) = m.g := by unfold cur; rw [hx]; simp only [at_is hm]
  have hix : ixI (p : Int) (keys s.2) = -1 := by unfold ixI; rw [hx]
  have hr0 := hg.r0
  have hr1 := hg.r1
  have hgv : giv l s (p : Int) most = s := by unfold giv; rw [if_pos hu]
  rw [hgv]
  have hut : upt l s.1 s.2 (p : Int) most = min (min m.t (m.h + most)) (cur l s.2 (p : Int) + s.1) := by unfold upt; rw [at_is hm]
  rw [at_is hm] at g1 g2 g3 g4 g5
  obtain ⟨u, hue⟩ : ∃ u, upt l s.1 s.2 (p : Int) most = u := ⟨_, rfl⟩
  rw [hue] at hut hu 
  rw [hcu] at g0 g1 g2 hut hu 
  obtain ⟨pv, gv, hB, hP, hG⟩ := hr.ex
  have HLO : Hid (wp.heap.size ≤ rb) := hr.lo
  have HKP : Hid (Kept (fun i => wp.heap.size ≤ i) wp w) := hr.kp
  obtain ⟨room, got⟩ := s
  dsimp only at hB hP hG hu hut hr0 hr1 hix  hk 
  have HIX := Lib.hid fun (w' : World) (h : Rw.Row nT w' wp.heap.size pv (keys got)) => index_any (RdN.of_row h) (by unfold keys; rw [List.length_map]; omega) (p : Int)
  rw [hix] at HIX
  have hMN := fun (b : Nat) (w' : World) hc hc1 => min2 m.t (m.h + most) (m.g + room) _ u b w' rfl (by rw [hut]; exact min2_is _ _ _) hc hc1
  have MN := Lib.hid hMN
  have hub : u ≤ m.g + room ∧ u ≤ m.t ∧ (0 : Int) ≤ u := by rw [hut]; omega
  obtain ⟨hub1, hub2, hub3⟩ := hub
  have HLW := hl.low hr.kp
  obtain ⟨a, c, hlv, hc⟩ := HLW
  obtain ⟨lg, lo, rfl, hlg, q1⟩ := hc p m hm
  subst hlv
  have c0 := hB.cell (o := 0) rfl
  have c3 := hB.cell (o := 3) rfl
  obtain ⟨d0, d1, d2, d3, d4, d5⟩ := q1
  obtain ⟨n, hn⟩ : ∃ n, l.length = n := ⟨_, rfl⟩
  have HN := Lib.hid hn
  rw [hn] at c0 hp hB hll
  have hpz : (p : Int) < (n : Int) := by omega
  have HB := Lib.hid hB
  have HP := Lib.hid hP
  have HG := Lib.hid hG
  obtain ⟨pva, pvc, hpv, _, _⟩ := hP.slice
  obtain ⟨gva, gvc, hgv2, hgc, _⟩ := hG.slice
  subst hpv
  subst hgv2
  have hkl : (keys got).length = got.length := by unfold keys; simp
  rw [hkl] at c3 HB HP HIX
  rw [List.length_map] at HG HB
  obtain ⟨ng, hng⟩ : ∃ ng, got.length = ng := ⟨_, rfl⟩
  have HNG := Lib.hid hng
  have HF0 := Lib.hid hf
  have HMM := Lib.hid hm
  rw [hng] at c3 HB HP HIX HG 
  obtain ⟨mp, mi, mt, mh, mg, mb⟩ := m
  dsimp only at d0 d1 d2 d3 d4 d5 MN hub1 hub2 g1 g2 g3 g4 g5
  clear hr hg hm hc hB hP hG hn hMN hut hgv hue hcu hix hx hlg hkl hng  hl hf ho
  go_enter Try.func22, Try.ntmps22
  go_upto_region 1 with fail
  have hM := Blk.new w [.int .i64 mp, .int .u64 mi, .int .i64 mt, .int .i64 mh, .int .i64 mg, .int .i64 mb] 39
  have hK1 := new_kept w (.cells [.int .i64 mp, .int .u64 mi, .int .i64 mt, .int .i64 mh, .int .i64 mg, .int .i64 mb].toArray 39)
  have hB1 := HB.out.old (.cells [.int .i64 mp, .int .u64 mi, .int .i64 mt, .int .i64 mh, .int .i64 mg, .int .i64 mb].toArray 39)
  have c3 := hB1.cell (o := 3) rfl
  dsimp only [List.toArray] at hM hK1 hB1 c3
  have hP1 := HP.out.old hK1
  have hG1 := HG.out.old hK1
  have IX := Lib.hid (HIX.out _ hP1)
  have HMS : Hid (wp.heap.size ≤ w.heap.size) := HKP.out.size
  have HM := Lib.hid hM
  have HK1 := Lib.hid hK1
  have HB1 := Lib.hid hB1
  have HP1 := Lib.hid hP1
  have HG1 := Lib.hid hG1
  clear hM hK1 hB1 hP1 hG1 HB HP HG c0 d0 d1 d2 d3 d4 d5 HIX
  have HW : Hid (rb ≠ w.heap.size) := by have := HB1.out; exact ne_blk this HM.out (by decide)
  generalize w.alloc (.cells #[.int .i64 mp, .int .u64 mi, .int .i64 mt, .int .i64 mh, .int .i64 mg, .int .i64 mb] 39) = w1 at *
  generalize w.heap.size = xb at *
  have c3 := HB1.out.cell (o := 3) rfl
  go_wp2_with fail
  with_reducible refine Calls.mono IX.out ?_
  rintro e w2 ⟨rfl, rfl⟩
  clear c3 IX
  go_upto_region 4 with fail
  have HM2 := HM
  have HB2 := HB1
  have HP2 := HP1
  have HG2 := HG1
  have HK3 : Hid (Kept (fun i => xb ≤ i) w w1) := HK1.out.mono (fun _ _ f => f.elim)
  clear HM HB1 HP1 HG1
  have KS := Lib.hid fun (w' : World) (k : Kept (fun _ => False) w1 w') => (show w'.cell? ⟨xb, 2, none⟩ = some (.int .i64 mt) ∧ w'.cell? ⟨xb, 3, none⟩ = some (.int .i64 mh) ∧ w'.cell? ⟨xb, 4, none⟩ = some (.int .i64 mg) ∧ w'.cell? ⟨rb, 2, none⟩ = some (.int .i64 room) from
    ⟨(k.blk HM2.out (fun f => f)).cell rfl, (k.blk HM2.out (fun f => f)).cell rfl, (k.blk HM2.out (fun f => f)).cell rfl, (k.blk HB2.out (fun f => f)).cell rfl⟩)
  have i1 : IntKind.i64.wrap (mh + most) = mh + most := by rw [IntKind.wrap_i64]; omega
  have i2 : IntKind.i64.wrap (mg + room) = mg + room := by rw [IntKind.wrap_i64]; omega
  go_region_held3 (fun w' => w'.cell? ⟨xb, 2, none⟩ = some (.int .i64 mt) ∧ w'.cell? ⟨xb, 3, none⟩ = some (.int .i64 mh) ∧ w'.cell? ⟨xb, 4, none⟩ = some (.int .i64 mg) ∧ w'.cell? ⟨rb, 2, none⟩ = some (.int .i64 room)) ((refine KS.out _ ?_; repeat (first | exact Kept.refl _ _ | (with_reducible refine Kept.drew ?_) | (with_reducible refine Kept.alloc ?_ _))))
    (first | (go_at_call 20; refine Calls.mono (MN.out _ _ (newAt2 (mh + most) (mg + room) (by simp only [World.size_alloc, size_drew])).1 (newAt2 (mh + most) (mg + room) (by simp only [World.size_alloc, size_drew])).2) ?_; rintro e w' ⟨rfl, rfl⟩))
  rename_i hHeld
  have hk4 : Kept (fun _ => False) w1 ((w1.alloc (.cells #[.int .i64 (mh + most), .int .i64 (mg + room)] 3)).drew) := ((new_kept w1 _).drew)
  have HM4 := Lib.hid (hk4.blk HM2.out (fun f => f))
  have HB4 := Lib.hid (hk4.blk HB2.out (fun f => f))
  have HP4 := Lib.hid (HP2.out.old hk4)
  have HG4 := Lib.hid (HG2.out.old hk4)
  have HK4 := Lib.hid (HK3.out.trans (hk4.mono (fun _ _ f => f.elim)))
  clear hk4 KS HM2 HB2 HP2 HG2 HK3 MN i1 i2 hHeld
  generalize (w1.alloc (.cells #[.int .i64 (mh + most), .int .i64 (mg + room)] 3)).drew = w4 at *
  have e4 := HM4.out.cell (o := 4) rfl
  go_wp2_with fail
  (try simp only [Exit.inBlock, Exit.then])
  refine bodyPost_ret (results_none rfl _ _ _) rfl ?_
  obtain rfl := HN.out
  exact ⟨rfl, HKP.out.trans (HK4.out.mono (fun i _ e => by have := HMS.out; omega)), HLO.out, _, _, HB4.out, HP4.out, HG4.out⟩
set_option maxHeartbeats 8000000 in
set_option maxRecDepth 100000 in
theorem give_no_more {wp w : World} {lv fv : Value} {l : List M} {fst : List Int} {rb p : Nat} {s : Int × Got} {most : Int} (hl : Rd wp lv l) (hf : RdN wp fv fst) (hfl : fst.length ≤ 60) (hll : l.length ≤ 60) (hr : RoV wp lv fv l fst rb s w) (hg : GB l s) (hk : s.2.length ≤ 60) (hp : p < l.length) (ho : ok (at' l (p : Int)) = true)
    (hm0 : 0 ≤ most) (hm1 : most ≤ 1099511627776) (hx : ixn (p : Int) (keys s.2) = none) (hu : ¬ upt l s.1 s.2 (p : Int) most ≤ cur l s.2 (p : Int)) :
    Calls Try.prog 22 #[.pointer (some ⟨rb, 0, none⟩), .int .i64 (p : Nat), .int .i64 most] w fun e w' => e = .returned (.tuple #[]) ∧ RoV wp lv fv l fst rb (giv l s (p : Int) most) w' := by
  obtain ⟨m, hm⟩ : ∃ m, l[p]? = some m := ⟨_, List.getElem?_eq_getElem hp⟩
  obtain ⟨g0, g1, g2, g3, g4, g5⟩ := cur_bd hg ho
  have hcu : cur l s.2 (p : Int) = m.g := by unfold cur; rw [hx]; simp only [at_is hm]
  have hix : ixI (p : Int) (keys s.2) = -1 := by unfold ixI; rw [hx]
  have hr0 := hg.r0
  have hr1 := hg.r1
  have hgv : giv l s (p : Int) most = (s.1 - (upt l s.1 s.2 (p : Int) most - cur l s.2 (p : Int)), putG s.2 (p : Int) (upt l s.1 s.2 (p : Int) most)) := by unfold giv; rw [if_neg hu]
  rw [hgv]
  have hut : upt l s.1 s.2 (p : Int) most = min (min m.t (m.h + most)) (cur l s.2 (p : Int) + s.1) := by unfold upt; rw [at_is hm]
  rw [at_is hm] at g1 g2 g3 g4 g5
  obtain ⟨u, hue⟩ : ∃ u, upt l s.1 s.2 (p : Int) most = u := ⟨_, rfl⟩
  rw [hue] at hut hu ⊢
  rw [hcu] at g0 g1 g2 hut hu ⊢
  obtain ⟨pv, gv, hB, hP, hG⟩ := hr.ex
  have HLO : Hid (wp.heap.size ≤ rb) := hr.lo
  have HKP : Hid (Kept (fun i => wp.heap.size ≤ i) wp w) := hr.kp
  obtain ⟨room, got⟩ := s
  dsimp only at hB hP hG hu hut hr0 hr1 hix  hk ⊢
  have hpg : putG got (p : Int) u = got ++ [((p : Int), u)] := by unfold putG; rw [hx]
  rw [hpg]
  have HIX := Lib.hid fun (w' : World) (h : Rw.Row nT w' wp.heap.size pv (keys got)) => index_any (RdN.of_row h) (by unfold keys; rw [List.length_map]; omega) (p : Int)
  rw [hix] at HIX
  have hMN := fun (b : Nat) (w' : World) hc hc1 => min2 m.t (m.h + most) (m.g + room) _ u b w' rfl (by rw [hut]; exact min2_is _ _ _) hc hc1
  have MN := Lib.hid hMN
  have hub : u ≤ m.g + room ∧ u ≤ m.t ∧ (0 : Int) ≤ u := by rw [hut]; omega
  obtain ⟨hub1, hub2, hub3⟩ := hub
  have HLW := hl.low hr.kp
  obtain ⟨a, c, hlv, hc⟩ := HLW
  obtain ⟨lg, lo, rfl, hlg, q1⟩ := hc p m hm
  subst hlv
  have c0 := hB.cell (o := 0) rfl
  have c3 := hB.cell (o := 3) rfl
  obtain ⟨d0, d1, d2, d3, d4, d5⟩ := q1
  obtain ⟨n, hn⟩ : ∃ n, l.length = n := ⟨_, rfl⟩
  have HN := Lib.hid hn
  rw [hn] at c0 hp hB hll
  have hpz : (p : Int) < (n : Int) := by omega
  have HB := Lib.hid hB
  have HP := Lib.hid hP
  have HG := Lib.hid hG
  obtain ⟨pva, pvc, hpv, _, _⟩ := hP.slice
  obtain ⟨gva, gvc, hgv2, hgc, _⟩ := hG.slice
  subst hpv
  subst hgv2
  have hkl : (keys got).length = got.length := by unfold keys; simp
  rw [hkl] at c3 HB HP HIX
  rw [List.length_map] at HG HB
  obtain ⟨ng, hng⟩ : ∃ ng, got.length = ng := ⟨_, rfl⟩
  have HNG := Lib.hid hng
  have HF0 := Lib.hid hf
  have HMM := Lib.hid hm
  rw [hng] at c3 HB HP HIX HG 
  obtain ⟨mp, mi, mt, mh, mg, mb⟩ := m
  dsimp only at d0 d1 d2 d3 d4 d5 MN hub1 hub2 g1 g2 g3 g4 g5
  clear hr hg hm hc hB hP hG hn hMN hut hgv hue hcu hix hx hlg hkl hng hpg hl hf ho
  go_enter Try.func22, Try.ntmps22
  go_upto_region 1 with fail
  have hM := Blk.new w [.int .i64 mp, .int .u64 mi, .int .i64 mt, .int .i64 mh, .int .i64 mg, .int .i64 mb] 39
  have hK1 := new_kept w (.cells [.int .i64 mp, .int .u64 mi, .int .i64 mt, .int .i64 mh, .int .i64 mg, .int .i64 mb].toArray 39)
  have hB1 := HB.out.old (.cells [.int .i64 mp, .int .u64 mi, .int .i64 mt, .int .i64 mh, .int .i64 mg, .int .i64 mb].toArray 39)
  have c3 := hB1.cell (o := 3) rfl
  dsimp only [List.toArray] at hM hK1 hB1 c3
  have hP1 := HP.out.old hK1
  have hG1 := HG.out.old hK1
  have IX := Lib.hid (HIX.out _ hP1)
  have HMS : Hid (wp.heap.size ≤ w.heap.size) := HKP.out.size
  have HM := Lib.hid hM
  have HK1 := Lib.hid hK1
  have HB1 := Lib.hid hB1
  have HP1 := Lib.hid hP1
  have HG1 := Lib.hid hG1
  clear hM hK1 hB1 hP1 hG1 HB HP HG c0 d0 d1 d2 d3 d4 d5 HIX
  have HW : Hid (rb ≠ w.heap.size) := by have := HB1.out; exact ne_blk this HM.out (by decide)
  generalize w.alloc (.cells #[.int .i64 mp, .int .u64 mi, .int .i64 mt, .int .i64 mh, .int .i64 mg, .int .i64 mb] 39) = w1 at *
  generalize w.heap.size = xb at *
  have c3 := HB1.out.cell (o := 3) rfl
  go_wp2_with fail
  with_reducible refine Calls.mono IX.out ?_
  rintro e w2 ⟨rfl, rfl⟩
  clear c3 IX
  go_upto_region 4 with fail
  have HM2 := HM
  have HB2 := HB1
  have HP2 := HP1
  have HG2 := HG1
  have HK3 : Hid (Kept (fun i => xb ≤ i) w w1) := HK1.out.mono (fun _ _ f => f.elim)
  clear HM HB1 HP1 HG1
  have KS := Lib.hid fun (w' : World) (k : Kept (fun _ => False) w1 w') => (show w'.cell? ⟨xb, 2, none⟩ = some (.int .i64 mt) ∧ w'.cell? ⟨xb, 3, none⟩ = some (.int .i64 mh) ∧ w'.cell? ⟨xb, 4, none⟩ = some (.int .i64 mg) ∧ w'.cell? ⟨rb, 2, none⟩ = some (.int .i64 room) from
    ⟨(k.blk HM2.out (fun f => f)).cell rfl, (k.blk HM2.out (fun f => f)).cell rfl, (k.blk HM2.out (fun f => f)).cell rfl, (k.blk HB2.out (fun f => f)).cell rfl⟩)
  have i1 : IntKind.i64.wrap (mh + most) = mh + most := by rw [IntKind.wrap_i64]; omega
  have i2 : IntKind.i64.wrap (mg + room) = mg + room := by rw [IntKind.wrap_i64]; omega
  go_region_held3 (fun w' => w'.cell? ⟨xb, 2, none⟩ = some (.int .i64 mt) ∧ w'.cell? ⟨xb, 3, none⟩ = some (.int .i64 mh) ∧ w'.cell? ⟨xb, 4, none⟩ = some (.int .i64 mg) ∧ w'.cell? ⟨rb, 2, none⟩ = some (.int .i64 room)) ((refine KS.out _ ?_; repeat (first | exact Kept.refl _ _ | (with_reducible refine Kept.drew ?_) | (with_reducible refine Kept.alloc ?_ _))))
    (first | (go_at_call 20; refine Calls.mono (MN.out _ _ (newAt2 (mh + most) (mg + room) (by simp only [World.size_alloc, size_drew])).1 (newAt2 (mh + most) (mg + room) (by simp only [World.size_alloc, size_drew])).2) ?_; rintro e w' ⟨rfl, rfl⟩))
  rename_i hHeld
  have hk4 : Kept (fun _ => False) w1 ((w1.alloc (.cells #[.int .i64 (mh + most), .int .i64 (mg + room)] 3)).drew) := ((new_kept w1 _).drew)
  have HM4 := Lib.hid (hk4.blk HM2.out (fun f => f))
  have HB4 := Lib.hid (hk4.blk HB2.out (fun f => f))
  have HP4 := Lib.hid (HP2.out.old hk4)
  have HG4 := Lib.hid (HG2.out.old hk4)
  have HK4 := Lib.hid (HK3.out.trans (hk4.mono (fun _ _ f => f.elim)))
  clear hk4 KS HM2 HB2 HP2 HG2 HK3 MN i1 i2 hHeld
  generalize (w1.alloc (.cells #[.int .i64 (mh + most), .int .i64 (mg + room)] 3)).drew = w4 at *
  have e4 := HM4.out.cell (o := 4) rfl
  have hud : decide (u ≤ mg) = false := decide_eq_false (by omega)
  have i3 : IntKind.i64.wrap (u - mg) = u - mg := by rw [IntKind.wrap_i64]; omega
  have i4 : IntKind.i64.wrap (room - (u - mg)) = room - (u - mg) := by rw [IntKind.wrap_i64]; omega
  go_upto_region 6 with fail
  have c2 := HB4.out.cell (o := 2) rfl
  go_still_tail 9, (by kernel_rfl)
  have HM5 := Lib.hid HM4.out.drew
  have HB5 := Lib.hid HB4.out.drew
  have hk5 : Kept (fun _ => False) w4 w4.drew := (Kept.refl _ w4).drew
  have HP5 := Lib.hid (HP4.out.old hk5)
  have HG5 := Lib.hid (HG4.out.old hk5)
  have HK5 := Lib.hid HK4.out.drew
  clear HM4 HB4 HP4 HG4 HK4 hk5 c2 e4
  change wpList _ _ _ _ _ w4.drew
  generalize w4.drew = w5 at *
  have c2 := HB5.out.cell (o := 2) rfl
  have f2 := HB5.out.frozen 2
  go_upto_region 7 with fail
  have hk6 := Kept.one w5 rb 2 (.int .i64 (room - (u - mg)))
  have hB6 := HB5.out.set 2 (.int .i64 (room - (u - mg)))
  dsimp only [List.set_cons_zero, List.set_cons_succ] at hB6
  have HB6 := Lib.hid hB6
  have HM6 := Lib.hid (hk6.blk HM5.out (fun e => HW.out e.symm))
  have HP6 := Lib.hid (HP5.out.kept hk6 (fun g hg e => by subst e; exact pown HP5.out hg HB5.out (by decide)))
  have HG6 := Lib.hid (HG5.out.kept hk6 (fun g hg e => by subst e; exact pown HG5.out hg HB5.out (by decide)))
  have HK6 := Lib.hid ((HKP.out.trans (HK5.out.mono (fun i _ e => by have := HMS.out; omega))).trans (hk6.mono (G := fun i => wp.heap.size ≤ i) (fun i _ e => by have := HLO.out; omega)))
  clear hk6 hB6 HB5 HM5 HP5 HG5 HK5 c2 f2
  generalize w5.setCell ⟨rb, 2, none⟩ (.int .i64 (room - (u - mg))) = w6 at *
  go_upto_region 9 with fail
  have hR7 := HP6.out.old (new_kept w6 (.cells #[.int .i64 (p : Nat)] 3))
  have hS7 := Rw.src_blk (t := nT) (K := [(p : Int)]) 1 (Blk.new w6 [.int .i64 (p : Nat)] 3)
  have hsm : (keys got).length + [(p : Int)].length ≤ 1000000 := by unfold keys; rw [List.length_map]; simp; omega
  have hbase : wp.heap.size ≤ (w6.alloc (.cells #[.int .i64 (p : Nat)] 3)).heap.size := by have h1 := HK6.out.size; rw [World.size_alloc]; omega
  have c3 := HB6.out.cell (o := 3) rfl
  have HR7 := Lib.hid hR7
  have HS7 := Lib.hid hS7
  have HSM := Lib.hid hsm
  have HBS := Lib.hid hbase
  clear hR7 hS7 hsm hbase
  go_upto_region 10 with (at_builtin; refine Rw.wpList_app nT rfl _ _ rfl wp.heap.size rfl HR7.out rfl HS7.out HSM.out HBS.out ?_; intro v8 w8 hA; obtain ⟨q8, hq8⟩ : ∃ q, (keys got ++ [(p : Int)]).length = q := ⟨_, rfl⟩; obtain ⟨a8, c8, hv8, _, _⟩ := hA.row.slice; rw [hq8] at hv8; subst hv8; clear hq8; have hB8 := hA.kept.blk ((new_kept w6 (.cells #[.int .i64 (p : Nat)] 3)).blk HB6.out (fun f => f)) (fun e => pown HP6.out e HB6.out (by decide)); have HA := Lib.hid hA; have HB8 := Lib.hid hB8; have t3 := hB8.cell (o := 3) rfl; have t4 := hB8.frozen 3; clear hA hB8)
  have hk8 := HA.out.kept
  have hM8 := hk8.blk ((new_kept w6 (.cells #[.int .i64 (p : Nat)] 3)).blk HM6.out (fun f => f)) (fun e => pown HP6.out e HM6.out (by decide))
  have hG8 := (HG6.out.old (new_kept w6 (.cells #[.int .i64 (p : Nat)] 3))).kept hk8 (fun g hg e => by
    rcases HG6.out.form with ⟨e1, _⟩ | ⟨g', cap, cur, e1, _, hL⟩
    · rw [e1] at hg; cases hg
    · rw [e1] at hg
      obtain rfl : g' = g := Option.some.inj hg
      exact pown HP6.out e hL.blk (by decide))
  have hK8 := (HK6.out.trans ((new_kept w6 (.cells #[.int .i64 (p : Nat)] 3)).mono (G := fun i => wp.heap.size ≤ i) (fun _ _ f => f.elim))).trans (hk8.mono (G := fun i => wp.heap.size ≤ i) (fun i _ e => (HP6.out.lt i e).1))
  have hk9 := Kept.one w8 rb 3 (.slice a8 q8 c8)
  have hB9 := HB8.out.set 3 (.slice a8 q8 c8)
  dsimp only [List.set_cons_zero, List.set_cons_succ] at hB9
  have hM9 := hk9.blk hM8 (fun e => HW.out e.symm)
  have hP9 := HA.out.row.kept hk9 (fun g hg e => by subst e; exact pown HA.out.row hg HB8.out (by decide))
  have hG9 := hG8.kept hk9 (fun g hg e => by subst e; exact pown hG8 hg HB8.out (by decide))
  have hK9 := hK8.trans (hk9.mono (G := fun i => wp.heap.size ≤ i) (fun i _ e => by have := HLO.out; omega))
  have HB9 := Lib.hid hB9
  have HM9 := Lib.hid hM9
  have HP9 := Lib.hid hP9
  have HG9 := Lib.hid hG9
  have HK9 := Lib.hid hK9
  clear hk8 hM8 hG8 hK8 hk9 hB9 hM9 hP9 hG9 hK9 HB8 HA HB6 HM6 HP6 HG6 HK6 HR7 HS7 HBS c3 t3 t4
  generalize w8.setCell ⟨rb, 3, none⟩ (.slice a8 q8 c8) = w9 at *
  obtain ⟨r, hr⟩ : ∃ r, prio fst (p : Int) = r := ⟨_, rfl⟩
  have HT : Hid (tell l fst ((p : Int), u) = (mp, mi, u, r)) := by show _ = _; unfold tell; dsimp only; rw [at_is HMM.out, hr]
  have PR := Lib.hid fun (w' : World) (k : Kept (fun _ => False) w9 w') => prio_any (k.blk HB9.out (fun f => f)) (HF0.out.low (HK9.out.trans (k.mono (fun _ _ f => f.elim)))) (by omega) (p : Int)
  rw [hr] at PR
  have KG := Lib.hid fun (w' : World) (k : Kept (fun _ => False) w9 w') => (k.blk HB9.out (fun f => f)).cell (o := 4) rfl
  have RG := Lib.hid fun (w' : World) (k : Kept (fun _ => False) w9 w') => HG9.out.old k
  have BS := Lib.hid fun (w' : World) (k : Kept (fun _ => False) w9 w') => Nat.le_trans HK9.out.size k.size
  have SM : Hid ((got.map (tell l fst)).length + [(mp, mi, u, r)].length ≤ 1000000) := by show _ ≤ _; rw [List.length_map]; simp; omega
  have KS := Lib.hid fun (w' : World) (k : Kept (fun _ => False) w9 w') => (show w'.cell? ⟨xb, 0, none⟩ = some (.int .i64 mp) ∧ w'.cell? ⟨xb, 1, none⟩ = some (.int .u64 mi) from ⟨(k.blk HM9.out (fun f => f)).cell rfl, (k.blk HM9.out (fun f => f)).cell rfl⟩)
  have AM := Lib.hid fun (z : World) (v' : Value) (z' : World) (k : Kept (fun _ => False) w9 z) (a : Rw.Apd gT z wp.heap.size (.slice gva ng gvc) (got.map (tell l fst) ++ [(mp, mi, u, r)]) v' z') => a.kept.blk (k.blk HM9.out (fun f => f)) (fun e => pown (HG9.out.old k) e (k.blk HM9.out (fun f => f)) (by decide))
  have AB := Lib.hid fun (z : World) (v' : Value) (z' : World) (k : Kept (fun _ => False) w9 z) (a : Rw.Apd gT z wp.heap.size (.slice gva ng gvc) (got.map (tell l fst) ++ [(mp, mi, u, r)]) v' z') => a.kept.blk (k.blk HB9.out (fun f => f)) (fun e => pown (HG9.out.old k) e (k.blk HB9.out (fun f => f)) (by decide))
  have KA := Lib.hid fun (z : World) (v' : Value) (z' : World) (k : Kept (fun _ => False) w9 z) (a : Rw.Apd gT z wp.heap.size (.slice gva ng gvc) (got.map (tell l fst) ++ [(mp, mi, u, r)]) v' z') => (show z'.cell? ⟨xb, 0, none⟩ = some (.int .i64 mp) ∧ z'.cell? ⟨xb, 1, none⟩ = some (.int .u64 mi) from ⟨(AM.out z v' z' k a).cell rfl, (AM.out z v' z' k a).cell rfl⟩)
  have KB := Lib.hid fun (z : World) (v' : Value) (z' : World) (k : Kept (fun _ => False) w9 z) (a : Rw.Apd gT z wp.heap.size (.slice gva ng gvc) (got.map (tell l fst) ++ [(mp, mi, u, r)]) v' z') => (show z'.cell? ⟨rb, 4, none⟩ = some (.slice gva ng gvc) ∧ z'.frozen? ⟨rb, 4, none⟩ = false from ⟨(AB.out z v' z' k a).cell rfl, (AB.out z v' z' k a).frozen 4⟩)
  have KC := Lib.hid fun (z : World) (v' : Value) (z' : World) (q : Value) (k : Kept (fun _ => False) w9 z) (a : Rw.Apd gT z wp.heap.size (.slice gva ng gvc) (got.map (tell l fst) ++ [(mp, mi, u, r)]) v' z') => (show (z'.setCell ⟨rb, 4, none⟩ q).cell? ⟨xb, 0, none⟩ = some (.int .i64 mp) ∧ (z'.setCell ⟨rb, 4, none⟩ q).cell? ⟨xb, 1, none⟩ = some (.int .u64 mi) from
    ⟨((AM.out z v' z' k a).far (fun e => HW.out e) 4 q).cell rfl, ((AM.out z v' z' k a).far (fun e => HW.out e) 4 q).cell rfl⟩)
  have FIN : Hid (∀ (z : World) (v' : Value) (z' : World), Kept (fun _ => False) w9 z → Rw.Apd gT z wp.heap.size (.slice gva ng gvc) (got.map (tell l fst) ++ [(mp, mi, u, r)]) v' z' → RoV wp (.slice (some ⟨lg, lo, none⟩) l.length c) fv l fst rb (room - (u - mg), got ++ [((p : Int), u)]) (z'.setCell ⟨rb, 4, none⟩ v')) := by
    intro z v' z' k a
    obtain rfl := HN.out
    have hk := Kept.one z' rb 4 v'
    have hB := (AB.out z v' z' k a).set 4 v'
    dsimp only [List.set_cons_zero, List.set_cons_succ] at hB
    have hK1 := (HK9.out.trans (k.mono (G := fun i => wp.heap.size ≤ i) (fun _ _ f => f.elim))).trans (a.kept.mono (G := fun i => wp.heap.size ≤ i) (fun i _ e => ((HG9.out.old k).lt i e).1))
    refine ⟨hK1.trans (hk.mono (G := fun i => wp.heap.size ≤ i) (fun i _ e => by have := HLO.out; omega)), HLO.out, _, _, hB, ?_, ?_⟩
    · have hP := ((HP9.out.old k).kept a.kept (fun g hg e => by
        rcases (HG9.out.old k).form with ⟨e1, _⟩ | ⟨g', cap, cur, e1, _, hL⟩
        · rw [e1] at e; cases e
        · rw [e1] at e
          obtain rfl : g' = g := Option.some.inj e
          exact pown (HP9.out.old k) hg hL.blk (by decide)))
      have := hP.kept hk (fun g hg e => by subst e; exact pown hP hg (AB.out z v' z' k a) (by decide))
      dsimp only
      unfold keys at this ⊢
      rw [List.map_append]
      exact this
    · have := a.row.kept hk (fun g hg e => by subst e; exact pown a.row hg (AB.out z v' z' k a) (by decide))
      dsimp only
      rw [List.map_append, List.map_singleton, HT.out]
      exact this
  have K0 : Hid (Kept (fun _ => False) w9 w9.drew) := (Kept.refl _ w9).drew
  clear hr
  refine wp_region_held_drew (S := fun w' => w'.cell? ⟨xb, 0, none⟩ = some (.int .i64 mp) ∧ w'.cell? ⟨xb, 1, none⟩ = some (.int .u64 mi)) (by kernel_rfl) (KS.out _ K0.out) (fun hHeld => ?_)
  generalize w9.drew = z0 at *
  refine wpAnyH_take (i := 0) (oi := { dst := some 83, op := Go.Op.move (Go.Operand.tmp 0), type := 62, pos := "srpt.go:128", after := #[], guard := none }) (v := ?_) rfl (by kernel_rfl) (by kernel_rfl) (by kernel_rfl) (fun _ _ _ h => h) (Or.inl ⟨by rfl, ?_⟩) (by assumption) ?_
  rotate_left 1
  focus (intro w hSw; (try dsimp only at hSw); go_simp; try with_reducible rfl)
  try simp only [Act.put, List.setIfInBounds_toArray, List.set_cons_zero, List.set_cons_succ]
  refine wpAnyH_take (i := 1) (oi := { dst := some 84, op := Go.Op.move (Go.Operand.tmp 0), type := 62, pos := "srpt.go:128", after := #[], guard := none }) (v := ?_) rfl (by kernel_rfl) (by kernel_rfl) (by kernel_rfl) (fun _ _ _ h => h) (Or.inl ⟨by rfl, ?_⟩) (by assumption) ?_
  rotate_left 1
  focus (intro w hSw; (try dsimp only at hSw); go_simp; try with_reducible rfl)
  try simp only [Act.put, List.setIfInBounds_toArray, List.set_cons_zero, List.set_cons_succ]
  refine wpAnyH_take (i := 2) (oi := { dst := some 85, op := Go.Op.nilCheck (Go.Operand.tmp 84), type := 0, pos := "srpt.go:128", after := #[{ on := 1, ground := Go.Ground.data }], guard := none }) (v := ?_) rfl (by kernel_rfl) (by kernel_rfl) (by kernel_rfl) (fun _ _ _ h => h) (Or.inl ⟨by rfl, ?_⟩) (by assumption) ?_
  rotate_left 1
  focus (intro w hSw; (try dsimp only at hSw); go_simp; try with_reducible rfl)
  try simp only [Act.put, List.setIfInBounds_toArray, List.set_cons_zero, List.set_cons_succ]
  refine wpAnyH_take (i := 3) (oi := { dst := some 86, op := Go.Op.fieldAddr 54 (Go.Operand.tmp 85) 4, type := 0, pos := "srpt.go:128", after := #[{ on := 2, ground := Go.Ground.data }], guard := none }) (v := ?_) rfl (by kernel_rfl) (by kernel_rfl) (by kernel_rfl) (fun _ _ _ h => h) (Or.inl ⟨by rfl, ?_⟩) (by assumption) ?_
  rotate_left 1
  focus (intro w hSw; (try dsimp only at hSw); go_simp; try with_reducible rfl)
  try simp only [Act.put, List.setIfInBounds_toArray, List.set_cons_zero, List.set_cons_succ]
  refine wpAnyH_take (i := 5) (oi := { dst := some 88, op := Go.Op.fieldAddr 39 (Go.Operand.tmp 6) 0, type := 0, pos := "srpt.go:128", after := #[], guard := none }) (v := ?_) rfl (by kernel_rfl) (by kernel_rfl) (by kernel_rfl) (fun _ _ _ h => h) (Or.inl ⟨by rfl, ?_⟩) (by assumption) ?_
  rotate_left 1
  focus (intro w hSw; (try dsimp only at hSw); go_simp; try with_reducible rfl)
  try simp only [Act.put, List.setIfInBounds_toArray, List.set_cons_zero, List.set_cons_succ]
  refine wpAnyH_take (i := 6) (oi := { dst := some 89, op := Go.Op.load 3 (Go.Operand.tmp 88), type := 3, pos := "srpt.go:128", after := #[{ on := 5, ground := Go.Ground.data }], guard := none }) (v := ?_) rfl (by kernel_rfl) (by kernel_rfl) (by kernel_rfl) (fun _ _ _ h => h) (Or.inl ⟨by rfl, ?_⟩) (by assumption) ?_
  rotate_left 1
  focus (intro w hSw; (try dsimp only at hSw); go_simp; try with_reducible rfl)
  try simp only [Act.put, List.setIfInBounds_toArray, List.set_cons_zero, List.set_cons_succ]
  refine wpAnyH_take (i := 7) (oi := { dst := some 90, op := Go.Op.fieldAddr 39 (Go.Operand.tmp 6) 1, type := 0, pos := "srpt.go:128", after := #[], guard := none }) (v := ?_) rfl (by kernel_rfl) (by kernel_rfl) (by kernel_rfl) (fun _ _ _ h => h) (Or.inl ⟨by rfl, ?_⟩) (by assumption) ?_
  rotate_left 1
  focus (intro w hSw; (try dsimp only at hSw); go_simp; try with_reducible rfl)
  try simp only [Act.put, List.setIfInBounds_toArray, List.set_cons_zero, List.set_cons_succ]
  refine wpAnyH_take (i := 8) (oi := { dst := some 91, op := Go.Op.load 33 (Go.Operand.tmp 90), type := 33, pos := "srpt.go:128", after := #[{ on := 7, ground := Go.Ground.data }], guard := none }) (v := ?_) rfl (by kernel_rfl) (by kernel_rfl) (by kernel_rfl) (fun _ _ _ h => h) (Or.inl ⟨by rfl, ?_⟩) (by assumption) ?_
  rotate_left 1
  focus (intro w hSw; (try dsimp only at hSw); go_simp; try with_reducible rfl)
  try simp only [Act.put, List.setIfInBounds_toArray, List.set_cons_zero, List.set_cons_succ]
  refine wpAnyH_take (i := 9) (oi := { dst := some 92, op := Go.Op.move (Go.Operand.tmp 8), type := 3, pos := "srpt.go:128", after := #[], guard := none }) (v := ?_) rfl (by kernel_rfl) (by kernel_rfl) (by kernel_rfl) (fun _ _ _ h => h) (Or.inl ⟨by rfl, ?_⟩) (by assumption) ?_
  rotate_left 1
  focus (intro w hSw; (try dsimp only at hSw); go_simp; try with_reducible rfl)
  try simp only [Act.put, List.setIfInBounds_toArray, List.set_cons_zero, List.set_cons_succ]
  refine wpAnyH_take (i := 10) (oi := { dst := some 93, op := Go.Op.move (Go.Operand.tmp 0), type := 62, pos := "srpt.go:128", after := #[], guard := none }) (v := ?_) rfl (by kernel_rfl) (by kernel_rfl) (by kernel_rfl) (fun _ _ _ h => h) (Or.inl ⟨by rfl, ?_⟩) (by assumption) ?_
  rotate_left 1
  focus (intro w hSw; (try dsimp only at hSw); go_simp; try with_reducible rfl)
  try simp only [Act.put, List.setIfInBounds_toArray, List.set_cons_zero, List.set_cons_succ]
  refine wpAnyH_take (i := 11) (oi := { dst := some 94, op := Go.Op.move (Go.Operand.tmp 1), type := 3, pos := "srpt.go:128", after := #[], guard := none }) (v := ?_) rfl (by kernel_rfl) (by kernel_rfl) (by kernel_rfl) (fun _ _ _ h => h) (Or.inl ⟨by rfl, ?_⟩) (by assumption) ?_
  rotate_left 1
  focus (intro w hSw; (try dsimp only at hSw); go_simp; try with_reducible rfl)
  try simp only [Act.put, List.setIfInBounds_toArray, List.set_cons_zero, List.set_cons_succ]
  refine wpAnyH_ready (rs := [4, 12]) (by kernel_rfl) (by simp) ?_
  refine AllReadyH.cons (o := { dst := some 87, op := Go.Op.load 26 (Go.Operand.tmp 86), type := 26, pos := "srpt.go:128", after := #[{ on := 3, ground := Go.Ground.data }], guard := none }) rfl (fun K hK => ?_) (AllReadyH.cons (o := { dst := some 95, op := Go.Op.call { callee := Go.Callee.value (Go.Operand.func 36), args := #[Go.Operand.tmp 93, Go.Operand.tmp 94], argTypes := #[62, 3] }, type := 3, pos := "srpt.go:128", after := #[{ on := 10, ground := Go.Ground.data }, { on := 11, ground := Go.Ground.data }], guard := none }) rfl (fun K hK => ?_) AllReadyH.nil)
  · have t4 := KG.out _ K0.out
    go_simp
    refine hK.out _ _ (KS.out _ K0.out) (fun hHeld => ?_)
    clear hK K
    try simp only [Act.put, List.setIfInBounds_toArray, List.set_cons_zero, List.set_cons_succ]
    clear t4
    refine wpAnyH_ready (rs := [12]) (by kernel_rfl) (by simp) ?_
    refine AllReadyH.cons (o := { dst := some 95, op := Go.Op.call { callee := Go.Callee.value (Go.Operand.func 36), args := #[Go.Operand.tmp 93, Go.Operand.tmp 94], argTypes := #[62, 3] }, type := 3, pos := "srpt.go:128", after := #[{ on := 10, ground := Go.Ground.data }, { on := 11, ground := Go.Ground.data }], guard := none }) rfl (fun K hK => ?_) AllReadyH.nil
    go_simp
    with_reducible refine Calls.mono (PR.out _ K0.out) ?_
    rintro e y2 ⟨rfl, k2⟩
    have K2 := Lib.hid (K0.out.trans k2)
    clear k2
    refine hK.out _ _ (KS.out _ K2.out) (fun hHeld => ?_)
    clear hK K
    try simp only [Act.put, List.setIfInBounds_toArray, List.set_cons_zero, List.set_cons_succ]
    refine wpAnyH_take (i := 13) (oi := { dst := some 96, op := Go.Op.build 35 #[(0, Go.Operand.tmp 89), (1, Go.Operand.tmp 91), (2, Go.Operand.tmp 92), (3, Go.Operand.tmp 95)], type := 35, pos := "srpt.go:128", after := #[{ on := 6, ground := Go.Ground.data }, { on := 8, ground := Go.Ground.data }, { on := 9, ground := Go.Ground.data }, { on := 12, ground := Go.Ground.data }], guard := none }) (v := ?_) rfl (by kernel_rfl) (by kernel_rfl) (by kernel_rfl) (fun _ _ _ h => h) (Or.inl ⟨by rfl, ?_⟩) (by assumption) ?_
    rotate_left 1
    focus (intro w hSw; (try dsimp only at hSw); go_simp; try with_reducible rfl)
    try simp only [Act.put, List.setIfInBounds_toArray, List.set_cons_zero, List.set_cons_succ]
    refine wpAnyH_ready (rs := [14]) (by kernel_rfl) (by simp) ?_
    refine AllReadyH.cons (o := { dst := some 97, op := Go.Op.buildSlice 26 1 #[(0, Go.Operand.tmp 96)], type := 26, pos := "srpt.go:128", after := #[{ on := 13, ground := Go.Ground.data }], guard := none }) rfl (fun K hK => ?_) AllReadyH.nil
    have hB3 := Blk.new y2 [.int .i64 mp, .int .u64 mi, .int .i64 u, .int .i64 r] 35
    have K3 := Lib.hid (K2.out.alloc (.cells #[.int .i64 mp, .int .u64 mi, .int .i64 u, .int .i64 r] 35))
    have HB3 := Lib.hid (Rw.src_blk (t := gT) (K := [(mp, mi, u, r)]) 1 hB3)
    clear hB3
    go_simp
    refine hK.out _ _ (KS.out _ K3.out) (fun hHeld => ?_)
    clear hK K
    try simp only [Act.put, List.setIfInBounds_toArray, List.set_cons_zero, List.set_cons_succ]
    dsimp only [List.toArray] at HB3
    generalize y2.alloc (.cells #[.int .i64 mp, .int .u64 mi, .int .i64 u, .int .i64 r] 35) = z3 at *
    generalize y2.heap.size = b3 at *
    refine wpAnyH_ready (rs := [15]) (by kernel_rfl) (by simp) ?_
    refine AllReadyH.cons (o := { dst := some 98, op := Go.Op.call { callee := Go.Callee.builtin Go.Builtin.append, args := #[Go.Operand.tmp 87, Go.Operand.tmp 97], argTypes := #[26, 26] }, type := 26, pos := "srpt.go:128", after := #[{ on := 4, ground := Go.Ground.data }, { on := 14, ground := Go.Ground.data }, { on := 12, ground := Go.Ground.chain }], guard := none }) rfl (fun K hK => ?_) AllReadyH.nil
    refine Rw.step_app gT (by rfl) (.tmp 87) (.tmp 97) (by rfl) wp.heap.size (by rfl) (RG.out _ K3.out) (by rfl) HB3.out SM.out (BS.out _ K3.out) ?_
    intro v4 z4 A4
    have HA4 := Lib.hid A4
    obtain ⟨n4, hn4⟩ : ∃ n, (got.map (tell l fst) ++ [(mp, mi, u, r)]).length = n := ⟨_, rfl⟩
    obtain ⟨av4, cv4, hv4, _, _⟩ := A4.row.slice
    rw [hn4] at hv4
    subst hv4
    clear A4 hn4
    refine hK.out _ _ (KA.out _ _ _ K3.out HA4.out) (fun hHeld => ?_)
    clear hK K
    try simp only [Act.put, List.setIfInBounds_toArray, List.set_cons_zero, List.set_cons_succ]
    refine wpAnyH_take (i := 16) (oi := { dst := some 99, op := Go.Op.nilCheck (Go.Operand.tmp 83), type := 0, pos := "srpt.go:128", after := #[{ on := 0, ground := Go.Ground.data }, { on := 0, ground := Go.Ground.phase }, { on := 1, ground := Go.Ground.phase }, { on := 2, ground := Go.Ground.phase }, { on := 3, ground := Go.Ground.phase }, { on := 4, ground := Go.Ground.phase }, { on := 5, ground := Go.Ground.phase }, { on := 6, ground := Go.Ground.phase }, { on := 7, ground := Go.Ground.phase }, { on := 8, ground := Go.Ground.phase }, { on := 9, ground := Go.Ground.phase }, { on := 10, ground := Go.Ground.phase }, { on := 11, ground := Go.Ground.phase }, { on := 12, ground := Go.Ground.phase }, { on := 13, ground := Go.Ground.phase }, { on := 14, ground := Go.Ground.phase }, { on := 15, ground := Go.Ground.phase }], guard := none }) (v := ?_) rfl (by kernel_rfl) (by kernel_rfl) (by kernel_rfl) (fun _ _ _ h => h) (Or.inl ⟨by rfl, ?_⟩) (by assumption) ?_
    rotate_left 1
    focus (intro w hSw; (try dsimp only at hSw); go_simp; try with_reducible rfl)
    try simp only [Act.put, List.setIfInBounds_toArray, List.set_cons_zero, List.set_cons_succ]
    refine wpAnyH_take (i := 17) (oi := { dst := some 100, op := Go.Op.fieldAddr 54 (Go.Operand.tmp 99) 4, type := 0, pos := "srpt.go:128", after := #[{ on := 16, ground := Go.Ground.data }, { on := 0, ground := Go.Ground.phase }, { on := 1, ground := Go.Ground.phase }, { on := 2, ground := Go.Ground.phase }, { on := 3, ground := Go.Ground.phase }, { on := 4, ground := Go.Ground.phase }, { on := 5, ground := Go.Ground.phase }, { on := 6, ground := Go.Ground.phase }, { on := 7, ground := Go.Ground.phase }, { on := 8, ground := Go.Ground.phase }, { on := 9, ground := Go.Ground.phase }, { on := 10, ground := Go.Ground.phase }, { on := 11, ground := Go.Ground.phase }, { on := 12, ground := Go.Ground.phase }, { on := 13, ground := Go.Ground.phase }, { on := 14, ground := Go.Ground.phase }, { on := 15, ground := Go.Ground.phase }], guard := none }) (v := ?_) rfl (by kernel_rfl) (by kernel_rfl) (by kernel_rfl) (fun _ _ _ h => h) (Or.inl ⟨by rfl, ?_⟩) (by assumption) ?_
    rotate_left 1
    focus (intro w hSw; (try dsimp only at hSw); go_simp; try with_reducible rfl)
    try simp only [Act.put, List.setIfInBounds_toArray, List.set_cons_zero, List.set_cons_succ]
    refine wpAnyH_ready (rs := [18]) (by kernel_rfl) (by simp) ?_
    refine AllReadyH.cons (o := { dst := none, op := Go.Op.store 26 (Go.Operand.tmp 100) (Go.Operand.tmp 98), type := 0, pos := "srpt.go:128", after := #[{ on := 17, ground := Go.Ground.data }, { on := 15, ground := Go.Ground.data }, { on := 15, ground := Go.Ground.chain }, { on := 0, ground := Go.Ground.phase }, { on := 1, ground := Go.Ground.phase }, { on := 2, ground := Go.Ground.phase }, { on := 3, ground := Go.Ground.phase }, { on := 4, ground := Go.Ground.phase }, { on := 5, ground := Go.Ground.phase }, { on := 6, ground := Go.Ground.phase }, { on := 7, ground := Go.Ground.phase }, { on := 8, ground := Go.Ground.phase }, { on := 9, ground := Go.Ground.phase }, { on := 10, ground := Go.Ground.phase }, { on := 11, ground := Go.Ground.phase }, { on := 12, ground := Go.Ground.phase }, { on := 13, ground := Go.Ground.phase }, { on := 14, ground := Go.Ground.phase }, { on := 15, ground := Go.Ground.phase }], guard := none }) rfl (fun K hK => ?_) AllReadyH.nil
    have t4 := (KB.out _ _ _ K3.out HA4.out).1
    have t5 := (KB.out _ _ _ K3.out HA4.out).2
    go_simp
    refine hK.out _ _ (KC.out _ _ _ _ K3.out HA4.out) (fun hHeld => ?_)
    clear hK K
    try simp only [Act.put, List.setIfInBounds_toArray, List.set_cons_zero, List.set_cons_succ]
    refine wpAnyH_done (by kernel_rfl) ?_ _
    go_wp2_with fail
    go_end0
    exact ⟨rfl, FIN.out _ _ _ K3.out HA4.out⟩
  · go_simp
    with_reducible refine Calls.mono (PR.out _ K0.out) ?_
    rintro e y6 ⟨rfl, k6⟩
    have K6 := Lib.hid (K0.out.trans k6)
    clear k6
    refine hK.out _ _ (KS.out _ K6.out) (fun hHeld => ?_)
    clear hK K
    try simp only [Act.put, List.setIfInBounds_toArray, List.set_cons_zero, List.set_cons_succ]
    refine wpAnyH_take (i := 13) (oi := { dst := some 96, op := Go.Op.build 35 #[(0, Go.Operand.tmp 89), (1, Go.Operand.tmp 91), (2, Go.Operand.tmp 92), (3, Go.Operand.tmp 95)], type := 35, pos := "srpt.go:128", after := #[{ on := 6, ground := Go.Ground.data }, { on := 8, ground := Go.Ground.data }, { on := 9, ground := Go.Ground.data }, { on := 12, ground := Go.Ground.data }], guard := none }) (v := ?_) rfl (by kernel_rfl) (by kernel_rfl) (by kernel_rfl) (fun _ _ _ h => h) (Or.inl ⟨by rfl, ?_⟩) (by assumption) ?_
    rotate_left 1
    focus (intro w hSw; (try dsimp only at hSw); go_simp; try with_reducible rfl)
    try simp only [Act.put, List.setIfInBounds_toArray, List.set_cons_zero, List.set_cons_succ]
    refine wpAnyH_ready (rs := [4, 14]) (by kernel_rfl) (by simp) ?_
    refine AllReadyH.cons (o := { dst := some 87, op := Go.Op.load 26 (Go.Operand.tmp 86), type := 26, pos := "srpt.go:128", after := #[{ on := 3, ground := Go.Ground.data }], guard := none }) rfl (fun K hK => ?_) (AllReadyH.cons (o := { dst := some 97, op := Go.Op.buildSlice 26 1 #[(0, Go.Operand.tmp 96)], type := 26, pos := "srpt.go:128", after := #[{ on := 13, ground := Go.Ground.data }], guard := none }) rfl (fun K hK => ?_) AllReadyH.nil)
    · have t4 := KG.out _ K6.out
      go_simp
      refine hK.out _ _ (KS.out _ K6.out) (fun hHeld => ?_)
      clear hK K
      try simp only [Act.put, List.setIfInBounds_toArray, List.set_cons_zero, List.set_cons_succ]
      clear t4
      refine wpAnyH_ready (rs := [14]) (by kernel_rfl) (by simp) ?_
      refine AllReadyH.cons (o := { dst := some 97, op := Go.Op.buildSlice 26 1 #[(0, Go.Operand.tmp 96)], type := 26, pos := "srpt.go:128", after := #[{ on := 13, ground := Go.Ground.data }], guard := none }) rfl (fun K hK => ?_) AllReadyH.nil
      have hB8 := Blk.new y6 [.int .i64 mp, .int .u64 mi, .int .i64 u, .int .i64 r] 35
      have K8 := Lib.hid (K6.out.alloc (.cells #[.int .i64 mp, .int .u64 mi, .int .i64 u, .int .i64 r] 35))
      have HB8 := Lib.hid (Rw.src_blk (t := gT) (K := [(mp, mi, u, r)]) 1 hB8)
      clear hB8
      go_simp
      refine hK.out _ _ (KS.out _ K8.out) (fun hHeld => ?_)
      clear hK K
      try simp only [Act.put, List.setIfInBounds_toArray, List.set_cons_zero, List.set_cons_succ]
      dsimp only [List.toArray] at HB8
      generalize y6.alloc (.cells #[.int .i64 mp, .int .u64 mi, .int .i64 u, .int .i64 r] 35) = z8 at *
      generalize y6.heap.size = b8 at *
      refine wpAnyH_ready (rs := [15]) (by kernel_rfl) (by simp) ?_
      refine AllReadyH.cons (o := { dst := some 98, op := Go.Op.call { callee := Go.Callee.builtin Go.Builtin.append, args := #[Go.Operand.tmp 87, Go.Operand.tmp 97], argTypes := #[26, 26] }, type := 26, pos := "srpt.go:128", after := #[{ on := 4, ground := Go.Ground.data }, { on := 14, ground := Go.Ground.data }, { on := 12, ground := Go.Ground.chain }], guard := none }) rfl (fun K hK => ?_) AllReadyH.nil
      refine Rw.step_app gT (by rfl) (.tmp 87) (.tmp 97) (by rfl) wp.heap.size (by rfl) (RG.out _ K8.out) (by rfl) HB8.out SM.out (BS.out _ K8.out) ?_
      intro v9 z9 A9
      have HA9 := Lib.hid A9
      obtain ⟨n9, hn9⟩ : ∃ n, (got.map (tell l fst) ++ [(mp, mi, u, r)]).length = n := ⟨_, rfl⟩
      obtain ⟨av9, cv9, hv9, _, _⟩ := A9.row.slice
      rw [hn9] at hv9
      subst hv9
      clear A9 hn9
      refine hK.out _ _ (KA.out _ _ _ K8.out HA9.out) (fun hHeld => ?_)
      clear hK K
      try simp only [Act.put, List.setIfInBounds_toArray, List.set_cons_zero, List.set_cons_succ]
      refine wpAnyH_take (i := 16) (oi := { dst := some 99, op := Go.Op.nilCheck (Go.Operand.tmp 83), type := 0, pos := "srpt.go:128", after := #[{ on := 0, ground := Go.Ground.data }, { on := 0, ground := Go.Ground.phase }, { on := 1, ground := Go.Ground.phase }, { on := 2, ground := Go.Ground.phase }, { on := 3, ground := Go.Ground.phase }, { on := 4, ground := Go.Ground.phase }, { on := 5, ground := Go.Ground.phase }, { on := 6, ground := Go.Ground.phase }, { on := 7, ground := Go.Ground.phase }, { on := 8, ground := Go.Ground.phase }, { on := 9, ground := Go.Ground.phase }, { on := 10, ground := Go.Ground.phase }, { on := 11, ground := Go.Ground.phase }, { on := 12, ground := Go.Ground.phase }, { on := 13, ground := Go.Ground.phase }, { on := 14, ground := Go.Ground.phase }, { on := 15, ground := Go.Ground.phase }], guard := none }) (v := ?_) rfl (by kernel_rfl) (by kernel_rfl) (by kernel_rfl) (fun _ _ _ h => h) (Or.inl ⟨by rfl, ?_⟩) (by assumption) ?_
      rotate_left 1
      focus (intro w hSw; (try dsimp only at hSw); go_simp; try with_reducible rfl)
      try simp only [Act.put, List.setIfInBounds_toArray, List.set_cons_zero, List.set_cons_succ]
      refine wpAnyH_take (i := 17) (oi := { dst := some 100, op := Go.Op.fieldAddr 54 (Go.Operand.tmp 99) 4, type := 0, pos := "srpt.go:128", after := #[{ on := 16, ground := Go.Ground.data }, { on := 0, ground := Go.Ground.phase }, { on := 1, ground := Go.Ground.phase }, { on := 2, ground := Go.Ground.phase }, { on := 3, ground := Go.Ground.phase }, { on := 4, ground := Go.Ground.phase }, { on := 5, ground := Go.Ground.phase }, { on := 6, ground := Go.Ground.phase }, { on := 7, ground := Go.Ground.phase }, { on := 8, ground := Go.Ground.phase }, { on := 9, ground := Go.Ground.phase }, { on := 10, ground := Go.Ground.phase }, { on := 11, ground := Go.Ground.phase }, { on := 12, ground := Go.Ground.phase }, { on := 13, ground := Go.Ground.phase }, { on := 14, ground := Go.Ground.phase }, { on := 15, ground := Go.Ground.phase }], guard := none }) (v := ?_) rfl (by kernel_rfl) (by kernel_rfl) (by kernel_rfl) (fun _ _ _ h => h) (Or.inl ⟨by rfl, ?_⟩) (by assumption) ?_
      rotate_left 1
      focus (intro w hSw; (try dsimp only at hSw); go_simp; try with_reducible rfl)
      try simp only [Act.put, List.setIfInBounds_toArray, List.set_cons_zero, List.set_cons_succ]
      refine wpAnyH_ready (rs := [18]) (by kernel_rfl) (by simp) ?_
      refine AllReadyH.cons (o := { dst := none, op := Go.Op.store 26 (Go.Operand.tmp 100) (Go.Operand.tmp 98), type := 0, pos := "srpt.go:128", after := #[{ on := 17, ground := Go.Ground.data }, { on := 15, ground := Go.Ground.data }, { on := 15, ground := Go.Ground.chain }, { on := 0, ground := Go.Ground.phase }, { on := 1, ground := Go.Ground.phase }, { on := 2, ground := Go.Ground.phase }, { on := 3, ground := Go.Ground.phase }, { on := 4, ground := Go.Ground.phase }, { on := 5, ground := Go.Ground.phase }, { on := 6, ground := Go.Ground.phase }, { on := 7, ground := Go.Ground.phase }, { on := 8, ground := Go.Ground.phase }, { on := 9, ground := Go.Ground.phase }, { on := 10, ground := Go.Ground.phase }, { on := 11, ground := Go.Ground.phase }, { on := 12, ground := Go.Ground.phase }, { on := 13, ground := Go.Ground.phase }, { on := 14, ground := Go.Ground.phase }, { on := 15, ground := Go.Ground.phase }], guard := none }) rfl (fun K hK => ?_) AllReadyH.nil
      have t4 := (KB.out _ _ _ K8.out HA9.out).1
      have t5 := (KB.out _ _ _ K8.out HA9.out).2
      go_simp
      refine hK.out _ _ (KC.out _ _ _ _ K8.out HA9.out) (fun hHeld => ?_)
      clear hK K
      try simp only [Act.put, List.setIfInBounds_toArray, List.set_cons_zero, List.set_cons_succ]
      refine wpAnyH_done (by kernel_rfl) ?_ _
      go_wp2_with fail
      go_end0
      exact ⟨rfl, FIN.out _ _ _ K8.out HA9.out⟩
    · have hB11 := Blk.new y6 [.int .i64 mp, .int .u64 mi, .int .i64 u, .int .i64 r] 35
      have K11 := Lib.hid (K6.out.alloc (.cells #[.int .i64 mp, .int .u64 mi, .int .i64 u, .int .i64 r] 35))
      have HB11 := Lib.hid (Rw.src_blk (t := gT) (K := [(mp, mi, u, r)]) 1 hB11)
      clear hB11
      go_simp
      refine hK.out _ _ (KS.out _ K11.out) (fun hHeld => ?_)
      clear hK K
      try simp only [Act.put, List.setIfInBounds_toArray, List.set_cons_zero, List.set_cons_succ]
      dsimp only [List.toArray] at HB11
      generalize y6.alloc (.cells #[.int .i64 mp, .int .u64 mi, .int .i64 u, .int .i64 r] 35) = z11 at *
      generalize y6.heap.size = b11 at *
      refine wpAnyH_ready (rs := [4]) (by kernel_rfl) (by simp) ?_
      refine AllReadyH.cons (o := { dst := some 87, op := Go.Op.load 26 (Go.Operand.tmp 86), type := 26, pos := "srpt.go:128", after := #[{ on := 3, ground := Go.Ground.data }], guard := none }) rfl (fun K hK => ?_) AllReadyH.nil
      have t4 := KG.out _ K11.out
      go_simp
      refine hK.out _ _ (KS.out _ K11.out) (fun hHeld => ?_)
      clear hK K
      try simp only [Act.put, List.setIfInBounds_toArray, List.set_cons_zero, List.set_cons_succ]
      clear t4
      refine wpAnyH_ready (rs := [15]) (by kernel_rfl) (by simp) ?_
      refine AllReadyH.cons (o := { dst := some 98, op := Go.Op.call { callee := Go.Callee.builtin Go.Builtin.append, args := #[Go.Operand.tmp 87, Go.Operand.tmp 97], argTypes := #[26, 26] }, type := 26, pos := "srpt.go:128", after := #[{ on := 4, ground := Go.Ground.data }, { on := 14, ground := Go.Ground.data }, { on := 12, ground := Go.Ground.chain }], guard := none }) rfl (fun K hK => ?_) AllReadyH.nil
      refine Rw.step_app gT (by rfl) (.tmp 87) (.tmp 97) (by rfl) wp.heap.size (by rfl) (RG.out _ K11.out) (by rfl) HB11.out SM.out (BS.out _ K11.out) ?_
      intro v13 z13 A13
      have HA13 := Lib.hid A13
      obtain ⟨n13, hn13⟩ : ∃ n, (got.map (tell l fst) ++ [(mp, mi, u, r)]).length = n := ⟨_, rfl⟩
      obtain ⟨av13, cv13, hv13, _, _⟩ := A13.row.slice
      rw [hn13] at hv13
      subst hv13
      clear A13 hn13
      refine hK.out _ _ (KA.out _ _ _ K11.out HA13.out) (fun hHeld => ?_)
      clear hK K
      try simp only [Act.put, List.setIfInBounds_toArray, List.set_cons_zero, List.set_cons_succ]
      refine wpAnyH_take (i := 16) (oi := { dst := some 99, op := Go.Op.nilCheck (Go.Operand.tmp 83), type := 0, pos := "srpt.go:128", after := #[{ on := 0, ground := Go.Ground.data }, { on := 0, ground := Go.Ground.phase }, { on := 1, ground := Go.Ground.phase }, { on := 2, ground := Go.Ground.phase }, { on := 3, ground := Go.Ground.phase }, { on := 4, ground := Go.Ground.phase }, { on := 5, ground := Go.Ground.phase }, { on := 6, ground := Go.Ground.phase }, { on := 7, ground := Go.Ground.phase }, { on := 8, ground := Go.Ground.phase }, { on := 9, ground := Go.Ground.phase }, { on := 10, ground := Go.Ground.phase }, { on := 11, ground := Go.Ground.phase }, { on := 12, ground := Go.Ground.phase }, { on := 13, ground := Go.Ground.phase }, { on := 14, ground := Go.Ground.phase }, { on := 15, ground := Go.Ground.phase }], guard := none }) (v := ?_) rfl (by kernel_rfl) (by kernel_rfl) (by kernel_rfl) (fun _ _ _ h => h) (Or.inl ⟨by rfl, ?_⟩) (by assumption) ?_
      rotate_left 1
      focus (intro w hSw; (try dsimp only at hSw); go_simp; try with_reducible rfl)
      try simp only [Act.put, List.setIfInBounds_toArray, List.set_cons_zero, List.set_cons_succ]
      refine wpAnyH_take (i := 17) (oi := { dst := some 100, op := Go.Op.fieldAddr 54 (Go.Operand.tmp 99) 4, type := 0, pos := "srpt.go:128", after := #[{ on := 16, ground := Go.Ground.data }, { on := 0, ground := Go.Ground.phase }, { on := 1, ground := Go.Ground.phase }, { on := 2, ground := Go.Ground.phase }, { on := 3, ground := Go.Ground.phase }, { on := 4, ground := Go.Ground.phase }, { on := 5, ground := Go.Ground.phase }, { on := 6, ground := Go.Ground.phase }, { on := 7, ground := Go.Ground.phase }, { on := 8, ground := Go.Ground.phase }, { on := 9, ground := Go.Ground.phase }, { on := 10, ground := Go.Ground.phase }, { on := 11, ground := Go.Ground.phase }, { on := 12, ground := Go.Ground.phase }, { on := 13, ground := Go.Ground.phase }, { on := 14, ground := Go.Ground.phase }, { on := 15, ground := Go.Ground.phase }], guard := none }) (v := ?_) rfl (by kernel_rfl) (by kernel_rfl) (by kernel_rfl) (fun _ _ _ h => h) (Or.inl ⟨by rfl, ?_⟩) (by assumption) ?_
      rotate_left 1
      focus (intro w hSw; (try dsimp only at hSw); go_simp; try with_reducible rfl)
      try simp only [Act.put, List.setIfInBounds_toArray, List.set_cons_zero, List.set_cons_succ]
      refine wpAnyH_ready (rs := [18]) (by kernel_rfl) (by simp) ?_
      refine AllReadyH.cons (o := { dst := none, op := Go.Op.store 26 (Go.Operand.tmp 100) (Go.Operand.tmp 98), type := 0, pos := "srpt.go:128", after := #[{ on := 17, ground := Go.Ground.data }, { on := 15, ground := Go.Ground.data }, { on := 15, ground := Go.Ground.chain }, { on := 0, ground := Go.Ground.phase }, { on := 1, ground := Go.Ground.phase }, { on := 2, ground := Go.Ground.phase }, { on := 3, ground := Go.Ground.phase }, { on := 4, ground := Go.Ground.phase }, { on := 5, ground := Go.Ground.phase }, { on := 6, ground := Go.Ground.phase }, { on := 7, ground := Go.Ground.phase }, { on := 8, ground := Go.Ground.phase }, { on := 9, ground := Go.Ground.phase }, { on := 10, ground := Go.Ground.phase }, { on := 11, ground := Go.Ground.phase }, { on := 12, ground := Go.Ground.phase }, { on := 13, ground := Go.Ground.phase }, { on := 14, ground := Go.Ground.phase }, { on := 15, ground := Go.Ground.phase }], guard := none }) rfl (fun K hK => ?_) AllReadyH.nil
      have t4 := (KB.out _ _ _ K11.out HA13.out).1
      have t5 := (KB.out _ _ _ K11.out HA13.out).2
      go_simp
      refine hK.out _ _ (KC.out _ _ _ _ K11.out HA13.out) (fun hHeld => ?_)
      clear hK K
      try simp only [Act.put, List.setIfInBounds_toArray, List.set_cons_zero, List.set_cons_succ]
      refine wpAnyH_done (by kernel_rfl) ?_ _
      go_wp2_with fail
      go_end0
      exact ⟨rfl, FIN.out _ _ _ K11.out HA13.out⟩
end Go.Proofs.Ytbohigfhbjconaa.Sr
