/- A meter: how it lies; New, made, Len, Add. Conditions: each theorem's own. -/
import Derived.Test.YtkggnbibjcogeaaCoSort
import Derived.Test.YtkggnbibjcogeaaCoNum
import Derived.Test.YtkggnbibjcogeaaMinMax
import Derived.LoopTactic
import Derived.Deep.LoopGhost
import Derived.Deep.RegionLaw
import Derived.Deep.CutBlock
import Derived.Deep.RegionWith
import Derived.Deep.DeepCutAuto
import Derived.Deep.DrawnRows
set_option linter.unusedVariables false
namespace Go.Proofs.Ytkggnbibjcogeaa.Co
open Go.RowKit Hp CoM CoS NumM NumC
attribute [local go_sem ↓] Go.wp_at_zero Go.wp_at_succ
theorem cl_is (x : Int) : clampI x 0 1073741824 = cl x := by unfold clampI cl; rfl
/-- A meter: how it lies. -/
structure MtV (w : World) (b L M : Nat) (l : List Int) (v : Value) : Prop where
  ex : ∃ zs f, Blk w b [.int .i64 (L : Nat), .int .i64 (M : Nat), v, .int .i64 (f : Nat)] 70 ∧ Ro.Row nT w v zs ∧ Ring M zs f l
  off : v.ownBlock ≠ some b
  l0 : 1 ≤ L
  l1 : L ≤ 8
  m0 : 1 ≤ M
  m1 : M ≤ 1000
  bd : ∀ y ∈ l, 0 ≤ y ∧ y ≤ 1073741824
theorem MtV.kept {w w' : World} {F : Nat → Prop} {b L M : Nat} {l : List Int} {v : Value} (h : MtV w b L M l v) (k : Kept F w w') (hb : ¬ F b) (hv : ∀ g, v.ownBlock = some g → ¬ F g) : MtV w' b L M l v := by
  obtain ⟨zs, f, h1, h2, h3⟩ := h.ex
  exact ⟨⟨zs, f, k.blk h1 hb, h2.kept k hv, h3⟩, h.off, h.l0, h.l1, h.m0, h.m1, h.bd⟩
theorem MtV.old {w w' : World} {b L M : Nat} {l : List Int} {v : Value} (h : MtV w b L M l v) (k : Kept (fun _ => False) w w') : MtV w' b L M l v := h.kept k (fun f => f) (fun _ _ f => f)
theorem new_yes {L M : Nat} (h0 : 1 ≤ L) (h1 : L ≤ 8) (h2 : 1 ≤ M) (h3 : M ≤ 1000) (w : World) : Calls Try.prog 8 #[.int .i64 (L : Nat), .int .i64 (M : Nat)] w fun e w' => ∃ b, e = .returned (.tuple #[.pointer (some ⟨b, 0, none⟩), .int .i64 0]) ∧ MtV w' b L M [] (.slice none 0 0) ∧ Kept (fun _ => False) w w' ∧ w.heap.size ≤ b := by
  have g1 : decide ((L : Int) < 1) = false := by rw [decide_eq_false_iff_not]; omega
  have g2 : decide ((8 : Int) < (L : Int)) = false := by rw [decide_eq_false_iff_not]; omega
  have g3 : decide ((M : Int) < 1) = false := by rw [decide_eq_false_iff_not]; omega
  have g4 : decide ((1000 : Int) < (M : Int)) = false := by rw [decide_eq_false_iff_not]; omega
  go_enter Try.func8, Try.ntmps8
  go_wp2_with fail
  go_ret2
  exact ⟨_, rfl, ⟨⟨[], 0, Blk.new w [.int .i64 (L : Nat), .int .i64 (M : Nat), .slice none 0 0, .int .i64 0] 70, Or.inl ⟨rfl, rfl⟩, Ring.nil h2⟩, (fun h => by cases h), h0, h1, h2, h3, (fun y hy => by cases hy)⟩, (Kept.refl _ w).alloc _, Nat.le_refl _⟩
theorem new_no {L M : Int} (h : ¬ (1 ≤ L ∧ L ≤ 8 ∧ 1 ≤ M ∧ M ≤ 1000)) (w : World) : Calls Try.prog 8 #[.int .i64 L, .int .i64 M] w fun e w' => e = .returned (.tuple #[.pointer none, .int .i64 1]) ∧ w = w' := by
  have hc : L < 1 ∨ (decide (L < 1) = false ∧ 8 < L) ∨ (decide (L < 1) = false ∧ decide (8 < L) = false ∧ M < 1) ∨ (decide (L < 1) = false ∧ decide (8 < L) = false ∧ decide (M < 1) = false ∧ 1000 < M) := by
    simp only [decide_eq_false_iff_not]; omega
  clear h
  rcases hc with h1 | ⟨h1, h2⟩ | ⟨h1, h2, h3⟩ | ⟨h1, h2, h3, h4⟩
  all_goals
    go_enter Try.func8, Try.ntmps8
    go_wp2_with fail
    go_ret2
    exact ⟨rfl, rfl⟩
theorem made_yes {w : World} {b L M : Nat} {l : List Int} {v : Value} (h : MtV w b L M l v) : Calls Try.prog 32 #[.pointer (some ⟨b, 0, none⟩)] w fun e w' => e = .returned (.bool true) ∧ w = w' := by
  obtain ⟨zs, f, h1, h2, h3⟩ := h.ex
  have c0 := h1.cell (o := 0) rfl
  have g1 : 0 < L := h.l0
  clear h h1 h2 h3
  go_enter Try.func32, Try.ntmps32
  go_wp2_with fail
  go_ret
  exact ⟨rfl, rfl⟩
theorem made_nil (w : World) : Calls Try.prog 32 #[.pointer none] w fun e w' => e = .returned (.bool false) ∧ w = w' := by
  go_enter Try.func32, Try.ntmps32
  go_wp2_with fail
  go_ret
  exact ⟨rfl, rfl⟩
theorem len_any {w : World} {b L M : Nat} {l : List Int} {v : Value} (h : MtV w b L M l v) : Calls Try.prog 16 #[.pointer (some ⟨b, 0, none⟩)] w fun e w' => e = .returned (.int .i64 (l.length : Nat)) ∧ w = w' := by
  have MD := Lib.hid (made_yes h)
  obtain ⟨zs, f, h1, h2, h3⟩ := h.ex
  have c2 := h1.cell (o := 2) rfl
  rw [h3.len]
  obtain ⟨a, c, rfl, _, _⟩ := h2.slice
  clear h h1 h2 h3
  generalize zs.length = n at *
  go_enter Try.func16, Try.ntmps16
  go_wp2_with fail
  with_reducible refine Calls.mono MD.out ?_
  rintro e w' ⟨rfl, rfl⟩
  go_wp2_with fail
  go_ret
  exact ⟨rfl, rfl⟩
theorem len_nil (w : World) : Calls Try.prog 16 #[.pointer none] w fun e w' => e = .returned (.int .i64 0) ∧ w = w' := by
  have MD := Lib.hid (made_nil w)
  go_enter Try.func16, Try.ntmps16
  go_wp2_with fail
  with_reducible refine Calls.mono MD.out ?_
  rintro e w' ⟨rfl, rfl⟩
  go_wp2_with fail
  go_ret
  exact ⟨rfl, rfl⟩
theorem add_nil (x : Int) (w : World) : Calls Try.prog 9 #[.pointer none, .int .i64 x] w fun e w' => e = .returned (.tuple #[]) ∧ w = w' := by
  have MD := Lib.hid (made_nil w)
  go_enter Try.func9, Try.ntmps9
  go_wp2_with fail
  with_reducible refine Calls.mono MD.out ?_
  rintro e w' ⟨rfl, rfl⟩
  go_wp2_with fail
  refine bodyPost_ret (results_none rfl _ _ _) rfl ?_
  exact ⟨rfl, rfl⟩
theorem src_one {w : World} {g : Nat} {x : Int} {cap : Nat} (h : Blk w g [.int .i64 x] 3) : Rw.Src nT w (.slice (some ⟨g, 0, none⟩) 1 cap) [x] := Rw.src_blk (t := nT) (K := [x]) cap h
/-- What adding leaves of all else. -/
def Nx (b : Nat) (v : Value) (w : World) (v' : Value) (w' : World) : Prop := Kept (fun k => k = b ∨ v.ownBlock = some k) w w' ∧ ∀ g, v'.ownBlock = some g → v.ownBlock = some g ∨ (w.heap.size ≤ g ∧ g < w'.heap.size)
set_option maxHeartbeats 4000000 in
theorem add_room {w : World} {b L M : Nat} {l : List Int} {v : Value} (h : MtV w b L M l v) (x : Int) (hr : l.length < M) :
    Calls Try.prog 9 #[.pointer (some ⟨b, 0, none⟩), .int .i64 x] w fun e w' => e = .returned (.tuple #[]) ∧ ∃ v', MtV w' b L M (keep M l (cl x)) v' ∧ Nx b v w v' w' := by
  have MD := Lib.hid (made_yes h)
  have CL := Lib.hid (clampInt_any x 0 1073741824 w)
  rw [cl_is] at CL
  have H := Lib.hid h
  have ho := h.off
  obtain ⟨zs, f, h1, h2, h3⟩ := h.ex
  have c1 := h1.cell (o := 1) rfl
  have c2 := h1.cell (o := 2) rfl
  have hz : zs.length < M := by rw [← h3.len]; exact hr
  have hm1 : M ≤ 1000 := h.m1
  obtain ⟨a, c, rfl, hc1, hc2⟩ := h2.slice
  unfold maxLen at hc2
  have HB := Lib.hid h1
  have HR := Lib.hid h2
  have HG := Lib.hid h3
  have HO := Lib.hid ho
  obtain ⟨n, hn⟩ : ∃ n, zs.length = n := ⟨_, rfl⟩
  have HN := Lib.hid hn
  rw [hn] at c2 hz hc1 HB HR HO ⊢
  clear h h1 h2 h3 ho hr hn
  have hz2 : (n : Int) < (M : Int) := by omega
  generalize hcx : cl x = y at *
  go_enter Try.func9, Try.ntmps9
  go_wp2_with fail
  with_reducible refine Calls.mono MD.out ?_
  rintro e w' ⟨rfl, rfl⟩
  go_wp2_with fail
  with_reducible refine Calls.mono CL.out ?_
  rintro e w' ⟨rfl, rfl⟩
  go_wp2_with fail
  go_quiet (fail)
  have HB2 := Lib.hid (HB.out.drewN nq)
  have HR2 : Hid (Ro.Row nT (w.drewN nq) (.slice a n c) zs) := Lib.hid (HR.out.kept ((Kept.refl (fun _ => False) w).drewN nq) (fun _ _ f => f))
  have HK2 : Hid (Kept (fun _ => False) w (w.drewN nq)) := Lib.hid ((Kept.refl _ w).drewN nq)
  clear c1 c2 HB HR
  generalize w.drewN nq = w2 at *
  have hB3 := HB2.out.old (.cells #[.int .i64 y] 3)
  have hR3 := HR2.out.old ((Kept.refl (fun _ => False) w2).alloc (.cells #[.int .i64 y] 3))
  have hS3 := src_one (cap := 1) (Blk.new w2 [.int .i64 y] 3)
  have c2 := HB2.out.cell (o := 2) rfl
  have HB3 := Lib.hid hB3
  have HR3 := Lib.hid hR3
  have HS3 := Lib.hid hS3
  have hs : zs.length + [y].length ≤ 1000000 := by rw [HN.out]; simp; omega
  have HS := Lib.hid hs
  clear hB3 hR3 hS3 hs
  go_wp2_with (at_builtin; refine Ro.wpList_app nT rfl _ _ rfl (v := .slice a n c) rfl HR3.out rfl HS3.out HS.out ?_; intro v' w3 hA; obtain ⟨m, hm⟩ : ∃ m, (zs ++ [y]).length = m := ⟨_, rfl⟩; obtain ⟨a2, k2, hv2, hk2, hk3⟩ := hA.row.slice; rw [hm] at hv2; subst hv2; clear hm; have hB4 := hA.kept.blk HB3.out (fun e => HO.out e); have c2 := hB4.cell (o := 2) rfl; have f2 := hB4.frozen 2; have b2 := hB4.lt; have HB4 := Lib.hid hB4; have HA := Lib.hid hA; clear hA hB4)
  have hk : Kept (fun k => k = b ∨ (Value.slice a n c).ownBlock = some k) w (w3.setCell ⟨b, 2, none⟩ (.slice a2 m k2)) := Kept.set (F := fun k => k = b ∨ (Value.slice a n c).ownBlock = some k) (((HK2.out.alloc _).mono (fun _ _ f => f.elim)).trans' HA.out.kept (fun i hi e => Or.inr e)) (b := b) (fun _ => Or.inl rfl) 2 _
  refine bodyPost_ret (results_none rfl _ _ _) rfl ?_
  refine ⟨rfl, .slice a2 m k2, ⟨⟨zs ++ [y], f, HB4.out.set 2 _, ?_, ?_⟩, ?_, H.out.l0, H.out.l1, H.out.m0, H.out.m1, ?_⟩, hk, ?_⟩
  · refine HA.out.row.kept ((Kept.refl (fun k => k = b) w3).set (b := b) (fun _ => rfl) 2 _) (fun g hg e => ?_)
    subst e
    rcases HA.out.lies _ hg with h | h
    · exact HO.out h
    · have := HB3.out.lt; omega
  · exact HG.out.more (by rw [HN.out]; exact hz) y
  · intro hg
    rcases HA.out.lies _ hg with h | h
    · exact HO.out h
    · have := HB3.out.lt; omega
  · exact keep_all H.out.bd (by rw [← hcx]; exact cl_bd x)
  · intro g hg
    rcases HA.out.lies _ hg with h | h
    · exact Or.inl h
    · have h1 := HA.out.row.lt g hg
      have h2 := HK2.out.size
      right
      simp at h h1 ⊢
      omega
theorem lies_set {w : World} {g o cap : Nat} {cur : List Value} {zs : List Int} (h : Ro.Lies nT w g o cap cur zs) {f : Nat} (hf : f < zs.length) (y : Int) : Ro.Lies nT (w.setCell ⟨g, o + f, none⟩ (.int .i64 y)) g o cap (cur.set (o + f) (.int .i64 y)) (zs.set f y) := by
  refine ⟨h.blk.set _ _, by rw [List.length_set]; exact h.le, h.most, by rw [List.length_set]; exact h.fit, ?_⟩
  have hh := h.head
  rw [flat_n] at hh ⊢
  rw [List.length_set, List.drop_set, if_neg (by omega), Nat.add_sub_cancel_left, List.take_set, hh]
  exact (List.map_set ..).symm
set_option maxHeartbeats 4000000 in
theorem add_full {w : World} {b L M : Nat} {l : List Int} {v : Value} (h : MtV w b L M l v) (x : Int) (hr : ¬ l.length < M) :
    Calls Try.prog 9 #[.pointer (some ⟨b, 0, none⟩), .int .i64 x] w fun e w' => e = .returned (.tuple #[]) ∧ ∃ v', MtV w' b L M (keep M l (cl x)) v' ∧ Nx b v w v' w' := by
  have MD := Lib.hid (made_yes h)
  have CL := Lib.hid (clampInt_any x 0 1073741824 w)
  rw [cl_is] at CL
  have H := Lib.hid h
  have ho := h.off
  have hm0 := h.m0
  have hm1 : M ≤ 1000 := h.m1
  obtain ⟨zs, f, h1, h2, h3⟩ := h.ex
  have hz : zs.length = M := by have := h3.le; rw [h3.len] at hr; omega
  have hf : f < M := h3.in1
  rcases h2 with ⟨rfl, rfl⟩ | ⟨g, o, cap, cur, rfl, h2⟩
  · simp at hz; omega
  have c1 := h1.cell (o := 1) rfl
  have c2 := h1.cell (o := 2) rfl
  have c3 := h1.cell (o := 3) rfl
  have f3 := h1.frozen 3
  have fg := h2.blk.frozen (o + f)
  have hgl := h2.blk.lt
  have hbl := h1.lt
  have hgb : ¬ g = b := fun e => ho (by rw [e]; rfl)
  obtain ⟨x0, hx0⟩ : ∃ x0, w.cell? ⟨g, o + f, none⟩ = some (.int .i64 x0) := by
    have := h2.cell (List.getElem?_eq_getElem (by omega : f < zs.length)) (j := 0) (u := .int .i64 (zs[f]'(by omega))) rfl
    rw [Nat.add_zero, Nat.mul_one] at this
    exact ⟨_, this⟩
  have HB := Lib.hid h1
  have HR := Lib.hid h2
  have HG := Lib.hid h3
  have HN := Lib.hid hz
  have hle := h2.le
  rw [hz] at c2 hle
  have HO := Lib.hid ho
  clear h h1 h2 h3 ho hr hz
  have hz2 : decide ((M : Int) < (M : Int)) = false := by rw [decide_eq_false_iff_not]; omega
  generalize hcx : cl x = y at *
  go_enter Try.func9, Try.ntmps9
  go_wp2_with fail
  with_reducible refine Calls.mono MD.out ?_
  rintro e w' ⟨rfl, rfl⟩
  go_wp2_with fail
  with_reducible refine Calls.mono CL.out ?_
  rintro e w' ⟨rfl, rfl⟩
  go_wp2_with fail
  go_quiet (fail)
  have HB2 := Lib.hid (HB.out.drewN nq)
  have HR2 : Hid (Ro.Lies nT (w.drewN nq) g o cap cur zs) := Lib.hid (HR.out.kept ((Kept.refl (fun _ => False) w).drewN nq) (fun f => f))
  have HK2 : Hid (Kept (fun _ => False) w (w.drewN nq)) := Lib.hid ((Kept.refl _ w).drewN nq)
  have d1 : (w.drewN nq).cell? ⟨b, 1, none⟩ = some (.int .i64 (M : Nat)) := c1
  have d2 : (w.drewN nq).cell? ⟨b, 2, none⟩ = some (.slice (some ⟨g, o, none⟩) M cap) := c2
  have d3 : (w.drewN nq).cell? ⟨b, 3, none⟩ = some (.int .i64 (f : Nat)) := c3
  have e3 : (w.drewN nq).frozen? ⟨b, 3, none⟩ = false := f3
  have eg : (w.drewN nq).frozen? ⟨g, o + f, none⟩ = false := fg
  have dx : (w.drewN nq).cell? ⟨g, o + f, none⟩ = some (.int .i64 x0) := hx0
  have hgl2 : g < (w.drewN nq).heap.size := hgl
  have hbl2 : b < (w.drewN nq).heap.size := hbl
  clear c1 c2 c3 f3 fg hx0 HB HR hgl hbl
  generalize w.drewN nq = w2 at *
  go_wp2_with fail
  go_region_with (fail)
  all_goals
    have HB3 := Lib.hid (HB2.out.far hgb (o + f) (.int .i64 y)).drew
    have HR3 : Hid (Ro.Lies nT (w2.setCell ⟨g, o + f, none⟩ (.int .i64 y)).drew g o cap (cur.set (o + f) (.int .i64 y)) (zs.set f y)) := Lib.hid (lies_set HR2.out (by rw [HN.out]; exact hf) y).drew
    have HK3 : Hid (Kept (fun k => k = b ∨ g = k) w (w2.setCell ⟨g, o + f, none⟩ (.int .i64 y)).drew) := Lib.hid (Kept.set (F := fun k => k = b ∨ g = k) (HK2.out.mono (fun _ _ f => f.elim)) (b := g) (fun _ => Or.inr rfl) _ _).drew
    clear d1 d2 d3 e3 eg dx hgl2 hbl2 HB2 HR2 HK2
    generalize (w2.setCell ⟨g, o + f, none⟩ (.int .i64 y)).drew = w3 at *
    have d1 := HB3.out.cell (o := 1) rfl
    have d3 := HB3.out.cell (o := 3) rfl
    have e3 := HB3.out.frozen 3
    have hbl3 := HB3.out.lt
    have hM : ((M : Int) == 0) = false := by rw [beq_eq_false_iff_ne]; omega
    have hM2 : ¬ (M : Int) = 0 := by omega
    have hq : ((f : Int) + 1) % (M : Int) = (((f + 1) % M : Nat) : Int) := by
      rw [Int.natCast_emod]; rfl
    have hqm : (f + 1) % M ≤ 1000 := by have := Nat.mod_lt (f + 1) (show 0 < M by omega); omega
    have HT := Lib.hid (HG.out.turn (by rw [HN.out]; omega) y)
    generalize (f + 1) % M = q at *
    go_wp2_with fail
    go_region_with (fail)
  all_goals
    try rw [hq]
    have hB4 := (HB3.out.set 3 (.int .i64 (q : Nat))).drew
    have hR4 : Ro.Row nT (w3.setCell ⟨b, 3, none⟩ (.int .i64 (q : Nat))).drew (.slice (some ⟨g, o, none⟩) (zs.set f y).length cap) (zs.set f y) := (HR3.out.kept ((Kept.one w3 b 3 (.int .i64 (q : Nat))).drew) (fun e => hgb e)).row
    have hK4 : Kept (fun k => k = b ∨ g = k) w (w3.setCell ⟨b, 3, none⟩ (.int .i64 (q : Nat))).drew := (Kept.set (F := fun k => k = b ∨ g = k) HK3.out (b := b) (fun _ => Or.inl rfl) 3 (.int .i64 (q : Nat))).drew
    rw [List.length_set] at hR4
    go_end0
    refine ⟨rfl, .slice (some ⟨g, o, none⟩) zs.length cap, ⟨⟨zs.set f y, q, hB4, hR4, HT.out⟩, HO.out, H.out.l0, H.out.l1, H.out.m0, H.out.m1, ?_⟩, ⟨hK4.mono (fun i _ e => e.elim Or.inl (fun e => Or.inr (by rw [e]; rfl))), fun i e => Or.inl e⟩⟩
    exact keep_all H.out.bd (by rw [← hcx]; exact cl_bd x)
theorem add_any {w : World} {b L M : Nat} {l : List Int} {v : Value} (h : MtV w b L M l v) (x : Int) :
    Calls Try.prog 9 #[.pointer (some ⟨b, 0, none⟩), .int .i64 x] w fun e w' => e = .returned (.tuple #[]) ∧ ∃ v', MtV w' b L M (keep M l (cl x)) v' ∧ Nx b v w v' w' := by
  by_cases hr : l.length < M
  · exact add_room h x hr
  · exact add_full h x hr
end Go.Proofs.Ytkggnbibjcogeaa.Co
