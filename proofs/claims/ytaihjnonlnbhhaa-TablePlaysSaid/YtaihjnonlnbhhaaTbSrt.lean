/- Keys in memory; their order; sorted by the library. Conditions: each theorem's own. -/
import Derived.Test.YtaihjnonlnbhhaaTb
import Derived.Test.YtaihjnonlnbhhaaTbRw
import Derived.Shelf.SlSortCmp.WholeK
set_option linter.unusedVariables false
namespace Go.Proofs.Ytaihjnonlnbhhaa.TbK
open Go.RowKit Hp TbM TbN
attribute [local go_sem ↓] Go.wp_at_zero Go.wp_at_succ
def sortKeys_ren : Go.Shelf.Ren := ⟨fun | 6 => 51 | 15 => 66 | 14 => 65 | 28 => 84 | 29 => 85 | 20 => 76 | 21 => 77 | 22 => 78 | 23 => 79 | 24 => 80 | 25 => 81 | 26 => 82 | 27 => 83 | 46 => 91 | 47 => 92 | 48 => 93 | 49 => 94 | 50 => 95 | 57 => 96 | n => n, fun | 22 => 71 | 24 => 62 | 25 => 97 | 3 => 3 | 39 => 113 | 0 => 0 | 53 => 126 | 55 => 30 | 4 => 4 | 46 => 120 | 45 => 119 | 50 => 63 | 5 => 5 | 9 => 9 | 66 => 129 | 70 => 132 | 76 => 134 | 77 => 135 | n => n, fun | n => n⟩
theorem sortKeys : Go.Proofs.SlLaysF0.n6 Try.prog sortKeys_ren := {
  mixed := by kernel_rfl
  f6 := ⟨Try.f51.name, by decide, Try.func51.trans (congrArg some (by kernel_rfl))⟩
  f14 := ⟨Try.f65.name, by decide, Try.func65.trans (congrArg some (by kernel_rfl))⟩
  f15 := Try.func66.trans (congrArg some (by kernel_rfl))
  f20 := ⟨Try.f76.name, by decide, Try.func76.trans (congrArg some (by kernel_rfl))⟩
  f21 := ⟨Try.f77.name, by decide, Try.func77.trans (congrArg some (by kernel_rfl))⟩
  f22 := ⟨Try.f78.name, by decide, Try.func78.trans (congrArg some (by kernel_rfl))⟩
  f23 := ⟨Try.f79.name, by decide, Try.func79.trans (congrArg some (by kernel_rfl))⟩
  f24 := ⟨Try.f80.name, by decide, Try.func80.trans (congrArg some (by kernel_rfl))⟩
  f25 := ⟨Try.f81.name, by decide, Try.func81.trans (congrArg some (by kernel_rfl))⟩
  f26 := ⟨Try.f82.name, by decide, Try.func82.trans (congrArg some (by kernel_rfl))⟩
  f27 := ⟨Try.f83.name, by decide, Try.func83.trans (congrArg some (by kernel_rfl))⟩
  f28 := Try.func84.trans (congrArg some (by kernel_rfl))
  f29 := Try.func85.trans (congrArg some (by kernel_rfl))
  f46 := ⟨Try.f91.name, by decide, Try.func91.trans (congrArg some (by kernel_rfl))⟩
  f47 := Try.func92.trans (congrArg some (by kernel_rfl))
  f48 := Try.func93.trans (congrArg some (by kernel_rfl))
  f49 := ⟨Try.f94.name, by decide, Try.func94.trans (congrArg some (by kernel_rfl))⟩
  f50 := ⟨Try.f95.name, by decide, Try.func95.trans (congrArg some (by kernel_rfl))⟩
  f57 := ⟨Try.f96.name, by decide, Try.func96.trans (congrArg some (by kernel_rfl))⟩
  t0 := Try.underlying0
  a0 := Try.isAgg0
  z0 := Try.sizeOf0
  v0 := Try.zeroValue0
  t3 := Try.underlying3
  a3 := Try.isAgg3
  z3 := Try.sizeOf3
  v3 := Try.zeroValue3
  t4 := Try.underlying4
  a4 := Try.isAgg4
  z4 := Try.sizeOf4
  v4 := Try.zeroValue4
  t5 := Try.underlying5
  a5 := Try.isAgg5
  z5 := Try.sizeOf5
  v5 := Try.zeroValue5
  t9 := Try.underlying9
  a9 := Try.isAgg9
  z9 := Try.sizeOf9
  v9 := Try.zeroValue9
  t22 := Try.underlying71
  a22 := Try.isAgg71
  z22 := Try.sizeOf71
  v22 := Try.zeroValue71
  t25 := Try.underlying97
  a25 := Try.isAgg97
  z25 := Try.sizeOf97
  v25 := Try.zeroValue97
  t39 := Try.underlying113
  a39 := Try.isAgg113
  z39 := Try.sizeOf113
  v39 := Try.zeroValue113
  t45 := Try.underlying119
  a45 := Try.isAgg119
  z45 := Try.sizeOf119
  v45 := Try.zeroValue119
  t46 := Try.underlying120
  a46 := Try.isAgg120
  z46 := Try.sizeOf120
  v46 := Try.zeroValue120
  t50 := Try.underlying63
  a50 := Try.isAgg63
  z50 := Try.sizeOf63
  v50 := Try.zeroValue63
  t53 := Try.underlying126
  a53 := Try.isAgg126
  z53 := Try.sizeOf126
  v53 := Try.zeroValue126
  t55 := Try.underlying30
  a55 := Try.isAgg30
  z55 := Try.sizeOf30
  v55 := Try.zeroValue30
  t66 := Try.underlying129
  a66 := Try.isAgg129
  z66 := Try.sizeOf129
  v66 := Try.zeroValue129
  t70 := Try.underlying132
  a70 := Try.isAgg132
  z70 := Try.sizeOf132
  v70 := Try.zeroValue132
  t76 := Try.underlying134
  a76 := Try.isAgg134
  z76 := Try.sizeOf134
  v76 := Try.zeroValue134
  t77 := Try.underlying135
  a77 := Try.isAgg135
  z77 := Try.sizeOf135
  v77 := Try.zeroValue135 }
/-- A key's two cells. -/
def kc (k : Ky) : List Value := [.int .i64 k.1, .int .u64 k.2]
def kflat (l : List Ky) : List Value := l.flatMap kc
theorem kflat_len : ∀ l : List Ky, (kflat l).length = l.length * 2
  | [] => rfl
  | k :: l => by have := kflat_len l; unfold kflat at this ⊢; rw [List.flatMap_cons, List.length_append, this]; simp [kc]; omega
theorem kflat_append (a b : List Ky) : kflat (a ++ b) = kflat a ++ kflat b := by unfold kflat; rw [List.flatMap_append]
theorem kflat_at : ∀ {l : List Ky} {i : Nat} {k : Ky} (h : l[i]? = some k), (kflat l)[i * 2]? = some (.int .i64 k.1) ∧ (kflat l)[i * 2 + 1]? = some (.int .u64 k.2)
  | [], i, k, h => by simp at h
  | y :: l, 0, k, h => by simp at h; subst h; exact ⟨rfl, rfl⟩
  | y :: l, i + 1, k, h => by
    have := kflat_at (l := l) (i := i) (k := k) (by simpa using h)
    unfold kflat at this ⊢
    rw [List.flatMap_cons, List.getElem?_append_right (by simp [kc]; omega), List.getElem?_append_right (by simp [kc]; omega)]
    rw [show (i + 1) * 2 - (kc y).length = i * 2 by simp [kc]; omega, show (i + 1) * 2 + 1 - (kc y).length = i * 2 + 1 by simp [kc]; omega]
    exact this
theorem kflat_one {l : List Ky} : ∀ u ∈ kflat l, u.oneCell' = true := by
  intro u hu
  obtain ⟨k, _, hk⟩ := List.mem_flatMap.1 hu
  simp only [kc, List.mem_cons, List.not_mem_nil, or_false] at hk
  rcases hk with rfl | rfl <;> rfl
/-- Which comes first. -/
def cmpI (a b : Int) : Int := if a < b then -1 else if b < a then 1 else 0
def cmpK (x y : Ky) : Int := if cmpI x.1 y.1 = 0 then cmpI x.2 y.2 else cmpI x.1 y.1
def ltK (a b : Ky) : Bool := decide (a.1 < b.1 ∨ a.1 = b.1 ∧ a.2 < b.2)
theorem cmpI_is (a b : Int) : cmpI a b = -1 ∧ a < b ∨ cmpI a b = 0 ∧ a = b ∨ cmpI a b = 1 ∧ b < a := by
  unfold cmpI; split
  · exact Or.inl ⟨rfl, by assumption⟩
  · split
    · exact Or.inr (Or.inr ⟨rfl, by assumption⟩)
    · exact Or.inr (Or.inl ⟨rfl, by omega⟩)
theorem ltOf_is (x y : Ky) : Go.Proofs.ltOf cmpK x y = ltK x y := by
  unfold Go.Proofs.ltOf ltK cmpK
  rcases cmpI_is x.1 y.1 with ⟨h1, h2⟩ | ⟨h1, h2⟩ | ⟨h1, h2⟩ <;> rcases cmpI_is x.2 y.2 with ⟨h3, h4⟩ | ⟨h3, h4⟩ | ⟨h3, h4⟩ <;> rw [h1] <;> simp [h3] <;> omega
theorem swoK : Go.Sort.SWO (Go.Proofs.ltOf cmpK) where
  irrefl x := by rw [ltOf_is]; unfold ltK; simp
  trans x y z h1 h2 := by
    rw [ltOf_is] at *
    unfold ltK at *
    rw [decide_eq_true_eq] at *
    omega
  ntrans x y z h1 h2 := by
    rw [ltOf_is] at *
    unfold ltK at *
    rw [decide_eq_false_iff_not] at *
    omega
theorem compare_int (a b : Int) (w : World) : Calls Try.prog 68 #[.int .i64 a, .int .i64 b] w fun e w' => e = .returned (.int .i64 (cmpI a b)) ∧ w = w' := by
  unfold cmpI
  have hc : (a < b) ∨ (decide (a < b) = false ∧ b < a) ∨ (decide (a < b) = false ∧ decide (b < a) = false) := by rw [decide_eq_false_iff_not, decide_eq_false_iff_not]; omega
  rcases hc with h1 | ⟨h1, h2⟩ | ⟨h1, h2⟩
  · rw [if_pos h1]
    go_enter Try.func68, Try.ntmps68
    go_wp2
    go_ret
    exact ⟨rfl, rfl⟩
  · rw [if_neg (by simpa using h1), if_pos h2]
    go_enter Try.func68, Try.ntmps68
    go_wp2
    go_ret
    exact ⟨rfl, rfl⟩
  · rw [if_neg (by simpa using h1), if_neg (by simpa using h2)]
    go_enter Try.func68, Try.ntmps68
    go_wp2
    go_ret
    exact ⟨rfl, rfl⟩
theorem compare_uint (a b : Int) (w : World) : Calls Try.prog 69 #[.int .u64 a, .int .u64 b] w fun e w' => e = .returned (.int .i64 (cmpI a b)) ∧ w = w' := by
  unfold cmpI
  have hc : (a < b) ∨ (decide (a < b) = false ∧ b < a) ∨ (decide (a < b) = false ∧ decide (b < a) = false) := by rw [decide_eq_false_iff_not, decide_eq_false_iff_not]; omega
  rcases hc with h1 | ⟨h1, h2⟩ | ⟨h1, h2⟩
  · rw [if_pos h1]
    go_enter Try.func69, Try.ntmps69
    go_wp2
    go_ret
    exact ⟨rfl, rfl⟩
  · rw [if_neg (by simpa using h1), if_pos h2]
    go_enter Try.func69, Try.ntmps69
    go_wp2
    go_ret
    exact ⟨rfl, rfl⟩
  · rw [if_neg (by simpa using h1), if_neg (by simpa using h2)]
    go_enter Try.func69, Try.ntmps69
    go_wp2
    go_ret
    exact ⟨rfl, rfl⟩
theorem or_any (a b r : Int) (g : Nat) (w : World) (h0 : w.cell? ⟨g, 0, none⟩ = some (.int .i64 a)) (h1 : w.cell? ⟨g, 1, none⟩ = some (.int .i64 b)) (hr : r = if a = 0 then b else a) (hb : -1 ≤ b ∧ b ≤ 1) (ha : -1 ≤ a ∧ a ≤ 1) :
    Calls Try.prog 67 #[.slice (some ⟨g, 0, none⟩) 2 2] w fun e w' => e = .returned (.int .i64 r) ∧ w = w' := by
  have HR := Lib.hid hr
  clear hr
  have hca : (a != 0) = true ∨ (a = 0 ∧ ((b != 0) = true ∨ b = 0)) := by rw [bne_iff_ne, bne_iff_ne]; omega
  rcases hca with h2 | ⟨rfl, h2 | rfl⟩
  · have E := Lib.hid (show r = a by have : ¬ a = 0 := by simpa using h2
                                     rw [HR.out, if_neg this])
    go_enter Try.func67, Try.ntmps67
    go_wp2_with fail
    refine wp_loop_rounds 1 ?_
    rw [rounds_succ]
    go_wp2_with fail
    go_ret
    exact ⟨congrArg (fun z => Ending.returned (Value.int .i64 z)) E.out.symm, rfl⟩
  · have E := Lib.hid (show r = b by rw [HR.out, if_pos rfl])
    go_enter Try.func67, Try.ntmps67
    go_wp2_with fail
    refine wp_loop_rounds 2 ?_
    rw [rounds_succ]
    go_wp2_with fail
    rw [rounds_succ]
    go_wp2_with fail
    go_ret
    exact ⟨congrArg (fun z => Ending.returned (Value.int .i64 z)) E.out.symm, rfl⟩
  · have E := Lib.hid (show r = 0 by rw [HR.out, if_pos rfl])
    go_enter Try.func67, Try.ntmps67
    go_wp2_with fail
    refine wp_loop_rounds 3 ?_
    rw [rounds_succ]
    go_wp2_with fail
    rw [rounds_succ]
    go_wp2_with fail
    rw [rounds_succ]
    go_wp2_with fail
    go_ret
    exact ⟨congrArg (fun z => Ending.returned (Value.int .i64 z)) E.out.symm, rfl⟩
/-- Draws, and blocks that are new. -/
def Gr (w w' : World) : Prop := ∃ q os, w' = Go.Sort.grow (w.drewN q) os
theorem Gr.refl (w : World) : Gr w w := ⟨0, #[], by rw [Go.Sort.grow_empty]; rfl⟩
theorem Gr.alloc {w w' : World} (h : Gr w w') (o : Obj) : Gr w (w'.alloc o) := by
  obtain ⟨q, os, rfl⟩ := h
  exact ⟨q, os ++ #[o], by rw [Go.Sort.alloc_eq_grow, Go.Sort.grow_grow]⟩
theorem Gr.drew {w w' : World} (h : Gr w w') : Gr w w'.drew := by
  obtain ⟨q, os, rfl⟩ := h
  exact ⟨q + 1, os, rfl⟩
theorem cmpK_in (x y : Ky) : -1 ≤ cmpI x.1 y.1 ∧ cmpI x.1 y.1 ≤ 1 ∧ -1 ≤ cmpI x.2 y.2 ∧ cmpI x.2 y.2 ≤ 1 := by
  rcases cmpI_is x.1 y.1 with ⟨h1, h2⟩ | ⟨h1, h2⟩ | ⟨h1, h2⟩ <;> rcases cmpI_is x.2 y.2 with ⟨h3, h4⟩ | ⟨h3, h4⟩ | ⟨h3, h4⟩ <;> omega
set_option maxHeartbeats 4000000 in
theorem before_any (x y : Ky) (w : World) : Calls Try.prog 52 #[.agg #[.int .i64 x.1, .int .u64 x.2], .agg #[.int .i64 y.1, .int .u64 y.2]] w fun e w' => e = .returned (.int .i64 (cmpK x y)) ∧ Gr w w' := by
  obtain ⟨x1, x2⟩ := x
  obtain ⟨y1, y2⟩ := y
  have hin := cmpK_in (x1, x2) (y1, y2)
  have C1 := Lib.hid fun w => compare_int x1 y1 w
  have C2 := Lib.hid fun w => compare_uint x2 y2 w
  have HD := Lib.hid (show cmpK (x1, x2) (y1, y2) = if cmpI x1 y1 = 0 then cmpI x2 y2 else cmpI x1 y1 from rfl)
  simp only at hin
  generalize cmpK (x1, x2) (y1, y2) = r at *
  generalize cmpI x1 y1 = c1 at *
  generalize cmpI x2 y2 = c2 at *
  have OR := Lib.hid fun g w h0 h1 => or_any c1 c2 r g w h0 h1 HD.out ⟨hin.2.2.1, hin.2.2.2⟩ ⟨hin.1, hin.2.1⟩
  clear hin HD
  go_enter Try.func52, Try.ntmps52
  go_upto_region 1 with fail
  have hX := (Blk.new w [.int .i64 x1, .int .u64 x2] 62).old (.cells #[.int .i64 y1, .int .u64 y2] 62)
  have hY := Blk.new (w.alloc (.cells [.int .i64 x1, .int .u64 x2].toArray 62)) [.int .i64 y1, .int .u64 y2] 62
  have hG := Lib.hid (((Gr.refl w).alloc (.cells #[.int .i64 x1, .int .u64 x2] 62)).alloc (.cells #[.int .i64 y1, .int .u64 y2] 62))
  rw [World.size_alloc] at hY
  dsimp only [List.toArray] at hX hY
  have a0 := hX.cell (o := 0) rfl
  have a1 := hX.cell (o := 1) rfl
  have b0 := hY.cell (o := 0) rfl
  have b1 := hY.cell (o := 1) rfl
  have HX := Lib.hid hX
  have HY := Lib.hid hY
  clear hX hY
  generalize (w.alloc (.cells #[.int .i64 x1, .int .u64 x2] 62)).alloc (.cells #[.int .i64 y1, .int .u64 y2] 62) = w1 at *
  generalize w.heap.size = xb at *
  have OR1 := Lib.hid (OR.out w1.heap.size (w1.alloc (.cells #[.int .i64 c1, .int .i64 c2] 3)).drew ((Blk.new w1 [.int .i64 c1, .int .i64 c2] 3).cell (o := 0) rfl) ((Blk.new w1 [.int .i64 c1, .int .i64 c2] 3).cell (o := 1) rfl))
  clear OR
  go_region_held3 (fun w' => w'.cell? ⟨xb, 0, none⟩ = some (.int .i64 x1) ∧ w'.cell? ⟨xb, 1, none⟩ = some (.int .u64 x2) ∧ w'.cell? ⟨xb + 1, 0, none⟩ = some (.int .i64 y1) ∧ w'.cell? ⟨xb + 1, 1, none⟩ = some (.int .u64 y2)) (first | exact ⟨a0, a1, b0, b1⟩ | exact ⟨(HX.out.old _).cell rfl, (HX.out.old _).cell rfl, (HY.out.old _).cell rfl, (HY.out.old _).cell rfl⟩)
    (first | (go_at_call 68; with_reducible refine Calls.mono (C1.out _) ?_; rintro e w' ⟨rfl, rfl⟩) | (go_at_call 69; with_reducible refine Calls.mono (C2.out _) ?_; rintro e w' ⟨rfl, rfl⟩) | (go_at_call 67; with_reducible refine Calls.mono OR1.out ?_; rintro e w' ⟨rfl, rfl⟩))
  all_goals
    go_wp2_with fail
    go_ret
    exact ⟨rfl, (hG.out.alloc _).drew⟩
theorem cmpLays (g off n : Nat) (w : World) : Go.Proofs.CmpLays Try.prog 52 #[] kc 2 cmpK g off n w := fun _ _ _ _ x y => before_any x y _
/-- Sorted keys. -/
def Sorted (l : List Ky) : Prop := l.Pairwise fun a b => ltK b a = false
theorem flatK_is (l : List Ky) : Go.Sort.flatK kc 2 l.toArray = (kflat l).toArray := by
  have hl := kflat_len l
  apply Array.ext
  · rw [Go.Sort.size_flatK]; simp [hl]
  · intro t h1 h2
    have ht : t < l.length * 2 := by rw [Go.Sort.size_flatK] at h1; simpa using h1
    obtain ⟨q, r, hr, rfl⟩ : ∃ q r, r < 2 ∧ t = q * 2 + r := ⟨t / 2, t % 2, by omega, by omega⟩
    have hq : q < l.length := by omega
    have e := Go.Sort.get_flatK kc 2 l.toArray (q * 2 + r) (by simpa using ht)
    rw [getElem!_pos (Go.Sort.flatK kc 2 l.toArray) (q * 2 + r) h1] at e
    rw [e, show (q * 2 + r) / 2 = q by omega, show (q * 2 + r) % 2 = r by omega]
    have hg : l.toArray[q]! = l[q] := by rw [getElem!_pos l.toArray q (by simpa using hq)]; simp
    obtain ⟨k0, k1⟩ := kflat_at (List.getElem?_eq_getElem hq)
    rw [hg]
    rw [List.getElem_toArray]
    have hr2 : r = 0 ∨ r = 1 := by omega
    rcases hr2 with rfl | rfl
    · have := (List.getElem?_eq_some_iff.1 k0).2
      simp only [Nat.add_zero]
      rw [this]; rfl
    · have := (List.getElem?_eq_some_iff.1 k1).2
      rw [this]; rfl
theorem holds_of {w : World} {g : Nat} {l : List Ky} {rest : List Value} {T : TypeId} (h : Blk w g (kflat l ++ rest) T) : Go.Sort.HoldsK kc 2 w g 0 l.toArray := by
  unfold Go.Sort.HoldsK Go.Sort.Holds
  rw [flatK_is]
  intro j hj
  have hj' : j < (kflat l).length := by simpa using hj
  rw [Nat.zero_add, getElem!_pos (kflat l).toArray j hj]
  refine ⟨h.cell ?_, h.frozen j⟩
  rw [List.getElem?_append_left hj', List.getElem?_eq_getElem hj']
  simp
theorem put_is {w : World} {g : Nat} {l l' : List Ky} {rest : List Value} {T : TypeId} (h : Blk w g (kflat l ++ rest) T) (hl : l'.length = l.length) : Blk (Go.Sort.putRowK kc 2 w g 0 l'.toArray) g (kflat l' ++ rest) T := by
  unfold Blk at h ⊢
  have e1 := kflat_len l
  have e2 := kflat_len l'
  unfold Go.Sort.putRowK Go.Sort.putRow Go.Sort.mapBlock
  rw [flatK_is]
  simp only [Array.getElem?_modify, ↓reduceIte, h, Option.map_some, Go.Sort.onCells]
  congr 2
  apply Array.ext
  · simp [Go.Sort.putCells]; omega
  · intro i h1 h2
    simp only [Go.Sort.putCells, Array.getElem_mapIdx, Nat.zero_le, true_and, Nat.zero_add, Nat.sub_zero, id]
    by_cases hi : i < (kflat l').length
    · have h3 : i < (kflat l').toArray.size := by simpa using hi
      rw [if_pos h3, getElem!_pos (kflat l').toArray i h3]
      simp only [List.getElem_toArray]
      rw [List.getElem_append_left hi]
    · have h3 : ¬ i < (kflat l').toArray.size := by simpa using hi
      rw [if_neg h3]
      simp only [List.getElem_toArray]
      rw [List.getElem_append_right (by omega), List.getElem_append_right (by omega)]
      congr 1; omega
theorem put_kept (w : World) (g : Nat) (l : List Ky) : Kept (fun j => j = g) w (Go.Sort.putRowK kc 2 w g 0 l.toArray) := by
  refine ⟨rfl, rfl, rfl, by simp [Go.Sort.putRowK, Go.Sort.putRow, Go.Sort.mapBlock], fun k _ hk => ?_⟩
  simp only [Go.Sort.putRowK, Go.Sort.putRow, Go.Sort.mapBlock, Array.getElem?_modify]
  rw [if_neg (fun e => hk e.symm)]
theorem grow_kept (w : World) (os : Array Obj) : Kept (fun _ => False) w (Go.Sort.grow w os) :=
  ⟨rfl, rfl, rfl, by simp, fun k hk _ => by simp only [Go.Sort.grow]; rw [Array.getElem?_append_left hk]⟩
theorem sorted_of {l : List Ky} {d : Array Ky} (h : Go.Sort.SortedIn (Go.Proofs.ltOf cmpK) 0 d.size d) : Sorted d.toList := by
  unfold Sorted
  rw [List.pairwise_iff_getElem]
  intro i j hi hj hij
  have := h i j (Nat.zero_le _) hij (by simpa using hj)
  rw [ltOf_is, getElem!_pos d j (by simpa using hj), getElem!_pos d i (by simpa using hi)] at this
  simpa using this
/-- The library's sort. -/
theorem sort_any {w : World} {g : Nat} {l : List Ky} {rest : List Value} {T : TypeId} (h : Blk w g (kflat l ++ rest) T) (hn : l.length ≤ 1000000) (cap : Nat) :
    Calls Try.prog 51 #[.slice (some ⟨g, 0, none⟩) l.length cap, .func (.func 52) #[] #[]] w
      fun e w' => e = .returned (.tuple #[]) ∧ ∃ l', l'.Perm l ∧ Sorted l' ∧ Blk w' g (kflat l' ++ rest) T ∧ Kept (fun j => j = g) w w' := by
  have eg : ∀ args w, (callFunc 52 args).run Try.prog w = .ok (.enter 52 args) w := enters_of Try.func52 (by kernel_rfl) rfl
  have hcon := Go.Proofs.AnyQ.slices_SortFunc sortKeys 2 Try.isAgg62 Try.sizeOf62 kc (fun _ => rfl) (fun x v hv => by simp [kc] at hv; rcases hv with rfl | rfl <;> rfl) cmpK swoK 52 #[] g 0 cap l.toArray w eg (cmpLays g 0 _ w) (holds_of h) h.lt (by simp; omega)
  have hs : l.toArray.size = l.length := by simp
  rw [hs] at hcon
  refine Calls.mono hcon ?_
  rintro e w' ⟨rfl, d', n, os, hp, hsd, rfl⟩
  obtain ⟨p1, _, p2⟩ := hp
  rw [hs] at p1
  have e0 : d'.toList.toArray = d' := by simp
  have ha : Blk (Go.Sort.ahead w n) g (kflat l ++ rest) T := h
  have hb : Blk (Go.Sort.putRowK kc 2 (Go.Sort.ahead w n) g 0 d') g (kflat d'.toList ++ rest) T := by
    have := put_is (l' := d'.toList) ha (by simpa using p1)
    rwa [e0] at this
  have hk := put_kept (Go.Sort.ahead w n) g d'.toList
  rw [e0] at hk
  have hka : Kept (fun j => j = g) w (Go.Sort.putRowK kc 2 (Go.Sort.ahead w n) g 0 d') := ⟨hk.os, hk.tape, hk.output, hk.size, hk.block⟩
  refine ⟨rfl, d'.toList, ?_, sorted_of (l := l) (by rw [p1]; exact hsd), (grow_kept _ os).blk hb (fun f => f), hka.trans' (grow_kept _ os) (fun _ _ f => f.elim)⟩
  have q1 : d'.extract 0 l.length = d' := by rw [← p1]; simp
  have q2 : l.toArray.extract 0 l.length = l.toArray := by rw [← hs]; simp
  rw [q1, q2] at p2
  simpa using p2
/-- Keys, as elements of rows. -/
@[reducible] def kT : Rw.Ty Ky where
  E := 62
  L := 71
  k := 2
  bz := 16
  enc := kc
  z := .agg #[.int .i64 0, .int .u64 0]
  hL := Try.underlying71
  hI := by kernel_rfl
  hz := rfl
  hk _ := rfl
  h1 x v hv := by simp [kc] at hv; rcases hv with rfl | rfl <;> rfl
  k0 := by decide
  hb := by decide
end Go.Proofs.Ytaihjnonlnbhhaa.TbK
