/- awake from its entry to the making of its group. Conditions: each theorem's own. -/
import Derived.Test.YtcefdleidkmomaaMgG22
set_option linter.unusedVariables false
set_option linter.unusedSimpArgs false
namespace Go.Proofs.Ytcefdleidkmomaa.Mx
open Go.Conc Go.Conc.Lib Br Go.RowKit Hp Rw Ro So
open Go.ConcN (sumTo upd sumTo_upd upd_ne upd_same)
noncomputable def atB : Code := Try.f26.body.getD .skip
/-- atOnce's slots at the making of its group. -/
inductive FA0 (H : Nat) : Array Value → Prop
  | mk (u3 u4 u5 u6 u7 u8 u9 u10 u11 u12 u13 u14 u15 u16 u17 u18 u19 u20 u21 u22 u23 u24 u25 u26 u27 u28 u29 u30 u31 u32 u33 u34 u35 u36 u37 u38 u39 u40 u41 u42 u43 u44 u45 u46 u47 u48 u49 u50 u51 u52 u53 u54 u55 u56 u57 u58 u59 u60 u61 u62 u63 u64 u65 u66 u67 u68 u69 u70 u71 u72 u73 u74 u75 u76 u77 u78 : Value) : FA0 H #[nilS, .int .i64 0, .slice (some ⟨H + 2, 0, none⟩) 3 3, u3, u4, u5, u6, u7, u8, u9, u10, u11, u12, u13, u14, u15, u16, u17, u18, u19, u20, u21, u22, u23, u24, u25, u26, u27, u28, u29, u30, u31, u32, u33, u34, u35, u36, u37, u38, u39, u40, u41, u42, u43, u44, u45, u46, u47, u48, u49, u50, u51, u52, u53, u54, u55, u56, u57, u58, u59, u60, u61, u62, u63, u64, u65, u66, u67, u68, u69, u70, u71, u72, u73, u74, u75, u76, u77, u78]
/-- awake's goroutine there. -/
def AtAlloc (H : Nat) (vI W : World) (cs : List Frame) (g : Goroutine) (w : World) : Prop :=
  ∃ tA tg tw v, g = G ((base 26).at ⟨tA, []⟩ (.inRegion (aw1 atB) [0] :: .code (aw2 atB) :: [])) (gaF tg :: (base 8).at ⟨tw, []⟩ (.inRegion (aw1 awB) [3, 4] :: [.code (aw2 awB)]) :: cs) ∧
    FA0 H tA ∧ FG H tg ∧ FAw tw ∧ Like (sh0 W) w v ∧ v.heap = ((vI.heap.push (.cells #[.int .i64 1, .int .i64 2] 3)).push (.cells #[.int .i64 3] 3)).push (.cells (rowsA H).toArray 28)
section
variable (w : World) (f : Operand → Value)
theorem ln1 {a : Option Addr} (h1 : f (.tmp 17) = .slice a 3 3) : (execOp f { dst := some 18, op := .call { callee := .builtin .len, args := #[.tmp 17], argTypes := #[22] }, type := 3, pos := "mux.go:86", after := #[{ on := 6, ground := .data }], guard := none }).run Try.prog w = .ok (.value (.int .i64 3)) w := by
  have e : (Builtin.len_ #[22] 3 #[.slice a 3 3]).run Try.prog w = .ok (.int .i64 3) w := by kernel_rfl
  simp [execOp, h1, go_sem, e]
theorem mn1 (h1 : f (.tmp 16) = .int .i64 1000) (h2 : f (.tmp 18) = .int .i64 3) : (execOp f { dst := some 19, op := .call { callee := .builtin .min, args := #[.tmp 16, .tmp 18], argTypes := #[3, 3] }, type := 3, pos := "mux.go:86", after := #[{ on := 5, ground := .data }, { on := 7, ground := .data }], guard := none }).run Try.prog w = .ok (.value (.int .i64 3)) w := by
  have e : (Builtin.min_ #[3, 3] 3 #[.int .i64 1000, .int .i64 3]).run Try.prog w = .ok (.int .i64 3) w := by kernel_rfl
  simp [execOp, h1, h2, go_sem, e]
theorem sl1 {b : Nat} (h1 : f (.tmp 13) = .slice (some ⟨b, 0, none⟩) 3 3) (h2 : f (.tmp 14) = .int .i64 0) (h3 : f (.tmp 19) = .int .i64 3) : (execOp f { dst := some 20, op := .slice 22 (.tmp 13) (some (.tmp 14)) (some (.tmp 19)) none, type := 22, pos := "mux.go:86", after := #[{ on := 2, ground := .data }, { on := 3, ground := .data }, { on := 8, ground := .data }], guard := none }).run Try.prog w = .ok (.value (.slice (some ⟨b, 0, none⟩) 3 3)) w := by
  have e : (Instr.slice 22 (.slice (some ⟨b, 0, none⟩) 3 3) (some (.int .i64 0)) (some (.int .i64 3)) none).run Try.prog w = .ok (.slice (some ⟨b, 0, none⟩) 3 3) w := by kernel_rfl
  simp [execOp, h1, h2, h3, go_sem, e]
theorem bs1 (h1 : f (.const (.int .i64 1)) = .int .i64 1) (h2 : f (.const (.int .i64 2)) = .int .i64 2) : (execOp f { dst := some 10, op := .buildSlice 28 2 #[(0, .const (.int .i64 1)), (1, .const (.int .i64 2))], type := 28, pos := "law.go:14", after := #[], guard := none }).run Try.prog w = .ok (.value (.slice (some ⟨w.heap.size, 0, none⟩) 2 2)) (w.alloc (.cells #[.int .i64 1, .int .i64 2] 3)) := by
  simp [execOp, h1, h2, go_sem]
theorem bs2 (h1 : f (.const (.int .i64 3)) = .int .i64 3) : (execOp f { dst := some 11, op := .buildSlice 28 1 #[(0, .const (.int .i64 3))], type := 28, pos := "law.go:14", after := #[], guard := none }).run Try.prog w = .ok (.value (.slice (some ⟨w.heap.size, 0, none⟩) 1 1)) (w.alloc (.cells #[.int .i64 3] 3)) := by
  simp [execOp, h1, go_sem]
theorem bs3 {a b : Option Addr} {n m : Nat} (h1 : f (.tmp 10) = .slice a n n) (h2 : f (.const (.slice none 0 0)) = .slice none 0 0) (h3 : f (.tmp 11) = .slice b m m) : (execOp f { dst := some 12, op := .buildSlice 22 3 #[(0, .tmp 10), (1, .const (.slice none 0 0)), (2, .tmp 11)], type := 22, pos := "law.go:14", after := #[{ on := 0, ground := .data }, { on := 1, ground := .data }], guard := none }).run Try.prog w = .ok (.value (.slice (some ⟨w.heap.size, 0, none⟩) 3 3)) (w.alloc (.cells #[.slice a n n, .slice none 0 0, .slice b m m] 28)) := by
  simp [execOp, h1, h2, h3, go_sem]
end
section
variable {H : Nat} {vI W : World} {St : Goroutine → World → Prop} {m : Nat}
set_option maxRecDepth 100000 in
set_option maxHeartbeats 4000000 in
/-- From awake's entry to its call of Gather. -/
theorem awIn {cs : List Frame} {w v : World} (hl : Like (sh0 W) w v) (hH : v.heap.size = H) {cB : Code} (hcB : awB = cB)
    (hnext : ∀ tw w' v', FAw tw → Like (sh0 W) w' v' → v'.heap = ((v.heap.push (.cells #[.int .i64 1, .int .i64 2] 3)).push (.cells #[.int .i64 3] 3)).push (.cells (rowsA H).toArray 28) →
      SG (sh0 W) St m (G ((base 9).at { tmps := #[.slice (some ⟨H + 2, 0, none⟩) 3 3] ++ Array.replicate 22 undef, defers := [] } [.code gaB]) ((base 8).at ⟨tw, []⟩ (.inRegion (aw1 cB) [3, 4] :: [.code (aw2 cB)]) :: cs)) w') :
    SG (sh0 W) St (m + 20) (G ((base 8).at { tmps := #[] ++ Array.replicate 79 undef, defers := [] } [.code cB]) cs) w := by
  conv at hcB => lhs; whnf
  subst hcB
  refine SG.le (m := 1 + 2 + ((m + 1) + 1 + 1 + 1 + 1 + 1) + 1) ?_ (by omega)
  refine SG.seq ?_
  show SG (sh0 W) St _ (G ((base 8).at ⟨#[undef, undef, undef, undef, undef, undef, undef, undef, undef, undef, undef, undef, undef, undef, undef, undef, undef, undef, undef, undef, undef, undef, undef, undef, undef, undef, undef, undef, undef, undef, undef, undef, undef, undef, undef, undef, undef, undef, undef, undef, undef, undef, undef, undef, undef, undef, undef, undef, undef, undef, undef, undef, undef, undef, undef, undef, undef, undef, undef, undef, undef, undef, undef, undef, undef, undef, undef, undef, undef, undef, undef, undef, undef, undef, undef, undef, undef, undef, undef], []⟩ _) _) w
  refine SG.region (m := (m + 1) + 1 + 1 + 1 + 1 + 1) (R := fun t v' => t = #[.bool false, undef, undef, undef, undef, undef, undef, undef, undef, undef, undef, undef, undef, undef, undef, undef, undef, undef, undef, undef, undef, undef, undef, undef, undef, undef, undef, undef, undef, undef, undef, undef, undef, undef, undef, undef, undef, undef, undef, undef, undef, undef, undef, undef, undef, undef, undef, undef, undef, undef, undef, undef, undef, undef, undef, undef, undef, undef, undef, undef, undef, undef, undef, undef, undef, undef, undef, undef, undef, undef, undef, undef, undef, undef, undef, undef, undef, undef, undef] ∧ v'.heap = v.heap)
    rfl (by kernel_rfl) rfl hl (fun v1 h1 => ?_) (fun a4 w4 v4 hd hl4 hR4 => ?_)
  · have hh := Lib.hid (like_same hl h1)
    clear hl hnext
    go_wp2
    exact hh.out
  obtain ⟨t4, d4⟩ := a4
  obtain rfl : d4 = [] := hd
  obtain ⟨ht, e4⟩ := hR4
  have ht1 : t4 = #[.bool false, undef, undef, undef, undef, undef, undef, undef, undef, undef, undef, undef, undef, undef, undef, undef, undef, undef, undef, undef, undef, undef, undef, undef, undef, undef, undef, undef, undef, undef, undef, undef, undef, undef, undef, undef, undef, undef, undef, undef, undef, undef, undef, undef, undef, undef, undef, undef, undef, undef, undef, undef, undef, undef, undef, undef, undef, undef, undef, undef, undef, undef, undef, undef, undef, undef, undef, undef, undef, undef, undef, undef, undef, undef, undef, undef, undef, undef, undef] := ht
  subst ht1
  clear ht
  refine SG.seq ?_
  refine SG.reg ?_
  refine SG.one (R := fun y v' => y = .slice (some ⟨H, 0, none⟩) 2 2 ∧ v'.heap = v.heap.push (.cells #[.int .i64 1, .int .i64 2] 3)) rfl rfl rfl (by kernel_rfl) hl4 (fun v1 h1 => ⟨_, _, .inl (bs1 v1 _ rfl rfl), ?_⟩) (fun y1 w5 v5 hl5 hR5 => ?_)
  · have e := (like_same hl4 h1).trans e4
    exact ⟨by rw [e, hH], by simp only [World.alloc]; rw [e]⟩
  obtain ⟨rfl, e5⟩ := hR5
  refine SG.one (R := fun y v' => y = .slice (some ⟨H + 1, 0, none⟩) 1 1 ∧ v'.heap = (v.heap.push (.cells #[.int .i64 1, .int .i64 2] 3)).push (.cells #[.int .i64 3] 3)) rfl rfl rfl (by kernel_rfl) hl5 (fun v1 h1 => ⟨_, _, .inl (bs2 v1 _ rfl), ?_⟩) (fun y1 w6 v6 hl6 hR6 => ?_)
  · have e := (like_same hl5 h1).trans e5
    exact ⟨by rw [e, Array.size_push, hH], by simp only [World.alloc]; rw [e]⟩
  obtain ⟨rfl, e6⟩ := hR6
  refine SG.one (R := fun y v' => y = .slice (some ⟨H + 2, 0, none⟩) 3 3 ∧ v'.heap = ((v.heap.push (.cells #[.int .i64 1, .int .i64 2] 3)).push (.cells #[.int .i64 3] 3)).push (.cells (rowsA H).toArray 28)) rfl rfl rfl (by kernel_rfl) hl6 (fun v1 h1 => ⟨_, _, .inl (bs3 v1 _ (a := some ⟨H, 0, none⟩) (b := some ⟨H + 1, 0, none⟩) (n := 2) (m := 1) rfl rfl rfl), ?_⟩) (fun y1 w7 v7 hl7 hR7 => ?_)
  · have e := (like_same hl6 h1).trans e6
    exact ⟨by rw [e, Array.size_push, Array.size_push, hH], by simp only [World.alloc]; rw [e]; rfl⟩
  obtain ⟨rfl, e7⟩ := hR7
  refine SG.call' (f := 9) (vals := #[.slice (some ⟨H + 2, 0, none⟩) 3 3]) rfl rfl rfl rfl Try.func9 (by kernel_rfl) rfl (by simp [Act.eval, Act.put]) ?_
  exact hnext _ w7 v7 (.mk ..) hl7 e7
end
end Go.Proofs.Ytcefdleidkmomaa.Mx

/- Gather of any lists: its way in. Conditions: each theorem's own. -/
namespace Go.Proofs.Ytcefdleidkmomaa.Mx
open Go.Conc Go.Conc.Lib Br Go.RowKit Hp Rw Ro So
open Go.ConcN (sumTo upd sumTo_upd upd_ne upd_same)
/-- atOnce's slots at the making of its group. -/
inductive FN0 (lb lo n cl : Nat) : Array Value → Prop
  | mk (u3 u4 u5 u6 u7 u8 u9 u10 u11 u12 u13 u14 u15 u16 u17 u18 u19 u20 u21 u22 u23 u24 u25 u26 u27 u28 u29 u30 u31 u32 u33 u34 u35 u36 u37 u38 u39 u40 u41 u42 u43 u44 u45 u46 u47 u48 u49 u50 u51 u52 u53 u54 u55 u56 u57 u58 u59 u60 u61 u62 u63 u64 u65 u66 u67 u68 u69 u70 u71 u72 u73 u74 u75 u76 u77 u78 : Value) : FN0 lb lo n cl #[nilS, .int .i64 0, .slice (some ⟨lb, lo, none⟩) n cl, u3, u4, u5, u6, u7, u8, u9, u10, u11, u12, u13, u14, u15, u16, u17, u18, u19, u20, u21, u22, u23, u24, u25, u26, u27, u28, u29, u30, u31, u32, u33, u34, u35, u36, u37, u38, u39, u40, u41, u42, u43, u44, u45, u46, u47, u48, u49, u50, u51, u52, u53, u54, u55, u56, u57, u58, u59, u60, u61, u62, u63, u64, u65, u66, u67, u68, u69, u70, u71, u72, u73, u74, u75, u76, u77, u78]
section
variable {lb lo n cl : Nat} (w : World) (f : Operand → Value)
theorem lnN {a : Option Addr} (h1 : f (.tmp 17) = .slice a n cl) : (execOp f { dst := some 18, op := .call { callee := .builtin .len, args := #[.tmp 17], argTypes := #[22] }, type := 3, pos := "mux.go:86", after := #[{ on := 6, ground := .data }], guard := none }).run Try.prog w = .ok (.value (.int .i64 (n : Int))) w := by
  have e : (Builtin.len_ #[22] 3 #[.slice a n cl]).run Try.prog w = .ok (.int .i64 (n : Int)) w := by kernel_rfl
  simp [execOp, h1, go_sem, e]
theorem mnN (h5 : n ≤ 500) (h1 : f (.tmp 16) = .int .i64 1000) (h2 : f (.tmp 18) = .int .i64 (n : Int)) : (execOp f { dst := some 19, op := .call { callee := .builtin .min, args := #[.tmp 16, .tmp 18], argTypes := #[3, 3] }, type := 3, pos := "mux.go:86", after := #[{ on := 5, ground := .data }, { on := 7, ground := .data }], guard := none }).run Try.prog w = .ok (.value (.int .i64 (n : Int))) w := by
  have e : (Builtin.min_ #[3, 3] 3 #[.int .i64 1000, .int .i64 (n : Int)]).run Try.prog w = .ok (.int .i64 (n : Int)) w := by
    rw [run_min_int2, if_pos (by omega)]
  simp only [execOp, h1, h2, go_sem, List.map_toArray, List.map_cons, List.map_nil]
  simp [go_sem, h1, h2, e]
theorem slicedN : sliced (some ⟨lb, lo, none⟩) (Int.toNat 0) (Int.toNat (n : Int)) cl 1 = .slice (some ⟨lb, lo, none⟩) n cl := by
  simp [sliced, Addr.add]
theorem slN (hcl : n ≤ cl) (h1 : f (.tmp 13) = .slice (some ⟨lb, lo, none⟩) n cl) (h2 : f (.tmp 14) = .int .i64 0) (h3 : f (.tmp 19) = .int .i64 (n : Int)) : (execOp f { dst := some 20, op := .slice 22 (.tmp 13) (some (.tmp 14)) (some (.tmp 19)) none, type := 22, pos := "mux.go:86", after := #[{ on := 2, ground := .data }, { on := 3, ground := .data }, { on := 8, ground := .data }], guard := none }).run Try.prog w = .ok (.value (.slice (some ⟨lb, lo, none⟩) n cl)) w := by
  have hz : ∀ w : World, (sizeOf (Try.prog.elem 22)).run Try.prog w = .ok 1 w := fun w => by kernel_rfl
  have e : (Instr.slice 22 (.slice (some ⟨lb, lo, none⟩) n cl) (some (.int .i64 0)) (some (.int .i64 (n : Int))) none).run Try.prog w = .ok (.slice (some ⟨lb, lo, none⟩) n cl) w := by
    have E := run_slice_lh (P := Try.prog) (w := w) 22 (some ⟨lb, lo, none⟩) n cl (by kernel_rfl) .i64 .i64 0 (n : Int) (by omega) (by omega) (by omega)
    rw [E, hz]
    show Result.ok _ w = _
    rw [slicedN]
  simp [execOp, h1, h2, h3, go_sem, e]
end
section
variable {lb lo n cl : Nat} {X : Sh} {St : Goroutine → World → Prop} {m : Nat}
set_option maxRecDepth 100000 in
set_option maxHeartbeats 1000000 in
/-- From Gather's entry to its call of atOnce. -/
theorem gatherInN (h1 : 1 ≤ n) (h5 : n ≤ 500) (hcl : n ≤ cl) {cs : List Frame} {w v : World} (hl : Like (X) w v) {cB cL : Code} (hcB : gaB = cB) (hcL : gaL = cL)
    (hnext : ∀ (tg : Array Value) (w' v' : World), FGN lb lo n cl tg → Like (X) w' v' → v'.heap = v.heap →
      SG (X) St m (G ((base 26).at { tmps := #[nilS, .int .i64 0, .slice (some ⟨lb, lo, none⟩) n cl] ++ Array.replicate 76 undef, defers := [] } [.code atB])
        ((base 9).at ⟨tg, []⟩ (.inRegion (ga5 cL) [10, 11] :: .inBlock 1 :: .code (ga4 cL) :: .inLoop cL :: .inBlock 0 :: .code (gaE cB) :: []) :: cs)) w') :
    SG (X) St (m + 60) (G ((base 9).at { tmps := #[.slice (some ⟨lb, lo, none⟩) n cl] ++ Array.replicate 22 undef, defers := [] } [.code cB]) cs) w := by
  conv at hcL => lhs; whnf
  subst hcL
  conv at hcB => lhs; whnf
  subst hcB
  refine SG.le (m := 1 + 2 + (1 + 2 + (1 + 2 + (4 + 2 + ((m + 1) + 1 + 1 + 1 + 1 + 1 + 1 + 1 + 1 + 1 + 1 + 1 + 1 + 1 + 1 + 1) + 1 + 1 + 1 + 1) + 1 + 1) + 1) + 1) ?_ (by omega)
  refine SG.seq ?_
  have e0 : (#[.slice (some ⟨lb, lo, none⟩) n cl] ++ Array.replicate 22 undef : Array Value) = #[.slice (some ⟨lb, lo, none⟩) n cl, undef, undef, undef, undef, undef, undef, undef, undef, undef, undef, undef, undef, undef, undef, undef, undef, undef, undef, undef, undef, undef, undef] := by kernel_rfl
  rw [e0]
  refine SG.region (m := 1 + 2 + (1 + 2 + (4 + 2 + ((m + 1) + 1 + 1 + 1 + 1 + 1 + 1 + 1 + 1 + 1 + 1 + 1 + 1 + 1 + 1 + 1) + 1 + 1 + 1 + 1) + 1 + 1) + 1) (R := fun t v' => t = #[.slice (some ⟨lb, lo, none⟩) n cl, undef, nilS, undef, undef, undef, undef, undef, undef, undef, undef, undef, undef, undef, undef, undef, undef, undef, undef, undef, undef, undef, undef] ∧ v'.heap = v.heap)
    rfl (by kernel_rfl) rfl hl (fun v1 h1 => ?_) (fun a4 w4 v4 hd hl4 hR4 => ?_)
  · have hh := Lib.hid (like_same hl h1)
    clear hl hnext
    go_wp2
    exact hh.out
  obtain ⟨t4, d4⟩ := a4
  obtain rfl : d4 = [] := hd
  obtain ⟨ht, e4⟩ := hR4
  have ht1 : t4 = #[.slice (some ⟨lb, lo, none⟩) n cl, undef, nilS, undef, undef, undef, undef, undef, undef, undef, undef, undef, undef, undef, undef, undef, undef, undef, undef, undef, undef, undef, undef] := ht
  subst ht1
  clear ht
  refine SG.seq ?_
  refine SG.region (m := 1 + 2 + (4 + 2 + ((m + 1) + 1 + 1 + 1 + 1 + 1 + 1 + 1 + 1 + 1 + 1 + 1 + 1 + 1 + 1 + 1) + 1 + 1 + 1 + 1) + 1 + 1) (R := fun t v' => t = #[.slice (some ⟨lb, lo, none⟩) n cl, undef, nilS, nilS, undef, undef, undef, undef, undef, undef, undef, undef, undef, undef, undef, undef, undef, undef, undef, undef, undef, undef, undef] ∧ v'.heap = v.heap)
    rfl (by kernel_rfl) rfl hl4 (fun v1 h1 => ?_) (fun a5 w5 v5 hd hl5 hR5 => ?_)
  · have hh := Lib.hid ((like_same hl4 h1).trans e4)
    clear hl4 hnext
    go_wp2
    exact hh.out
  obtain ⟨t5, d5⟩ := a5
  obtain rfl : d5 = [] := hd
  obtain ⟨ht, e5⟩ := hR5
  have ht1 : t5 = #[.slice (some ⟨lb, lo, none⟩) n cl, undef, nilS, nilS, undef, undef, undef, undef, undef, undef, undef, undef, undef, undef, undef, undef, undef, undef, undef, undef, undef, undef, undef] := ht
  subst ht1
  clear ht
  refine SG.seq ?_
  refine SG.seq ?_
  refine SG.region (m := 4 + 2 + ((m + 1) + 1 + 1 + 1 + 1 + 1 + 1 + 1 + 1 + 1 + 1 + 1 + 1 + 1 + 1 + 1) + 1 + 1 + 1 + 1) (R := fun t v' => t = #[.slice (some ⟨lb, lo, none⟩) n cl, undef, nilS, nilS, .int .i64 0, undef, undef, undef, undef, undef, undef, undef, undef, undef, undef, undef, undef, undef, undef, undef, undef, undef, undef] ∧ v'.heap = v.heap)
    rfl (by kernel_rfl) rfl hl5 (fun v1 h1 => ?_) (fun a6 w6 v6 hd hl6 hR6 => ?_)
  · have hh := Lib.hid ((like_same hl5 h1).trans e5)
    clear hl5 hnext
    go_wp2
    exact hh.out
  obtain ⟨t6, d6⟩ := a6
  obtain rfl : d6 = [] := hd
  obtain ⟨ht, e6⟩ := hR6
  have ht1 : t6 = #[.slice (some ⟨lb, lo, none⟩) n cl, undef, nilS, nilS, .int .i64 0, undef, undef, undef, undef, undef, undef, undef, undef, undef, undef, undef, undef, undef, undef, undef, undef, undef, undef] := ht
  subst ht1
  clear ht
  refine SG.block ?_
  refine SG.loop ?_
  refine SG.seq ?_
  refine SG.seq ?_
  refine SG.region (m := (m + 1) + 1 + 1 + 1 + 1 + 1 + 1 + 1 + 1 + 1 + 1 + 1 + 1 + 1 + 1 + 1) (R := fun t v' => t = #[.slice (some ⟨lb, lo, none⟩) n cl, undef, nilS, nilS, .int .i64 0, .int .i64 0, .slice (some ⟨lb, lo, none⟩) n cl, .int .i64 (n : Int), .bool true, undef, undef, undef, undef, undef, undef, undef, undef, undef, undef, undef, undef, undef, undef] ∧ v'.heap = v.heap)
    rfl (by kernel_rfl) rfl hl6 (fun v1 h1' => ?_) (fun a7 w7 v7 hd hl7 hR7 => ?_)
  · have hh := Lib.hid ((like_same hl6 h1').trans e6)
    have hc : (0 : Int) < (n : Int) := by omega
    clear hl6 hnext
    go_wp2
    exact ⟨by omega, hh.out⟩
  obtain ⟨t7, d7⟩ := a7
  obtain rfl : d7 = [] := hd
  obtain ⟨ht, e7⟩ := hR7
  have ht1 : t7 = #[.slice (some ⟨lb, lo, none⟩) n cl, undef, nilS, nilS, .int .i64 0, .int .i64 0, .slice (some ⟨lb, lo, none⟩) n cl, .int .i64 (n : Int), .bool true, undef, undef, undef, undef, undef, undef, undef, undef, undef, undef, undef, undef, undef, undef] := ht
  subst ht1
  clear ht
  refine SG.condT rfl ?_
  refine SG.skip ?_
  refine SG.seq ?_
  refine SG.block ?_
  refine SG.reg ?_
  refine SG.pure (y := nilS) rfl rfl rfl (fun w => by rfl) ?_
  show SG (X) St _ (G ((base 9).at ⟨#[.slice (some ⟨lb, lo, none⟩) n cl, undef, nilS, nilS, .int .i64 0, .int .i64 0, .slice (some ⟨lb, lo, none⟩) n cl, .int .i64 (n : Int), .bool true, undef, undef, nilS, undef, undef, undef, undef, undef, undef, undef, undef, undef, undef, undef], []⟩ _) _) w7
  refine SG.pure (y := .int .i64 0) rfl rfl rfl (fun w => by rfl) ?_
  show SG (X) St _ (G ((base 9).at ⟨#[.slice (some ⟨lb, lo, none⟩) n cl, undef, nilS, nilS, .int .i64 0, .int .i64 0, .slice (some ⟨lb, lo, none⟩) n cl, .int .i64 (n : Int), .bool true, undef, undef, nilS, .int .i64 0, undef, undef, undef, undef, undef, undef, undef, undef, undef, undef], []⟩ _) _) w7
  refine SG.pure (y := .slice (some ⟨lb, lo, none⟩) n cl) rfl rfl rfl (fun w => by rfl) ?_
  show SG (X) St _ (G ((base 9).at ⟨#[.slice (some ⟨lb, lo, none⟩) n cl, undef, nilS, nilS, .int .i64 0, .int .i64 0, .slice (some ⟨lb, lo, none⟩) n cl, .int .i64 (n : Int), .bool true, undef, undef, nilS, .int .i64 0, .slice (some ⟨lb, lo, none⟩) n cl, undef, undef, undef, undef, undef, undef, undef, undef, undef], []⟩ _) _) w7
  refine SG.pure (y := .int .i64 0) rfl rfl rfl (fun w => by rfl) ?_
  show SG (X) St _ (G ((base 9).at ⟨#[.slice (some ⟨lb, lo, none⟩) n cl, undef, nilS, nilS, .int .i64 0, .int .i64 0, .slice (some ⟨lb, lo, none⟩) n cl, .int .i64 (n : Int), .bool true, undef, undef, nilS, .int .i64 0, .slice (some ⟨lb, lo, none⟩) n cl, .int .i64 0, undef, undef, undef, undef, undef, undef, undef, undef], []⟩ _) _) w7
  refine SG.pure (y := .int .i64 0) rfl rfl rfl (fun w => by rfl) ?_
  show SG (X) St _ (G ((base 9).at ⟨#[.slice (some ⟨lb, lo, none⟩) n cl, undef, nilS, nilS, .int .i64 0, .int .i64 0, .slice (some ⟨lb, lo, none⟩) n cl, .int .i64 (n : Int), .bool true, undef, undef, nilS, .int .i64 0, .slice (some ⟨lb, lo, none⟩) n cl, .int .i64 0, .int .i64 0, undef, undef, undef, undef, undef, undef, undef], []⟩ _) _) w7
  refine SG.pure (y := .int .i64 1000) rfl rfl rfl (fun w => by rfl) ?_
  show SG (X) St _ (G ((base 9).at ⟨#[.slice (some ⟨lb, lo, none⟩) n cl, undef, nilS, nilS, .int .i64 0, .int .i64 0, .slice (some ⟨lb, lo, none⟩) n cl, .int .i64 (n : Int), .bool true, undef, undef, nilS, .int .i64 0, .slice (some ⟨lb, lo, none⟩) n cl, .int .i64 0, .int .i64 0, .int .i64 1000, undef, undef, undef, undef, undef, undef], []⟩ _) _) w7
  refine SG.pure (y := .slice (some ⟨lb, lo, none⟩) n cl) rfl rfl rfl (fun w => by rfl) ?_
  show SG (X) St _ (G ((base 9).at ⟨#[.slice (some ⟨lb, lo, none⟩) n cl, undef, nilS, nilS, .int .i64 0, .int .i64 0, .slice (some ⟨lb, lo, none⟩) n cl, .int .i64 (n : Int), .bool true, undef, undef, nilS, .int .i64 0, .slice (some ⟨lb, lo, none⟩) n cl, .int .i64 0, .int .i64 0, .int .i64 1000, .slice (some ⟨lb, lo, none⟩) n cl, undef, undef, undef, undef, undef], []⟩ _) _) w7
  refine SG.one (R := fun y v' => y = .int .i64 (n : Int) ∧ v'.heap = v7.heap) rfl rfl rfl (by kernel_rfl) hl7 (fun v1 h1 => ⟨_, _, .inl (lnN v1 _ rfl), rfl, like_same hl7 h1⟩) (fun y1 w8 v8 hl8 hR8 => ?_)
  obtain ⟨rfl, e8⟩ := hR8
  show SG (X) St _ (G ((base 9).at ⟨#[.slice (some ⟨lb, lo, none⟩) n cl, undef, nilS, nilS, .int .i64 0, .int .i64 0, .slice (some ⟨lb, lo, none⟩) n cl, .int .i64 (n : Int), .bool true, undef, undef, nilS, .int .i64 0, .slice (some ⟨lb, lo, none⟩) n cl, .int .i64 0, .int .i64 0, .int .i64 1000, .slice (some ⟨lb, lo, none⟩) n cl, .int .i64 (n : Int), undef, undef, undef, undef], []⟩ _) _) w8
  refine SG.one (R := fun y v' => y = .int .i64 (n : Int) ∧ v'.heap = v8.heap) rfl rfl rfl (by kernel_rfl) hl8 (fun v1 h1 => ⟨_, _, .inl (mnN v1 _ h5 rfl rfl), rfl, like_same hl8 h1⟩) (fun y1 w9 v9 hl9 hR9 => ?_)
  obtain ⟨rfl, e9⟩ := hR9
  show SG (X) St _ (G ((base 9).at ⟨#[.slice (some ⟨lb, lo, none⟩) n cl, undef, nilS, nilS, .int .i64 0, .int .i64 0, .slice (some ⟨lb, lo, none⟩) n cl, .int .i64 (n : Int), .bool true, undef, undef, nilS, .int .i64 0, .slice (some ⟨lb, lo, none⟩) n cl, .int .i64 0, .int .i64 0, .int .i64 1000, .slice (some ⟨lb, lo, none⟩) n cl, .int .i64 (n : Int), .int .i64 (n : Int), undef, undef, undef], []⟩ _) _) w9
  refine SG.one (R := fun y v' => y = .slice (some ⟨lb, lo, none⟩) n cl ∧ v'.heap = v9.heap) rfl rfl rfl (by kernel_rfl) hl9 (fun v1 h1 => ⟨_, _, .inl (slN v1 _ hcl rfl rfl rfl), rfl, like_same hl9 h1⟩) (fun y1 w10 v10 hl10 hR10 => ?_)
  obtain ⟨rfl, e10⟩ := hR10
  show SG (X) St _ (G ((base 9).at ⟨#[.slice (some ⟨lb, lo, none⟩) n cl, undef, nilS, nilS, .int .i64 0, .int .i64 0, .slice (some ⟨lb, lo, none⟩) n cl, .int .i64 (n : Int), .bool true, undef, undef, nilS, .int .i64 0, .slice (some ⟨lb, lo, none⟩) n cl, .int .i64 0, .int .i64 0, .int .i64 1000, .slice (some ⟨lb, lo, none⟩) n cl, .int .i64 (n : Int), .int .i64 (n : Int), .slice (some ⟨lb, lo, none⟩) n cl, undef, undef], []⟩ _) _) w10
  refine SG.call' (f := 26) (vals := #[nilS, .int .i64 0, .slice (some ⟨lb, lo, none⟩) n cl]) rfl rfl rfl rfl Try.func26 (by kernel_rfl) rfl (by simp [Act.eval, Act.put]) ?_
  exact hnext _ w10 v10 (.mk ..) hl10 (e10.trans (e9.trans (e8.trans e7)))
set_option maxRecDepth 100000 in
set_option maxHeartbeats 1000000 in
theorem atInN {cs : List Frame} {w v : World} (hl : Like (X) w v) {cB : Code} (hcB : atB = cB)
    (hnext : ∀ (tA : Array Value) (w' v' : World), FN0 lb lo n cl tA → Like (X) w' v' → v'.heap = v.heap →
      SG (X) St m (G ((base 26).at ⟨tA, []⟩ (.inRegion (aw1 cB) [0] :: .code (aw2 cB) :: [])) cs) w') :
    SG (X) St (m + 10) (G ((base 26).at { tmps := #[nilS, .int .i64 0, .slice (some ⟨lb, lo, none⟩) n cl] ++ Array.replicate 76 undef, defers := [] } [.code cB]) cs) w := by
  conv at hcB => lhs; whnf
  subst hcB
  refine SG.le (m := 1 + 2 + (m + 1 + 1) + 1) ?_ (by omega)
  refine SG.seq ?_
  have e0 : (#[nilS, .int .i64 0, .slice (some ⟨lb, lo, none⟩) n cl] ++ Array.replicate 76 undef : Array Value) = #[nilS, .int .i64 0, .slice (some ⟨lb, lo, none⟩) n cl, undef, undef, undef, undef, undef, undef, undef, undef, undef, undef, undef, undef, undef, undef, undef, undef, undef, undef, undef, undef, undef, undef, undef, undef, undef, undef, undef, undef, undef, undef, undef, undef, undef, undef, undef, undef, undef, undef, undef, undef, undef, undef, undef, undef, undef, undef, undef, undef, undef, undef, undef, undef, undef, undef, undef, undef, undef, undef, undef, undef, undef, undef, undef, undef, undef, undef, undef, undef, undef, undef, undef, undef, undef, undef, undef, undef] := by kernel_rfl
  rw [e0]
  refine SG.region (m := m + 1 + 1) (R := fun t v' => t = #[nilS, .int .i64 0, .slice (some ⟨lb, lo, none⟩) n cl, undef, undef, undef, nilS, undef, undef, undef, undef, undef, undef, undef, undef, undef, undef, undef, undef, undef, undef, undef, undef, undef, undef, undef, undef, undef, undef, undef, undef, undef, undef, undef, undef, undef, undef, undef, undef, undef, undef, undef, undef, undef, undef, undef, undef, undef, undef, undef, undef, undef, undef, undef, undef, undef, undef, undef, undef, undef, undef, undef, undef, undef, undef, undef, undef, undef, undef, undef, undef, undef, undef, undef, undef, undef, undef, undef, undef] ∧ v'.heap = v.heap)
    rfl (by kernel_rfl) rfl hl (fun v1 h1 => ?_) (fun a4 w4 v4 hd hl4 hR4 => ?_)
  · have hh := Lib.hid (like_same hl h1)
    clear hl hnext
    go_wp2
    exact hh.out
  obtain ⟨t4, d4⟩ := a4
  obtain rfl : d4 = [] := hd
  obtain ⟨ht, e4⟩ := hR4
  have ht1 : t4 = #[nilS, .int .i64 0, .slice (some ⟨lb, lo, none⟩) n cl, undef, undef, undef, nilS, undef, undef, undef, undef, undef, undef, undef, undef, undef, undef, undef, undef, undef, undef, undef, undef, undef, undef, undef, undef, undef, undef, undef, undef, undef, undef, undef, undef, undef, undef, undef, undef, undef, undef, undef, undef, undef, undef, undef, undef, undef, undef, undef, undef, undef, undef, undef, undef, undef, undef, undef, undef, undef, undef, undef, undef, undef, undef, undef, undef, undef, undef, undef, undef, undef, undef, undef, undef, undef, undef, undef, undef] := ht
  subst ht1
  clear ht
  refine SG.seq ?_
  refine SG.reg ?_
  exact hnext _ w4 v4 (.mk ..) hl4 e4
end
end Go.Proofs.Ytcefdleidkmomaa.Mx

/- Gather from its entry to its call of atOnce; atOnce to the making of its group. Conditions: each theorem's own. -/
namespace Go.Proofs.Ytcefdleidkmomaa.Mx
open Go.Conc Go.Conc.Lib Br Go.RowKit Hp Rw Ro So
open Go.ConcN (sumTo upd sumTo_upd upd_ne upd_same)
section
variable {H : Nat} {vI W : World} {St : Goroutine → World → Prop} {m : Nat}
set_option maxRecDepth 100000 in
set_option maxHeartbeats 1000000 in
/-- From Gather's entry to its call of atOnce. -/
theorem gatherIn {cs : List Frame} {w v : World} (hl : Like (sh0 W) w v) {cB cL : Code} (hcB : gaB = cB) (hcL : gaL = cL)
    (hnext : ∀ (tg : Array Value) (w' v' : World), FG H tg → Like (sh0 W) w' v' → v'.heap = v.heap →
      SG (sh0 W) St m (G ((base 26).at { tmps := #[nilS, .int .i64 0, .slice (some ⟨H + 2, 0, none⟩) 3 3] ++ Array.replicate 76 undef, defers := [] } [.code atB])
        ((base 9).at ⟨tg, []⟩ (.inRegion (ga5 cL) [10, 11] :: .inBlock 1 :: .code (ga4 cL) :: .inLoop cL :: .inBlock 0 :: .code (gaE cB) :: []) :: cs)) w') :
    SG (sh0 W) St (m + 60) (G ((base 9).at { tmps := #[.slice (some ⟨H + 2, 0, none⟩) 3 3] ++ Array.replicate 22 undef, defers := [] } [.code cB]) cs) w := by
  conv at hcL => lhs; whnf
  subst hcL
  conv at hcB => lhs; whnf
  subst hcB
  refine SG.le (m := 1 + 2 + (1 + 2 + (1 + 2 + (4 + 2 + ((m + 1) + 1 + 1 + 1 + 1 + 1 + 1 + 1 + 1 + 1 + 1 + 1 + 1 + 1 + 1 + 1) + 1 + 1 + 1 + 1) + 1 + 1) + 1) + 1) ?_ (by omega)
  refine SG.seq ?_
  have e0 : (#[.slice (some ⟨H + 2, 0, none⟩) 3 3] ++ Array.replicate 22 undef : Array Value) = #[.slice (some ⟨H + 2, 0, none⟩) 3 3, undef, undef, undef, undef, undef, undef, undef, undef, undef, undef, undef, undef, undef, undef, undef, undef, undef, undef, undef, undef, undef, undef] := by kernel_rfl
  rw [e0]
  refine SG.region (m := 1 + 2 + (1 + 2 + (4 + 2 + ((m + 1) + 1 + 1 + 1 + 1 + 1 + 1 + 1 + 1 + 1 + 1 + 1 + 1 + 1 + 1 + 1) + 1 + 1 + 1 + 1) + 1 + 1) + 1) (R := fun t v' => t = #[.slice (some ⟨H + 2, 0, none⟩) 3 3, undef, nilS, undef, undef, undef, undef, undef, undef, undef, undef, undef, undef, undef, undef, undef, undef, undef, undef, undef, undef, undef, undef] ∧ v'.heap = v.heap)
    rfl (by kernel_rfl) rfl hl (fun v1 h1 => ?_) (fun a4 w4 v4 hd hl4 hR4 => ?_)
  · have hh := Lib.hid (like_same hl h1)
    clear hl hnext
    go_wp2
    exact hh.out
  obtain ⟨t4, d4⟩ := a4
  obtain rfl : d4 = [] := hd
  obtain ⟨ht, e4⟩ := hR4
  have ht1 : t4 = #[.slice (some ⟨H + 2, 0, none⟩) 3 3, undef, nilS, undef, undef, undef, undef, undef, undef, undef, undef, undef, undef, undef, undef, undef, undef, undef, undef, undef, undef, undef, undef] := ht
  subst ht1
  clear ht
  refine SG.seq ?_
  refine SG.region (m := 1 + 2 + (4 + 2 + ((m + 1) + 1 + 1 + 1 + 1 + 1 + 1 + 1 + 1 + 1 + 1 + 1 + 1 + 1 + 1 + 1) + 1 + 1 + 1 + 1) + 1 + 1) (R := fun t v' => t = #[.slice (some ⟨H + 2, 0, none⟩) 3 3, undef, nilS, nilS, undef, undef, undef, undef, undef, undef, undef, undef, undef, undef, undef, undef, undef, undef, undef, undef, undef, undef, undef] ∧ v'.heap = v.heap)
    rfl (by kernel_rfl) rfl hl4 (fun v1 h1 => ?_) (fun a5 w5 v5 hd hl5 hR5 => ?_)
  · have hh := Lib.hid ((like_same hl4 h1).trans e4)
    clear hl4 hnext
    go_wp2
    exact hh.out
  obtain ⟨t5, d5⟩ := a5
  obtain rfl : d5 = [] := hd
  obtain ⟨ht, e5⟩ := hR5
  have ht1 : t5 = #[.slice (some ⟨H + 2, 0, none⟩) 3 3, undef, nilS, nilS, undef, undef, undef, undef, undef, undef, undef, undef, undef, undef, undef, undef, undef, undef, undef, undef, undef, undef, undef] := ht
  subst ht1
  clear ht
  refine SG.seq ?_
  refine SG.seq ?_
  refine SG.region (m := 4 + 2 + ((m + 1) + 1 + 1 + 1 + 1 + 1 + 1 + 1 + 1 + 1 + 1 + 1 + 1 + 1 + 1 + 1) + 1 + 1 + 1 + 1) (R := fun t v' => t = #[.slice (some ⟨H + 2, 0, none⟩) 3 3, undef, nilS, nilS, .int .i64 0, undef, undef, undef, undef, undef, undef, undef, undef, undef, undef, undef, undef, undef, undef, undef, undef, undef, undef] ∧ v'.heap = v.heap)
    rfl (by kernel_rfl) rfl hl5 (fun v1 h1 => ?_) (fun a6 w6 v6 hd hl6 hR6 => ?_)
  · have hh := Lib.hid ((like_same hl5 h1).trans e5)
    clear hl5 hnext
    go_wp2
    exact hh.out
  obtain ⟨t6, d6⟩ := a6
  obtain rfl : d6 = [] := hd
  obtain ⟨ht, e6⟩ := hR6
  have ht1 : t6 = #[.slice (some ⟨H + 2, 0, none⟩) 3 3, undef, nilS, nilS, .int .i64 0, undef, undef, undef, undef, undef, undef, undef, undef, undef, undef, undef, undef, undef, undef, undef, undef, undef, undef] := ht
  subst ht1
  clear ht
  refine SG.block ?_
  refine SG.loop ?_
  refine SG.seq ?_
  refine SG.seq ?_
  refine SG.region (m := (m + 1) + 1 + 1 + 1 + 1 + 1 + 1 + 1 + 1 + 1 + 1 + 1 + 1 + 1 + 1 + 1) (R := fun t v' => t = #[.slice (some ⟨H + 2, 0, none⟩) 3 3, undef, nilS, nilS, .int .i64 0, .int .i64 0, .slice (some ⟨H + 2, 0, none⟩) 3 3, .int .i64 3, .bool true, undef, undef, undef, undef, undef, undef, undef, undef, undef, undef, undef, undef, undef, undef] ∧ v'.heap = v.heap)
    rfl (by kernel_rfl) rfl hl6 (fun v1 h1 => ?_) (fun a7 w7 v7 hd hl7 hR7 => ?_)
  · have hh := Lib.hid ((like_same hl6 h1).trans e6)
    clear hl6 hnext
    go_wp2
    exact hh.out
  obtain ⟨t7, d7⟩ := a7
  obtain rfl : d7 = [] := hd
  obtain ⟨ht, e7⟩ := hR7
  have ht1 : t7 = #[.slice (some ⟨H + 2, 0, none⟩) 3 3, undef, nilS, nilS, .int .i64 0, .int .i64 0, .slice (some ⟨H + 2, 0, none⟩) 3 3, .int .i64 3, .bool true, undef, undef, undef, undef, undef, undef, undef, undef, undef, undef, undef, undef, undef, undef] := ht
  subst ht1
  clear ht
  refine SG.condT rfl ?_
  refine SG.skip ?_
  refine SG.seq ?_
  refine SG.block ?_
  refine SG.reg ?_
  refine SG.pure (y := nilS) rfl rfl rfl (fun w => by rfl) ?_
  show SG (sh0 W) St _ (G ((base 9).at ⟨#[.slice (some ⟨H + 2, 0, none⟩) 3 3, undef, nilS, nilS, .int .i64 0, .int .i64 0, .slice (some ⟨H + 2, 0, none⟩) 3 3, .int .i64 3, .bool true, undef, undef, nilS, undef, undef, undef, undef, undef, undef, undef, undef, undef, undef, undef], []⟩ _) _) w7
  refine SG.pure (y := .int .i64 0) rfl rfl rfl (fun w => by rfl) ?_
  show SG (sh0 W) St _ (G ((base 9).at ⟨#[.slice (some ⟨H + 2, 0, none⟩) 3 3, undef, nilS, nilS, .int .i64 0, .int .i64 0, .slice (some ⟨H + 2, 0, none⟩) 3 3, .int .i64 3, .bool true, undef, undef, nilS, .int .i64 0, undef, undef, undef, undef, undef, undef, undef, undef, undef, undef], []⟩ _) _) w7
  refine SG.pure (y := .slice (some ⟨H + 2, 0, none⟩) 3 3) rfl rfl rfl (fun w => by rfl) ?_
  show SG (sh0 W) St _ (G ((base 9).at ⟨#[.slice (some ⟨H + 2, 0, none⟩) 3 3, undef, nilS, nilS, .int .i64 0, .int .i64 0, .slice (some ⟨H + 2, 0, none⟩) 3 3, .int .i64 3, .bool true, undef, undef, nilS, .int .i64 0, .slice (some ⟨H + 2, 0, none⟩) 3 3, undef, undef, undef, undef, undef, undef, undef, undef, undef], []⟩ _) _) w7
  refine SG.pure (y := .int .i64 0) rfl rfl rfl (fun w => by rfl) ?_
  show SG (sh0 W) St _ (G ((base 9).at ⟨#[.slice (some ⟨H + 2, 0, none⟩) 3 3, undef, nilS, nilS, .int .i64 0, .int .i64 0, .slice (some ⟨H + 2, 0, none⟩) 3 3, .int .i64 3, .bool true, undef, undef, nilS, .int .i64 0, .slice (some ⟨H + 2, 0, none⟩) 3 3, .int .i64 0, undef, undef, undef, undef, undef, undef, undef, undef], []⟩ _) _) w7
  refine SG.pure (y := .int .i64 0) rfl rfl rfl (fun w => by rfl) ?_
  show SG (sh0 W) St _ (G ((base 9).at ⟨#[.slice (some ⟨H + 2, 0, none⟩) 3 3, undef, nilS, nilS, .int .i64 0, .int .i64 0, .slice (some ⟨H + 2, 0, none⟩) 3 3, .int .i64 3, .bool true, undef, undef, nilS, .int .i64 0, .slice (some ⟨H + 2, 0, none⟩) 3 3, .int .i64 0, .int .i64 0, undef, undef, undef, undef, undef, undef, undef], []⟩ _) _) w7
  refine SG.pure (y := .int .i64 1000) rfl rfl rfl (fun w => by rfl) ?_
  show SG (sh0 W) St _ (G ((base 9).at ⟨#[.slice (some ⟨H + 2, 0, none⟩) 3 3, undef, nilS, nilS, .int .i64 0, .int .i64 0, .slice (some ⟨H + 2, 0, none⟩) 3 3, .int .i64 3, .bool true, undef, undef, nilS, .int .i64 0, .slice (some ⟨H + 2, 0, none⟩) 3 3, .int .i64 0, .int .i64 0, .int .i64 1000, undef, undef, undef, undef, undef, undef], []⟩ _) _) w7
  refine SG.pure (y := .slice (some ⟨H + 2, 0, none⟩) 3 3) rfl rfl rfl (fun w => by rfl) ?_
  show SG (sh0 W) St _ (G ((base 9).at ⟨#[.slice (some ⟨H + 2, 0, none⟩) 3 3, undef, nilS, nilS, .int .i64 0, .int .i64 0, .slice (some ⟨H + 2, 0, none⟩) 3 3, .int .i64 3, .bool true, undef, undef, nilS, .int .i64 0, .slice (some ⟨H + 2, 0, none⟩) 3 3, .int .i64 0, .int .i64 0, .int .i64 1000, .slice (some ⟨H + 2, 0, none⟩) 3 3, undef, undef, undef, undef, undef], []⟩ _) _) w7
  refine SG.one (R := fun y v' => y = .int .i64 3 ∧ v'.heap = v7.heap) rfl rfl rfl (by kernel_rfl) hl7 (fun v1 h1 => ⟨_, _, .inl (ln1 v1 _ rfl), rfl, like_same hl7 h1⟩) (fun y1 w8 v8 hl8 hR8 => ?_)
  obtain ⟨rfl, e8⟩ := hR8
  show SG (sh0 W) St _ (G ((base 9).at ⟨#[.slice (some ⟨H + 2, 0, none⟩) 3 3, undef, nilS, nilS, .int .i64 0, .int .i64 0, .slice (some ⟨H + 2, 0, none⟩) 3 3, .int .i64 3, .bool true, undef, undef, nilS, .int .i64 0, .slice (some ⟨H + 2, 0, none⟩) 3 3, .int .i64 0, .int .i64 0, .int .i64 1000, .slice (some ⟨H + 2, 0, none⟩) 3 3, .int .i64 3, undef, undef, undef, undef], []⟩ _) _) w8
  refine SG.one (R := fun y v' => y = .int .i64 3 ∧ v'.heap = v8.heap) rfl rfl rfl (by kernel_rfl) hl8 (fun v1 h1 => ⟨_, _, .inl (mn1 v1 _ rfl rfl), rfl, like_same hl8 h1⟩) (fun y1 w9 v9 hl9 hR9 => ?_)
  obtain ⟨rfl, e9⟩ := hR9
  show SG (sh0 W) St _ (G ((base 9).at ⟨#[.slice (some ⟨H + 2, 0, none⟩) 3 3, undef, nilS, nilS, .int .i64 0, .int .i64 0, .slice (some ⟨H + 2, 0, none⟩) 3 3, .int .i64 3, .bool true, undef, undef, nilS, .int .i64 0, .slice (some ⟨H + 2, 0, none⟩) 3 3, .int .i64 0, .int .i64 0, .int .i64 1000, .slice (some ⟨H + 2, 0, none⟩) 3 3, .int .i64 3, .int .i64 3, undef, undef, undef], []⟩ _) _) w9
  refine SG.one (R := fun y v' => y = .slice (some ⟨H + 2, 0, none⟩) 3 3 ∧ v'.heap = v9.heap) rfl rfl rfl (by kernel_rfl) hl9 (fun v1 h1 => ⟨_, _, .inl (sl1 v1 _ rfl rfl rfl), rfl, like_same hl9 h1⟩) (fun y1 w10 v10 hl10 hR10 => ?_)
  obtain ⟨rfl, e10⟩ := hR10
  show SG (sh0 W) St _ (G ((base 9).at ⟨#[.slice (some ⟨H + 2, 0, none⟩) 3 3, undef, nilS, nilS, .int .i64 0, .int .i64 0, .slice (some ⟨H + 2, 0, none⟩) 3 3, .int .i64 3, .bool true, undef, undef, nilS, .int .i64 0, .slice (some ⟨H + 2, 0, none⟩) 3 3, .int .i64 0, .int .i64 0, .int .i64 1000, .slice (some ⟨H + 2, 0, none⟩) 3 3, .int .i64 3, .int .i64 3, .slice (some ⟨H + 2, 0, none⟩) 3 3, undef, undef], []⟩ _) _) w10
  refine SG.call' (f := 26) (vals := #[nilS, .int .i64 0, .slice (some ⟨H + 2, 0, none⟩) 3 3]) rfl rfl rfl rfl Try.func26 (by kernel_rfl) rfl (by simp [Act.eval, Act.put]) ?_
  exact hnext _ w10 v10 (.mk ..) hl10 (e10.trans (e9.trans (e8.trans e7)))
end
end Go.Proofs.Ytcefdleidkmomaa.Mx

/- atOnce to the making of its group; awake's way in as one. Conditions: each theorem's own. -/
namespace Go.Proofs.Ytcefdleidkmomaa.Mx
open Go.Conc Go.Conc.Lib Br Go.RowKit Hp Rw Ro So
open Go.ConcN (sumTo upd sumTo_upd upd_ne upd_same)
section
variable {H : Nat} {vI W : World} {St : Goroutine → World → Prop} {m : Nat}
set_option maxRecDepth 100000 in
set_option maxHeartbeats 1000000 in
theorem atIn {cs : List Frame} {w v : World} (hl : Like (sh0 W) w v) {cB : Code} (hcB : atB = cB)
    (hnext : ∀ (tA : Array Value) (w' v' : World), FA0 H tA → Like (sh0 W) w' v' → v'.heap = v.heap →
      SG (sh0 W) St m (G ((base 26).at ⟨tA, []⟩ (.inRegion (aw1 cB) [0] :: .code (aw2 cB) :: [])) cs) w') :
    SG (sh0 W) St (m + 10) (G ((base 26).at { tmps := #[nilS, .int .i64 0, .slice (some ⟨H + 2, 0, none⟩) 3 3] ++ Array.replicate 76 undef, defers := [] } [.code cB]) cs) w := by
  conv at hcB => lhs; whnf
  subst hcB
  refine SG.le (m := 1 + 2 + (m + 1 + 1) + 1) ?_ (by omega)
  refine SG.seq ?_
  have e0 : (#[nilS, .int .i64 0, .slice (some ⟨H + 2, 0, none⟩) 3 3] ++ Array.replicate 76 undef : Array Value) = #[nilS, .int .i64 0, .slice (some ⟨H + 2, 0, none⟩) 3 3, undef, undef, undef, undef, undef, undef, undef, undef, undef, undef, undef, undef, undef, undef, undef, undef, undef, undef, undef, undef, undef, undef, undef, undef, undef, undef, undef, undef, undef, undef, undef, undef, undef, undef, undef, undef, undef, undef, undef, undef, undef, undef, undef, undef, undef, undef, undef, undef, undef, undef, undef, undef, undef, undef, undef, undef, undef, undef, undef, undef, undef, undef, undef, undef, undef, undef, undef, undef, undef, undef, undef, undef, undef, undef, undef, undef] := by kernel_rfl
  rw [e0]
  refine SG.region (m := m + 1 + 1) (R := fun t v' => t = #[nilS, .int .i64 0, .slice (some ⟨H + 2, 0, none⟩) 3 3, undef, undef, undef, nilS, undef, undef, undef, undef, undef, undef, undef, undef, undef, undef, undef, undef, undef, undef, undef, undef, undef, undef, undef, undef, undef, undef, undef, undef, undef, undef, undef, undef, undef, undef, undef, undef, undef, undef, undef, undef, undef, undef, undef, undef, undef, undef, undef, undef, undef, undef, undef, undef, undef, undef, undef, undef, undef, undef, undef, undef, undef, undef, undef, undef, undef, undef, undef, undef, undef, undef, undef, undef, undef, undef, undef, undef] ∧ v'.heap = v.heap)
    rfl (by kernel_rfl) rfl hl (fun v1 h1 => ?_) (fun a4 w4 v4 hd hl4 hR4 => ?_)
  · have hh := Lib.hid (like_same hl h1)
    clear hl hnext
    go_wp2
    exact hh.out
  obtain ⟨t4, d4⟩ := a4
  obtain rfl : d4 = [] := hd
  obtain ⟨ht, e4⟩ := hR4
  have ht1 : t4 = #[nilS, .int .i64 0, .slice (some ⟨H + 2, 0, none⟩) 3 3, undef, undef, undef, nilS, undef, undef, undef, undef, undef, undef, undef, undef, undef, undef, undef, undef, undef, undef, undef, undef, undef, undef, undef, undef, undef, undef, undef, undef, undef, undef, undef, undef, undef, undef, undef, undef, undef, undef, undef, undef, undef, undef, undef, undef, undef, undef, undef, undef, undef, undef, undef, undef, undef, undef, undef, undef, undef, undef, undef, undef, undef, undef, undef, undef, undef, undef, undef, undef, undef, undef, undef, undef, undef, undef, undef, undef] := ht
  subst ht1
  clear ht
  refine SG.seq ?_
  refine SG.reg ?_
  exact hnext _ w4 v4 (.mk ..) hl4 e4
/-- awake from its entry to the making of its group. -/
theorem awEnter {cs : List Frame} {w v : World} (hl : Like (sh0 W) w v) : SG (sh0 W) (AtAlloc v.heap.size v W cs) ((0 + 10 + 60) + 20) (G ((base 8).at { tmps := #[] ++ Array.replicate 79 undef, defers := [] } [.code awB]) cs) w := by
  refine awIn hl rfl rfl fun tw w1 v1 hw hl1 e1 => ?_
  refine gatherIn hl1 rfl rfl fun tg w2 v2 hg hl2 e2 => ?_
  refine atIn hl2 rfl fun tA w3 v3 hA hl3 e3 => ?_
  exact SG.stop fun w₁ hr => ⟨tA, tg, tw, v3, rfl, hA, hg, hw, (like_atR hr hl3).1, e3.trans (e2.trans e1)⟩
end
end Go.Proofs.Ytcefdleidkmomaa.Mx

/- awake's group: made, carried out, and awake at its return. Conditions: each theorem's own. -/
namespace Go.Proofs.Ytcefdleidkmomaa.Mx
open Go.Conc Go.Conc.Lib Br Go.RowKit Hp Rw Ro So
open Go.ConcR (WgAt wgBlock)
open Go.ConcN (sumTo upd sumTo_upd upd_ne upd_same)
/-- One step of a goroutine that is alone, without a word. -/
theorem solo_step {P : Program} {gs : Array Goroutine} {w : World} {sl : Option (Nat × Nat)} {t : Trace} {q : Nat → Nat} {g g' : Goroutine} {K : World → Prop} (hsz : gs.size = 1) (h0 : gs[0]? = some g) (hrun : g.status = .running) (hL : Leavers P t gs q)
    (hgo : ∀ d, ∃ w', stepG P true g (w.at d) = .go g' w' #[] ∧ K w') : ∃ N gs' w' sl', runNT P N (crowd gs w sl) t = (.next (crowd gs' w' sl'), t) ∧ gs'.size = 1 ∧ gs'[0]? = some g' ∧ Leavers P t gs' q ∧ K w' := by
  have haw : ∀ g ∈ gs, awake g := by
    intro g1 hg
    obtain ⟨i, hi, rfl⟩ := Array.mem_iff_getElem.1 hg
    obtain rfl : i = 0 := by omega
    have : gs[0] = g := by simpa [Array.getElem?_eq_getElem hi] using h0
    rw [this]; exact awake_of (.inl hrun)
  obtain ⟨i, g1, d, sl', hi, hg, hst⟩ := crowd_pick (P := P) (w := w) (sl := sl) haw ⟨0, _, h0, hrun⟩
  obtain rfl : i = 0 := by have := (Array.getElem?_eq_some_iff.1 hi).1; omega
  obtain rfl : g1 = g := by rw [h0] at hi; exact (Option.some.inj hi).symm
  obtain ⟨w', e, hK⟩ := hgo d
  have hrunT := runT_crowd_go (P := P) (sl := sl') (i := 0) hi (show stepG P (0 == 0) _ (w.at d) = _ from e)
  refine ⟨1, (gs.map (woken P g1 g' w')).setIfInBounds 0 g', w', sl', ?_, by simp [hsz], by simp [hsz], ⟨fun j y hj hy => ?_, fun j hj => ?_⟩, hK⟩
  · simp only [runNT, hst.trans hrunT]
    simp [MemOp.ofEvents]
  · have := (Array.getElem?_eq_some_iff.1 hy).1
    simp [hsz] at this
    omega
  · exact hL.above j (by simpa [hsz] using hj)
/-- An operation without a word, as a step. -/
theorem step_plain {b : Frame} {a : Act} {ops : Array Oper} {i : Nat} {rest : List Nat} {k : List Item} {cs : List Frame} {w w' : World} {o : Oper} {y : Value} (ho : ops[i]? = some o) (hw : Region.wanted o (yielded ops a.tmps) = true) (hb : b.kind = .normal) (hr : (execOp a.eval o).runT Try.prog w #[] = (.ok (.value y) w', #[])) :
    stepG Try.prog true (G (b.at a (.inRegion ops (i :: rest) :: k)) cs) w = .go (G (b.at (a.put o.dst y) (.inRegion ops rest :: k)) cs) w' #[] := by
  rw [stepG_oper ho hw]
  have hR : (execOp a.eval o).run Try.prog w = .ok (.value y) w' := by rw [← Sem.runT_fst Try.prog _ w #[], hr]
  have hE : (execOp a.eval o).events Try.prog w #[] = #[] := by unfold Sem.events; rw [hr]
  have hf : (b.at a (.inRegion ops (i :: rest) :: k)).finish y = b.at (a.put o.dst y) (.inRegion ops rest :: k) := by rw [Frame.finish_at, ho]; rfl
  have hk' : ((b.at a (.inRegion ops (i :: rest) :: k)).kind == CallKind.early) = false := by
    show (b.kind == CallKind.early) = false
    rw [hb]; rfl
  simp [stepG.apply, hR, hE, GStep.after, hk', G, hf, seen_nil]
theorem alW (w : World) (f : Operand → Value) : (execOp f { dst := some 7, op := .alloc 90, type := 0, pos := "mux.go:65", after := #[], guard := none }).runT Try.prog w #[] = (.ok (.value (.pointer (some ⟨w.heap.size, 0, none⟩))) (w.alloc (wgBlock lnk.tWg 0 0)), #[]) := by kernel_rfl
end Go.Proofs.Ytcefdleidkmomaa.Mx

/- awake's group: made, carried out, and awake at its return. Conditions: each theorem's own. -/
namespace Go.Proofs.Ytcefdleidkmomaa.Mx
open Go.Conc Go.Conc.Lib Br Go.RowKit Hp Rw Ro So
open Go.ConcR (WgAt wgBlock)
open Go.ConcN (sumTo upd sumTo_upd upd_ne upd_same)
theorem at2_eq : aw2 atB = at2 := by kernel_rfl
/-- The lone world of the phase. -/
def wM (H : Nat) (v : World) : World := { v.alloc (wgBlock lnk.tWg 0 0) with heap := (v.alloc (wgBlock lnk.tWg 0 0)).heap.setIfInBounds (H + 3) (.coro none) }
section
variable {H : Nat} {vI w v W : World}
theorem push_new {h : Array Obj} {o : Obj} {n : Nat} (hn : h.size = n) : (h.push o)[n]? = some o := by subst hn; simp
theorem s0_heap (hl : Like (sh0 W) w v) : v.heap = w.heap := Array.ext_getElem? fun b => hl.off b (fun f => f)
theorem wM_size (hs : v.heap.size = H + 3) : (wM H v).heap.size = H + 4 := by
  show ((v.heap.push _).setIfInBounds (H + 3) _).size = _
  simp [hs]
theorem wM_old (hs : v.heap.size = H + 3) {b : Nat} (hb : b < H + 3) : (wM H v).heap[b]? = v.heap[b]? := by
  show ((v.heap.push _).setIfInBounds (H + 3) _)[b]? = _
  rw [Array.getElem?_setIfInBounds_ne (by omega), push_old (by omega)]
theorem like_wM (hl : Like (sh0 W) w v) (hs : v.heap.size = H + 3) (d : Nat) : Like ((gA H).Sd (sh0 W) 0) ((w.at d).alloc (wgBlock lnk.tWg 0 0)) (wM H v) := by
  have hw : w.heap.size = H + 3 := by rw [← hl.size, hs]
  have hsd : ∀ b, (gA H).Sd (sh0 W) 0 b ↔ b = H + 3 := fun b => ⟨fun h => by
    rcases h with h | h | ⟨k, h, _⟩
    · exact h.elim
    · exact h
    · omega, fun h => .inr (.inl h)⟩
  refine ⟨by rw [wM_size hs]; show _ = (w.heap.push _).size; simp [hw], hl.os, hl.out, hl.osx, hl.outx, fun b hb => ?_, fun b hb => ?_, fun b hb => ?_⟩
  · have hb' : b ≠ H + 3 := fun e => hb ((hsd b).2 e)
    show ((v.heap.push _).setIfInBounds (H + 3) _)[b]? = (w.heap.push _)[b]?
    rw [Array.getElem?_setIfInBounds_ne (by omega), s0_heap hl]
  · obtain rfl := (hsd b).1 hb
    show ((v.heap.push _).setIfInBounds (H + 3) _)[H + 3]? = _
    rw [Array.getElem?_setIfInBounds_self_of_lt (by simp [hs])]
  · obtain rfl := (hsd b).1 hb
    refine ⟨wgBlock lnk.tWg 0 0, ?_, .inl ⟨_, _, rfl, by simp⟩⟩
    show (w.heap.push _)[H + 3]? = _
    rw [← hw]; simp
theorem wa_wM (hs : vI.heap.size = H) (e : v.heap = ((vI.heap.push (.cells #[.int .i64 1, .int .i64 2] 3)).push (.cells #[.int .i64 3] 3)).push (.cells (rowsA H).toArray 28)) : WA H (wM H v) ∧ ∀ b, b < H → (wM H v).heap[b]? = vI.heap[b]? := by
  have hv : v.heap.size = H + 3 := by rw [e]; simp [hs]
  have p0 : v.heap[H]? = some (.cells #[.int .i64 1, .int .i64 2] 3) := by
    rw [e, push_old (by simp only [Array.size_push]; omega), push_old (by simp only [Array.size_push]; omega), push_new hs]
  have p1 : v.heap[H + 1]? = some (.cells #[.int .i64 3] 3) := by
    rw [e, push_old (by simp only [Array.size_push]; omega), push_new (by simp only [Array.size_push]; omega)]
  have p2 : v.heap[H + 2]? = some (.cells (rowsA H).toArray 28) := by
    rw [e, push_new (by simp only [Array.size_push]; omega)]
  refine ⟨⟨(wM_old hv (by omega)).trans p0, (wM_old hv (by omega)).trans p1, (wM_old hv (by omega)).trans p2, wM_size hv⟩, fun b hb => ?_⟩
  rw [wM_old hv (by omega), e, push_old (by simp only [Array.size_push]; omega), push_old (by simp only [Array.size_push]; omega), push_old (by omega)]
end
theorem al_step {b : Frame} (hb : b.kind = .normal) {tA : Array Value} {k : List Item} {cs : List Frame} (w : World) (d : Nat) : stepG Try.prog true (G (b.at ⟨tA, []⟩ (.inRegion (aw1 atB) [0] :: k)) cs) (w.at d) = .go (G (b.at (Act.put ⟨tA, []⟩ (some 7) (.pointer (some ⟨w.heap.size, 0, none⟩))) (.inRegion (aw1 atB) [] :: k)) cs) ((w.at d).alloc (wgBlock lnk.tWg 0 0)) #[] :=
  step_plain (o := { dst := some 7, op := .alloc 90, type := 0, pos := "mux.go:65", after := #[], guard := none }) (by kernel_rfl) rfl hb (alW (w.at d) _)
/-- awake, carried out from its entry by a goroutine that is alone. -/
theorem awakeLands {cs : List Frame} {gs : Array Goroutine} {w v W : World} {sl : Option (Nat × Nat)} {t : Trace} {q : Nat → Nat} (hl : Like (sh0 W) w v) (hsz : gs.size = 1) (h0 : gs[0]? = some (G ((base 8).at { tmps := #[] ++ Array.replicate 79 undef, defers := [] } [.code awB]) cs)) (hL : Leavers Try.prog t gs q) (hP : Past (fun _ => False) w.heap.size t) :
    ∃ N gs' g w' sl' t' q', runNT Try.prog N (crowd gs w sl) t = (.next (crowd gs' w' sl'), t') ∧ gs'[0]? = some g ∧ AtRet (DA v.heap.size W) (fun v' => v.heap.size + 20 ≤ v'.heap.size ∧ ∀ b, b < v.heap.size → v'.heap[b]? = v.heap[b]?) cs g w' ∧ Leavers Try.prog t' gs' q' ∧ Past (fun l => False ∨ OfG (v.heap.size + 3) l) w'.heap.size t' := by
  obtain ⟨N1, gs1, g1, w1, sl1, t1, q1, r1, s1, h1, ⟨tA, tg, tw, v1, rfl, hA, hg, hw, hl1, e1⟩, hL1, hP1⟩ := goes_beside (S := (sh0 W)) (Shun := fun _ => False) (fun l h => h.elim) _ _ _ (awEnter hl) _ gs w sl t q (atR_refl w) (Nat.le_refl _) h0 hL hP
  generalize hH : v.heap.size = H at *
  have hv1 : v1.heap.size = H + 3 := by rw [e1]; simp [hH]
  have hw1 : w1.heap.size = H + 3 := by rw [← hl1.size, hv1]
  obtain ⟨N2, gs2, w2, sl2, r2, s2, h2, hL2, d2, rfl⟩ := solo_step (K := fun w' => ∃ d, w' = (w1.at d).alloc (wgBlock lnk.tWg 0 0)) (s1.trans hsz) h1 rfl hL1 (fun d => ⟨_, al_step rfl w1 d, d, rfl⟩)
  obtain ⟨N3, gs3, w3, sl3, r3, s3, h3, hL3, d3, rfl⟩ := solo_step (K := fun w' => ∃ d, w' = ((w1.at d2).alloc (wgBlock lnk.tWg 0 0)).at d) s2 h2 rfl hL2 (fun d => ⟨_, stepG_region_end, d, rfl⟩)
  obtain ⟨tF, eF, hF⟩ : ∃ tF, Act.put ⟨tA, []⟩ (some 7) (.pointer (some ⟨w1.heap.size, 0, none⟩)) = ⟨tF, []⟩ ∧ FA H tF := by
    rw [hw1]
    obtain ⟨u3, u4, u5, u6, u7, u8, u9, u10, u11, u12, u13, u14, u15, u16, u17, u18, u19, u20, u21, u22, u23, u24, u25, u26, u27, u28, u29, u30, u31, u32, u33, u34, u35, u36, u37, u38, u39, u40, u41, u42, u43, u44, u45, u46, u47, u48, u49, u50, u51, u52, u53, u54, u55, u56, u57, u58, u59, u60, u61, u62, u63, u64, u65, u66, u67, u68, u69, u70, u71, u72, u73, u74, u75, u76, u77, u78⟩ := hA
    exact ⟨_, rfl, .mk ..⟩
  rw [eF, at2_eq] at h3
  obtain ⟨hWA, hWo⟩ := wa_wM hH e1
  have hlk := like_wM hl1 hv1 d2
  have hlk3 : Like ((gA H).Sd (sh0 W) 0) (((w1.at d2).alloc (wgBlock lnk.tWg 0 0)).at d3) (wM H v1) := like_at hlk d3
  have hwg : WgAt lnk.tWg (H + 3) (((w1.at d2).alloc (wgBlock lnk.tWg 0 0)).at d3) 0 0 := by
    show (w1.heap.push _)[H + 3]? = _
    rw [push_new hw1]
  rw [hw1] at hP1
  obtain ⟨N4, m4, t4, r4, hD⟩ := groupRuns hWA (bA := base 26) rfl hF hlk3 hwg h3 s3 hL3 hP1 (sl := sl3)
  obtain ⟨gs5, w5, sl5, a5, q5, tT, al, v5, rfl, h5, hL5, hP5, hB, hT, hS⟩ := groupDone hD
  obtain ⟨n, hG⟩ := backGoes hg hw hB hT hS
  obtain ⟨N6, gs6, g6, w6, sl6, t6, q6, r6, s6, h6, hS6, hL6, hP6⟩ := goes_beside (shunA H W) _ _ _ hG _ gs5 w5 sl5 t4 q5 (atR_refl w5) (Nat.le_refl _) h5 hL5 hP5
  obtain ⟨N7, gs7, g7, w7, sl7, t7, q7, r7, s7, h7, hS7, hL7, hP7⟩ := tailLands (sl := sl6) h6 hS6 hL6 hP6
  obtain ⟨fr, v7, x1, x2, x3, x4, x5, x6, x7, x8, x9, x10⟩ := hS7
  refine ⟨_, gs7, g7, w7, sl7, t7, q7, runNT_then r1 (runNT_then r2 (runNT_then r3 (runNT_then r4 (runNT_then r6 r7)))), h7, ⟨fr, v7, x1, x2, x3, x4, x5, x6, x7, x8, x9, fun b hb => ?_⟩, hL7, hP7⟩
  rw [x10 b (by omega)]
  exact hWo b hb
end Go.Proofs.Ytcefdleidkmomaa.Mx

