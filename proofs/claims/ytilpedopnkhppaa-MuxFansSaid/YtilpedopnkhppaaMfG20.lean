/- Gather of any lists: its way in. Conditions: each theorem's own. -/
import Derived.Test.YtilpedopnkhppaaMfG19
import Derived.Test.YtilpedopnkhppaaMfG11
import Derived.Test.YtilpedopnkhppaaMfG12
set_option linter.unusedVariables false
set_option linter.unusedSimpArgs false
namespace Go.Proofs.Ytilpedopnkhppaa.MxS
open Go.Conc Go.Conc.Lib Br Go.RowKit Hp Rw Ro So Go.Proofs.Ytilpedopnkhppaa.Mx
open Go.ConcN (sumTo upd sumTo_upd upd_ne upd_same)
noncomputable def atB : Code := Try.f41.body.getD .skip
inductive FN0 (lb lo n cl : Nat) : Array Value → Prop
 | mk (u3 u4 u5 u6 u7 u8 u9 u10 u11 u12 u13 u14 u15 u16 u17 u18 u19 u20 u21 u22 u23 u24 u25 u26 u27 u28 u29 u30 u31 u32 u33 u34 u35 u36 u37 u38 u39 u40 u41 u42 u43 u44 u45 u46 u47 u48 u49 u50 u51 u52 u53 u54 u55 u56 u57 u58 u59 u60 u61 u62 u63 u64 u65 u66 u67 u68 u69 u70 u71 u72 u73 u74 u75 u76 u77 u78 : Value) : FN0 lb lo n cl #[nilS, .int .i64 0, .slice (some ⟨lb, lo, none⟩) n cl, u3, u4, u5, u6, u7, u8, u9, u10, u11, u12, u13, u14, u15, u16, u17, u18, u19, u20, u21, u22, u23, u24, u25, u26, u27, u28, u29, u30, u31, u32, u33, u34, u35, u36, u37, u38, u39, u40, u41, u42, u43, u44, u45, u46, u47, u48, u49, u50, u51, u52, u53, u54, u55, u56, u57, u58, u59, u60, u61, u62, u63, u64, u65, u66, u67, u68, u69, u70, u71, u72, u73, u74, u75, u76, u77, u78]
section
variable {lb lo n cl : Nat} (w : World) (f : Operand → Value)
theorem lnN {a : Option Addr} (h1 : f (.tmp 17) = .slice a n cl) : (execOp f { dst := some 18, op := .call { callee := .builtin .len, args := #[.tmp 17], argTypes := #[73] }, type := 3, pos := "mux.go:86", after := #[{ on := 6, ground := .data }], guard := none }).run Try.prog w = .ok (.value (.int .i64 (n : Int))) w := by
 have e : (Builtin.len_ #[73] 3 #[.slice a n cl]).run Try.prog w = .ok (.int .i64 (n : Int)) w := by kernel_rfl
 simp [execOp, h1, go_sem, e]
theorem mnN (h5 : n ≤ 500) (h1 : f (.tmp 16) = .int .i64 1000) (h2 : f (.tmp 18) = .int .i64 (n : Int)) : (execOp f { dst := some 19, op := .call { callee := .builtin .min, args := #[.tmp 16, .tmp 18], argTypes := #[3, 3] }, type := 3, pos := "mux.go:86", after := #[{ on := 5, ground := .data }, { on := 7, ground := .data }], guard := none }).run Try.prog w = .ok (.value (.int .i64 (n : Int))) w := by
 have e : (Builtin.min_ #[3, 3] 3 #[.int .i64 1000, .int .i64 (n : Int)]).run Try.prog w = .ok (.int .i64 (n : Int)) w := by
  rw [run_min_int2, if_pos (by omega)]
 simp only [execOp, h1, h2, go_sem, List.map_toArray, List.map_cons, List.map_nil]
 simp [go_sem, h1, h2, e]
theorem slicedN : sliced (some ⟨lb, lo, none⟩) (Int.toNat 0) (Int.toNat (n : Int)) cl 1 = .slice (some ⟨lb, lo, none⟩) n cl := by
 simp [sliced, Addr.add]
theorem slN (hcl : n ≤ cl) (h1 : f (.tmp 13) = .slice (some ⟨lb, lo, none⟩) n cl) (h2 : f (.tmp 14) = .int .i64 0) (h3 : f (.tmp 19) = .int .i64 (n : Int)) : (execOp f { dst := some 20, op := .slice 73 (.tmp 13) (some (.tmp 14)) (some (.tmp 19)) none, type := 73, pos := "mux.go:86", after := #[{ on := 2, ground := .data }, { on := 3, ground := .data }, { on := 8, ground := .data }], guard := none }).run Try.prog w = .ok (.value (.slice (some ⟨lb, lo, none⟩) n cl)) w := by
 have hz : ∀ w : World, (sizeOf (Try.prog.elem 73)).run Try.prog w = .ok 1 w := fun w => by kernel_rfl
 have e : (Instr.slice 73 (.slice (some ⟨lb, lo, none⟩) n cl) (some (.int .i64 0)) (some (.int .i64 (n : Int))) none).run Try.prog w = .ok (.slice (some ⟨lb, lo, none⟩) n cl) w := by
  have E := run_slice_lh (P := Try.prog) (w := w) 73 (some ⟨lb, lo, none⟩) n cl (by kernel_rfl) .i64 .i64 0 (n : Int) (by omega) (by omega) (by omega)
  rw [E, hz]
  show Result.ok _ w = _
  rw [slicedN]
 simp [execOp, h1, h2, h3, go_sem, e]
end
section
variable {lb lo n cl : Nat} {X : Sh} {St : Goroutine → World → Prop} {m : Nat}
set_option maxRecDepth 100000 in
set_option maxHeartbeats 1000000 in
theorem gatherInN (h1 : 1 ≤ n) (h5 : n ≤ 500) (hcl : n ≤ cl) {cs : List Frame} {w v : World} (hl : Like (X) w v) {cB cL : Code} (hcB : gaB = cB) (hcL : gaL = cL)
  (hnext : ∀ (tg : Array Value) (w' v' : World), FGN lb lo n cl tg → Like (X) w' v' → v'.heap = v.heap →
   SG (X) St m (G ((base 41).at { tmps := #[nilS, .int .i64 0, .slice (some ⟨lb, lo, none⟩) n cl] ++ Array.replicate 76 undef, defers := [] } [.code atB])
    ((base 30).at ⟨tg, []⟩ (.inRegion (ga5 cL) [10, 11] :: .inBlock 1 :: .code (ga4 cL) :: .inLoop cL :: .inBlock 0 :: .code (gaE cB) :: []) :: cs)) w') :
  SG (X) St (m + 60) (G ((base 30).at { tmps := #[.slice (some ⟨lb, lo, none⟩) n cl] ++ Array.replicate 22 undef, defers := [] } [.code cB]) cs) w := by
 conv at hcL => lhs; whnf
 subst hcL
 conv at hcB => lhs; whnf
 subst hcB
 refine SG.le (m := 1 + 2 + (1 + 2 + (1 + 2 + (4 + 2 + ((m + 1) + 1 + 1 + 1 + 1 + 1 + 1 + 1 + 1 + 1 + 1 + 1 + 1 + 1 + 1 + 1) + 1 + 1 + 1 + 1) + 1 + 1) + 1) + 1) ?_ (by omega)
 refine SG.seq ?_
 have e0 : (#[.slice (some ⟨lb, lo, none⟩) n cl] ++ Array.replicate 22 undef : Array Value) = #[.slice (some ⟨lb, lo, none⟩) n cl, undef, undef, undef, undef, undef, undef, undef, undef, undef, undef, undef, undef, undef, undef, undef, undef, undef, undef, undef, undef, undef, undef] := by kernel_rfl
 rw [e0]
 refine SG.region (m := 1 + 2 + (1 + 2 + (4 + 2 + ((m + 1) + 1 + 1 + 1 + 1 + 1 + 1 + 1 + 1 + 1 + 1 + 1 + 1 + 1 + 1 + 1) + 1 + 1 + 1 + 1) + 1 + 1) + 1) (R := fun t v' => t = #[.slice (some ⟨lb, lo, none⟩) n cl, undef, nilS, undef, undef, undef, undef, undef, undef, undef, undef, undef, undef, undef, undef, undef, undef, undef, undef, undef, undef, undef, undef] ∧ v'.heap = v.heap)
  rfl (by kernel_rfl) rfl hl (fun v1 h1 => ?_) (fun a4 w4 v4 hd hl4 hR4 => ?_)
 ·have hh := Lib.hid (like_same hl h1)
  clear hl hnext
  go_wp2
  exact hh.out
 obtain ⟨t4, d4⟩ := a4
 obtain rfl : d4 = [] := hd
 obtain ⟨ht, e4⟩ := hR4
 have ht1 : t4 = #[.slice (some ⟨lb, lo, none⟩) n cl, undef, nilS, undef, undef, undef, undef, undef, undef, undef, undef, undef, undef, undef, undef, undef, undef, undef, undef, undef, undef, undef, undef] := ht
 subst ht1
 clear ht
 refine SG.seq ?_
 refine SG.region (m := 1 + 2 + (4 + 2 + ((m + 1) + 1 + 1 + 1 + 1 + 1 + 1 + 1 + 1 + 1 + 1 + 1 + 1 + 1 + 1 + 1) + 1 + 1 + 1 + 1) + 1 + 1) (R := fun t v' => t = #[.slice (some ⟨lb, lo, none⟩) n cl, undef, nilS, nilS, undef, undef, undef, undef, undef, undef, undef, undef, undef, undef, undef, undef, undef, undef, undef, undef, undef, undef, undef] ∧ v'.heap = v.heap)
  rfl (by kernel_rfl) rfl hl4 (fun v1 h1 => ?_) (fun a5 w5 v5 hd hl5 hR5 => ?_)
 ·have hh := Lib.hid ((like_same hl4 h1).trans e4)
  clear hl4 hnext
  go_wp2
  exact hh.out
 obtain ⟨t5, d5⟩ := a5
 obtain rfl : d5 = [] := hd
 obtain ⟨ht, e5⟩ := hR5
 have ht1 : t5 = #[.slice (some ⟨lb, lo, none⟩) n cl, undef, nilS, nilS, undef, undef, undef, undef, undef, undef, undef, undef, undef, undef, undef, undef, undef, undef, undef, undef, undef, undef, undef] := ht
 subst ht1
 clear ht
 refine SG.seq ?_
 refine SG.seq ?_
 refine SG.region (m := 4 + 2 + ((m + 1) + 1 + 1 + 1 + 1 + 1 + 1 + 1 + 1 + 1 + 1 + 1 + 1 + 1 + 1 + 1) + 1 + 1 + 1 + 1) (R := fun t v' => t = #[.slice (some ⟨lb, lo, none⟩) n cl, undef, nilS, nilS, .int .i64 0, undef, undef, undef, undef, undef, undef, undef, undef, undef, undef, undef, undef, undef, undef, undef, undef, undef, undef] ∧ v'.heap = v.heap)
  rfl (by kernel_rfl) rfl hl5 (fun v1 h1 => ?_) (fun a6 w6 v6 hd hl6 hR6 => ?_)
 ·have hh := Lib.hid ((like_same hl5 h1).trans e5)
  clear hl5 hnext
  go_wp2
  exact hh.out
 obtain ⟨t6, d6⟩ := a6
 obtain rfl : d6 = [] := hd
 obtain ⟨ht, e6⟩ := hR6
 have ht1 : t6 = #[.slice (some ⟨lb, lo, none⟩) n cl, undef, nilS, nilS, .int .i64 0, undef, undef, undef, undef, undef, undef, undef, undef, undef, undef, undef, undef, undef, undef, undef, undef, undef, undef] := ht
 subst ht1
 clear ht
 refine SG.block ?_
 refine SG.loop ?_
 refine SG.seq ?_
 refine SG.seq ?_
 refine SG.region (m := (m + 1) + 1 + 1 + 1 + 1 + 1 + 1 + 1 + 1 + 1 + 1 + 1 + 1 + 1 + 1 + 1) (R := fun t v' => t = #[.slice (some ⟨lb, lo, none⟩) n cl, undef, nilS, nilS, .int .i64 0, .int .i64 0, .slice (some ⟨lb, lo, none⟩) n cl, .int .i64 (n : Int), .bool true, undef, undef, undef, undef, undef, undef, undef, undef, undef, undef, undef, undef, undef, undef] ∧ v'.heap = v.heap)
  rfl (by kernel_rfl) rfl hl6 (fun v1 h1' => ?_) (fun a7 w7 v7 hd hl7 hR7 => ?_)
 ·have hh := Lib.hid ((like_same hl6 h1').trans e6)
  have hc : (0 : Int) < (n : Int) := by omega
  clear hl6 hnext
  go_wp2
  exact ⟨by omega, hh.out⟩
 obtain ⟨t7, d7⟩ := a7
 obtain rfl : d7 = [] := hd
 obtain ⟨ht, e7⟩ := hR7
 have ht1 : t7 = #[.slice (some ⟨lb, lo, none⟩) n cl, undef, nilS, nilS, .int .i64 0, .int .i64 0, .slice (some ⟨lb, lo, none⟩) n cl, .int .i64 (n : Int), .bool true, undef, undef, undef, undef, undef, undef, undef, undef, undef, undef, undef, undef, undef, undef] := ht
 subst ht1
 clear ht
 refine SG.condT rfl ?_
 refine SG.skip ?_
 refine SG.seq ?_
 refine SG.block ?_
 refine SG.reg ?_
 refine SG.pure (y := nilS) rfl rfl rfl (fun w => by rfl) ?_
 show SG (X) St _ (G ((base 30).at ⟨#[.slice (some ⟨lb, lo, none⟩) n cl, undef, nilS, nilS, .int .i64 0, .int .i64 0, .slice (some ⟨lb, lo, none⟩) n cl, .int .i64 (n : Int), .bool true, undef, undef, nilS, undef, undef, undef, undef, undef, undef, undef, undef, undef, undef, undef], []⟩ _) _) w7
 refine SG.pure (y := .int .i64 0) rfl rfl rfl (fun w => by rfl) ?_
 show SG (X) St _ (G ((base 30).at ⟨#[.slice (some ⟨lb, lo, none⟩) n cl, undef, nilS, nilS, .int .i64 0, .int .i64 0, .slice (some ⟨lb, lo, none⟩) n cl, .int .i64 (n : Int), .bool true, undef, undef, nilS, .int .i64 0, undef, undef, undef, undef, undef, undef, undef, undef, undef, undef], []⟩ _) _) w7
 refine SG.pure (y := .slice (some ⟨lb, lo, none⟩) n cl) rfl rfl rfl (fun w => by rfl) ?_
 show SG (X) St _ (G ((base 30).at ⟨#[.slice (some ⟨lb, lo, none⟩) n cl, undef, nilS, nilS, .int .i64 0, .int .i64 0, .slice (some ⟨lb, lo, none⟩) n cl, .int .i64 (n : Int), .bool true, undef, undef, nilS, .int .i64 0, .slice (some ⟨lb, lo, none⟩) n cl, undef, undef, undef, undef, undef, undef, undef, undef, undef], []⟩ _) _) w7
 refine SG.pure (y := .int .i64 0) rfl rfl rfl (fun w => by rfl) ?_
 show SG (X) St _ (G ((base 30).at ⟨#[.slice (some ⟨lb, lo, none⟩) n cl, undef, nilS, nilS, .int .i64 0, .int .i64 0, .slice (some ⟨lb, lo, none⟩) n cl, .int .i64 (n : Int), .bool true, undef, undef, nilS, .int .i64 0, .slice (some ⟨lb, lo, none⟩) n cl, .int .i64 0, undef, undef, undef, undef, undef, undef, undef, undef], []⟩ _) _) w7
 refine SG.pure (y := .int .i64 0) rfl rfl rfl (fun w => by rfl) ?_
 show SG (X) St _ (G ((base 30).at ⟨#[.slice (some ⟨lb, lo, none⟩) n cl, undef, nilS, nilS, .int .i64 0, .int .i64 0, .slice (some ⟨lb, lo, none⟩) n cl, .int .i64 (n : Int), .bool true, undef, undef, nilS, .int .i64 0, .slice (some ⟨lb, lo, none⟩) n cl, .int .i64 0, .int .i64 0, undef, undef, undef, undef, undef, undef, undef], []⟩ _) _) w7
 refine SG.pure (y := .int .i64 1000) rfl rfl rfl (fun w => by rfl) ?_
 show SG (X) St _ (G ((base 30).at ⟨#[.slice (some ⟨lb, lo, none⟩) n cl, undef, nilS, nilS, .int .i64 0, .int .i64 0, .slice (some ⟨lb, lo, none⟩) n cl, .int .i64 (n : Int), .bool true, undef, undef, nilS, .int .i64 0, .slice (some ⟨lb, lo, none⟩) n cl, .int .i64 0, .int .i64 0, .int .i64 1000, undef, undef, undef, undef, undef, undef], []⟩ _) _) w7
 refine SG.pure (y := .slice (some ⟨lb, lo, none⟩) n cl) rfl rfl rfl (fun w => by rfl) ?_
 show SG (X) St _ (G ((base 30).at ⟨#[.slice (some ⟨lb, lo, none⟩) n cl, undef, nilS, nilS, .int .i64 0, .int .i64 0, .slice (some ⟨lb, lo, none⟩) n cl, .int .i64 (n : Int), .bool true, undef, undef, nilS, .int .i64 0, .slice (some ⟨lb, lo, none⟩) n cl, .int .i64 0, .int .i64 0, .int .i64 1000, .slice (some ⟨lb, lo, none⟩) n cl, undef, undef, undef, undef, undef], []⟩ _) _) w7
 refine SG.one (R := fun y v' => y = .int .i64 (n : Int) ∧ v'.heap = v7.heap) rfl rfl rfl (by kernel_rfl) hl7 (fun v1 h1 => ⟨_, _, .inl (lnN v1 _ rfl), rfl, like_same hl7 h1⟩) (fun y1 w8 v8 hl8 hR8 => ?_)
 obtain ⟨rfl, e8⟩ := hR8
 show SG (X) St _ (G ((base 30).at ⟨#[.slice (some ⟨lb, lo, none⟩) n cl, undef, nilS, nilS, .int .i64 0, .int .i64 0, .slice (some ⟨lb, lo, none⟩) n cl, .int .i64 (n : Int), .bool true, undef, undef, nilS, .int .i64 0, .slice (some ⟨lb, lo, none⟩) n cl, .int .i64 0, .int .i64 0, .int .i64 1000, .slice (some ⟨lb, lo, none⟩) n cl, .int .i64 (n : Int), undef, undef, undef, undef], []⟩ _) _) w8
 refine SG.one (R := fun y v' => y = .int .i64 (n : Int) ∧ v'.heap = v8.heap) rfl rfl rfl (by kernel_rfl) hl8 (fun v1 h1 => ⟨_, _, .inl (mnN v1 _ h5 rfl rfl), rfl, like_same hl8 h1⟩) (fun y1 w9 v9 hl9 hR9 => ?_)
 obtain ⟨rfl, e9⟩ := hR9
 show SG (X) St _ (G ((base 30).at ⟨#[.slice (some ⟨lb, lo, none⟩) n cl, undef, nilS, nilS, .int .i64 0, .int .i64 0, .slice (some ⟨lb, lo, none⟩) n cl, .int .i64 (n : Int), .bool true, undef, undef, nilS, .int .i64 0, .slice (some ⟨lb, lo, none⟩) n cl, .int .i64 0, .int .i64 0, .int .i64 1000, .slice (some ⟨lb, lo, none⟩) n cl, .int .i64 (n : Int), .int .i64 (n : Int), undef, undef, undef], []⟩ _) _) w9
 refine SG.one (R := fun y v' => y = .slice (some ⟨lb, lo, none⟩) n cl ∧ v'.heap = v9.heap) rfl rfl rfl (by kernel_rfl) hl9 (fun v1 h1 => ⟨_, _, .inl (slN v1 _ hcl rfl rfl rfl), rfl, like_same hl9 h1⟩) (fun y1 w10 v10 hl10 hR10 => ?_)
 obtain ⟨rfl, e10⟩ := hR10
 show SG (X) St _ (G ((base 30).at ⟨#[.slice (some ⟨lb, lo, none⟩) n cl, undef, nilS, nilS, .int .i64 0, .int .i64 0, .slice (some ⟨lb, lo, none⟩) n cl, .int .i64 (n : Int), .bool true, undef, undef, nilS, .int .i64 0, .slice (some ⟨lb, lo, none⟩) n cl, .int .i64 0, .int .i64 0, .int .i64 1000, .slice (some ⟨lb, lo, none⟩) n cl, .int .i64 (n : Int), .int .i64 (n : Int), .slice (some ⟨lb, lo, none⟩) n cl, undef, undef], []⟩ _) _) w10
 refine SG.call' (f := 41) (vals := #[nilS, .int .i64 0, .slice (some ⟨lb, lo, none⟩) n cl]) rfl rfl rfl rfl Try.func41 (by kernel_rfl) rfl (by simp [Act.eval, Act.put]) ?_
 exact hnext _ w10 v10 (.mk ..) hl10 (e10.trans (e9.trans (e8.trans e7)))
set_option maxRecDepth 100000 in
set_option maxHeartbeats 1000000 in
theorem atInN {cs : List Frame} {w v : World} (hl : Like (X) w v) {cB : Code} (hcB : atB = cB)
  (hnext : ∀ (tA : Array Value) (w' v' : World), FN0 lb lo n cl tA → Like (X) w' v' → v'.heap = v.heap →
   SG (X) St m (G ((base 41).at ⟨tA, []⟩ (.inRegion (aw1 cB) [0] :: .code (aw2 cB) :: [])) cs) w') :
  SG (X) St (m + 10) (G ((base 41).at { tmps := #[nilS, .int .i64 0, .slice (some ⟨lb, lo, none⟩) n cl] ++ Array.replicate 76 undef, defers := [] } [.code cB]) cs) w := by
 conv at hcB => lhs; whnf
 subst hcB
 refine SG.le (m := 1 + 2 + (m + 1 + 1) + 1) ?_ (by omega)
 refine SG.seq ?_
 have e0 : (#[nilS, .int .i64 0, .slice (some ⟨lb, lo, none⟩) n cl] ++ Array.replicate 76 undef : Array Value) = #[nilS, .int .i64 0, .slice (some ⟨lb, lo, none⟩) n cl, undef, undef, undef, undef, undef, undef, undef, undef, undef, undef, undef, undef, undef, undef, undef, undef, undef, undef, undef, undef, undef, undef, undef, undef, undef, undef, undef, undef, undef, undef, undef, undef, undef, undef, undef, undef, undef, undef, undef, undef, undef, undef, undef, undef, undef, undef, undef, undef, undef, undef, undef, undef, undef, undef, undef, undef, undef, undef, undef, undef, undef, undef, undef, undef, undef, undef, undef, undef, undef, undef, undef, undef, undef, undef, undef, undef] := by kernel_rfl
 rw [e0]
 refine SG.region (m := m + 1 + 1) (R := fun t v' => t = #[nilS, .int .i64 0, .slice (some ⟨lb, lo, none⟩) n cl, undef, undef, undef, nilS, undef, undef, undef, undef, undef, undef, undef, undef, undef, undef, undef, undef, undef, undef, undef, undef, undef, undef, undef, undef, undef, undef, undef, undef, undef, undef, undef, undef, undef, undef, undef, undef, undef, undef, undef, undef, undef, undef, undef, undef, undef, undef, undef, undef, undef, undef, undef, undef, undef, undef, undef, undef, undef, undef, undef, undef, undef, undef, undef, undef, undef, undef, undef, undef, undef, undef, undef, undef, undef, undef, undef, undef] ∧ v'.heap = v.heap)
  rfl (by kernel_rfl) rfl hl (fun v1 h1 => ?_) (fun a4 w4 v4 hd hl4 hR4 => ?_)
 ·have hh := Lib.hid (like_same hl h1)
  clear hl hnext
  go_wp2
  exact hh.out
 obtain ⟨t4, d4⟩ := a4
 obtain rfl : d4 = [] := hd
 obtain ⟨ht, e4⟩ := hR4
 have ht1 : t4 = #[nilS, .int .i64 0, .slice (some ⟨lb, lo, none⟩) n cl, undef, undef, undef, nilS, undef, undef, undef, undef, undef, undef, undef, undef, undef, undef, undef, undef, undef, undef, undef, undef, undef, undef, undef, undef, undef, undef, undef, undef, undef, undef, undef, undef, undef, undef, undef, undef, undef, undef, undef, undef, undef, undef, undef, undef, undef, undef, undef, undef, undef, undef, undef, undef, undef, undef, undef, undef, undef, undef, undef, undef, undef, undef, undef, undef, undef, undef, undef, undef, undef, undef, undef, undef, undef, undef, undef, undef] := ht
 subst ht1
 clear ht
 refine SG.seq ?_
 refine SG.reg ?_
 exact hnext _ w4 v4 (.mk ..) hl4 e4
end
end Go.Proofs.Ytilpedopnkhppaa.MxS

/- WaitGroup.Go, by the starter, in company. Conditions: each theorem's own. -/
namespace Go.Proofs.Ytilpedopnkhppaa.Mx
open Go.Conc Go.Conc.Lib Br
theorem spawn_lit {P : Program} {main : Bool} {b : Frame} {a : Act} {k : List Item} {cs : List Frame} {w : World} {ops : Array Oper} {i : Nat} {rest : List Nat} {o : Oper} {x : Operand} {ats : Array TypeId} {f : FuncId} {cap : Array Value} (ho : ops[i]? = some o) (hw : Region.wanted o (yielded ops a.tmps) = true) (hk : b.kind ≠ .early)
  (hop : o.op = .go { callee := .value x, args := #[], argTypes := ats }) (hx : a.eval x = .func (.func f) #[] cap) :
  stepG P main (G (b.at a (.inRegion ops (i :: rest) :: k)) cs) w = .spawn (G (b.at (a.put o.dst undef) (.inRegion ops rest :: k)) cs) (born P (dlit f cap)) w #[] := by
 have hr : (execOp a.eval o).runT P w #[] = (.ok (.spawn (dlit f cap)) w, #[]) := by
  simp only [execOp, hop, resolve, hx, List.map_toArray, List.map_nil]
  rfl
 rw [stepG_spawn (d := dlit f cap) ho hw hk (w' := w) (by rw [← Sem.runT_fst P _ w #[], hr]) rfl]
 have he : listed P b.fn a o w = #[] := by
  unfold listed Sem.events
  rw [hr]
  exact seen_none _ _
 rw [he]
section
variable {s : Grp} {X : Sh} {z : Value} {Anch Post : Goroutine → World → Prop} {j : Nat} {Next : Goroutine → World → Prop} {cs : List Frame}
structure Rdy (s : Grp) (X : Sh) (j : Nat) (Inv : World → Prop) (w : World) : Prop where
 box : s.Boxes 33 28 68 j w
 chan : w.heap[s.chan j]? = some (.chan (min (s.len j) 64) #[] false 0 0 false)
 inv : ∃ v, Like (s.Sd X j) w v ∧ Inv v
 size : w.heap.size = s.M + 5 * j + 5
theorem Rdy.far {Inv : World → Prop} {w w₁ : World} (hWM : s.Wg < s.M) (h : (phI s z Anch Post).Far j w w₁) (r : Rdy s X j Inv w) : Rdy s X j Inv w₁ := by
 have hb : ∀ i, i < 5 → w₁.heap[s.M + 5 * j + i]? = w.heap[s.M + 5 * j + i]? := fun i hi => h.block _ (by show s.M + 5 * j + i ≠ s.Wg; omega) fun k hk => by show s.M + 5 * j + i ≠ s.M + 5 * k + 1; omega
 obtain ⟨v, hv, hi⟩ := r.inv
 exact ⟨⟨(hb 0 (by omega)).trans r.box.l, (hb 2 (by omega)).trans r.box.i, (hb 3 (by omega)).trans r.box.g, (hb 4 (by omega)).trans r.box.f⟩, (hb 1 (by omega)).trans r.chan, ⟨v, (sd_rely h hv).1, hi⟩, h.size.trans r.size⟩
theorem goTail (hk : (phI s z Anch Post).Ok) (hj : j < s.n) (hB : s.M + 5 * s.n ≤ s.B) (hWM : s.Wg < s.M) (hz : s.ad j = none → s.len j = 0) (hn : s.len j < 9223372036854775807) {Inv : World → Prop} {fv u5 : Value}
  (hnext : ∀ w, Rdy s X j Inv w → (phI s z Anch Post).Live w → Next (G ((base 32).at ⟨#[.pointer (some s.wga), fv, .pointer (some (s.gbox j)), .pointer (some (s.fbox j)), .pointer (some s.wga), u5, .func (.func 43) #[] #[.pointer (some (s.gbox j)), .pointer (some (s.fbox j))]], []⟩ [.inRegion (match (Try.f32).body with | some (.seq _ (.seq _ (.region _ ops _))) => ops | _ => #[]) []]) cs) w)
  (w : World) (hF : Rdy s X j Inv w ∧ (phI s z Anch Post).Live w) :
  Goes Try.prog true ((phI s z Anch Post).Far j) ((phI s z Anch Post).DM j) ((phI s z Anch Post).U4 j Next) 3 (G ((base 32).at ⟨#[.pointer (some s.wga), fv, .pointer (some (s.gbox j)), .pointer (some (s.fbox j)), .pointer (some s.wga), u5, undef], []⟩
   [.inRegion (match (Try.f32).body with | some (.seq _ (.seq (.region _ ops _) _)) => ops | _ => #[]) [], .code (match (Try.f32).body with | some (.seq _ (.seq _ c)) => c | _ => .skip)]) cs) w := by
 refine MG.regEnd ?_
 refine MG.reg ?_
 refine MG.pure (y := .func (.func 43) #[] #[.pointer (some (s.gbox j)), .pointer (some (s.fbox j))]) rfl rfl rfl (fun w => by
  simp only [execOp, List.getElem_toArray, List.getElem_cons_zero, List.map_toArray, List.map_cons, List.map_nil, Act.eval, Instr.makeFunc]
  rfl) ?_
 refine MG.stop fun w₁ h₁ => ?_
 have r := hF.1.far hWM h₁
 have hl := h₁.live hF.2
 refine ⟨rfl, _, _, ?_, childSends hk hj hB hz hn, r.box, r.chan, hnext w₁ r hl⟩
 exact spawn_lit (b := base 32) (a := ⟨#[.pointer (some s.wga), fv, .pointer (some (s.gbox j)), .pointer (some (s.fbox j)), .pointer (some s.wga), u5, .func (.func 43) #[] #[.pointer (some (s.gbox j)), .pointer (some (s.fbox j))]], []⟩)
  (ops := match (Try.f32).body with | some (.seq _ (.seq _ (.region _ ops _))) => ops | _ => #[]) (i := 1) (rest := []) (k := []) (x := .tmp 6) rfl rfl (by decide) rfl rfl
theorem like_same {S : Sh} {w v v' : World} (h : Like S w v) (h' : Like S w v') : v'.heap = v.heap := by
 refine Array.ext_getElem? fun b => ?_
 by_cases hb : S b
 ·rw [h.dead b hb, h'.dead b hb]
 ·rw [h.off b hb, h'.off b hb]
theorem sd_no (hWM : s.Wg < s.M) (hXM : ∀ b, X b → b < s.M) {i : Nat} : ¬ s.Sd X j (s.M + 5 * j + i) := by
 rintro (h | h | ⟨k, hk, h1, h2⟩)
 ·have := hXM _ h; omega
 ·omega
 ·omega
structure Pre (s : Grp) (j : Nat) (Inv : World → Prop) (v : World) : Prop where
 size : v.heap.size = s.M + 5 * j + 3
 l : v.heap[s.M + 5 * j]? = some (.cells #[.slice (s.ad j) (s.len j) (s.cp j)] 28)
 c : v.heap[s.M + 5 * j + 1]? = some (.chan (min (s.len j) 64) #[] false 0 0 false)
 i : v.heap[s.M + 5 * j + 2]? = some (.cells #[.chan (some (s.chan j))] 68)
 inv : Inv v
set_option maxRecDepth 100000 in
theorem goWalk (hX : ShunIn X s.Shun) (hXM : ∀ b, X b → b < s.M) (hk : (phI s z Anch Post).Ok) (hj : j < s.n) (hB : s.M + 5 * s.n ≤ s.B) (hWM : s.Wg < s.M) (hz : s.ad j = none → s.len j = 0) (hn : s.len j < 9223372036854775807)
  {Inv : World → Prop} (hI : ∀ v v' : World, (∀ b, b < s.M + 5 * j → v'.heap[b]? = v.heap[b]?) → Inv v → Inv v')
  (hnext : ∀ w u5, Rdy s X j Inv w → (phI s z Anch Post).Live w → Next (G ((base 32).at ⟨#[.pointer (some s.wga), s.lit 33 j, .pointer (some (s.gbox j)), .pointer (some (s.fbox j)), .pointer (some s.wga), u5, .func (.func 43) #[] #[.pointer (some (s.gbox j)), .pointer (some (s.fbox j))]], []⟩ [.inRegion (match (Try.f32).body with | some (.seq _ (.seq _ (.region _ ops _))) => ops | _ => #[]) []]) cs) w)
  {w v : World} (hl : Like (s.Sd X j) w v) (hp : Pre s j Inv v) (hlive : (phI s z Anch Post).Live w) {c : Code} (hc : (Try.f32).body = some c) :
  Goes Try.prog true ((phI s z Anch Post).Far j) ((phI s z Anch Post).DM j) ((phI s z Anch Post).U1 j Next) 39 (G ((base 32).at ⟨#[.pointer (some s.wga), s.lit 33 j, undef, undef, undef, undef, undef], []⟩ [.code c]) cs) w := by
 unfold Try.f32 at hc
 simp only [Option.some.injEq] at hc
 subst hc
 show MG (phI s z Anch Post) j _ (38 + 1) _ _
 refine MG.seq ?_
 refine m_region (m := 34) (R := fun t v' => t = #[.pointer (some s.wga), s.lit 33 j, .pointer (some (s.gbox j)), .pointer (some (s.fbox j)), undef, undef, undef] ∧ v'.heap = (v.heap.push (.cells #[.pointer (some s.wga)] 101)).push (.cells #[s.lit 33 j] 1))
  hX rfl (by kernel_rfl) rfl hlive hl (fun v1 h1 => ?_) (fun a' w' v' hd hi' hl' hR => ?_)
 ·have hh := like_same hl h1
  go_wp2
  refine ⟨⟨by rw [hp.size]; rfl, by rw [hp.size]; rfl⟩, ?_⟩
  rw [← hh]
  rfl
 ·obtain ⟨t', d'⟩ := a'
  have hd1 : d' = [] := hd
  subst hd1
  obtain ⟨ht, hv⟩ := hR
  have ht1 : t' = #[.pointer (some s.wga), s.lit 33 j, .pointer (some (s.gbox j)), .pointer (some (s.fbox j)), undef, undef, undef] := ht
  subst ht1
  clear ht hd
  have hsz : v.heap.size = s.M + 5 * j + 3 := hp.size
  have old : ∀ b, b < s.M + 5 * j + 3 → v'.heap[b]? = v.heap[b]? := fun b hb => by
   rw [hv, Array.getElem?_push_lt (by simp; omega), Array.getElem_push_lt (by omega)]
   simp [show b < v.heap.size by omega]
  have n3 : v'.heap[s.M + 5 * j + 3]? = some (.cells #[.pointer (some s.wga)] 101) := by
   rw [hv, ← hsz, Array.getElem?_push_lt (by simp), Array.getElem_push_eq]
  have n4 : v'.heap[s.M + 5 * j + 4]? = some (.cells #[s.lit 33 j] 1) := by
   rw [hv, show s.M + 5 * j + 4 = (v.heap.push (.cells #[.pointer (some s.wga)] 101)).size by simp; omega, Array.getElem?_push_size]
  have off : ∀ i, w'.heap[s.M + 5 * j + i]? = v'.heap[s.M + 5 * j + i]? := fun i => (hl'.off _ (sd_no hWM hXM)).symm
  have rdy : Rdy s X j Inv w' := ⟨⟨(off 0).trans ((old _ (by omega)).trans hp.l), (off 2).trans ((old _ (by omega)).trans hp.i), (off 3).trans n3, (off 4).trans n4⟩, (off 1).trans ((old _ (by omega)).trans hp.c), ⟨v', hl', hI v v' (fun b hb => old b (by omega)) hp.inv⟩, by rw [← hl'.size, hv]; simp [hsz]⟩
  show MG (phI s z Anch Post) j _ (33 + 1) _ _
  refine MG.seq ?_
  refine MG.reg ?_
  refine m_one (m := 31) (R := fun y v2 => y = .pointer (some s.wga) ∧ v2.heap = v'.heap) hX rfl rfl rfl (by kernel_rfl) hi' hl' (fun v1 h1 => ?_) (fun y w2 v2 hi2 hl2 hR => ?_)
  ·have hh := like_same hl' h1
   have hcell : v1.cell? (s.gbox j) = some (.pointer (some s.wga)) := by
    unfold World.cell? Grp.gbox
    rw [hh, n3]
    rfl
   refine ⟨.pointer (some s.wga), v1, .inl ?_, rfl, hh⟩
   simp [go_sem, execOp, Act.eval, hcell]
  ·obtain ⟨rfl, hv2⟩ := hR
   have e2 : ∀ i, w2.heap[s.M + 5 * j + i]? = w'.heap[s.M + 5 * j + i]? := fun i => by rw [← hl2.off _ (sd_no hWM hXM), hv2, hl'.off _ (sd_no hWM hXM)]
   have rdy2 : Rdy s X j Inv w2 := ⟨⟨(e2 0).trans rdy.box.l, (e2 2).trans rdy.box.i, (e2 3).trans rdy.box.g, (e2 4).trans rdy.box.f⟩, (e2 1).trans rdy.chan, ⟨v2, hl2, hI v v2 (fun b hb => by rw [hv2]; exact old b (by omega)) hp.inv⟩, by rw [← hl2.size, hv2, hl'.size]; exact rdy.size⟩
   show MG (phI s z Anch Post) j _ (30 + 1) _ _
   refine MG.call' (f := lnk.add) (vals := #[.pointer (some ⟨s.Wg, 0, none⟩), .int .i64 1]) rfl rfl rfl rfl wgLib.f_add (Go.ConcR.Gen.nm_add lnk) rfl (by simp [Act.eval, Act.put, Grp.wga]) ?_
   have hA := addPos (s := s) (f := 33) (tL := 28) (tC := 68) (z := z) (Anch := Anch) (Post := Post) (j := j) (Next := Next) (F := Rdy s X j Inv) (b₀ := base 32)
    (a₀ := ⟨#[.pointer (some s.wga), s.lit 33 j, .pointer (some (s.gbox j)), .pointer (some (s.fbox j)), .pointer (some s.wga), undef, undef], []⟩)
    (ops₀ := match (Try.f32).body with | some (.seq _ (.seq (.region _ ops _) _)) => ops | _ => #[]) (i₀ := 1) (rest₀ := []) (k₀ := [.code (match (Try.f32).body with | some (.seq _ (.seq _ c)) => c | _ => .skip)]) (cs := cs) (mT := 3)
    (by have := hk.lowWg; exact this) (fun w w₁ h r => r.far hWM h) (fun w hw => goTail hk hj hB hWM hz hn (fun w h1 h2 => hnext w _ h1 h2) w hw) w2 ⟨rdy2, hi2⟩
   exact hA
end
end Go.Proofs.Ytilpedopnkhppaa.Mx

/- A sender is started: what it has got is dead to the starter's lone walk from then on. Conditions: each theorem's own. -/
namespace Go.Proofs.Ytilpedopnkhppaa.Mx
open Go.Conc Go.Conc.Lib Br
open Classical in
theorem like_kill {S T : Sh} {w v : World} (hos : T.os = S.os) (hout : T.out = S.out) (h : Like S w v) (hS : ∀ b, S b → T b) (hT : ∀ b, T b → S b ∨ ∃ o, w.heap[b]? = some o ∧ Solid o) :
  ∃ v', Like T w v' ∧ ∀ b, (T b → S b) → v'.heap[b]? = v.heap[b]? := by
 have hs : ∀ b, T b → ∃ o, w.heap[b]? = some o ∧ Solid o := fun b hb => (hT b hb).elim (fun h' => h.solid b h') id
 have hlt : ∀ b, T b → b < v.heap.size := fun b hb => by
  obtain ⟨o, ho, _⟩ := hs b hb
  rw [h.size]
  exact (Array.getElem?_eq_some_iff.1 ho).1
 let v' : World := { v with heap := Array.ofFn fun i : Fin v.heap.size => if T i.1 then .coro none else v.heap[i.1] }
 have e1 : ∀ b, T b → v'.heap[b]? = some (.coro none) := fun b hb => by
  have := hlt b hb
  simp [v', this, hb]
 have e2 : ∀ b, ¬ T b → v'.heap[b]? = v.heap[b]? := fun b hb => by
  rcases Nat.lt_or_ge b v.heap.size with hl | hl
  ·simp [v', hl, hb]
  ·rw [Array.getElem?_eq_none hl, Array.getElem?_eq_none (by simpa [v'] using hl)]
 refine ⟨v', ⟨by simp [v', h.size], h.os, h.out, h.osx.trans hos.symm, h.outx.trans hout.symm, fun b hb => (e2 b hb).trans (h.off b fun h' => hb (hS b h')), e1, hs⟩, fun b hb => ?_⟩
 by_cases hT' : T b
 ·rw [e1 b hT', h.dead b (hb hT')]
 ·exact e2 b hT'
section
variable {s : Grp} {X : Sh} {j : Nat} {w : World}
theorem sd_grow {Inv : World → Prop} (hI : ∀ v v' : World, (∀ b, b < s.M + 5 * j → v'.heap[b]? = v.heap[b]?) → Inv v → Inv v') (r : Rdy s X j Inv w) : ∃ v', Like (s.Sd X (j + 1)) w v' ∧ Inv v' ∧ v'.heap.size = s.M + 5 * (j + 1) := by
 obtain ⟨v, hl, hi⟩ := r.inv
 have old : ∀ b, s.SdP X j b → s.SdP X (j + 1) b := by
  rintro b (h | h | ⟨k, hk, h1⟩)
  ·exact .inl h
  ·exact .inr (.inl h)
  ·exact .inr (.inr ⟨k, by omega, h1⟩)
 have new : ∀ b, s.SdP X (j + 1) b → s.SdP X j b ∨ (s.M + 5 * j ≤ b ∧ b < s.M + 5 * j + 5) := by
  rintro b (h | h | ⟨k, hk, h1⟩)
  ·exact .inl (.inl h)
  ·exact .inl (.inr (.inl h))
  ·rcases Nat.lt_or_ge k j with hkj | hkj
   ·exact .inl (.inr (.inr ⟨k, hkj, h1⟩))
   ·obtain rfl : k = j := by omega
    exact .inr h1
 obtain ⟨v', hl', hv⟩ := like_kill (S := s.Sd X j) (T := s.Sd X (j + 1)) rfl rfl hl old fun b hb => by
  rcases new b hb with h | ⟨h1, h2⟩
  ·exact .inl h
  ·right
   obtain ⟨i, rfl⟩ : ∃ i, b = s.M + 5 * j + i := ⟨b - (s.M + 5 * j), by omega⟩
   have hi5 : i = 0 ∨ i = 1 ∨ i = 2 ∨ i = 3 ∨ i = 4 := by omega
   rcases hi5 with rfl | rfl | rfl | rfl | rfl
   ·exact ⟨_, r.box.l, .inl ⟨_, _, rfl, by simp⟩⟩
   ·exact ⟨_, r.chan, .inr ⟨_, _, _, _, _, _, rfl⟩⟩
   ·exact ⟨_, r.box.i, .inl ⟨_, _, rfl, by simp⟩⟩
   ·exact ⟨_, r.box.g, .inl ⟨_, _, rfl, by simp⟩⟩
   ·exact ⟨_, r.box.f, .inl ⟨_, _, rfl, by simp⟩⟩
 refine ⟨v', hl', hI v v' (fun b hb => hv b fun h => ?_) hi, by rw [hl'.size, r.size]; omega⟩
 rcases new b h with h' | ⟨h1, _⟩
 ·exact h'
 ·omega
end
end Go.Proofs.Ytilpedopnkhppaa.Mx

