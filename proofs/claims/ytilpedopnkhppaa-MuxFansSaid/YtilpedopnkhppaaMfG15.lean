/- The takes: a pair's round, from the head of atOnce's second loop to takeBoth's entry, in company. Conditions: each theorem's own. -/
import Derived.Test.YtilpedopnkhppaaMfG14
import Derived.Test.YtilpedopnkhppaaMfG13
import Derived.Laws.AppendOwn
import Derived.Laws.AppendOwnNone
import Derived.Laws.OwnMore
import Derived.Maps.AppendAt
import Derived.OwnWalk
import Derived.Carry
import Derived.Laws.CopyOwn
import Derived.Lib.AppendZeros
import Derived.Laws.Externs
set_option linter.unusedVariables false
set_option linter.unusedSimpArgs false
namespace Go.Proofs.Ytilpedopnkhppaa.MxS
open Go.Conc Go.Conc.Lib Br Go.Proofs.Ytilpedopnkhppaa.Mx
def wayT (wf : Nat → Int) (wc : Nat → Option Nat) (wm : Nat → Value) (N : Nat) : List Value := (List.range (3 * N)).map fun i => if i % 3 = 0 then .int .i64 (wf (i / 3)) else if i % 3 = 1 then .chan (wc (i / 3)) else wm (i / 3)
section
variable {wf : Nat → Int} {wc : Nat → Option Nat} {wm : Nat → Value} {N k : Nat}
theorem wayT_f (h : k < N) : (wayT wf wc wm N)[3 * k]? = some (.int .i64 (wf k)) := by
 unfold wayT
 simp [show 3 * k < 3 * N by omega]
theorem wayT_c (h : k < N) : (wayT wf wc wm N)[3 * k + 1]? = some (.chan (wc k)) := by
 unfold wayT
 simp [show 3 * k + 1 < 3 * N by omega, show (3 * k + 1) / 3 = k by omega, show (3 * k + 1) % 3 = 1 by omega]
theorem wayT_m (h : k < N) : (wayT wf wc wm N)[3 * k + 2]? = some (wm k) := by
 unfold wayT
 simp [show 3 * k + 2 < 3 * N by omega, show (3 * k + 2) / 3 = k by omega, show (3 * k + 2) % 3 = 2 by omega]
theorem wayT_setc (h : k < N) (c : Option Nat) : (wayT wf wc wm N).set (3 * k + 1) (.chan c) = wayT wf (Go.ConcN.upd wc k c) wm N := by
 refine List.ext_getElem? fun i => ?_
 rcases Nat.lt_or_ge i (3 * N) with hi | hi
 ·rw [List.getElem?_set]
  unfold wayT Go.ConcN.upd
  simp only [List.length_map, List.length_range]
  by_cases e : 3 * k + 1 = i
  ·subst e
   simp [hi, show (3 * k + 1) / 3 = k by omega, show (3 * k + 1) % 3 = 1 by omega]
  ·simp only [e, if_false, List.getElem?_map, List.getElem?_range hi, Option.map_some, Option.some.injEq]
   by_cases h1 : i % 3 = 1
   ·have : i / 3 ≠ k := by omega
    simp [this, h1]
   ·simp [h1]
 ·rw [List.getElem?_eq_none (by simp [wayT]; omega), List.getElem?_eq_none (by simp [wayT]; omega)]
theorem wayT_setm (h : k < N) (c : Value) : (wayT wf wc wm N).set (3 * k + 2) c = wayT wf wc (Go.ConcN.upd wm k c) N := by
 refine List.ext_getElem? fun i => ?_
 rcases Nat.lt_or_ge i (3 * N) with hi | hi
 ·rw [List.getElem?_set]
  unfold wayT Go.ConcN.upd
  simp only [List.length_map, List.length_range]
  by_cases e : 3 * k + 2 = i
  ·subst e
   simp [hi, show (3 * k + 2) / 3 = k by omega, show (3 * k + 2) % 3 = 2 by omega]
  ·simp only [e, if_false, List.getElem?_map, List.getElem?_range hi, Option.map_some, Option.some.injEq]
   by_cases h1 : i % 3 = 0
   ·simp [h1]
   ·by_cases h2 : i % 3 = 1
    ·simp [h2]
    ·have : i / 3 ≠ k := by omega
     simp [this, h1, h2]
 ·rw [List.getElem?_eq_none (by simp [wayT]; omega), List.getElem?_eq_none (by simp [wayT]; omega)]
end
section
variable {s : Grp} {X : Sh} {z al : Value} {Anch Post : Goroutine → World → Prop} {j lb lo cl wy N h : Nat} {first : Int}
def tk14 : Code → Array Oper
 | .seq _ (.seq (.block _ (.seq _ (.seq (.region _ ops _) _))) _) => ops
 | _ => #[]
def tk15 : Code → Code
 | .seq _ (.seq (.block _ (.seq _ (.seq _ r))) _) => r
 | c => c
def tk12 : Code → Code
 | .seq _ (.seq _ r) => r
 | c => c
inductive FP (s : Grp) (al : Value) (wy N : Nat) (first : Int) (h : Nat) : Array Value → Prop
 | mk (u2 u3 u4 u5 u6 u9 u10 u11 u15 u16 u17 u18 u19 u20 u21 u22 u23 u24 u25 u26 u27 u28 u29 u30 u31 u32 u33 u34 u35 u36 u37 u38 u39 u40 u41 u42 u43 u44 u45 u46 u47 u48 u49 u50 u51 u52 u53 u54 u55 u56 u57 u58 u59 u60 u61 u62 u63 u64 u65 u66 u67 u68 u69 u70 u71 u72 u73 u74 u75 u76 u77 u78 : Value) : FP s al wy N first h #[al, .int .i64 first, u2, u3, u4, u5, u6, .pointer (some s.wga), .slice (some ⟨wy, 0, none⟩) N N, u9, u10, u11, .int .i64 (h : Int), .pointer (some ⟨wy, h * 3, none⟩), .pointer (some ⟨wy, (h + 1) * 3, none⟩), u15, u16, u17, u18, u19, u20, u21, u22, u23, u24, u25, u26, u27, u28, u29, u30, u31, u32, u33, u34, u35, u36, u37, u38, u39, u40, u41, u42, u43, u44, u45, u46, u47, u48, u49, u50, u51, u52, u53, u54, u55, u56, u57, u58, u59, u60, u61, u62, u63, u64, u65, u66, u67, u68, u69, u70, u71, u72, u73, u74, u75, u76, u77, u78]
noncomputable def tbF (wy h : Nat) : Frame := (base 59).at ⟨#[.pointer (some ⟨wy, h * 3, none⟩), .pointer (some ⟨wy, (h + 1) * 3, none⟩)] ++ Array.replicate 42 undef, []⟩ [.code (Try.f59.body.getD .skip)]
set_option maxRecDepth 100000 in
set_option maxHeartbeats 4000000 in
theorem pairHead (hX : ShunIn X s.Shun) {Inv : World → Prop} (hI : ∀ v v' : World, v'.heap = v.heap → Inv v → Inv v') (hN9 : N < 1000000) (hi2 : h + 1 < N) {b₀ : Frame} (hb₀ : b₀.kind = .normal) {k : List Item} {cs : List Frame} {St : Goroutine → World → Prop} {m : Nat}
  (hnext : ∀ t w v, FP s al wy N first h t → Like (s.Sd X s.n) w v → Inv v → (phI s z Anch Post).Live w → Goes Try.prog true ((phI s z Anch Post).Far s.n) ((phI s z Anch Post).DM s.n) St m (G (tbF wy h) (b₀.at ⟨t, []⟩ (.inRegion (tk14 tkc) [2] :: .code (tk15 tkc) :: .inBlock 3 :: .code (tk12 tkc) :: k) :: cs)) w)
  {t : Array Value} {w v : World} (ht : FT s al wy N first h t) (hl : Like (s.Sd X s.n) w v) (hi : Inv v) (hlive : (phI s z Anch Post).Live w) {c : Code} (hc : tkc = c) :
  Goes Try.prog true ((phI s z Anch Post).Far s.n) ((phI s z Anch Post).DM s.n) St (m + 40) (G (b₀.at ⟨t, []⟩ (.code c :: k)) cs) w := by
 obtain ⟨u2, u3, u4, u5, u6, u9, u10, u11, u13, u14, u15, u16, u17, u18, u19, u20, u21, u22, u23, u24, u25, u26, u27, u28, u29, u30, u31, u32, u33, u34, u35, u36, u37, u38, u39, u40, u41, u42, u43, u44, u45, u46, u47, u48, u49, u50, u51, u52, u53, u54, u55, u56, u57, u58, u59, u60, u61, u62, u63, u64, u65, u66, u67, u68, u69, u70, u71, u72, u73, u74, u75, u76, u77, u78⟩ := ht
 conv at hc => lhs; whnf
 subst hc
 show MG (phI s z Anch Post) s.n _ (m + 40) _ _
 refine MG.le (m := 4 + 2 + (9 + 2 + (m + 5) + 1 + 1 + 1 + 1 + 1) + 1 + 1) ?_ (by omega)
 refine MG.seq ?_
 refine MG.seq ?_
 refine m_region (m := 9 + 2 + (m + 5) + 1 + 1 + 1 + 1 + 1) (R := fun t v' => t = #[al, .int .i64 first, u2, u3, u4, u5, u6, .pointer (some s.wga), .slice (some ⟨wy, 0, none⟩) N N, u9, u10, u11, .int .i64 (h : Int), u13, u14, u15, u16, u17, u18, u19, u20, u21, u22, u23, u24, u25, u26, u27, u28, u29, u30, u31, u32, u33, u34, u35, u36, u37, u38, u39, u40, u41, u42, u43, .int .i64 (h : Int), .slice (some ⟨wy, 0, none⟩) N N, .int .i64 (N : Int), .bool true, u48, u49, u50, u51, u52, u53, u54, u55, u56, u57, u58, u59, u60, u61, u62, u63, u64, u65, u66, u67, u68, u69, u70, u71, u72, u73, u74, u75, u76, u77, u78] ∧ v'.heap = v.heap)
  hX hb₀ (by kernel_rfl) rfl hlive hl (fun v1 h1 => ?_) (fun a4 w4 v4 hd hi4 hl4 hR4 => ?_)
 ·have hh := Lib.hid (like_same hl h1)
  have hjn : (h : Int) < (N : Int) := by omega
  clear h1 hl hi hnext
  go_wp2
  exact hh.out
 obtain ⟨t4, d4⟩ := a4
 have hd1 : d4 = [] := hd
 subst hd1
 obtain ⟨ht, hv4⟩ := hR4
 have ht1 : t4 = #[al, .int .i64 first, u2, u3, u4, u5, u6, .pointer (some s.wga), .slice (some ⟨wy, 0, none⟩) N N, u9, u10, u11, .int .i64 (h : Int), u13, u14, u15, u16, u17, u18, u19, u20, u21, u22, u23, u24, u25, u26, u27, u28, u29, u30, u31, u32, u33, u34, u35, u36, u37, u38, u39, u40, u41, u42, u43, .int .i64 (h : Int), .slice (some ⟨wy, 0, none⟩) N N, .int .i64 (N : Int), .bool true, u48, u49, u50, u51, u52, u53, u54, u55, u56, u57, u58, u59, u60, u61, u62, u63, u64, u65, u66, u67, u68, u69, u70, u71, u72, u73, u74, u75, u76, u77, u78] := ht
 subst ht1
 clear ht hd
 show MG (phI s z Anch Post) s.n _ (9 + 2 + (m + 5) + 1 + 1 + 1 + 1 + 1) _ _
 refine MG.condT rfl ?_
 refine MG.skip ?_
 refine MG.seq ?_
 refine MG.block ?_
 refine MG.seq ?_
 refine m_region (m := m + 5) (R := fun t v' => t = #[al, .int .i64 first, u2, u3, u4, u5, u6, .pointer (some s.wga), .slice (some ⟨wy, 0, none⟩) N N, u9, u10, u11, .int .i64 (h : Int), .pointer (some ⟨wy, h * 3, none⟩), .pointer (some ⟨wy, (h + 1) * 3, none⟩), u15, u16, u17, u18, u19, u20, u21, u22, u23, u24, u25, u26, u27, u28, u29, u30, u31, u32, u33, u34, u35, u36, u37, u38, u39, u40, u41, u42, u43, .int .i64 (h : Int), .slice (some ⟨wy, 0, none⟩) N N, .int .i64 (N : Int), .bool true, u48, u49, .slice (some ⟨wy, 0, none⟩) N N, .int .i64 (h : Int), .pointer (some ⟨wy, h * 3, none⟩), .slice (some ⟨wy, 0, none⟩) N N, .int .i64 (h : Int), .int .i64 ((h : Int) + 1), .pointer (some ⟨wy, (h + 1) * 3, none⟩), u57, u58, u59, u60, u61, u62, u63, u64, u65, u66, u67, u68, u69, u70, u71, u72, u73, u74, u75, u76, u77, u78] ∧ v'.heap = v.heap)
  hX hb₀ (by kernel_rfl) rfl hi4 hl4 (fun v1 h1 => ?_) (fun a5 w5 v5 hd hi5 hl5 hR5 => ?_)
 ·have hh := Lib.hid ((like_same hl4 h1).trans hv4)
  have hj0 : (h : Int) < (N : Int) := by omega
  have hj1 : (h : Int) + 1 < (N : Int) := by omega
  have hj2 : ¬ ((h : Int) + 1 < 0) := by omega
  have hj4 : 0 ≤ (h : Int) + 1 := by omega
  have hj3 : ((h : Int) + 1).toNat = h + 1 := by omega
  clear h1 hl4 hl hi hv4 hnext
  dsimp only
  go_quiet (fail)
  exact ⟨rfl, rfl, hh.out⟩
 obtain ⟨t5, d5⟩ := a5
 have hd1 : d5 = [] := hd
 subst hd1
 obtain ⟨ht, hv5⟩ := hR5
 have ht1 : t5 = #[al, .int .i64 first, u2, u3, u4, u5, u6, .pointer (some s.wga), .slice (some ⟨wy, 0, none⟩) N N, u9, u10, u11, .int .i64 (h : Int), .pointer (some ⟨wy, h * 3, none⟩), .pointer (some ⟨wy, (h + 1) * 3, none⟩), u15, u16, u17, u18, u19, u20, u21, u22, u23, u24, u25, u26, u27, u28, u29, u30, u31, u32, u33, u34, u35, u36, u37, u38, u39, u40, u41, u42, u43, .int .i64 (h : Int), .slice (some ⟨wy, 0, none⟩) N N, .int .i64 (N : Int), .bool true, u48, u49, .slice (some ⟨wy, 0, none⟩) N N, .int .i64 (h : Int), .pointer (some ⟨wy, h * 3, none⟩), .slice (some ⟨wy, 0, none⟩) N N, .int .i64 (h : Int), .int .i64 ((h : Int) + 1), .pointer (some ⟨wy, (h + 1) * 3, none⟩), u57, u58, u59, u60, u61, u62, u63, u64, u65, u66, u67, u68, u69, u70, u71, u72, u73, u74, u75, u76, u77, u78] := ht
 subst ht1
 clear ht hd
 show MG (phI s z Anch Post) s.n _ (m + 1 + 1 + 1 + 1 + 1) _ _
 refine MG.seq ?_
 refine MG.reg ?_
 refine MG.pure (y := .pointer (some ⟨wy, h * 3, none⟩)) rfl rfl hb₀ (fun w => rfl) ?_
 refine MG.pure (y := .pointer (some ⟨wy, (h + 1) * 3, none⟩)) rfl rfl hb₀ (fun w => rfl) ?_
 refine MG.call' (f := 59) (vals := #[.pointer (some ⟨wy, h * 3, none⟩), .pointer (some ⟨wy, (h + 1) * 3, none⟩)]) rfl rfl hb₀ rfl Try.func59 (by kernel_rfl) rfl (by simp [Act.eval, Act.put]) ?_
 exact hnext _ w5 v5 (.mk ..) hl5 (hI v v5 hv5 hi) hi5
end
end Go.Proofs.Ytilpedopnkhppaa.MxS

/- takeBoth, from the head of its loop to its select, or out of it, in company. Conditions: each theorem's own. -/
namespace Go.Proofs.Ytilpedopnkhppaa.MxS
open Go.Conc Go.Conc.Lib Br Go.Proofs.Ytilpedopnkhppaa.Mx
noncomputable def tbc : Code := ((Try.f59.body.bind (findBody 0)).getD .skip)
def tb3 : Code → Array Oper
 | .seq _ (.block _ (.seq _ (.seq (.region _ ops _) _))) => ops
 | _ => #[]
def tb4 : Code → Code
 | .seq _ (.block _ (.seq _ (.seq _ r))) => r
 | c => c
inductive FB (wy h : Nat) : Array Value → Prop
 | mk (u2 u3 u4 u5 u6 u7 u8 u9 u10 u11 u12 u13 u14 u15 u16 u17 u18 u19 u20 u21 u22 u23 u24 u25 u26 u27 u28 u29 u30 u31 u32 u33 u34 u35 u36 u37 u38 u39 u40 u41 u42 u43 : Value) : FB wy h #[.pointer (some ⟨wy, h * 3, none⟩), .pointer (some ⟨wy, (h + 1) * 3, none⟩), u2, u3, u4, u5, u6, u7, u8, u9, u10, u11, u12, u13, u14, u15, u16, u17, u18, u19, u20, u21, u22, u23, u24, u25, u26, u27, u28, u29, u30, u31, u32, u33, u34, u35, u36, u37, u38, u39, u40, u41, u42, u43]
inductive FBc (wy h : Nat) (c : Bool) : Array Value → Prop
 | mk (u2 u3 u4 u5 u6 u7 u8 u9 u10 u11 u12 u13 u14 u15 u16 u17 u18 u20 u21 u22 u23 u24 u25 u26 u27 u28 u29 u30 u31 u32 u33 u34 u35 u36 u37 u38 u39 u40 u41 u42 u43 : Value) : FBc wy h c #[.pointer (some ⟨wy, h * 3, none⟩), .pointer (some ⟨wy, (h + 1) * 3, none⟩), u2, u3, u4, u5, u6, u7, u8, u9, u10, u11, u12, u13, u14, u15, u16, u17, u18, .bool c, u20, u21, u22, u23, u24, u25, u26, u27, u28, u29, u30, u31, u32, u33, u34, u35, u36, u37, u38, u39, u40, u41, u42, u43]
inductive FBx (wy h : Nat) (x : Option Nat) : Array Value → Prop
 | mk (u2 u3 u4 u5 u6 u7 u8 u9 u10 u11 u12 u13 u14 u15 u16 u17 u18 u19 u20 u21 u22 u24 u25 u26 u27 u28 u29 u30 u31 u32 u33 u34 u35 u36 u37 u38 u39 u40 u41 u42 u43 : Value) : FBx wy h x #[.pointer (some ⟨wy, h * 3, none⟩), .pointer (some ⟨wy, (h + 1) * 3, none⟩), u2, u3, u4, u5, u6, u7, u8, u9, u10, u11, u12, u13, u14, u15, u16, u17, u18, u19, u20, u21, u22, .chan x, u24, u25, u26, u27, u28, u29, u30, u31, u32, u33, u34, u35, u36, u37, u38, u39, u40, u41, u42, u43]
inductive FBs (wy h : Nat) (x y : Option Nat) : Array Value → Prop
 | mk (u2 u3 u4 u5 u6 u7 u8 u9 u10 u11 u12 u13 u14 u15 u16 u17 u18 u19 u20 u21 u22 u24 u25 u26 u28 u29 u30 u31 u32 u33 u34 u35 u36 u37 u38 u39 u40 u41 u42 u43 : Value) : FBs wy h x y #[.pointer (some ⟨wy, h * 3, none⟩), .pointer (some ⟨wy, (h + 1) * 3, none⟩), u2, u3, u4, u5, u6, u7, u8, u9, u10, u11, u12, u13, u14, u15, u16, u17, u18, u19, u20, u21, u22, .chan x, u24, u25, u26, .chan y, u28, u29, u30, u31, u32, u33, u34, u35, u36, u37, u38, u39, u40, u41, u42, u43]
section
variable {s : Grp} {X : Sh} {z al : Value} {Anch Post : Goroutine → World → Prop} {wy N h : Nat} {wf : Nat → Int} {wc : Nat → Option Nat} {wm : Nat → Value}
theorem chn0 : @BEq.beq (Option Nat) (@Option.instBEq Nat (@instBEqOfDecidableEq Nat instDecidableEqNat)) none none = true := rfl
theorem chn1 (x : Nat) : @BEq.beq (Option Nat) (@Option.instBEq Nat (@instBEqOfDecidableEq Nat instDecidableEqNat)) (some x) none = false := rfl
attribute [local go_sem] chn0 chn1
theorem way_ch {v v1 : World} (hw : Hp.Blk v wy (wayT wf wc wm N) 117) (e : v1.heap = v.heap) {k : Nat} (hk : k < N) : v1.cell? ⟨wy, k * 3 + 1, none⟩ = some (.chan (wc k)) := by
 have := (hw.heap (w' := v1) (by rw [e])).cell (wayT_c (wf := wf) (wc := wc) (wm := wm) hk)
 rw [Nat.mul_comm 3 k] at this
 exact this
set_option maxRecDepth 100000 in
set_option maxHeartbeats 4000000 in
theorem tbSel (hX : ShunIn X s.Shun) {Inv : World → Prop} (hI : ∀ v v' : World, v'.heap = v.heap → Inv v → Inv v') (hW : ∀ v, Inv v → Hp.Blk v wy (wayT wf wc wm N) 117) (hi2 : h + 1 < N) (ho : wc h ≠ none ∨ wc (h + 1) ≠ none) {b₀ : Frame} (hb₀ : b₀.kind = .normal) {k : List Item} {cs : List Frame} {St : Goroutine → World → Prop} {m : Nat}
  (hnext : ∀ t w v, FBs wy h (wc h) (wc (h + 1)) t → Like (s.Sd X s.n) w v → Inv v → (phI s z Anch Post).Live w → Goes Try.prog true ((phI s z Anch Post).Far s.n) ((phI s z Anch Post).DM s.n) St m (G (b₀.at ⟨t, []⟩ (.inRegion (tb3 tbc) [0, 1, 2, 3] :: .code (tb4 tbc) :: .inBlock 1 :: k)) cs) w)
  {t : Array Value} {w v : World} (ht : FB wy h t) (hl : Like (s.Sd X s.n) w v) (hi : Inv v) (hlive : (phI s z Anch Post).Live w) {c : Code} (hc : tbc = c) :
  Goes Try.prog true ((phI s z Anch Post).Far s.n) ((phI s z Anch Post).DM s.n) St (m + 40) (G (b₀.at ⟨t, []⟩ (.code c :: k)) cs) w := by
 obtain ⟨u2, u3, u4, u5, u6, u7, u8, u9, u10, u11, u12, u13, u14, u15, u16, u17, u18, u19, u20, u21, u22, u23, u24, u25, u26, u27, u28, u29, u30, u31, u32, u33, u34, u35, u36, u37, u38, u39, u40, u41, u42, u43⟩ := ht
 conv at hc => lhs; whnf
 subst hc
 show MG (phI s z Anch Post) s.n _ (m + 40) _ _
 refine MG.le (m := 12 + 2 + (4 + 2 + (4 + 2 + (m + 1 + 1)) + 1 + 1 + 1 + 1 + 1) + 1 + 1) ?_ (by omega)
 refine MG.seq ?_
 refine MG.seq ?_
 refine m_region (m := 4 + 2 + (4 + 2 + (m + 1 + 1)) + 1 + 1 + 1 + 1 + 1) (R := fun t v' => FBc wy h true t ∧ v'.heap = v.heap)
  hX hb₀ (by kernel_rfl) rfl hlive hl (fun v1 h1 => ?_) (fun a4 w4 v4 hd hi4 hl4 hR4 => ?_)
 ·have hh := Lib.hid (like_same hl h1)
  have fa := way_ch (hW v hi) hh.out (show h < N by omega)
  have fb := way_ch (hW v hi) hh.out (show h + 1 < N by omega)
  clear h1 hl hi hnext hW hI
  rcases hx : wc h with _ | x
  ·rcases hy : wc (h + 1) with _ | y
   ·simp [hx, hy] at ho
   ·rw [hx] at fa
    rw [hy] at fb
    clear ho hx hy
    go_wp2
    iterate 2
     (rename_i K hK; refine hK _ _ ?_; clear hK K; simp only [chn0, chn1, Bool.not_true, Bool.not_false]; go_wp2)
    exact ⟨.mk .., hh.out⟩
  ·rw [hx] at fa
   clear ho hx
   go_wp2
   (rename_i K hK; refine hK _ _ ?_; clear hK K; simp only [chn0, chn1, Bool.not_true, Bool.not_false]; go_wp2)
   exact ⟨.mk .., hh.out⟩
 obtain ⟨t4, d4⟩ := a4
 have hd1 : d4 = [] := hd
 subst hd1
 obtain ⟨ht, hv4⟩ := hR4
 obtain ⟨u2, u3, u4, u5, u6, u7, u8, u9, u10, u11, u12, u13, u14, u15, u16, u17, u18, u20, u21, u22, u23, u24, u25, u26, u27, u28, u29, u30, u31, u32, u33, u34, u35, u36, u37, u38, u39, u40, u41, u42, u43⟩ := ht
 clear hd
 show MG (phI s z Anch Post) s.n _ (4 + 2 + (4 + 2 + (m + 1 + 1)) + 1 + 1 + 1 + 1 + 1) _ _
 refine MG.condT rfl ?_
 refine MG.skip ?_
 refine MG.block ?_
 refine MG.seq ?_
 refine MG.seq ?_
 refine m_region (m := 4 + 2 + (m + 1 + 1)) (R := fun t v' => FBx wy h (wc h) t ∧ v'.heap = v.heap)
  hX hb₀ (by kernel_rfl) rfl hi4 hl4 (fun v1 h1 => ?_) (fun a5 w5 v5 hd hi5 hl5 hR5 => ?_)
 ·have hh := Lib.hid ((like_same hl4 h1).trans hv4)
  have fa := way_ch (hW v hi) hh.out (show h < N by omega)
  clear h1 hl hl4 hi hnext hW hI ho hv4
  go_wp2
  exact ⟨.mk .., hh.out⟩
 obtain ⟨t5, d5⟩ := a5
 have hd1 : d5 = [] := hd
 subst hd1
 obtain ⟨ht, hv5⟩ := hR5
 obtain ⟨u2, u3, u4, u5, u6, u7, u8, u9, u10, u11, u12, u13, u14, u15, u16, u17, u18, u19, u20, u21, u22, u24, u25, u26, u27, u28, u29, u30, u31, u32, u33, u34, u35, u36, u37, u38, u39, u40, u41, u42, u43⟩ := ht
 clear hd
 refine m_region (m := m + 1 + 1) (R := fun t v' => FBs wy h (wc h) (wc (h + 1)) t ∧ v'.heap = v.heap)
  hX hb₀ (by kernel_rfl) rfl hi5 hl5 (fun v1 h1 => ?_) (fun a6 w6 v6 hd hi6 hl6 hR6 => ?_)
 ·have hh := Lib.hid ((like_same hl5 h1).trans hv5)
  have fb := way_ch (hW v hi) hh.out (show h + 1 < N by omega)
  clear h1 hl hl4 hl5 hi hnext hW hI ho hv4 hv5
  go_wp2
  exact ⟨.mk .., hh.out⟩
 obtain ⟨t6, d6⟩ := a6
 have hd1 : d6 = [] := hd
 subst hd1
 obtain ⟨ht, hv6⟩ := hR6
 obtain ⟨u2, u3, u4, u5, u6, u7, u8, u9, u10, u11, u12, u13, u14, u15, u16, u17, u18, u19, u20, u21, u22, u24, u25, u26, u28, u29, u30, u31, u32, u33, u34, u35, u36, u37, u38, u39, u40, u41, u42, u43⟩ := ht
 clear hd
 show MG (phI s z Anch Post) s.n _ (m + 1 + 1) _ _
 refine MG.seq ?_
 refine MG.reg ?_
 exact hnext _ w6 v6 (.mk ..) hl6 (hI v v6 hv6 hi) hi6
set_option maxRecDepth 100000 in
set_option maxHeartbeats 4000000 in
theorem tbOut (hX : ShunIn X s.Shun) {first : Int} {Inv : World → Prop} (hI : ∀ v v' : World, v'.heap = v.heap → Inv v → Inv v') (hW : ∀ v, Inv v → Hp.Blk v wy (wayT wf wc wm N) 117) (hi2 : h + 1 < N) (hx : wc h = none) (hy : wc (h + 1) = none) {b₀ : Frame} {k : List Item} {cs : List Frame} {St : Goroutine → World → Prop} {m : Nat} {tc : Array Value} (htc : FP s al wy N first h tc)
  (hnext : ∀ t w v, FP s al wy N first h t → Like (s.Sd X s.n) w v → Inv v → (phI s z Anch Post).Live w → Goes Try.prog true ((phI s z Anch Post).Far s.n) ((phI s z Anch Post).DM s.n) St m (G (b₀.at ⟨t, []⟩ k) cs) w)
  {t : Array Value} {w v : World} (ht : FB wy h t) (hl : Like (s.Sd X s.n) w v) (hi : Inv v) (hlive : (phI s z Anch Post).Live w) {c : Code} (hc : tbc = c) :
  Goes Try.prog true ((phI s z Anch Post).Far s.n) ((phI s z Anch Post).DM s.n) St (m + 30) (G ((base 59).at ⟨t, []⟩ [.code c, .inLoop c, .inBlock 0]) (b₀.at ⟨tc, []⟩ (.inRegion (tk14 tkc) [2] :: k) :: cs)) w := by
 obtain ⟨u2, u3, u4, u5, u6, u7, u8, u9, u10, u11, u12, u13, u14, u15, u16, u17, u18, u19, u20, u21, u22, u23, u24, u25, u26, u27, u28, u29, u30, u31, u32, u33, u34, u35, u36, u37, u38, u39, u40, u41, u42, u43⟩ := ht
 obtain ⟨⟩ := htc
 conv at hc => lhs; whnf
 subst hc
 show MG (phI s z Anch Post) s.n _ (m + 30) _ _
 refine MG.le (m := 12 + 2 + (m + 1 + 1 + 1 + 1 + 1) + 1 + 1) ?_ (by omega)
 refine MG.seq ?_
 refine MG.seq ?_
 refine m_region (m := m + 1 + 1 + 1 + 1 + 1) (R := fun t v' => FBc wy h false t ∧ v'.heap = v.heap)
  hX rfl (by kernel_rfl) rfl hlive hl (fun v1 h1 => ?_) (fun a4 w4 v4 hd hi4 hl4 hR4 => ?_)
 ·have hh := Lib.hid (like_same hl h1)
  have fa := way_ch (hW v hi) hh.out (show h < N by omega)
  have fb := way_ch (hW v hi) hh.out (show h + 1 < N by omega)
  rw [hx] at fa
  rw [hy] at fb
  clear h1 hl hi hnext hW hI hx hy
  go_wp2
  iterate 2
   (rename_i K hK; refine hK _ _ ?_; clear hK K; simp only [chn0, chn1, Bool.not_true, Bool.not_false]; go_wp2)
  exact ⟨.mk .., hh.out⟩
 obtain ⟨t4, d4⟩ := a4
 have hd1 : d4 = [] := hd
 subst hd1
 obtain ⟨ht, hv4⟩ := hR4
 obtain ⟨u2, u3, u4, u5, u6, u7, u8, u9, u10, u11, u12, u13, u14, u15, u16, u17, u18, u20, u21, u22, u23, u24, u25, u26, u27, u28, u29, u30, u31, u32, u33, u34, u35, u36, u37, u38, u39, u40, u41, u42, u43⟩ := ht
 clear hd
 show MG (phI s z Anch Post) s.n _ (m + 1 + 1 + 1 + 1 + 1) _ _
 refine MG.condF rfl ?_
 refine MG.exit rfl ?_
 refine MG.end_ ?_
 refine MG.leave0 rfl rfl Try.func59 rfl ?_
 refine MG.regEnd ?_
 exact hnext _ w4 v4 (.mk ..) hl4 (hI v v4 hv4 hi) hi4
end
end Go.Proofs.Ytilpedopnkhppaa.MxS

/- A way's take of the news that its channel is closed, in company. Conditions: each theorem's own. -/
namespace Go.Proofs.Ytilpedopnkhppaa.MxS
open Go.Conc Go.Conc.Lib Br Go.Proofs.Ytilpedopnkhppaa.Mx
section
variable {s : Grp} {X : Sh} {z al : Value} {Anch Post : Goroutine → World → Prop} {wy N a : Nat} {wf : Nat → Int} {wc : Nat → Option Nat} {wm : Nat → Value}
set_option maxRecDepth 100000 in
set_option maxHeartbeats 4000000 in
theorem takeShut (hX : ShunIn X s.Shun) {Inv Inv' : World → Prop} (hW : ∀ v, Inv v → Hp.Blk v wy (wayT wf wc wm N) 117) (ha : a < N)
  (hI : ∀ v v', Inv v → Hp.Blk v' wy (wayT wf (Go.ConcN.upd wc a none) wm N) 117 → (∀ b, b ≠ wy → v'.heap[b]? = v.heap[b]?) → v'.heap.size = v.heap.size → Inv' v')
  {val : Value} {bc : Frame} {ac : Act} {opsc : Array Oper} {i : Nat} {rest : List Nat} {kc : List Item} {cs : List Frame} {St : Goroutine → World → Prop} {m : Nat}
  (hnext : ∀ w v, Like (s.Sd X s.n) w v → Inv' v → (phI s z Anch Post).Live w → Goes Try.prog true ((phI s z Anch Post).Far s.n) ((phI s z Anch Post).DM s.n) St m (G (bc.at (ac.put ((opsc[i]?).bind (·.dst)) (.tuple #[])) (.inRegion opsc rest :: kc)) cs) w)
  {w v : World} (hl : Like (s.Sd X s.n) w v) (hi : Inv v) (hlive : (phI s z Anch Post).Live w) {c : Code} (hc : Try.f70.body.getD .skip = c) :
  Goes Try.prog true ((phI s z Anch Post).Far s.n) ((phI s z Anch Post).DM s.n) St (m + 20) (G ((base 70).at ⟨#[.pointer (some ⟨wy, a * 3, none⟩), val, .bool false, undef, undef, undef, undef, undef, undef, undef, undef, undef, undef, undef, undef, undef, undef, undef, undef, undef, undef, undef, undef, undef, undef, undef, undef, undef, undef, undef, undef, undef, undef], []⟩ [.code c]) (bc.at ac (.inRegion opsc (i :: rest) :: kc) :: cs)) w := by
 conv at hc => lhs; whnf
 subst hc
 show MG (phI s z Anch Post) s.n _ (m + 20) _ _
 refine MG.le (m := 2 + 2 + (4 + 2 + (m + 1 + 1) + 1 + 1) + 1 + 1) ?_ (by omega)
 refine MG.seq ?_
 refine MG.seq ?_
 refine m_region (m := 4 + 2 + (m + 1 + 1) + 1 + 1) (R := fun t v' => t = #[.pointer (some ⟨wy, a * 3, none⟩), val, .bool false, undef, undef, undef, .bool false, .bool true, undef, undef, undef, undef, undef, undef, undef, undef, undef, undef, undef, undef, undef, undef, undef, undef, undef, undef, undef, undef, undef, undef, undef, undef, undef] ∧ v'.heap = v.heap)
  hX rfl (by kernel_rfl) rfl hlive hl (fun v1 h1 => ?_) (fun a4 w4 v4 hd hi4 hl4 hR4 => ?_)
 ·have hh := Lib.hid (like_same hl h1)
  clear h1 hl hi hnext hW hI
  go_wp2
  exact hh.out
 obtain ⟨t4, d4⟩ := a4
 have hd1 : d4 = [] := hd
 subst hd1
 obtain ⟨ht, hv4⟩ := hR4
 have ht1 : t4 = #[.pointer (some ⟨wy, a * 3, none⟩), val, .bool false, undef, undef, undef, .bool false, .bool true, undef, undef, undef, undef, undef, undef, undef, undef, undef, undef, undef, undef, undef, undef, undef, undef, undef, undef, undef, undef, undef, undef, undef, undef, undef] := ht
 subst ht1
 clear ht hd
 show MG (phI s z Anch Post) s.n _ (4 + 2 + (m + 1 + 1) + 1 + 1) _ _
 refine MG.condT rfl ?_
 refine MG.seq ?_
 refine m_region (m := m + 1 + 1) (R := fun t v' => Hp.Blk v' wy (wayT wf (Go.ConcN.upd wc a none) wm N) 117 ∧ (∀ b, b ≠ wy → v'.heap[b]? = v.heap[b]?) ∧ v'.heap.size = v.heap.size)
  hX rfl (by kernel_rfl) rfl hi4 hl4 (fun v1 h1 => ?_) (fun a5 w5 v5 hd hi5 hl5 hR5 => ?_)
 ·have hh := Lib.hid ((like_same hl4 h1).trans hv4)
  have B := (hW v hi).heap (w' := v1) (by rw [hh.out])
  have f1 := way_ch (hW v hi) hh.out ha
  have z1 := B.frozen (a * 3 + 1)
  have B1 := Lib.hid (B.set (a * 3 + 1) (.chan none))
  clear h1 hl hl4 hi hnext hW hI hv4 B
  go_wp2
  refine ⟨?_, fun b hb => ?_, by rw [hh.out]⟩
  ·have := B1.out
   rw [Nat.mul_comm a 3, wayT_setc ha] at this
   rw [Nat.mul_comm a 3]
   exact this
  ·rw [set_far hb, hh.out]
 obtain ⟨t5, d5⟩ := a5
 have hd1 : d5 = [] := hd
 subst hd1
 obtain ⟨hB5, ho5, hs5⟩ := hR5
 clear hd
 show MG (phI s z Anch Post) s.n _ (m + 1 + 1) _ _
 refine MG.ret ?_
 refine MG.leave0 rfl rfl Try.func70 rfl ?_
 exact hnext w5 v5 hl5 (hI v v5 hi hB5 ho5 hs5) hi5
end
end Go.Proofs.Ytilpedopnkhppaa.MxS

/- takeBoth from behind its select to a way's take, in company. Conditions: each theorem's own. -/
namespace Go.Proofs.Ytilpedopnkhppaa.MxS
open Go.Conc Go.Conc.Lib Br Go.Proofs.Ytilpedopnkhppaa.Mx
def tb5 : Code → Array Oper
 | .block _ (.cond _ (.seq _ (.region _ ops _)) _) => ops
 | _ => #[]
def tb7 : Code → Array Oper
 | .block _ (.cond _ _ (.cond _ (.seq _ (.region _ ops _)) _)) => ops
 | _ => #[]
section
variable {s : Grp} {X : Sh} {z al : Value} {Anch Post : Goroutine → World → Prop} {wy h : Nat}
inductive FV0 (wy h : Nat) (vx : Value) (ok : Bool) : Array Value → Prop
 | mk (u2 u3 u6 u7 u8 u9 u10 u11 u12 u13 u14 u15 u16 u17 u18 u19 u20 u21 u22 u23 u24 u25 u26 u27 u28 u29 u30 u31 u32 u33 u34 u35 u36 u37 u38 u39 u40 u41 u42 u43 : Value) : FV0 wy h vx ok #[.pointer (some ⟨wy, h * 3, none⟩), .pointer (some ⟨wy, (h + 1) * 3, none⟩), u2, u3, vx, .bool ok, u6, u7, u8, u9, u10, u11, u12, u13, u14, u15, u16, u17, u18, u19, u20, u21, u22, u23, u24, u25, u26, u27, u28, u29, u30, u31, u32, u33, u34, u35, u36, u37, u38, u39, u40, u41, u42, u43]
set_option maxRecDepth 100000 in
set_option maxHeartbeats 4000000 in
theorem selFst (hX : ShunIn X s.Shun) {Inv : World → Prop} (hI : ∀ v v' : World, v'.heap = v.heap → Inv v → Inv v') {va vb : Value} {ok : Bool} {b₀ : Frame} (hb₀ : b₀.kind = .normal) {k : List Item} {cs : List Frame} {St : Goroutine → World → Prop} {m : Nat} (u2 u3 u4 u5 u6 u7 u8 u9 u10 u11 u12 u13 u14 u15 u16 u17 u18 u19 u20 u21 u22 u23 u24 u25 u26 u27 u29 u30 u31 u32 u33 u34 u35 u36 u37 u38 u39 u40 u41 u42 u43 : Value)
  (hnext : ∀ t w v, FB wy h t → Like (s.Sd X s.n) w v → Inv v → (phI s z Anch Post).Live w → Goes Try.prog true ((phI s z Anch Post).Far s.n) ((phI s z Anch Post).DM s.n) St m (G ((base 70).at ⟨#[.pointer (some ⟨wy, h * 3, none⟩), va, .bool ok] ++ Array.replicate 30 undef, []⟩ [.code (Try.f70.body.getD .skip)]) (b₀.at ⟨t, []⟩ (.inRegion (tb5 (tb4 tbc)) [3] :: .inBlock 2 :: .inBlock 1 :: k) :: cs)) w)
  {w v : World} (hl : Like (s.Sd X s.n) w v) (hi : Inv v) (hlive : (phI s z Anch Post).Live w) {ops : Array Oper} {c : Code} (hops : tb3 tbc = ops) (hc : tb4 tbc = c) :
  Goes Try.prog true ((phI s z Anch Post).Far s.n) ((phI s z Anch Post).DM s.n) St (m + 30) (G (b₀.at ⟨#[.pointer (some ⟨wy, h * 3, none⟩), .pointer (some ⟨wy, (h + 1) * 3, none⟩), u2, u3, u4, u5, u6, u7, u8, u9, u10, u11, u12, u13, u14, u15, u16, u17, u18, u19, u20, u21, u22, u23, u24, u25, u26, u27, .tuple #[.int .i64 0, .bool ok, va, vb], u29, u30, u31, u32, u33, u34, u35, u36, u37, u38, u39, u40, u41, u42, u43], []⟩ (.inRegion ops [1, 2, 3] :: .code c :: .inBlock 1 :: k)) cs) w := by
 conv at hops => lhs; whnf
 subst hops
 conv at hc => lhs; whnf
 subst hc
 show MG (phI s z Anch Post) s.n _ (m + 30) _ _
 refine MG.le (m := 4 + 2 + (m + 1 + 3 + 1) + 1 + 1 + 1 + 1 + 3) ?_ (by omega)
 refine MG.pure (y := .int .i64 0) rfl rfl hb₀ (fun w => rfl) ?_
 refine MG.pure (y := .bool true) rfl rfl hb₀ (fun w => rfl) ?_
 refine MG.pure (y := .bool false) rfl rfl hb₀ (fun w => rfl) ?_
 refine MG.regEnd ?_
 refine MG.block ?_
 refine MG.condT rfl ?_
 refine MG.seq ?_
 refine m_region (m := m + 1 + 3 + 1) (R := fun t v' => FV0 wy h va ok t ∧ v'.heap = v.heap)
  hX hb₀ (by kernel_rfl) rfl hlive hl (fun v1 h1 => ?_) (fun a4 w4 v4 hd hi4 hl4 hR4 => ?_)
 ·have hh := Lib.hid (like_same hl h1)
  clear h1 hl hi hnext hI
  go_wp2
  exact ⟨.mk .., hh.out⟩
 obtain ⟨t4, d4⟩ := a4
 have hd1 : d4 = [] := hd
 subst hd1
 obtain ⟨ht, hv4⟩ := hR4
 obtain ⟨u2, u3, u6, u7, u8, u9, u10, u11, u12, u13, u14, u15, u16, u17, u18, u19, u20, u21, u22, u23, u24, u25, u26, u27, u28, u29, u30, u31, u32, u33, u34, u35, u36, u37, u38, u39, u40, u41, u42, u43⟩ := ht
 clear hd
 show MG (phI s z Anch Post) s.n _ (m + 1 + 3 + 1) _ _
 refine MG.reg ?_
 refine MG.pure (y := .pointer (some ⟨wy, h * 3, none⟩)) rfl rfl hb₀ (fun w => rfl) ?_
 refine MG.pure (y := va) rfl rfl hb₀ (fun w => rfl) ?_
 refine MG.pure (y := .bool ok) rfl rfl hb₀ (fun w => rfl) ?_
 refine MG.call' (f := 70) (vals := #[.pointer (some ⟨wy, h * 3, none⟩), va, .bool ok]) rfl rfl hb₀ rfl Try.func70 (by kernel_rfl) rfl (by simp [Act.eval, Act.put]) ?_
 exact hnext _ w4 v4 (.mk ..) hl4 (hI v v4 hv4 hi) hi4
inductive FV1 (wy h : Nat) (vx : Value) (ok : Bool) : Array Value → Prop
 | mk (u2 u3 u4 u5 u8 u9 u10 u11 u12 u13 u14 u15 u16 u17 u18 u19 u20 u21 u22 u23 u24 u25 u26 u27 u28 u29 u30 u31 u32 u33 u34 u35 u36 u37 u38 u39 u40 u41 u42 u43 : Value) : FV1 wy h vx ok #[.pointer (some ⟨wy, h * 3, none⟩), .pointer (some ⟨wy, (h + 1) * 3, none⟩), u2, u3, u4, u5, vx, .bool ok, u8, u9, u10, u11, u12, u13, u14, u15, u16, u17, u18, u19, u20, u21, u22, u23, u24, u25, u26, u27, u28, u29, u30, u31, u32, u33, u34, u35, u36, u37, u38, u39, u40, u41, u42, u43]
set_option maxRecDepth 100000 in
set_option maxHeartbeats 4000000 in
theorem selSnd (hX : ShunIn X s.Shun) {Inv : World → Prop} (hI : ∀ v v' : World, v'.heap = v.heap → Inv v → Inv v') {va vb : Value} {ok : Bool} {b₀ : Frame} (hb₀ : b₀.kind = .normal) {k : List Item} {cs : List Frame} {St : Goroutine → World → Prop} {m : Nat} (u2 u3 u4 u5 u6 u7 u8 u9 u10 u11 u12 u13 u14 u15 u16 u17 u18 u19 u20 u21 u22 u23 u24 u25 u26 u27 u29 u30 u31 u32 u33 u34 u35 u36 u37 u38 u39 u40 u41 u42 u43 : Value)
  (hnext : ∀ t w v, FB wy h t → Like (s.Sd X s.n) w v → Inv v → (phI s z Anch Post).Live w → Goes Try.prog true ((phI s z Anch Post).Far s.n) ((phI s z Anch Post).DM s.n) St m (G ((base 70).at ⟨#[.pointer (some ⟨wy, (h + 1) * 3, none⟩), vb, .bool ok] ++ Array.replicate 30 undef, []⟩ [.code (Try.f70.body.getD .skip)]) (b₀.at ⟨t, []⟩ (.inRegion (tb7 (tb4 tbc)) [3] :: .inBlock 2 :: .inBlock 1 :: k) :: cs)) w)
  {w v : World} (hl : Like (s.Sd X s.n) w v) (hi : Inv v) (hlive : (phI s z Anch Post).Live w) {ops : Array Oper} {c : Code} (hops : tb3 tbc = ops) (hc : tb4 tbc = c) :
  Goes Try.prog true ((phI s z Anch Post).Far s.n) ((phI s z Anch Post).DM s.n) St (m + 30) (G (b₀.at ⟨#[.pointer (some ⟨wy, h * 3, none⟩), .pointer (some ⟨wy, (h + 1) * 3, none⟩), u2, u3, u4, u5, u6, u7, u8, u9, u10, u11, u12, u13, u14, u15, u16, u17, u18, u19, u20, u21, u22, u23, u24, u25, u26, u27, .tuple #[.int .i64 1, .bool ok, va, vb], u29, u30, u31, u32, u33, u34, u35, u36, u37, u38, u39, u40, u41, u42, u43], []⟩ (.inRegion ops [1, 2, 3] :: .code c :: .inBlock 1 :: k)) cs) w := by
 conv at hops => lhs; whnf
 subst hops
 conv at hc => lhs; whnf
 subst hc
 show MG (phI s z Anch Post) s.n _ (m + 30) _ _
 refine MG.le (m := 4 + 2 + (m + 1 + 3 + 1) + 1 + 1 + 1 + 1 + 1 + 3) ?_ (by omega)
 refine MG.pure (y := .int .i64 1) rfl rfl hb₀ (fun w => rfl) ?_
 refine MG.pure (y := .bool false) rfl rfl hb₀ (fun w => rfl) ?_
 refine MG.pure (y := .bool true) rfl rfl hb₀ (fun w => rfl) ?_
 refine MG.regEnd ?_
 refine MG.block ?_
 refine MG.condF rfl ?_
 refine MG.condT rfl ?_
 refine MG.seq ?_
 refine m_region (m := m + 1 + 3 + 1) (R := fun t v' => FV1 wy h vb ok t ∧ v'.heap = v.heap)
  hX hb₀ (by kernel_rfl) rfl hlive hl (fun v1 h1 => ?_) (fun a4 w4 v4 hd hi4 hl4 hR4 => ?_)
 ·have hh := Lib.hid (like_same hl h1)
  clear h1 hl hi hnext hI
  go_wp2
  exact ⟨.mk .., hh.out⟩
 obtain ⟨t4, d4⟩ := a4
 have hd1 : d4 = [] := hd
 subst hd1
 obtain ⟨ht, hv4⟩ := hR4
 obtain ⟨u2, u3, u4, u5, u8, u9, u10, u11, u12, u13, u14, u15, u16, u17, u18, u19, u20, u21, u22, u23, u24, u25, u26, u27, u28, u29, u30, u31, u32, u33, u34, u35, u36, u37, u38, u39, u40, u41, u42, u43⟩ := ht
 clear hd
 show MG (phI s z Anch Post) s.n _ (m + 1 + 3 + 1) _ _
 refine MG.reg ?_
 refine MG.pure (y := .pointer (some ⟨wy, (h + 1) * 3, none⟩)) rfl rfl hb₀ (fun w => rfl) ?_
 refine MG.pure (y := vb) rfl rfl hb₀ (fun w => rfl) ?_
 refine MG.pure (y := .bool ok) rfl rfl hb₀ (fun w => rfl) ?_
 refine MG.call' (f := 70) (vals := #[.pointer (some ⟨wy, (h + 1) * 3, none⟩), vb, .bool ok]) rfl rfl hb₀ rfl Try.func70 (by kernel_rfl) rfl (by simp [Act.eval, Act.put]) ?_
 exact hnext _ w4 v4 (.mk ..) hl4 (hI v v4 hv4 hi) hi4
end
end Go.Proofs.Ytilpedopnkhppaa.MxS

/- takeBoth's select, one step of it. Conditions: each theorem's own. -/
namespace Go.Proofs.Ytilpedopnkhppaa.MxS
open Go.Conc Go.Conc.Lib Br Go.Proofs.Ytilpedopnkhppaa.Mx
def kz (z : Value) : Option Nat → CommCase
 | some c => rcase c z
 | none => rcaseNil z
section
variable {wy h : Nat} {x y : Option Nat}
set_option maxRecDepth 100000 in
theorem selTb {t : Array Value} (ht : FBs wy h x y t) {ops : Array Oper} (hops : tb3 tbc = ops) {b₀ : Frame} (hb₀ : b₀.kind = .normal) {k : List Item} {cs : List Frame} (w : World) :
  stepG Try.prog true (G (b₀.at ⟨t, []⟩ (.inRegion ops [0, 1, 2, 3] :: k)) cs) w = .comm (G (b₀.at ⟨t, []⟩ (.inRegion ops [0, 1, 2, 3] :: k)) cs) #[kz (.pointer none) x, kz (.pointer none) y] true .select w #[] := by
 obtain ⟨u2, u3, u4, u5, u6, u7, u8, u9, u10, u11, u12, u13, u14, u15, u16, u17, u18, u19, u20, u21, u22, u24, u25, u26, u28, u29, u30, u31, u32, u33, u34, u35, u36, u37, u38, u39, u40, u41, u42, u43⟩ := ht
 subst hops
 have hr : (execOp (Act.eval ⟨#[.pointer (some ⟨wy, h * 3, none⟩), .pointer (some ⟨wy, (h + 1) * 3, none⟩), u2, u3, u4, u5, u6, u7, u8, u9, u10, u11, u12, u13, u14, u15, u16, u17, u18, u19, u20, u21, u22, .chan x, u24, u25, u26, .chan y, u28, u29, u30, u31, u32, u33, u34, u35, u36, u37, u38, u39, u40, u41, u42, u43], []⟩) (((tb3 tbc)[0]?).getD default)).runT Try.prog w #[] = (.ok (.comm #[kz (.pointer none) x, kz (.pointer none) y] true .select) w, #[]) := by
  rcases x with _ | x <;> rcases y with _ | y <;> kernel_rfl
 have he : listed Try.prog b₀.fn ⟨#[.pointer (some ⟨wy, h * 3, none⟩), .pointer (some ⟨wy, (h + 1) * 3, none⟩), u2, u3, u4, u5, u6, u7, u8, u9, u10, u11, u12, u13, u14, u15, u16, u17, u18, u19, u20, u21, u22, .chan x, u24, u25, u26, .chan y, u28, u29, u30, u31, u32, u33, u34, u35, u36, u37, u38, u39, u40, u41, u42, u43], []⟩ (((tb3 tbc)[0]?).getD default) w = #[] := by
  unfold listed Sem.events
  rw [hr]
  exact seen_none _ _
 have hst := stepG_comm (main := true) (P := Try.prog) (b := b₀) (a := ⟨#[.pointer (some ⟨wy, h * 3, none⟩), .pointer (some ⟨wy, (h + 1) * 3, none⟩), u2, u3, u4, u5, u6, u7, u8, u9, u10, u11, u12, u13, u14, u15, u16, u17, u18, u19, u20, u21, u22, .chan x, u24, u25, u26, .chan y, u28, u29, u30, u31, u32, u33, u34, u35, u36, u37, u38, u39, u40, u41, u42, u43], []⟩) (ops := tb3 tbc) (i := 0) (rest := [1, 2, 3]) (k := k) (cs := cs) (o := (((tb3 tbc)[0]?).getD default)) (w := w) (w' := w) (cases := #[kz (.pointer none) x, kz (.pointer none) y]) (blocking := true) (shape := .select) rfl rfl (by rw [hb₀]; decide) (by rw [← Sem.runT_fst Try.prog _ w #[], hr])
 rw [he] at hst
 exact hst
end
end Go.Proofs.Ytilpedopnkhppaa.MxS

/- The select's cases and what it yields. Conditions: each theorem's own. -/
namespace Go.Proofs.Ytilpedopnkhppaa.MxS
open Go.Conc Go.Conc.Lib Br Go.Proofs.Ytilpedopnkhppaa.Mx
theorem comm0 (z v : Value) (x y : Option Nat) (ok : Bool) : commResult #[kz z x, kz z y] .select ((0 : Nat) : Int) v ok = .tuple #[.int .i64 0, .bool ok, v, z] := by
 rcases x with _ | x <;> rcases y with _ | y <;> kernel_rfl
theorem comm1 (z v : Value) (x y : Option Nat) (ok : Bool) : commResult #[kz z x, kz z y] .select ((1 : Nat) : Int) v ok = .tuple #[.int .i64 1, .bool ok, z, v] := by
 rcases x with _ | x <;> rcases y with _ | y <;> kernel_rfl
section
variable {s : Grp} {z : Value} {Anch Post : Goroutine → World → Prop}
open Classical in
noncomputable def wcT (s : Grp) (z : Value) (Anch Post : Goroutine → World → Prop) (T : Nat → Nat) (k : Nat) : Option Nat := if (phI s z Anch Post).opn T k then some (s.chan k) else none
theorem kase_eq (T : Nat → Nat) (k : Nat) : (phI s z Anch Post).kase T k = kz z (wcT s z Anch Post T k) := by
 unfold Ph.kase wcT
 split
 ·rfl
 ·rfl
theorem kases_eq (T : Nat → Nat) (x y : Nat) : (phI s z Anch Post).kases T x y = #[kz z (wcT s z Anch Post T x), kz z (wcT s z Anch Post T y)] := by
 unfold Ph.kases
 rw [kase_eq, kase_eq]
theorem wcT_none {T : Nat → Nat} {k : Nat} (h : ¬ (phI s z Anch Post).opn T k) : wcT s z Anch Post T k = none := by
 unfold wcT
 rw [if_neg h]
theorem wcT_some {T : Nat → Nat} {k : Nat} (h : (phI s z Anch Post).opn T k) : wcT s z Anch Post T k = some (s.chan k) := by
 unfold wcT
 rw [if_pos h]
theorem wcT_other {T : Nat → Nat} {k q c : Nat} (h : q ≠ k) : wcT s z Anch Post (Go.ConcN.upd T k c) q = wcT s z Anch Post T q := by
 unfold wcT Ph.opn Go.ConcN.upd
 simp [h]
theorem wcT_val {T : Nat → Nat} {k : Nat} (hk : k < s.n) (h : T k < ((phI s z Anch Post).vs k).length) : wcT s z Anch Post (Go.ConcN.upd T k (T k + 1)) = wcT s z Anch Post T := by
 funext q
 by_cases e : q = k
 ·subst e
  rw [wcT_some (T := T) ⟨hk, by omega⟩, wcT_some]
  exact ⟨hk, by simp [Go.ConcN.upd]; omega⟩
 ·exact wcT_other e
theorem wcT_shut {T : Nat → Nat} {k : Nat} (h : T k = ((phI s z Anch Post).vs k).length) : wcT s z Anch Post (Go.ConcN.upd T k (T k + 1)) = Go.ConcN.upd (wcT s z Anch Post T) k none := by
 funext q
 by_cases e : q = k
 ·subst e
  rw [wcT_none]
  ·simp [Go.ConcN.upd]
  ·rintro ⟨_, h2⟩
   simp [Go.ConcN.upd] at h2
   omega
 ·rw [wcT_other e]
  simp [Go.ConcN.upd, e]
end
end Go.Proofs.Ytilpedopnkhppaa.MxS

/- At the select: SelAt, packed. Conditions: each theorem's own. -/
namespace Go.Proofs.Ytilpedopnkhppaa.MxS
open Go.Conc Go.Conc.Lib Br Go.Proofs.Ytilpedopnkhppaa.Mx
section
variable {s : Grp} {Anch Post : Goroutine → World → Prop} {wy h : Nat} {T : Nat → Nat} {Next : (Nat → Nat) → Goroutine → World → Prop}
def News (p : Ph) (T : Nat → Nat) (q : Nat) (v : Value) (ok : Bool) : Prop := ((p.vs q)[T q]? = some v ∧ ok = true) ∨ (T q = (p.vs q).length ∧ v = .pointer none ∧ ok = false)
theorem selAt {t : Array Value} (ht : FBs wy h (wcT s (.pointer none) Anch Post T h) (wcT s (.pointer none) Anch Post T (h + 1)) t) (ho : (phI s (.pointer none) Anch Post).opn T h ∨ (phI s (.pointer none) Anch Post).opn T (h + 1)) {b₀ : Frame} (hb₀ : b₀.kind = .normal) {k : List Item} {cs : List Frame} {w : World}
  (h0 : ∀ v ok w₁, h < s.n → News (phI s (.pointer none) Anch Post) T h v ok → (phI s (.pointer none) Anch Post).Far s.n w w₁ → Next (Go.ConcN.upd T h (T h + 1)) (G (b₀.at (Act.put ⟨t, []⟩ (some 28) (.tuple #[.int .i64 0, .bool ok, v, .pointer none])) (.inRegion (tb3 tbc) [1, 2, 3] :: k)) cs) w₁)
  (h1 : ∀ v ok w₁, h + 1 < s.n → News (phI s (.pointer none) Anch Post) T (h + 1) v ok → (phI s (.pointer none) Anch Post).Far s.n w w₁ → Next (Go.ConcN.upd T (h + 1) (T (h + 1) + 1)) (G (b₀.at (Act.put ⟨t, []⟩ (some 28) (.tuple #[.int .i64 1, .bool ok, .pointer none, v])) (.inRegion (tb3 tbc) [1, 2, 3] :: k)) cs) w₁) :
  (phI s (.pointer none) Anch Post).Sel Next T (G (b₀.at ⟨t, []⟩ (.inRegion (tb3 tbc) [0, 1, 2, 3] :: k)) cs) w := by
 refine ⟨rfl, _, h, h + 1, rfl, rfl, rfl, ⟨by omega, ho, fun w₁ _ => by rw [kases_eq]; exact selTb ht rfl hb₀ w₁, ?_, ?_⟩⟩
 ·intro i q v hik hk hv w₁ hw
  rcases hik with ⟨rfl, rfl⟩ | ⟨rfl, rfl⟩
  ·rw [kases_eq, comm0, served_at]
   exact h0 v true w₁ hk (.inl ⟨hv, rfl⟩) hw
  ·rw [kases_eq, comm1, served_at]
   exact h1 v true w₁ hk (.inl ⟨hv, rfl⟩) hw
 ·intro i q hik hk hv w₁ hw
  rcases hik with ⟨rfl, rfl⟩ | ⟨rfl, rfl⟩
  ·rw [kases_eq, comm0, served_at]
   exact h0 _ false w₁ hk (.inr ⟨hv, rfl, rfl⟩) hw
  ·rw [kases_eq, comm1, served_at]
   exact h1 _ false w₁ hk (.inr ⟨hv, rfl, rfl⟩) hw
end
end Go.Proofs.Ytilpedopnkhppaa.MxS

/- Rows of elements of whatever cells, of the call's own: how they lie, append, make. Conditions: each theorem's own. -/
namespace Go.Proofs.Ytilpedopnkhppaa.Rw
open Go.RowKit Hp
structure Ty (α : Type) where
 E : TypeId
 L : TypeId
 k : Nat
 bz : Nat
 enc : α → List Value
 z : Value
 hL : Try.prog.underlying L = some (.slice E)
 hI : (Try.prog.info? E).map (fun i => (i.zero, i.size, i.bytes)) = some (some z, k, bz)
 hz : z.cells.size = k
 hk : ∀ x, (enc x).length = k
 h1 : ∀ x, ∀ v ∈ enc x, v.oneCell' = true
 k0 : 0 < k
 hb : bz ≤ 128
variable {α : Type} {t : Ty α}
def flat (t : Ty α) (l : List α) : List Value := l.flatMap t.enc
theorem flat_len (t : Ty α) : ∀ l : List α, (flat t l).length = l.length * t.k
 | [] => by simp [flat]
 | x :: l => by
   have := flat_len t l
   unfold flat at this ⊢
   rw [List.flatMap_cons, List.length_append, this, t.hk, List.length_cons, Nat.add_mul, Nat.one_mul, Nat.add_comm]
theorem flat_append (t : Ty α) (a b : List α) : flat t (a ++ b) = flat t a ++ flat t b := by unfold flat; rw [List.flatMap_append]
theorem flat_at (t : Ty α) : ∀ {l : List α} {i : Nat} {x : α} (h : l[i]? = some x) {j : Nat} (hj : j < t.k), (flat t l)[i * t.k + j]? = (t.enc x)[j]?
 | [], i, x, h, j, hj => by simp at h
 | y :: l, 0, x, h, j, hj => by
   simp at h; subst h
   unfold flat
   rw [List.flatMap_cons, List.getElem?_append_left (by rw [t.hk]; omega)]
   congr 1; omega
 | y :: l, i + 1, x, h, j, hj => by
   have := flat_at t (l := l) (i := i) (x := x) (by simpa using h) hj
   unfold flat at this ⊢
   have e : (i + 1) * t.k + j = t.k + (i * t.k + j) := by rw [Nat.add_mul, Nat.one_mul]; omega
   rw [List.flatMap_cons, e, List.getElem?_append_right (by rw [t.hk]; omega), t.hk, Nat.add_sub_cancel_left, this]
theorem flat_one (t : Ty α) {l : List α} : ∀ u ∈ flat t l, u.oneCell' = true := by
 intro u hu
 obtain ⟨x, _, hx⟩ := List.mem_flatMap.1 hu
 exact t.h1 x u hx
def Row (t : Ty α) (w : World) (base : Nat) (v : Value) (l : List α) : Prop := w.ownsRow base t.E t.k v l.length (flat t l)
structure Lies (t : Ty α) (w : World) (g cap : Nat) (cur : List Value) (l : List α) : Prop where
 blk : Blk w g cur t.E
 le : l.length ≤ cap
 most : cap ≤ maxLen
 len : cur.length = cap * t.k
 head : cur.take (l.length * t.k) = flat t l
theorem Row.form {w : World} {base : Nat} {v : Value} {l : List α} (h : Row t w base v l) :
  (v = .slice none 0 0 ∧ l = []) ∨ ∃ g cap cur, v = .slice (some ⟨g, 0, none⟩) l.length cap ∧ base ≤ g ∧ Lies t w g cap cur l := by
 rcases h.2 with ⟨rfl, h0⟩ | ⟨g, cap, cur, rfl, h1, h2, h3, h4, h5, h6⟩
 ·exact Or.inl ⟨rfl, List.length_eq_zero_iff.1 h0⟩
 ·exact Or.inr ⟨g, cap, cur.toList, rfl, h1, ⟨by unfold Blk; simpa using h2, h3, h4, by simpa using h5, h6⟩⟩
theorem Lies.row {w : World} {g cap base : Nat} {cur : List Value} {l : List α} (h : Lies t w g cap cur l) (hb : base ≤ g) : Row t w base (.slice (some ⟨g, 0, none⟩) l.length cap) l :=
 ⟨flat_len t l, Or.inr ⟨g, cap, cur.toArray, rfl, hb, h.blk, h.le, h.most, by simpa using h.len, h.head⟩⟩
theorem Lies.cur_at {w : World} {g cap : Nat} {cur : List Value} {l : List α} (h : Lies t w g cap cur l) {j : Nat} (hj : j < l.length * t.k) : cur[j]? = (flat t l)[j]? := by
 rw [← h.head, List.getElem?_take, if_pos hj]
theorem Lies.cell {w : World} {g cap : Nat} {cur : List Value} {l : List α} (h : Lies t w g cap cur l) {i : Nat} {x : α} (hi : l[i]? = some x) {j : Nat} {u : Value} (hu : (t.enc x)[j]? = some u) : w.cell? ⟨g, i * t.k + j, none⟩ = some u := by
 have hj : j < t.k := by have := (List.getElem?_eq_some_iff.1 hu).1; rwa [t.hk] at this
 have hil := (List.getElem?_eq_some_iff.1 hi).1
 refine h.blk.cell ?_
 rw [h.cur_at ?_, flat_at t hi hj, hu]
 have : (i + 1) * t.k ≤ l.length * t.k := Nat.mul_le_mul_right _ hil
 rw [Nat.add_mul, Nat.one_mul] at this
 omega
theorem Lies.kept {w w' : World} {F : Nat → Prop} {g cap : Nat} {cur : List Value} {l : List α} (h : Lies t w g cap cur l) (k : Kept F w w') (hF : ¬ F g) : Lies t w' g cap cur l := ⟨k.blk h.blk hF, h.le, h.most, h.len, h.head⟩
theorem Row.kept {w w' : World} {F : Nat → Prop} {base : Nat} {v : Value} {l : List α} (h : Row t w base v l) (k : Kept F w w') (hF : ∀ g, v.ownBlock = some g → ¬ F g) : Row t w' base v l := by
 rcases h.form with ⟨rfl, rfl⟩ | ⟨g, cap, cur, rfl, h1, h2⟩
 ·exact ⟨by simp [flat], Or.inl ⟨rfl, rfl⟩⟩
 ·exact (h2.kept k (hF g rfl)).row h1
theorem Row.old {w w' : World} {base : Nat} {v : Value} {l : List α} (h : Row t w base v l) (k : Kept (fun _ => False) w w') : Row t w' base v l := h.kept k (fun _ _ f => f)
theorem Row.lt {w : World} {base : Nat} {v : Value} {l : List α} (h : Row t w base v l) : ∀ g, v.ownBlock = some g → base ≤ g ∧ g < w.heap.size := fun g hg => World.ownsRow.lt h g hg
theorem Row.base {w : World} {b b' : Nat} {v : Value} {l : List α} (h : Row t w b v l) (hb : ∀ g, v.ownBlock = some g → b' ≤ g) : Row t w b' v l := by
 rcases h.form with ⟨rfl, rfl⟩ | ⟨g, cap, cur, rfl, h1, h2⟩
 ·exact ⟨by simp [flat], Or.inl ⟨rfl, rfl⟩⟩
 ·exact h2.row (hb g rfl)
theorem Row.none (t : Ty α) (w : World) (b : Nat) : Row t w b (.slice none 0 0) [] := ⟨by simp [flat], Or.inl ⟨rfl, rfl⟩⟩
theorem Row.slice {w : World} {base : Nat} {v : Value} {l : List α} (h : Row t w base v l) : ∃ a c, v = .slice a l.length c ∧ l.length ≤ c ∧ c ≤ maxLen := by
 rcases h.form with ⟨rfl, rfl⟩ | ⟨g, cap, cur, rfl, h1, h2⟩
 ·exact ⟨_, 0, rfl, Nat.le_refl _, by decide⟩
 ·exact ⟨_, cap, rfl, h2.le, h2.most⟩
def Src (t : Ty α) (w : World) (v : Value) (K : List α) : Prop :=
 (K = [] ∧ v = .slice none 0 0) ∨ ∃ a c, v = .slice (some a) K.length c ∧ ∀ j u, (flat t K)[j]? = some u → w.cell? (a.add j) = some u
theorem Src.old {w w' : World} {v : Value} {K : List α} (h : Src t w v K) (hc : ∀ a u, w.cell? a = some u → w'.cell? a = some u) : Src t w' v K := by
 rcases h with h | ⟨a, c, rfl, h⟩
 ·exact Or.inl h
 ·exact Or.inr ⟨a, c, rfl, fun j u hj => hc _ _ (h j u hj)⟩
theorem src_blk {w : World} {g : Nat} {K : List α} (c : Nat) (h : Blk w g (flat t K) t.E) : Src t w (.slice (some ⟨g, 0, none⟩) K.length c) K :=
 Or.inr ⟨_, c, rfl, fun j u hj => by rw [Go.WideShapes.add_plain, Nat.zero_add]; exact h.cell hj⟩
theorem Lies.src {w : World} {g cap : Nat} {cur : List Value} {l : List α} (h : Lies t w g cap cur l) (i n c : Nat) (hn : i + n ≤ l.length) : Src t w (.slice (some ⟨g, i * t.k, none⟩) n c) ((l.drop i).take n) := by
 have hl : ((l.drop i).take n).length = n := by rw [List.length_take, List.length_drop]; omega
 refine Or.inr ⟨_, c, by rw [hl], fun j u hj => ?_⟩
 have hjl := (List.getElem?_eq_some_iff.1 hj).1
 rw [flat_len, hl] at hjl
 rw [Go.WideShapes.add_plain]
 refine h.blk.cell ?_
 have hm : (i + n) * t.k ≤ l.length * t.k := Nat.mul_le_mul_right _ hn
 rw [Nat.add_mul] at hm
 rw [h.cur_at (by omega)]
 have hq : j / t.k < n := Nat.div_lt_of_lt_mul (by rw [Nat.mul_comm]; exact hjl)
 have hr : j % t.k < t.k := Nat.mod_lt _ t.k0
 have hj2 : j = (j / t.k) * t.k + j % t.k := by rw [Nat.mul_comm]; exact (Nat.div_add_mod j t.k).symm
 have hx : ((l.drop i).take n)[j / t.k]? = some l[i + j / t.k] := by
  rw [List.getElem?_take, if_pos hq, List.getElem?_drop, List.getElem?_eq_getElem (by omega)]
 rw [hj2] at hj
 rw [flat_at t hx hr] at hj
 rw [hj2, show i * t.k + (j / t.k * t.k + j % t.k) = (i + j / t.k) * t.k + j % t.k by rw [Nat.add_mul]; omega, flat_at t (List.getElem?_eq_getElem (by omega)) hr]
 exact hj
structure Apd (t : Ty α) (w : World) (base : Nat) (v : Value) (l : List α) (v' : Value) (w' : World) : Prop where
 row : Row t w' base v' l
 kept : Kept (fun k => v.ownBlock = some k) w w'
 lies : ∀ g, v'.ownBlock = some g → v.ownBlock = some g ∨ w.heap.size ≤ g
theorem grown_kept {w w' : World} {row : Option Nat} (h : w.grownBy w' row) : Kept (fun k => row = some k) w w' := ⟨h.os, h.tape, h.output, h.size, fun k hk hr => h.block k hk (fun e => hr e.symm)⟩
theorem run_app {w : World} (base : Nat) {v v2 : Value} {K K2 : List α} (ty : TypeId) (h1 : Row t w base v K) (h2 : Src t w v2 K2) (hsm : K.length + K2.length ≤ 1000000) (hbase : base ≤ w.heap.size) :
  ∃ v' w', (Builtin.append_ #[t.L, t.L] ty #[v, v2]).run Try.prog w = .ok v' w' ∧ Apd t w base v (K ++ K2) v' w' := by
 obtain ⟨ti, hti, hz0, hz1, hz2⟩ := info_parts t.hI
 rcases h2 with ⟨rfl, rfl⟩ | ⟨a, c, rfl, hc⟩
 ·have hr := run_append_owned_none (P := Try.prog) w base t.L ty t.E ti t.k t.hL hti v _ _ h1
  exact ⟨v, w, hr, ⟨by rw [List.append_nil]; exact h1, Kept.refl _ w, fun g hg => Or.inl hg⟩⟩
 ·have hbb : (K.length + K2.length) * t.bz ≤ 1000000 * 128 := Nat.mul_le_mul hsm t.hb
  obtain ⟨v', w', hr, r2, r3, _, r5⟩ := run_append_own_at (P := Try.prog) w base t.L ty t.E ti _ t.k t.bz t.hL hti hz0 hz1 hz2 t.hz t.k0 v _ _ h1 a K2.length c _ (flat_len t K2) hc (flat_one t) (by unfold maxLen; omega) (by omega) hbase
  refine ⟨v', w', hr, ⟨?_, grown_kept r3, fun g hg => ?_⟩⟩
  ·unfold Row
   rw [List.length_append, flat_append]
   exact r2
  ·rcases r5 with r5 | r5
   ·left; rw [← r5]; exact hg
   ·right
    rw [r5] at hg
    cases hg
    exact Nat.le_refl _
theorem wp_app {w : World} {o : Oper} {a : Act} {K0 : Act → World → Prop} {Q : Exit → Act → World → Prop} (t : Ty α) (s x : Operand)
  (ho : o.op = .call { callee := .builtin .append, args := #[s, x], argTypes := #[t.L, t.L] })
  (base : Nat) {v v2 : Value} {K K2 : List α} (hs : a.eval s = v) (h1 : Row t w base v K) (hx : a.eval x = v2) (h2 : Src t w v2 K2) (hsm : K.length + K2.length ≤ 1000000) (hbase : base ≤ w.heap.size)
  (h : ∀ v' w', Apd t w base v (K ++ K2) v' w' → K0 (a.put o.dst v') w') : o.wp Try.prog a w K0 Q := by
 obtain ⟨v', w', hr, hA⟩ := run_app base o.type h1 h2 hsm hbase
 unfold Oper.wp execOp
 simp only [ho, resolve, invoke, builtin, Sem.run_bind, Sem.run_pure, Result.andThen_ok, List.map_toArray, List.map_cons, List.map_nil, hs, hx, hr]
 exact h v' w' hA
theorem wpList_app {w : World} {ops : Array Oper} {rest : List Oper} {o : Oper} {a : Act} {Q : Exit → Act → World → Prop} (t : Ty α) (hgd : o.guard = none) (s x : Operand)
  (ho : o.op = .call { callee := .builtin .append, args := #[s, x], argTypes := #[t.L, t.L] })
  (base : Nat) {v v2 : Value} {K K2 : List α} (hs : a.eval s = v) (h1 : Row t w base v K) (hx : a.eval x = v2) (h2 : Src t w v2 K2) (hsm : K.length + K2.length ≤ 1000000) (hbase : base ≤ w.heap.size)
  (h : ∀ v' w', Apd t w base v (K ++ K2) v' w' → wpList Try.prog ops Q rest (a.put o.dst v') w') : wpList Try.prog ops Q (o :: rest) a w :=
 wpList_plain hgd fun _ hK => wp_app t s x ho base hs h1 hx h2 hsm hbase fun v' w' hA => hK _ _ (h v' w' hA)
theorem step_app {ops : Array Oper} {o : Oper} {a : Act} {w : World} {K0 : Act → World → Prop} {Q : Exit → Act → World → Prop} {E : Prop} (t : Ty α)
  (hg : o.guard = none) (s x : Operand) (ho : o.op = .call { callee := .builtin .append, args := #[s, x], argTypes := #[t.L, t.L] })
  (base : Nat) {v v2 : Value} {K K2 : List α} (hs : a.eval s = v) (h1 : Row t w base v K) (hx : a.eval x = v2) (h2 : Src t w v2 K2) (hsm : K.length + K2.length ≤ 1000000) (hbase : base ≤ w.heap.size)
  (h : ∀ v' w', Apd t w base v (K ++ K2) v' w' → K0 (a.put o.dst v') w') :
  if Region.wanted o (yielded ops a.tmps) = true then Oper.wp Try.prog o a w K0 Q else E := by
 have hw : Region.wanted o (yielded ops a.tmps) = true := by simp [Region.wanted, hg]
 rw [if_pos hw]
 exact wp_app t s x ho base hs h1 hx h2 hsm hbase h
end Go.Proofs.Ytilpedopnkhppaa.Rw

/- Rows of elements of whatever cells that begin anywhere in their block: append, copy, cut. Conditions: each theorem's own. -/
namespace Go.Proofs.Ytilpedopnkhppaa.Ro
open Go.RowKit Hp Rw
variable {α : Type} {t : Ty α}
structure Lies (t : Ty α) (w : World) (g o cap : Nat) (cur : List Value) (l : List α) : Prop where
 blk : Blk w g cur t.E
 le : l.length ≤ cap
 most : cap ≤ maxLen
 fit : o + cap * t.k ≤ cur.length
 head : (cur.drop o).take (l.length * t.k) = flat t l
def Row (t : Ty α) (w : World) (v : Value) (l : List α) : Prop :=
 (v = .slice none 0 0 ∧ l = []) ∨ ∃ g o cap cur, v = .slice (some ⟨g, o, none⟩) l.length cap ∧ Lies t w g o cap cur l
theorem Row.none (t : Ty α) (w : World) : Row t w (.slice none 0 0) [] := Or.inl ⟨rfl, rfl⟩
theorem Lies.row {w : World} {g o cap : Nat} {cur : List Value} {l : List α} (h : Lies t w g o cap cur l) : Row t w (.slice (some ⟨g, o, none⟩) l.length cap) l := Or.inr ⟨g, o, cap, cur, rfl, h⟩
def zeros (t : Ty α) (n : Nat) : List Value := (Builtin.zeroCells t.z.cells n).toList
theorem zeros_len (t : Ty α) (n : Nat) : (zeros t n).length = n * t.k := by unfold zeros; rw [Array.length_toList, size_zeroCells, t.hz]
structure Apd (t : Ty α) (w : World) (v : Value) (l : List α) (v' : Value) (w' : World) : Prop where
 row : Row t w' v' l
 kept : Kept (fun k => v.ownBlock = some k) w w'
 lies : ∀ g, v'.ownBlock = some g → v.ownBlock = some g ∨ w.heap.size ≤ g
theorem grown {w : World} {v : Value} (t : Ty α) (l : List α) {c : Nat} (h : l.length ≤ c) (hM : c ≤ maxLen) : Apd t w v l (.slice (some ⟨w.heap.size, 0, none⟩) l.length c) (w.drew.alloc (.cells (flat t l ++ zeros t (c - l.length)).toArray t.E)) := by
 have hB := Blk.new w.drew (flat t l ++ zeros t (c - l.length)) t.E
 have e : (l.length + (c - l.length)) * t.k = c * t.k := by rw [Nat.add_sub_cancel' h]
 rw [Nat.add_mul] at e
 refine ⟨Or.inr ⟨w.heap.size, 0, c, _, rfl, ⟨hB, h, hM, ?_, ?_⟩⟩, ((Kept.refl (fun _ => False) w).drew.alloc _).mono (fun _ _ f => f.elim), fun g hg => ?_⟩
 ·rw [List.length_append, flat_len, zeros_len]; omega
 ·rw [List.drop_zero, ← flat_len, List.take_left]
 ·cases hg; exact Or.inr (Nat.le_refl _)
end Go.Proofs.Ytilpedopnkhppaa.Ro

/- What Gather gives, as a row's element: three ints (the list, the place, the value). Conditions: none. -/
namespace Go.Proofs.Ytilpedopnkhppaa.MxS
open Go.Conc Go.Conc.Lib Br Go.RowKit Hp Rw Ro Go.Proofs.Ytilpedopnkhppaa.Mx
abbrev It := Int × Int × ByteArray
@[reducible] def iT : Rw.Ty It where
 E := 57
 L := 51
 k := 3
 bz := 32
 enc x := [.int .i64 x.1, .int .i64 x.2.1, .string x.2.2]
 z := .agg #[.int .i64 0, .int .i64 0, .string ⟨#[]⟩]
 hL := Try.underlying51
 hI := by kernel_rfl
 hz := rfl
 hk _ := rfl
 h1 x v hv := by simp at hv; rcases hv with rfl | rfl | rfl <;> rfl
 k0 := by decide
 hb := by decide
def itemsOf (f : Int) (vals : List ByteArray) (c : Nat) : List It := (List.range (min c vals.length)).map fun (i : Nat) => (f, (i : Int), vals.getD i ⟨#[]⟩)
theorem itemsOf_succ {f : Int} {vals : List ByteArray} {c : Nat} (h : c < vals.length) : itemsOf f vals (c + 1) = itemsOf f vals c ++ [(f, (c : Int), vals.getD c ⟨#[]⟩)] := by
 unfold itemsOf
 rw [Nat.min_eq_left (by omega), Nat.min_eq_left (by omega), List.range_succ, List.map_append]
 rfl
theorem itemsOf_full {f : Int} {vals : List ByteArray} {c : Nat} (h : vals.length ≤ c) : itemsOf f vals c = itemsOf f vals vals.length := by
 unfold itemsOf
 rw [Nat.min_eq_right h, Nat.min_self]
theorem itemsOf_len {f : Int} {vals : List ByteArray} {c : Nat} : (itemsOf f vals c).length = min c vals.length := by simp [itemsOf]
end Go.Proofs.Ytilpedopnkhppaa.MxS

