/- takeBoth, from the head of its loop to its select, or out of it, in company. Conditions: each theorem's own. -/
import Derived.Test.YtilpedopnkhppaaMfG21
import Derived.Test.YtilpedopnkhppaaMfG15
import Derived.Deep.RegionLaw
import Derived.Deep.RegionHeld3
set_option linter.unusedVariables false
set_option linter.unusedSimpArgs false
namespace Go.Proofs.Ytilpedopnkhppaa.Mx
open Go.Conc Go.Conc.Lib Br
noncomputable def tbc : Code := ((Try.f35.body.bind (findBody 0)).getD .skip)
def tb3 : Code → Array Oper
 | .seq _ (.block _ (.seq _ (.seq (.region _ ops _) _))) => ops
 | _ => #[]
def tb4 : Code → Code
 | .seq _ (.block _ (.seq _ (.seq _ r))) => r
 | c => c
inductive FB (wy h : Nat) : Array Value → Prop
 | mk (u2 u3 u4 u5 u6 u7 u8 u9 u10 u11 u12 u13 u14 u15 u16 u17 u18 u19 u20 u21 u22 u23 u24 u25 u26 u27 u28 u29 u30 u31 u32 u33 u34 u35 u36 u37 u38 u39 u40 u41 u42 u43 : Value) : FB wy h #[.pointer (some ⟨wy, h * 3, none⟩), .pointer (some ⟨wy, (h + 1) * 3, none⟩), u2, u3, u4, u5, u6, u7, u8, u9, u10, u11, u12, u13, u14, u15, u16, u17, u18, u19, u20, u21, u22, u23, u24, u25, u26, u27, u28, u29, u30, u31, u32, u33, u34, u35, u36, u37, u38, u39, u40, u41, u42, u43]
inductive FBc (wy h : Nat) (c : Bool) : Array Value → Prop
 | mk (u2 u3 u4 u5 u6 u7 u8 u9 u10 u11 u12 u13 u14 u15 u16 u17 u18 u20 u21 u22 u23 u24 u25 u26 u27 u28 u29 u30 u31 u32 u33 u34 u35 u36 u37 u38 u39 u40 u41 u42 u43 : Value) : FBc wy h c #[.pointer (some ⟨wy, h * 3, none⟩), .pointer (some ⟨wy, (h + 1) * 3, none⟩), u2, u3, u4, u5, u6, u7, u8, u9, u10, u11, u12, u13, u14, u15, u16, u17, u18, .bool c, u20, u21, u22, u23, u24, u25, u26, u27, u28, u29, u30, u31, u32, u33, u34, u35, u36, u37, u38, u39, u40, u41, u42, u43]
inductive FBx (wy h : Nat) (x : Option Nat) : Array Value → Prop
 | mk (u2 u3 u4 u5 u6 u7 u8 u9 u10 u11 u12 u13 u14 u15 u16 u17 u18 u19 u20 u21 u22 u24 u25 u26 u27 u28 u29 u30 u31 u32 u33 u34 u35 u36 u37 u38 u39 u40 u41 u42 u43 : Value) : FBx wy h x #[.pointer (some ⟨wy, h * 3, none⟩), .pointer (some ⟨wy, (h + 1) * 3, none⟩), u2, u3, u4, u5, u6, u7, u8, u9, u10, u11, u12, u13, u14, u15, u16, u17, u18, u19, u20, u21, u22, .chan x, u24, u25, u26, u27, u28, u29, u30, u31, u32, u33, u34, u35, u36, u37, u38, u39, u40, u41, u42, u43]
inductive FBs (wy h : Nat) (x y : Option Nat) : Array Value → Prop
 | mk (u2 u3 u4 u5 u6 u7 u8 u9 u10 u11 u12 u13 u14 u15 u16 u17 u18 u19 u20 u21 u22 u24 u25 u26 u28 u29 u30 u31 u32 u33 u34 u35 u36 u37 u38 u39 u40 u41 u42 u43 : Value) : FBs wy h x y #[.pointer (some ⟨wy, h * 3, none⟩), .pointer (some ⟨wy, (h + 1) * 3, none⟩), u2, u3, u4, u5, u6, u7, u8, u9, u10, u11, u12, u13, u14, u15, u16, u17, u18, u19, u20, u21, u22, .chan x, u24, u25, u26, .chan y, u28, u29, u30, u31, u32, u33, u34, u35, u36, u37, u38, u39, u40, u41, u42, u43]
section
variable {s : Grp} {X : Sh} {z al : Value} {Anch Post : Goroutine → World → Prop} {wy N h : Nat} {wf : Nat → Int} {wc : Nat → Option Nat} {wm : Nat → Value}
theorem chn0 : @BEq.beq (Option Nat) (@Option.instBEq Nat (@instBEqOfDecidableEq Nat instDecidableEqNat)) none none = true := rfl
theorem chn1 (x : Nat) : @BEq.beq (Option Nat) (@Option.instBEq Nat (@instBEqOfDecidableEq Nat instDecidableEqNat)) (some x) none = false := rfl
attribute [local go_sem] chn0 chn1
theorem way_ch {v v1 : World} (hw : Hp.Blk v wy (wayT wf wc wm N) 93) (e : v1.heap = v.heap) {k : Nat} (hk : k < N) : v1.cell? ⟨wy, k * 3 + 1, none⟩ = some (.chan (wc k)) := by
 have := (hw.heap (w' := v1) (by rw [e])).cell (wayT_c (wf := wf) (wc := wc) (wm := wm) hk)
 rw [Nat.mul_comm 3 k] at this
 exact this
set_option maxRecDepth 100000 in
set_option maxHeartbeats 4000000 in
theorem tbSel (hX : ShunIn X s.Shun) {Inv : World → Prop} (hI : ∀ v v' : World, v'.heap = v.heap → Inv v → Inv v') (hW : ∀ v, Inv v → Hp.Blk v wy (wayT wf wc wm N) 93) (hi2 : h + 1 < N) (ho : wc h ≠ none ∨ wc (h + 1) ≠ none) {b₀ : Frame} (hb₀ : b₀.kind = .normal) {k : List Item} {cs : List Frame} {St : Goroutine → World → Prop} {m : Nat}
  (hnext : ∀ t w v, FBs wy h (wc h) (wc (h + 1)) t → Like (s.Sd X s.n) w v → Inv v → (phI s z Anch Post).Live w → Goes Try.prog true ((phI s z Anch Post).Far s.n) ((phI s z Anch Post).DM s.n) St m (G (b₀.at ⟨t, []⟩ (.inRegion (tb3 tbc) [0, 1, 2, 3] :: .code (tb4 tbc) :: .inBlock 1 :: k)) cs) w)
  {t : Array Value} {w v : World} (ht : FB wy h t) (hl : Like (s.Sd X s.n) w v) (hi : Inv v) (hlive : (phI s z Anch Post).Live w) {c : Code} (hc : tbc = c) :
  Goes Try.prog true ((phI s z Anch Post).Far s.n) ((phI s z Anch Post).DM s.n) St (m + 40) (G (b₀.at ⟨t, []⟩ (.code c :: k)) cs) w := by
 obtain ⟨u2, u3, u4, u5, u6, u7, u8, u9, u10, u11, u12, u13, u14, u15, u16, u17, u18, u19, u20, u21, u22, u23, u24, u25, u26, u27, u28, u29, u30, u31, u32, u33, u34, u35, u36, u37, u38, u39, u40, u41, u42, u43⟩ := ht
 conv at hc => lhs; whnf
 subst hc
 show MG (phI s z Anch Post) s.n _ (m + 40) _ _
 refine MG.le (m := 12 + 2 + (4 + 2 + (4 + 2 + (m + 1 + 1)) + 1 + 1 + 1 + 1 + 1) + 1 + 1) ?_ (by omega)
 refine MG.seq ?_
 refine MG.seq ?_
 refine m_region (m := 4 + 2 + (4 + 2 + (m + 1 + 1)) + 1 + 1 + 1 + 1 + 1) (R := fun t v' => FBc wy h true t ∧ v'.heap = v.heap)
  hX hb₀ (by kernel_rfl) rfl hlive hl (fun v1 h1 => ?_) (fun a4 w4 v4 hd hi4 hl4 hR4 => ?_)
 ·have hh := Lib.hid (like_same hl h1)
  have fa := way_ch (hW v hi) hh.out (show h < N by omega)
  have fb := way_ch (hW v hi) hh.out (show h + 1 < N by omega)
  clear h1 hl hi hnext hW hI
  rcases hx : wc h with _ | x
  ·rcases hy : wc (h + 1) with _ | y
   ·simp [hx, hy] at ho
   ·rw [hx] at fa
    rw [hy] at fb
    clear ho hx hy
    go_wp2
    iterate 2
     (rename_i K hK; refine hK _ _ ?_; clear hK K; simp only [chn0, chn1, Bool.not_true, Bool.not_false]; go_wp2)
    exact ⟨.mk .., hh.out⟩
  ·rw [hx] at fa
   clear ho hx
   go_wp2
   (rename_i K hK; refine hK _ _ ?_; clear hK K; simp only [chn0, chn1, Bool.not_true, Bool.not_false]; go_wp2)
   exact ⟨.mk .., hh.out⟩
 obtain ⟨t4, d4⟩ := a4
 have hd1 : d4 = [] := hd
 subst hd1
 obtain ⟨ht, hv4⟩ := hR4
 obtain ⟨u2, u3, u4, u5, u6, u7, u8, u9, u10, u11, u12, u13, u14, u15, u16, u17, u18, u20, u21, u22, u23, u24, u25, u26, u27, u28, u29, u30, u31, u32, u33, u34, u35, u36, u37, u38, u39, u40, u41, u42, u43⟩ := ht
 clear hd
 show MG (phI s z Anch Post) s.n _ (4 + 2 + (4 + 2 + (m + 1 + 1)) + 1 + 1 + 1 + 1 + 1) _ _
 refine MG.condT rfl ?_
 refine MG.skip ?_
 refine MG.block ?_
 refine MG.seq ?_
 refine MG.seq ?_
 refine m_region (m := 4 + 2 + (m + 1 + 1)) (R := fun t v' => FBx wy h (wc h) t ∧ v'.heap = v.heap)
  hX hb₀ (by kernel_rfl) rfl hi4 hl4 (fun v1 h1 => ?_) (fun a5 w5 v5 hd hi5 hl5 hR5 => ?_)
 ·have hh := Lib.hid ((like_same hl4 h1).trans hv4)
  have fa := way_ch (hW v hi) hh.out (show h < N by omega)
  clear h1 hl hl4 hi hnext hW hI ho hv4
  go_wp2
  exact ⟨.mk .., hh.out⟩
 obtain ⟨t5, d5⟩ := a5
 have hd1 : d5 = [] := hd
 subst hd1
 obtain ⟨ht, hv5⟩ := hR5
 obtain ⟨u2, u3, u4, u5, u6, u7, u8, u9, u10, u11, u12, u13, u14, u15, u16, u17, u18, u19, u20, u21, u22, u24, u25, u26, u27, u28, u29, u30, u31, u32, u33, u34, u35, u36, u37, u38, u39, u40, u41, u42, u43⟩ := ht
 clear hd
 refine m_region (m := m + 1 + 1) (R := fun t v' => FBs wy h (wc h) (wc (h + 1)) t ∧ v'.heap = v.heap)
  hX hb₀ (by kernel_rfl) rfl hi5 hl5 (fun v1 h1 => ?_) (fun a6 w6 v6 hd hi6 hl6 hR6 => ?_)
 ·have hh := Lib.hid ((like_same hl5 h1).trans hv5)
  have fb := way_ch (hW v hi) hh.out (show h + 1 < N by omega)
  clear h1 hl hl4 hl5 hi hnext hW hI ho hv4 hv5
  go_wp2
  exact ⟨.mk .., hh.out⟩
 obtain ⟨t6, d6⟩ := a6
 have hd1 : d6 = [] := hd
 subst hd1
 obtain ⟨ht, hv6⟩ := hR6
 obtain ⟨u2, u3, u4, u5, u6, u7, u8, u9, u10, u11, u12, u13, u14, u15, u16, u17, u18, u19, u20, u21, u22, u24, u25, u26, u28, u29, u30, u31, u32, u33, u34, u35, u36, u37, u38, u39, u40, u41, u42, u43⟩ := ht
 clear hd
 show MG (phI s z Anch Post) s.n _ (m + 1 + 1) _ _
 refine MG.seq ?_
 refine MG.reg ?_
 exact hnext _ w6 v6 (.mk ..) hl6 (hI v v6 hv6 hi) hi6
set_option maxRecDepth 100000 in
set_option maxHeartbeats 4000000 in
theorem tbOut (hX : ShunIn X s.Shun) {first : Int} {Inv : World → Prop} (hI : ∀ v v' : World, v'.heap = v.heap → Inv v → Inv v') (hW : ∀ v, Inv v → Hp.Blk v wy (wayT wf wc wm N) 93) (hi2 : h + 1 < N) (hx : wc h = none) (hy : wc (h + 1) = none) {b₀ : Frame} {k : List Item} {cs : List Frame} {St : Goroutine → World → Prop} {m : Nat} {tc : Array Value} (htc : FP s al wy N first h tc)
  (hnext : ∀ t w v, FP s al wy N first h t → Like (s.Sd X s.n) w v → Inv v → (phI s z Anch Post).Live w → Goes Try.prog true ((phI s z Anch Post).Far s.n) ((phI s z Anch Post).DM s.n) St m (G (b₀.at ⟨t, []⟩ k) cs) w)
  {t : Array Value} {w v : World} (ht : FB wy h t) (hl : Like (s.Sd X s.n) w v) (hi : Inv v) (hlive : (phI s z Anch Post).Live w) {c : Code} (hc : tbc = c) :
  Goes Try.prog true ((phI s z Anch Post).Far s.n) ((phI s z Anch Post).DM s.n) St (m + 30) (G ((base 35).at ⟨t, []⟩ [.code c, .inLoop c, .inBlock 0]) (b₀.at ⟨tc, []⟩ (.inRegion (tk14 tkc) [2] :: k) :: cs)) w := by
 obtain ⟨u2, u3, u4, u5, u6, u7, u8, u9, u10, u11, u12, u13, u14, u15, u16, u17, u18, u19, u20, u21, u22, u23, u24, u25, u26, u27, u28, u29, u30, u31, u32, u33, u34, u35, u36, u37, u38, u39, u40, u41, u42, u43⟩ := ht
 obtain ⟨⟩ := htc
 conv at hc => lhs; whnf
 subst hc
 show MG (phI s z Anch Post) s.n _ (m + 30) _ _
 refine MG.le (m := 12 + 2 + (m + 1 + 1 + 1 + 1 + 1) + 1 + 1) ?_ (by omega)
 refine MG.seq ?_
 refine MG.seq ?_
 refine m_region (m := m + 1 + 1 + 1 + 1 + 1) (R := fun t v' => FBc wy h false t ∧ v'.heap = v.heap)
  hX rfl (by kernel_rfl) rfl hlive hl (fun v1 h1 => ?_) (fun a4 w4 v4 hd hi4 hl4 hR4 => ?_)
 ·have hh := Lib.hid (like_same hl h1)
  have fa := way_ch (hW v hi) hh.out (show h < N by omega)
  have fb := way_ch (hW v hi) hh.out (show h + 1 < N by omega)
  rw [hx] at fa
  rw [hy] at fb
  clear h1 hl hi hnext hW hI hx hy
  go_wp2
  iterate 2
   (rename_i K hK; refine hK _ _ ?_; clear hK K; simp only [chn0, chn1, Bool.not_true, Bool.not_false]; go_wp2)
  exact ⟨.mk .., hh.out⟩
 obtain ⟨t4, d4⟩ := a4
 have hd1 : d4 = [] := hd
 subst hd1
 obtain ⟨ht, hv4⟩ := hR4
 obtain ⟨u2, u3, u4, u5, u6, u7, u8, u9, u10, u11, u12, u13, u14, u15, u16, u17, u18, u20, u21, u22, u23, u24, u25, u26, u27, u28, u29, u30, u31, u32, u33, u34, u35, u36, u37, u38, u39, u40, u41, u42, u43⟩ := ht
 clear hd
 show MG (phI s z Anch Post) s.n _ (m + 1 + 1 + 1 + 1 + 1) _ _
 refine MG.condF rfl ?_
 refine MG.exit rfl ?_
 refine MG.end_ ?_
 refine MG.leave0 rfl rfl Try.func35 rfl ?_
 refine MG.regEnd ?_
 exact hnext _ w4 v4 (.mk ..) hl4 (hI v v4 hv4 hi) hi4
end
end Go.Proofs.Ytilpedopnkhppaa.Mx

/- A way's take of the news that its channel is closed, in company. Conditions: each theorem's own. -/
namespace Go.Proofs.Ytilpedopnkhppaa.Mx
open Go.Conc Go.Conc.Lib Br
section
variable {s : Grp} {X : Sh} {z al : Value} {Anch Post : Goroutine → World → Prop} {wy N a : Nat} {wf : Nat → Int} {wc : Nat → Option Nat} {wm : Nat → Value}
set_option maxRecDepth 100000 in
set_option maxHeartbeats 4000000 in
theorem takeShut (hX : ShunIn X s.Shun) {Inv Inv' : World → Prop} (hW : ∀ v, Inv v → Hp.Blk v wy (wayT wf wc wm N) 93) (ha : a < N)
  (hI : ∀ v v', Inv v → Hp.Blk v' wy (wayT wf (Go.ConcN.upd wc a none) wm N) 93 → (∀ b, b ≠ wy → v'.heap[b]? = v.heap[b]?) → v'.heap.size = v.heap.size → Inv' v')
  {val : Value} {bc : Frame} {ac : Act} {opsc : Array Oper} {i : Nat} {rest : List Nat} {kc : List Item} {cs : List Frame} {St : Goroutine → World → Prop} {m : Nat}
  (hnext : ∀ w v, Like (s.Sd X s.n) w v → Inv' v → (phI s z Anch Post).Live w → Goes Try.prog true ((phI s z Anch Post).Far s.n) ((phI s z Anch Post).DM s.n) St m (G (bc.at (ac.put ((opsc[i]?).bind (·.dst)) (.tuple #[])) (.inRegion opsc rest :: kc)) cs) w)
  {w v : World} (hl : Like (s.Sd X s.n) w v) (hi : Inv v) (hlive : (phI s z Anch Post).Live w) {c : Code} (hc : Try.f46.body.getD .skip = c) :
  Goes Try.prog true ((phI s z Anch Post).Far s.n) ((phI s z Anch Post).DM s.n) St (m + 20) (G ((base 46).at ⟨#[.pointer (some ⟨wy, a * 3, none⟩), val, .bool false, undef, undef, undef, undef, undef, undef, undef, undef, undef, undef, undef, undef, undef, undef, undef, undef, undef, undef, undef, undef, undef, undef, undef, undef, undef, undef, undef, undef, undef, undef], []⟩ [.code c]) (bc.at ac (.inRegion opsc (i :: rest) :: kc) :: cs)) w := by
 conv at hc => lhs; whnf
 subst hc
 show MG (phI s z Anch Post) s.n _ (m + 20) _ _
 refine MG.le (m := 2 + 2 + (4 + 2 + (m + 1 + 1) + 1 + 1) + 1 + 1) ?_ (by omega)
 refine MG.seq ?_
 refine MG.seq ?_
 refine m_region (m := 4 + 2 + (m + 1 + 1) + 1 + 1) (R := fun t v' => t = #[.pointer (some ⟨wy, a * 3, none⟩), val, .bool false, undef, undef, undef, .bool false, .bool true, undef, undef, undef, undef, undef, undef, undef, undef, undef, undef, undef, undef, undef, undef, undef, undef, undef, undef, undef, undef, undef, undef, undef, undef, undef] ∧ v'.heap = v.heap)
  hX rfl (by kernel_rfl) rfl hlive hl (fun v1 h1 => ?_) (fun a4 w4 v4 hd hi4 hl4 hR4 => ?_)
 ·have hh := Lib.hid (like_same hl h1)
  clear h1 hl hi hnext hW hI
  go_wp2
  exact hh.out
 obtain ⟨t4, d4⟩ := a4
 have hd1 : d4 = [] := hd
 subst hd1
 obtain ⟨ht, hv4⟩ := hR4
 have ht1 : t4 = #[.pointer (some ⟨wy, a * 3, none⟩), val, .bool false, undef, undef, undef, .bool false, .bool true, undef, undef, undef, undef, undef, undef, undef, undef, undef, undef, undef, undef, undef, undef, undef, undef, undef, undef, undef, undef, undef, undef, undef, undef, undef] := ht
 subst ht1
 clear ht hd
 show MG (phI s z Anch Post) s.n _ (4 + 2 + (m + 1 + 1) + 1 + 1) _ _
 refine MG.condT rfl ?_
 refine MG.seq ?_
 refine m_region (m := m + 1 + 1) (R := fun t v' => Hp.Blk v' wy (wayT wf (Go.ConcN.upd wc a none) wm N) 93 ∧ (∀ b, b ≠ wy → v'.heap[b]? = v.heap[b]?) ∧ v'.heap.size = v.heap.size)
  hX rfl (by kernel_rfl) rfl hi4 hl4 (fun v1 h1 => ?_) (fun a5 w5 v5 hd hi5 hl5 hR5 => ?_)
 ·have hh := Lib.hid ((like_same hl4 h1).trans hv4)
  have B := (hW v hi).heap (w' := v1) (by rw [hh.out])
  have f1 := way_ch (hW v hi) hh.out ha
  have z1 := B.frozen (a * 3 + 1)
  have B1 := Lib.hid (B.set (a * 3 + 1) (.chan none))
  clear h1 hl hl4 hi hnext hW hI hv4 B
  go_wp2
  refine ⟨?_, fun b hb => ?_, by rw [hh.out]⟩
  ·have := B1.out
   rw [Nat.mul_comm a 3, wayT_setc ha] at this
   rw [Nat.mul_comm a 3]
   exact this
  ·rw [set_far hb, hh.out]
 obtain ⟨t5, d5⟩ := a5
 have hd1 : d5 = [] := hd
 subst hd1
 obtain ⟨hB5, ho5, hs5⟩ := hR5
 clear hd
 show MG (phI s z Anch Post) s.n _ (m + 1 + 1) _ _
 refine MG.ret ?_
 refine MG.leave0 rfl rfl Try.func46 rfl ?_
 exact hnext w5 v5 hl5 (hI v v5 hi hB5 ho5 hs5) hi5
end
end Go.Proofs.Ytilpedopnkhppaa.Mx

/- takeBoth from behind its select to a way's take, in company. Conditions: each theorem's own. -/
namespace Go.Proofs.Ytilpedopnkhppaa.Mx
open Go.Conc Go.Conc.Lib Br
def tb5 : Code → Array Oper
 | .block _ (.cond _ (.seq _ (.region _ ops _)) _) => ops
 | _ => #[]
def tb7 : Code → Array Oper
 | .block _ (.cond _ _ (.cond _ (.seq _ (.region _ ops _)) _)) => ops
 | _ => #[]
section
variable {s : Grp} {X : Sh} {z al : Value} {Anch Post : Goroutine → World → Prop} {wy h : Nat}
inductive FV0 (wy h : Nat) (vx : Value) (ok : Bool) : Array Value → Prop
 | mk (u2 u3 u6 u7 u8 u9 u10 u11 u12 u13 u14 u15 u16 u17 u18 u19 u20 u21 u22 u23 u24 u25 u26 u27 u28 u29 u30 u31 u32 u33 u34 u35 u36 u37 u38 u39 u40 u41 u42 u43 : Value) : FV0 wy h vx ok #[.pointer (some ⟨wy, h * 3, none⟩), .pointer (some ⟨wy, (h + 1) * 3, none⟩), u2, u3, vx, .bool ok, u6, u7, u8, u9, u10, u11, u12, u13, u14, u15, u16, u17, u18, u19, u20, u21, u22, u23, u24, u25, u26, u27, u28, u29, u30, u31, u32, u33, u34, u35, u36, u37, u38, u39, u40, u41, u42, u43]
set_option maxRecDepth 100000 in
set_option maxHeartbeats 4000000 in
theorem selFst (hX : ShunIn X s.Shun) {Inv : World → Prop} (hI : ∀ v v' : World, v'.heap = v.heap → Inv v → Inv v') {va vb : Value} {ok : Bool} {b₀ : Frame} (hb₀ : b₀.kind = .normal) {k : List Item} {cs : List Frame} {St : Goroutine → World → Prop} {m : Nat} (u2 u3 u4 u5 u6 u7 u8 u9 u10 u11 u12 u13 u14 u15 u16 u17 u18 u19 u20 u21 u22 u23 u24 u25 u26 u27 u29 u30 u31 u32 u33 u34 u35 u36 u37 u38 u39 u40 u41 u42 u43 : Value)
  (hnext : ∀ t w v, FB wy h t → Like (s.Sd X s.n) w v → Inv v → (phI s z Anch Post).Live w → Goes Try.prog true ((phI s z Anch Post).Far s.n) ((phI s z Anch Post).DM s.n) St m (G ((base 46).at ⟨#[.pointer (some ⟨wy, h * 3, none⟩), va, .bool ok] ++ Array.replicate 30 undef, []⟩ [.code (Try.f46.body.getD .skip)]) (b₀.at ⟨t, []⟩ (.inRegion (tb5 (tb4 tbc)) [3] :: .inBlock 2 :: .inBlock 1 :: k) :: cs)) w)
  {w v : World} (hl : Like (s.Sd X s.n) w v) (hi : Inv v) (hlive : (phI s z Anch Post).Live w) {ops : Array Oper} {c : Code} (hops : tb3 tbc = ops) (hc : tb4 tbc = c) :
  Goes Try.prog true ((phI s z Anch Post).Far s.n) ((phI s z Anch Post).DM s.n) St (m + 30) (G (b₀.at ⟨#[.pointer (some ⟨wy, h * 3, none⟩), .pointer (some ⟨wy, (h + 1) * 3, none⟩), u2, u3, u4, u5, u6, u7, u8, u9, u10, u11, u12, u13, u14, u15, u16, u17, u18, u19, u20, u21, u22, u23, u24, u25, u26, u27, .tuple #[.int .i64 0, .bool ok, va, vb], u29, u30, u31, u32, u33, u34, u35, u36, u37, u38, u39, u40, u41, u42, u43], []⟩ (.inRegion ops [1, 2, 3] :: .code c :: .inBlock 1 :: k)) cs) w := by
 conv at hops => lhs; whnf
 subst hops
 conv at hc => lhs; whnf
 subst hc
 show MG (phI s z Anch Post) s.n _ (m + 30) _ _
 refine MG.le (m := 4 + 2 + (m + 1 + 3 + 1) + 1 + 1 + 1 + 1 + 3) ?_ (by omega)
 refine MG.pure (y := .int .i64 0) rfl rfl hb₀ (fun w => rfl) ?_
 refine MG.pure (y := .bool true) rfl rfl hb₀ (fun w => rfl) ?_
 refine MG.pure (y := .bool false) rfl rfl hb₀ (fun w => rfl) ?_
 refine MG.regEnd ?_
 refine MG.block ?_
 refine MG.condT rfl ?_
 refine MG.seq ?_
 refine m_region (m := m + 1 + 3 + 1) (R := fun t v' => FV0 wy h va ok t ∧ v'.heap = v.heap)
  hX hb₀ (by kernel_rfl) rfl hlive hl (fun v1 h1 => ?_) (fun a4 w4 v4 hd hi4 hl4 hR4 => ?_)
 ·have hh := Lib.hid (like_same hl h1)
  clear h1 hl hi hnext hI
  go_wp2
  exact ⟨.mk .., hh.out⟩
 obtain ⟨t4, d4⟩ := a4
 have hd1 : d4 = [] := hd
 subst hd1
 obtain ⟨ht, hv4⟩ := hR4
 obtain ⟨u2, u3, u6, u7, u8, u9, u10, u11, u12, u13, u14, u15, u16, u17, u18, u19, u20, u21, u22, u23, u24, u25, u26, u27, u28, u29, u30, u31, u32, u33, u34, u35, u36, u37, u38, u39, u40, u41, u42, u43⟩ := ht
 clear hd
 show MG (phI s z Anch Post) s.n _ (m + 1 + 3 + 1) _ _
 refine MG.reg ?_
 refine MG.pure (y := .pointer (some ⟨wy, h * 3, none⟩)) rfl rfl hb₀ (fun w => rfl) ?_
 refine MG.pure (y := va) rfl rfl hb₀ (fun w => rfl) ?_
 refine MG.pure (y := .bool ok) rfl rfl hb₀ (fun w => rfl) ?_
 refine MG.call' (f := 46) (vals := #[.pointer (some ⟨wy, h * 3, none⟩), va, .bool ok]) rfl rfl hb₀ rfl Try.func46 (by kernel_rfl) rfl (by simp [Act.eval, Act.put]) ?_
 exact hnext _ w4 v4 (.mk ..) hl4 (hI v v4 hv4 hi) hi4
inductive FV1 (wy h : Nat) (vx : Value) (ok : Bool) : Array Value → Prop
 | mk (u2 u3 u4 u5 u8 u9 u10 u11 u12 u13 u14 u15 u16 u17 u18 u19 u20 u21 u22 u23 u24 u25 u26 u27 u28 u29 u30 u31 u32 u33 u34 u35 u36 u37 u38 u39 u40 u41 u42 u43 : Value) : FV1 wy h vx ok #[.pointer (some ⟨wy, h * 3, none⟩), .pointer (some ⟨wy, (h + 1) * 3, none⟩), u2, u3, u4, u5, vx, .bool ok, u8, u9, u10, u11, u12, u13, u14, u15, u16, u17, u18, u19, u20, u21, u22, u23, u24, u25, u26, u27, u28, u29, u30, u31, u32, u33, u34, u35, u36, u37, u38, u39, u40, u41, u42, u43]
set_option maxRecDepth 100000 in
set_option maxHeartbeats 4000000 in
theorem selSnd (hX : ShunIn X s.Shun) {Inv : World → Prop} (hI : ∀ v v' : World, v'.heap = v.heap → Inv v → Inv v') {va vb : Value} {ok : Bool} {b₀ : Frame} (hb₀ : b₀.kind = .normal) {k : List Item} {cs : List Frame} {St : Goroutine → World → Prop} {m : Nat} (u2 u3 u4 u5 u6 u7 u8 u9 u10 u11 u12 u13 u14 u15 u16 u17 u18 u19 u20 u21 u22 u23 u24 u25 u26 u27 u29 u30 u31 u32 u33 u34 u35 u36 u37 u38 u39 u40 u41 u42 u43 : Value)
  (hnext : ∀ t w v, FB wy h t → Like (s.Sd X s.n) w v → Inv v → (phI s z Anch Post).Live w → Goes Try.prog true ((phI s z Anch Post).Far s.n) ((phI s z Anch Post).DM s.n) St m (G ((base 46).at ⟨#[.pointer (some ⟨wy, (h + 1) * 3, none⟩), vb, .bool ok] ++ Array.replicate 30 undef, []⟩ [.code (Try.f46.body.getD .skip)]) (b₀.at ⟨t, []⟩ (.inRegion (tb7 (tb4 tbc)) [3] :: .inBlock 2 :: .inBlock 1 :: k) :: cs)) w)
  {w v : World} (hl : Like (s.Sd X s.n) w v) (hi : Inv v) (hlive : (phI s z Anch Post).Live w) {ops : Array Oper} {c : Code} (hops : tb3 tbc = ops) (hc : tb4 tbc = c) :
  Goes Try.prog true ((phI s z Anch Post).Far s.n) ((phI s z Anch Post).DM s.n) St (m + 30) (G (b₀.at ⟨#[.pointer (some ⟨wy, h * 3, none⟩), .pointer (some ⟨wy, (h + 1) * 3, none⟩), u2, u3, u4, u5, u6, u7, u8, u9, u10, u11, u12, u13, u14, u15, u16, u17, u18, u19, u20, u21, u22, u23, u24, u25, u26, u27, .tuple #[.int .i64 1, .bool ok, va, vb], u29, u30, u31, u32, u33, u34, u35, u36, u37, u38, u39, u40, u41, u42, u43], []⟩ (.inRegion ops [1, 2, 3] :: .code c :: .inBlock 1 :: k)) cs) w := by
 conv at hops => lhs; whnf
 subst hops
 conv at hc => lhs; whnf
 subst hc
 show MG (phI s z Anch Post) s.n _ (m + 30) _ _
 refine MG.le (m := 4 + 2 + (m + 1 + 3 + 1) + 1 + 1 + 1 + 1 + 1 + 3) ?_ (by omega)
 refine MG.pure (y := .int .i64 1) rfl rfl hb₀ (fun w => rfl) ?_
 refine MG.pure (y := .bool false) rfl rfl hb₀ (fun w => rfl) ?_
 refine MG.pure (y := .bool true) rfl rfl hb₀ (fun w => rfl) ?_
 refine MG.regEnd ?_
 refine MG.block ?_
 refine MG.condF rfl ?_
 refine MG.condT rfl ?_
 refine MG.seq ?_
 refine m_region (m := m + 1 + 3 + 1) (R := fun t v' => FV1 wy h vb ok t ∧ v'.heap = v.heap)
  hX hb₀ (by kernel_rfl) rfl hlive hl (fun v1 h1 => ?_) (fun a4 w4 v4 hd hi4 hl4 hR4 => ?_)
 ·have hh := Lib.hid (like_same hl h1)
  clear h1 hl hi hnext hI
  go_wp2
  exact ⟨.mk .., hh.out⟩
 obtain ⟨t4, d4⟩ := a4
 have hd1 : d4 = [] := hd
 subst hd1
 obtain ⟨ht, hv4⟩ := hR4
 obtain ⟨u2, u3, u4, u5, u8, u9, u10, u11, u12, u13, u14, u15, u16, u17, u18, u19, u20, u21, u22, u23, u24, u25, u26, u27, u28, u29, u30, u31, u32, u33, u34, u35, u36, u37, u38, u39, u40, u41, u42, u43⟩ := ht
 clear hd
 show MG (phI s z Anch Post) s.n _ (m + 1 + 3 + 1) _ _
 refine MG.reg ?_
 refine MG.pure (y := .pointer (some ⟨wy, (h + 1) * 3, none⟩)) rfl rfl hb₀ (fun w => rfl) ?_
 refine MG.pure (y := vb) rfl rfl hb₀ (fun w => rfl) ?_
 refine MG.pure (y := .bool ok) rfl rfl hb₀ (fun w => rfl) ?_
 refine MG.call' (f := 46) (vals := #[.pointer (some ⟨wy, (h + 1) * 3, none⟩), vb, .bool ok]) rfl rfl hb₀ rfl Try.func46 (by kernel_rfl) rfl (by simp [Act.eval, Act.put]) ?_
 exact hnext _ w4 v4 (.mk ..) hl4 (hI v v4 hv4 hi) hi4
end
end Go.Proofs.Ytilpedopnkhppaa.Mx

/- takeBoth's select, one step of it. Conditions: each theorem's own. -/
namespace Go.Proofs.Ytilpedopnkhppaa.Mx
open Go.Conc Go.Conc.Lib Br
def kz (z : Value) : Option Nat → CommCase
 | some c => rcase c z
 | none => rcaseNil z
section
variable {wy h : Nat} {x y : Option Nat}
set_option maxRecDepth 100000 in
theorem selTb {t : Array Value} (ht : FBs wy h x y t) {ops : Array Oper} (hops : tb3 tbc = ops) {b₀ : Frame} (hb₀ : b₀.kind = .normal) {k : List Item} {cs : List Frame} (w : World) :
  stepG Try.prog true (G (b₀.at ⟨t, []⟩ (.inRegion ops [0, 1, 2, 3] :: k)) cs) w = .comm (G (b₀.at ⟨t, []⟩ (.inRegion ops [0, 1, 2, 3] :: k)) cs) #[kz (.pointer none) x, kz (.pointer none) y] true .select w #[] := by
 obtain ⟨u2, u3, u4, u5, u6, u7, u8, u9, u10, u11, u12, u13, u14, u15, u16, u17, u18, u19, u20, u21, u22, u24, u25, u26, u28, u29, u30, u31, u32, u33, u34, u35, u36, u37, u38, u39, u40, u41, u42, u43⟩ := ht
 subst hops
 have hr : (execOp (Act.eval ⟨#[.pointer (some ⟨wy, h * 3, none⟩), .pointer (some ⟨wy, (h + 1) * 3, none⟩), u2, u3, u4, u5, u6, u7, u8, u9, u10, u11, u12, u13, u14, u15, u16, u17, u18, u19, u20, u21, u22, .chan x, u24, u25, u26, .chan y, u28, u29, u30, u31, u32, u33, u34, u35, u36, u37, u38, u39, u40, u41, u42, u43], []⟩) (((tb3 tbc)[0]?).getD default)).runT Try.prog w #[] = (.ok (.comm #[kz (.pointer none) x, kz (.pointer none) y] true .select) w, #[]) := by
  rcases x with _ | x <;> rcases y with _ | y <;> kernel_rfl
 have he : listed Try.prog b₀.fn ⟨#[.pointer (some ⟨wy, h * 3, none⟩), .pointer (some ⟨wy, (h + 1) * 3, none⟩), u2, u3, u4, u5, u6, u7, u8, u9, u10, u11, u12, u13, u14, u15, u16, u17, u18, u19, u20, u21, u22, .chan x, u24, u25, u26, .chan y, u28, u29, u30, u31, u32, u33, u34, u35, u36, u37, u38, u39, u40, u41, u42, u43], []⟩ (((tb3 tbc)[0]?).getD default) w = #[] := by
  unfold listed Sem.events
  rw [hr]
  exact seen_none _ _
 have hst := stepG_comm (main := true) (P := Try.prog) (b := b₀) (a := ⟨#[.pointer (some ⟨wy, h * 3, none⟩), .pointer (some ⟨wy, (h + 1) * 3, none⟩), u2, u3, u4, u5, u6, u7, u8, u9, u10, u11, u12, u13, u14, u15, u16, u17, u18, u19, u20, u21, u22, .chan x, u24, u25, u26, .chan y, u28, u29, u30, u31, u32, u33, u34, u35, u36, u37, u38, u39, u40, u41, u42, u43], []⟩) (ops := tb3 tbc) (i := 0) (rest := [1, 2, 3]) (k := k) (cs := cs) (o := (((tb3 tbc)[0]?).getD default)) (w := w) (w' := w) (cases := #[kz (.pointer none) x, kz (.pointer none) y]) (blocking := true) (shape := .select) rfl rfl (by rw [hb₀]; decide) (by rw [← Sem.runT_fst Try.prog _ w #[], hr])
 rw [he] at hst
 exact hst
end
end Go.Proofs.Ytilpedopnkhppaa.Mx

/- The select's cases and what it yields. Conditions: each theorem's own. -/
namespace Go.Proofs.Ytilpedopnkhppaa.Mx
open Go.Conc Go.Conc.Lib Br
theorem comm0 (z v : Value) (x y : Option Nat) (ok : Bool) : commResult #[kz z x, kz z y] .select ((0 : Nat) : Int) v ok = .tuple #[.int .i64 0, .bool ok, v, z] := by
 rcases x with _ | x <;> rcases y with _ | y <;> kernel_rfl
theorem comm1 (z v : Value) (x y : Option Nat) (ok : Bool) : commResult #[kz z x, kz z y] .select ((1 : Nat) : Int) v ok = .tuple #[.int .i64 1, .bool ok, z, v] := by
 rcases x with _ | x <;> rcases y with _ | y <;> kernel_rfl
section
variable {s : Grp} {z : Value} {Anch Post : Goroutine → World → Prop}
open Classical in
noncomputable def wcT (s : Grp) (z : Value) (Anch Post : Goroutine → World → Prop) (T : Nat → Nat) (k : Nat) : Option Nat := if (phI s z Anch Post).opn T k then some (s.chan k) else none
theorem kase_eq (T : Nat → Nat) (k : Nat) : (phI s z Anch Post).kase T k = kz z (wcT s z Anch Post T k) := by
 unfold Ph.kase wcT
 split
 ·rfl
 ·rfl
theorem kases_eq (T : Nat → Nat) (x y : Nat) : (phI s z Anch Post).kases T x y = #[kz z (wcT s z Anch Post T x), kz z (wcT s z Anch Post T y)] := by
 unfold Ph.kases
 rw [kase_eq, kase_eq]
theorem wcT_none {T : Nat → Nat} {k : Nat} (h : ¬ (phI s z Anch Post).opn T k) : wcT s z Anch Post T k = none := by
 unfold wcT
 rw [if_neg h]
theorem wcT_some {T : Nat → Nat} {k : Nat} (h : (phI s z Anch Post).opn T k) : wcT s z Anch Post T k = some (s.chan k) := by
 unfold wcT
 rw [if_pos h]
theorem wcT_other {T : Nat → Nat} {k q c : Nat} (h : q ≠ k) : wcT s z Anch Post (Go.ConcN.upd T k c) q = wcT s z Anch Post T q := by
 unfold wcT Ph.opn Go.ConcN.upd
 simp [h]
theorem wcT_val {T : Nat → Nat} {k : Nat} (hk : k < s.n) (h : T k < ((phI s z Anch Post).vs k).length) : wcT s z Anch Post (Go.ConcN.upd T k (T k + 1)) = wcT s z Anch Post T := by
 funext q
 by_cases e : q = k
 ·subst e
  rw [wcT_some (T := T) ⟨hk, by omega⟩, wcT_some]
  exact ⟨hk, by simp [Go.ConcN.upd]; omega⟩
 ·exact wcT_other e
theorem wcT_shut {T : Nat → Nat} {k : Nat} (h : T k = ((phI s z Anch Post).vs k).length) : wcT s z Anch Post (Go.ConcN.upd T k (T k + 1)) = Go.ConcN.upd (wcT s z Anch Post T) k none := by
 funext q
 by_cases e : q = k
 ·subst e
  rw [wcT_none]
  ·simp [Go.ConcN.upd]
  ·rintro ⟨_, h2⟩
   simp [Go.ConcN.upd] at h2
   omega
 ·rw [wcT_other e]
  simp [Go.ConcN.upd, e]
end
end Go.Proofs.Ytilpedopnkhppaa.Mx

/- At the select: SelAt, packed. Conditions: each theorem's own. -/
namespace Go.Proofs.Ytilpedopnkhppaa.Mx
open Go.Conc Go.Conc.Lib Br
section
variable {s : Grp} {Anch Post : Goroutine → World → Prop} {wy h : Nat} {T : Nat → Nat} {Next : (Nat → Nat) → Goroutine → World → Prop}
def News (p : Ph) (T : Nat → Nat) (q : Nat) (v : Value) (ok : Bool) : Prop := ((p.vs q)[T q]? = some v ∧ ok = true) ∨ (T q = (p.vs q).length ∧ v = .pointer none ∧ ok = false)
theorem selAt {t : Array Value} (ht : FBs wy h (wcT s (.pointer none) Anch Post T h) (wcT s (.pointer none) Anch Post T (h + 1)) t) (ho : (phI s (.pointer none) Anch Post).opn T h ∨ (phI s (.pointer none) Anch Post).opn T (h + 1)) {b₀ : Frame} (hb₀ : b₀.kind = .normal) {k : List Item} {cs : List Frame} {w : World}
  (h0 : ∀ v ok w₁, h < s.n → News (phI s (.pointer none) Anch Post) T h v ok → (phI s (.pointer none) Anch Post).Far s.n w w₁ → Next (Go.ConcN.upd T h (T h + 1)) (G (b₀.at (Act.put ⟨t, []⟩ (some 28) (.tuple #[.int .i64 0, .bool ok, v, .pointer none])) (.inRegion (tb3 tbc) [1, 2, 3] :: k)) cs) w₁)
  (h1 : ∀ v ok w₁, h + 1 < s.n → News (phI s (.pointer none) Anch Post) T (h + 1) v ok → (phI s (.pointer none) Anch Post).Far s.n w w₁ → Next (Go.ConcN.upd T (h + 1) (T (h + 1) + 1)) (G (b₀.at (Act.put ⟨t, []⟩ (some 28) (.tuple #[.int .i64 1, .bool ok, .pointer none, v])) (.inRegion (tb3 tbc) [1, 2, 3] :: k)) cs) w₁) :
  (phI s (.pointer none) Anch Post).Sel Next T (G (b₀.at ⟨t, []⟩ (.inRegion (tb3 tbc) [0, 1, 2, 3] :: k)) cs) w := by
 refine ⟨rfl, _, h, h + 1, rfl, rfl, rfl, ⟨by omega, ho, fun w₁ _ => by rw [kases_eq]; exact selTb ht rfl hb₀ w₁, ?_, ?_⟩⟩
 ·intro i q v hik hk hv w₁ hw
  rcases hik with ⟨rfl, rfl⟩ | ⟨rfl, rfl⟩
  ·rw [kases_eq, comm0, served_at]
   exact h0 v true w₁ hk (.inl ⟨hv, rfl⟩) hw
  ·rw [kases_eq, comm1, served_at]
   exact h1 v true w₁ hk (.inl ⟨hv, rfl⟩) hw
 ·intro i q hik hk hv w₁ hw
  rcases hik with ⟨rfl, rfl⟩ | ⟨rfl, rfl⟩
  ·rw [kases_eq, comm0, served_at]
   exact h0 _ false w₁ hk (.inr ⟨hv, rfl, rfl⟩) hw
  ·rw [kases_eq, comm1, served_at]
   exact h1 _ false w₁ hk (.inr ⟨hv, rfl, rfl⟩) hw
end
end Go.Proofs.Ytilpedopnkhppaa.Mx

/- What Gather gives, as a row's element: three ints (the list, the place, the value). Conditions: none. -/
namespace Go.Proofs.Ytilpedopnkhppaa.Mx
open Go.Conc Go.Conc.Lib Br Go.RowKit Hp Rw Ro
abbrev It := Int × Int × Int
@[reducible] def iT : Rw.Ty It where
 E := 31
 L := 25
 k := 3
 bz := 24
 enc x := [.int .i64 x.1, .int .i64 x.2.1, .int .i64 x.2.2]
 z := .agg #[.int .i64 0, .int .i64 0, .int .i64 0]
 hL := Try.underlying25
 hI := by kernel_rfl
 hz := rfl
 hk _ := rfl
 h1 x v hv := by simp at hv; rcases hv with rfl | rfl | rfl <;> rfl
 k0 := by decide
 hb := by decide
def itemsOf (f : Int) (vals : List Int) (c : Nat) : List It := (List.range (min c vals.length)).map fun (i : Nat) => (f, (i : Int), vals.getD i 0)
theorem itemsOf_succ {f : Int} {vals : List Int} {c : Nat} (h : c < vals.length) : itemsOf f vals (c + 1) = itemsOf f vals c ++ [(f, (c : Int), vals.getD c 0)] := by
 unfold itemsOf
 rw [Nat.min_eq_left (by omega), Nat.min_eq_left (by omega), List.range_succ, List.map_append]
 rfl
theorem itemsOf_full {f : Int} {vals : List Int} {c : Nat} (h : vals.length ≤ c) : itemsOf f vals c = itemsOf f vals vals.length := by
 unfold itemsOf
 rw [Nat.min_eq_right h, Nat.min_self]
theorem itemsOf_len {f : Int} {vals : List Int} {c : Nat} : (itemsOf f vals c).length = min c vals.length := by simp [itemsOf]
end Go.Proofs.Ytilpedopnkhppaa.Mx

/- A way's take of a value: `came` grows by one. Conditions: each theorem's own. -/
namespace Go.Proofs.Ytilpedopnkhppaa.Mx
open Go.Conc Go.Conc.Lib Br Go.RowKit Hp Rw Ro
def Grw (w : World) (u : Value) (i : Nat) : Prop := w.heap.size ≤ i ∨ u.ownBlock = some i
theorem keptCellG {F : Nat → Prop} {w w' : World} (k : Kept F w w') {p : Addr} (hp : p.block < w.heap.size) (hF : ¬ F p.block) : w'.cell? p = w.cell? p := by
 simp [World.cell?, k.block p.block hp hF]
def findReg (k : Nat) : Code → Option Code
 | .region j o d => if j = k then some (.region j o d) else none
 | .loop c => findReg k c
 | .seq a b => match findReg k a with
   | some c => some c
   | none => findReg k b
 | .block _ c => findReg k c
 | .scope c => findReg k c
 | .cond _ a b => match findReg k a with
   | some c => some c
   | none => findReg k b
 | _ => none
noncomputable def takeReg : Code := ((Try.f46.body.bind (findReg 2)).getD .skip)
set_option maxRecDepth 100000 in
set_option maxHeartbeats 8000000 in
theorem takeVal_region {w : World} {wy a c cc base : Nat} {am : Option Addr} {q : Addr} {f y : Int} {l : List It} (Q : Exit → Act → World → Prop) (u3 u4 u5 u6 u7 u8 u9 u10 u11 u12 u13 u14 u15 u16 u17 u18 u19 u20 u21 u22 u23 u24 u25 u26 u27 u28 u29 u30 u31 u32 : Value)
  (hR : Rw.Row iT w base (.slice am c cc) l) (hc : l.length = c) (hl : c ≤ 100000) (hbs : base ≤ w.heap.size)
  (hwy : wy < w.heap.size) (hqy : q.block < w.heap.size) (hqw : q.block ≠ wy) (hown : ∀ g, (Value.slice am c cc).ownBlock = some g → g ≠ wy ∧ g ≠ q.block)
  (y0 : w.cell? ⟨wy, a * 3, none⟩ = some (.int .i64 f)) (y2 : w.cell? ⟨wy, a * 3 + 2, none⟩ = some (.slice am c cc)) (yf : w.frozen? ⟨wy, a * 3 + 2, none⟩ = false) (yq : w.cell? q = some (.int .i64 y))
  (hQ : ∀ (v11 v12 v13 v14 v15 v16 v17 v18 v19 v20 v21 v22 v23 v24 v25 v26 v27 v28 v29 v30 v31 v32 v' : Value) (w' : World), Rw.Row iT w' base v' (l ++ [(f, (c : Int), y)]) → Kept (Grw w (.slice am c cc)) w w' → (∀ g, v'.ownBlock = some g → (Value.slice am c cc).ownBlock = some g ∨ w.heap.size ≤ g) → Q .normal ⟨#[.pointer (some ⟨wy, a * 3, none⟩), .pointer (some q), .bool true, u3, u4, u5, u6, u7, u8, u9, u10, v11, v12, v13, v14, v15, v16, v17, v18, v19, v20, v21, v22, v23, v24, v25, v26, v27, v28, v29, v30, v31, v32], []⟩ (w'.setCell ⟨wy, a * 3 + 2, none⟩ v')) :
  Code.wp Try.prog takeReg Q ⟨#[.pointer (some ⟨wy, a * 3, none⟩), .pointer (some q), .bool true, u3, u4, u5, u6, u7, u8, u9, u10, u11, u12, u13, u14, u15, u16, u17, u18, u19, u20, u21, u22, u23, u24, u25, u26, u27, u28, u29, u30, u31, u32], []⟩ w := by
 conv => arg 2; whnf
 have HL : Hid (l.length ≤ 100000) := Lib.hid (by omega)
 have HBS := Lib.hid hbs
 have gw : ¬ Grw w (.slice am c cc) wy := fun h => h.elim (fun h => by omega) (fun h => (hown _ h).1 rfl)
 have gq : ¬ Grw w (.slice am c cc) q.block := fun h => h.elim (fun h => by omega) (fun h => (hown _ h).2 rfl)
 have CK : Hid (∀ w', Kept (Grw w (.slice am c cc)) w w' → (w'.cell? ⟨wy, a * 3, none⟩ = some (.int .i64 f)) ∧ (w'.cell? ⟨wy, a * 3 + 2, none⟩ = some (.slice am c cc)) ∧ (w'.cell? q = some (.int .i64 y)) ∧ w'.frozen? ⟨wy, a * 3 + 2, none⟩ = false) := Lib.hid fun w' k => ⟨(keptCellG k hwy gw).trans y0, (keptCellG k hwy gw).trans y2, (keptCellG k hqy gq).trans yq, by
  have := k.block wy hwy gw
  simp only [World.frozen?, this] at yf ⊢
  exact yf⟩
 have KS : Hid (∀ w', Kept (Grw w (.slice am c cc)) w w' → (fun w' => w'.cell? ⟨wy, a * 3, none⟩ = some (.int .i64 f) ∧ w'.cell? q = some (.int .i64 y)) w') := Lib.hid fun w' k => by have h := CK.out _ k; exact ⟨h.1, h.2.2.1⟩
 have KX : Hid (∀ (w' : World) (u : Value), Kept (Grw w (.slice am c cc)) w w' → (fun w' => w'.cell? ⟨wy, a * 3, none⟩ = some (.int .i64 f) ∧ w'.cell? q = some (.int .i64 y)) (w'.setCell ⟨wy, a * 3 + 2, none⟩ u)) := Lib.hid fun w' u k => by
  have h := KS.out _ k
  have hs := k.size
  have h1 := set_far (w := w') (b := q.block) (p := wy) hqw (a * 3 + 2) u
  dsimp only at h ⊢
  refine ⟨?_, ?_⟩
  ·have h2 := h.1
   simp only [World.cell?, World.setCell, Array.getElem?_modify, if_true] at h2 ⊢
   split at h2
   all_goals simp_all
  ·have h2 := h.2
   simp only [World.cell?, h1] at h2 ⊢
   exact h2
 have K0 := Lib.hid ((Kept.refl (fun _ => False) w).mono (G := Grw w (.slice am c cc)) (fun _ _ f => f.elim)).drew
 have RW0 := Lib.hid (hR.old (Kept.refl (fun _ => False) w).drew)
 clear hl hbs hqy hqw hown y0 y2 yf yq gw gq hR
 dsimp only [List.append]
 refine wp_region_noPanic ?_
 refine wp_region_held_drew (S := fun w' => w'.cell? ⟨wy, a * 3, none⟩ = some (.int .i64 f) ∧ w'.cell? q = some (.int .i64 y)) (by kernel_rfl) (KS.out _ K0.out) (fun hHeld => ?_)
 generalize w.drew = z0 at *
 refine tk 0 ⟨some 11, .move (.tmp 0), 96, "mux.go:40", #[], none⟩ (v := ?_) rfl ?_ ?_
 rotate_left 1
 focus (intro w h; (try dsimp only at h); go_simp; try with_reducible rfl)
 try simp only [Act.put, ppA, ppB, ppC]
 refine tk 1 ⟨some 12, .move (.tmp 0), 96, "mux.go:40", #[], none⟩ (v := ?_) rfl ?_ ?_
 rotate_left 1
 focus (intro w h; (try dsimp only at h); go_simp; try with_reducible rfl)
 try simp only [Act.put, ppA, ppB, ppC]
 refine tk 2 ⟨some 13, .nilCheck (.tmp 12), 0, "mux.go:40", #[⟨1, .data⟩], none⟩ (v := ?_) rfl ?_ ?_
 rotate_left 1
 focus (intro w h; (try dsimp only at h); go_simp; try with_reducible rfl)
 try simp only [Act.put, ppA, ppB, ppC]
 refine tk 3 ⟨some 14, .fieldAddr 93 (.tmp 13) 2, 0, "mux.go:40", #[⟨2, .data⟩], none⟩ (v := ?_) rfl ?_ ?_
 rotate_left 1
 focus (intro w h; (try dsimp only at h); go_simp; try with_reducible rfl)
 try simp only [Act.put, ppA, ppB, ppC]
 refine tk 5 ⟨some 16, .move (.tmp 0), 96, "mux.go:40", #[], none⟩ (v := ?_) rfl ?_ ?_
 rotate_left 1
 focus (intro w h; (try dsimp only at h); go_simp; try with_reducible rfl)
 try simp only [Act.put, ppA, ppB, ppC]
 refine tk 6 ⟨some 17, .nilCheck (.tmp 16), 0, "mux.go:40", #[⟨5, .data⟩], none⟩ (v := ?_) rfl ?_ ?_
 rotate_left 1
 focus (intro w h; (try dsimp only at h); go_simp; try with_reducible rfl)
 try simp only [Act.put, ppA, ppB, ppC]
 refine tk 7 ⟨some 18, .fieldAddr 93 (.tmp 17) 0, 0, "mux.go:40", #[⟨6, .data⟩], none⟩ (v := ?_) rfl ?_ ?_
 rotate_left 1
 focus (intro w h; (try dsimp only at h); go_simp; try with_reducible rfl)
 try simp only [Act.put, ppA, ppB, ppC]
 refine tk 8 ⟨some 19, .load 3 (.tmp 18), 3, "mux.go:40", #[⟨7, .data⟩], none⟩ (v := ?_) rfl ?_ ?_
 rotate_left 1
 focus (intro w h; (try dsimp only at h); go_simp; try with_reducible rfl)
 try simp only [Act.put, ppA, ppB, ppC]
 refine tk 9 ⟨some 20, .move (.tmp 0), 96, "mux.go:40", #[], none⟩ (v := ?_) rfl ?_ ?_
 rotate_left 1
 focus (intro w h; (try dsimp only at h); go_simp; try with_reducible rfl)
 try simp only [Act.put, ppA, ppB, ppC]
 refine tk 10 ⟨some 21, .nilCheck (.tmp 20), 0, "mux.go:40", #[⟨9, .data⟩], none⟩ (v := ?_) rfl ?_ ?_
 rotate_left 1
 focus (intro w h; (try dsimp only at h); go_simp; try with_reducible rfl)
 try simp only [Act.put, ppA, ppB, ppC]
 refine tk 11 ⟨some 22, .fieldAddr 93 (.tmp 21) 2, 0, "mux.go:40", #[⟨10, .data⟩], none⟩ (v := ?_) rfl ?_ ?_
 rotate_left 1
 focus (intro w h; (try dsimp only at h); go_simp; try with_reducible rfl)
 try simp only [Act.put, ppA, ppB, ppC]
 refine tk 14 ⟨some 25, .move (.tmp 1), 72, "mux.go:40", #[], none⟩ (v := ?_) rfl ?_ ?_
 rotate_left 1
 focus (intro w h; (try dsimp only at h); go_simp; try with_reducible rfl)
 try simp only [Act.put, ppA, ppB, ppC]
 refine tk 15 ⟨some 26, .nilCheck (.tmp 25), 0, "mux.go:40", #[⟨14, .data⟩], none⟩ (v := ?_) rfl ?_ ?_
 rotate_left 1
 focus (intro w h; (try dsimp only at h); go_simp; try with_reducible rfl)
 try simp only [Act.put, ppA, ppB, ppC]
 refine tk 16 ⟨some 27, .load 3 (.tmp 26), 3, "mux.go:40", #[⟨15, .data⟩], none⟩ (v := ?_) rfl ?_ ?_
 rotate_left 1
 focus (intro w h; (try dsimp only at h); go_simp; try with_reducible rfl)
 try simp only [Act.put, ppA, ppB, ppC]
 refine wpAnyH_ready (rs := [4, 12]) (by kernel_rfl) (by simp) ?_
 refine AllReadyH.cons (o := ⟨some 15, .load 25 (.tmp 14), 25, "mux.go:40", #[⟨3, .data⟩], none⟩) rfl (fun K hK => ?_) (AllReadyH.cons (o := ⟨some 23, .load 25 (.tmp 22), 25, "mux.go:40", #[⟨11, .data⟩], none⟩) rfl (fun K hK => ?_) AllReadyH.nil)
 ·have CC1 := CK.out _ K0.out
  have t3 := CC1.2.1
  go_simp
  refine hK.out _ _ (KS.out _ K0.out) (fun hHeld => ?_)
  clear hK K
  try simp only [Act.put, ppA, ppB, ppC]
  clear t3 CC1
  refine wpAnyH_ready (rs := [12]) (by kernel_rfl) (by simp) ?_
  refine AllReadyH.cons (o := ⟨some 23, .load 25 (.tmp 22), 25, "mux.go:40", #[⟨11, .data⟩], none⟩) rfl (fun K hK => ?_) AllReadyH.nil
  have CC2 := CK.out _ K0.out
  have t3 := CC2.2.1
  go_simp
  refine hK.out _ _ (KS.out _ K0.out) (fun hHeld => ?_)
  clear hK K
  try simp only [Act.put, ppA, ppB, ppC]
  clear t3 CC2
  refine tk 13 ⟨some 24, .call ⟨.builtin .len, #[.tmp 23], #[25]⟩, 3, "mux.go:40", #[⟨12, .data⟩], none⟩ (v := ?_) rfl ?_ ?_
  rotate_left 1
  focus (intro w h; (try dsimp only at h); go_simp; try with_reducible rfl)
  try simp only [Act.put, ppA, ppB, ppC]
  refine tk 17 ⟨some 28, .build 31 #[(0, .tmp 19), (1, .tmp 24), (2, .tmp 27)], 31, "mux.go:40", #[⟨8, .data⟩, ⟨13, .data⟩, ⟨16, .data⟩], none⟩ (v := ?_) rfl ?_ ?_
  rotate_left 1
  focus (intro w h; (try dsimp only at h); go_simp; try with_reducible rfl)
  try simp only [Act.put, ppA, ppB, ppC]
  refine wpAnyH_ready (rs := [18]) (by kernel_rfl) (by simp) ?_
  refine AllReadyH.cons (o := ⟨some 29, .buildSlice 25 1 #[(0, .tmp 28)], 25, "mux.go:40", #[⟨17, .data⟩], none⟩) rfl (fun K hK => ?_) AllReadyH.nil
  have hB3 : Blk (z0.alloc (.cells #[.int .i64 f, .int .i64 (c : Int), .int .i64 y] 31)) z0.heap.size [.int .i64 f, .int .i64 (c : Int), .int .i64 y] 31 := Blk.new z0 [.int .i64 f, .int .i64 (c : Int), .int .i64 y] 31
  have hk3 : Kept (fun _ => False) z0 (z0.alloc (.cells #[.int .i64 f, .int .i64 (c : Int), .int .i64 y] 31)) := (Kept.refl _ z0).alloc _
  have RW3 := Lib.hid (RW0.out.old hk3)
  have K3 := Lib.hid (K0.out.alloc (.cells #[.int .i64 f, .int .i64 (c : Int), .int .i64 y] 31))
  have HB3 := Lib.hid hB3
  go_simp
  refine hK.out _ _ (KS.out _ K3.out) (fun hHeld => ?_)
  clear hK K
  try simp only [Act.put, ppA, ppB, ppC]
  clear hB3 hk3
  generalize z0.alloc (.cells #[.int .i64 f, .int .i64 (c : Int), .int .i64 y] 31) = z3 at *
  generalize z0.heap.size = b3 at *
  refine wpAnyH_ready (rs := [19]) (by kernel_rfl) (by simp) ?_
  refine AllReadyH.cons (o := ⟨some 30, .call ⟨.builtin .append, #[.tmp 15, .tmp 29], #[25, 25]⟩, 25, "mux.go:40", #[⟨4, .data⟩, ⟨18, .data⟩], none⟩) rfl (fun K hK => ?_) AllReadyH.nil
  refine Rw.step_app iT (by rfl) (.tmp 15) (.tmp 29) (by rfl) base (K := l) (K2 := [(f, (c : Int), y)]) (by rfl) RW3.out (by rfl) (Rw.src_blk (t := iT) (K := [(f, (c : Int), y)]) 1 HB3.out) (by have := HL.out; simp; omega) (Nat.le_trans HBS.out K3.out.size) ?_
  intro v4_ z4 A4
  have K4 := Lib.hid (K3.out.trans' A4.kept (fun i _ e => Or.inr e))
  have OW4 : Hid (∀ g, v4_.ownBlock = some g → (Value.slice am c cc).ownBlock = some g ∨ w.heap.size ≤ g) := Lib.hid fun g hg => (A4.lies g hg).elim Or.inl (fun h => Or.inr (Nat.le_trans K3.out.size h))
  have RW4 := Lib.hid A4.row
  obtain ⟨a4, n4, c4, rfl⟩ : ∃ a n c, v4_ = .slice a n c := (by obtain ⟨a, c, e, _⟩ := A4.row.slice; exact ⟨a, _, c, e⟩)
  clear A4
  refine hK.out _ _ (KS.out _ K4.out) (fun hHeld => ?_)
  clear hK K
  try simp only [Act.put, ppA, ppB, ppC]
  refine tk 20 ⟨some 31, .nilCheck (.tmp 11), 0, "mux.go:40", #[⟨0, .data⟩, ⟨0, .phase⟩, ⟨1, .phase⟩, ⟨2, .phase⟩, ⟨3, .phase⟩, ⟨4, .phase⟩, ⟨5, .phase⟩, ⟨6, .phase⟩, ⟨7, .phase⟩, ⟨8, .phase⟩, ⟨9, .phase⟩, ⟨10, .phase⟩, ⟨11, .phase⟩, ⟨12, .phase⟩, ⟨13, .phase⟩, ⟨14, .phase⟩, ⟨15, .phase⟩, ⟨16, .phase⟩, ⟨17, .phase⟩, ⟨18, .phase⟩, ⟨19, .phase⟩], none⟩ (v := ?_) rfl ?_ ?_
  rotate_left 1
  focus (intro w h; (try dsimp only at h); go_simp; try with_reducible rfl)
  try simp only [Act.put, ppA, ppB, ppC]
  refine tk 21 ⟨some 32, .fieldAddr 93 (.tmp 31) 2, 0, "mux.go:40", #[⟨20, .data⟩, ⟨0, .phase⟩, ⟨1, .phase⟩, ⟨2, .phase⟩, ⟨3, .phase⟩, ⟨4, .phase⟩, ⟨5, .phase⟩, ⟨6, .phase⟩, ⟨7, .phase⟩, ⟨8, .phase⟩, ⟨9, .phase⟩, ⟨10, .phase⟩, ⟨11, .phase⟩, ⟨12, .phase⟩, ⟨13, .phase⟩, ⟨14, .phase⟩, ⟨15, .phase⟩, ⟨16, .phase⟩, ⟨17, .phase⟩, ⟨18, .phase⟩, ⟨19, .phase⟩], none⟩ (v := ?_) rfl ?_ ?_
  rotate_left 1
  focus (intro w h; (try dsimp only at h); go_simp; try with_reducible rfl)
  try simp only [Act.put, ppA, ppB, ppC]
  refine wpAnyH_ready (rs := [22]) (by kernel_rfl) (by simp) ?_
  refine AllReadyH.cons (o := ⟨none, .store 25 (.tmp 32) (.tmp 30), 0, "mux.go:40", #[⟨21, .data⟩, ⟨19, .data⟩, ⟨19, .chain⟩, ⟨0, .phase⟩, ⟨1, .phase⟩, ⟨2, .phase⟩, ⟨3, .phase⟩, ⟨4, .phase⟩, ⟨5, .phase⟩, ⟨6, .phase⟩, ⟨7, .phase⟩, ⟨8, .phase⟩, ⟨9, .phase⟩, ⟨10, .phase⟩, ⟨11, .phase⟩, ⟨12, .phase⟩, ⟨13, .phase⟩, ⟨14, .phase⟩, ⟨15, .phase⟩, ⟨16, .phase⟩, ⟨17, .phase⟩, ⟨18, .phase⟩, ⟨19, .phase⟩], none⟩) rfl (fun K hK => ?_) AllReadyH.nil
  have CC5 := CK.out _ K4.out
  have t3 := CC5.2.1
  have t4 := CC5.2.2.2
  go_simp
  refine hK.out _ _ (KX.out _ _ K4.out) (fun hHeld => ?_)
  clear hK K
  try simp only [Act.put, ppA, ppB, ppC]
  refine wpAnyH_done (by kernel_rfl) ?_ _
  refine NoPanic.normal ?_
  exact hQ _ _ _ _ _ _ _ _ _ _ _ _ _ _ _ _ _ _ _ _ _ _ _ _ RW4.out K4.out OW4.out
 ·have CC6 := CK.out _ K0.out
  have t3 := CC6.2.1
  go_simp
  refine hK.out _ _ (KS.out _ K0.out) (fun hHeld => ?_)
  clear hK K
  try simp only [Act.put, ppA, ppB, ppC]
  clear t3 CC6
  refine tk 13 ⟨some 24, .call ⟨.builtin .len, #[.tmp 23], #[25]⟩, 3, "mux.go:40", #[⟨12, .data⟩], none⟩ (v := ?_) rfl ?_ ?_
  rotate_left 1
  focus (intro w h; (try dsimp only at h); go_simp; try with_reducible rfl)
  try simp only [Act.put, ppA, ppB, ppC]
  refine tk 17 ⟨some 28, .build 31 #[(0, .tmp 19), (1, .tmp 24), (2, .tmp 27)], 31, "mux.go:40", #[⟨8, .data⟩, ⟨13, .data⟩, ⟨16, .data⟩], none⟩ (v := ?_) rfl ?_ ?_
  rotate_left 1
  focus (intro w h; (try dsimp only at h); go_simp; try with_reducible rfl)
  try simp only [Act.put, ppA, ppB, ppC]
  refine wpAnyH_ready (rs := [4, 18]) (by kernel_rfl) (by simp) ?_
  refine AllReadyH.cons (o := ⟨some 15, .load 25 (.tmp 14), 25, "mux.go:40", #[⟨3, .data⟩], none⟩) rfl (fun K hK => ?_) (AllReadyH.cons (o := ⟨some 29, .buildSlice 25 1 #[(0, .tmp 28)], 25, "mux.go:40", #[⟨17, .data⟩], none⟩) rfl (fun K hK => ?_) AllReadyH.nil)
  ·have CC7 := CK.out _ K0.out
   have t3 := CC7.2.1
   go_simp
   refine hK.out _ _ (KS.out _ K0.out) (fun hHeld => ?_)
   clear hK K
   try simp only [Act.put, ppA, ppB, ppC]
   clear t3 CC7
   refine wpAnyH_ready (rs := [18]) (by kernel_rfl) (by simp) ?_
   refine AllReadyH.cons (o := ⟨some 29, .buildSlice 25 1 #[(0, .tmp 28)], 25, "mux.go:40", #[⟨17, .data⟩], none⟩) rfl (fun K hK => ?_) AllReadyH.nil
   have hB8 : Blk (z0.alloc (.cells #[.int .i64 f, .int .i64 (c : Int), .int .i64 y] 31)) z0.heap.size [.int .i64 f, .int .i64 (c : Int), .int .i64 y] 31 := Blk.new z0 [.int .i64 f, .int .i64 (c : Int), .int .i64 y] 31
   have hk8 : Kept (fun _ => False) z0 (z0.alloc (.cells #[.int .i64 f, .int .i64 (c : Int), .int .i64 y] 31)) := (Kept.refl _ z0).alloc _
   have RW8 := Lib.hid (RW0.out.old hk8)
   have K8 := Lib.hid (K0.out.alloc (.cells #[.int .i64 f, .int .i64 (c : Int), .int .i64 y] 31))
   have HB8 := Lib.hid hB8
   go_simp
   refine hK.out _ _ (KS.out _ K8.out) (fun hHeld => ?_)
   clear hK K
   try simp only [Act.put, ppA, ppB, ppC]
   clear hB8 hk8
   generalize z0.alloc (.cells #[.int .i64 f, .int .i64 (c : Int), .int .i64 y] 31) = z8 at *
   generalize z0.heap.size = b8 at *
   refine wpAnyH_ready (rs := [19]) (by kernel_rfl) (by simp) ?_
   refine AllReadyH.cons (o := ⟨some 30, .call ⟨.builtin .append, #[.tmp 15, .tmp 29], #[25, 25]⟩, 25, "mux.go:40", #[⟨4, .data⟩, ⟨18, .data⟩], none⟩) rfl (fun K hK => ?_) AllReadyH.nil
   refine Rw.step_app iT (by rfl) (.tmp 15) (.tmp 29) (by rfl) base (K := l) (K2 := [(f, (c : Int), y)]) (by rfl) RW8.out (by rfl) (Rw.src_blk (t := iT) (K := [(f, (c : Int), y)]) 1 HB8.out) (by have := HL.out; simp; omega) (Nat.le_trans HBS.out K8.out.size) ?_
   intro v9_ z9 A9
   have K9 := Lib.hid (K8.out.trans' A9.kept (fun i _ e => Or.inr e))
   have OW9 : Hid (∀ g, v9_.ownBlock = some g → (Value.slice am c cc).ownBlock = some g ∨ w.heap.size ≤ g) := Lib.hid fun g hg => (A9.lies g hg).elim Or.inl (fun h => Or.inr (Nat.le_trans K8.out.size h))
   have RW9 := Lib.hid A9.row
   obtain ⟨a9, n9, c9, rfl⟩ : ∃ a n c, v9_ = .slice a n c := (by obtain ⟨a, c, e, _⟩ := A9.row.slice; exact ⟨a, _, c, e⟩)
   clear A9
   refine hK.out _ _ (KS.out _ K9.out) (fun hHeld => ?_)
   clear hK K
   try simp only [Act.put, ppA, ppB, ppC]
   refine tk 20 ⟨some 31, .nilCheck (.tmp 11), 0, "mux.go:40", #[⟨0, .data⟩, ⟨0, .phase⟩, ⟨1, .phase⟩, ⟨2, .phase⟩, ⟨3, .phase⟩, ⟨4, .phase⟩, ⟨5, .phase⟩, ⟨6, .phase⟩, ⟨7, .phase⟩, ⟨8, .phase⟩, ⟨9, .phase⟩, ⟨10, .phase⟩, ⟨11, .phase⟩, ⟨12, .phase⟩, ⟨13, .phase⟩, ⟨14, .phase⟩, ⟨15, .phase⟩, ⟨16, .phase⟩, ⟨17, .phase⟩, ⟨18, .phase⟩, ⟨19, .phase⟩], none⟩ (v := ?_) rfl ?_ ?_
   rotate_left 1
   focus (intro w h; (try dsimp only at h); go_simp; try with_reducible rfl)
   try simp only [Act.put, ppA, ppB, ppC]
   refine tk 21 ⟨some 32, .fieldAddr 93 (.tmp 31) 2, 0, "mux.go:40", #[⟨20, .data⟩, ⟨0, .phase⟩, ⟨1, .phase⟩, ⟨2, .phase⟩, ⟨3, .phase⟩, ⟨4, .phase⟩, ⟨5, .phase⟩, ⟨6, .phase⟩, ⟨7, .phase⟩, ⟨8, .phase⟩, ⟨9, .phase⟩, ⟨10, .phase⟩, ⟨11, .phase⟩, ⟨12, .phase⟩, ⟨13, .phase⟩, ⟨14, .phase⟩, ⟨15, .phase⟩, ⟨16, .phase⟩, ⟨17, .phase⟩, ⟨18, .phase⟩, ⟨19, .phase⟩], none⟩ (v := ?_) rfl ?_ ?_
   rotate_left 1
   focus (intro w h; (try dsimp only at h); go_simp; try with_reducible rfl)
   try simp only [Act.put, ppA, ppB, ppC]
   refine wpAnyH_ready (rs := [22]) (by kernel_rfl) (by simp) ?_
   refine AllReadyH.cons (o := ⟨none, .store 25 (.tmp 32) (.tmp 30), 0, "mux.go:40", #[⟨21, .data⟩, ⟨19, .data⟩, ⟨19, .chain⟩, ⟨0, .phase⟩, ⟨1, .phase⟩, ⟨2, .phase⟩, ⟨3, .phase⟩, ⟨4, .phase⟩, ⟨5, .phase⟩, ⟨6, .phase⟩, ⟨7, .phase⟩, ⟨8, .phase⟩, ⟨9, .phase⟩, ⟨10, .phase⟩, ⟨11, .phase⟩, ⟨12, .phase⟩, ⟨13, .phase⟩, ⟨14, .phase⟩, ⟨15, .phase⟩, ⟨16, .phase⟩, ⟨17, .phase⟩, ⟨18, .phase⟩, ⟨19, .phase⟩], none⟩) rfl (fun K hK => ?_) AllReadyH.nil
   have CC10 := CK.out _ K9.out
   have t3 := CC10.2.1
   have t4 := CC10.2.2.2
   go_simp
   refine hK.out _ _ (KX.out _ _ K9.out) (fun hHeld => ?_)
   clear hK K
   try simp only [Act.put, ppA, ppB, ppC]
   refine wpAnyH_done (by kernel_rfl) ?_ _
   refine NoPanic.normal ?_
   exact hQ _ _ _ _ _ _ _ _ _ _ _ _ _ _ _ _ _ _ _ _ _ _ _ _ RW9.out K9.out OW9.out
  ·have hB11 : Blk (z0.alloc (.cells #[.int .i64 f, .int .i64 (c : Int), .int .i64 y] 31)) z0.heap.size [.int .i64 f, .int .i64 (c : Int), .int .i64 y] 31 := Blk.new z0 [.int .i64 f, .int .i64 (c : Int), .int .i64 y] 31
   have hk11 : Kept (fun _ => False) z0 (z0.alloc (.cells #[.int .i64 f, .int .i64 (c : Int), .int .i64 y] 31)) := (Kept.refl _ z0).alloc _
   have RW11 := Lib.hid (RW0.out.old hk11)
   have K11 := Lib.hid (K0.out.alloc (.cells #[.int .i64 f, .int .i64 (c : Int), .int .i64 y] 31))
   have HB11 := Lib.hid hB11
   go_simp
   refine hK.out _ _ (KS.out _ K11.out) (fun hHeld => ?_)
   clear hK K
   try simp only [Act.put, ppA, ppB, ppC]
   clear hB11 hk11
   generalize z0.alloc (.cells #[.int .i64 f, .int .i64 (c : Int), .int .i64 y] 31) = z11 at *
   generalize z0.heap.size = b11 at *
   refine wpAnyH_ready (rs := [4]) (by kernel_rfl) (by simp) ?_
   refine AllReadyH.cons (o := ⟨some 15, .load 25 (.tmp 14), 25, "mux.go:40", #[⟨3, .data⟩], none⟩) rfl (fun K hK => ?_) AllReadyH.nil
   have CC12 := CK.out _ K11.out
   have t3 := CC12.2.1
   go_simp
   refine hK.out _ _ (KS.out _ K11.out) (fun hHeld => ?_)
   clear hK K
   try simp only [Act.put, ppA, ppB, ppC]
   clear t3 CC12
   refine wpAnyH_ready (rs := [19]) (by kernel_rfl) (by simp) ?_
   refine AllReadyH.cons (o := ⟨some 30, .call ⟨.builtin .append, #[.tmp 15, .tmp 29], #[25, 25]⟩, 25, "mux.go:40", #[⟨4, .data⟩, ⟨18, .data⟩], none⟩) rfl (fun K hK => ?_) AllReadyH.nil
   refine Rw.step_app iT (by rfl) (.tmp 15) (.tmp 29) (by rfl) base (K := l) (K2 := [(f, (c : Int), y)]) (by rfl) RW11.out (by rfl) (Rw.src_blk (t := iT) (K := [(f, (c : Int), y)]) 1 HB11.out) (by have := HL.out; simp; omega) (Nat.le_trans HBS.out K11.out.size) ?_
   intro v13_ z13 A13
   have K13 := Lib.hid (K11.out.trans' A13.kept (fun i _ e => Or.inr e))
   have OW13 : Hid (∀ g, v13_.ownBlock = some g → (Value.slice am c cc).ownBlock = some g ∨ w.heap.size ≤ g) := Lib.hid fun g hg => (A13.lies g hg).elim Or.inl (fun h => Or.inr (Nat.le_trans K11.out.size h))
   have RW13 := Lib.hid A13.row
   obtain ⟨a13, n13, c13, rfl⟩ : ∃ a n c, v13_ = .slice a n c := (by obtain ⟨a, c, e, _⟩ := A13.row.slice; exact ⟨a, _, c, e⟩)
   clear A13
   refine hK.out _ _ (KS.out _ K13.out) (fun hHeld => ?_)
   clear hK K
   try simp only [Act.put, ppA, ppB, ppC]
   refine tk 20 ⟨some 31, .nilCheck (.tmp 11), 0, "mux.go:40", #[⟨0, .data⟩, ⟨0, .phase⟩, ⟨1, .phase⟩, ⟨2, .phase⟩, ⟨3, .phase⟩, ⟨4, .phase⟩, ⟨5, .phase⟩, ⟨6, .phase⟩, ⟨7, .phase⟩, ⟨8, .phase⟩, ⟨9, .phase⟩, ⟨10, .phase⟩, ⟨11, .phase⟩, ⟨12, .phase⟩, ⟨13, .phase⟩, ⟨14, .phase⟩, ⟨15, .phase⟩, ⟨16, .phase⟩, ⟨17, .phase⟩, ⟨18, .phase⟩, ⟨19, .phase⟩], none⟩ (v := ?_) rfl ?_ ?_
   rotate_left 1
   focus (intro w h; (try dsimp only at h); go_simp; try with_reducible rfl)
   try simp only [Act.put, ppA, ppB, ppC]
   refine tk 21 ⟨some 32, .fieldAddr 93 (.tmp 31) 2, 0, "mux.go:40", #[⟨20, .data⟩, ⟨0, .phase⟩, ⟨1, .phase⟩, ⟨2, .phase⟩, ⟨3, .phase⟩, ⟨4, .phase⟩, ⟨5, .phase⟩, ⟨6, .phase⟩, ⟨7, .phase⟩, ⟨8, .phase⟩, ⟨9, .phase⟩, ⟨10, .phase⟩, ⟨11, .phase⟩, ⟨12, .phase⟩, ⟨13, .phase⟩, ⟨14, .phase⟩, ⟨15, .phase⟩, ⟨16, .phase⟩, ⟨17, .phase⟩, ⟨18, .phase⟩, ⟨19, .phase⟩], none⟩ (v := ?_) rfl ?_ ?_
   rotate_left 1
   focus (intro w h; (try dsimp only at h); go_simp; try with_reducible rfl)
   try simp only [Act.put, ppA, ppB, ppC]
   refine wpAnyH_ready (rs := [22]) (by kernel_rfl) (by simp) ?_
   refine AllReadyH.cons (o := ⟨none, .store 25 (.tmp 32) (.tmp 30), 0, "mux.go:40", #[⟨21, .data⟩, ⟨19, .data⟩, ⟨19, .chain⟩, ⟨0, .phase⟩, ⟨1, .phase⟩, ⟨2, .phase⟩, ⟨3, .phase⟩, ⟨4, .phase⟩, ⟨5, .phase⟩, ⟨6, .phase⟩, ⟨7, .phase⟩, ⟨8, .phase⟩, ⟨9, .phase⟩, ⟨10, .phase⟩, ⟨11, .phase⟩, ⟨12, .phase⟩, ⟨13, .phase⟩, ⟨14, .phase⟩, ⟨15, .phase⟩, ⟨16, .phase⟩, ⟨17, .phase⟩, ⟨18, .phase⟩, ⟨19, .phase⟩], none⟩) rfl (fun K hK => ?_) AllReadyH.nil
   have CC14 := CK.out _ K13.out
   have t3 := CC14.2.1
   have t4 := CC14.2.2.2
   go_simp
   refine hK.out _ _ (KX.out _ _ K13.out) (fun hHeld => ?_)
   clear hK K
   try simp only [Act.put, ppA, ppB, ppC]
   refine wpAnyH_done (by kernel_rfl) ?_ _
   refine NoPanic.normal ?_
   exact hQ _ _ _ _ _ _ _ _ _ _ _ _ _ _ _ _ _ _ _ _ _ _ _ _ RW13.out K13.out OW13.out
end Go.Proofs.Ytilpedopnkhppaa.Mx

