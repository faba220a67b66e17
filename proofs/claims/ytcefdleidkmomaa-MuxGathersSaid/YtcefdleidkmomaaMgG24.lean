/- Gather of any lists, whole: from its entry to behind its call, whoever calls. Conditions: each theorem's own. -/
import Derived.Test.YtcefdleidkmomaaMgG23
import Derived.Test.YtcefdleidkmomaaMgG14
import Derived.LoopTactic
import Derived.Deep.LoopGhost
import Derived.Deep.DeepCutAuto
import Derived.OwnWalk
import Derived.Below
import Derived.ChangeSame
import Derived.ProofKit
import Derived.Test.YtcefdleidkmomaaMgG16
import Derived.Test.YtcefdleidkmomaaMgG17
import Derived.Deep.RegionLaw
set_option linter.unusedVariables false
set_option linter.unusedSimpArgs false
namespace Go.Proofs.Ytcefdleidkmomaa.Mx
open Go.Conc Go.Conc.Lib Br Go.RowKit Hp Rw Ro So
open Go.ConcR (WgAt wgBlock)
open Go.ConcN (sumTo upd sumTo_upd upd_ne upd_same)
/-- The lone world of the phase. -/
def wMN (v : World) : World := { v.alloc (wgBlock lnk.tWg 0 0) with heap := (v.alloc (wgBlock lnk.tWg 0 0)).heap.setIfInBounds v.heap.size (.coro none) }
section
variable {Z b n lb lo cl : Nat} {Shun : Loc → Prop} {X : Sh} {ad : Nat → Option Addr} {len cp : Nat → Nat} {vals : Nat → List Int} {v vM w W : World} {al : Value}
theorem wMN_size (v : World) : (wMN v).heap.size = v.heap.size + 1 := by
  show ((v.heap.push _).setIfInBounds v.heap.size _).size = _
  simp
theorem wMN_old (v : World) {c : Nat} (hc : c < v.heap.size) : (wMN v).heap[c]? = v.heap[c]? := by
  show ((v.heap.push _).setIfInBounds v.heap.size _)[c]? = _
  rw [Array.getElem?_setIfInBounds_ne (by omega), push_old hc]
theorem like_wMN (hXM : ∀ c, X c → c < v.heap.size) (hl : Like X w v) (d : Nat) : Like ((gN v.heap.size b n Shun ad len cp).Sd X 0) ((w.at d).alloc (wgBlock lnk.tWg 0 0)) (wMN v) := by
  have hw : w.heap.size = v.heap.size := hl.size.symm
  have hsd : ∀ c, (gN v.heap.size b n Shun ad len cp).Sd X 0 c ↔ (X c ∨ c = v.heap.size) := fun c => ⟨fun h => by
    rcases h with h | h | ⟨k, h, _⟩
    · exact .inl h
    · exact .inr h
    · omega, fun h => h.elim .inl fun h => .inr (.inl h)⟩
  refine ⟨by rw [wMN_size]; show _ = (w.heap.push _).size; simp [hw], hl.os, hl.out, hl.osx, hl.outx, fun c hc => ?_, fun c hc => ?_, fun c hc => ?_⟩
  · have hc1 : ¬ X c := fun e => hc ((hsd c).2 (.inl e))
    have hc2 : c ≠ v.heap.size := fun e => hc ((hsd c).2 (.inr e))
    show ((v.heap.push _).setIfInBounds v.heap.size _)[c]? = (w.heap.push _)[c]?
    rw [Array.getElem?_setIfInBounds_ne (by omega)]
    rcases Nat.lt_or_ge c v.heap.size with hlt | hge
    · rw [push_old hlt, push_old (by omega), hl.off c hc1]
    · rw [Array.getElem?_eq_none (by simp only [Array.size_push]; omega), Array.getElem?_eq_none (by simp only [Array.size_push]; omega)]
  · rcases (hsd c).1 hc with h | rfl
    · show ((v.heap.push _).setIfInBounds v.heap.size _)[c]? = _
      have := hXM c h
      rw [Array.getElem?_setIfInBounds_ne (by omega), push_old this]
      exact hl.dead c h
    · show ((v.heap.push _).setIfInBounds v.heap.size _)[v.heap.size]? = _
      rw [Array.getElem?_setIfInBounds_self_of_lt (by simp)]
  · rcases (hsd c).1 hc with h | rfl
    · obtain ⟨o, ho, hs⟩ := hl.solid c h
      have := hXM c h
      refine ⟨o, ?_, hs⟩
      show (w.heap.push _)[c]? = _
      rw [push_old (by omega)]
      exact ho
    · refine ⟨wgBlock lnk.tWg 0 0, ?_, .inl ⟨_, _, rfl, by simp⟩⟩
      show (w.heap.push _)[v.heap.size]? = _
      rw [← hw]; simp
/-- Gather's frame while it waits for atOnce. -/
noncomputable def gaFN (t : Array Value) : Frame := (base 9).at ⟨t, []⟩ (.inRegion (ga5 gaL) [10, 11] :: .inBlock 1 :: .code (ga4 gaL) :: .inLoop gaL :: .inBlock 0 :: .code (gaE gaB) :: [])
/-- Gather's goroutine at the making of the group. -/
def AtAllocN (lb lo n cl : Nat) (X : Sh) (hp : Array Obj) (cs : List Frame) (g : Goroutine) (w : World) : Prop :=
  ∃ tA tg v, g = G ((base 26).at ⟨tA, []⟩ (.inRegion (aw1 atB) [0] :: .code (aw2 atB) :: [])) (gaFN tg :: cs) ∧ FN0 lb lo n cl tA ∧ FGN lb lo n cl tg ∧ Like X w v ∧ v.heap = hp
theorem gatherEnter (h1 : 1 ≤ n) (h5 : n ≤ 500) (hcl : n ≤ cl) {cs : List Frame} (hl : Like X w v) :
    SG X (AtAllocN lb lo n cl X v.heap cs) ((0 + 10) + 60) (G ((base 9).at { tmps := #[.slice (some ⟨lb, lo, none⟩) n cl] ++ Array.replicate 22 undef, defers := [] } [.code gaB]) cs) w := by
  refine gatherInN h1 h5 hcl hl rfl rfl fun tg w2 v2 hg hl2 e2 => ?_
  refine atInN hl2 rfl fun tA w3 v3 hA hl3 e3 => ?_
  exact SG.stop fun w₁ hr => ⟨tA, tg, v3, rfl, hA, hg, (like_atR hr hl3).1, e3.trans e2⟩
theorem BehindN.at_ {w₁ : World} (h : BehindN Z n X vals vM al w v) (hr : AtR w w₁) : BehindN Z n X vals vM al w₁ v := ⟨(like_atR hr h.like).1, h.row, h.size, h.same⟩
/-- Behind the call of Gather. -/
def AfterN (Z n : Nat) (X : Sh) (vals : Nat → List Int) (vM : World) (cb : Frame) (ac : Act) (opsc : Array Oper) (ic : Nat) (restc : List Nat) (kc : List Item) (cs : List Frame) (g : Goroutine) (w : World) : Prop :=
  ∃ al v, g = G (cb.at (ac.put ((opsc[ic]?).bind (·.dst)) al) (.inRegion opsc restc :: kc)) cs ∧ BehindN Z n X vals vM al w v
theorem gatherExit (h5 : n ≤ 500) {N : Nat} {tg : Array Value} (hg : FGN lb lo n cl tg) {cb : Frame} {ac : Act} {opsc : Array Oper} {ic : Nat} {restc : List Nat} {kc : List Item} {cs : List Frame} (hb : BehindN Z n X vals vM al w v) {t : Array Value} (ht : FT (gN Z b n Shun ad len cp) al (Z + 1) N 0 N t) {a : Goroutine}
    (hs : Slips a (G ((base 26).at (Act.put ⟨t, []⟩ (((tk17 (sndOf spa))[0]?).bind (·.dst)) (.tuple #[])) (.inRegion (tk17 (sndOf spa)) [] :: .code (sndOf (sndOf spa)) :: []))
      (gaFN tg :: cb.at ac (.inRegion opsc (ic :: restc) :: kc) :: cs))) : ∃ m, SG (DN Z n X) (AfterN Z n X vals vM cb ac opsc ic restc kc cs) m a w := by
  obtain ⟨m, hs⟩ := hs
  refine ⟨m + ((0 + 60) + 20), SG.slip ?_ hs⟩
  refine atOnceBackN ht (fun w v hb => ?_) hb rfl
  refine gatherBackN h5 hg (fun w v hb => ?_) hb rfl rfl
  exact SG.stop fun w₁ hr => ⟨al, v, rfl, hb.at_ hr⟩
theorem gatherLands (hX : ShunIn X Shun) (hXM : ∀ c, X c → c < v.heap.size) (hM : LL v.heap.size n lb lo ad len cp vals v) (hcl : n ≤ cl) {cb : Frame} {ac : Act} {opsc : Array Oper} {ic : Nat} {restc : List Nat} {kc : List Item} {cs : List Frame} {gs : Array Goroutine} {sl : Option (Nat × Nat)} {t : Trace} {q : Nat → Nat}
    (hl : Like X w v) (h0 : gs[0]? = some (G ((base 9).at { tmps := #[.slice (some ⟨lb, lo, none⟩) n cl] ++ Array.replicate 22 undef, defers := [] } [.code gaB]) (cb.at ac (.inRegion opsc (ic :: restc) :: kc) :: cs))) (hL : Leavers Try.prog t gs q) (hP : Past Shun w.heap.size t) :
    ∃ N gs' g w' sl' t' q', runNT Try.prog N (crowd gs w sl) t = (.next (crowd gs' w' sl'), t') ∧ gs'[0]? = some g ∧ AfterN v.heap.size n X vals v cb ac opsc ic restc kc cs g w' ∧ Leavers Try.prog t' gs' q' ∧ Past (fun l => Shun l ∨ OfG v.heap.size l) w'.heap.size t' := by
  obtain ⟨N1, gs1, g1, w1, sl1, t1, q1, r1, s1, h1, ⟨tA, tg, v1, rfl, hA, hg, hl1, e1⟩, hL1, hP1⟩ := goes_beside hX _ _ _ (gatherEnter hM.n1 hM.n5 hcl hl) _ gs w sl t q (atR_refl w) (Nat.le_refl _) h0 hL hP
  have ez : v1.heap.size = v.heap.size := by rw [e1]
  have hw1 : w1.heap.size = v1.heap.size := hl1.size.symm
  obtain ⟨N2, gs2, w2, sl2, t2, q2, r2, s2, h2, hL2, hP2, d2, rfl⟩ := quiet_step (K := fun w' => ∃ d, w' = (w1.at d).alloc (wgBlock lnk.tWg 0 0)) rfl (fun d => ⟨_, al_step rfl w1 d, d, rfl⟩) _ gs1 w1 sl1 t1 q1 (atR_refl w1) (Nat.le_refl _) h1 hL1 hP1
  obtain ⟨N3, gs3, w3, sl3, t3, q3, r3, s3, h3, hL3, hP3, d3, rfl⟩ := quiet_step (K := fun w' => ∃ d, w' = ((w1.at d2).alloc (wgBlock lnk.tWg 0 0)).at d) rfl (fun d => ⟨_, stepG_region_end, d, rfl⟩) _ gs2 _ sl2 t2 q2 (atR_refl _) (Nat.le_refl _) h2 hL2 hP2
  have hb1 : 1 ≤ gs3.size := (Array.getElem?_eq_some_iff.1 h3).1
  obtain ⟨tF, eF, hF⟩ : ∃ tF, Act.put ⟨tA, []⟩ (some 7) (.pointer (some ⟨w1.heap.size, 0, none⟩)) = ⟨tF, []⟩ ∧ FN v1.heap.size n lb lo cl tF := by
    rw [hw1]
    obtain ⟨u3, u4, u5, u6, u7, u8, u9, u10, u11, u12, u13, u14, u15, u16, u17, u18, u19, u20, u21, u22, u23, u24, u25, u26, u27, u28, u29, u30, u31, u32, u33, u34, u35, u36, u37, u38, u39, u40, u41, u42, u43, u44, u45, u46, u47, u48, u49, u50, u51, u52, u53, u54, u55, u56, u57, u58, u59, u60, u61, u62, u63, u64, u65, u66, u67, u68, u69, u70, u71, u72, u73, u74, u75, u76, u77, u78⟩ := hA
    exact ⟨_, rfl, .mk ..⟩
  rw [eF, at2_eq] at h3
  have hlk : Like ((gN v1.heap.size gs3.size n Shun ad len cp).Sd X 0) ((w1.at d2).alloc (wgBlock lnk.tWg 0 0)) (wMN v1) := like_wMN (fun c hc => by rw [ez]; exact hXM c hc) hl1 d2
  have hlk3 : Like ((gN v1.heap.size gs3.size n Shun ad len cp).Sd X 0) (((w1.at d2).alloc (wgBlock lnk.tWg 0 0)).at d3) (wMN v1) := like_at hlk d3
  have hwg : WgAt lnk.tWg v1.heap.size (((w1.at d2).alloc (wgBlock lnk.tWg 0 0)).at d3) 0 0 := by
    show (w1.heap.push _)[v1.heap.size]? = _
    rw [push_new hw1]
  have hM1 : LL v1.heap.size n lb lo ad len cp vals (wMN v1) := by
    rw [ez]
    exact hM.heap fun c hc => by rw [wMN_old v1 (by omega), e1]
  have hP3' : Past Shun v1.heap.size t3 := by rw [← hw1]; exact hP3
  obtain ⟨N4, m4, t4, r4, hD⟩ := groupRunsN (b := gs3.size) hX (fun c hc => by rw [ez]; exact hXM c hc) hb1 hM1 (wMN_size v1) hcl rfl (bA := base 26) rfl hF hlk3 hwg h3 rfl hL3 hP3' (sl := sl3)
  obtain ⟨gs5, w5, sl5, a5, q5, tT, al, v5, rfl, h5, hL5, hP5, hB, hT, hS⟩ := groupDoneN rfl hD
  obtain ⟨m, hG⟩ := gatherExit hM.n5 hg hB hT hS
  obtain ⟨N6, gs6, g6, w6, sl6, t6, q6, r6, s6, h6, ⟨al6, v6, e6, hB6⟩, hL6, hP6⟩ := goes_beside (shunN hX) _ _ _ hG _ gs5 w5 sl5 t4 q5 (atR_refl w5) (Nat.le_refl _) h5 hL5 hP5
  refine ⟨_, gs6, g6, w6, sl6, t6, q6, runNT_then r1 (runNT_then r2 (runNT_then r3 (runNT_then r4 r6))), h6, ?_, hL6, by rw [← ez]; exact hP6⟩
  rw [← ez]
  refine ⟨al6, v6, e6, hB6.like, hB6.row, hB6.size, fun c hc => ?_⟩
  rw [hB6.same c hc, wMN_old v1 hc, e1]
end
end Go.Proofs.Ytcefdleidkmomaa.Mx

/- awake by whoever, beside goroutines that only leave: from its entry to its return. Conditions: each theorem's own. -/
namespace Go.Proofs.Ytcefdleidkmomaa.Mx
open Go.Conc Go.Conc.Lib Br Go.RowKit Hp Rw Ro So
open Go.ConcR (WgAt wgBlock)
open Go.ConcN (sumTo upd sumTo_upd upd_ne upd_same)
theorem allA3 : allN 3 valsA = [(0, 0, 1), (0, 1, 2), (2, 0, 3)] := by rfl
theorem rowA {w : World} {b : Nat} {al : Value} (h : Rw.Row iT w b al (allN 3 valsA)) : Rw.Row iT w b al [(0, 0, 1), (0, 1, 2), (2, 0, 3)] := h
/-- awake's goroutine behind its first line. -/
def AtTailN (H : Nat) (X : Sh) (vM : World) (cs : List Frame) (g : Goroutine) (w : World) : Prop := ∃ al t v, g = G ((base 8).at ⟨t, []⟩ [.code (aw2 awB)]) cs ∧ FW al t ∧ BehindN (H + 3) 3 X valsA vM al w v
/-- awake's three lists. -/
theorem llA {H : Nat} {vI v : World} (hs : vI.heap.size = H) (e : v.heap = ((vI.heap.push (.cells #[.int .i64 1, .int .i64 2] 3)).push (.cells #[.int .i64 3] 3)).push (.cells (rowsA H).toArray 28)) : LL (H + 3) 3 (H + 2) 0 (adA H) lenA lenA valsA v ∧ v.heap.size = H + 3 ∧ ∀ b, b < H → v.heap[b]? = vI.heap[b]? := by
  have hv : v.heap.size = H + 3 := by rw [e]; simp [hs]
  have p0 : Hp.Blk v H [.int .i64 1, .int .i64 2] 3 := by
    show v.heap[H]? = _
    rw [e, push_old (by simp only [Array.size_push]; omega), push_old (by simp only [Array.size_push]; omega), push_new hs]
  have p1 : Hp.Blk v (H + 1) [.int .i64 3] 3 := by
    show v.heap[H + 1]? = _
    rw [e, push_old (by simp only [Array.size_push]; omega), push_new (by simp only [Array.size_push]; omega)]
  have p2 : Hp.Blk v (H + 2) (rowsA H) 28 := by
    show v.heap[H + 2]? = _
    rw [e, push_new (by simp only [Array.size_push]; omega)]
  refine ⟨⟨by omega, by omega, fun k => ?_, fun k hk => ?_, fun k hk => ?_, fun k h => ?_, by omega, fun k hk => ?_, fun k i x hk hx => ?_⟩, hv, fun b hb => ?_⟩
  · unfold lenA
    split
    · omega
    · split <;> omega
  · rcases (show k = 0 ∨ k = 1 ∨ k = 2 by omega) with rfl | rfl | rfl <;> rfl
  · unfold valsA
    rw [if_neg (by omega), if_neg (by omega)]
  · unfold adA at h
    unfold lenA
    by_cases e0 : k = 0
    · simp [e0] at h
    · by_cases e2 : k = 2
      · simp [e0, e2] at h
      · simp [e0, e2]
  · rcases (show k = 0 ∨ k = 1 ∨ k = 2 by omega) with rfl | rfl | rfl <;> exact p2.cell rfl
  · rcases (show k = 0 ∨ k = 1 ∨ k = 2 by omega) with rfl | rfl | rfl
    · have hx' : ([1, 2] : List Int)[i]? = some x := hx
      rcases (show i = 0 ∨ i = 1 ∨ 2 ≤ i by omega) with rfl | rfl | hi
      · obtain rfl : x = 1 := by simpa using hx'.symm
        exact ⟨⟨H, 0, none⟩, rfl, show H < H + 3 by omega, p0.cell rfl⟩
      · obtain rfl : x = 2 := by simpa using hx'.symm
        exact ⟨⟨H, 1, none⟩, by simp [Grp.elems, adA, lenA, Addr.add, List.range, List.range.loop], show H < H + 3 by omega, p0.cell rfl⟩
      · rw [List.getElem?_eq_none (by simp; omega)] at hx'; cases hx'
    · have hx' : ([] : List Int)[i]? = some x := hx
      simp at hx'
    · have hx' : ([3] : List Int)[i]? = some x := hx
      rcases (show i = 0 ∨ 1 ≤ i by omega) with rfl | hi
      · obtain rfl : x = 3 := by simpa using hx'.symm
        exact ⟨⟨H + 1, 0, none⟩, rfl, show H + 1 < H + 3 by omega, p1.cell rfl⟩
      · rw [List.getElem?_eq_none (by simp; omega)] at hx'; cases hx'
  · rw [e, push_old (by simp only [Array.size_push]; omega), push_old (by simp only [Array.size_push]; omega), push_old (by omega)]
section
variable {H : Nat} {X : Sh} {Shun : Loc → Prop} {vM : World} {al : Value} {St : Goroutine → World → Prop} {m : Nat}
set_option maxRecDepth 100000 in
set_option maxHeartbeats 4000000 in
/-- From awake's entry to its call of Gather. -/
theorem awInN {cs : List Frame} {w v : World} (hl : Like (X) w v) (hH : v.heap.size = H) {cB : Code} (hcB : awB = cB)
    (hnext : ∀ tw w' v', FAw tw → Like (X) w' v' → v'.heap = ((v.heap.push (.cells #[.int .i64 1, .int .i64 2] 3)).push (.cells #[.int .i64 3] 3)).push (.cells (rowsA H).toArray 28) →
      SG (X) St m (G ((base 9).at { tmps := #[.slice (some ⟨H + 2, 0, none⟩) 3 3] ++ Array.replicate 22 undef, defers := [] } [.code gaB]) ((base 8).at ⟨tw, []⟩ (.inRegion (aw1 cB) [3, 4] :: [.code (aw2 cB)]) :: cs)) w') :
    SG (X) St (m + 20) (G ((base 8).at { tmps := #[] ++ Array.replicate 79 undef, defers := [] } [.code cB]) cs) w := by
  conv at hcB => lhs; whnf
  subst hcB
  refine SG.le (m := 1 + 2 + ((m + 1) + 1 + 1 + 1 + 1 + 1) + 1) ?_ (by omega)
  refine SG.seq ?_
  show SG (X) St _ (G ((base 8).at ⟨#[undef, undef, undef, undef, undef, undef, undef, undef, undef, undef, undef, undef, undef, undef, undef, undef, undef, undef, undef, undef, undef, undef, undef, undef, undef, undef, undef, undef, undef, undef, undef, undef, undef, undef, undef, undef, undef, undef, undef, undef, undef, undef, undef, undef, undef, undef, undef, undef, undef, undef, undef, undef, undef, undef, undef, undef, undef, undef, undef, undef, undef, undef, undef, undef, undef, undef, undef, undef, undef, undef, undef, undef, undef, undef, undef, undef, undef, undef, undef], []⟩ _) _) w
  refine SG.region (m := (m + 1) + 1 + 1 + 1 + 1 + 1) (R := fun t v' => t = #[.bool false, undef, undef, undef, undef, undef, undef, undef, undef, undef, undef, undef, undef, undef, undef, undef, undef, undef, undef, undef, undef, undef, undef, undef, undef, undef, undef, undef, undef, undef, undef, undef, undef, undef, undef, undef, undef, undef, undef, undef, undef, undef, undef, undef, undef, undef, undef, undef, undef, undef, undef, undef, undef, undef, undef, undef, undef, undef, undef, undef, undef, undef, undef, undef, undef, undef, undef, undef, undef, undef, undef, undef, undef, undef, undef, undef, undef, undef, undef] ∧ v'.heap = v.heap)
    rfl (by kernel_rfl) rfl hl (fun v1 h1 => ?_) (fun a4 w4 v4 hd hl4 hR4 => ?_)
  · have hh := Lib.hid (like_same hl h1)
    clear hl hnext
    go_wp2
    exact hh.out
  obtain ⟨t4, d4⟩ := a4
  obtain rfl : d4 = [] := hd
  obtain ⟨ht, e4⟩ := hR4
  have ht1 : t4 = #[.bool false, undef, undef, undef, undef, undef, undef, undef, undef, undef, undef, undef, undef, undef, undef, undef, undef, undef, undef, undef, undef, undef, undef, undef, undef, undef, undef, undef, undef, undef, undef, undef, undef, undef, undef, undef, undef, undef, undef, undef, undef, undef, undef, undef, undef, undef, undef, undef, undef, undef, undef, undef, undef, undef, undef, undef, undef, undef, undef, undef, undef, undef, undef, undef, undef, undef, undef, undef, undef, undef, undef, undef, undef, undef, undef, undef, undef, undef, undef] := ht
  subst ht1
  clear ht
  refine SG.seq ?_
  refine SG.reg ?_
  refine SG.one (R := fun y v' => y = .slice (some ⟨H, 0, none⟩) 2 2 ∧ v'.heap = v.heap.push (.cells #[.int .i64 1, .int .i64 2] 3)) rfl rfl rfl (by kernel_rfl) hl4 (fun v1 h1 => ⟨_, _, .inl (bs1 v1 _ rfl rfl), ?_⟩) (fun y1 w5 v5 hl5 hR5 => ?_)
  · have e := (like_same hl4 h1).trans e4
    exact ⟨by rw [e, hH], by simp only [World.alloc]; rw [e]⟩
  obtain ⟨rfl, e5⟩ := hR5
  refine SG.one (R := fun y v' => y = .slice (some ⟨H + 1, 0, none⟩) 1 1 ∧ v'.heap = (v.heap.push (.cells #[.int .i64 1, .int .i64 2] 3)).push (.cells #[.int .i64 3] 3)) rfl rfl rfl (by kernel_rfl) hl5 (fun v1 h1 => ⟨_, _, .inl (bs2 v1 _ rfl), ?_⟩) (fun y1 w6 v6 hl6 hR6 => ?_)
  · have e := (like_same hl5 h1).trans e5
    exact ⟨by rw [e, Array.size_push, hH], by simp only [World.alloc]; rw [e]⟩
  obtain ⟨rfl, e6⟩ := hR6
  refine SG.one (R := fun y v' => y = .slice (some ⟨H + 2, 0, none⟩) 3 3 ∧ v'.heap = ((v.heap.push (.cells #[.int .i64 1, .int .i64 2] 3)).push (.cells #[.int .i64 3] 3)).push (.cells (rowsA H).toArray 28)) rfl rfl rfl (by kernel_rfl) hl6 (fun v1 h1 => ⟨_, _, .inl (bs3 v1 _ (a := some ⟨H, 0, none⟩) (b := some ⟨H + 1, 0, none⟩) (n := 2) (m := 1) rfl rfl rfl), ?_⟩) (fun y1 w7 v7 hl7 hR7 => ?_)
  · have e := (like_same hl6 h1).trans e6
    exact ⟨by rw [e, Array.size_push, Array.size_push, hH], by simp only [World.alloc]; rw [e]; rfl⟩
  obtain ⟨rfl, e7⟩ := hR7
  refine SG.call' (f := 9) (vals := #[.slice (some ⟨H + 2, 0, none⟩) 3 3]) rfl rfl rfl rfl Try.func9 (by kernel_rfl) rfl (by simp [Act.eval, Act.put]) ?_
  exact hnext _ w7 v7 (.mk ..) hl7 e7
set_option maxRecDepth 100000 in
set_option maxHeartbeats 4000000 in
theorem awBackN {t : Array Value} (ht : FAw t) {cs : List Frame} {w v : World} (hb : BehindN (H + 3) 3 X valsA vM al w v) {cB : Code} (hcB : awB = cB) :
    SG (DN (H + 3) 3 X) (AtTailN H X vM cs) 2 (G ((base 8).at (Act.put ⟨t, []⟩ (((aw1 cB)[3]?).bind (·.dst)) al) (.inRegion (aw1 cB) [4] :: [.code (aw2 cB)])) cs) w := by
  obtain ⟨u1, u2, u3, u4, u5, u6, u7, u8, u9, u10, u11, u12, u13, u14, u15, u16, u17, u18, u19, u20, u21, u22, u23, u24, u25, u26, u27, u28, u29, u30, u31, u32, u33, u34, u35, u36, u37, u38, u39, u40, u41, u42, u43, u44, u45, u46, u47, u48, u49, u50, u51, u52, u53, u54, u55, u56, u57, u58, u59, u60, u61, u62, u63, u64, u65, u66, u67, u68, u69, u70, u71, u72, u73, u74, u75, u76, u77, u78⟩ := ht
  have hcB' := hcB
  conv at hcB => lhs; whnf
  subst hcB
  refine SG.pure (y := al) rfl rfl rfl (fun w => rfl) ?_
  refine SG.regEnd ?_
  refine SG.stop fun w₁ hr => ⟨al, #[.bool false, al, u2, u3, u4, u5, u6, u7, u8, u9, u10, u11, u12, al, u14, u15, u16, u17, u18, u19, u20, u21, u22, u23, u24, u25, u26, u27, u28, u29, u30, u31, u32, u33, u34, u35, u36, u37, u38, u39, u40, u41, u42, u43, u44, u45, u46, u47, u48, u49, u50, u51, u52, u53, u54, u55, u56, u57, u58, u59, u60, u61, u62, u63, u64, u65, u66, u67, u68, u69, u70, u71, u72, u73, u74, u75, u76, u77, u78], v, ?_, .mk .., hb.at_ hr⟩
  rw [hcB']
  rfl
/-- awake's tail, beside whoever draws. -/
theorem tail_evN {t : Array Value} (ht : FW al t) {cs : List Frame} {w v : World} (hb : BehindN (H + 3) 3 X valsA vM al w v) :
    Ev Try.prog (DN (H + 3) 3 X) cs (StopG Try.prog [] (DN (H + 3) 3 X) (fun f t v' => f = 8 ∧ t.getD 0 undef = .bool true ∧ ∃ v₁, v₁.heap = v.heap ∧ Kept (fun _ => False) v₁ v')) ⟨(base 8).at ⟨t, []⟩ [.code (aw2 awB)], [], w⟩ := by
  refine ev_gates Mo.noEarly Mo.funs (br := (base 8).at ⟨t, []⟩ [.code (aw2 awB)]) (bg := (base 8).at ⟨t, []⟩ [.code (aw2 awB)]) ?_ hb.like ?_
  · exact ⟨rfl, rfl, rfl, rfl, rfl, rfl, rfl, rfl, rfl, .code (.same (okCode_ok awOk)) .nil⟩
  · intro v1 h1
    have hh := like_same hb.like h1
    obtain ⟨N, fr, v', h1, h2, h3, h4⟩ := lone_of_wp (b := base 8) (R := fun f t v' => (f = 8 ∧ t.getD 0 undef = .bool true) ∧ Kept (fun _ => False) v1 v') (Code.wp_mono (fun e a' w' h => ⟨h.1, ⟨rfl, h.2.2.1⟩, h.2.2.2⟩) (tail_wp rfl v1 (rowA (row_heap hb.row hh)) ht))
    exact ⟨N, fr, v', h1, h2, h3.1, h3.2, v1, hh, h4⟩
/-- From awake's tail to its return. -/
theorem tailLandsN (hX : ShunIn X Shun) {cs : List Frame} {gs : Array Goroutine} {g : Goroutine} {w : World} {sl : Option (Nat × Nat)} {t : Trace} {q : Nat → Nat} (h0 : gs[0]? = some g) (hS : AtTailN H X vM cs g w) (hL : Leavers Try.prog t gs q) (hP : Past (fun l => Shun l ∨ OfG (H + 3) l) w.heap.size t) :
    Lands Try.prog (fun l => Shun l ∨ OfG (H + 3) l) (AtRet (DN (H + 3) 3 X) (fun v => H + 20 ≤ v.heap.size ∧ ∀ b, b < H + 3 → v.heap[b]? = vM.heap[b]?) cs) gs w sl t := by
  obtain ⟨al, tt, v, rfl, ht, hb⟩ := hS
  obtain ⟨N, gs', y, sl', t', q', hr, hs, h0', hSt, hL', hP'⟩ := ev_beside (shunN hX) (fun x d h => stopG_at x d h) (tail_evN ht hb) _ gs w sl t q ⟨w.drawn, rfl⟩ (Nat.le_refl _) h0 hL hP
  refine ⟨N, gs', _, y.w, sl', t', q', hr, hs, h0', ?_, hL', hP'⟩
  obtain ⟨s1, s2, s3, s4, s5⟩ := hSt
  rcases s5 with ⟨s5, v', hl, e1, e2, v1, e3, k⟩ | ⟨_, ops, i, kk, hm, _⟩
  · refine ⟨y.fr, v', by rw [s1]; rfl, s2, s3, s4, s5, e1, e2, hl, ?_, fun b hb' => ?_⟩
    · have := k.size
      rw [e3] at this
      have := hb.size
      omega
    · rw [k.block b (by rw [e3]; have := hb.size; omega) (fun f => f), e3]
      exact hb.same b hb'
  · cases hm
/-- awake's goroutine at its call of Gather. -/
def AtGa (H : Nat) (X : Sh) (hp : Array Obj) (cs : List Frame) (g : Goroutine) (w : World) : Prop :=
  ∃ tw v, g = G ((base 9).at { tmps := #[.slice (some ⟨H + 2, 0, none⟩) 3 3] ++ Array.replicate 22 undef, defers := [] } [.code gaB]) ((base 8).at ⟨tw, []⟩ (.inRegion (aw1 awB) [3, 4] :: [.code (aw2 awB)]) :: cs) ∧ FAw tw ∧ Like X w v ∧ v.heap = ((hp.push (.cells #[.int .i64 1, .int .i64 2] 3)).push (.cells #[.int .i64 3] 3)).push (.cells (rowsA H).toArray 28)
/-- awake, carried out from its entry. -/
theorem awakeLandsN {cs : List Frame} {gs : Array Goroutine} {w v : World} {sl : Option (Nat × Nat)} {t : Trace} {q : Nat → Nat} (hX : ShunIn X Shun) (hXM : ∀ c, X c → c < v.heap.size) (hl : Like X w v) (h0 : gs[0]? = some (G ((base 8).at { tmps := #[] ++ Array.replicate 79 undef, defers := [] } [.code awB]) cs)) (hL : Leavers Try.prog t gs q) (hP : Past Shun w.heap.size t) :
    ∃ N gs' g w' sl' t' q', runNT Try.prog N (crowd gs w sl) t = (.next (crowd gs' w' sl'), t') ∧ gs'[0]? = some g ∧ AtRet (DN (v.heap.size + 3) 3 X) (fun v' => v.heap.size + 20 ≤ v'.heap.size ∧ ∀ b, b < v.heap.size → v'.heap[b]? = v.heap[b]?) cs g w' ∧ Leavers Try.prog t' gs' q' ∧ Past (fun l => Shun l ∨ OfG (v.heap.size + 3) l) w'.heap.size t' := by
  have hin : SG X (AtGa v.heap.size X v.heap cs) (0 + 20) (G ((base 8).at { tmps := #[] ++ Array.replicate 79 undef, defers := [] } [.code awB]) cs) w :=
    awInN hl rfl rfl fun tw w1 v1 hw hl1 e1 => SG.stop fun w₁ hr => ⟨tw, v1, rfl, hw, (like_atR hr hl1).1, e1⟩
  obtain ⟨N1, gs1, g1, w1, sl1, t1, q1, r1, s1, h1, ⟨tw, v1, rfl, hw, hl1, e1⟩, hL1, hP1⟩ := goes_beside hX _ _ _ hin _ gs w sl t q (atR_refl w) (Nat.le_refl _) h0 hL hP
  generalize hH : v.heap.size = H at *
  obtain ⟨hM, hz, ho⟩ := llA hH e1
  obtain ⟨N2, gs2, g2, w2, sl2, t2, q2, r2, h2, ⟨al, v2, rfl, hB⟩, hL2, hP2⟩ := gatherLands (sl := sl1) hX (fun c hc => by rw [hz]; have := hXM c hc; omega) (by rw [hz]; exact hM) (Nat.le_refl 3) hl1 h1 hL1 hP1
  rw [hz] at hB hP2
  obtain ⟨N3, gs3, g3, w3, sl3, t3, q3, r3, s3, h3, hS3, hL3, hP3⟩ := goes_beside (shunN hX) _ _ _ (awBackN hw hB rfl) _ gs2 w2 sl2 t2 q2 (atR_refl w2) (Nat.le_refl _) h2 hL2 hP2
  obtain ⟨N7, gs7, g7, w7, sl7, t7, q7, r7, s7, h7, hS7, hL7, hP7⟩ := tailLandsN hX (sl := sl3) h3 hS3 hL3 hP3
  obtain ⟨fr, v7, x1, x2, x3, x4, x5, x6, x7, x8, x9, x10⟩ := hS7
  refine ⟨_, gs7, g7, w7, sl7, t7, q7, runNT_then r1 (runNT_then r2 (runNT_then r3 r7)), h7, ⟨fr, v7, x1, x2, x3, x4, x5, x6, x7, x8, x9, fun b hb => ?_⟩, hL7, hP7⟩
  rw [x10 b (by omega)]
  exact ho b hb
end
end Go.Proofs.Ytcefdleidkmomaa.Mx

/- Walks of goroutine 0 beside goroutines that only leave, one behind the other; a function whole, by its walk alone; a call of it. Conditions: each theorem's own. -/
namespace Go.Proofs.Ytcefdleidkmomaa.Mx
open Go.Conc Go.Conc.Lib Br Go.RowKit Hp Rw Ro So
/-- Goroutine 0, standing so, comes to where St holds, whatever machine it stands in. -/
def Walks (Shun Shun' : Loc → Prop) (St : Goroutine → World → Prop) (g : Goroutine) (w : World) : Prop :=
  ∀ (gs : Array Goroutine) (sl : Option (Nat × Nat)) (t : Trace) (q : Nat → Nat), gs[0]? = some g → Leavers Try.prog t gs q → Past Shun w.heap.size t →
    ∃ N gs' g' w' sl' t' q', runNT Try.prog N (crowd gs w sl) t = (.next (crowd gs' w' sl'), t') ∧ gs'[0]? = some g' ∧ St g' w' ∧ Leavers Try.prog t' gs' q' ∧ Past Shun' w'.heap.size t'
theorem Walks.here {Shun : Loc → Prop} {St : Goroutine → World → Prop} {g : Goroutine} {w : World} (h : St g w) : Walks Shun Shun St g w :=
  fun gs sl t q h0 hL hP => ⟨0, gs, g, w, sl, t, q, rfl, h0, h, hL, hP⟩
theorem Walks.then {Shun Shun' Shun'' : Loc → Prop} {St St' : Goroutine → World → Prop} {g : Goroutine} {w : World} (h : Walks Shun Shun' St g w) (k : ∀ g w, St g w → Walks Shun' Shun'' St' g w) : Walks Shun Shun'' St' g w := by
  intro gs sl t q h0 hL hP
  obtain ⟨N, gs', g', w', sl', t', q', r, h0', hS, hL', hP'⟩ := h gs sl t q h0 hL hP
  obtain ⟨N2, gs2, g2, w2, sl2, t2, q2, r2, h02, hS2, hL2, hP2⟩ := k g' w' hS gs' sl' t' q' h0' hL' hP'
  exact ⟨N + N2, gs2, g2, w2, sl2, t2, q2, runNT_then r r2, h02, hS2, hL2, hP2⟩
section
variable {S : Sh} {Shun : Loc → Prop} {St : Goroutine → World → Prop} {m : Nat} {w v : World} {b : Frame} {a : Act} {k : List Item} {cs : List Frame} {ops : Array Oper} {i : Nat} {rest : List Nat}
theorem Walks.sg (hX : ShunIn S Shun) {g : Goroutine} (h : SG S St m g w) : Walks Shun Shun St g w := by
  intro gs sl t q h0 hL hP
  obtain ⟨N1, gs1, g1, w1, sl1, t1, q1, r1, s1, h1, hS, hL1, hP1⟩ := goes_beside hX _ _ _ h _ gs w sl t q (atR_refl w) (Nat.le_refl _) h0 hL hP
  exact ⟨N1, gs1, g1, w1, sl1, t1, q1, r1, h1, hS, hL1, hP1⟩
/-- A function's goroutine at its return. -/
def AtEnd (S : Sh) (f : FuncId) (cs : List Frame) (R : Array Value → World → Prop) (g : Goroutine) (w : World) : Prop :=
  ∃ (b : Frame) (t : Array Value) (k : List Item) (v : World), g = G { b.at ⟨t, []⟩ k with mode := .returning } cs ∧ b.kind = .normal ∧ b.fn = f ∧ R t v ∧ Like S w v
theorem fr_retG {fr : Frame} (h1 : fr.defers = []) (h2 : fr.roundOf = none) (h3 : fr.mode = .returning) : fr = { fr.at ⟨fr.tmps, []⟩ fr.todo with mode := .returning } := by
  cases fr
  simp only at h1 h2 h3
  subst h1 h2 h3
  rfl
/-- A text whole, from where it begins in its frame, by its walk alone. -/
theorem walks_code {F : List FuncId} (hF : ∀ f ∈ F, FunOk Try.prog F f) (hX : ShunIn S Shun) {f : FuncId} {c : Code} (hok : okCode Try.prog F c = true) {t : Array Value} (hl : Like S w v) {R : Array Value → World → Prop}
    (hlone : ∀ v, Like S w v → c.wp Try.prog (fun e a' w' => (e = .ret ∨ e = .normal) ∧ R a'.tmps w') ⟨t, []⟩ v) : Walks Shun Shun (AtEnd S f cs R) (G ((base f).at ⟨t, []⟩ [.code c]) cs) w := by
  intro gs sl t0 q h0 hL hP
  have hev : Ev Try.prog S cs (StopG Try.prog [] S (fun f' t v' => f' = f ∧ R t v')) ⟨(base f).at ⟨t, []⟩ [.code c], [], w⟩ := by
    refine ev_gates Mo.noEarly hF (br := (base f).at ⟨t, []⟩ [.code c]) (bg := (base f).at ⟨t, []⟩ [.code c]) ?_ hl ?_
    · exact ⟨rfl, rfl, rfl, rfl, rfl, rfl, rfl, rfl, rfl, .code (.same (okCode_ok hok)) .nil⟩
    · intro v1 h1
      obtain ⟨N, fr, v', h1, h2, h3⟩ := lone_of_wp (b := base f) (R := fun f' t v' => f' = f ∧ R t v') (Code.wp_mono (fun e a' w' h => ⟨h.1, rfl, h.2⟩) (hlone v1 h1))
      exact ⟨N, fr, v', h1, h2, h3⟩
  obtain ⟨N, gs', y, sl', t', q', hr, hs, h0', hSt, hL', hP'⟩ := ev_beside hX (fun x d h => stopG_at x d h) hev _ gs w sl t0 q ⟨w.drawn, rfl⟩ (Nat.le_refl _) h0 hL hP
  obtain ⟨s1, s2, s3, s4, s5⟩ := hSt
  rw [s1] at h0'
  refine ⟨N, gs', _, y.w, sl', t', q', hr, h0', ?_, hL', hP'⟩
  rcases s5 with ⟨s5, v', hl', e1, e2⟩ | ⟨_, ops, i, kk, hm, _⟩
  · refine ⟨y.fr, y.fr.tmps, y.fr.todo, v', ?_, s3, e1, e2, hl'⟩
    rw [← fr_retG s2 s4 s5]; rfl
  · cases hm
/-- A call of a function, by its walk alone. -/
theorem walks_call {F : List FuncId} (hF : ∀ f ∈ F, FunOk Try.prog F f) (hX : ShunIn S Shun) {o : Oper} {f : FuncId} {fn : Func} {c : Code} {args : Array Operand} {ats : Array TypeId} {vals : Array Value} {x : Tmp} (ho : ops[i]? = some o) (hw : Region.wanted o (yielded ops a.tmps) = true) (hb : b.kind = .normal) (hop : o.op = .call { callee := .value (.func f), args, argTypes := ats })
    (hf : Try.prog.funcs[f]? = some fn) (hname : (fn.name == "runtime.NumGoroutine") = false) (hc : fn.body = some c) (hv : args.map a.eval = vals) (hres : fn.results = #[.tmp x]) (hok : okCode Try.prog F c = true) (hl : Like S w v) {R : Value → World → Prop}
    (hlone : ∀ v, Like S w v → c.wp Try.prog (fun e a' w' => (e = .ret ∨ e = .normal) ∧ R (a'.tmps.getD x undef) w') { tmps := vals ++ Array.replicate (fn.ntmps - vals.size) undef, defers := [] } v) :
    Walks Shun Shun (fun g w' => ∃ y v', g = G (b.at (a.put ((ops[i]?).bind (·.dst)) y) (.inRegion ops rest :: k)) cs ∧ Like S w' v' ∧ R y v') (G (b.at a (.inRegion ops (i :: rest) :: k)) cs) w := by
  refine (Walks.sg hX (m := 0 + 1) (St := fun g w' => ∃ v', g = G ((base f).at { tmps := vals ++ Array.replicate (fn.ntmps - vals.size) undef, defers := [] } [.code c]) (b.at a (.inRegion ops (i :: rest) :: k) :: cs) ∧ AtR w w' ∧ Like S w' v') ?_).then ?_
  · refine SG.call' ho hw hb hop hf hname hc hv ?_
    exact SG.stop fun w₁ hr => ⟨v, rfl, hr, (like_atR hr hl).1⟩
  rintro g w1 ⟨v1, rfl, hr1, hl1⟩
  refine (walks_code hF hX (f := f) (R := fun t v' => R (t.getD x undef) v') hok hl1 fun v2 h2 => hlone v2 ?_).then ?_
  · obtain ⟨d, rfl⟩ := hr1
    exact like_at h2 w.drawn
  rintro g w2 ⟨b2, t2, k2, v2, rfl, hk2, hf2, hR2, hl2⟩
  refine Walks.sg hX (m := 0 + 1) ?_
  refine SG.leave1 (t := x) hk2 rfl (by rw [hf2]; exact hf) hres ?_
  exact SG.stop fun w₁ hr => ⟨_, v2, rfl, (like_atR hr hl2).1, hR2⟩
end
end Go.Proofs.Ytcefdleidkmomaa.Mx

/- First of boxes of ints, Drain. Conditions: each theorem's own. -/
namespace Go.Proofs.Ytcefdleidkmomaa.Mo
open Go.Conc Go.RowKit Hp
/-- A box that has nothing. -/
def Emp (x : Value) (w : World) : Prop := Calls Try.prog 15 #[x] w fun e w' => e = .returned (.tuple #[.int .i64 0, .bool false]) ∧ w = w'
theorem first_none {w : World} {g cap : Nat} {hs : List Value} (h : ∀ (j : Nat) (x : Value), hs[j]? = some x → w.cell? ⟨g, j, none⟩ = some x ∧ Emp x w) (hl : hs.length ≤ 1000) :
    Calls Try.prog 18 #[.slice (some ⟨g, 0, none⟩) hs.length cap] w fun e w' => e = .returned (.tuple #[.int .i64 (-1), .int .i64 0, .bool false]) ∧ w = w' := by
  have HH := Lib.hid h
  clear h
  generalize hn : hs.length = n at *
  have HN := Lib.hid hn
  clear hn
  go_enter Try.func18, Try.ntmps18
  go_wp2_with fail
  go_loopg [3, 9] n (fun kx s3 s9 wr => ∃ (i : Nat), Hid (n - i ≤ kx) ∧ i ≤ n ∧ s9 = .int .i64 (i : Nat) ∧ s3 = .int .i64 0 ∧ w = wr)
  case atStart => exact ⟨0, Lib.hid (by omega), by omega, rfl, rfl, rfl⟩
  case round =>
    obtain ⟨i, hm, hi, rfl, rfl, rfl⟩ := hrel
    rcases Nat.lt_or_ge i n with hlt | hge
    · obtain ⟨x, hx⟩ : ∃ x, hs[i]? = some x := ⟨_, List.getElem?_eq_getElem (by rw [HN.out]; exact hlt)⟩
      obtain ⟨hc, hE⟩ := HH.out i x hx
      unfold Emp at hE
      have HE := Lib.hid hE
      clear hE hx
      go_wp2_with (go_at_call 15; (with_reducible refine Calls.mono HE.out ?_); rintro e w2 ⟨rfl, rfl⟩)
      go_roundg (n - (i + 1))
      case measure => have := hm.out; omega
      case rel => exact ⟨i + 1, Lib.hid (Nat.le_refl _), by omega, by go_num, rfl, rfl⟩
    · obtain rfl : i = n := by omega
      go_wp2_with fail
      go_ret3
      exact ⟨rfl, rfl⟩
theorem first_some {w : World} {g cap : Nat} {hs : List Value} {k : Nat} {y : Value} {v : Int} {R : World → Prop} (h : ∀ (j : Nat) (x : Value), j < k → hs[j]? = some x → w.cell? ⟨g, j, none⟩ = some x ∧ Emp x w) (hk : hs[k]? = some y) (hc : w.cell? ⟨g, k, none⟩ = some y)
    (hy : Calls Try.prog 15 #[y] w fun e w' => e = .returned (.tuple #[.int .i64 v, .bool true]) ∧ R w') (hl : hs.length ≤ 1000) :
    Calls Try.prog 18 #[.slice (some ⟨g, 0, none⟩) hs.length cap] w fun e w' => e = .returned (.tuple #[.int .i64 (k : Nat), .int .i64 v, .bool true]) ∧ R w' := by
  have hkn : k < hs.length := by
    rcases Nat.lt_or_ge k hs.length with h' | h'
    · exact h'
    · rw [List.getElem?_eq_none h'] at hk; cases hk
  have HH := Lib.hid h
  have HY := Lib.hid hy
  clear h hy hk
  generalize hn : hs.length = n at *
  have HN := Lib.hid hn
  clear hn
  go_enter Try.func18, Try.ntmps18
  go_wp2_with fail
  go_loopg [9] n (fun kx s9 wr => ∃ (i : Nat), Hid (n - i ≤ kx) ∧ i ≤ k ∧ s9 = .int .i64 (i : Nat) ∧ w = wr)
  case atStart => exact ⟨0, Lib.hid (by omega), by omega, rfl, rfl⟩
  case round =>
    obtain ⟨i, hm, hi, rfl, rfl⟩ := hrel
    have hin : i < n := by omega
    rcases Nat.lt_or_ge i k with hlt | hge
    · obtain ⟨x, hx⟩ : ∃ x, hs[i]? = some x := ⟨_, List.getElem?_eq_getElem (by rw [HN.out]; exact hin)⟩
      obtain ⟨hc2, hE⟩ := HH.out i x hlt hx
      unfold Emp at hE
      have HE := Lib.hid hE
      clear hE hx hc
      go_wp2_with (go_at_call 15; (with_reducible refine Calls.mono HE.out ?_); rintro e w2 ⟨rfl, rfl⟩)
      go_roundg (n - (i + 1))
      case measure => have := hm.out; omega
      case rel => exact ⟨i + 1, Lib.hid (Nat.le_refl _), by omega, by go_num, rfl⟩
    · obtain rfl : i = k := by omega
      go_wp2_with (go_at_call 15; (with_reducible refine Calls.mono HY.out ?_); rintro e w2 ⟨rfl, hR⟩)
      go_ret3
      exact ⟨rfl, hR⟩
theorem drain_none {x : Value} {w : World} (h : Emp x w) (n : Int) (h0 : 0 < n) : Calls Try.prog 17 #[x, .int .i64 n] w fun e w' => e = .returned (.slice none 0 0) ∧ w = w' := by
  unfold Emp at h
  have HE := Lib.hid h
  clear h
  go_enter Try.func17, Try.ntmps17
  go_wp2_with fail
  go_loopg [5, 9] 0 (fun kx s5 s9 wr => s5 = .slice none 0 0 ∧ s9 = .int .i64 0 ∧ w = wr)
  case atStart => exact ⟨rfl, rfl, rfl⟩
  case round =>
    obtain ⟨rfl, rfl, rfl⟩ := hrel
    go_wp2_with (go_at_call 15; (with_reducible refine Calls.mono HE.out ?_); rintro e w2 ⟨rfl, rfl⟩)
    go_ret
    exact ⟨rfl, rfl⟩
end Go.Proofs.Ytcefdleidkmomaa.Mo

/- A law's end where what is known of the world is that all that was there is as it was. Conditions: each theorem's own. -/
namespace Go.Proofs.Ytcefdleidkmomaa.End
open Go.RowKit Go.WideShapes Go.ChangeShapes Hp
/-- Nothing that was there has turned. -/
def Old (W W' : World) : Prop := Kept (fun _ => False) W W'
theorem Old.below {W W' : World} (h : Old W W') : Below W.heap.size W W' := ⟨h.os, h.tape, h.output, h.size, fun k hk => h.block k hk (fun f => f)⟩
theorem Old.refl (W : World) : Old W W := Kept.refl _ W
section
variable {H : Type} {enc : TypeId × Value → H} {P : Program} {f : Func} {s : ChangeSpec} {apart fresh handsOn again : Bool} {W W' : World} {args : Array Value} {v : Value} {ds gs : List (DataW H)} {pa pv : List MemPlace}
theorem post_of_old (hW : DataW.Whole enc P f.params.toList s.vars apart W args.toList ds gs (pa ++ pv))
    (hres : ∀ (b : Nat) (sp : Nat → Bool) (hd : Bool), DataW.TrodAll enc P W' b sp hd f.resultTypes.toList (v.resultList f.resultTypes.size) (s.fn H (ds ++ gs)).results [])
    (hargs : ∀ sp : Nat → Bool, (∀ p ∈ pa ++ pv, sp p.block = true) → DataW.TrodAll enc P W' 0 sp true f.params.toList args.toList (s.fn H (ds ++ gs)).args pa)
    (hvars : ∀ sp : Nat → Bool, (∀ p ∈ pa ++ pv, sp p.block = true) → DataW.TrodVars enc P W' sp s.vars (s.fn H (ds ++ gs)).vars pv)
    (hb : Old W W')
    (hok : ∀ (j : Nat) (t : TypeId) (r : Value), f.resultTypes[j]? = some t → (v.resultList f.resultTypes.size)[j]? = some r → Value.okWide P W' .any 0 t r) :
    s.post enc P f apart fresh handsOn again W args v W' := by
  have B := hb.below
  have old : ∀ p ∈ pa ++ pv, p.block < W.heap.size := fun p hp => hW.lt p hp
  have inOld : ∀ p ∈ pa ++ pv, (fun b => decide (b < W.heap.size)) p.block = true := fun p hp => by simp [old p hp]
  have all : ∀ p ∈ pa ++ pv, (fun _ : Nat => true) p.block = true := fun _ _ => rfl
  obtain ⟨_, _, _, _, _, hz, hn⟩ := id hW
  refine ⟨ds, gs, pa ++ pv, [], pa, pv, hW, hres _ _ _, hargs _ inOld, hvars _ inOld, World.keptBut_mono (fun p hp => ⟨hp, Or.inr (List.mem_append.1 hp)⟩) (B.frame _), fun _ => ⟨hok, _, _, [] ++ pa ++ pv, ⟨[] ++ pa, pv, trodAll_append (hargs _ all) (hres _ _ _), hvars _ all, rfl, ?_, ?_⟩, ?_⟩⟩
  · intro b off hp
    have hp' : MemPlace.cell b off ∈ pa ++ pv := by simpa using hp
    exact (B.frozen (p := ⟨b, off, none⟩) (old _ hp')).trans (hz b off hp')
  · intro ha; simpa using hn ha
  · intro p hp _; simpa using hp
end
end Go.Proofs.Ytcefdleidkmomaa.End

/- Two boxes of ints beside each other, made one behind the other. Conditions: each theorem's own. -/
namespace Go.Proofs.Ytcefdleidkmomaa.Mo
open Go.Conc Go.RowKit Hp Go.Proofs.Ytcefdleidkmomaa.End
/-- Two boxes, made in a world of N blocks: what lies in each; all that was there is as it was. -/
structure Two (w : World) (room : Nat) (xs ys : List Int) (wi : World) : Prop where
  x : ∃ ps, Bx wi (w.heap.size + 1) w.heap.size room ps xs
  y : ∃ ps, Bx wi (w.heap.size + 3) (w.heap.size + 2) room ps ys
  old : Old w wi
theorem Bx.other {w w' : World} {b c room : Nat} {ps : List Nat} {vs : List Int} (h : Bx w b c room ps vs) {b' c' room' : Nat} {ps' : List Nat} {vs' : List Int} (h' : Bx w b' c' room' ps' vs') (hc : c ≠ c') (k : Kept (fun i => i = c') w w') : Bx w' b c room ps vs := by
  obtain ⟨s, r, h2⟩ := h'.chan
  exact h.kept (r' := 0) h2 (fun l T z => by simp) (fun e => hc e.symm) k
theorem Bx.quiet {w w' : World} {b c room : Nat} {ps : List Nat} {vs : List Int} (h : Bx w b c room ps vs) (k : Kept (fun _ => False) w w') : Bx w' b c room ps vs := by
  obtain ⟨s, r, h2⟩ := h.chan
  exact ⟨k.blk h.box (fun f => f), ⟨s, r, (k.block c h.lt (fun f => f)).trans h2⟩, h.len, fun i p v h3 h4 => k.blk (h.cells i p v h3 h4) (fun f => f)⟩
theorem Two.quiet {w wi w' : World} {room : Nat} {xs ys : List Int} (h : Two w room xs ys wi) (k : Kept (fun _ => False) wi w') : Two w room xs ys w' := by
  obtain ⟨ps, hx⟩ := h.x
  obtain ⟨qs, hy⟩ := h.y
  exact ⟨⟨ps, hx.quiet k⟩, ⟨qs, hy.quiet k⟩, h.old.trans k⟩
def push (room : Nat) (xs : List Int) (v : Int) : List Int := if xs.length < room then xs ++ [v] else xs
theorem push_take {room : Nat} {l : List Int} {i : Nat} {v : Int} (h : l[i]? = some v) : push room ((l.take i).take room) v = (l.take (i + 1)).take room := by
  have hi : i < l.length := by
    rcases Nat.lt_or_ge i l.length with h' | h'
    · exact h'
    · rw [List.getElem?_eq_none h'] at h; cases h
  unfold push
  rw [List.take_add_one, h, Option.toList_some]
  split
  · next hl =>
    rw [List.length_take, List.length_take] at hl
    have e1 : (l.take i).take room = l.take i := List.take_of_length_le (by rw [List.length_take]; omega)
    have e2 : (l.take i ++ [v]).take room = l.take i ++ [v] := List.take_of_length_le (by rw [List.length_append, List.length_take, List.length_singleton]; omega)
    rw [e1, e2]
  · next hl =>
    rw [List.length_take, List.length_take] at hl
    rw [List.take_append_of_le_length (by rw [List.length_take]; omega)]
theorem drop_take_some {l : List Int} {n i : Nat} {x : Int} (h : l[i]? = some x) (hi : i < n) : (l.take n).drop i = x :: (l.take n).drop (i + 1) := by
  obtain ⟨hl, rfl⟩ := List.getElem?_eq_some_iff.1 h
  rw [List.drop_eq_getElem_cons (by rw [List.length_take]; omega), List.getElem_take]
theorem two_ox {w wi : World} {room : Nat} {xs ys : List Int} (h : Two w room xs ys wi) (v : Int) : Calls Try.prog 14 #[ptr (w.heap.size + 1), .int .i64 v] wi fun e w' => (∃ t, e = .returned (.bool t)) ∧ Two w room (push room xs v) ys w' := by
  obtain ⟨ps, hx⟩ := h.x
  obtain ⟨qs, hy⟩ := h.y
  unfold push
  split
  · next hl =>
    refine Calls.mono (offer_room hx hl v) ?_
    rintro e w' ⟨rfl, hb, hk⟩
    exact ⟨⟨_, rfl⟩, ⟨_, hb⟩, ⟨qs, hy.other hx (by omega) hk⟩, h.old.trans' hk (fun i hi e => absurd (e ▸ hi) (by omega))⟩
  · next hl =>
    refine Calls.mono (offer_full hx (by omega) v) ?_
    rintro e w' ⟨rfl, hk⟩
    exact ⟨⟨_, rfl⟩, h.quiet hk⟩
theorem two_oy {w wi : World} {room : Nat} {xs ys : List Int} (h : Two w room xs ys wi) (v : Int) : Calls Try.prog 14 #[ptr (w.heap.size + 3), .int .i64 v] wi fun e w' => (∃ t, e = .returned (.bool t)) ∧ Two w room xs (push room ys v) w' := by
  obtain ⟨ps, hx⟩ := h.x
  obtain ⟨qs, hy⟩ := h.y
  unfold push
  split
  · next hl =>
    refine Calls.mono (offer_room hy hl v) ?_
    rintro e w' ⟨rfl, hb, hk⟩
    exact ⟨⟨_, rfl⟩, ⟨ps, hx.other hy (by omega) hk⟩, ⟨_, hb⟩, h.old.trans' hk (fun i hi e => absurd (e ▸ hi) (by omega))⟩
  · next hl =>
    refine Calls.mono (offer_full hy (by omega) v) ?_
    rintro e w' ⟨rfl, hk⟩
    exact ⟨⟨_, rfl⟩, h.quiet hk⟩
theorem emp_nil (w : World) : Emp (.pointer none) w := take_nil w
theorem emp_x {w wi : World} {room : Nat} {ys : List Int} (h : Two w room [] ys wi) : Emp (ptr (w.heap.size + 1)) wi := by
  obtain ⟨ps, hx⟩ := h.x
  obtain rfl : ps = [] := by have := hx.len; simpa using this
  exact take_empty hx
theorem emp_y {w wi : World} {room : Nat} {xs : List Int} (h : Two w room xs [] wi) : Emp (ptr (w.heap.size + 3)) wi := by
  obtain ⟨ps, hx⟩ := h.y
  obtain rfl : ps = [] := by have := hx.len; simpa using this
  exact take_empty hx
/-- First of the first box. -/
theorem two_fx {w wi : World} {room : Nat} {v : Int} {xs ys : List Int} (h : Two w room (v :: xs) ys wi) {g cap : Nat} (hg : Blk wi g [ptr (w.heap.size + 1), .pointer none, ptr (w.heap.size + 3)] 35) :
    Calls Try.prog 18 #[.slice (some ⟨g, 0, none⟩) 3 cap] wi fun e w' => e = .returned (.tuple #[.int .i64 0, .int .i64 v, .bool true]) ∧ Two w room xs ys w' := by
  obtain ⟨ps, hx⟩ := h.x
  obtain ⟨qs, hy⟩ := h.y
  obtain ⟨p, ps, rfl⟩ : ∃ p ps', ps = p :: ps' := by
    cases ps with
    | nil => have := hx.len; simp at this
    | cons p ps => exact ⟨p, ps, rfl⟩
  refine first_some (k := 0) (hs := [ptr (w.heap.size + 1), .pointer none, ptr (w.heap.size + 3)]) (fun j x hj _ => absurd hj (by omega)) rfl (hg.cell rfl) ?_ (by simp)
  refine Calls.mono (take_first hx) ?_
  rintro e w' ⟨rfl, hb, hk⟩
  exact ⟨rfl, ⟨_, hb⟩, ⟨qs, hy.other hx (by omega) hk⟩, h.old.trans' hk (fun i hi e => absurd (e ▸ hi) (by omega))⟩
/-- First of the second box; the first is empty. -/
theorem two_fy {w wi : World} {room : Nat} {v : Int} {ys : List Int} (h : Two w room [] (v :: ys) wi) {g cap : Nat} (hg : Blk wi g [ptr (w.heap.size + 1), .pointer none, ptr (w.heap.size + 3)] 35) :
    Calls Try.prog 18 #[.slice (some ⟨g, 0, none⟩) 3 cap] wi fun e w' => e = .returned (.tuple #[.int .i64 2, .int .i64 v, .bool true]) ∧ Two w room [] ys w' := by
  have he := emp_x h
  obtain ⟨ps, hx⟩ := h.x
  obtain ⟨qs, hy⟩ := h.y
  obtain ⟨q, qs, rfl⟩ : ∃ p ps', qs = p :: ps' := by
    cases qs with
    | nil => have := hy.len; simp at this
    | cons p ps => exact ⟨p, ps, rfl⟩
  refine first_some (k := 2) (hs := [ptr (w.heap.size + 1), .pointer none, ptr (w.heap.size + 3)]) (fun j x hj hx => ?_) rfl (hg.cell rfl) ?_ (by simp)
  · rcases j with _ | _ | j
    · simp at hx; subst hx; exact ⟨hg.cell rfl, he⟩
    · simp at hx; subst hx; exact ⟨hg.cell rfl, emp_nil wi⟩
    · omega
  refine Calls.mono (take_first hy) ?_
  rintro e w' ⟨rfl, hb, hk⟩
  exact ⟨rfl, ⟨ps, hx.other hy (by omega) hk⟩, ⟨_, hb⟩, h.old.trans' hk (fun i hi e => absurd (e ▸ hi) (by omega))⟩
theorem two_f0 {w wi : World} {room : Nat} (h : Two w room [] [] wi) {g cap : Nat} (hg : Blk wi g [ptr (w.heap.size + 1), ptr (w.heap.size + 3)] 35) :
    Calls Try.prog 18 #[.slice (some ⟨g, 0, none⟩) 2 cap] wi fun e w' => e = .returned (.tuple #[.int .i64 (-1), .int .i64 0, .bool false]) ∧ wi = w' := by
  refine first_none (hs := [ptr (w.heap.size + 1), ptr (w.heap.size + 3)]) (fun j x hx => ?_) (by simp)
  rcases j with _ | _ | j
  · simp at hx; subst hx; exact ⟨hg.cell rfl, emp_x h⟩
  · simp at hx; subst hx; exact ⟨hg.cell rfl, emp_y h⟩
  · simp at hx
theorem two_new {w w1 : World} {room : Nat} (h1 : Bx w1 (w.heap.size + 1) w.heap.size room [] []) (k1 : Kept (fun _ => False) w w1) (s1 : w1.heap.size = w.heap.size + 2) {w2 : World} (h2 : Bx w2 (w1.heap.size + 1) w1.heap.size room [] []) (k2 : Kept (fun _ => False) w1 w2) : Two w room [] [] w2 := by
  rw [s1] at h2
  exact ⟨⟨[], h1.quiet k2⟩, ⟨[], h2⟩, k1.trans k2⟩
theorem two_new2 {w w1 : World} {n : Int} (h0 : 0 ≤ n) (h1 : n ≤ 10000) (b1 : Bx w1 (w.heap.size + 1) w.heap.size n.toNat [] []) (k1 : Kept (fun _ => False) w w1) (s1 : w1.heap.size = w.heap.size + 2) : Calls Try.prog 12 #[.int .i64 n] w1 fun e w' => e = .returned (.tuple #[ptr (w.heap.size + 3), .int .i64 0]) ∧ Two w n.toNat [] [] w' := by
  refine Calls.mono (new_ok h0 h1 w1) ?_
  rintro e w2 ⟨rfl, b2, k2, _⟩
  refine ⟨by rw [s1], two_new b1 k1 s1 b2 k2⟩
end Go.Proofs.Ytcefdleidkmomaa.Mo

/- Drain of a box of ints. Conditions: each theorem's own. -/
namespace Go.Proofs.Ytcefdleidkmomaa.Mo
open Go.Conc Go.RowKit Hp
@[reducible] def dT : Rw.Ty Int where
  E := 3
  L := 28
  k := 1
  bz := 8
  enc := fun x => [.int .i64 x]
  z := .int .i64 0
  hL := Try.underlying28
  hI := by kernel_rfl
  hz := rfl
  hk := fun x => rfl
  h1 := fun x v hv => by
    simp only [List.mem_cons, List.not_mem_nil, or_false] at hv
    subst hv; rfl
  k0 := by decide
  hb := by decide
theorem Bx.far {w w' : World} {F : Nat → Prop} {b c room : Nat} {ps : List Nat} {vs : List Int} (h : Bx w b c room ps vs) (k : Kept F w w') (hb : ¬ F b) (hc : ¬ F c) (hp : ∀ p ∈ ps, ¬ F p) : Bx w' b c room ps vs := by
  refine ⟨k.blk h.box hb, ?_, h.len, fun i p v h1 h2 => k.blk (h.cells i p v h1 h2) (hp p (List.mem_of_getElem? h1))⟩
  obtain ⟨s, r, e⟩ := h.chan
  exact ⟨s, r, (k.block c h.lt hc).trans e⟩
theorem Bx.low {w : World} {b c room : Nat} {ps : List Nat} {vs : List Int} (h : Bx w b c room ps vs) : ∀ p ∈ ps, p < w.heap.size := fun p hp => by
  obtain ⟨i, hi⟩ := List.getElem?_of_mem hp
  have hl := h.len
  have h1 := (List.getElem?_eq_some_iff.1 hi).1
  exact (h.cells i p _ hi (List.getElem?_eq_getElem (by omega))).lt
set_option maxRecDepth 100000 in
set_option maxHeartbeats 4000000 in
theorem drain_any {w : World} {b c room : Nat} {ps : List Nat} {vs : List Int} (h : Bx w b c room ps vs) (hl : vs.length ≤ 100000) (n : Int) (hn : n ≤ 9223372036854775807) :
    Calls Try.prog 17 #[ptr b, .int .i64 n] w fun e w' => ∃ v' ps', e = .returned v' ∧ Rw.Row dT w' w.heap.size v' (vs.take n.toNat) ∧ Bx w' b c room ps' (vs.drop n.toNat) ∧ Kept (fun i => i = c) w w' := by
  have HB := Lib.hid h
  have HC := Lib.hid h.lt
  have HL := Lib.hid hl
  clear h hl
  obtain ⟨m, hm⟩ : ∃ m : Nat, n.toNat = m := ⟨_, rfl⟩
  have HM := Lib.hid hm
  rw [hm]
  clear hm
  go_enter Try.func17, Try.ntmps17
  go_wp2_with fail
  go_loopg [5, 9] (vs.length + 1) (fun kx s5 s9 wr => ∃ (i : Nat) (qs : List Nat), Hid (vs.length + 1 - i ≤ kx) ∧ Hid (i ≤ vs.length) ∧ Hid (i ≤ m) ∧ s9 = .int .i64 (i : Nat) ∧ Hid (Rw.Row dT wr w.heap.size s5 (vs.take i)) ∧ Hid (Bx wr b c room qs (vs.drop i)) ∧ Hid (∀ p ∈ qs, p < w.heap.size) ∧ Hid (Kept (fun i => i = c) w wr))
  case atStart => exact ⟨0, ps, Lib.hid (by omega), Lib.hid (Nat.zero_le _), Lib.hid (Nat.zero_le _), rfl, Lib.hid (Rw.Row.none dT _ _), HB, Lib.hid HB.out.low, Lib.hid (Kept.refl _ _)⟩
  case round =>
    obtain ⟨i, qs, hmm, hi, him, rfl, hr, hb, hqs, hk⟩ := hrel
    by_cases hin : (i : Int) < n
    · cases hd : vs.drop i with
      | nil =>
        have hil : i = vs.length := by have := hi.out; have h2 := congrArg List.length hd; rw [List.length_drop] at h2; simp at h2; omega
        have hE := hb.out
        rw [hd] at hE
        have hq : qs = [] := List.length_eq_zero_iff.1 hE.len
        subst hq
        have TK := Lib.hid (take_empty hE)
        have R1 : Hid (∃ ps', Rw.Row dT wr w.heap.size u5 (vs.take m) ∧ Bx wr b c room ps' (vs.drop m) ∧ Kept (fun i => i = c) w wr) := by
          have e1 : vs.take m = vs.take i := by rw [List.take_of_length_le (l := vs) (i := m) (by have := him.out; omega), List.take_of_length_le (l := vs) (i := i) (by omega)]
          have e2 : vs.drop m = [] := List.drop_of_length_le (by have := him.out; omega)
          rw [e1, e2]
          exact Lib.hid ⟨[], hr.out, hE, hk.out⟩
        clear hd hE hr hb hk hil
        go_wp2_with (go_at_call 15; (with_reducible refine Calls.mono TK.out ?_); rintro e w2 ⟨rfl, rfl⟩)
        go_ret
        obtain ⟨ps', h1, h2, h3⟩ := R1.out
        exact ⟨_, ps', rfl, h1, h2, h3⟩
      | cons v rest =>
        have hlt : i < vs.length := by have := hi.out; have h2 := congrArg List.length hd; rw [List.length_drop] at h2; simp at h2; omega
        have hgv : vs[i]? = some v := by
          have := congrArg (fun l => l[0]?) hd
          simpa [List.getElem?_drop] using this
        have hE := hb.out
        rw [hd] at hE
        obtain ⟨p, qs', rfl⟩ : ∃ p qs', qs = p :: qs' := by
          cases qs with
          | nil => have := hE.len; simp at this
          | cons p q => exact ⟨p, q, rfl⟩
        have TK := Lib.hid (take_first hE)
        have HQ : Hid (∀ p ∈ qs', p < w.heap.size) := Lib.hid (fun p hp => hqs.out p (List.mem_cons_of_mem _ hp))
        have HBW : Hid (b < w.heap.size) := Lib.hid HB.out.box.lt
        have e1 : vs.drop (i + 1) = rest := by rw [← List.drop_drop, hd]; rfl
        have e2 : vs.take (i + 1) = vs.take i ++ [v] := by
          rw [List.take_add_one, hgv]; rfl
        have HE1 := Lib.hid e1
        have HE2 := Lib.hid e2
        have hw1 : IntKind.i64.wrap ((i : Int) + 1) = ((i + 1 : Nat) : Int) := by rw [IntKind.wrap_i64]; omega
        have him2 : Hid (i + 1 ≤ m) := Lib.hid (by have := HM.out; omega)
        have HI1 : Hid (i + 1 ≤ vs.length) := Lib.hid hlt
        have HT : Hid ((vs.take i).length ≤ 100000) := Lib.hid (by have := HL.out; rw [List.length_take]; omega)
        clear hd hE hb hgv e1 e2 hlt
        obtain ⟨A, hA0⟩ : ∃ A, vs.take i = A := ⟨_, rfl⟩
        rw [hA0] at HE2 HT hr
        clear hA0
        obtain ⟨av, cv, rfl, _⟩ := hr.out.slice
        go_upto_region 6 with (go_at_call 15; (with_reducible refine Calls.mono TK.out ?_); rintro e w2 ⟨rfl, hB2, hk2⟩)
        have HB2 := Lib.hid hB2
        have HK2 := Lib.hid (hk.out.trans hk2)
        have HR2 := Lib.hid (hr.out.kept hk2 (fun g hg e => by have h9 : g = c := e; have := (hr.out.lt g hg).1; have := HC.out; omega))
        clear hB2 hk2 hr hk TK
        have k7 := (Kept.refl (fun _ => False) w2).alloc (.cells #[.int .i64 v] 3)
        have HR7 := Lib.hid (HR2.out.old k7)
        have HB7 := Lib.hid (HB2.out.quiet k7)
        have HK7 := Lib.hid (HK2.out.trans (k7.mono (fun _ _ f => f.elim)))
        have HS7 : Hid (Rw.Src dT (w2.alloc (.cells #[.int .i64 v] 3)) (.slice (some ⟨w2.heap.size, 0, none⟩) 1 1) [v]) := Lib.hid (Rw.src_blk (t := dT) (K := [v]) 1 (Blk.new w2 [.int .i64 v] 3))
        clear k7 HR2 HB2 HK2
        go_wp2_with (at_builtin; refine Rw.wpList_app dT rfl _ _ rfl w.heap.size rfl HR7.out rfl HS7.out (by have := HT.out; rw [List.length_singleton]; omega) HK7.out.size ?_; intro v8 w8 hA; have HA := Lib.hid hA; clear hA)
        have HR8 : Hid (Rw.Row dT w8 w.heap.size v8 (vs.take (i + 1))) := Lib.hid (by rw [HE2.out]; exact HA.out.row)
        have HK8 : Hid (Kept (fun i => i = c) w w8) := Lib.hid (HK7.out.trans' (HA.out.kept) (fun j hj e => by have := (HR7.out.lt j e).1; omega))
        have HB8 : Hid (Bx w8 b c room qs' (vs.drop (i + 1))) := by
          rw [HE1.out]
          have hbw := HBW.out
          have hcw := HC.out
          exact HB7.out.far HA.out.kept (fun e => by have := (HR7.out.lt b e).1; omega) (fun e => by have := (HR7.out.lt c e).1; omega) (fun p hp e => by have := (HR7.out.lt p e).1; have := HQ.out p hp; omega)
        clear HA HR7 HB7 HK7 HS7
        go_roundg (vs.length + 1 - (i + 1))
        case measure => have := hmm.out; have := HI1.out; omega
        case rel => exact ⟨i + 1, qs', Lib.hid (Nat.le_refl _), HI1, him2, by go_num, HR8, HB8, HQ, HK8⟩
    · go_wp2_with fail
      go_ret
      have e9 : i = m := by have := him.out; have := HM.out; omega
      subst e9
      first | exact ⟨_, _, rfl, hr.out, hb.out, hk.out⟩ | exact ⟨_, rfl, hr.out, _, hb.out, hk.out⟩ | exact ⟨_, rfl, hr.out, ⟨_, hb.out⟩, hk.out⟩ | exact ⟨_, rfl, ⟨_, hr.out, hb.out⟩, hk.out⟩
end Go.Proofs.Ytcefdleidkmomaa.Mo

/- What Fan calls: the law's own function, slices.Clone of ints; total. Conditions: each theorem's own. -/
namespace Go.Proofs.Ytcefdleidkmomaa.Mx
open Go.Conc Go.Conc.Lib Br Go.RowKit Hp Rw Ro So
noncomputable def pkB : Code := Try.f11.body.getD .skip
noncomputable def clB : Code := Try.f38.body.getD .skip
theorem pk_ok : okCode Try.prog [] pkB = true := by kernel_rfl
theorem cl_ok : okCode Try.prog [] clB = true := by kernel_rfl
def FsT : List FuncId := [22]
theorem funsT : ∀ f ∈ FsT, FunOk Try.prog FsT f := okFuns (by kernel_rfl)
theorem funs0 : ∀ f ∈ ([] : List FuncId), FunOk Try.prog [] f := fun f h => by cases h
section
variable {v : World}
set_option maxRecDepth 100000 in
set_option maxHeartbeats 4000000 in
theorem pick_wp {xb lb lo n cl i m c : Nat} {a : Option Addr} (hx : Blk v xb [.slice (some ⟨lb, lo, none⟩) n cl] 22) (hi : i < n) (hn : n ≤ 500) (hc : v.cell? ⟨lb, lo + i, none⟩ = some (.slice a m c)) {cB : Code} (hcB : pkB = cB) :
    cB.wp Try.prog (fun e a' w' => (e = .ret ∨ e = .normal) ∧ (a'.tmps.getD 3 undef = .slice a m c ∧ w'.heap = v.heap)) { tmps := #[.int .i64 (i : Nat), .pointer (some ⟨xb, 0, none⟩)] ++ Array.replicate 14 undef, defers := [] } v := by
  conv at hcB => lhs; whnf
  subst hcB
  have e0 : (#[.int .i64 (i : Nat), .pointer (some ⟨xb, 0, none⟩)] ++ Array.replicate 14 undef : Array Value) = #[.int .i64 (i : Nat), .pointer (some ⟨xb, 0, none⟩), undef, undef, undef, undef, undef, undef, undef, undef, undef, undef, undef, undef, undef, undef] := by kernel_rfl
  rw [e0]
  have HC := Lib.hid (hx.cell (o := 0) rfl)
  have HF := Lib.hid (hx.frozen 0)
  have hX := HC.out
  have hF := HF.out
  have h1 : ¬ ((i : Nat) : Int) < 0 := by omega
  have h2 : ((i : Nat) : Int) < (n : Int) := by omega
  have h3 : ¬ (n : Int) ≤ (i : Int) := by omega
  clear hx
  go_wp2
theorem cell_alloc {w : World} {a : Addr} {u : Value} (h : w.cell? a = some u) (o : Obj) : (w.alloc o).cell? a = some u := by
  unfold World.cell? at h ⊢
  cases hb : w.heap[a.block]? with
  | none => rw [hb] at h; cases h
  | some ob =>
    have hlt := (Array.getElem?_eq_some_iff.1 hb).1
    have e : (w.alloc o).heap[a.block]? = w.heap[a.block]? := push_old hlt
    rw [e]
    exact h
theorem empty_row (w : World) : Rw.Row Mo.dT (w.alloc (.cells #[] 3)) w.heap.size (.slice (some ⟨w.heap.size, 0, none⟩) 0 0) [] := by
  have hB : Blk (w.alloc (.cells #[] 3)) w.heap.size [] 3 := Blk.new w [] 3
  exact Rw.Lies.row (t := Mo.dT) (cur := []) (l := []) ⟨hB, Nat.le_refl _, by decide, rfl, rfl⟩ (Nat.le_refl _)
set_option maxRecDepth 100000 in
set_option maxHeartbeats 4000000 in
/-- slices.Clone of ints. -/
theorem clone_wp {a : Option Addr} {m c : Nat} {L : List Int} (hS : Rw.Src Mo.dT v (.slice a m c) L) (h5 : L.length ≤ 1000) {cB : Code} (hcB : clB = cB) :
    cB.wp Try.prog (fun e a' w' => (e = .ret ∨ e = .normal) ∧ (Rw.Row Mo.dT w' v.heap.size (a'.tmps.getD 2 undef) L ∧ Kept (fun _ => False) v w')) { tmps := #[.slice a m c] ++ Array.replicate 7 undef, defers := [] } v := by
  conv at hcB => lhs; whnf
  subst hcB
  have e0 : (#[.slice a m c] ++ Array.replicate 7 undef : Array Value) = #[.slice a m c, undef, undef, undef, undef, undef, undef, undef] := by kernel_rfl
  rw [e0]
  cases a with
  | none =>
    obtain ⟨rfl, hv⟩ : L = [] ∧ (Value.slice none m c = .slice none 0 0) := by
      rcases hS with h | ⟨a, c', h, _⟩
      · exact h
      · cases h
    have HR := Lib.hid (Rw.Row.none Mo.dT v v.heap.size)
    have HK := Lib.hid (Kept.refl (fun _ => False) v)
    clear hS hv
    have hE : ∀ w : World, (binOp .eql 28 (.slice none m c) (.slice none 0 0)).run Try.prog w = .ok (.bool true) w := fun w => by kernel_rfl
    go_wp2
    exact ⟨HR.out, HK.out⟩
  | some a =>
    have HS0 := Lib.hid hS
    have H5 := Lib.hid h5
    clear hS h5
    have hE : ∀ w : World, (binOp .eql 28 (.slice (some a) m c) (.slice none 0 0)).run Try.prog w = .ok (.bool false) w := fun w => by kernel_rfl
    go_wp2_with (at_builtin; refine Rw.wpList_app Mo.dT rfl _ _ rfl v.heap.size rfl (empty_row v) rfl (HS0.out.old fun a u h => ?_) (by have := H5.out; simp; omega) (Kept.alloc (Kept.refl (fun _ => False) v) _).size ?_)
    · exact cell_alloc h _
    intro v8 w8 hA
    have HR := Lib.hid hA.row
    have HK : Hid (Kept (fun _ => False) v w8) := Lib.hid (((Kept.refl (fun _ => False) v).alloc (.cells #[] 3)).trans' hA.kept fun i hi e => by
      have e' : some v.heap.size = some i := e
      cases e'
      exact absurd hi (Nat.lt_irrefl _))
    clear hA
    go_wp2
    exact ⟨HR.out, HK.out⟩
end
end Go.Proofs.Ytcefdleidkmomaa.Mx

