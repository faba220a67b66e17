/- Gather of any lists: a quiet step beside those who leave; the group carried out by the machine. Conditions: each theorem's own. -/
import Derived.Test.YtilpedopnkhppaaMfG24
set_option linter.unusedVariables false
set_option linter.unusedSimpArgs false
namespace Go.Proofs.Ytilpedopnkhppaa.Mx
open Go.Conc Go.Conc.Lib Br Go.RowKit Hp Rw Ro So
open Go.ConcR (WgAt wgBlock)
open Go.ConcN (sumTo upd sumTo_upd upd_ne upd_same)
theorem quiet_one {P : Program} {Shun : Loc → Prop} {B : Nat} {g g' : Goroutine} {w : World} {K : World → Prop} (hrun : g.status = .running) (hgo : ∀ d, ∃ w', stepG P true g (w.at d) = .go g' w' #[] ∧ K w')
  (gs : Array Goroutine) (w₁ : World) (sl : Option (Nat × Nat)) (t : Trace) (q : Nat → Nat) (hA : AtR w w₁) (h0 : gs[0]? = some g) (hL : Leavers P t gs q) (hP : Past Shun B t)
  (ihM : ∀ (gs' : Array Goroutine) (w₂ : World) (sl : Option (Nat × Nat)) (t : Trace) (q' : Nat → Nat), AtR w w₂ → sumTo gs'.size q' < sumTo gs.size q → gs'[0]? = some g → Leavers P t gs' q' → Past Shun B t →
   ∃ N gs₂ w' sl' t' q', runNT P N (crowd gs' w₂ sl) t = (.next (crowd gs₂ w' sl'), t') ∧ gs₂.size = gs'.size ∧ gs₂[0]? = some g' ∧ Leavers P t' gs₂ q' ∧ Past Shun B t' ∧ K w') :
  ∃ N gs' w' sl' t' q', runNT P N (crowd gs w₁ sl) t = (.next (crowd gs' w' sl'), t') ∧ gs'.size = gs.size ∧ gs'[0]? = some g' ∧ Leavers P t' gs' q' ∧ Past Shun B t' ∧ K w' := by
 have haw : ∀ g ∈ gs, awake g := by
  intro g1 hg
  obtain ⟨i, hi, rfl⟩ := Array.mem_iff_getElem.1 hg
  rcases Nat.eq_zero_or_pos i with rfl | hpos
  ·have : gs[0] = g := by simpa [Array.getElem?_eq_getElem hi] using h0
   rw [this]; exact awake_of (.inl hrun)
  ·exact awake_of ((hL.old i _ hpos (Array.getElem?_eq_getElem hi)).status.elim .inl fun x => .inr (.inr x))
 obtain ⟨i, g1, d, sl', hi, hg, hst⟩ := crowd_pick (P := P) (w := w₁) (sl := sl) haw ⟨0, _, h0, hrun⟩
 obtain ⟨d₀, rfl⟩ := hA
 have hlt0 : 0 < gs.size := (Array.getElem?_eq_some_iff.1 h0).1
 rcases Nat.eq_zero_or_pos i with rfl | hpos
 ·obtain rfl : g1 = g := by rw [h0] at hi; exact (Option.some.inj hi).symm
  obtain ⟨w', e, hK⟩ := hgo d
  have hrunT := runT_crowd_go (P := P) (sl := sl') (i := 0) hi (show stepG P (0 == 0) _ ((w.at d₀).at d) = _ from e)
  refine ⟨1, (gs.map (woken P g1 g' w')).setIfInBounds 0 g', w', sl', t, q, ?_, by simp, by simp [hlt0], ⟨fun j y hj hy => ?_, fun j hj => hL.above j (by simpa using hj)⟩, hP, hK⟩
  ·simp only [runNT, hst.trans hrunT]
   simp [MemOp.ofEvents]
  ·have hne : 0 ≠ j := by omega
   rw [Array.getElem?_setIfInBounds_ne hne, Array.getElem?_map] at hy
   obtain ⟨z, hz, rfl⟩ := Option.map_eq_some_iff.1 hy
   have hq := hL.old j z hj hz
   rw [woken_quitsD hq]
   exact hq
 ·have hq := hL.old i g1 hpos hi
  have hi0 : (i == 0) = false := by simp; omega
  have hlt : i < gs.size := (Array.getElem?_eq_some_iff.1 hi).1
  cases hqi : q i with
  | zero => rw [hqi] at hq; rw [hq.1] at hg; cases hg
  | succ k =>
   rw [hqi] at hq
   rcases hq with ⟨hf, _⟩ | ⟨_, g2, es, hm, hstp, hq'⟩
   ·rw [hf] at hg; cases hg
   have hrunT := runT_crowd_go (P := P) (sl := sl') (i := i) hi (by rw [hi0]; exact hstp ((w.at d₀).at d))
   have hsz : ((gs.map (woken P g1 g2 ((w.at d₀).at d))).setIfInBounds i g2).size = gs.size := by simp
   have hsum : sumTo gs.size (upd q i k) + (k + 1) = sumTo gs.size q + k := by
    have := sumTo_upd q k id hlt
    simpa [hqi] using this
   obtain ⟨N, gs₂, w', sl₂, t', q', hr, hs, h0', hL', hP', hK⟩ := ihM _ ((w.at d₀).at d) sl' _ (upd q i k) ⟨d, rfl⟩ (by rw [hsz]; omega) (by
    have hne : i ≠ 0 := by omega
    rw [Array.getElem?_setIfInBounds_ne hne, Array.getElem?_map, h0]
    simp [woken_run hrun]) ⟨fun j y hj hy => by
     by_cases hji : i = j
     ·subst hji
      rw [Array.getElem?_setIfInBounds_self_of_lt (by simpa using hlt)] at hy
      obtain rfl := Option.some.inj hy
      rw [upd_same, Deaf_own]
      exact hq'
     ·rw [Array.getElem?_setIfInBounds_ne hji, Array.getElem?_map] at hy
      obtain ⟨z, hz, rfl⟩ := Option.map_eq_some_iff.1 hy
      have hqj := hL.old j z hj hz
      rw [woken_quitsD hqj, upd_ne q k (Ne.symm hji), Deaf_other t hji _ (fun op hop => by obtain ⟨e, _, rfl⟩ := Go.Conc.mem_ofEvents hop; rfl)]
      exact hqj, fun j hj => by
     rw [Deaf_other t (g' := i) (by simp at hj; omega) _ (fun op hop => by obtain ⟨e, _, rfl⟩ := Go.Conc.mem_ofEvents hop; rfl)]
     exact hL.above j (by simpa using hj)⟩ (hP.mute (by omega) hm)
   exact ⟨N + 1, gs₂, w', sl₂, t', q', by simp only [runNT, hst.trans hrunT]; exact hr, hs.trans hsz, h0', hL', hP', hK⟩
theorem quiet_step {P : Program} {Shun : Loc → Prop} {B : Nat} {g g' : Goroutine} {w : World} {K : World → Prop} (hrun : g.status = .running) (hgo : ∀ d, ∃ w', stepG P true g (w.at d) = .go g' w' #[] ∧ K w') :
  ∀ (M : Nat) (gs : Array Goroutine) (w₁ : World) (sl : Option (Nat × Nat)) (t : Trace) (q : Nat → Nat), AtR w w₁ → sumTo gs.size q ≤ M → gs[0]? = some g → Leavers P t gs q → Past Shun B t →
  ∃ N gs' w' sl' t' q', runNT P N (crowd gs w₁ sl) t = (.next (crowd gs' w' sl'), t') ∧ gs'.size = gs.size ∧ gs'[0]? = some g' ∧ Leavers P t' gs' q' ∧ Past Shun B t' ∧ K w' := by
 intro M
 induction M with
 | zero =>
  intro gs w₁ sl t q hA hM h0 hL hP
  exact quiet_one hrun hgo gs w₁ sl t q hA h0 hL hP (fun gs' w₂ sl' t' q' _ hM' => by omega)
 | succ M ih =>
  intro gs w₁ sl t q hA hM h0 hL hP
  exact quiet_one hrun hgo gs w₁ sl t q hA h0 hL hP (fun gs' w₂ sl' t' q' hA' hM' h0' hL' hP' => ih gs' w₂ sl' t' q' hA' (by omega) h0' hL' hP')
section
variable {Z b n N lb lo cl : Nat} {Shun : Loc → Prop} {X : Sh} {ad : Nat → Option Addr} {len cp : Nat → Nat} {vals : Nat → List Int} {v vM w W : World} {al : Value}
noncomputable abbrev phN (Z b n N : Nat) (Shun : Loc → Prop) (X : Sh) (ad : Nat → Option Addr) (len cp : Nat → Nat) (vals : Nat → List Int) (vM : World) (bA : Frame) (csA : List Frame) : Ph := phG (gN Z b n Shun ad len cp) X 0 vals (Z + 1) N vM bA [] csA
set_option maxRecDepth 100000 in
theorem groupRunsN (hX : ShunIn X Shun) (hXM : ∀ b, X b → b < Z) (hb : 1 ≤ b) (hM : LL Z n lb lo ad len cp vals vM) (hs : vM.heap.size = Z + 1) (hcl : n ≤ cl) (hN : N = n + n % 2) {bA : Frame} (hbA : bA.kind = .normal) {csA : List Frame} {t : Array Value} (ht : FN Z n lb lo cl t) {gs : Array Goroutine} {sl : Option (Nat × Nat)} {tr : Trace} {q : Nat → Nat}
  (hl : Like ((gN Z b n Shun ad len cp).Sd X 0) w vM) (hwg : WgAt lnk.tWg Z w 0 0) (h0 : gs[0]? = some (G (bA.at ⟨t, []⟩ [.code at2]) csA)) (hsz : gs.size = b) (hL : Leavers Try.prog tr gs q) (hP : Past Shun Z tr) :
  ∃ N' m' t', runNT Try.prog N' (crowd gs w sl) tr = (.next m', t') ∧ Done (phN Z b n N Shun X ad len cp vals vM bA csA) m' t' := by
 have hk : (phN Z b n N Shun X ad len cp vals vM bA csA).Ok := okG (s := gN Z b n Shun ad len cp) hX (fun b' h => show b' < Z + 2 by have := hXM b' h; omega) hb (show n < 2147483648 by have := hM.n5; omega) (show Z + 2 + 5 * n ≤ Z + 2 + 5 * n by omega) (show Z < Z + 2 by omega) (show Z < Z + 2 + 5 * n by omega)
 refine phase (p := phN Z b n N Shun X ad len cp vals vM bA csA) (M := rem n (lenv (gN Z b n Shun ad len cp) (AnchG (gN Z b n Shun ad len cp) X 0 vals (Z + 1) N vM bA [] csA) (PostG (gN Z b n Shun ad len cp) X 0 vals (Z + 1) N vM bA [] csA)) Ph.T00) hk hM.n1 (B0 := Z) ?_ (Nat.le_refl _) hsz h0 hL hP hwg ?_
 ·show Z ≤ max (Z + 2 + 5 * n) _
  omega
 ·exact groupStartN hX hXM hk hM hs hcl hN hbA (fun t al g w h1 h2 => ⟨t, al, h1, h2⟩) ht hl ⟨_, _, hwg⟩ rfl
@[reducible] def DN (Z n : Nat) (X : Sh) : Sh := ⟨fun c => X c ∨ c = Z ∨ ∃ k, k < n ∧ Z + 2 + 5 * k ≤ c ∧ c < Z + 2 + 5 * k + 5, X.os, X.out⟩
theorem shunN (hX : ShunIn X Shun) : ShunIn (DN Z n X) (fun l => Shun l ∨ OfG Z l) := fun l h => by
 rcases h with h | ⟨a, ha, hb⟩
 ·obtain ⟨a, ha, hb⟩ := hX l h
  exact ⟨a, ha, .inl hb⟩
 ·exact ⟨a, ha, .inr (.inl hb)⟩
def allN (n : Nat) (vals : Nat → List Int) : List It := (List.range (n + n % 2)).flatMap fun k => itemsOf (if k < n then (k : Int) else 0) (vals k) (vals k).length
theorem allN_eq : allOf (gN Z b n Shun ad len cp) 0 vals (n + n % 2) = allN n vals := by
 unfold allOf allN
 congr 1
 funext k
 unfold wfN
 rw [show (gN Z b n Shun ad len cp).n = n from rfl]
 by_cases h : k < n <;> simp [h]
structure BehindN (Z n : Nat) (X : Sh) (vals : Nat → List Int) (vM : World) (al : Value) (w v : World) : Prop where
 like : Like (DN Z n X) w v
 row : Rw.Row iT v (Z + 2) al (allN n vals)
 size : Z + 2 + 5 * n ≤ v.heap.size
 same : ∀ b, b < Z → v.heap[b]? = vM.heap[b]?
theorem groupDoneN (hN : N = n + n % 2) {bA : Frame} {csA : List Frame} {m' : Machine} {t' : Trace} (h : Done (phN Z b n N Shun X ad len cp vals vM bA csA) m' t') :
  ∃ gs w sl a q t al v, m' = crowd gs w sl ∧ gs[0]? = some a ∧ Leavers Try.prog t' gs q ∧ Past (fun l => Shun l ∨ OfG Z l) w.heap.size t' ∧ BehindN Z n X vals vM al w v ∧ FT (gN Z b n Shun ad len cp) al (Z + 1) N 0 N t ∧
   Slips a (G (bA.at (Act.put ⟨t, []⟩ (((tk17 (sndOf spa))[0]?).bind (·.dst)) (.tuple #[])) (.inRegion (tk17 (sndOf spa)) [] :: .code (sndOf (sndOf spa)) :: [])) csA) := by
 obtain ⟨gs, w, sl, a, q, rfl, h0, ⟨t, al, ht, ⟨v, h1, h2, h3, h4⟩, hs⟩, hL, hP⟩ := h
 have h2' : Rw.Row iT v (Z + 2) al (allN n vals) := by
  rw [← allN_eq (Z := Z) (b := b) (Shun := Shun) (ad := ad) (len := len) (cp := cp), ← hN]
  exact h2
 refine ⟨gs, w, sl, a, q, t, al, v, rfl, h0, hL, ?_, ⟨h1, h2', h3, fun b hb => h4 b (show b < Z + 2 by omega) (by omega)⟩, ht, hs⟩
 have e : (phN Z b n N Shun X ad len cp vals vM bA csA).Bd w = w.heap.size := by
  show max (Z + 2 + 5 * n) w.heap.size = w.heap.size
  have h3' : Z + 2 + 5 * n ≤ v.heap.size := h3
  rw [h1.size] at h3'
  omega
 rw [e] at hP
 exact hP
end
end Go.Proofs.Ytilpedopnkhppaa.Mx

/- Gather of any lists, behind the group: back through atOnce and Gather. Conditions: each theorem's own. -/
namespace Go.Proofs.Ytilpedopnkhppaa.Mx
open Go.Conc Go.Conc.Lib Br Go.RowKit Hp Rw Ro So
open Go.ConcN (sumTo upd sumTo_upd upd_ne upd_same)
inductive FGN (lb lo n cl : Nat) : Array Value → Prop
 | mk (u1 u5 u6 u7 u8 u9 u10 u11 u12 u13 u14 u15 u16 u17 u18 u19 u20 u21 u22 : Value) : FGN lb lo n cl #[.slice (some ⟨lb, lo, none⟩) n cl, u1, nilS, nilS, .int .i64 0, u5, u6, u7, u8, u9, u10, u11, u12, u13, u14, u15, u16, u17, u18, u19, u20, u21, u22]
inductive FGN3 (lb lo n cl : Nat) (al : Value) : Array Value → Prop
 | mk (u1 u2 u5 u6 u7 u8 u9 u10 u11 u12 u13 u14 u15 u16 u17 u18 u19 u20 u21 u22 : Value) : FGN3 lb lo n cl al #[.slice (some ⟨lb, lo, none⟩) n cl, u1, u2, al, .int .i64 1000, u5, u6, u7, u8, u9, u10, u11, u12, u13, u14, u15, u16, u17, u18, u19, u20, u21, u22]
inductive FGN4 (lb lo n cl : Nat) (al : Value) : Array Value → Prop
 | mk (u1 u2 u5 u6 u7 u9 u10 u11 u12 u13 u14 u15 u16 u17 u18 u19 u20 u21 u22 : Value) : FGN4 lb lo n cl al #[.slice (some ⟨lb, lo, none⟩) n cl, u1, u2, al, .int .i64 1000, u5, u6, u7, .bool false, u9, u10, u11, u12, u13, u14, u15, u16, u17, u18, u19, u20, u21, u22]
theorem BehindN.heap {Z n : Nat} {X : Sh} {vals : Nat → List Int} {vM w v w' v' : World} {al : Value} (h : BehindN Z n X vals vM al w v) (hl : Like (DN Z n X) w' v') (e : v'.heap = v.heap) : BehindN Z n X vals vM al w' v' :=
 ⟨hl, row_heap h.row e, by rw [e]; exact h.size, fun b hb => by rw [e]; exact h.same b hb⟩
section
variable {Z b n N lb lo cl : Nat} {Shun : Loc → Prop} {X : Sh} {ad : Nat → Option Addr} {len cp : Nat → Nat} {vals : Nat → List Int} {vM : World} {al : Value} {St : Goroutine → World → Prop} {m : Nat}
set_option maxRecDepth 100000 in
set_option maxHeartbeats 4000000 in
theorem gatherBackN (h5 : n ≤ 500) {t : Array Value} (ht : FGN lb lo n cl t) {cb : Frame} {ac : Act} {opsc : Array Oper} {ic : Nat} {restc : List Nat} {kc : List Item} {cs : List Frame}
  (hnext : ∀ w v, BehindN Z n X vals vM al w v → SG (DN Z n X) St m (G (cb.at (ac.put ((opsc[ic]?).bind (·.dst)) al) (.inRegion opsc restc :: kc)) cs) w)
  {w v : World} (hb : BehindN Z n X vals vM al w v) {cL cB : Code} (hcL : gaL = cL) (hcB : gaB = cB) :
  SG (DN Z n X) St (m + 60) (G ((base 9).at (Act.put ⟨t, []⟩ ((((ga5 cL)[10]?).bind (·.dst))) al) (.inRegion (ga5 cL) [11] :: .inBlock 1 :: .code (ga4 cL) :: .inLoop cL :: .inBlock 0 :: .code (gaE cB) :: [])) (cb.at ac (.inRegion opsc (ic :: restc) :: kc) :: cs)) w := by
 obtain ⟨u1, u5, u6, u7, u8, u9, u10, u11, u12, u13, u14, u15, u16, u17, u18, u19, u20, u21, u22⟩ := ht
 conv at hcL => lhs; whnf
 subst hcL
 conv at hcB => lhs; whnf
 subst hcB
 refine SG.le (m := 3 + 2 + (4 + 2 + (2 + 2 + (m + 1 + 1) + 1 + 1 + 1) + 1 + 1 + 1) + 1 + 1 + 1) ?_ (by omega)
 refine SG.pure (y := al) rfl rfl rfl (fun w => rfl) ?_
 refine SG.regEnd ?_
 refine SG.inBlock ?_
 show SG (DN Z n X) St _ (G ((base 9).at ⟨#[.slice (some ⟨lb, lo, none⟩) n cl, u1, nilS, al, .int .i64 0, u5, u6, u7, u8, u9, u10, u11, u12, u13, u14, u15, u16, u17, u18, u19, u20, al, u22], []⟩ _) _) w
 refine SG.region (m := 4 + 2 + (2 + 2 + (m + 1 + 1) + 1 + 1 + 1) + 1 + 1 + 1) (R := fun t v' => FGN3 lb lo n cl al t ∧ v'.heap = v.heap)
  rfl (by kernel_rfl) rfl hb.like (fun v1 h1 => ?_) (fun a4 w4 v4 hd hl4 hR4 => ?_)
 ·have hh := Lib.hid (like_same hb.like h1)
  clear hb hnext
  go_wp2
  exact ⟨.mk .., hh.out⟩
 obtain ⟨h3, e4⟩ := hR4
 have hb4 : BehindN Z n X vals vM al w4 v4 := hb.heap hl4 e4
 clear hl4 e4 hb
 obtain ⟨t4, ds4⟩ := a4
 obtain rfl : ds4 = [] := hd
 dsimp only at h3
 obtain ⟨u1, u2, u5, u6, u7, u8, u9, u10, u11, u12, u13, u14, u15, u16, u17, u18, u19, u20, u21, u22⟩ := h3
 refine SG.inLoop ?_
 refine SG.seq ?_
 refine SG.seq ?_
 refine SG.region (m := 2 + 2 + (m + 1 + 1) + 1 + 1 + 1) (R := fun t v' => FGN4 lb lo n cl al t ∧ v'.heap = v4.heap)
  rfl (by kernel_rfl) rfl hb4.like (fun v1 h1 => ?_) (fun a5 w5 v5 hd hl5 hR5 => ?_)
 ·have hh := Lib.hid (like_same hb4.like h1)
  have hc : ¬ (1000 : Int) < (n : Int) := by omega
  clear hb4 hnext
  go_wp2
  exact ⟨.mk .., hh.out⟩
 obtain ⟨h3, e5⟩ := hR5
 have hb5 : BehindN Z n X vals vM al w5 v5 := hb4.heap hl5 e5
 clear hl5 e5 hb4
 obtain ⟨t5, ds5⟩ := a5
 obtain rfl : ds5 = [] := hd
 dsimp only at h3
 obtain ⟨u1, u2, u5, u6, u7, u9, u10, u11, u12, u13, u14, u15, u16, u17, u18, u19, u20, u21, u22⟩ := h3
 refine SG.condF rfl ?_
 refine SG.exit rfl ?_
 refine SG.seq ?_
 refine SG.region (m := m + 1 + 1) (R := fun t v' => t.getD 2 undef = al ∧ v'.heap = v5.heap)
  rfl (by kernel_rfl) rfl hb5.like (fun v1 h1 => ?_) (fun a6 w6 v6 hd hl6 hR6 => ?_)
 ·have hh := Lib.hid (like_same hb5.like h1)
  clear hb5 hnext
  go_wp2
  exact hh.out
 obtain ⟨h3, e6⟩ := hR6
 have hb6 : BehindN Z n X vals vM al w6 v6 := hb5.heap hl6 e6
 refine SG.ret ?_
 refine SG.leave1 (t := 2) rfl hd rfl rfl ?_
 rw [h3]
 exact hnext _ _ hb6
set_option maxRecDepth 100000 in
set_option maxHeartbeats 4000000 in
theorem atOnceBackN {t : Array Value} (ht : FT (gN Z b n Shun ad len cp) al (Z + 1) N 0 N t) {cb : Frame} {ac : Act} {opsc : Array Oper} {ic : Nat} {restc : List Nat} {kc : List Item} {cs : List Frame}
  (hnext : ∀ w v, BehindN Z n X vals vM al w v → SG (DN Z n X) St m (G (cb.at (ac.put ((opsc[ic]?).bind (·.dst)) al) (.inRegion opsc restc :: kc)) cs) w)
  {w v : World} (hb : BehindN Z n X vals vM al w v) {cS : Code} (hcS : sndOf (sndOf spa) = cS) :
  SG (DN Z n X) St (m + 20) (G ((base 26).at (Act.put ⟨t, []⟩ (((tk17 (sndOf spa))[0]?).bind (·.dst)) (.tuple #[])) (.inRegion (tk17 (sndOf spa)) [] :: .code cS :: [])) (cb.at ac (.inRegion opsc (ic :: restc) :: kc) :: cs)) w := by
 obtain ⟨u2, u3, u4, u5, u6, u9, u10, u11, u13, u14, u15, u16, u17, u18, u19, u20, u21, u22, u23, u24, u25, u26, u27, u28, u29, u30, u31, u32, u33, u34, u35, u36, u37, u38, u39, u40, u41, u42, u43, u44, u45, u46, u47, u48, u49, u50, u51, u52, u53, u54, u55, u56, u57, u58, u59, u60, u61, u62, u63, u64, u65, u66, u67, u68, u69, u70, u71, u72, u73, u74, u75, u76, u77, u78⟩ := ht
 conv at hcS => lhs; whnf
 subst hcS
 refine SG.le (m := 2 + 2 + (m + 1 + 1) + 1 + 1) ?_ (by omega)
 refine SG.regEnd ?_
 refine SG.seq ?_
 show SG (DN Z n X) St _ (G ((base 26).at ⟨#[al, .int .i64 0, u2, u3, u4, u5, u6, .pointer (some (gN Z b n Shun ad len cp).wga), .slice (some ⟨Z + 1, 0, none⟩) N N, u9, u10, u11, .int .i64 ((N : Nat) : Int), u13, u14, u15, u16, u17, u18, u19, u20, u21, u22, u23, u24, u25, u26, u27, u28, u29, u30, u31, u32, u33, u34, u35, u36, u37, u38, u39, u40, u41, u42, u43, u44, u45, u46, u47, u48, u49, u50, u51, u52, u53, u54, u55, u56, u57, u58, u59, u60, u61, u62, u63, u64, u65, u66, u67, u68, u69, u70, u71, u72, u73, u74, u75, u76, .tuple #[], u78], []⟩ _) _) w
 refine SG.region (m := m + 1 + 1) (R := fun t v' => t.getD 6 undef = al ∧ v'.heap = v.heap)
  rfl (by kernel_rfl) rfl hb.like (fun v1 h1 => ?_) (fun a6 w6 v6 hd hl6 hR6 => ?_)
 ·have hh := Lib.hid (like_same hb.like h1)
  clear hb hnext
  go_wp2
  exact hh.out
 obtain ⟨h3, e6⟩ := hR6
 have hb6 : BehindN Z n X vals vM al w6 v6 := hb.heap hl6 e6
 refine SG.ret ?_
 refine SG.leave1 (t := 6) rfl hd rfl rfl ?_
 rw [h3]
 exact hnext _ _ hb6
end
end Go.Proofs.Ytilpedopnkhppaa.Mx

/- Gather of any lists: its way in. Conditions: each theorem's own. -/
namespace Go.Proofs.Ytilpedopnkhppaa.Mx
open Go.Conc Go.Conc.Lib Br Go.RowKit Hp Rw Ro So
open Go.ConcN (sumTo upd sumTo_upd upd_ne upd_same)
inductive FN0 (lb lo n cl : Nat) : Array Value → Prop
 | mk (u3 u4 u5 u6 u7 u8 u9 u10 u11 u12 u13 u14 u15 u16 u17 u18 u19 u20 u21 u22 u23 u24 u25 u26 u27 u28 u29 u30 u31 u32 u33 u34 u35 u36 u37 u38 u39 u40 u41 u42 u43 u44 u45 u46 u47 u48 u49 u50 u51 u52 u53 u54 u55 u56 u57 u58 u59 u60 u61 u62 u63 u64 u65 u66 u67 u68 u69 u70 u71 u72 u73 u74 u75 u76 u77 u78 : Value) : FN0 lb lo n cl #[nilS, .int .i64 0, .slice (some ⟨lb, lo, none⟩) n cl, u3, u4, u5, u6, u7, u8, u9, u10, u11, u12, u13, u14, u15, u16, u17, u18, u19, u20, u21, u22, u23, u24, u25, u26, u27, u28, u29, u30, u31, u32, u33, u34, u35, u36, u37, u38, u39, u40, u41, u42, u43, u44, u45, u46, u47, u48, u49, u50, u51, u52, u53, u54, u55, u56, u57, u58, u59, u60, u61, u62, u63, u64, u65, u66, u67, u68, u69, u70, u71, u72, u73, u74, u75, u76, u77, u78]
section
variable {lb lo n cl : Nat} (w : World) (f : Operand → Value)
theorem lnN {a : Option Addr} (h1 : f (.tmp 17) = .slice a n cl) : (execOp f { dst := some 18, op := .call { callee := .builtin .len, args := #[.tmp 17], argTypes := #[22] }, type := 3, pos := "mux.go:86", after := #[{ on := 6, ground := .data }], guard := none }).run Try.prog w = .ok (.value (.int .i64 (n : Int))) w := by
 have e : (Builtin.len_ #[22] 3 #[.slice a n cl]).run Try.prog w = .ok (.int .i64 (n : Int)) w := by kernel_rfl
 simp [execOp, h1, go_sem, e]
theorem mnN (h5 : n ≤ 500) (h1 : f (.tmp 16) = .int .i64 1000) (h2 : f (.tmp 18) = .int .i64 (n : Int)) : (execOp f { dst := some 19, op := .call { callee := .builtin .min, args := #[.tmp 16, .tmp 18], argTypes := #[3, 3] }, type := 3, pos := "mux.go:86", after := #[{ on := 5, ground := .data }, { on := 7, ground := .data }], guard := none }).run Try.prog w = .ok (.value (.int .i64 (n : Int))) w := by
 have e : (Builtin.min_ #[3, 3] 3 #[.int .i64 1000, .int .i64 (n : Int)]).run Try.prog w = .ok (.int .i64 (n : Int)) w := by
  rw [run_min_int2, if_pos (by omega)]
 simp only [execOp, h1, h2, go_sem, List.map_toArray, List.map_cons, List.map_nil]
 simp [go_sem, h1, h2, e]
theorem slicedN : sliced (some ⟨lb, lo, none⟩) (Int.toNat 0) (Int.toNat (n : Int)) cl 1 = .slice (some ⟨lb, lo, none⟩) n cl := by
 simp [sliced, Addr.add]
theorem slN (hcl : n ≤ cl) (h1 : f (.tmp 13) = .slice (some ⟨lb, lo, none⟩) n cl) (h2 : f (.tmp 14) = .int .i64 0) (h3 : f (.tmp 19) = .int .i64 (n : Int)) : (execOp f { dst := some 20, op := .slice 22 (.tmp 13) (some (.tmp 14)) (some (.tmp 19)) none, type := 22, pos := "mux.go:86", after := #[{ on := 2, ground := .data }, { on := 3, ground := .data }, { on := 8, ground := .data }], guard := none }).run Try.prog w = .ok (.value (.slice (some ⟨lb, lo, none⟩) n cl)) w := by
 have hz : ∀ w : World, (sizeOf (Try.prog.elem 22)).run Try.prog w = .ok 1 w := fun w => by kernel_rfl
 have e : (Instr.slice 22 (.slice (some ⟨lb, lo, none⟩) n cl) (some (.int .i64 0)) (some (.int .i64 (n : Int))) none).run Try.prog w = .ok (.slice (some ⟨lb, lo, none⟩) n cl) w := by
  have E := run_slice_lh (P := Try.prog) (w := w) 22 (some ⟨lb, lo, none⟩) n cl (by kernel_rfl) .i64 .i64 0 (n : Int) (by omega) (by omega) (by omega)
  rw [E, hz]
  show Result.ok _ w = _
  rw [slicedN]
 simp [execOp, h1, h2, h3, go_sem, e]
end
section
variable {lb lo n cl : Nat} {X : Sh} {St : Goroutine → World → Prop} {m : Nat}
set_option maxRecDepth 100000 in
set_option maxHeartbeats 1000000 in
theorem gatherInN (h1 : 1 ≤ n) (h5 : n ≤ 500) (hcl : n ≤ cl) {cs : List Frame} {w v : World} (hl : Like (X) w v) {cB cL : Code} (hcB : gaB = cB) (hcL : gaL = cL)
  (hnext : ∀ (tg : Array Value) (w' v' : World), FGN lb lo n cl tg → Like (X) w' v' → v'.heap = v.heap →
   SG (X) St m (G ((base 26).at { tmps := #[nilS, .int .i64 0, .slice (some ⟨lb, lo, none⟩) n cl] ++ Array.replicate 76 undef, defers := [] } [.code atB])
    ((base 9).at ⟨tg, []⟩ (.inRegion (ga5 cL) [10, 11] :: .inBlock 1 :: .code (ga4 cL) :: .inLoop cL :: .inBlock 0 :: .code (gaE cB) :: []) :: cs)) w') :
  SG (X) St (m + 60) (G ((base 9).at { tmps := #[.slice (some ⟨lb, lo, none⟩) n cl] ++ Array.replicate 22 undef, defers := [] } [.code cB]) cs) w := by
 conv at hcL => lhs; whnf
 subst hcL
 conv at hcB => lhs; whnf
 subst hcB
 refine SG.le (m := 1 + 2 + (1 + 2 + (1 + 2 + (4 + 2 + ((m + 1) + 1 + 1 + 1 + 1 + 1 + 1 + 1 + 1 + 1 + 1 + 1 + 1 + 1 + 1 + 1) + 1 + 1 + 1 + 1) + 1 + 1) + 1) + 1) ?_ (by omega)
 refine SG.seq ?_
 have e0 : (#[.slice (some ⟨lb, lo, none⟩) n cl] ++ Array.replicate 22 undef : Array Value) = #[.slice (some ⟨lb, lo, none⟩) n cl, undef, undef, undef, undef, undef, undef, undef, undef, undef, undef, undef, undef, undef, undef, undef, undef, undef, undef, undef, undef, undef, undef] := by kernel_rfl
 rw [e0]
 refine SG.region (m := 1 + 2 + (1 + 2 + (4 + 2 + ((m + 1) + 1 + 1 + 1 + 1 + 1 + 1 + 1 + 1 + 1 + 1 + 1 + 1 + 1 + 1 + 1) + 1 + 1 + 1 + 1) + 1 + 1) + 1) (R := fun t v' => t = #[.slice (some ⟨lb, lo, none⟩) n cl, undef, nilS, undef, undef, undef, undef, undef, undef, undef, undef, undef, undef, undef, undef, undef, undef, undef, undef, undef, undef, undef, undef] ∧ v'.heap = v.heap)
  rfl (by kernel_rfl) rfl hl (fun v1 h1 => ?_) (fun a4 w4 v4 hd hl4 hR4 => ?_)
 ·have hh := Lib.hid (like_same hl h1)
  clear hl hnext
  go_wp2
  exact hh.out
 obtain ⟨t4, d4⟩ := a4
 obtain rfl : d4 = [] := hd
 obtain ⟨ht, e4⟩ := hR4
 have ht1 : t4 = #[.slice (some ⟨lb, lo, none⟩) n cl, undef, nilS, undef, undef, undef, undef, undef, undef, undef, undef, undef, undef, undef, undef, undef, undef, undef, undef, undef, undef, undef, undef] := ht
 subst ht1
 clear ht
 refine SG.seq ?_
 refine SG.region (m := 1 + 2 + (4 + 2 + ((m + 1) + 1 + 1 + 1 + 1 + 1 + 1 + 1 + 1 + 1 + 1 + 1 + 1 + 1 + 1 + 1) + 1 + 1 + 1 + 1) + 1 + 1) (R := fun t v' => t = #[.slice (some ⟨lb, lo, none⟩) n cl, undef, nilS, nilS, undef, undef, undef, undef, undef, undef, undef, undef, undef, undef, undef, undef, undef, undef, undef, undef, undef, undef, undef] ∧ v'.heap = v.heap)
  rfl (by kernel_rfl) rfl hl4 (fun v1 h1 => ?_) (fun a5 w5 v5 hd hl5 hR5 => ?_)
 ·have hh := Lib.hid ((like_same hl4 h1).trans e4)
  clear hl4 hnext
  go_wp2
  exact hh.out
 obtain ⟨t5, d5⟩ := a5
 obtain rfl : d5 = [] := hd
 obtain ⟨ht, e5⟩ := hR5
 have ht1 : t5 = #[.slice (some ⟨lb, lo, none⟩) n cl, undef, nilS, nilS, undef, undef, undef, undef, undef, undef, undef, undef, undef, undef, undef, undef, undef, undef, undef, undef, undef, undef, undef] := ht
 subst ht1
 clear ht
 refine SG.seq ?_
 refine SG.seq ?_
 refine SG.region (m := 4 + 2 + ((m + 1) + 1 + 1 + 1 + 1 + 1 + 1 + 1 + 1 + 1 + 1 + 1 + 1 + 1 + 1 + 1) + 1 + 1 + 1 + 1) (R := fun t v' => t = #[.slice (some ⟨lb, lo, none⟩) n cl, undef, nilS, nilS, .int .i64 0, undef, undef, undef, undef, undef, undef, undef, undef, undef, undef, undef, undef, undef, undef, undef, undef, undef, undef] ∧ v'.heap = v.heap)
  rfl (by kernel_rfl) rfl hl5 (fun v1 h1 => ?_) (fun a6 w6 v6 hd hl6 hR6 => ?_)
 ·have hh := Lib.hid ((like_same hl5 h1).trans e5)
  clear hl5 hnext
  go_wp2
  exact hh.out
 obtain ⟨t6, d6⟩ := a6
 obtain rfl : d6 = [] := hd
 obtain ⟨ht, e6⟩ := hR6
 have ht1 : t6 = #[.slice (some ⟨lb, lo, none⟩) n cl, undef, nilS, nilS, .int .i64 0, undef, undef, undef, undef, undef, undef, undef, undef, undef, undef, undef, undef, undef, undef, undef, undef, undef, undef] := ht
 subst ht1
 clear ht
 refine SG.block ?_
 refine SG.loop ?_
 refine SG.seq ?_
 refine SG.seq ?_
 refine SG.region (m := (m + 1) + 1 + 1 + 1 + 1 + 1 + 1 + 1 + 1 + 1 + 1 + 1 + 1 + 1 + 1 + 1) (R := fun t v' => t = #[.slice (some ⟨lb, lo, none⟩) n cl, undef, nilS, nilS, .int .i64 0, .int .i64 0, .slice (some ⟨lb, lo, none⟩) n cl, .int .i64 (n : Int), .bool true, undef, undef, undef, undef, undef, undef, undef, undef, undef, undef, undef, undef, undef, undef] ∧ v'.heap = v.heap)
  rfl (by kernel_rfl) rfl hl6 (fun v1 h1' => ?_) (fun a7 w7 v7 hd hl7 hR7 => ?_)
 ·have hh := Lib.hid ((like_same hl6 h1').trans e6)
  have hc : (0 : Int) < (n : Int) := by omega
  clear hl6 hnext
  go_wp2
  exact ⟨by omega, hh.out⟩
 obtain ⟨t7, d7⟩ := a7
 obtain rfl : d7 = [] := hd
 obtain ⟨ht, e7⟩ := hR7
 have ht1 : t7 = #[.slice (some ⟨lb, lo, none⟩) n cl, undef, nilS, nilS, .int .i64 0, .int .i64 0, .slice (some ⟨lb, lo, none⟩) n cl, .int .i64 (n : Int), .bool true, undef, undef, undef, undef, undef, undef, undef, undef, undef, undef, undef, undef, undef, undef] := ht
 subst ht1
 clear ht
 refine SG.condT rfl ?_
 refine SG.skip ?_
 refine SG.seq ?_
 refine SG.block ?_
 refine SG.reg ?_
 refine SG.pure (y := nilS) rfl rfl rfl (fun w => by rfl) ?_
 show SG (X) St _ (G ((base 9).at ⟨#[.slice (some ⟨lb, lo, none⟩) n cl, undef, nilS, nilS, .int .i64 0, .int .i64 0, .slice (some ⟨lb, lo, none⟩) n cl, .int .i64 (n : Int), .bool true, undef, undef, nilS, undef, undef, undef, undef, undef, undef, undef, undef, undef, undef, undef], []⟩ _) _) w7
 refine SG.pure (y := .int .i64 0) rfl rfl rfl (fun w => by rfl) ?_
 show SG (X) St _ (G ((base 9).at ⟨#[.slice (some ⟨lb, lo, none⟩) n cl, undef, nilS, nilS, .int .i64 0, .int .i64 0, .slice (some ⟨lb, lo, none⟩) n cl, .int .i64 (n : Int), .bool true, undef, undef, nilS, .int .i64 0, undef, undef, undef, undef, undef, undef, undef, undef, undef, undef], []⟩ _) _) w7
 refine SG.pure (y := .slice (some ⟨lb, lo, none⟩) n cl) rfl rfl rfl (fun w => by rfl) ?_
 show SG (X) St _ (G ((base 9).at ⟨#[.slice (some ⟨lb, lo, none⟩) n cl, undef, nilS, nilS, .int .i64 0, .int .i64 0, .slice (some ⟨lb, lo, none⟩) n cl, .int .i64 (n : Int), .bool true, undef, undef, nilS, .int .i64 0, .slice (some ⟨lb, lo, none⟩) n cl, undef, undef, undef, undef, undef, undef, undef, undef, undef], []⟩ _) _) w7
 refine SG.pure (y := .int .i64 0) rfl rfl rfl (fun w => by rfl) ?_
 show SG (X) St _ (G ((base 9).at ⟨#[.slice (some ⟨lb, lo, none⟩) n cl, undef, nilS, nilS, .int .i64 0, .int .i64 0, .slice (some ⟨lb, lo, none⟩) n cl, .int .i64 (n : Int), .bool true, undef, undef, nilS, .int .i64 0, .slice (some ⟨lb, lo, none⟩) n cl, .int .i64 0, undef, undef, undef, undef, undef, undef, undef, undef], []⟩ _) _) w7
 refine SG.pure (y := .int .i64 0) rfl rfl rfl (fun w => by rfl) ?_
 show SG (X) St _ (G ((base 9).at ⟨#[.slice (some ⟨lb, lo, none⟩) n cl, undef, nilS, nilS, .int .i64 0, .int .i64 0, .slice (some ⟨lb, lo, none⟩) n cl, .int .i64 (n : Int), .bool true, undef, undef, nilS, .int .i64 0, .slice (some ⟨lb, lo, none⟩) n cl, .int .i64 0, .int .i64 0, undef, undef, undef, undef, undef, undef, undef], []⟩ _) _) w7
 refine SG.pure (y := .int .i64 1000) rfl rfl rfl (fun w => by rfl) ?_
 show SG (X) St _ (G ((base 9).at ⟨#[.slice (some ⟨lb, lo, none⟩) n cl, undef, nilS, nilS, .int .i64 0, .int .i64 0, .slice (some ⟨lb, lo, none⟩) n cl, .int .i64 (n : Int), .bool true, undef, undef, nilS, .int .i64 0, .slice (some ⟨lb, lo, none⟩) n cl, .int .i64 0, .int .i64 0, .int .i64 1000, undef, undef, undef, undef, undef, undef], []⟩ _) _) w7
 refine SG.pure (y := .slice (some ⟨lb, lo, none⟩) n cl) rfl rfl rfl (fun w => by rfl) ?_
 show SG (X) St _ (G ((base 9).at ⟨#[.slice (some ⟨lb, lo, none⟩) n cl, undef, nilS, nilS, .int .i64 0, .int .i64 0, .slice (some ⟨lb, lo, none⟩) n cl, .int .i64 (n : Int), .bool true, undef, undef, nilS, .int .i64 0, .slice (some ⟨lb, lo, none⟩) n cl, .int .i64 0, .int .i64 0, .int .i64 1000, .slice (some ⟨lb, lo, none⟩) n cl, undef, undef, undef, undef, undef], []⟩ _) _) w7
 refine SG.one (R := fun y v' => y = .int .i64 (n : Int) ∧ v'.heap = v7.heap) rfl rfl rfl (by kernel_rfl) hl7 (fun v1 h1 => ⟨_, _, .inl (lnN v1 _ rfl), rfl, like_same hl7 h1⟩) (fun y1 w8 v8 hl8 hR8 => ?_)
 obtain ⟨rfl, e8⟩ := hR8
 show SG (X) St _ (G ((base 9).at ⟨#[.slice (some ⟨lb, lo, none⟩) n cl, undef, nilS, nilS, .int .i64 0, .int .i64 0, .slice (some ⟨lb, lo, none⟩) n cl, .int .i64 (n : Int), .bool true, undef, undef, nilS, .int .i64 0, .slice (some ⟨lb, lo, none⟩) n cl, .int .i64 0, .int .i64 0, .int .i64 1000, .slice (some ⟨lb, lo, none⟩) n cl, .int .i64 (n : Int), undef, undef, undef, undef], []⟩ _) _) w8
 refine SG.one (R := fun y v' => y = .int .i64 (n : Int) ∧ v'.heap = v8.heap) rfl rfl rfl (by kernel_rfl) hl8 (fun v1 h1 => ⟨_, _, .inl (mnN v1 _ h5 rfl rfl), rfl, like_same hl8 h1⟩) (fun y1 w9 v9 hl9 hR9 => ?_)
 obtain ⟨rfl, e9⟩ := hR9
 show SG (X) St _ (G ((base 9).at ⟨#[.slice (some ⟨lb, lo, none⟩) n cl, undef, nilS, nilS, .int .i64 0, .int .i64 0, .slice (some ⟨lb, lo, none⟩) n cl, .int .i64 (n : Int), .bool true, undef, undef, nilS, .int .i64 0, .slice (some ⟨lb, lo, none⟩) n cl, .int .i64 0, .int .i64 0, .int .i64 1000, .slice (some ⟨lb, lo, none⟩) n cl, .int .i64 (n : Int), .int .i64 (n : Int), undef, undef, undef], []⟩ _) _) w9
 refine SG.one (R := fun y v' => y = .slice (some ⟨lb, lo, none⟩) n cl ∧ v'.heap = v9.heap) rfl rfl rfl (by kernel_rfl) hl9 (fun v1 h1 => ⟨_, _, .inl (slN v1 _ hcl rfl rfl rfl), rfl, like_same hl9 h1⟩) (fun y1 w10 v10 hl10 hR10 => ?_)
 obtain ⟨rfl, e10⟩ := hR10
 show SG (X) St _ (G ((base 9).at ⟨#[.slice (some ⟨lb, lo, none⟩) n cl, undef, nilS, nilS, .int .i64 0, .int .i64 0, .slice (some ⟨lb, lo, none⟩) n cl, .int .i64 (n : Int), .bool true, undef, undef, nilS, .int .i64 0, .slice (some ⟨lb, lo, none⟩) n cl, .int .i64 0, .int .i64 0, .int .i64 1000, .slice (some ⟨lb, lo, none⟩) n cl, .int .i64 (n : Int), .int .i64 (n : Int), .slice (some ⟨lb, lo, none⟩) n cl, undef, undef], []⟩ _) _) w10
 refine SG.call' (f := 26) (vals := #[nilS, .int .i64 0, .slice (some ⟨lb, lo, none⟩) n cl]) rfl rfl rfl rfl Try.func26 (by kernel_rfl) rfl (by simp [Act.eval, Act.put]) ?_
 exact hnext _ w10 v10 (.mk ..) hl10 (e10.trans (e9.trans (e8.trans e7)))
set_option maxRecDepth 100000 in
set_option maxHeartbeats 1000000 in
theorem atInN {cs : List Frame} {w v : World} (hl : Like (X) w v) {cB : Code} (hcB : atB = cB)
  (hnext : ∀ (tA : Array Value) (w' v' : World), FN0 lb lo n cl tA → Like (X) w' v' → v'.heap = v.heap →
   SG (X) St m (G ((base 26).at ⟨tA, []⟩ (.inRegion (aw1 cB) [0] :: .code (aw2 cB) :: [])) cs) w') :
  SG (X) St (m + 10) (G ((base 26).at { tmps := #[nilS, .int .i64 0, .slice (some ⟨lb, lo, none⟩) n cl] ++ Array.replicate 76 undef, defers := [] } [.code cB]) cs) w := by
 conv at hcB => lhs; whnf
 subst hcB
 refine SG.le (m := 1 + 2 + (m + 1 + 1) + 1) ?_ (by omega)
 refine SG.seq ?_
 have e0 : (#[nilS, .int .i64 0, .slice (some ⟨lb, lo, none⟩) n cl] ++ Array.replicate 76 undef : Array Value) = #[nilS, .int .i64 0, .slice (some ⟨lb, lo, none⟩) n cl, undef, undef, undef, undef, undef, undef, undef, undef, undef, undef, undef, undef, undef, undef, undef, undef, undef, undef, undef, undef, undef, undef, undef, undef, undef, undef, undef, undef, undef, undef, undef, undef, undef, undef, undef, undef, undef, undef, undef, undef, undef, undef, undef, undef, undef, undef, undef, undef, undef, undef, undef, undef, undef, undef, undef, undef, undef, undef, undef, undef, undef, undef, undef, undef, undef, undef, undef, undef, undef, undef, undef, undef, undef, undef, undef, undef] := by kernel_rfl
 rw [e0]
 refine SG.region (m := m + 1 + 1) (R := fun t v' => t = #[nilS, .int .i64 0, .slice (some ⟨lb, lo, none⟩) n cl, undef, undef, undef, nilS, undef, undef, undef, undef, undef, undef, undef, undef, undef, undef, undef, undef, undef, undef, undef, undef, undef, undef, undef, undef, undef, undef, undef, undef, undef, undef, undef, undef, undef, undef, undef, undef, undef, undef, undef, undef, undef, undef, undef, undef, undef, undef, undef, undef, undef, undef, undef, undef, undef, undef, undef, undef, undef, undef, undef, undef, undef, undef, undef, undef, undef, undef, undef, undef, undef, undef, undef, undef, undef, undef, undef, undef] ∧ v'.heap = v.heap)
  rfl (by kernel_rfl) rfl hl (fun v1 h1 => ?_) (fun a4 w4 v4 hd hl4 hR4 => ?_)
 ·have hh := Lib.hid (like_same hl h1)
  clear hl hnext
  go_wp2
  exact hh.out
 obtain ⟨t4, d4⟩ := a4
 obtain rfl : d4 = [] := hd
 obtain ⟨ht, e4⟩ := hR4
 have ht1 : t4 = #[nilS, .int .i64 0, .slice (some ⟨lb, lo, none⟩) n cl, undef, undef, undef, nilS, undef, undef, undef, undef, undef, undef, undef, undef, undef, undef, undef, undef, undef, undef, undef, undef, undef, undef, undef, undef, undef, undef, undef, undef, undef, undef, undef, undef, undef, undef, undef, undef, undef, undef, undef, undef, undef, undef, undef, undef, undef, undef, undef, undef, undef, undef, undef, undef, undef, undef, undef, undef, undef, undef, undef, undef, undef, undef, undef, undef, undef, undef, undef, undef, undef, undef, undef, undef, undef, undef, undef, undef] := ht
 subst ht1
 clear ht
 refine SG.seq ?_
 refine SG.reg ?_
 exact hnext _ w4 v4 (.mk ..) hl4 e4
end
end Go.Proofs.Ytilpedopnkhppaa.Mx

/- awake's group: made, carried out, and awake at its return. Conditions: each theorem's own. -/
namespace Go.Proofs.Ytilpedopnkhppaa.Mx
open Go.Conc Go.Conc.Lib Br Go.RowKit Hp Rw Ro So
open Go.ConcR (WgAt wgBlock)
open Go.ConcN (sumTo upd sumTo_upd upd_ne upd_same)
theorem at2_eq : aw2 atB = at2 := by kernel_rfl
section
variable {H : Nat} {vI w v W : World}
theorem push_new {h : Array Obj} {o : Obj} {n : Nat} (hn : h.size = n) : (h.push o)[n]? = some o := by subst hn; simp
end
theorem al_step {b : Frame} (hb : b.kind = .normal) {tA : Array Value} {k : List Item} {cs : List Frame} (w : World) (d : Nat) : stepG Try.prog true (G (b.at ⟨tA, []⟩ (.inRegion (aw1 atB) [0] :: k)) cs) (w.at d) = .go (G (b.at (Act.put ⟨tA, []⟩ (some 7) (.pointer (some ⟨w.heap.size, 0, none⟩))) (.inRegion (aw1 atB) [] :: k)) cs) ((w.at d).alloc (wgBlock lnk.tWg 0 0)) #[] :=
 step_plain (o := ⟨some 7, .alloc 90, 0, "mux.go:65", #[], none⟩) (by kernel_rfl) rfl hb (alW (w.at d) _)
end Go.Proofs.Ytilpedopnkhppaa.Mx

/- Gather of any lists, whole: from its entry to behind its call, whoever calls. Conditions: each theorem's own. -/
namespace Go.Proofs.Ytilpedopnkhppaa.Mx
open Go.Conc Go.Conc.Lib Br Go.RowKit Hp Rw Ro So
open Go.ConcR (WgAt wgBlock)
open Go.ConcN (sumTo upd sumTo_upd upd_ne upd_same)
def wMN (v : World) : World := { v.alloc (wgBlock lnk.tWg 0 0) with heap := (v.alloc (wgBlock lnk.tWg 0 0)).heap.setIfInBounds v.heap.size (.coro none) }
section
variable {Z b n lb lo cl : Nat} {Shun : Loc → Prop} {X : Sh} {ad : Nat → Option Addr} {len cp : Nat → Nat} {vals : Nat → List Int} {v vM w W : World} {al : Value}
theorem wMN_size (v : World) : (wMN v).heap.size = v.heap.size + 1 := by
 show ((v.heap.push _).setIfInBounds v.heap.size _).size = _
 simp
theorem wMN_old (v : World) {c : Nat} (hc : c < v.heap.size) : (wMN v).heap[c]? = v.heap[c]? := by
 show ((v.heap.push _).setIfInBounds v.heap.size _)[c]? = _
 rw [Array.getElem?_setIfInBounds_ne (by omega), push_old hc]
theorem like_wMN (hXM : ∀ c, X c → c < v.heap.size) (hl : Like X w v) (d : Nat) : Like ((gN v.heap.size b n Shun ad len cp).Sd X 0) ((w.at d).alloc (wgBlock lnk.tWg 0 0)) (wMN v) := by
 have hw : w.heap.size = v.heap.size := hl.size.symm
 have hsd : ∀ c, (gN v.heap.size b n Shun ad len cp).Sd X 0 c ↔ (X c ∨ c = v.heap.size) := fun c => ⟨fun h => by
  rcases h with h | h | ⟨k, h, _⟩
  ·exact .inl h
  ·exact .inr h
  ·omega, fun h => h.elim .inl fun h => .inr (.inl h)⟩
 refine ⟨by rw [wMN_size]; show _ = (w.heap.push _).size; simp [hw], hl.os, hl.out, hl.osx, hl.outx, fun c hc => ?_, fun c hc => ?_, fun c hc => ?_⟩
 ·have hc1 : ¬ X c := fun e => hc ((hsd c).2 (.inl e))
  have hc2 : c ≠ v.heap.size := fun e => hc ((hsd c).2 (.inr e))
  show ((v.heap.push _).setIfInBounds v.heap.size _)[c]? = (w.heap.push _)[c]?
  rw [Array.getElem?_setIfInBounds_ne (by omega)]
  rcases Nat.lt_or_ge c v.heap.size with hlt | hge
  ·rw [push_old hlt, push_old (by omega), hl.off c hc1]
  ·rw [Array.getElem?_eq_none (by simp only [Array.size_push]; omega), Array.getElem?_eq_none (by simp only [Array.size_push]; omega)]
 ·rcases (hsd c).1 hc with h | rfl
  ·show ((v.heap.push _).setIfInBounds v.heap.size _)[c]? = _
   have := hXM c h
   rw [Array.getElem?_setIfInBounds_ne (by omega), push_old this]
   exact hl.dead c h
  ·show ((v.heap.push _).setIfInBounds v.heap.size _)[v.heap.size]? = _
   rw [Array.getElem?_setIfInBounds_self_of_lt (by simp)]
 ·rcases (hsd c).1 hc with h | rfl
  ·obtain ⟨o, ho, hs⟩ := hl.solid c h
   have := hXM c h
   refine ⟨o, ?_, hs⟩
   show (w.heap.push _)[c]? = _
   rw [push_old (by omega)]
   exact ho
  ·refine ⟨wgBlock lnk.tWg 0 0, ?_, .inl ⟨_, _, rfl, by simp⟩⟩
   show (w.heap.push _)[v.heap.size]? = _
   rw [← hw]; simp
noncomputable def gaFN (t : Array Value) : Frame := (base 9).at ⟨t, []⟩ (.inRegion (ga5 gaL) [10, 11] :: .inBlock 1 :: .code (ga4 gaL) :: .inLoop gaL :: .inBlock 0 :: .code (gaE gaB) :: [])
def AtAllocN (lb lo n cl : Nat) (X : Sh) (hp : Array Obj) (cs : List Frame) (g : Goroutine) (w : World) : Prop :=
 ∃ tA tg v, g = G ((base 26).at ⟨tA, []⟩ (.inRegion (aw1 atB) [0] :: .code (aw2 atB) :: [])) (gaFN tg :: cs) ∧ FN0 lb lo n cl tA ∧ FGN lb lo n cl tg ∧ Like X w v ∧ v.heap = hp
theorem gatherEnter (h1 : 1 ≤ n) (h5 : n ≤ 500) (hcl : n ≤ cl) {cs : List Frame} (hl : Like X w v) :
  SG X (AtAllocN lb lo n cl X v.heap cs) ((0 + 10) + 60) (G ((base 9).at { tmps := #[.slice (some ⟨lb, lo, none⟩) n cl] ++ Array.replicate 22 undef, defers := [] } [.code gaB]) cs) w := by
 refine gatherInN h1 h5 hcl hl rfl rfl fun tg w2 v2 hg hl2 e2 => ?_
 refine atInN hl2 rfl fun tA w3 v3 hA hl3 e3 => ?_
 exact SG.stop fun w₁ hr => ⟨tA, tg, v3, rfl, hA, hg, (like_atR hr hl3).1, e3.trans e2⟩
theorem BehindN.at_ {w₁ : World} (h : BehindN Z n X vals vM al w v) (hr : AtR w w₁) : BehindN Z n X vals vM al w₁ v := ⟨(like_atR hr h.like).1, h.row, h.size, h.same⟩
def AfterN (Z n : Nat) (X : Sh) (vals : Nat → List Int) (vM : World) (cb : Frame) (ac : Act) (opsc : Array Oper) (ic : Nat) (restc : List Nat) (kc : List Item) (cs : List Frame) (g : Goroutine) (w : World) : Prop :=
 ∃ al v, g = G (cb.at (ac.put ((opsc[ic]?).bind (·.dst)) al) (.inRegion opsc restc :: kc)) cs ∧ BehindN Z n X vals vM al w v
theorem gatherExit (h5 : n ≤ 500) {N : Nat} {tg : Array Value} (hg : FGN lb lo n cl tg) {cb : Frame} {ac : Act} {opsc : Array Oper} {ic : Nat} {restc : List Nat} {kc : List Item} {cs : List Frame} (hb : BehindN Z n X vals vM al w v) {t : Array Value} (ht : FT (gN Z b n Shun ad len cp) al (Z + 1) N 0 N t) {a : Goroutine}
  (hs : Slips a (G ((base 26).at (Act.put ⟨t, []⟩ (((tk17 (sndOf spa))[0]?).bind (·.dst)) (.tuple #[])) (.inRegion (tk17 (sndOf spa)) [] :: .code (sndOf (sndOf spa)) :: []))
   (gaFN tg :: cb.at ac (.inRegion opsc (ic :: restc) :: kc) :: cs))) : ∃ m, SG (DN Z n X) (AfterN Z n X vals vM cb ac opsc ic restc kc cs) m a w := by
 obtain ⟨m, hs⟩ := hs
 refine ⟨m + ((0 + 60) + 20), SG.slip ?_ hs⟩
 refine atOnceBackN ht (fun w v hb => ?_) hb rfl
 refine gatherBackN h5 hg (fun w v hb => ?_) hb rfl rfl
 exact SG.stop fun w₁ hr => ⟨al, v, rfl, hb.at_ hr⟩
theorem gatherLands (hX : ShunIn X Shun) (hXM : ∀ c, X c → c < v.heap.size) (hM : LL v.heap.size n lb lo ad len cp vals v) (hcl : n ≤ cl) {cb : Frame} {ac : Act} {opsc : Array Oper} {ic : Nat} {restc : List Nat} {kc : List Item} {cs : List Frame} {gs : Array Goroutine} {sl : Option (Nat × Nat)} {t : Trace} {q : Nat → Nat}
  (hl : Like X w v) (h0 : gs[0]? = some (G ((base 9).at { tmps := #[.slice (some ⟨lb, lo, none⟩) n cl] ++ Array.replicate 22 undef, defers := [] } [.code gaB]) (cb.at ac (.inRegion opsc (ic :: restc) :: kc) :: cs))) (hL : Leavers Try.prog t gs q) (hP : Past Shun w.heap.size t) :
  ∃ N gs' g w' sl' t' q', runNT Try.prog N (crowd gs w sl) t = (.next (crowd gs' w' sl'), t') ∧ gs'[0]? = some g ∧ AfterN v.heap.size n X vals v cb ac opsc ic restc kc cs g w' ∧ Leavers Try.prog t' gs' q' ∧ Past (fun l => Shun l ∨ OfG v.heap.size l) w'.heap.size t' := by
 obtain ⟨N1, gs1, g1, w1, sl1, t1, q1, r1, s1, h1, ⟨tA, tg, v1, rfl, hA, hg, hl1, e1⟩, hL1, hP1⟩ := goes_beside hX _ _ _ (gatherEnter hM.n1 hM.n5 hcl hl) _ gs w sl t q (atR_refl w) (Nat.le_refl _) h0 hL hP
 have ez : v1.heap.size = v.heap.size := by rw [e1]
 have hw1 : w1.heap.size = v1.heap.size := hl1.size.symm
 obtain ⟨N2, gs2, w2, sl2, t2, q2, r2, s2, h2, hL2, hP2, d2, rfl⟩ := quiet_step (K := fun w' => ∃ d, w' = (w1.at d).alloc (wgBlock lnk.tWg 0 0)) rfl (fun d => ⟨_, al_step rfl w1 d, d, rfl⟩) _ gs1 w1 sl1 t1 q1 (atR_refl w1) (Nat.le_refl _) h1 hL1 hP1
 obtain ⟨N3, gs3, w3, sl3, t3, q3, r3, s3, h3, hL3, hP3, d3, rfl⟩ := quiet_step (K := fun w' => ∃ d, w' = ((w1.at d2).alloc (wgBlock lnk.tWg 0 0)).at d) rfl (fun d => ⟨_, stepG_region_end, d, rfl⟩) _ gs2 _ sl2 t2 q2 (atR_refl _) (Nat.le_refl _) h2 hL2 hP2
 have hb1 : 1 ≤ gs3.size := (Array.getElem?_eq_some_iff.1 h3).1
 obtain ⟨tF, eF, hF⟩ : ∃ tF, Act.put ⟨tA, []⟩ (some 7) (.pointer (some ⟨w1.heap.size, 0, none⟩)) = ⟨tF, []⟩ ∧ FN v1.heap.size n lb lo cl tF := by
  rw [hw1]
  obtain ⟨u3, u4, u5, u6, u7, u8, u9, u10, u11, u12, u13, u14, u15, u16, u17, u18, u19, u20, u21, u22, u23, u24, u25, u26, u27, u28, u29, u30, u31, u32, u33, u34, u35, u36, u37, u38, u39, u40, u41, u42, u43, u44, u45, u46, u47, u48, u49, u50, u51, u52, u53, u54, u55, u56, u57, u58, u59, u60, u61, u62, u63, u64, u65, u66, u67, u68, u69, u70, u71, u72, u73, u74, u75, u76, u77, u78⟩ := hA
  exact ⟨_, rfl, .mk ..⟩
 rw [eF, at2_eq] at h3
 have hlk : Like ((gN v1.heap.size gs3.size n Shun ad len cp).Sd X 0) ((w1.at d2).alloc (wgBlock lnk.tWg 0 0)) (wMN v1) := like_wMN (fun c hc => by rw [ez]; exact hXM c hc) hl1 d2
 have hlk3 : Like ((gN v1.heap.size gs3.size n Shun ad len cp).Sd X 0) (((w1.at d2).alloc (wgBlock lnk.tWg 0 0)).at d3) (wMN v1) := like_at hlk d3
 have hwg : WgAt lnk.tWg v1.heap.size (((w1.at d2).alloc (wgBlock lnk.tWg 0 0)).at d3) 0 0 := by
  show (w1.heap.push _)[v1.heap.size]? = _
  rw [push_new hw1]
 have hM1 : LL v1.heap.size n lb lo ad len cp vals (wMN v1) := by
  rw [ez]
  exact hM.heap fun c hc => by rw [wMN_old v1 (by omega), e1]
 have hP3' : Past Shun v1.heap.size t3 := by rw [← hw1]; exact hP3
 obtain ⟨N4, m4, t4, r4, hD⟩ := groupRunsN (b := gs3.size) hX (fun c hc => by rw [ez]; exact hXM c hc) hb1 hM1 (wMN_size v1) hcl rfl (bA := base 26) rfl hF hlk3 hwg h3 rfl hL3 hP3' (sl := sl3)
 obtain ⟨gs5, w5, sl5, a5, q5, tT, al, v5, rfl, h5, hL5, hP5, hB, hT, hS⟩ := groupDoneN rfl hD
 obtain ⟨m, hG⟩ := gatherExit hM.n5 hg hB hT hS
 obtain ⟨N6, gs6, g6, w6, sl6, t6, q6, r6, s6, h6, ⟨al6, v6, e6, hB6⟩, hL6, hP6⟩ := goes_beside (shunN hX) _ _ _ hG _ gs5 w5 sl5 t4 q5 (atR_refl w5) (Nat.le_refl _) h5 hL5 hP5
 refine ⟨_, gs6, g6, w6, sl6, t6, q6, runNT_then r1 (runNT_then r2 (runNT_then r3 (runNT_then r4 r6))), h6, ?_, hL6, by rw [← ez]; exact hP6⟩
 rw [← ez]
 refine ⟨al6, v6, e6, hB6.like, hB6.row, hB6.size, fun c hc => ?_⟩
 rw [hB6.same c hc, wMN_old v1 hc, e1]
end
end Go.Proofs.Ytilpedopnkhppaa.Mx

/- awake by whoever, beside goroutines that only leave: from its entry to its return. Conditions: each theorem's own. -/
namespace Go.Proofs.Ytilpedopnkhppaa.Mx
open Go.Conc Go.Conc.Lib Br Go.RowKit Hp Rw Ro So
open Go.ConcR (WgAt wgBlock)
open Go.ConcN (sumTo upd sumTo_upd upd_ne upd_same)
theorem rowA {w : World} {b : Nat} {al : Value} (h : Rw.Row iT w b al (allN 3 valsA)) : Rw.Row iT w b al [(0, 0, 1), (0, 1, 2), (2, 0, 3)] := h
def AtTailN (H : Nat) (X : Sh) (vM : World) (cs : List Frame) (g : Goroutine) (w : World) : Prop := ∃ al t v, g = G ((base 8).at ⟨t, []⟩ [.code (aw2 awB)]) cs ∧ FW al t ∧ BehindN (H + 3) 3 X valsA vM al w v
theorem llA {H : Nat} {vI v : World} (hs : vI.heap.size = H) (e : v.heap = ((vI.heap.push (.cells #[.int .i64 1, .int .i64 2] 3)).push (.cells #[.int .i64 3] 3)).push (.cells (rowsA H).toArray 28)) : LL (H + 3) 3 (H + 2) 0 (adA H) lenA lenA valsA v ∧ v.heap.size = H + 3 ∧ ∀ b, b < H → v.heap[b]? = vI.heap[b]? := by
 have hv : v.heap.size = H + 3 := by rw [e]; simp [hs]
 have p0 : Hp.Blk v H [.int .i64 1, .int .i64 2] 3 := by
  show v.heap[H]? = _
  rw [e, push_old (by simp only [Array.size_push]; omega), push_old (by simp only [Array.size_push]; omega), push_new hs]
 have p1 : Hp.Blk v (H + 1) [.int .i64 3] 3 := by
  show v.heap[H + 1]? = _
  rw [e, push_old (by simp only [Array.size_push]; omega), push_new (by simp only [Array.size_push]; omega)]
 have p2 : Hp.Blk v (H + 2) (rowsA H) 28 := by
  show v.heap[H + 2]? = _
  rw [e, push_new (by simp only [Array.size_push]; omega)]
 refine ⟨⟨by omega, by omega, fun k => ?_, fun k hk => ?_, fun k hk => ?_, fun k h => ?_, by omega, fun k hk => ?_, fun k i x hk hx => ?_⟩, hv, fun b hb => ?_⟩
 ·unfold lenA
  split
  ·omega
  ·split <;> omega
 ·rcases (show k = 0 ∨ k = 1 ∨ k = 2 by omega) with rfl | rfl | rfl <;> rfl
 ·unfold valsA
  rw [if_neg (by omega), if_neg (by omega)]
 ·unfold adA at h
  unfold lenA
  by_cases e0 : k = 0
  ·simp [e0] at h
  ·by_cases e2 : k = 2
   ·simp [e0, e2] at h
   ·simp [e0, e2]
 ·rcases (show k = 0 ∨ k = 1 ∨ k = 2 by omega) with rfl | rfl | rfl <;> exact p2.cell rfl
 ·rcases (show k = 0 ∨ k = 1 ∨ k = 2 by omega) with rfl | rfl | rfl
  ·have hx' : ([1, 2] : List Int)[i]? = some x := hx
   rcases (show i = 0 ∨ i = 1 ∨ 2 ≤ i by omega) with rfl | rfl | hi
   ·obtain rfl : x = 1 := by simpa using hx'.symm
    exact ⟨⟨H, 0, none⟩, rfl, show H < H + 3 by omega, p0.cell rfl⟩
   ·obtain rfl : x = 2 := by simpa using hx'.symm
    exact ⟨⟨H, 1, none⟩, by simp [Grp.elems, adA, lenA, Addr.add, List.range, List.range.loop], show H < H + 3 by omega, p0.cell rfl⟩
   ·rw [List.getElem?_eq_none (by simp; omega)] at hx'; cases hx'
  ·have hx' : ([] : List Int)[i]? = some x := hx
   simp at hx'
  ·have hx' : ([3] : List Int)[i]? = some x := hx
   rcases (show i = 0 ∨ 1 ≤ i by omega) with rfl | hi
   ·obtain rfl : x = 3 := by simpa using hx'.symm
    exact ⟨⟨H + 1, 0, none⟩, rfl, show H + 1 < H + 3 by omega, p1.cell rfl⟩
   ·rw [List.getElem?_eq_none (by simp; omega)] at hx'; cases hx'
 ·rw [e, push_old (by simp only [Array.size_push]; omega), push_old (by simp only [Array.size_push]; omega), push_old (by omega)]
section
variable {H : Nat} {X : Sh} {Shun : Loc → Prop} {vM : World} {al : Value} {St : Goroutine → World → Prop} {m : Nat}
set_option maxRecDepth 100000 in
set_option maxHeartbeats 4000000 in
theorem awInN {cs : List Frame} {w v : World} (hl : Like (X) w v) (hH : v.heap.size = H) {cB : Code} (hcB : awB = cB)
  (hnext : ∀ tw w' v', FAw tw → Like (X) w' v' → v'.heap = ((v.heap.push (.cells #[.int .i64 1, .int .i64 2] 3)).push (.cells #[.int .i64 3] 3)).push (.cells (rowsA H).toArray 28) →
   SG (X) St m (G ((base 9).at { tmps := #[.slice (some ⟨H + 2, 0, none⟩) 3 3] ++ Array.replicate 22 undef, defers := [] } [.code gaB]) ((base 8).at ⟨tw, []⟩ (.inRegion (aw1 cB) [3, 4] :: [.code (aw2 cB)]) :: cs)) w') :
  SG (X) St (m + 20) (G ((base 8).at { tmps := #[] ++ Array.replicate 79 undef, defers := [] } [.code cB]) cs) w := by
 conv at hcB => lhs; whnf
 subst hcB
 refine SG.le (m := 1 + 2 + ((m + 1) + 1 + 1 + 1 + 1 + 1) + 1) ?_ (by omega)
 refine SG.seq ?_
 show SG (X) St _ (G ((base 8).at ⟨#[undef, undef, undef, undef, undef, undef, undef, undef, undef, undef, undef, undef, undef, undef, undef, undef, undef, undef, undef, undef, undef, undef, undef, undef, undef, undef, undef, undef, undef, undef, undef, undef, undef, undef, undef, undef, undef, undef, undef, undef, undef, undef, undef, undef, undef, undef, undef, undef, undef, undef, undef, undef, undef, undef, undef, undef, undef, undef, undef, undef, undef, undef, undef, undef, undef, undef, undef, undef, undef, undef, undef, undef, undef, undef, undef, undef, undef, undef, undef], []⟩ _) _) w
 refine SG.region (m := (m + 1) + 1 + 1 + 1 + 1 + 1) (R := fun t v' => t = #[.bool false, undef, undef, undef, undef, undef, undef, undef, undef, undef, undef, undef, undef, undef, undef, undef, undef, undef, undef, undef, undef, undef, undef, undef, undef, undef, undef, undef, undef, undef, undef, undef, undef, undef, undef, undef, undef, undef, undef, undef, undef, undef, undef, undef, undef, undef, undef, undef, undef, undef, undef, undef, undef, undef, undef, undef, undef, undef, undef, undef, undef, undef, undef, undef, undef, undef, undef, undef, undef, undef, undef, undef, undef, undef, undef, undef, undef, undef, undef] ∧ v'.heap = v.heap)
  rfl (by kernel_rfl) rfl hl (fun v1 h1 => ?_) (fun a4 w4 v4 hd hl4 hR4 => ?_)
 ·have hh := Lib.hid (like_same hl h1)
  clear hl hnext
  go_wp2
  exact hh.out
 obtain ⟨t4, d4⟩ := a4
 obtain rfl : d4 = [] := hd
 obtain ⟨ht, e4⟩ := hR4
 have ht1 : t4 = #[.bool false, undef, undef, undef, undef, undef, undef, undef, undef, undef, undef, undef, undef, undef, undef, undef, undef, undef, undef, undef, undef, undef, undef, undef, undef, undef, undef, undef, undef, undef, undef, undef, undef, undef, undef, undef, undef, undef, undef, undef, undef, undef, undef, undef, undef, undef, undef, undef, undef, undef, undef, undef, undef, undef, undef, undef, undef, undef, undef, undef, undef, undef, undef, undef, undef, undef, undef, undef, undef, undef, undef, undef, undef, undef, undef, undef, undef, undef, undef] := ht
 subst ht1
 clear ht
 refine SG.seq ?_
 refine SG.reg ?_
 refine SG.one (R := fun y v' => y = .slice (some ⟨H, 0, none⟩) 2 2 ∧ v'.heap = v.heap.push (.cells #[.int .i64 1, .int .i64 2] 3)) rfl rfl rfl (by kernel_rfl) hl4 (fun v1 h1 => ⟨_, _, .inl (bs1 v1 _ rfl rfl), ?_⟩) (fun y1 w5 v5 hl5 hR5 => ?_)
 ·have e := (like_same hl4 h1).trans e4
  exact ⟨by rw [e, hH], by simp only [World.alloc]; rw [e]⟩
 obtain ⟨rfl, e5⟩ := hR5
 refine SG.one (R := fun y v' => y = .slice (some ⟨H + 1, 0, none⟩) 1 1 ∧ v'.heap = (v.heap.push (.cells #[.int .i64 1, .int .i64 2] 3)).push (.cells #[.int .i64 3] 3)) rfl rfl rfl (by kernel_rfl) hl5 (fun v1 h1 => ⟨_, _, .inl (bs2 v1 _ rfl), ?_⟩) (fun y1 w6 v6 hl6 hR6 => ?_)
 ·have e := (like_same hl5 h1).trans e5
  exact ⟨by rw [e, Array.size_push, hH], by simp only [World.alloc]; rw [e]⟩
 obtain ⟨rfl, e6⟩ := hR6
 refine SG.one (R := fun y v' => y = .slice (some ⟨H + 2, 0, none⟩) 3 3 ∧ v'.heap = ((v.heap.push (.cells #[.int .i64 1, .int .i64 2] 3)).push (.cells #[.int .i64 3] 3)).push (.cells (rowsA H).toArray 28)) rfl rfl rfl (by kernel_rfl) hl6 (fun v1 h1 => ⟨_, _, .inl (bs3 v1 _ (a := some ⟨H, 0, none⟩) (b := some ⟨H + 1, 0, none⟩) (n := 2) (m := 1) rfl rfl rfl), ?_⟩) (fun y1 w7 v7 hl7 hR7 => ?_)
 ·have e := (like_same hl6 h1).trans e6
  exact ⟨by rw [e, Array.size_push, Array.size_push, hH], by simp only [World.alloc]; rw [e]; rfl⟩
 obtain ⟨rfl, e7⟩ := hR7
 refine SG.call' (f := 9) (vals := #[.slice (some ⟨H + 2, 0, none⟩) 3 3]) rfl rfl rfl rfl Try.func9 (by kernel_rfl) rfl (by simp [Act.eval, Act.put]) ?_
 exact hnext _ w7 v7 (.mk ..) hl7 e7
set_option maxRecDepth 100000 in
set_option maxHeartbeats 4000000 in
theorem awBackN {t : Array Value} (ht : FAw t) {cs : List Frame} {w v : World} (hb : BehindN (H + 3) 3 X valsA vM al w v) {cB : Code} (hcB : awB = cB) :
  SG (DN (H + 3) 3 X) (AtTailN H X vM cs) 2 (G ((base 8).at (Act.put ⟨t, []⟩ (((aw1 cB)[3]?).bind (·.dst)) al) (.inRegion (aw1 cB) [4] :: [.code (aw2 cB)])) cs) w := by
 obtain ⟨u1, u2, u3, u4, u5, u6, u7, u8, u9, u10, u11, u12, u13, u14, u15, u16, u17, u18, u19, u20, u21, u22, u23, u24, u25, u26, u27, u28, u29, u30, u31, u32, u33, u34, u35, u36, u37, u38, u39, u40, u41, u42, u43, u44, u45, u46, u47, u48, u49, u50, u51, u52, u53, u54, u55, u56, u57, u58, u59, u60, u61, u62, u63, u64, u65, u66, u67, u68, u69, u70, u71, u72, u73, u74, u75, u76, u77, u78⟩ := ht
 have hcB' := hcB
 conv at hcB => lhs; whnf
 subst hcB
 refine SG.pure (y := al) rfl rfl rfl (fun w => rfl) ?_
 refine SG.regEnd ?_
 refine SG.stop fun w₁ hr => ⟨al, #[.bool false, al, u2, u3, u4, u5, u6, u7, u8, u9, u10, u11, u12, al, u14, u15, u16, u17, u18, u19, u20, u21, u22, u23, u24, u25, u26, u27, u28, u29, u30, u31, u32, u33, u34, u35, u36, u37, u38, u39, u40, u41, u42, u43, u44, u45, u46, u47, u48, u49, u50, u51, u52, u53, u54, u55, u56, u57, u58, u59, u60, u61, u62, u63, u64, u65, u66, u67, u68, u69, u70, u71, u72, u73, u74, u75, u76, u77, u78], v, ?_, .mk .., hb.at_ hr⟩
 rw [hcB']
 rfl
theorem tail_evN {t : Array Value} (ht : FW al t) {cs : List Frame} {w v : World} (hb : BehindN (H + 3) 3 X valsA vM al w v) :
  Ev Try.prog (DN (H + 3) 3 X) cs (StopG Try.prog [] (DN (H + 3) 3 X) (fun f t v' => f = 8 ∧ t.getD 0 undef = .bool true ∧ ∃ v₁, v₁.heap = v.heap ∧ Kept (fun _ => False) v₁ v')) ⟨(base 8).at ⟨t, []⟩ [.code (aw2 awB)], [], w⟩ := by
 refine ev_gates Mo.noEarly Mo.funs (br := (base 8).at ⟨t, []⟩ [.code (aw2 awB)]) (bg := (base 8).at ⟨t, []⟩ [.code (aw2 awB)]) ?_ hb.like ?_
 ·exact ⟨rfl, rfl, rfl, rfl, rfl, rfl, rfl, rfl, rfl, .code (.same (okCode_ok awOk)) .nil⟩
 ·intro v1 h1
  have hh := like_same hb.like h1
  obtain ⟨N, fr, v', h1, h2, h3, h4⟩ := lone_of_wp (b := base 8) (R := fun f t v' => (f = 8 ∧ t.getD 0 undef = .bool true) ∧ Kept (fun _ => False) v1 v') (Code.wp_mono (fun e a' w' h => ⟨h.1, ⟨rfl, h.2.2.1⟩, h.2.2.2⟩) (tail_wp rfl v1 (rowA (row_heap hb.row hh)) ht))
  exact ⟨N, fr, v', h1, h2, h3.1, h3.2, v1, hh, h4⟩
theorem tailLandsN (hX : ShunIn X Shun) {cs : List Frame} {gs : Array Goroutine} {g : Goroutine} {w : World} {sl : Option (Nat × Nat)} {t : Trace} {q : Nat → Nat} (h0 : gs[0]? = some g) (hS : AtTailN H X vM cs g w) (hL : Leavers Try.prog t gs q) (hP : Past (fun l => Shun l ∨ OfG (H + 3) l) w.heap.size t) :
  Lands Try.prog (fun l => Shun l ∨ OfG (H + 3) l) (AtRet (DN (H + 3) 3 X) (fun v => H + 20 ≤ v.heap.size ∧ ∀ b, b < H + 3 → v.heap[b]? = vM.heap[b]?) cs) gs w sl t := by
 obtain ⟨al, tt, v, rfl, ht, hb⟩ := hS
 obtain ⟨N, gs', y, sl', t', q', hr, hs, h0', hSt, hL', hP'⟩ := ev_beside (shunN hX) (fun x d h => stopG_at x d h) (tail_evN ht hb) _ gs w sl t q ⟨w.drawn, rfl⟩ (Nat.le_refl _) h0 hL hP
 refine ⟨N, gs', _, y.w, sl', t', q', hr, hs, h0', ?_, hL', hP'⟩
 obtain ⟨s1, s2, s3, s4, s5⟩ := hSt
 rcases s5 with ⟨s5, v', hl, e1, e2, v1, e3, k⟩ | ⟨_, ops, i, kk, hm, _⟩
 ·refine ⟨y.fr, v', by rw [s1]; rfl, s2, s3, s4, s5, e1, e2, hl, ?_, fun b hb' => ?_⟩
  ·have := k.size
   rw [e3] at this
   have := hb.size
   omega
  ·rw [k.block b (by rw [e3]; have := hb.size; omega) (fun f => f), e3]
   exact hb.same b hb'
 ·cases hm
def AtGa (H : Nat) (X : Sh) (hp : Array Obj) (cs : List Frame) (g : Goroutine) (w : World) : Prop :=
 ∃ tw v, g = G ((base 9).at { tmps := #[.slice (some ⟨H + 2, 0, none⟩) 3 3] ++ Array.replicate 22 undef, defers := [] } [.code gaB]) ((base 8).at ⟨tw, []⟩ (.inRegion (aw1 awB) [3, 4] :: [.code (aw2 awB)]) :: cs) ∧ FAw tw ∧ Like X w v ∧ v.heap = ((hp.push (.cells #[.int .i64 1, .int .i64 2] 3)).push (.cells #[.int .i64 3] 3)).push (.cells (rowsA H).toArray 28)
theorem awakeLandsN {cs : List Frame} {gs : Array Goroutine} {w v : World} {sl : Option (Nat × Nat)} {t : Trace} {q : Nat → Nat} (hX : ShunIn X Shun) (hXM : ∀ c, X c → c < v.heap.size) (hl : Like X w v) (h0 : gs[0]? = some (G ((base 8).at { tmps := #[] ++ Array.replicate 79 undef, defers := [] } [.code awB]) cs)) (hL : Leavers Try.prog t gs q) (hP : Past Shun w.heap.size t) :
  ∃ N gs' g w' sl' t' q', runNT Try.prog N (crowd gs w sl) t = (.next (crowd gs' w' sl'), t') ∧ gs'[0]? = some g ∧ AtRet (DN (v.heap.size + 3) 3 X) (fun v' => v.heap.size + 20 ≤ v'.heap.size ∧ ∀ b, b < v.heap.size → v'.heap[b]? = v.heap[b]?) cs g w' ∧ Leavers Try.prog t' gs' q' ∧ Past (fun l => Shun l ∨ OfG (v.heap.size + 3) l) w'.heap.size t' := by
 have hin : SG X (AtGa v.heap.size X v.heap cs) (0 + 20) (G ((base 8).at { tmps := #[] ++ Array.replicate 79 undef, defers := [] } [.code awB]) cs) w :=
  awInN hl rfl rfl fun tw w1 v1 hw hl1 e1 => SG.stop fun w₁ hr => ⟨tw, v1, rfl, hw, (like_atR hr hl1).1, e1⟩
 obtain ⟨N1, gs1, g1, w1, sl1, t1, q1, r1, s1, h1, ⟨tw, v1, rfl, hw, hl1, e1⟩, hL1, hP1⟩ := goes_beside hX _ _ _ hin _ gs w sl t q (atR_refl w) (Nat.le_refl _) h0 hL hP
 generalize hH : v.heap.size = H at *
 obtain ⟨hM, hz, ho⟩ := llA hH e1
 obtain ⟨N2, gs2, g2, w2, sl2, t2, q2, r2, h2, ⟨al, v2, rfl, hB⟩, hL2, hP2⟩ := gatherLands (sl := sl1) hX (fun c hc => by rw [hz]; have := hXM c hc; omega) (by rw [hz]; exact hM) (Nat.le_refl 3) hl1 h1 hL1 hP1
 rw [hz] at hB hP2
 obtain ⟨N3, gs3, g3, w3, sl3, t3, q3, r3, s3, h3, hS3, hL3, hP3⟩ := goes_beside (shunN hX) _ _ _ (awBackN hw hB rfl) _ gs2 w2 sl2 t2 q2 (atR_refl w2) (Nat.le_refl _) h2 hL2 hP2
 obtain ⟨N7, gs7, g7, w7, sl7, t7, q7, r7, s7, h7, hS7, hL7, hP7⟩ := tailLandsN hX (sl := sl3) h3 hS3 hL3 hP3
 obtain ⟨fr, v7, x1, x2, x3, x4, x5, x6, x7, x8, x9, x10⟩ := hS7
 refine ⟨_, gs7, g7, w7, sl7, t7, q7, runNT_then r1 (runNT_then r2 (runNT_then r3 r7)), h7, ⟨fr, v7, x1, x2, x3, x4, x5, x6, x7, x8, x9, fun b hb => ?_⟩, hL7, hP7⟩
 rw [x10 b (by omega)]
 exact ho b hb
end
end Go.Proofs.Ytilpedopnkhppaa.Mx

