/- Many senders and one who takes: whatever step of a sender's. Conditions: each theorem's own. -/
import Derived.Test.YtilpedopnkhppaaMfG8
import Derived.Conc.TokenTrace
set_option linter.unusedVariables false
set_option linter.unusedSimpArgs false
namespace Go.Proofs.Ytilpedopnkhppaa.Mx
open Go.Conc
open Go.ConcN (sumTo upd sumTo_upd upd_ne upd_same sumTo_congr le_sumTo sumTo_le RelBy Deaf_still)
open Go.ConcR (KK wgBlock WgAt stA smA rd wr DC0 Bk ofEvent_loc_mark bk_of_mute)
open Ph (Tag WD MS)
section
variable {p : Ph} {M : Nat} {gs : Array Goroutine} {w w' : World} {sl : Option (Nat × Nat)} {t : Trace} {j f0 d0 : Nat} {D : Nat → WD} {T : Nat → Nat} {tag : Tag} {a : Goroutine} {st sm : Int} {q : Nat → Nat}
theorem bkCell {Wg : Nat} (a : Addr) (x : Bool) (h : a.block = Wg) : Bk Wg ⟨.cell a, x, true⟩ := .inr (.inr ⟨a, x, rfl, h⟩)
theorem asideCell (w : World) (a : Addr) (v : Value) : Aside a.block w (w.setCell a v) := by
 refine ⟨rfl, rfl, rfl, by simp [World.setCell], fun k hk => heap_setCell_ne' (Ne.symm hk) v⟩
theorem closeStep (hk : p.Ok) (S : Sit p M gs w t j D T tag f0 d0 a st sm q) {k : Nat} (hj : k < j) {g : Goroutine} {m : Nat} (hg : gs[p.b + k]? = some g) (hD : D k = ⟨8, (p.vs k).length, m + 1, 0, false⟩) (h : p.SClose k g w) :
  Falls p M (mu p M j D tag f0 q) (runT p.P (crowd gs w sl) (p.b + k)) t := by
 obtain ⟨hr, hmw, g₂, hgo, hr2, m₂, hm₂⟩ := h
 have hjn := S.core.jn
 have hc := S.core.chan k hj
 have hWk := hk.chWg k (by omega)
 have hat := hc.at_
 have hTl : T k ≤ (p.vs k).length := Nat.le_of_not_lt fun h => by have := hc.done h; rw [hD] at this; simp at this
 have htk : min (T k) (p.vs k).length = T k := Nat.min_eq_left hTl
 have hroom := hc.room
 rw [hD] at hat hroom
 simp only [htk, show (decide ((8 : Nat) ≤ 7)) = false from rfl] at hat hroom
 have hgo' := hgo w _ _ _ _ (S.kl hj) hat
 have hlow : p.ch k < p.B := hk.chLow k (by omega)
 have hchne : ∀ k', k' < j → k' ≠ k → p.ch k ≠ p.ch k' := fun k' hk' e h => e (hk.chInj k' k (by omega) (by omega) h.symm)
 refine goK hk S hj hg hgo' (.t0 hm₂) (Far.setChan hj hWk _ _ _ _ _ _ _) (fun k' hk' e => heap_setChan_ne' (hchne k' hk' e) _ _ _ _ _ _)
  ⟨by rw [heap_setChan_self' hat, htk]; simp, Nat.le_refl _, by rw [htk]; exact hTl, hroom, (fun h => by cases h), fun _ => rfl, fun _ => Nat.le_refl _, by omega⟩ (fun e he => ?_) (fun i x hi hx hm hrd => ?_) (by rw [hD]; rfl) (fun h => by simp at h) (S.wg.of_block (heap_setChan_ne' hWk _ _ _ _ _ _))
  (fun tag' ht _ => (S.mode.counted hj (by rw [hD]; simp) (by simp)).retag ht) (fun tag' ht hcl => ?_) (.inl ⟨by simp only [wt, hD]; omega, by simp [cnt, hD]⟩)
 ·simp only [List.mem_toArray, List.mem_cons, List.not_mem_nil, or_false] at he
  rcases he with rfl | rfl
  ·refine ⟨fun y hy => ?_, hlow, by simp [MemAct.ofEvent]⟩
   simp only [MemAct.ofEvent, MemAct.touch?, Option.some.injEq] at hy
   subst hy
   exact .inr ⟨hk.rdObj k (by omega), rfl⟩
  ·exact ⟨fun y hy => by simp [MemAct.ofEvent, MemAct.touch?] at hy, hlow, by simp [MemAct.ofEvent]⟩
 ·refine ⟨x, hx, hm, .inr ⟨p.b + k, ?_, ?_⟩⟩
  ·obtain ⟨op, ho, hox⟩ := touch_of hx
   rcases getElem?_append_cases ho with ⟨hlt, _⟩ | ⟨_, hmem⟩
   ·omega
   ·obtain ⟨e, _, rfl⟩ := Go.Conc.mem_ofEvents hmem
    simp [Trace.g?, ho]
  ·have hdk := S.core.deafK k hj
   rw [hD] at hdk
   have e := Go.Conc.deaf_quiet (t := t) (g := p.b + k) (u := MemOp.ofEvents (p.b + k) g.frame.fn g.frame.place #[⟨.obj (p.ch k), false, true⟩, ⟨.obj (p.ch k), true, true⟩]) (fun op hop d => by
    obtain ⟨e, he, rfl⟩ := Go.Conc.mem_ofEvents hop
    simp only [List.mem_toArray, List.mem_cons, List.not_mem_nil, or_false] at he
    rcases he with rfl | rfl <;> rfl) (i - t.size) (by
     obtain ⟨op, ho, hox⟩ := touch_of hx
     have := lt_size_of_getElem? ho
     rw [Array.size_append] at this
     omega)
   rw [show t.size + (i - t.size) = i by omega] at e
   rw [e]; exact hdk
 ·intro m' x y e k' hk' ho
  have e' : tag = .sel m' x y := by
   rcases ht with rfl | ⟨_, rfl⟩ | ⟨_, _, _, _, rfl⟩
   ·exact e
   ·cases e
   ·cases e
  by_cases ek : k' = k
  ·subst ek
   exact absurd ⟨k', hk', ho, _, _, _, _, _, heap_setChan_self' hat _ _ _ _ _ _⟩ (hcl hmw (.inl hr2) m' x y e)
  ·rw [upd_ne D _ ek]; exact S.sq m' x y e' k' hk' ho
theorem stepSender (hk : p.Ok) (S : Sit p M gs w t j D T tag f0 d0 a st sm q) {k : Nat} (hj : k < j) {g : Goroutine} (hg : gs[p.b + k]? = some g) (hrun : g.status = .running) :
  Falls p M (mu p M j D tag f0 q) (runT p.P (crowd gs w sl) (p.b + k)) t := by
 obtain ⟨g₁, hg₁, hs⟩ := S.core.wk k hj
 obtain rfl : g = g₁ := by rw [hg] at hg₁; exact Option.some.inj hg₁
 have hjn := S.core.jn
 have hn31 := hk.n31
 have hW := hk.lowWg
 have hb := ms_j S.ms
 have hdk := S.core.deafK k hj
 have hVj := Vc_le j D
 have hKL := S.kl hj
 have hL := S.live
 -- a step behind the release in which nothing turns
 have idle : ∀ {g' : Goroutine} {d' : WD}, stepG p.P false g w = .go g' w #[] → p.WS k d' g' → (D k).stage ≤ 6 → d'.stage = (D k).stage → d'.sent = (D k).sent → d'.deaf = (D k).deaf → d'.park = false → d'.fuel < (D k).fuel →
   Falls p M (mu p M j D tag f0 q) (runT p.P (crowd gs w sl) (p.b + k)) t := fun hgo hs' h6 h1 h2 h3 h4 h5 =>
  bookK hk S hj hg hgo hs' (.refl _ w) S.wg (by simp) h6 (by omega) h2 h4 (by simp) (by rw [h3]; rfl) (fun tag' hr _ => (S.mode.same h1).retag hr) (.inr ⟨by simp only [wt, h1, h2], by simp only [cnt, h1], h5⟩)
 generalize hDk : D k = d at hs
 cases hs with
 | @send s m g hs h =>
  rcases Goes.split h (w₁ := w) hKL with hstop | ⟨m', g', w', es, rfl, hgo, ⟨rfl, hev⟩, hg'⟩
  ·cases hl : (p.vs k).drop s with
   | nil =>
    rw [hl] at hstop
    have hsl : s = (p.vs k).length := by
     have := congrArg List.length hl
     simp at this
     omega
    subst hsl
    exact closeStep hk S hj hg hDk hstop
   | cons v l =>
    rw [hl] at hstop
    obtain ⟨_, g₂, z, hgo, hn⟩ := hstop
    exact sendStep hk S hj hg hDk hl (hgo w hKL) hn
  ·exact idleR hk S hj hg hgo (.send hs (goes_rk hg' _)) hev (by rw [hDk]) (by rw [hDk]) (by rw [hDk]) (fun h => by cases h) (by simp) (by rw [hDk]; simp)
 | park _ _ _ => cases hrun
 | @t0 m g h =>
  rcases Goes.split h (w₁ := w) hKL with hstop | ⟨m', g', w', es, rfl, hgo, ⟨rfl, hev⟩, hg'⟩
  ·obtain ⟨_, g', hgo, m₂, hm₂⟩ := hstop
   have hc := S.core.chan k hj
   refine goK hk S hj hg hgo (.t0d hm₂) (Far.refl _ _) (fun _ _ _ => rfl) (hc.same (by rw [hDk]) (by rw [hDk]; simp) (fun h => by cases h)) (fun e he => ?_) (fun i x hi hx hm hr => ?_) (by rw [hDk]; rfl) (fun _ => ⟨t.size, ?_⟩) S.wg
    (fun tag' hr _ => (S.mode.counted hj (by rw [hDk]; simp) (by simp)).retag hr) (fun tag' hr _ => selQ_past S.sq hr (by rw [hDk]; simp)) (.inl ⟨by simp only [wt, hDk]; omega, by simp [cnt, hDk]⟩)
   ·simp only [List.mem_toArray, List.mem_cons, List.not_mem_nil, or_false] at he
    subst he
    exact ⟨(fun y hy => by cases hy), hW, by simp [Go.ConcR.mk, MemAct.ofEvent]⟩
   ·obtain ⟨op, hop, hox⟩ := touch_new hi hx
    obtain ⟨e, he, rfl⟩ := Go.Conc.mem_ofEvents hop
    simp only [List.mem_toArray, List.mem_cons, List.not_mem_nil, or_false] at he
    subst he
    cases hox
   ·exact Go.ConcN.RelBy.new (by rw [hdk, hDk]) _ _
  ·exact idleR hk S hj hg hgo (.t0 (goes_rk hg' _)) hev (by rw [hDk]) (by rw [hDk]) (by rw [hDk]) (fun h => by cases h) (by simp) (by rw [hDk]; simp)
 | @t0d m g h =>
  rcases Goes.split h (w₁ := w) hKL with hstop | ⟨m', g', w', es, rfl, hgo, ⟨rfl, rfl⟩, hg'⟩
  ·obtain ⟨_, g', hgo, m₂, hm₂⟩ := hstop
   exact bookK hk S hj hg hgo (.t1 hm₂) (.refl _ w) S.wg (by intro e he; simp at he; subst he; exact .inl rfl) (by rw [hDk]; simp) (by simp) (by rw [hDk]) rfl (by intro jx e he; exact .inl (by have := Array.mem_of_getElem? he; simp at this; subst this; rfl)) (by rw [hDk]; rfl)
    (fun tag' hr _ => (S.mode.counted hj (by rw [hDk]; simp) (by simp)).retag hr) (.inl ⟨by simp only [wt, hDk]; omega, by simp [cnt, hDk]⟩)
  ·exact idle hgo (.t0d (goes_rk hg' _)) (by rw [hDk]; simp) (by rw [hDk]) (by rw [hDk]) (by rw [hDk]) rfl (by rw [hDk]; simp)
 | @t1 m g h =>
  rcases Goes.split h (w₁ := w) hKL with hstop | ⟨m', g', w', es, rfl, hgo, ⟨rfl, rfl⟩, hg'⟩
  ·obtain ⟨_, hall⟩ := hstop
   have hc1 : cnt (D k) = 1 := by simp [cnt, hDk]
   have hV1 : 1 ≤ Vc j D := by have := le_sumTo (f := fun x => cnt (D x)) hj; simp only [Vc]; omega
   have bk2 : ∀ e ∈ #[rd (stA p.Wg), wr (stA p.Wg)], Bk p.Wg e := by intro e he; simp at he; rcases he with rfl | rfl <;> exact bkCell _ _ rfl
   have df2 : ∀ jx e, (#[rd (stA p.Wg), wr (stA p.Wg)] : Array Event)[jx]? = some e → (MemAct.ofEvent e).touch? = none ∨ 0 < deafBehind (D k).deaf ((#[rd (stA p.Wg), wr (stA p.Wg)] : Array Event).extract 0 jx) := by
    intro jx e he
    rw [hDk]
    match jx, he with
    | 0, _ => exact .inr (by simp [deafBehind])
    | 1, _ => exact .inr (by simp [deafBehind, rd])
    | jx + 2, he => simp at he
   have dd2 : ∀ {d' : WD}, d'.deaf = 1 → deafBehind (D k).deaf #[rd (stA p.Wg), wr (stA p.Wg)] = d'.deaf := fun h => by rw [hDk, h]; rfl
   have opq : ∀ d' : WD, d'.stage = 1 → OpenSt j D → OpenSt j (upd D k d') := fun d' h1 h a ha => by
    by_cases e : a = k
    ·subst e; rw [upd_same]; exact .inr h1
    ·rw [upd_ne D _ e]; exact h a ha
   have hAs : ∀ v, Aside p.Wg w (w.setCell (stA p.Wg) v) := fun v => asideCell w (stA p.Wg) v
   have hVq : ∀ qq, Vc j (upd D k ⟨1, (p.vs k).length, qq, 1, false⟩) + 1 = Vc j D := fun qq => by
    have := Vc_upd D (⟨1, (p.vs k).length, qq, 1, false⟩ : WD) hj
    have h0 : cnt (⟨1, (p.vs k).length, qq, 1, false⟩ : WD) = 0 := rfl
    omega
   have hm := S.mode
   have hwg := S.wg
   cases hm with
   | opn h1 h2 h3 =>
    obtain ⟨v, hv⟩ : ∃ v, Vc j D + pend tag = v + 1 := ⟨Vc j D + pend tag - 1, by omega⟩
    rw [hv] at hwg
    have hw1 : WgAt p.ty p.Wg w (((v : Nat) + 1) * KK + ((0 : Nat) : Int)) 0 := by simpa using hwg
    obtain ⟨g', hgo, _, hq⟩ := hall v 0 (by omega) (by omega) hw1
    obtain ⟨qq, hq⟩ := hq (by omega)
    refine bookK hk S hj hg hgo (.quit hq) (hAs _) (hwg.setSt _) bk2 (by rw [hDk]; simp) (by simp) (by rw [hDk]) rfl df2 (dd2 rfl) (fun tag' hr _ => Mode.retag ?_ hr) (.inl ⟨by simp only [wt, hDk]; omega, by simp [cnt, hDk]⟩)
    have hv' : Vc j (upd D k ⟨1, (p.vs k).length, qq, 1, false⟩) + pend tag = v := by have := hVq qq; omega
    have e : ((v : Nat) : Int) * KK + ((0 : Nat) : Int) = ((Vc j (upd D k ⟨1, (p.vs k).length, qq, 1, false⟩) + pend tag : Nat) : Int) * KK := by rw [hv']; simp
    rw [e]
    exact .opn h1 (opq _ rfl h2) (fun vs ev => by have := h3 vs ev; have := hVq qq; omega)
   | reg h1 h2 h3 =>
    obtain ⟨v, hv⟩ : ∃ v, Vc j D = v + 1 := ⟨Vc j D - 1, by omega⟩
    rw [hv] at hwg
    have hw1 : WgAt p.ty p.Wg w (((v : Nat) + 1) * KK + ((1 : Nat) : Int)) 0 := by simpa using hwg
    obtain ⟨g', hgo, hl, hq⟩ := hall v 1 (by omega) (by omega) hw1
    by_cases hv0 : v = 0
    ·subst hv0
     obtain ⟨m₂, hm₂⟩ := hl ⟨rfl, rfl⟩
     refine bookK hk S hj hg hgo (.t2 hm₂) (hAs _) (hwg.setSt _) bk2 (by rw [hDk]; simp) (by simp) (by rw [hDk]) rfl df2 (dd2 rfl) (fun tag' hr _ => Mode.retag ?_ hr) (.inl ⟨by simp only [wt, hDk]; omega, by simp [cnt, hDk]⟩)
     have hoth : ∀ a, a < j → a ≠ k → (D a).stage = 1 := fun a ha e => by
      have c0 := others_uncounted hj hv hc1 a ha e
      have := h2 a ha
      simp only [cnt] at c0
      split at c0 <;> omega
     have := Mode.last (j := j) (D := upd D k ⟨4, (p.vs k).length, m₂, 1, false⟩) (tag := tag) k h1 hj (by rw [upd_same]; simp) (fun a ha e => by rw [upd_ne D _ e]; exact hoth a ha e)
     rw [upd_same] at this
     simpa using this
    ·obtain ⟨qq, hq⟩ := hq (by omega)
     refine bookK hk S hj hg hgo (.quit hq) (hAs _) (hwg.setSt _) bk2 (by rw [hDk]; simp) (by simp) (by rw [hDk]) rfl df2 (dd2 rfl) (fun tag' hr _ => Mode.retag ?_ hr) (.inl ⟨by simp only [wt, hDk]; omega, by simp [cnt, hDk]⟩)
     have hv' : Vc j (upd D k ⟨1, (p.vs k).length, qq, 1, false⟩) = v := by have := hVq qq; omega
     have e : ((v : Nat) : Int) * KK + ((1 : Nat) : Int) = ((Vc j (upd D k ⟨1, (p.vs k).length, qq, 1, false⟩) : Nat) : Int) * KK + 1 := by rw [hv']; simp
     rw [e]
     exact .reg h1 (opq _ rfl h2) (by omega)
   | last L _ h2 h3 h4 =>
    by_cases e : k = L
    ·subst e; rw [hDk] at h3; simp at h3
    ·have := h4 k hj e; rw [hDk] at this; simp at this
   | sema h2 => have := h2 k hj; rw [hDk] at this; simp at this
   | fin _ h2 => have := h2 k hj; rw [hDk] at this; simp at this
  ·exact idle hgo (.t1 (goes_rk hg' _)) (by rw [hDk]; simp) (by rw [hDk]) (by rw [hDk]) (by rw [hDk]) rfl (by rw [hDk]; simp)
 | @t2 m g h =>
  rcases Goes.split h (w₁ := w) hKL with hstop | ⟨m', g', w', es, rfl, hgo, ⟨rfl, rfl⟩, hg'⟩
  ·obtain ⟨_, hx⟩ := hstop
   obtain ⟨hW3, hoth, e1, e2⟩ := S.mode.isLast hj (by rw [hDk]; simp)
   have hwg := S.wg
   rw [e1, e2, hDk] at hwg
   obtain ⟨g', hgo, m₂, hm₂⟩ := hx (by simpa using hwg)
   refine bookK hk S hj hg hgo (.t3 hm₂) (.refl _ w) hwg (by intro e he; simp at he; subst he; exact bkCell _ _ rfl) (by rw [hDk]; simp) (by simp) (by rw [hDk]) rfl (by intro jx e he; rw [hDk]; match jx, he with | 0, _ => exact .inr (by simp [deafBehind]) | jx + 1, he => simp at he) (by rw [hDk]; rfl) (fun tag' hr _ => Mode.retag ?_ hr) (.inl ⟨by simp only [wt, hDk]; omega, by simp [cnt, hDk]⟩)
   have := Mode.last (j := j) (D := upd D k ⟨3, (p.vs k).length, m₂, 1, false⟩) (tag := tag) k hW3 hj (by rw [upd_same]; simp) (fun a ha e => by rw [upd_ne D _ e]; exact hoth a ha e)
   rw [upd_same] at this
   simpa using this
  ·exact idle hgo (.t2 (goes_rk hg' _)) (by rw [hDk]; simp) (by rw [hDk]) (by rw [hDk]) (by rw [hDk]) rfl (by rw [hDk]; simp)
 | @t3 m g h =>
  rcases Goes.split h (w₁ := w) hKL with hstop | ⟨m', g', w', es, rfl, hgo, ⟨rfl, rfl⟩, hg'⟩
  ·obtain ⟨_, hx⟩ := hstop
   obtain ⟨hW3, hoth, e1, e2⟩ := S.mode.isLast hj (by rw [hDk]; simp)
   have hwg := S.wg
   rw [e1, e2, hDk] at hwg
   obtain ⟨g', hgo, m₂, hm₂⟩ := hx (by simpa using hwg)
   refine bookK hk S hj hg hgo (.t4 hm₂) (asideCell w (stA p.Wg) _) (hwg.setSt 0) (by intro e he; simp at he; subst he; exact bkCell _ _ rfl) (by rw [hDk]; simp) (by simp) (by rw [hDk]) rfl (by intro jx e he; rw [hDk]; match jx, he with | 0, _ => exact .inr (by simp [deafBehind]) | jx + 1, he => simp at he) (by rw [hDk]; rfl) (fun tag' hr _ => Mode.retag ?_ hr) (.inl ⟨by simp only [wt, hDk]; omega, by simp [cnt, hDk]⟩)
   have := Mode.last (j := j) (D := upd D k ⟨2, (p.vs k).length, m₂, 1, false⟩) (tag := tag) k hW3 hj (by rw [upd_same]; simp) (fun a ha e => by rw [upd_ne D _ e]; exact hoth a ha e)
   rw [upd_same] at this
   simpa using this
  ·exact idle hgo (.t3 (goes_rk hg' _)) (by rw [hDk]; simp) (by rw [hDk]) (by rw [hDk]) (by rw [hDk]) rfl (by rw [hDk]; simp)
 | @t4 m g h =>
  rcases Goes.split h (w₁ := w) hKL with hstop | ⟨m', g', w', es, rfl, hgo, ⟨rfl, rfl⟩, hg'⟩
  ·obtain ⟨_, hmw, hx⟩ := hstop
   obtain ⟨hW3, hoth, e1, e2⟩ := S.mode.isLast hj (by rw [hDk]; simp)
   have hwg := S.wg
   rw [e1, e2, hDk] at hwg
   obtain ⟨g', hgo, qq, hq⟩ := hx (by simpa using hwg)
   have hrun' := hq.status
   have hw0 : WgAt p.ty p.Wg w 0 0 := by simpa using hwg
   refine bookK hk S hj hg hgo (.quit hq) (asideCell w (smA p.Wg) _) (hw0.setSm 1) (es := semEvents (smA p.Wg)) ?_ (by rw [hDk]; simp) (by simp) (by rw [hDk]) rfl ?_ (by rw [hDk]; simp [deafBehind, semEvents]) (fun tag' hr hwk => ?_) (.inl ⟨by simp only [wt, hDk]; omega, by simp [cnt, hDk]⟩)
   ·intro e he
    simp [semEvents] at he
    rcases he with rfl | rfl | rfl | rfl
    ·exact .inl rfl
    ·exact bkCell _ _ rfl
    ·exact bkCell _ _ rfl
    ·exact .inr (.inl rfl)
   ·intro jx e he
    rw [hDk]
    match jx, he with
    | 0, he => simp [semEvents] at he; subst he; exact .inl rfl
    | 1, _ => exact .inr (by simp [deafBehind, semEvents])
    | 2, _ => exact .inr (by simp [deafBehind, semEvents])
    | 3, he => simp [semEvents] at he; subst he; exact .inl rfl
    | jx + 4, he => simp [semEvents] at he
   ·have hnb := hwk hmw hrun'
    have e3 : tag' = .w4 := by
     rcases hr with rfl | ⟨_, rfl⟩ | ⟨_, _, _, rfl, _⟩
     ·cases tag' <;> first | rfl | exact hW3.elim | exact absurd rfl hnb
     ·rfl
     ·exact hW3.elim
    subst e3
    exact .sema fun a ha => by
     by_cases e : a = k
     ·subst e; rw [upd_same]
     ·rw [upd_ne D _ e]; exact hoth a ha e
  ·exact idle hgo (.t4 (goes_rk hg' _)) (by rw [hDk]; simp) (by rw [hDk]) (by rw [hDk]) (by rw [hDk]) rfl (by rw [hDk]; simp)
 | @quit qq dd g h =>
  cases qq with
  | zero => rw [h.1] at hrun; cases hrun
  | succ qq =>
   rcases h with ⟨hf, _⟩ | ⟨_, g', es, hmute, hstep, hq⟩
   ·rw [hf] at hrun; cases hrun
   ·have hbk : ∀ e ∈ es, Bk p.Wg e := fun e he => bk_of_mute (hmute e he)
    have hno : ∀ jx e, es[jx]? = some e → (MemAct.ofEvent e).touch? = none ∨ 0 < deafBehind (D k).deaf (es.extract 0 jx) := fun jx e he => .inl (touch_mute (hmute e (Array.mem_of_getElem? he)))
    exact bookK hk S hj hg (hstep w) (.quit hq) (.refl _ w) S.wg hbk (by rw [hDk]; simp) (by simp) (by rw [hDk]) rfl hno (by rw [hDk]) (fun tag' hr _ => (S.mode.same (by rw [hDk])).retag hr) (.inr ⟨by simp only [wt, hDk], by simp [cnt, hDk], by rw [hDk]; simp⟩)
end
end Go.Proofs.Ytilpedopnkhppaa.Mx

/- Many senders and one who takes: a step of the starter's own. Conditions: each theorem's own. -/
namespace Go.Proofs.Ytilpedopnkhppaa.Mx
open Go.Conc
open Go.ConcN (sumTo upd sumTo_upd upd_ne upd_same sumTo_congr le_sumTo sumTo_le RelBy Deaf_still Deaf_absent)
open Go.ConcR (KK wgBlock WgAt stA smA rd wr DC0)
open Ph (Tag WD MS)
def Done (p : Ph) (m : Machine) (t : Trace) : Prop :=
 ∃ gs w sl a q', m = crowd gs w sl ∧ gs[0]? = some a ∧ p.Post a w ∧ Leavers p.P t gs q' ∧ Past (fun l => p.Shun l ∨ OfG p.Wg l) (p.Bd w) t
section
variable {p : Ph} {M : Nat} {gs : Array Goroutine} {w w' : World} {sl : Option (Nat × Nat)} {t : Trace} {j f0 d0 : Nat} {D : Nat → WD} {T : Nat → Nat} {tag : Tag} {a : Goroutine} {st sm : Int} {q : Nat → Nat}
theorem Goes.parts {P : Program} {main : Bool} {R : World → World → Prop} {Dd : World → World → Array Event → Prop} {S : Goroutine → World → Prop} {m : Nat} {g : Goroutine} {w : World} (h : Goes P main R Dd S m g w) (hr : R w w) :
  (∀ w₁, R w w₁ → S g w₁) ∨ ∃ m' g' w' es, m = m' + 1 ∧ stepG P main g w = .go g' w' es ∧ Dd w w' es ∧ Goes P main R Dd S m' g' w' := by
 cases m with
 | zero => exact .inl h
 | succ m =>
  rcases h with h | ⟨_, h⟩
  ·exact .inl h
  ·obtain ⟨g', w', es, e, d, hg⟩ := goes_elim (h w hr)
   exact .inr ⟨m, g', w', es, rfl, e, d, hg⟩
theorem go0 (hk : p.Ok) (S : Sit p M gs w t j D T tag f0 d0 a st sm q) {a' : Goroutine} {es : Array Event} {tag' : Tag} {f' : Nat} {st' sm' : Int} (hgo : stepG p.P true a w = .go a' w' es)
  (hch : ∀ k, k < j → w'.heap[p.ch k]? = w.heap[p.ch k]?) (hbx : ∀ k, k < j → p.K k w') (hok : ∀ e ∈ es, OkM p.Shun (p.Bd w') p.Wg p.Rd j (.ofEvent e)) (hgr : w.heap.size ≤ w'.heap.size)
  (hms : p.MS M tag' j T f' (deafBehind d0 es) a' w') (hwg : WgAt p.ty p.Wg w' st' sm') (hmode : Mode j D tag' st' sm') (hsq : ∀ m x y, tag' ≠ .sel m x y)
  (hlt : phi p M (Vc j D) tag' < phi p M (Vc j D) tag ∨ (phi p M (Vc j D) tag' = phi p M (Vc j D) tag ∧ f' < f0)) :
  Falls p M (mu p M j D tag f0 q) (runT p.P (crowd gs w sl) 0) t := by
 have hrun := runT_crowd_go (P := p.P) (sl := sl) (i := 0) S.h0 (show stepG p.P (0 == 0) a w = _ from hgo)
 refine ⟨_, _, mu p M j D tag' f' q, hrun, ?_, _, w', sl, j, D, T, tag', f', deafBehind d0 es, a', st', sm', q, rfl,
  ⟨get_map_set_same _ _ _ (Array.getElem?_eq_some_iff.1 S.h0).1, hms, Core.step0 S.core hk S.live hch hbx hok hgr, hwg, hmode, fun m x y e => absurd e (hsq m x y)⟩, rfl⟩
 simp only [Lt, mu]
 rcases hlt with h | ⟨h1, h2⟩
 ·exact .inl (by omega)
 ·exact .inr ⟨by omega, by omega⟩
theorem okM_mark {j : Nat} (hW : p.Wg < p.B) {m : Mark} (hm : m = .disable ∨ m = .enable ∨ m = .acquire (stA p.Wg)) : ∀ e ∈ #[Go.ConcR.mk m], OkM p.Shun p.B p.Wg p.Rd j (.ofEvent e) := by
 intro e he
 simp only [List.mem_toArray, List.mem_cons, List.not_mem_nil, or_false] at he
 subst he
 rcases hm with rfl | rfl | rfl
 iterate 2
  ·exact ⟨(fun y hy => by cases hy), trivial, by simp [Go.ConcR.mk, MemAct.ofEvent]⟩
 ·exact ⟨(fun y hy => by cases hy), hW, by simp [Go.ConcR.mk, MemAct.ofEvent]⟩
theorem okM_cell {j : Nat} (hk : p.Ok) (ad : Addr) (hb : ad.block = p.Wg) (x : Bool) : OkM p.Shun p.B p.Wg p.Rd j (.ofEvent ⟨.cell ad, x, true⟩) := by
 rw [Go.ConcR.ofEvent_cell]
 refine ⟨fun y hy => ?_, by show ad.block < p.B; rw [hb]; exact hk.lowWg, by simp⟩
 simp only [MemAct.touch?, Option.some.injEq] at hy
 subst hy
 exact ⟨fun _ => by simp, fun _ k _ hr => hk.rdNo k _ hr (.inr ⟨ad, rfl, hb⟩)⟩
theorem idle0 (hk : p.Ok) (S : Sit p M gs w t j D T tag f0 d0 a st sm q) {a' : Goroutine} {es : Array Event} {f' : Nat} (hgo : stepG p.P true a w = .go a' w' es) (hd : p.DM j w w' es)
  (hms : p.MS M tag j T f' d0 a' w') (hsq : ∀ m x y, tag ≠ .sel m x y) (hlt : f' < f0) : Falls p M (mu p M j D tag f0 q) (runT p.P (crowd gs w sl) 0) t :=
 go0 hk S hgo hd.ch (fun k hk' => hd.box k hk' (S.core.box k hk')) (fun e he => (hd.ev e he).1) hd.grow (by rw [deafBehind_still (fun e he => (hd.ev e he).2) _]; exact hms) (S.wg.of_block hd.wg) S.mode hsq (.inr ⟨rfl, hlt⟩)
theorem mark0 (hk : p.Ok) (S : Sit p M gs w t j D T tag f0 d0 a st sm q) {a' : Goroutine} {m : Mark} (hm : m = .disable ∨ m = .enable) {tag' : Tag} {f' d' : Nat} (hgo : stepG p.P true a w = .go a' w #[Go.ConcR.mk m])
  (hdd : deafBehind d0 #[Go.ConcR.mk m] = d') (hms : p.MS M tag' j T f' d' a' w) (hmode : Mode j D tag' st sm) (hsq : ∀ m x y, tag' ≠ .sel m x y)
  (hlt : phi p M (Vc j D) tag' < phi p M (Vc j D) tag) : Falls p M (mu p M j D tag f0 q) (runT p.P (crowd gs w sl) 0) t :=
 go0 hk S hgo (fun _ _ => rfl) S.core.box (fun e he => (okM_mark hk.lowWg (hm.elim .inl (fun h => .inr (.inl h))) e he).up bd_b) (Nat.le_refl _) (by rw [hdd]; exact hms) S.wg hmode hsq (.inl hlt)
theorem cell0 (hk : p.Ok) (S : Sit p M gs w t j D T tag f0 d0 a st sm q) {a' : Goroutine} {es : Array Event} {tag' : Tag} {f' : Nat} {st' sm' : Int} (hgo : stepG p.P true a w = .go a' w' es)
  (hAs : Aside p.Wg w w') (hes : ∀ e ∈ es, e = Go.ConcR.mk .disable ∨ e = Go.ConcR.mk .enable ∨ ∃ ad x, e = ⟨.cell ad, x, true⟩ ∧ ad.block = p.Wg) (hdd : deafBehind d0 es = d0)
  (hms : p.MS M tag' j T f' d0 a' w') (hwg : WgAt p.ty p.Wg w' st' sm') (hmode : Mode j D tag' st' sm') (hsq : ∀ m x y, tag' ≠ .sel m x y)
  (hlt : phi p M (Vc j D) tag' < phi p M (Vc j D) tag ∨ (phi p M (Vc j D) tag' = phi p M (Vc j D) tag ∧ f' < f0)) : Falls p M (mu p M j D tag f0 q) (runT p.P (crowd gs w sl) 0) t := by
 have hjn := S.core.jn
 have hf : p.Far p.n w w' := ⟨hAs.tape, hAs.os, hAs.output, hAs.size, fun b h1 _ => hAs.block b h1, fun _ => ⟨_, _, hwg⟩, isSo_aside hwg hAs.block⟩
 refine go0 hk S hgo (fun k hk' => hAs.block _ (hk.chWg k (by omega))) (fun k hk' => hk.kFar k w w' (by omega) hf (S.core.box k hk')) (fun e he => ?_) (Nat.le_of_eq hAs.size.symm) (by rw [hdd]; exact hms) hwg hmode hsq hlt
 rcases hes e he with rfl | rfl | ⟨ad, x, rfl, hb⟩
 ·exact (okM_mark hk.lowWg (.inl rfl) _ (by simp)).up bd_b
 ·exact (okM_mark hk.lowWg (.inr (.inl rfl)) _ (by simp)).up bd_b
 ·exact (okM_cell hk ad hb x).up bd_b
theorem spawn0 (hk : p.Ok) {r : Nat} (S : Sit p M gs w t (p.n - (r + 1)) D Ph.T00 (.sp r 2) f0 0 a st sm q) (hr : r < p.n) (h : p.U4 (p.n - (r + 1)) (p.Spawns (p.Takes M Ph.T00) r) a w) :
  Falls p M (mu p M (p.n - (r + 1)) D (.sp r 2) f0 q) (runT p.P (crowd gs w sl) 0) t := by
 obtain ⟨_, g', child, hgo, hsend, hK, hchan, hnext⟩ := h
 have hb := hk.b1
 have hsz := S.core.size
 have hrun := runT_crowd_spawn (P := p.P) (sl := sl) (i := 0) S.h0 (show stepG p.P (0 == 0) a w = _ from hgo)
 obtain ⟨m, hm⟩ := (p.sends_iff _ _ _).1 hsend
 generalize hjd : p.n - (r + 1) = j at *
 have hjn : j + r + 1 = p.n := by omega
 have hws : p.WS j ⟨8, 0, m + 1, 0, false⟩ child := .send (Nat.zero_le _) (by rw [List.drop_zero]; exact hm)
 have e0 : MemOp.ofEvents 0 a.frame.fn a.frame.place #[] = #[] := rfl
 have eops : ((MemOp.ofEvents 0 a.frame.fn a.frame.place #[]).push { g := 0, fn := a.frame.fn, pos := a.frame.place, act := .go gs.size }).push { g := gs.size, fn := child.frame.fn, pos := a.frame.place, act := .start } = #[{ g := 0, fn := a.frame.fn, pos := a.frame.place, act := .go (p.b + j) }, { g := p.b + j, fn := child.frame.fn, pos := a.frame.place, act := .start }] := by rw [e0, hsz]; rfl
 rw [eops] at hrun
 generalize hx : ({ g := 0, fn := a.frame.fn, pos := a.frame.place, act := .go (p.b + j) } : MemOp) = x at hrun
 generalize hy : ({ g := p.b + j, fn := child.frame.fn, pos := a.frame.place, act := .start } : MemOp) = y at hrun
 have hst : ∀ op ∈ #[x, y], op.act ≠ .mark .disable ∧ op.act ≠ .mark .enable := by
  intro op hop
  have : op = x ∨ op = y := by simpa using hop
  rcases this with rfl | rfl
  ·rw [← hx]; exact ⟨by simp, by simp⟩
  ·rw [← hy]; exact ⟨by simp, by simp⟩
 have hmute : ∀ op ∈ #[x, y], op.act.touch? = none := by
  intro op hop
  have : op = x ∨ op = y := by simpa using hop
  rcases this with rfl | rfl
  ·rw [← hx]; rfl
  ·rw [← hy]; rfl
 have hds : ∀ g, Deaf (t ++ #[x, y]) g = Deaf t g := fun g => Deaf_still t g _ hst
 have hgs : ((gs.setIfInBounds 0 g').push child).size = p.b + (j + 1) := by simp [hsz]; omega
 have old : ∀ i, i ≠ 0 → i < p.b + j → ((gs.setIfInBounds 0 g').push child)[i]? = gs[i]? := fun i h0 hi => by
  rw [Array.getElem?_push_lt (by simp [hsz]; omega), ← Array.getElem?_eq_getElem, Array.getElem?_setIfInBounds_ne (by omega)]
 have new : ((gs.setIfInBounds 0 g').push child)[p.b + j]? = some child := by
  rw [show p.b + j = (gs.setIfInBounds 0 g').size by simp [hsz], Array.getElem?_push_size]
 have hcore : p.Core q ((gs.setIfInBounds 0 g').push child) w (t ++ #[x, y]) (j + 1) (upd D j ⟨8, 0, m + 1, 0, false⟩) Ph.T00 0 := by
  refine ⟨by omega, hgs, fun i g hi hlt hg => ?_, fun k hk' => ?_, S.core.mid.fork (fun l => hk.rdMem j l) (fun l => hk.rdNo j l) (by rw [← hx]; exact ⟨rfl, rfl⟩) (by rw [← hy]; exact ⟨rfl, rfl⟩) S.core.deaf0 (S.core.above _ (by omega)), by rw [hds]; exact S.core.deaf0, fun k hk' => ?_, fun i hi => by rw [hds]; exact S.core.above i (by omega), fun k hk' hs => ?_, fun k hk' => ?_, fun k hk' => ?_⟩
  ·rw [hds]; exact S.core.old i g hi hlt (by rw [← old i (by omega) (by omega)]; exact hg)
  ·rcases Nat.lt_or_ge k j with hlt | hge
   ·obtain ⟨g, hg, hs⟩ := S.core.wk k hlt
    exact ⟨g, by rw [old _ (by omega) (by omega)]; exact hg, by rw [upd_ne D _ (by omega)]; exact hs⟩
   ·obtain rfl : k = j := by omega
    exact ⟨child, new, by rw [upd_same]; exact hws⟩
  ·rw [hds]
   rcases Nat.lt_or_ge k j with hlt | hge
   ·rw [upd_ne D _ (by omega)]; exact S.core.deafK k hlt
   ·obtain rfl : k = j := by omega
    rw [upd_same]; exact S.core.above _ (by omega)
  ·rcases Nat.lt_or_ge k j with hlt | hge
   ·rw [upd_ne D _ (by omega)] at hs
    obtain ⟨rr, hrr⟩ := S.core.rel k hlt hs
    exact ⟨rr, RelBy.appMute hrr hmute⟩
   ·obtain rfl : k = j := by omega
    rw [upd_same] at hs; simp at hs
  ·rcases Nat.lt_or_ge k j with hlt | hge
   ·rw [upd_ne D _ (by omega)]; exact S.core.chan k hlt
   ·obtain rfl : k = j := by omega
    rw [upd_same]
    exact ⟨by simpa [Ph.T00] using hchan, Nat.zero_le _, by simp [Ph.T00], by simp, fun h => by simp at h, fun h => by simp at h, fun h => by simp [Ph.T00] at h, by simp [Ph.T00]⟩
  ·rcases Nat.lt_or_ge k j with hlt | hge
   ·exact S.core.box k hlt
   ·obtain rfl : k = j := by omega
    exact hK
 have hV : Vc (j + 1) (upd D j ⟨8, 0, m + 1, 0, false⟩) = Vc j D + 1 := by
  simp only [Vc, sumTo, upd_same]
  rw [sumTo_congr (g := fun i => cnt (D i)) (fun i hi => by rw [upd_ne D _ (by omega)])]
  rfl
 have hS : Ssum p (j + 1) (upd D j ⟨8, 0, m + 1, 0, false⟩) = Ssum p j D + (8 + 2 * (p.vs j).length) := by
  simp only [Ssum, sumTo, upd_same]
  rw [sumTo_congr (g := fun i => wt p i (D i)) (fun i hi => by rw [upd_ne D _ (by omega)])]
  simp [wt]
 have hmode : ∀ tag', isOpen tag' → pend tag' = 0 → (∀ vs, tag' ≠ .w3 vs) → Mode (j + 1) (upd D j ⟨8, 0, m + 1, 0, false⟩) tag' st sm := by
  intro tag' h1 h2 h3
  have hm := S.mode
  cases hm with
  | opn _ h5 _ =>
   have e : Vc j D + pend (.sp r 2) = Vc (j + 1) (upd D j ⟨8, 0, m + 1, 0, false⟩) + pend tag' := by rw [hV, h2]; rfl
   rw [e]
   exact .opn h1 (fun i hi => by
    rcases Nat.lt_or_ge i j with hlt | hge
    ·rw [upd_ne D _ (by omega)]; exact h5 i hlt
    ·obtain rfl : i = j := by omega
     rw [upd_same]; exact .inl (by simp)) (fun vs e => absurd e (h3 vs))
  | reg h _ _ => exact h.elim
  | last L h _ _ _ => exact h.elim
  | fin h _ => exact h.elim
 have h0' : ((gs.setIfInBounds 0 g').push child)[0]? = some g' := by
  have : 0 < gs.size := (Array.getElem?_eq_some_iff.1 S.h0).1
  rw [Array.getElem?_push_lt (by simp; exact this), ← Array.getElem?_eq_getElem, Array.getElem?_setIfInBounds_self_of_lt this]
 cases r with
 | zero =>
  obtain ⟨f, hf⟩ := (p.takes_iff _ _ _ _).1 hnext
  have e : j + 1 = p.n := by omega
  refine ⟨_, _, mu p M p.n (upd D j ⟨8, 0, m + 1, 0, false⟩) (.tk M) (f + 1) q, hrun, ?_, _, w, sl, p.n, upd D j ⟨8, 0, m + 1, 0, false⟩, Ph.T00, .tk M, f + 1, 0, g', st, sm, q, rfl, ⟨h0', .tk hf, e ▸ hcore, S.wg, e ▸ hmode _ trivial rfl (fun _ => by simp), fun m x y e => by cases e⟩, rfl⟩
  simp only [Lt, mu, phi, ← e, hS, remW, sumTo]
  rw [show j + 1 - (0 + 1) = j by omega]
  omega
 | succ r =>
  obtain ⟨f, hf⟩ := hnext
  have e : p.n - (r + 1) = j + 1 := by omega
  refine ⟨_, _, mu p M (j + 1) (upd D j ⟨8, 0, m + 1, 0, false⟩) (.sp r 5) f q, hrun, ?_, _, w, sl, j + 1, upd D j ⟨8, 0, m + 1, 0, false⟩, Ph.T00, .sp r 5, f, 0, g', st, sm, q, rfl, ⟨h0', by have := MS.s1 (p := p) (M := M) (r := r) (m := f) (g := g') (w := w) (by omega) hf; rw [e] at this; exact this, hcore, S.wg, hmode _ trivial rfl (fun _ => by simp), fun m x y e => by cases e⟩, rfl⟩
  simp only [Lt, mu, phi, hS, remW, sumTo]
  have : p.n - (r + 1 + 1) = j := by omega
  rw [this]
  omega
end
end Go.Proofs.Ytilpedopnkhppaa.Mx

/- Many senders and one who takes: the starter at its select. Conditions: each theorem's own. -/
namespace Go.Proofs.Ytilpedopnkhppaa.Mx
open Go.Conc
open Go.ConcN (sumTo upd sumTo_upd upd_ne upd_same sumTo_congr le_sumTo sumTo_le RelBy Deaf_still Deaf_absent)
open Go.ConcR (KK wgBlock WgAt stA smA rd wr DC0)
open Ph (Tag WD MS)
section
variable {p : Ph} {M : Nat} {gs : Array Goroutine} {w w' : World} {sl : Option (Nat × Nat)} {t : Trace} {j f0 d0 : Nat} {D : Nat → WD} {T : Nat → Nat} {tag : Tag} {a : Goroutine} {st sm : Int} {q : Nat → Nat}
theorem ws_stage {k : Nat} {d : WD} {g : Goroutine} (h : p.WS k d g) : d.stage ≤ 8 := by cases h <;> simp
theorem take_tail {l : List Value} {s Tk : Nat} (hT : Tk < s) : ((l.drop Tk).take (s - Tk)).toArray.extract 1 ((l.drop Tk).take (s - Tk)).toArray.size = ((l.drop (Tk + 1)).take (s - (Tk + 1))).toArray := by
 apply Array.toList_inj.1
 simp only [Array.toList_extract, List.extract_eq_take_drop, List.size_toArray]
 have e : ((l.drop Tk).take (s - Tk)).drop 1 = (l.drop (Tk + 1)).take (s - (Tk + 1)) := by
  rw [List.drop_take, List.drop_drop, show s - Tk - 1 = s - (Tk + 1) by omega]
 rw [e]
 apply List.take_of_length_le
 simp
 omega
theorem selStep (hk : p.Ok) {m' : Nat} (S : Sit p M gs w t p.n D T (.tk (m' + 1)) f0 0 a st sm q) (hf0 : 1 ≤ f0) (h : p.Sel (p.Takes m') T a w) :
  Falls p M (mu p M p.n D (.tk (m' + 1)) f0 q) (runT p.P (crowd gs w sl) 0) t := by
 obtain ⟨hr, g₂, x, y, e1, e2, e3, hs⟩ := h
 have hb := hk.b1
 have hgo : stepG p.P (0 == 0) a w = .comm g₂ (p.kases T x y) true .select w #[] := (stepG_same e1 e2 e3 w).trans (hs.step w (Far.refl _ _))
 have hsz := S.core.size
 have hlt0 : 0 < gs.size := (Array.getElem?_eq_some_iff.1 S.h0).1
 -- what is known of a way that is open
 have hopen : ∀ k, p.opn T k → w.heap[p.ch k]? = some (.chan (p.cap k) (((p.vs k).drop (T k)).take ((D k).sent - T k)).toArray (decide ((D k).stage ≤ 7)) (D k).sent (T k) false) ∧
   (((p.vs k).drop (T k)).take ((D k).sent - T k)).toArray.size = (D k).sent - T k := by
  intro k ho
  have hc := S.core.chan k ho.1
  have := hc.at_
  rw [Nat.min_eq_left ho.2] at this
  exact ⟨this, by have := hc.sent; simp; omega⟩
 have hpart : ∀ k, p.opn T k → (partners (gs.setIfInBounds 0 ph) (p.ch k) true = [] ∧ (D k).park = false) ∨
   (∃ g v z l, (D k).park = true ∧ (D k).sent < (p.vs k).length ∧ (p.vs k).drop (D k).sent = v :: l ∧ D k = ⟨8, (D k).sent, 0, 0, true⟩ ∧ p.Sends k l (Go.Conc.served g undef) ∧ gs[p.b + k]? = some (parked g #[scase (p.ch k) v z] .send) ∧ partners (gs.setIfInBounds 0 ph) (p.ch k) true = [(p.b + k, 0)]) := by
  intro k ho
  obtain ⟨g, hg, hws⟩ := S.core.wk k ho.1
  have hoth : ∀ i y', i ≠ p.b + k → (gs.setIfInBounds 0 ph)[i]? = some y' → offersAt y' (p.ch k) true = [] := by
   intro i y' hne hy
   rcases getElem?_stand gs 0 i y' hy with ⟨_, rfl⟩ | ⟨h0, hy'⟩
   ·exact offersAt_ph _ _
   ·exact (core_offers S h0 hy').2 k ho.1 rfl (fun k' hk' e => hk.chInj k' k hk' ho.1 e) hne
  have hg' : (gs.setIfInBounds 0 ph)[p.b + k]? = some g := stand_get (by omega) hg
  generalize hDk : D k = d at hws
  have hKL := S.kl ho.1
  by_cases hp : d.park = true
  ·cases hws with
   | @park s g₁ v z l hs' hl hn =>
    refine .inr ⟨g₁, v, z, l, rfl, hs', hl, rfl, hn, hg, ?_⟩
    rw [partners_one hg' hoth, offersAt_parked_send]
    simp
   | _ => cases hp
  ·refine .inl ⟨partners_nil fun i y' hy => ?_, by simpa using hp⟩
   by_cases hi : i = p.b + k
   ·subst hi
    obtain rfl := Option.some.inj (hy.symm.trans hg')
    rw [(ws_offers hws hKL _).2, if_neg (fun h => hp h.1)]
   ·exact hoth i y' hi hy
 have hways : ∀ k, p.opn T k → ways w (gs.setIfInBounds 0 ph) (rcase (p.ch k) p.z) = if 0 < (D k).sent - T k then [.buffer] else if (D k).stage ≤ 7 then [.closed] else [] := by
  intro k ho
  obtain ⟨hat, hbs⟩ := hopen k ho
  by_cases hp : 0 < (D k).sent - T k
  ·rw [if_pos hp]
   simp only [ways, rcase, hat]
   rw [if_pos (by rw [hbs]; exact hp)]
  ·rw [if_neg hp]
   have hp0 : partners (gs.setIfInBounds 0 ph) (p.ch k) true = [] := by
    rcases hpart k ho with ⟨h, _⟩ | ⟨g, v, z, l, hpk, hlt, hl, _⟩
    ·exact h
    ·exfalso
     have := (S.core.chan k ho.1).park hpk
     rcases hk.capOk k ho.1 with h | h
     ·rw [h] at hlt; simp at hlt
     ·omega
   simp only [ways, rcase, hat]
   rw [if_neg (by rw [hbs]; exact hp), hp0]
   by_cases h7 : (D k).stage ≤ 7 <;> simp [h7]
 have hill : ∀ cc ∈ p.kases T x y, illMade w cc = false := by
  intro cc hcc
  have : cc = p.kase T x ∨ cc = p.kase T y := by simpa [Ph.kases] using hcc
  have key : ∀ k, illMade w (p.kase T k) = false := fun k => by
   rcases kase_cases p T k with ⟨ho, e⟩ | ⟨_, e⟩
   ·rw [e]; exact made_recv _ (hopen k ho).1
   ·rw [e]; rfl
  rcases this with rfl | rfl <;> exact key _
 have hone : ∀ cc ∈ p.kases T x y, (ways w (gs.setIfInBounds 0 ph) cc).length ≤ 1 := by
  intro cc hcc
  have : cc = p.kase T x ∨ cc = p.kase T y := by simpa [Ph.kases] using hcc
  have key : ∀ k, (ways w (gs.setIfInBounds 0 ph) (p.kase T k)).length ≤ 1 := fun k => by
   rcases kase_cases p T k with ⟨ho, e⟩ | ⟨_, e⟩
   ·rw [e, hways k ho]; split <;> first | exact Nat.le_refl _ | (split <;> first | exact Nat.le_refl _ | exact Nat.zero_le _)
   ·rw [e]; simp [ways, rcaseNil]
  rcases this with rfl | rfl <;> exact key _
 by_cases hne : readyOf w (gs.setIfInBounds 0 ph) (p.kases T x y) = []
 · -- nothing can proceed: it waits
  have hw0 : ∀ k, (k = x ∨ k = y) → ways w (gs.setIfInBounds 0 ph) (p.kase T k) = [] := by
   intro k hk'
   have hmem : ∃ i : Nat, (p.kases T x y)[i]? = some (p.kase T k) := by
    rcases hk' with rfl | rfl
    ·exact ⟨0, by simp [Ph.kases]⟩
    ·exact ⟨1, by simp [Ph.kases]⟩
   obtain ⟨i, hi⟩ := hmem
   by_cases hz : ways w (gs.setIfInBounds 0 ph) (p.kase T k) = []
   ·exact hz
   ·exfalso
    have : (i, p.kase T k, ways w (gs.setIfInBounds 0 ph) (p.kase T k)) ∈ readyOf w (gs.setIfInBounds 0 ph) (p.kases T x y) := by
     unfold readyOf
     rw [List.mem_filter]
     refine ⟨?_, by simpa using hz⟩
     simp only [List.mem_map, Prod.mk.injEq, Prod.exists]
     exact ⟨p.kase T k, i, Array.mem_toList_iff.2 (Array.mem_zipIdx_iff_getElem?.2 (by simpa using hi)), rfl, rfl, rfl⟩
    rw [hne] at this; cases this
  have hrun := crowd_waits (P := p.P) (sl := sl) S.h0 hgo (fun cc hcc => ⟨hill cc hcc, by
   have : cc = p.kase T x ∨ cc = p.kase T y := by simpa [Ph.kases] using hcc
   rcases this with rfl | rfl
   ·exact hw0 x (.inl rfl)
   ·exact hw0 y (.inr rfl)⟩)
  rw [ofEvents_nil] at hrun
  have hsq : SelQ p D T (.sel (m' + 1) x y) := by
   intro m1 x1 y1 e k hk' ho
   cases e
   have h1 := hw0 k hk'
   rw [show p.kase T k = rcase (p.ch k) p.z by simp [Ph.kase, ho], hways k ho] at h1
   have hc := S.core.chan k ho.1
   have ht := hc.took
   rw [Nat.min_eq_left ho.2] at ht
   obtain ⟨g, hg, hws⟩ := S.core.wk k ho.1
   have := ws_stage hws
   split at h1
   ·cases h1
   ·split at h1
    ·cases h1
    ·exact ⟨by omega, by omega⟩
  have hcomm : p.Core q (gs.setIfInBounds 0 (parked g₂ (p.kases T x y) .select)) w (t ++ #[]) p.n D T 0 := by
   have h := S.core
   refine ⟨h.jn, by simp [h.size], fun i g hi hlt hg => ?_, fun k hk' => ?_, by simpa using h.mid, by simpa using h.deaf0, fun k hk' => by simpa using h.deafK k hk', fun i hi => by simpa using h.above i hi, fun k hk' hs => by simpa using h.rel k hk' hs, h.chan, h.box⟩
   ·rw [Array.getElem?_setIfInBounds_ne (by omega)] at hg
    simpa using h.old i g hi hlt hg
   ·obtain ⟨g, hg, hws⟩ := h.wk k hk'
    exact ⟨g, by rw [Array.getElem?_setIfInBounds_ne (by omega)]; exact hg, hws⟩
  refine ⟨_, _, mu p M p.n D (.sel (m' + 1) x y) 0 q, hrun, ?_, _, w, sl, p.n, D, T, .sel (m' + 1) x y, 0, 0, _, st, sm, q, rfl, ⟨by rw [Array.getElem?_setIfInBounds_self_of_lt hlt0], .sel hs, hcomm, S.wg, S.mode.openTo trivial trivial rfl (fun _ => by simp), hsq⟩, rfl⟩
  refine .inr ⟨rfl, ?_⟩
  simp only [mu]
  omega
 · -- one that can proceed is carried out
  obtain ⟨idx, cc, wy, d, hidx, hwy, hrest⟩ := crowd_sel_any (P := p.P) (sl := sl) S.h0 hgo hill hne hone
  obtain ⟨k, hik, hcc⟩ : ∃ k, (idx = 0 ∧ k = x ∨ idx = 1 ∧ k = y) ∧ cc = p.kase T k := by
   rcases idx with _ | _ | idx
   ·exact ⟨x, .inl ⟨rfl, rfl⟩, by simpa [Ph.kases] using hidx.symm⟩
   ·exact ⟨y, .inr ⟨rfl, rfl⟩, by simpa [Ph.kases] using hidx.symm⟩
   ·simp [Ph.kases] at hidx
  subst hcc
  have ho : p.opn T k := by
   rcases kase_cases p T k with ⟨ho, _⟩ | ⟨_, e⟩
   ·exact ho
   ·rw [e] at hwy; simp [ways, rcaseNil] at hwy
  have ek : p.kase T k = rcase (p.ch k) p.z := by simp [Ph.kase, ho]
  obtain ⟨hshut, hbuf⟩ := hrest _ _ ek
  rw [ek, hways k ho] at hwy
  obtain ⟨hat, hbs⟩ := hopen k ho
  have hc := S.core.chan k ho.1
  have hWk := hk.chWg k ho.1
  have hlow : p.ch k < p.B := hk.chLow k ho.1
  have ht := hc.took
  rw [Nat.min_eq_left ho.2] at ht
  have hchne : ∀ k', k' < p.n → k' ≠ k → p.ch k ≠ p.ch k' := fun k' hk' e h => e (hk.chInj k' k hk' ho.1 h.symm)
  have hsent := hc.sent
  -- the machine goes on to the next take
  have fin : ∀ {gs' : Array Goroutine} {w₁ : World} {u : Trace} {d' : WD} {g' a' : Goroutine}, runT p.P (crowd gs w sl) 0 = (.next (crowd gs' w₁ sl), u) → gs'[0]? = some a' → p.Takes m' (upd T k (T k + 1)) a' w₁ → gs'.size = gs.size → (∀ i, i ≠ 0 → i ≠ p.b + k → gs'[i]? = gs[i]?) → gs'[p.b + k]? = some g' →
    p.WS k d' g' → p.Far p.n w w₁ → (∀ k', k' < p.n → k' ≠ k → w₁.heap[p.ch k']? = w.heap[p.ch k']?) → w₁.heap[p.Wg]? = w.heap[p.Wg]? → p.ChanAt k d' (T k + 1) w₁ →
    (∀ op ∈ u, op.act.touch? = none ∧ op.act.low p.B ∧ (∀ m, op.act ≠ .mark m)) → d'.deaf = (D k).deaf → d'.stage = (D k).stage → wt p k d' ≤ wt p k (D k) →
    Falls p M (mu p M p.n D (.tk (m' + 1)) f0 q) (runT p.P (crowd gs w sl) 0) t := by
   intro gs' w₁ u d' g' a' hrun h0 htk hsz' ho' hg' hws hfar hch hwgb hca hu hd hst hwt
   obtain ⟨f, hf⟩ := (p.takes_iff _ _ _ _).1 htk
   have hcn : cnt d' = cnt (D k) := by simp only [cnt, hst]
   refine ⟨_, _, mu p M p.n (upd D k d') (.tk m') (f + 1) q, hrun, ?_, gs', w₁, sl, p.n, upd D k d', upd T k (T k + 1), .tk m', f + 1, 0, a', st, sm, q, rfl, ⟨h0, .tk hf, Core.comm S.core hk ho.1 hsz' ho' hg' hws hfar hch hca hu hd (fun h => by omega), S.wg.of_block hwgb, ((S.mode.same hst).openTo trivial trivial rfl (fun _ => by simp)), fun m x y e => by cases e⟩, rfl⟩
   simp only [Lt, mu, phi]
   have := ssum_upd (p := p) (D := D) ho.1 d'
   exact .inl (by omega)
  by_cases hp : 0 < (D k).sent - T k
  · -- a value from the buffer
   rw [if_pos hp] at hwy
   have hwyb : wy = .buffer := by injection hwy with h1 _; exact h1.symm
   obtain ⟨b1, b2⟩ := hbuf _ _ _ _ _ _ hwyb hat
   have hv : (p.vs k)[T k]? = some ((((p.vs k).drop (T k)).take ((D k).sent - T k)).toArray.getD 0 undef) := by
    have hlt : T k < (p.vs k).length := by omega
    have e : (((p.vs k).drop (T k)).take ((D k).sent - T k)).toArray[0]? = (p.vs k)[T k]? := by
     simp [List.getElem?_take, hp]
    rw [Array.getD_eq_getD_getElem?, e, List.getElem?_eq_getElem hlt]
    rfl
   rcases hpart k ho with ⟨hp0, hpk⟩ | ⟨g₁, v, z, l, hpk, hlt, hl, hDk, hn, hg1, hp1⟩
   ·obtain ⟨g, hg, hws⟩ := S.core.wk k ho.1
    have hrun := b1 hp0
    rw [fin_served, take_tail (by omega)] at hrun
    have hfar : p.Far p.n w ((w.at d).setChan (p.ch k) (p.cap k) (((p.vs k).drop (T k + 1)).take ((D k).sent - (T k + 1))).toArray (decide ((D k).stage ≤ 7)) (D k).sent (T k + 1) false) := Far.trans (Far.at _ w d) (Far.setChan ho.1 hWk _ _ _ _ _ _ _)
    refine fin hrun (by rw [Array.getElem?_setIfInBounds_self_of_lt hlt0]) (hs.val idx k _ hik ho.1 hv _ hfar) (by simp) (fun i h0 _ => by rw [Array.getElem?_setIfInBounds_ne (by omega)]) (by rw [Array.getElem?_setIfInBounds_ne (by omega)]; exact hg) hws hfar
     (fun k' hk' e => heap_setChan_ne' (w := w.at d) (hchne k' hk' e) _ _ _ _ _ _) (heap_setChan_ne' (w := w.at d) hWk _ _ _ _ _ _) ⟨?_, hsent, ?_, ?_, (fun h => by rw [hpk] at h; cases h), hc.shut, (fun h => by omega), (by omega)⟩ ?_ rfl rfl (Nat.le_refl _)
    ·rw [heap_setChan_self' (w := w.at d) hat, Nat.min_eq_left (by omega)]
    ·omega
    ·have := hc.room; omega
    ·intro op hop
     simp only [List.mem_toArray, List.mem_cons, List.not_mem_nil, or_false] at hop
     rcases hop with rfl | rfl <;> exact ⟨rfl, hlow, by simp⟩
   ·obtain ⟨m₂, hm₂⟩ := (p.sends_iff k l _).1 hn
    have hl' : (p.vs k).drop ((D k).sent + 1) = l := by
     have := congrArg (List.drop 1) hl
     simpa [List.drop_drop, Nat.add_comm] using this
    have hvs : (p.vs k)[(D k).sent]? = some v := by
     have := congrArg (fun l => l[0]?) hl
     simpa [List.getElem?_drop] using this
    have hrun := b2 _ _ _ _ (show p.b + k ≠ 0 by omega) hg1 hp1
    have hws : p.WS k ⟨8, (D k).sent + 1, m₂ + 1, 0, false⟩ (Go.Conc.served g₁ undef) := .send hlt (by rw [hl']; exact hm₂)
    have e8 : decide ((D k).stage ≤ 7) = false := by rw [hDk]; rfl
    rw [finishComm_send, fin_served, take_tail (by omega), take_push (by omega) hvs, e8] at hrun
    have hfar : p.Far p.n w ((w.at d).setChan (p.ch k) (p.cap k) (((p.vs k).drop (T k + 1)).take ((D k).sent + 1 - (T k + 1))).toArray false ((D k).sent + 1) (T k + 1) false) := Far.trans (Far.at _ w d) (Far.setChan ho.1 hWk _ _ _ _ _ _ _)
    refine fin hrun (by rw [Array.getElem?_setIfInBounds_self_of_lt (by simp; omega)]) (hs.val idx k _ hik ho.1 hv _ hfar) (by simp) (fun i h0 h1 => by rw [Array.getElem?_setIfInBounds_ne (by omega), Array.getElem?_setIfInBounds_ne (by omega)]) (by rw [Array.getElem?_setIfInBounds_ne (by omega), Array.getElem?_setIfInBounds_self_of_lt (by rw [hsz]; have := ho.1; omega)]) hws hfar
     (fun k' hk' e => heap_setChan_ne' (w := w.at d) (hchne k' hk' e) _ _ _ _ _ _) (heap_setChan_ne' (w := w.at d) hWk _ _ _ _ _ _) ⟨?_, hlt, ?_, ?_, (fun h => by cases h), (fun h => by simp at h), (fun h => by omega), (by omega)⟩ ?_ (by rw [hDk]) (by rw [hDk]) ?_
    ·rw [heap_setChan_self' (w := w.at d) hat, Nat.min_eq_left (by omega)]; simp
    ·simp only; omega
    ·have := hc.room; simp only; omega
    ·intro op hop
     simp only [List.mem_toArray, List.mem_cons, List.not_mem_nil, or_false] at hop
     rcases hop with rfl | rfl | rfl | rfl <;> exact ⟨rfl, hlow, by simp⟩
    ·simp only [wt]; rw [show (D k).stage = 8 by rw [hDk]]; omega
  · -- it is closed
   rw [if_neg hp] at hwy
   have h7 : (D k).stage ≤ 7 := by
    by_cases h : (D k).stage ≤ 7
    ·exact h
    ·rw [if_neg h] at hwy; cases hwy
   rw [if_pos h7] at hwy
   have hwyc : wy = .closed := by injection hwy with h1 _; exact h1.symm
   have hfull := hc.shut h7
   have hTk : T k = (p.vs k).length := by have := ho.2; omega
   have hb0 : (((p.vs k).drop (T k)).take ((D k).sent - T k)).toArray = #[] := Array.eq_empty_of_size_eq_zero (by rw [hbs]; omega)
   have hat' := hat
   rw [hb0, decide_eq_true h7] at hat'
   have hrun := hshut _ _ _ _ hwyc hat'
   rw [fin_served] at hrun
   obtain ⟨g, hg, hws⟩ := S.core.wk k ho.1
   have hpk : (D k).park = true → False := fun h => by
    rcases ws_status hws (S.kl ho.1) with ⟨h', _⟩ | ⟨_, _, h'⟩
    ·rw [h] at h'; cases h'
    ·omega
   refine fin hrun (by rw [Array.getElem?_setIfInBounds_self_of_lt hlt0]) (hs.shut idx k hik ho.1 hTk _ (Far.at _ w d)) (by simp) (fun i h0 _ => by rw [Array.getElem?_setIfInBounds_ne (by omega)]) (by rw [Array.getElem?_setIfInBounds_ne (by omega)]; exact hg) hws (Far.at _ w d)
    (fun _ _ _ => rfl) rfl ⟨?_, hsent, ?_, ?_, (fun h => (hpk h).elim), hc.shut, (fun _ => h7), (by omega)⟩ ?_ rfl rfl (Nat.le_refl _)
   ·show w.heap[p.ch k]? = _
    rw [hat, hb0, Nat.min_eq_right (by omega), hTk]
    congr 2
    have : (p.vs k).drop ((p.vs k).length + 1) = [] := List.drop_eq_nil_of_le (by omega)
    rw [this]
    simp
   ·omega
   ·have := hc.room; omega
   ·intro op hop
    simp only [List.mem_toArray, List.mem_cons, List.not_mem_nil, or_false] at hop
    subst hop
    exact ⟨rfl, hlow, by simp⟩
end
end Go.Proofs.Ytilpedopnkhppaa.Mx

