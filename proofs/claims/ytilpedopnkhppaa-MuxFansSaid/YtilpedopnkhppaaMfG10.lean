/- Many senders and one who takes: from the first sender's start to the starter's acquire, on whatever tape. Conditions: the theorem's own. -/
import Derived.Test.YtilpedopnkhppaaMfG9
set_option linter.unusedVariables false
set_option linter.unusedSimpArgs false
namespace Go.Proofs.Ytilpedopnkhppaa.Mx
open Go.Conc
open Go.ConcN (sumTo upd sumTo_upd upd_ne upd_same sumTo_congr le_sumTo sumTo_le RelBy Deaf_still Deaf_absent)
open Go.ConcR (KK wgBlock WgAt stA smA rd wr DC0)
open Ph (Tag WD MS)
section
variable {p : Ph} {M : Nat} {gs : Array Goroutine} {w w' : World} {sl : Option (Nat × Nat)} {t : Trace} {j f0 d0 : Nat} {D : Nat → WD} {T : Nat → Nat} {tag : Tag} {a : Goroutine} {st sm : Int} {q : Nat → Nat}
theorem Falls.le {μ μ' : Nat × Nat} {r : Stepped × Array MemOp} (h : Falls p M μ' r t) (hl : Lt μ' μ) : Falls p M μ r t := by
 obtain ⟨m₁, ops, μ'', h1, h2, h3⟩ := h
 refine ⟨m₁, ops, μ'', h1, ?_, h3⟩
 simp only [Lt] at *
 omega
theorem not_sel {tag : Tag} (h : isW tag ∨ isFin tag) : ∀ m x y, tag ≠ .sel m x y := by
 intro m x y e
 subst e
 rcases h with h | h <;> exact h
theorem allQuit_of {D : Nat → WD} (h2 : OpenSt j D) (hv : Vc j D = 0) : AllQuit j D := fun i hi => by
 rcases h2 i hi with h | h
 ·have := le_sumTo (f := fun i => cnt (D i)) hi
  simp only [Vc] at hv
  have h1 : cnt (D i) = 1 := by simp [cnt, h]
  omega
 ·exact h
theorem stepW2 (hk : p.Ok) {m : Nat} (S : Sit p M gs w t p.n D T .w2 m 1 a st sm q) (hT : p.AllT T) (h : Goes p.P true (p.Far p.n) (p.DM p.n) p.V2 m a w) :
  Falls p M (mu p M p.n D .w2 m q) (runT p.P (crowd gs w sl) 0) t := by
 have hn := hk.n31
 have hVj := Vc_le p.n D
 rcases Goes.parts h (Far.refl _ _) with hstop | ⟨m', g', w', es, rfl, hgo, hd, hg'⟩
 ·obtain ⟨_, hall⟩ := hstop w (Far.refl _ _)
  have hm := S.mode
  have hwg := S.wg
  cases hm with
  | opn h1 h2 h3 =>
   simp only [pend, Nat.add_zero] at hwg
   obtain ⟨g', hgo, hz, hnz⟩ := hall (Vc p.n D) (by omega) hwg
   have hes : ∀ e ∈ #[rd (stA p.Wg)], e = Go.ConcR.mk .disable ∨ e = Go.ConcR.mk .enable ∨ ∃ ad x, e = ⟨.cell ad, x, true⟩ ∧ ad.block = p.Wg := by
    intro e he; simp at he; subst he; exact .inr (.inr ⟨_, _, rfl, rfl⟩)
   by_cases hv : Vc p.n D = 0
   ·obtain ⟨f, hf⟩ := hz hv
    have hwg' := hwg
    rw [hv] at hwg'
    exact cell0 hk S hgo (.refl _ _) hes rfl (.w6 hT hf) (by simpa using hwg') (.fin trivial (allQuit_of h2 hv)) (not_sel (.inr trivial)) (.inl (by simp only [phi]; omega))
   ·obtain ⟨f, hf⟩ := hnz hv
    have := Mode.opn (j := p.n) (D := D) (tag := .w3 (Vc p.n D)) trivial h2 (fun vs e => by cases e; exact ⟨Nat.le_refl _, by omega⟩)
    simp only [pend, Nat.add_zero] at this
    exact cell0 hk S hgo (.refl _ _) hes rfl (.w3 hT hf) hwg this (fun _ _ _ => by simp) (.inl (by simp only [phi]; omega))
  | reg h _ _ => exact h.elim
  | last L h _ _ _ => exact h.elim
  | fin h _ => exact h.elim
 ·exact idle0 hk S hgo hd (.w2 hT hg') (fun _ _ _ => by simp) (by omega)
theorem stepMain (hk : p.Ok) (S : Sit p M gs w t j D T tag f0 d0 a st sm q) (hrun : a.status = .running) :
  Falls p M (mu p M j D tag f0 q) (runT p.P (crowd gs w sl) 0) t ∨ ∃ m₁ ops, runT p.P (crowd gs w sl) 0 = (.next m₁, ops) ∧ Done p m₁ (t ++ ops) := by
 have hn := hk.n31
 have hVj := Vc_le j D
 have hjb := ms_j S.ms
 have rdE : ∀ e ∈ #[rd (stA p.Wg)], e = Go.ConcR.mk .disable ∨ e = Go.ConcR.mk .enable ∨ ∃ ad x, e = ⟨.cell ad, x, true⟩ ∧ ad.block = p.Wg := by
  intro e he; simp at he; subst he; exact .inr (.inr ⟨_, _, rfl, rfl⟩)
 have rwE : ∀ e ∈ #[rd (stA p.Wg), wr (stA p.Wg)], e = Go.ConcR.mk .disable ∨ e = Go.ConcR.mk .enable ∨ ∃ ad x, e = ⟨.cell ad, x, true⟩ ∧ ad.block = p.Wg := by
  intro e he; simp at he; rcases he with rfl | rfl <;> exact .inr (.inr ⟨_, _, rfl, rfl⟩)
 have hms := S.ms
 cases hms with
 | @s1 r m g w hr h =>
  left
  rcases Goes.parts h (Far.refl _ _) with hstop | ⟨m', g', w', es, rfl, hgo, hd, hg'⟩
  ·obtain ⟨_, g', hgo, f, hf⟩ := hstop w (Far.refl _ _)
   exact mark0 hk S (.inl rfl) hgo rfl (.s2 hr hf) (S.mode.openTo trivial trivial rfl (fun _ => by simp)) (fun _ _ _ => by simp) (by simp only [phi]; omega)
  ·exact idle0 hk S hgo hd (.s1 hr hg') (fun _ _ _ => by simp) (by omega)
 | @s2 r m g w hr h =>
  left
  rcases Goes.parts h (Far.refl _ _) with hstop | ⟨m', g', w', es, rfl, hgo, hd, hg'⟩
  ·obtain ⟨_, hall⟩ := hstop w (Far.refl _ _)
   have hm := S.mode
   have hwg := S.wg
   cases hm with
   | opn h1 h2 h3 =>
    have e0 : pend (.sp r 4) = 0 := rfl
    rw [e0, Nat.add_zero] at hwg
    obtain ⟨g', hgo, f, hf⟩ := hall (Vc (p.n - (r + 1)) D) (by omega) hwg
    have := Mode.opn (j := p.n - (r + 1)) (D := D) (tag := .sp r 3) trivial h2 (fun vs e => by cases e)
    have e1 : ((Vc (p.n - (r + 1)) D + pend (.sp r 3) : Nat) : Int) = ((Vc (p.n - (r + 1)) D : Nat) : Int) + 1 := by simp [pend]
    rw [e1] at this
    exact cell0 hk S hgo (asideCell w (stA p.Wg) _) rwE rfl (.s3 hr hf) (hwg.setSt _) this (fun _ _ _ => by simp) (.inl (by simp only [phi]; omega))
   | reg h _ _ => exact h.elim
   | last L h _ _ _ => exact h.elim
   | fin h _ => exact h.elim
  ·exact idle0 hk S hgo hd (.s2 hr hg') (fun _ _ _ => by simp) (by omega)
 | @s3 r m g w hr h =>
  left
  rcases Goes.parts h (Far.refl _ _) with hstop | ⟨m', g', w', es, rfl, hgo, hd, hg'⟩
  ·obtain ⟨_, g', hgo, f, hf⟩ := hstop w (Far.refl _ _)
   exact mark0 hk S (.inr rfl) hgo rfl (.s4 hr hf) (S.mode.openTo trivial trivial rfl (fun _ => by simp)) (fun _ _ _ => by simp) (by simp only [phi]; omega)
  ·exact idle0 hk S hgo hd (.s3 hr hg') (fun _ _ _ => by simp) (by omega)
 | @s4 r m g w hr h =>
  left
  rcases Goes.parts h (Far.refl _ _) with hstop | ⟨m', g', w', es, rfl, hgo, hd, hg'⟩
  ·exact spawn0 hk S hr (hstop w (Far.refl _ _))
  ·exact idle0 hk S hgo hd (.s4 hr hg') (fun _ _ _ => by simp) (by omega)
 | @tk m f T g w h =>
  left
  rcases Goes.parts h (Far.refl _ _) with hstop | ⟨m', g', w', es, rfl, hgo, hd, hg'⟩
  ·rcases hstop w (Far.refl _ _) with ⟨m', rfl, hs⟩ | ⟨hT, _, g', hgo, f', hf⟩
   ·exact selStep hk S (by omega) hs
   ·exact mark0 hk S (.inl rfl) hgo rfl (.an hT hf) (S.mode.openTo trivial trivial rfl (fun _ => by simp)) (fun _ _ _ => by simp) (by simp only [phi]; omega)
  ·exact idle0 hk S hgo hd (.tk hg') (fun _ _ _ => by simp) (by omega)
 | sel h => cases hrun
 | @an m T g w hT h =>
  left
  rcases Goes.parts h (Far.refl _ _) with hstop | ⟨m', g', w', es, rfl, hgo, hd, hg'⟩
  ·obtain ⟨f, hf⟩ := hk.an a w (hstop w (Far.refl _ _))
   have S' : Sit p M gs w t p.n D T .w2 f 1 a st sm q := ⟨S.h0, .w2 hT hf, S.core, S.wg, S.mode.openTo trivial trivial rfl (fun _ => by simp), fun m x y e => by cases e⟩
   exact (stepW2 hk S' hT hf).le (.inl (by simp only [mu, phi]; omega))
  ·exact idle0 hk S hgo hd (.an hT hg') (fun _ _ _ => by simp) (by omega)
 | w2 hT h => exact .inl (stepW2 hk S hT h)
 | @w3 vs m T g w hT h =>
  left
  rcases Goes.parts h (Far.refl _ _) with hstop | ⟨m', g', w', es, rfl, hgo, hd, hg'⟩
  ·obtain ⟨_, hall⟩ := hstop w (Far.refl _ _)
   have hm := S.mode
   have hwg := S.wg
   cases hm with
   | opn h1 h2 h3 =>
    simp only [pend, Nat.add_zero] at hwg
    obtain ⟨hle, h1v⟩ := h3 vs rfl
    obtain ⟨hhit, hmiss⟩ := hall (Vc p.n D) (by omega) hwg
    by_cases hv : Vc p.n D = vs
    ·obtain ⟨g', hgo, f, hf⟩ := hhit hv
     exact cell0 hk S hgo (asideCell w (stA p.Wg) _) rwE rfl (.w4 hT hf) (hwg.setSt _) (.reg trivial h2 (by omega)) (not_sel (.inl trivial)) (.inl (by simp only [phi]; omega))
    ·obtain ⟨g', hgo, f, hf⟩ := hmiss hv
     have := Mode.opn (j := p.n) (D := D) (tag := .an) trivial h2 (fun vs e => by cases e)
     simp only [pend, Nat.add_zero] at this
     exact cell0 hk S hgo (.refl _ _) rdE rfl (.an hT hf) hwg this (fun _ _ _ => by simp) (.inl (by simp only [phi]; omega))
   | reg h _ _ => exact h.elim
   | last L h _ _ _ => exact h.elim
   | fin h _ => exact h.elim
  ·exact idle0 hk S hgo hd (.w3 hT hg') (fun _ _ _ => by simp) (by omega)
 | @w4 m T g w hT h =>
  left
  rcases Goes.parts h (Far.refl _ _) with hstop | ⟨m', g', w', es, rfl, hgo, hd, hg'⟩
  ·obtain ⟨_, hof, hblk, htake⟩ := hstop w (Far.refl _ _)
   have block : ∀ {st : Int}, WgAt p.ty p.Wg w st 0 → Mode p.n D .blk st 0 → Falls p M (mu p M p.n D .w4 (m + 1) q) (runT p.P (crowd gs w sl) 0) t := fun hwg' hmd =>
    cell0 hk S (hblk ⟨_, hwg'⟩) (.refl _ _) (by simp) rfl (.blk hT hstop) hwg' hmd (not_sel (.inl trivial)) (.inr ⟨rfl, by omega⟩)
   have hm := S.mode
   have hwg := S.wg
   cases hm with
   | opn h _ _ => exact h.elim
   | reg _ h2 h3 => exact block hwg (.reg trivial h2 h3)
   | last L _ h2 h3 h4 => exact block hwg (.last L trivial h2 h3 h4)
   | sema h2 =>
    obtain ⟨g', hgo, f, hf⟩ := htake hwg
    refine cell0 hk S hgo (asideCell w (smA p.Wg) _) (fun e he => ?_) rfl (.w5 hT hf) (hwg.setSm 0) (.fin trivial h2) (not_sel (.inr trivial)) (.inl (by simp only [phi]; omega))
    simp [semEvents] at he
    rcases he with rfl | rfl | rfl | rfl
    ·exact .inl rfl
    iterate 2
     ·exact .inr (.inr ⟨_, _, rfl, rfl⟩)
    ·exact .inr (.inl rfl)
   | fin h _ => exact h.elim
  ·exact idle0 hk S hgo hd (.w4 hT hg') (fun _ _ _ => by simp) (by omega)
 | blk hT h => cases hrun
 | @w5 m T g w hT h =>
  left
  rcases Goes.parts h (Far.refl _ _) with hstop | ⟨m', g', w', es, rfl, hgo, hd, hg'⟩
  ·obtain ⟨_, hx⟩ := hstop w (Far.refl _ _)
   have hm := S.mode
   have hwg := S.wg
   cases hm with
   | opn h _ _ => exact h.elim
   | reg h _ _ => exact h.elim
   | last L h _ _ _ => exact h.elim
   | fin _ h2 =>
    obtain ⟨g', hgo, f, hf⟩ := hx hwg
    exact cell0 hk S hgo (.refl _ _) rdE rfl (.w6 hT hf) hwg (.fin trivial h2) (not_sel (.inr trivial)) (.inl (by simp only [phi]; omega))
  ·exact idle0 hk S hgo hd (.w5 hT hg') (fun _ _ _ => by simp) (by omega)
 | @w6 m T g w hT h =>
  left
  rcases Goes.parts h (Far.refl _ _) with hstop | ⟨m', g', w', es, rfl, hgo, hd, hg'⟩
  ·obtain ⟨_, g', hgo, f, hf⟩ := hstop w (Far.refl _ _)
   have hm := S.mode
   have hmd : Mode p.n D .w7 st sm := by
    cases hm with
    | opn h _ _ => exact h.elim
    | reg h _ _ => exact h.elim
    | last L h _ _ _ => exact h.elim
    | fin _ h2 => exact .fin trivial h2
   exact mark0 hk S (.inr rfl) hgo rfl (.w7 hT hf) hmd (not_sel (.inr trivial)) (by simp only [phi]; omega)
  ·exact idle0 hk S hgo hd (.w6 hT hg') (fun _ _ _ => by simp) (by omega)
 | @w7 m T g w hT h =>
  rcases Goes.parts h (Far.refl _ _) with hstop | ⟨m', g', w', es, rfl, hgo, hd, hg'⟩
  ·right
   obtain ⟨_, g', hgo, hpost⟩ := hstop w (Far.refl _ _)
   have hb := hk.b1
   have hq : AllQuit p.n D := by
    have hm := S.mode
    cases hm with
    | opn h _ _ => exact h.elim
    | reg h _ _ => exact h.elim
    | last L h _ _ _ => exact h.elim
    | fin _ h2 => exact h2
   have hrun := runT_crowd_go (P := p.P) (sl := sl) (i := 0) S.h0 (show stepG p.P (0 == 0) a w = _ from hgo)
   have C := Core.step0 S.core hk S.live (a := a) (a' := g') (es := #[Go.ConcR.mk (.acquire (stA p.Wg))]) (w' := w) (fun _ _ => rfl) S.core.box (fun e he => (okM_mark hk.lowWg (.inr (.inr rfl)) e he).up bd_b) (Nat.le_refl _)
   have e1 : MemOp.ofEvents 0 a.frame.fn a.frame.place #[Go.ConcR.mk (.acquire (stA p.Wg))] = #[{ g := 0, fn := a.frame.fn, pos := a.frame.place, act := .mark (.acquire (stA p.Wg)) }] := by rw [ofEvents_eq]; simp [Go.ConcR.ofEvent_mk]
   refine ⟨_, _, hrun, _, w, sl, g', (fun i => if i < p.b then q i else (D (i - p.b)).fuel), rfl, get_map_set_same _ _ _ (Array.getElem?_eq_some_iff.1 S.h0).1, hpost, ⟨fun i x hi hx => ?_, fun i hi => C.above i (by rw [C.size] at hi; exact hi)⟩, ?_⟩
   ·by_cases hib : i < p.b
    ·simp only [hib, if_true]; exact C.old i x hi hib hx
    ·simp only [hib, if_false]
     have hlt := (Array.getElem?_eq_some_iff.1 hx).1
     rw [C.size] at hlt
     obtain ⟨y, hy, hws⟩ := C.wk (i - p.b) (by omega)
     rw [show p.b + (i - p.b) = i by omega, hx] at hy
     obtain rfl := Option.some.inj hy
     have hdf := C.deafK (i - p.b) (by omega)
     rw [show p.b + (i - p.b) = i by omega] at hdf
     have hst := hq (i - p.b) (by omega)
     rw [hdf]
     generalize D (i - p.b) = d at hws hst
     cases hws with
     | quit h => exact h
     | _ => simp at hst
   ·have hd0 : Deaf t 0 = 0 := S.core.deaf0
    refine Mid.finish (q := t.size) C.mid hb ?_ ?_ ?_ (fun k hk' => ?_) C.deaf0
    ·rw [e1]; simp [Trace.act?]
    ·rw [e1]; simp [Trace.g?]
    ·exact ⟨0, by rw [e1]; simp [Trace.g?], by rw [deaf_old (Nat.le_refl _)]; exact hd0⟩
    ·obtain ⟨r, hr⟩ := S.core.rel k hk' (by have := hq k hk'; omega)
     exact ⟨r, Go.ConcN.RelBy.appOther hr (g := 0) (fun op hop => by obtain ⟨e, _, rfl⟩ := Go.Conc.mem_ofEvents hop; rfl) (by omega), lt_of_act? hr.act⟩
  ·exact .inl (idle0 hk S hgo hd (.w7 hT hg') (fun _ _ _ => by simp) (by omega))
theorem mxStep (hk : p.Ok) (μ : Nat × Nat) (m : Machine) (h : Inv p M μ m t) :
  Falls p M μ (stepT p.P m) t ∨ ∃ m₁ ops, stepT p.P m = (.next m₁, ops) ∧ Done p m₁ (t ++ ops) := by
 obtain ⟨gs, w, sl, j, D, T, tag, f0, d0, a, st, sm, q, rfl, S, rfl⟩ := h
 have hb := hk.b1
 have haw : ∀ g ∈ gs, awake g := by
  intro g hg
  obtain ⟨i, hi, rfl⟩ := Array.mem_iff_getElem.1 hg
  have hgi : gs[i]? = some gs[i] := Array.getElem?_eq_getElem hi
  rcases Nat.eq_zero_or_pos i with rfl | hpos
  ·have e : gs[0] = a := Option.some.inj (hgi.symm.trans S.h0)
   rw [e]
   rcases ms_status hk S.ms with ⟨h, _⟩ | ⟨h, _⟩
   ·exact awake_of (.inl h)
   ·exact awake_of (.inr (.inl h))
  ·by_cases hib : i < p.b
   ·exact awake_of ((S.core.old i _ hpos hib hgi).status.elim .inl fun x => .inr (.inr x))
   ·rw [S.core.size] at hi
    obtain ⟨y, hy, hws⟩ := S.core.wk (i - p.b) (by omega)
    rw [show p.b + (i - p.b) = i by omega, hgi] at hy
    obtain rfl := Option.some.inj hy
    exact ws_awake hws (S.kl (by omega))
 have wrun : ∀ k, k < j → 2 ≤ (D k).stage → (D k).park = false → ∃ (i : Nat) (g : Goroutine), gs[i]? = some g ∧ g.status = .running := fun k hk' h2 hp => by
  obtain ⟨g, hg, hws⟩ := S.core.wk k hk'
  exact ⟨_, g, hg, ws_run hws (S.kl hk') h2 hp⟩
 have hsome : ∃ (i : Nat) (g : Goroutine), gs[i]? = some g ∧ g.status = .running := by
  rcases ms_status hk S.ms with ⟨h, _⟩ | ⟨_, ht⟩
  ·exact ⟨0, a, S.h0, h⟩
  ·have hms := S.ms
   cases hms with
   | @sel m x y T g₂ w hs =>
    obtain ⟨k, hkx, ho⟩ : ∃ k, (k = x ∨ k = y) ∧ p.opn T k := by
     rcases hs.one with h | h
     ·exact ⟨x, .inl rfl, h⟩
     ·exact ⟨y, .inr rfl, h⟩
    obtain ⟨h8, hsent⟩ := S.sq _ _ _ rfl k hkx ho
    refine wrun k ho.1 (by omega) ?_
    have hc := S.core.chan k ho.1
    obtain ⟨g, hg, hws⟩ := S.core.wk k ho.1
    cases hpk : (D k).park with
    | false => rfl
    | true =>
     exfalso
     have h1 := hc.park hpk
     have hl : (D k).sent < (p.vs k).length := by
      generalize D k = d at hws hpk
      cases hws with
      | park h _ _ => exact h
      | _ => cases hpk
     rcases hk.capOk k ho.1 with h | h
     ·rw [h] at hl; simp at hl
     ·omega
   | @blk T g w hT hs =>
    have hm := S.mode
    have past : ∀ k, k < p.n → (D k).stage ≤ 7 := fun k hk' => (S.core.chan k hk').done (by rw [hT k hk']; omega)
    have nopark : ∀ k, k < p.n → (D k).park = false := fun k hk' => by
     obtain ⟨g, hg, hws⟩ := S.core.wk k hk'
     rcases ws_status hws (S.kl hk') with ⟨h, _⟩ | ⟨_, _, h⟩
     ·exact h
     ·have := past k hk'; omega
    cases hm with
    | opn h _ _ => exact h.elim
    | reg _ h2 h3 =>
     have : ∃ k, k < p.n ∧ 5 ≤ (D k).stage := by
      by_cases hex : ∃ k, k < p.n ∧ 5 ≤ (D k).stage
      ·exact hex
      ·exfalso
       have h0 : Vc p.n D ≤ 0 * p.n := sumTo_le fun i hi => by
        simp only [cnt]
        split
        ·exact absurd ⟨i, hi, by assumption⟩ hex
        ·omega
       omega
     obtain ⟨k, hk', h5⟩ := this
     exact wrun k hk' (by omega) (nopark k hk')
    | last L _ h2 h3 h4 => exact wrun L h2 (by omega) (nopark L h2)
    | fin h _ => exact h.elim
   | _ => rcases ht with ht | ⟨_, _, _, ht⟩ <;> cases ht
 obtain ⟨i, g, d, sl', hi, hg, hst⟩ := crowd_pick (P := p.P) (w := w) (sl := sl) haw hsome
 have Sd : Sit p M gs (w.at d) t j D T tag f0 d0 a st sm q := ⟨S.h0, ms_rely S.ms (Far.at _ _ _), Core.at S.core hk d, S.wg.of_block rfl, S.mode, S.sq⟩
 rw [hst]
 rcases Nat.eq_zero_or_pos i with rfl | hpos
 ·obtain rfl : g = a := Option.some.inj (hi.symm.trans S.h0)
  exact stepMain hk Sd hg
 ·left
  by_cases hib : i < p.b
  ·have hq := S.core.old i g hpos hib hi
   have hi0 : (i == 0) = false := by simp; omega
   cases hqi : q i with
   | zero => rw [hqi] at hq; rw [hq.1] at hg; cases hg
   | succ m =>
    rw [hqi] at hq
    rcases hq with ⟨hf, _⟩ | ⟨_, g', es, hm, hstp, hq'⟩
    ·rw [hf] at hg; cases hg
    have hrun := runT_crowd_go (P := p.P) (sl := sl') (i := i) hi (by rw [hi0]; exact hstp (w.at d))
    obtain ⟨tag', f', hms, hf', htag, _⟩ := ms_woken hk Sd.ms (Far.refl _ _) g g'
    have hsum : sumTo p.b (upd q i m) + (m + 1) = sumTo p.b q + m := by
     have := sumTo_upd q m id hib
     simpa [hqi] using this
    refine ⟨_, _, mu p M j D tag' f' (upd q i m), hrun, ?_, _, w.at d, sl', j, D, T, tag', f', d0, woken p.P g g' (w.at d) a, st, sm, upd q i m, rfl, ⟨by rw [get_map_set _ _ _ _ (by omega), S.h0]; rfl, hms, Core.stepO Sd.core hk Sd.live hpos hib hm hq', Sd.wg, S.mode.retag htag, fun m x y e => ?_⟩, rfl⟩
    ·refine .inr ⟨by simp only [mu, phi_retag p M _ htag], ?_⟩
     simp only [mu]
     omega
    ·rcases htag with rfl | ⟨_, rfl⟩ | ⟨_, _, _, _, rfl⟩
     ·exact S.sq m x y e
     ·cases e
     ·cases e
  ·have hlt := (Array.getElem?_eq_some_iff.1 hi).1
   rw [S.core.size] at hlt
   have := stepSender hk Sd (k := i - p.b) (sl := sl') (by omega) (by rw [show p.b + (i - p.b) = i by omega]; exact hi) hg
   rw [show p.b + (i - p.b) = i by omega] at this
   exact this
theorem lt_wf : WellFounded Lt := by
 have : Lt = Prod.Lex (· < ·) (· < ·) := by
  funext x y
  apply propext
  obtain ⟨x1, x2⟩ := x
  obtain ⟨y1, y2⟩ := y
  constructor
  ·rintro (h | ⟨h1, h2⟩)
   ·exact Prod.Lex.left _ _ h
   ·simp only at h1 h2
    subst h1
    exact Prod.Lex.right _ h2
  ·intro h
   cases h with
   | left _ _ h => exact .inl h
   | right _ h => exact .inr ⟨rfl, h⟩
 rw [this]
 exact (Prod.lex Nat.lt_wfRel Nat.lt_wfRel).wf
theorem mxRuns (hk : p.Ok) : ∀ (μ : Nat × Nat) (m : Machine) (t : Trace), Inv p M μ m t → ∃ N m' t', runNT p.P N m t = (.next m', t') ∧ Done p m' t' := by
 intro μ
 induction μ using lt_wf.induction with
 | _ μ ih =>
  intro m t h
  rcases mxStep hk μ m h with ⟨m₁, ops, μ', hs, hlt, hI⟩ | ⟨m₁, ops, hs, hd⟩
  ·obtain ⟨N, m'', t'', hr, hd⟩ := ih μ' hlt m₁ (t ++ ops) hI
   exact ⟨N + 1, m'', t'', by simp only [runNT, hs]; exact hr, hd⟩
  ·exact ⟨1, m₁, t ++ ops, by simp only [runNT, hs], hd⟩
theorem phase (hk : p.Ok) (hn : 1 ≤ p.n) {B0 : Nat} (hB : B0 ≤ p.Bd w) (hW : B0 ≤ p.Wg) (hsz : gs.size = p.b) (h0 : gs[0]? = some a) (hL : Leavers p.P t gs q) (hP : Past p.Shun B0 t) (hwg : WgAt p.ty p.Wg w 0 0)
  (h : p.Spawns (p.Takes M Ph.T00) p.n a w) : ∃ N m' t', runNT p.P N (crowd gs w sl) t = (.next m', t') ∧ Done p m' t' := by
 obtain ⟨r, hr⟩ : ∃ r, p.n = r + 1 := ⟨p.n - 1, by omega⟩
 have h' : p.Spawns (p.Takes M Ph.T00) (r + 1) a w := hr ▸ h
 obtain ⟨f, hf⟩ := h'
 have e0 : p.n - (r + 1) = 0 := by omega
 have hms := MS.s1 (p := p) (M := M) (r := r) (m := f) (g := a) (w := w) (by omega) hf
 rw [e0] at hms
 have hcore : p.Core q gs w t 0 (fun _ => ⟨0, 0, 0, 0, false⟩) Ph.T00 0 := by
  refine ⟨Nat.zero_le _, by omega, fun i g hi hlt hg => hL.old i g hi hg, fun k hk' => by omega, Mid.start hP hB hW, hP.hears, fun k hk' => by omega, fun i hi => hL.above i (by omega), fun k hk' => by omega, fun k hk' => by omega, fun k hk' => by omega⟩
 have hmode : Mode 0 (fun _ => (⟨0, 0, 0, 0, false⟩ : WD)) (.sp r 5) 0 0 := by
  have := Mode.opn (j := 0) (D := fun _ => (⟨0, 0, 0, 0, false⟩ : WD)) (tag := .sp r 5) trivial (fun i hi => by omega) (fun vs e => by cases e)
  simpa [Vc, sumTo, pend] using this
 exact mxRuns hk _ _ t ⟨gs, w, sl, 0, fun _ => ⟨0, 0, 0, 0, false⟩, Ph.T00, .sp r 5, f, 0, a, 0, 0, q, rfl, ⟨h0, hms, hcore, hwg, hmode, fun m x y e => by cases e⟩, rfl⟩
end
end Go.Proofs.Ytilpedopnkhppaa.Mx

