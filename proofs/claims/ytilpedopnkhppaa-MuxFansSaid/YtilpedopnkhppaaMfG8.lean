/- Many senders and one who takes: how the group's count hangs on where everybody stands; the measure; the starter under another's step. Conditions: each theorem's own. -/
import Derived.Test.YtilpedopnkhppaaMfG7
import Derived.Conc.CrowdStepW
set_option linter.unusedVariables false
set_option linter.unusedSimpArgs false
namespace Go.Proofs.Ytilpedopnkhppaa.Mx
open Go.Conc
open Go.ConcN (sumTo upd sumTo_upd upd_ne upd_same sumTo_congr le_sumTo sumTo_le RelBy Deaf_still)
open Go.ConcR (KK wgBlock WgAt stA smA rd wr DC0)
open Ph (Tag WD MS)
def cnt (d : WD) : Nat := if 5 ≤ d.stage then 1 else 0
def Vc (j : Nat) (D : Nat → WD) : Nat := sumTo j fun i => cnt (D i)
def wt (p : Ph) (k : Nat) (d : WD) : Nat := d.stage + 2 * ((p.vs k).length - d.sent)
def Ssum (p : Ph) (j : Nat) (D : Nat → WD) : Nat := sumTo j fun k => wt p k (D k)
def Fsum (j : Nat) (D : Nat → WD) : Nat := sumTo j fun k => (D k).fuel
def remW (p : Ph) (r : Nat) : Nat := sumTo r fun i => 20 + 2 * (p.vs (p.n - (i + 1))).length
def phi (p : Ph) (M v : Nat) : Tag → Nat
 | .sp r s => remW p (r + 1) + s + (8 * p.n + 20 + M)
 | .tk m => 8 * p.n + 20 + m
 | .sel m _ _ => 8 * p.n + 20 + m
 | .an => 8 * v + 6
 | .w2 => 8 * v + 5
 | .w3 vs => 8 * vs + 4
 | .w4 => 5
 | .blk => 5
 | .w5 => 4
 | .w6 => 3
 | .w7 => 2
def pend : Tag → Nat
 | .sp _ s => if s ≤ 3 then 1 else 0
 | _ => 0
def isOpen : Tag → Prop
 | .sp _ _ | .tk _ | .sel _ _ _ | .an | .w2 | .w3 _ => True
 | _ => False
def isW : Tag → Prop
 | .w4 | .blk => True
 | _ => False
def isFin : Tag → Prop
 | .w5 | .w6 | .w7 => True
 | _ => False
def OpenSt (j : Nat) (D : Nat → WD) : Prop := ∀ i, i < j → 5 ≤ (D i).stage ∨ (D i).stage = 1
def AllQuit (j : Nat) (D : Nat → WD) : Prop := ∀ i, i < j → (D i).stage = 1
inductive Mode (j : Nat) (D : Nat → WD) : Tag → Int → Int → Prop
 | opn {tag : Tag} : isOpen tag → OpenSt j D → (∀ vs, tag = .w3 vs → Vc j D ≤ vs ∧ 1 ≤ vs) → Mode j D tag (((Vc j D + pend tag : Nat) : Int) * KK) 0
 | reg {tag : Tag} : isW tag → OpenSt j D → 1 ≤ Vc j D → Mode j D tag (((Vc j D : Nat) : Int) * KK + 1) 0
 | last {tag : Tag} (L : Nat) : isW tag → L < j → ((D L).stage = 4 ∨ (D L).stage = 3 ∨ (D L).stage = 2) → (∀ i, i < j → i ≠ L → (D i).stage = 1) → Mode j D tag (if (D L).stage = 2 then 0 else 1) 0
 | sema : AllQuit j D → Mode j D .w4 0 1
 | fin {tag : Tag} : isFin tag → AllQuit j D → Mode j D tag 0 0
def Retag (tag tag' : Tag) : Prop := tag' = tag ∨ (tag = .blk ∧ tag' = .w4) ∨ ∃ m x y, tag = .sel m x y ∧ tag' = .tk m
theorem Mode.retag {j : Nat} {D : Nat → WD} {tag tag' : Tag} {st sm : Int} (h : Mode j D tag st sm) (e : Retag tag tag') : Mode j D tag' st sm := by
 rcases e with rfl | ⟨rfl, rfl⟩ | ⟨m, x, y, rfl, rfl⟩
 ·exact h
 ·cases h with
  | opn h1 _ _ => exact h1.elim
  | reg _ h2 h3 => exact .reg trivial h2 h3
  | last L _ h2 h3 h4 => exact .last L trivial h2 h3 h4
  | fin h1 _ => exact h1.elim
 ·cases h with
  | opn _ h2 _ => exact .opn (tag := .tk m) trivial h2 (fun vs e => by cases e)
  | reg h1 _ _ => exact h1.elim
  | last L h1 _ _ _ => exact h1.elim
  | fin h1 _ => exact h1.elim
theorem phi_retag (p : Ph) (M v : Nat) {tag tag' : Tag} (e : Retag tag tag') : phi p M v tag' = phi p M v tag := by
 rcases e with rfl | ⟨rfl, rfl⟩ | ⟨m, x, y, rfl, rfl⟩ <;> rfl
theorem phi_mono (p : Ph) (M : Nat) {v v' : Nat} (h : v' ≤ v) (tag : Tag) : phi p M v' tag ≤ phi p M v tag := by
 cases tag <;> simp only [phi] <;> omega
theorem Vc_le (j : Nat) (D : Nat → WD) : Vc j D ≤ j := by
 have := sumTo_le (f := fun i => cnt (D i)) (c := 1) (j := j) fun i _ => by simp only [cnt]; split <;> omega
 simpa [Vc] using this
theorem Vc_upd {j i : Nat} (D : Nat → WD) (x : WD) (hi : i < j) : Vc j (upd D i x) + cnt (D i) = Vc j D + cnt x := sumTo_upd D x cnt hi
theorem Mode.congr {j : Nat} {D D' : Nat → WD} {tag : Tag} {st sm : Int} (h : ∀ a, a < j → (D' a).stage = (D a).stage) (hm : Mode j D tag st sm) : Mode j D' tag st sm := by
 have hv : Vc j D' = Vc j D := sumTo_congr fun a ha => by simp only [cnt, h a ha]
 cases hm with
 | opn h1 h2 h3 => rw [← hv]; exact .opn h1 (fun a ha => by rw [h a ha]; exact h2 a ha) (fun vs e => by rw [hv]; exact h3 vs e)
 | reg h1 h2 h3 => rw [← hv]; exact .reg h1 (fun a ha => by rw [h a ha]; exact h2 a ha) (by rw [hv]; exact h3)
 | last L h1 h2 h3 h4 => rw [← h L h2]; exact .last L h1 h2 (by rw [h L h2]; exact h3) (fun a ha e => by rw [h a ha]; exact h4 a ha e)
 | sema h2 => exact .sema fun a ha => by rw [h a ha]; exact h2 a ha
 | fin h1 h2 => exact .fin h1 fun a ha => by rw [h a ha]; exact h2 a ha
theorem Mode.same {j i : Nat} {D : Nat → WD} {tag : Tag} {st sm : Int} (hm : Mode j D tag st sm) {d' : WD} (e : d'.stage = (D i).stage) : Mode j (upd D i d') tag st sm :=
 hm.congr fun a _ => by
  by_cases e' : a = i
  ·subst e'; rw [upd_same]; exact e
  ·rw [upd_ne D _ e']
theorem Mode.counted {j i : Nat} {D : Nat → WD} {tag : Tag} {st sm : Int} (hm : Mode j D tag st sm) (hi : i < j) (h5 : 5 ≤ (D i).stage) {d' : WD} (hs : 5 ≤ d'.stage) : Mode j (upd D i d') tag st sm := by
 have hv : Vc j (upd D i d') = Vc j D := by
  have := Vc_upd D d' hi
  have c1 : cnt (D i) = 1 := by simp [cnt, h5]
  have c2 : cnt d' = 1 := by simp [cnt, hs]
  omega
 have ho : OpenSt j D → OpenSt j (upd D i d') := fun h a ha => by
  by_cases e : a = i
  ·subst e; rw [upd_same]; exact .inl hs
  ·rw [upd_ne D _ e]; exact h a ha
 cases hm with
 | opn h1 h2 h3 => rw [← hv]; exact .opn h1 (ho h2) (fun vs e => by rw [hv]; exact h3 vs e)
 | reg h1 h2 h3 => rw [← hv]; exact .reg h1 (ho h2) (by rw [hv]; exact h3)
 | last L h1 h2 h3 h4 =>
  by_cases e : i = L
  ·subst e; omega
  ·have := h4 i hi e; omega
 | sema h2 => have := h2 i hi; omega
 | fin h1 h2 => have := h2 i hi; omega
theorem Mode.isLast {j i : Nat} {D : Nat → WD} {tag : Tag} {st sm : Int} (hm : Mode j D tag st sm) (hi : i < j) (h : (D i).stage = 4 ∨ (D i).stage = 3 ∨ (D i).stage = 2) :
  isW tag ∧ (∀ a, a < j → a ≠ i → (D a).stage = 1) ∧ st = (if (D i).stage = 2 then 0 else 1) ∧ sm = 0 := by
 cases hm with
 | opn _ h2 _ => have := h2 i hi; omega
 | reg _ h2 _ => have := h2 i hi; omega
 | last L h1 h2 h3 h4 =>
  by_cases e : i = L
  ·subst e; exact ⟨h1, h4, rfl, rfl⟩
  ·have := h4 i hi e; omega
 | sema h2 => have := h2 i hi; omega
 | fin _ h2 => have := h2 i hi; omega
theorem others_uncounted {j i : Nat} {D : Nat → WD} (hi : i < j) (h1 : Vc j D = 1) (hc : cnt (D i) = 1) : ∀ a, a < j → a ≠ i → cnt (D a) = 0 := by
 intro a ha e
 have h0 := Vc_upd D (⟨0, 0, 0, 0, false⟩ : WD) hi
 have c0 : cnt (⟨0, 0, 0, 0, false⟩ : WD) = 0 := rfl
 have := le_sumTo (f := fun x => cnt (upd D i ⟨0, 0, 0, 0, false⟩ x)) ha
 simp only [upd_ne D _ e] at this
 simp only [Vc] at h0 h1
 omega
section
variable {p : Ph} {M : Nat} {gs : Array Goroutine} {w w' : World} {t : Trace} {j f0 d0 : Nat} {D : Nat → WD} {T : Nat → Nat} {tag : Tag} {a : Goroutine}
theorem selAt_rely {Next : (Nat → Nat) → Goroutine → World → Prop} {x y : Nat} {g₂ : Goroutine} (h : p.SelAt Next T x y g₂ w) (hf : p.Far p.n w w') : p.SelAt Next T x y g₂ w' :=
 ⟨h.ne, h.one, fun w₁ h₁ => h.step w₁ (Far.trans hf h₁), fun i k v hik hk hv w₁ h₁ => h.val i k v hik hk hv w₁ (Far.trans hf h₁), fun i k hik hk hv w₁ h₁ => h.shut i k hik hk hv w₁ (Far.trans hf h₁)⟩
theorem ms_j (h : p.MS M tag j T f0 d0 a w) : j + pend tag ≤ p.n := by
 cases h <;> simp only [pend] <;> (try simp) <;> omega
theorem ms_rely (h : p.MS M tag j T f0 d0 a w) (hf : p.Far j w w') : p.MS M tag j T f0 d0 a w' := by
 have tr : ∀ {j : Nat}, ∀ a b c, p.Far j a b → p.Far j b c → p.Far j a c := fun _ _ _ h1 h2 => Far.trans h1 h2
 cases h with
 | s1 hr h => exact .s1 hr (Goes.rely tr h hf)
 | s2 hr h => exact .s2 hr (Goes.rely tr h hf)
 | s3 hr h => exact .s3 hr (Goes.rely tr h hf)
 | s4 hr h => exact .s4 hr (Goes.rely tr h hf)
 | tk h => exact .tk (Goes.rely tr h hf)
 | sel h => exact .sel (selAt_rely h hf)
 | an hT h => exact .an hT (Goes.rely tr h hf)
 | w2 hT h => exact .w2 hT (Goes.rely tr h hf)
 | w3 hT h => exact .w3 hT (Goes.rely tr h hf)
 | w4 hT h => exact .w4 hT (Goes.rely tr h hf)
 | blk hT h => exact .blk hT fun w₁ h₁ => h w₁ (Far.trans hf h₁)
 | w5 hT h => exact .w5 hT (Goes.rely tr h hf)
 | w6 hT h => exact .w6 hT (Goes.rely tr h hf)
 | w7 hT h => exact .w7 hT (Goes.rely tr h hf)
theorem ms_status (hk : p.Ok) (h : p.MS M tag j T f0 d0 a w) : (a.status = .running ∧ tag ≠ .blk ∧ ∀ m x y, tag ≠ .sel m x y) ∨ (a.status = .blocked ∧ (tag = .blk ∨ ∃ m x y, tag = .sel m x y)) := by
 cases h with
 | s1 hr h => exact .inl ⟨goes_run (Far.refl _ w) (fun _ _ x => x.1) h, by simp, by simp⟩
 | s2 hr h => exact .inl ⟨goes_run (Far.refl _ w) (fun _ _ x => x.1) h, by simp, by simp⟩
 | s3 hr h => exact .inl ⟨goes_run (Far.refl _ w) (fun _ _ x => x.1) h, by simp, by simp⟩
 | s4 hr h => exact .inl ⟨goes_run (Far.refl _ w) (fun _ _ x => x.1) h, by simp, by simp⟩
 | tk h => exact .inl ⟨goes_run (Far.refl _ w) (fun _ _ x => x.elim (fun ⟨_, _, y⟩ => y.1) (fun y => y.2.1)) h, by simp, by simp⟩
 | sel h => exact .inr ⟨rfl, .inr ⟨_, _, _, rfl⟩⟩
 | an hT h => exact .inl ⟨goes_run (Far.refl _ w) hk.anRun h, by simp, by simp⟩
 | w2 hT h => exact .inl ⟨goes_run (Far.refl _ w) (fun _ _ x => x.1) h, by simp, by simp⟩
 | w3 hT h => exact .inl ⟨goes_run (Far.refl _ w) (fun _ _ x => x.1) h, by simp, by simp⟩
 | w4 hT h => exact .inl ⟨goes_run (Far.refl _ w) (fun _ _ x => x.1) h, by simp, by simp⟩
 | blk hT h => exact .inr ⟨rfl, .inl rfl⟩
 | w5 hT h => exact .inl ⟨goes_run (Far.refl _ w) (fun _ _ x => x.1) h, by simp, by simp⟩
 | w6 hT h => exact .inl ⟨goes_run (Far.refl _ w) (fun _ _ x => x.1) h, by simp, by simp⟩
 | w7 hT h => exact .inl ⟨goes_run (Far.refl _ w) (fun _ _ x => x.1) h, by simp, by simp⟩
theorem sel_again {m x y : Nat} {g₂ : Goroutine} (h : p.SelAt (p.Takes m) T x y g₂ w) : p.MS M (.tk (m + 1)) p.n T 1 0 { parked g₂ (p.kases T x y) .select with status := .running } w :=
 .tk (Goes.stop fun w₁ h₁ => .inl ⟨m, rfl, rfl, g₂, x, y, rfl, rfl, rfl, selAt_rely h h₁⟩)
theorem blk_again {g : Goroutine} (hT : p.AllT T) (h : ∀ w₁, p.Far p.n w w₁ → p.V4 g w₁) : p.MS M .w4 p.n T 1 1 { ({ g with status := .blocked } : Goroutine) with status := .running } w := by
 have h4 := h w (Far.refl _ _)
 have e : { ({ g with status := .blocked } : Goroutine) with status := .running } = g := by
  obtain ⟨fr, cs, st, dy, of⟩ := g
  have : st = .running := h4.1
  subst this
  rfl
 rw [e]
 exact .w4 hT (Goes.stop h)
def SelQ (p : Ph) (D : Nat → WD) (T : Nat → Nat) (tag : Tag) : Prop := ∀ m x y, tag = .sel m x y → ∀ k, (k = x ∨ k = y) → p.opn T k → (D k).stage = 8 ∧ (D k).sent = T k
theorem kase_cases (p : Ph) (T : Nat → Nat) (k : Nat) : (p.opn T k ∧ p.kase T k = rcase (p.ch k) p.z) ∨ (¬ p.opn T k ∧ p.kase T k = rcaseNil p.z) := by
 by_cases h : p.opn T k
 ·exact .inl ⟨h, by simp [Ph.kase, h]⟩
 ·exact .inr ⟨h, by simp [Ph.kase, h]⟩
theorem again_sel {g₂ : Goroutine} {x y : Nat} :
  ((∃ k, (k = x ∨ k = y) ∧ p.opn T k ∧ ∃ cap buf s r tm, w'.heap[p.ch k]? = some (.chan cap buf true s r tm)) ∧ (parked g₂ (p.kases T x y) .select).again w' = { parked g₂ (p.kases T x y) .select with status := .running }) ∨
  ((¬ ∃ k, (k = x ∨ k = y) ∧ p.opn T k ∧ ∃ cap buf s r tm, w'.heap[p.ch k]? = some (.chan cap buf true s r tm)) ∧ (parked g₂ (p.kases T x y) .select).again w' = parked g₂ (p.kases T x y) .select) := by
 by_cases h : ∃ k, (k = x ∨ k = y) ∧ p.opn T k ∧ ∃ cap buf s r tm, w'.heap[p.ch k]? = some (.chan cap buf true s r tm)
 ·refine .inl ⟨h, ?_⟩
  obtain ⟨k, hk, ho, cap, buf, s, r, tm, hc⟩ := h
  have e : p.kase T k = rcase (p.ch k) p.z := by simp [Ph.kase, ho]
  rcases hk with rfl | rfl
  ·exact again_some_closed (k := 0) (z := p.z) (by simp [Ph.kases, e]) hc
  ·exact again_some_closed (k := 1) (z := p.z) (by simp [Ph.kases, e]) hc
 ·refine .inr ⟨h, ?_⟩
  have hx : ∀ k, (k = x ∨ k = y) → (p.kase T k = rcaseNil p.z) ∨ (p.kase T k = rcase (p.ch k) p.z ∧ ∀ cap buf s r tm, w'.heap[p.ch k]? ≠ some (.chan cap buf true s r tm)) := by
   intro k hk
   rcases kase_cases p T k with ⟨ho, e⟩ | ⟨_, e⟩
   ·exact .inr ⟨e, fun cap buf s r tm hh => h ⟨k, hk, ho, cap, buf, s, r, tm, hh⟩⟩
   ·exact .inl e
  have key : ∀ (c : Nat), (∀ cap buf s r tm, w'.heap[c]? ≠ some (Obj.chan cap buf true s r tm)) → (match (w'.heap[c]? : Option Obj) with | some (Obj.chan _ _ true _ _ _) => true | _ => false) = false := by
   intro c hc
   split
   ·rename_i hh; exact absurd hh (hc _ _ _ _ _)
   ·rfl
  rcases hx x (.inl rfl) with e1 | ⟨e1, c1⟩ <;> rcases hx y (.inr rfl) with e2 | ⟨e2, c2⟩ <;> simp [Goroutine.again, parked, Ph.kases, e1, e2, rcase, rcaseNil]
  all_goals first | exact ⟨key _ c1, key _ c2⟩ | exact key _ c2 | exact key _ c1
theorem ms_woken (hk : p.Ok) (h : p.MS M tag j T f0 d0 a w) (hf : p.Far j w w') (g g' : Goroutine) :
  ∃ tag' f', p.MS M tag' j T f' d0 (woken p.P g g' w' a) w' ∧ f' ≤ f0 + 1 ∧ Retag tag tag' ∧
   (mayWake p.P g = true → (g'.status = .running ∨ g'.status = .finished) → tag' ≠ .blk ∧ ∀ m x y, tag' = .sel m x y → ¬ ∃ k, (k = x ∨ k = y) ∧ p.opn T k ∧ ∃ cap buf s r tm, w'.heap[p.ch k]? = some (.chan cap buf true s r tm)) := by
 have h' := ms_rely h hf
 rcases ms_status hk h with ⟨hr, h1, h2⟩ | ⟨hb, ht⟩
 ·have e : woken p.P g g' w' a = a := by
   unfold woken
   split
   ·exact again_running _ (.inl hr)
   ·rfl
  exact ⟨tag, f0, by rw [e]; exact h', by omega, .inl rfl, fun _ _ => ⟨h1, fun m x y e => absurd e (h2 m x y)⟩⟩
 ·by_cases hw : (mayWake p.P g && g'.status != .blocked && g'.status != .waiting) = true
  ·have e : woken p.P g g' w' a = a.again w' := by simp [woken, hw]
   cases h' with
   | @sel m x y T g₂ _ hs =>
    rcases again_sel (p := p) (T := T) (w' := w') (g₂ := g₂) (x := x) (y := y) with ⟨_, ea⟩ | ⟨hn, ea⟩
    ·exact ⟨.tk (m + 1), 1, by rw [e, ea]; exact sel_again hs, by omega, .inr (.inr ⟨_, _, _, rfl, rfl⟩), fun _ _ => ⟨by simp, fun m x y e => by cases e⟩⟩
    ·exact ⟨.sel (m + 1) x y, 0, by rw [e, ea]; exact .sel hs, by omega, .inl rfl, fun _ _ => ⟨by simp, fun m x y e => by cases e; exact hn⟩⟩
   | @blk T g _ hT hs =>
    have e4 := hs w' (Far.refl _ _)
    refine ⟨.w4, 1, ?_, by omega, .inr (.inl ⟨rfl, rfl⟩), fun _ _ => ⟨by simp, fun m x y e => by cases e⟩⟩
    have ea : Goroutine.again w' { g with status := .blocked } = { ({ g with status := .blocked } : Goroutine) with status := .running } := by
     simp [Goroutine.again, e4.2.1]
    rw [e, ea]
    exact blk_again hT hs
   | _ => rcases ht with ht | ⟨_, _, _, ht⟩ <;> cases ht
  ·have e : woken p.P g g' w' a = a := by simp [woken, hw]
   refine ⟨tag, f0, by rw [e]; exact h', by omega, .inl rfl, fun hm hs => absurd ?_ hw⟩
   rcases hs with hs | hs <;> simp [hm, hs]
end
end Go.Proofs.Ytilpedopnkhppaa.Mx

/- Many senders and one who takes: a sender's own step keeps what holds and lowers the measure. Conditions: each theorem's own. -/
namespace Go.Proofs.Ytilpedopnkhppaa.Mx
open Go.Conc
open Go.ConcN (sumTo upd sumTo_upd upd_ne upd_same sumTo_congr le_sumTo sumTo_le RelBy Deaf_still)
open Go.ConcR (KK wgBlock WgAt stA smA rd wr DC0 Bk ofEvent_loc_mark bk_of_mute)
open Ph (Tag WD MS)
structure Sit (p : Ph) (M : Nat) (gs : Array Goroutine) (w : World) (t : Trace) (j : Nat) (D : Nat → WD) (T : Nat → Nat) (tag : Tag) (f0 d0 : Nat) (a : Goroutine) (st sm : Int) (q : Nat → Nat) : Prop where
 h0 : gs[0]? = some a
 ms : p.MS M tag j T f0 d0 a w
 core : p.Core q gs w t j D T d0
 wg : WgAt p.ty p.Wg w st sm
 mode : Mode j D tag st sm
 sq : SelQ p D T tag
def mu (p : Ph) (M j : Nat) (D : Nat → WD) (tag : Tag) (f0 : Nat) (q : Nat → Nat) : Nat × Nat := (phi p M (Vc j D) tag + Ssum p j D, f0 + 2 * (Fsum j D + sumTo p.b q))
def Inv (p : Ph) (M : Nat) (μ : Nat × Nat) (m : Machine) (t : Trace) : Prop :=
 ∃ gs w sl j D T tag f0 d0 a st sm q, m = crowd gs w sl ∧ Sit p M gs w t j D T tag f0 d0 a st sm q ∧ μ = mu p M j D tag f0 q
def Lt (a b : Nat × Nat) : Prop := a.1 < b.1 ∨ (a.1 = b.1 ∧ a.2 < b.2)
def Falls (p : Ph) (M : Nat) (μ : Nat × Nat) (r : Stepped × Array MemOp) (t : Trace) : Prop := ∃ m₁ ops μ', r = (.next m₁, ops) ∧ Lt μ' μ ∧ Inv p M μ' m₁ (t ++ ops)
section
variable {p : Ph} {M : Nat} {gs : Array Goroutine} {w w' : World} {sl : Option (Nat × Nat)} {t : Trace} {j f0 d0 : Nat} {D : Nat → WD} {T : Nat → Nat} {tag : Tag} {a : Goroutine} {st sm : Int} {q : Nat → Nat}
theorem Goes.split {P : Program} {main : Bool} {R : World → World → Prop} {Dd : World → World → Array Event → Prop} {S : Goroutine → World → Prop} {m : Nat} {g : Goroutine} {w w₁ : World} (h : Goes P main R Dd S m g w) (hr : R w w₁) :
  S g w₁ ∨ ∃ m' g' w' es, m = m' + 1 ∧ stepG P main g w₁ = .go g' w' es ∧ Dd w₁ w' es ∧ Goes P main R Dd S m' g' w' := by
 cases m with
 | zero => exact .inl (h w₁ hr)
 | succ m =>
  rcases h with h | ⟨_, h⟩
  ·exact .inl (h w₁ hr)
  ·obtain ⟨g', w', es, e, d, hg⟩ := goes_elim (h w₁ hr)
   exact .inr ⟨m, g', w', es, rfl, e, d, hg⟩
theorem Sit.kl (S : Sit p M gs w t j D T tag f0 d0 a st sm q) {k : Nat} (hj : k < j) : p.KL k w := ⟨S.core.box k hj, st, sm, S.wg⟩
theorem Sit.live (S : Sit p M gs w t j D T tag f0 d0 a st sm q) : p.Live w := ⟨st, sm, S.wg⟩
theorem goK (hk : p.Ok) (S : Sit p M gs w t j D T tag f0 d0 a st sm q) {k : Nat} (hj : k < j) {g g' : Goroutine} {es : Array Event} {d' : WD} {st' sm' : Int} (hg : gs[p.b + k]? = some g) (hgo : stepG p.P false g w = .go g' w' es)
  (hs' : p.WS k d' g') (hf : p.Far j w w') (hch : ∀ k', k' < j → k' ≠ k → w'.heap[p.ch k']? = w.heap[p.ch k']?) (hc' : p.ChanAt k d' (T k) w')
  (hok : ∀ e ∈ es, OkK p.B p.Wg p.Rd k (.ofEvent e)) (hcn : ∀ i a, t.size ≤ i → touchAt (t ++ MemOp.ofEvents (p.b + k) g.frame.fn g.frame.place es) i = some a → a.loc.isMemory = true → p.Rd k a.loc → (t ++ MemOp.ofEvents (p.b + k) g.frame.fn g.frame.place es).counts i)
  (hdeaf : deafBehind (D k).deaf es = d'.deaf) (hrel : d'.stage ≤ 6 → ∃ r, RelBy (stA p.Wg) (t ++ MemOp.ofEvents (p.b + k) g.frame.fn g.frame.place es) (p.b + k) r)
  (hwg : WgAt p.ty p.Wg w' st' sm')
  (hmode : ∀ tag', Retag tag tag' → (mayWake p.P g = true → (g'.status = .running ∨ g'.status = .finished) → tag' ≠ .blk) → Mode j (upd D k d') tag' st' sm')
  (hsq : ∀ tag', Retag tag tag' → (mayWake p.P g = true → (g'.status = .running ∨ g'.status = .finished) → ∀ m x y, tag' = .sel m x y → ¬ ∃ k, (k = x ∨ k = y) ∧ p.opn T k ∧ ∃ cap buf s r tm, w'.heap[p.ch k]? = some (.chan cap buf true s r tm)) → SelQ p (upd D k d') T tag')
  (hlt : (wt p k d' < wt p k (D k) ∧ cnt d' ≤ cnt (D k)) ∨ (wt p k d' = wt p k (D k) ∧ cnt d' = cnt (D k) ∧ d'.fuel < (D k).fuel)) :
  Falls p M (mu p M j D tag f0 q) (runT p.P (crowd gs w sl) (p.b + k)) t := by
 obtain ⟨tag', f', hms, hf', htag, hwk⟩ := ms_woken hk S.ms hf g g'
 have hb := hk.b1
 have hrun := runT_crowd_go (P := p.P) (sl := sl) (i := p.b + k) hg (by rw [show (p.b + k == 0) = false from by simp; omega]; exact hgo)
 have e1 := sumTo_upd D d' cnt hj
 have e3 := sumTo_upd D d' WD.fuel hj
 have e2 : Ssum p j (upd D k d') + wt p k (D k) = Ssum p j D + wt p k d' := by
  have key : ∀ j', k < j' → sumTo j' (fun i => wt p i (upd D k d' i)) + wt p k (D k) = sumTo j' (fun i => wt p i (D i)) + wt p k d' := by
   intro j'
   induction j' with
   | zero => intro h; omega
   | succ j' ih =>
    intro h
    rcases Nat.lt_or_ge k j' with hlt | hge
    ·have := ih hlt
     simp only [sumTo, upd_ne D d' (show j' ≠ k by omega)]
     omega
    ·obtain rfl : k = j' := by omega
     simp only [sumTo, upd_same]
     rw [sumTo_congr (g := fun i => wt p i (D i)) (fun i hi => by rw [upd_ne D d' (by omega)])]
     omega
  exact key j hj
 refine ⟨_, _, mu p M j (upd D k d') tag' f' q, hrun, ?_, _, w', sl, j, upd D k d', T, tag', f', d0, woken p.P g g' w' a, st', sm', q, rfl,
  ⟨by rw [get_map_set _ _ _ _ (by omega), S.h0]; rfl, hms, Core.stepK S.core hk S.live hj hs' (Far.mono S.core.jn hf) hch hc' hok hcn hdeaf hrel, hwg, hmode tag' htag (fun h1 h2 => (hwk h1 h2).1), hsq tag' htag (fun h1 h2 => (hwk h1 h2).2)⟩, rfl⟩
 simp only [Lt, mu]
 rw [phi_retag p M _ htag]
 simp only [Vc, Fsum] at *
 rcases hlt with ⟨h1, h2⟩ | ⟨h1, h2, h3⟩
 ·refine .inl ?_
  have := phi_mono p M (v' := sumTo j fun a => cnt (upd D k d' a)) (v := sumTo j fun a => cnt (D a)) (by omega) tag
  omega
 ·refine .inr ?_
  have ev : (sumTo j fun a => cnt (upd D k d' a)) = sumTo j fun a => cnt (D a) := by omega
  rw [ev]
  omega
theorem selQ_same {k : Nat} {d' : WD} {tag' : Tag} (h : SelQ p D T tag) (hr : Retag tag tag') (h1 : d'.stage = (D k).stage) (h2 : d'.sent = (D k).sent) : SelQ p (upd D k d') T tag' := by
 intro m x y e k' hk' ho
 have e' : tag = .sel m x y := by
  rcases hr with rfl | ⟨_, rfl⟩ | ⟨_, _, _, _, rfl⟩
  ·exact e
  ·cases e
  ·cases e
 have := h m x y e' k' hk' ho
 by_cases ek : k' = k
 ·subst ek; rw [upd_same, h1, h2]; exact this
 ·rw [upd_ne D _ ek]; exact this
theorem selQ_past {k : Nat} {d' : WD} {tag' : Tag} (h : SelQ p D T tag) (hr : Retag tag tag') (h1 : (D k).stage ≠ 8) : SelQ p (upd D k d') T tag' := by
 intro m x y e k' hk' ho
 have e' : tag = .sel m x y := by
  rcases hr with rfl | ⟨_, rfl⟩ | ⟨_, _, _, _, rfl⟩
  ·exact e
  ·cases e
  ·cases e
 have := h m x y e' k' hk' ho
 by_cases ek : k' = k
 ·subst ek; exact absurd this.1 h1
 ·rw [upd_ne D _ ek]; exact this
theorem counts_plain {u : Trace} {i : Nat} {x : Touch} (h : touchAt u i = some x) (hm : x.loc.isMemory = true) (hn : x.kind ≠ .atomic) : u.counts i := ⟨x, h, hm, .inl hn⟩
theorem touch_new {u : Trace} {i : Nat} {x : Touch} (hi : t.size ≤ i) (h : touchAt (t ++ u) i = some x) : ∃ op ∈ u, op.act.touch? = some x := by
 obtain ⟨op, ho, hx⟩ := touch_of h
 rcases getElem?_append_cases ho with ⟨hlt, _⟩ | ⟨_, hm⟩
 ·omega
 ·exact ⟨op, hm, hx⟩
theorem ofEvents_nil (g : Nat) (fn : FuncId) (pos : String) : MemOp.ofEvents g fn pos #[] = #[] := rfl
theorem idleR (hk : p.Ok) (S : Sit p M gs w t j D T tag f0 d0 a st sm q) {k : Nat} (hj : k < j) {g g' : Goroutine} {es : Array Event} {d' : WD} (hg : gs[p.b + k]? = some g) (hgo : stepG p.P false g w = .go g' w es)
  (hs' : p.WS k d' g') (hev : ∀ e ∈ es, p.EvK k e) (h1 : d'.stage = (D k).stage) (h2 : d'.sent = (D k).sent) (h3 : d'.deaf = (D k).deaf) (h4 : d'.park = true → (D k).park = true) (h7 : 7 ≤ d'.stage) (h5 : d'.fuel < (D k).fuel) :
  Falls p M (mu p M j D tag f0 q) (runT p.P (crowd gs w sl) (p.b + k)) t := by
 have hc := S.core.chan k hj
 refine goK hk S hj hg hgo hs' (Far.refl _ _) (fun _ _ _ => rfl) (hc.same h2 (by rw [h1]) (fun h => hc.park (h4 h))) (fun e he => (hev e he).1) (fun i x hi hx hm hr => ?_) (by rw [h3]; exact deafBehind_still (fun e he => (hev e he).2.2) _) (fun h => by omega) S.wg
  (fun tag' hr _ => (S.mode.same h1).retag hr) (fun tag' hr _ => selQ_same S.sq hr h1 h2) (.inr ⟨by simp only [wt, h1, h2], by simp only [cnt, h1], h5⟩)
 obtain ⟨op, hop, hox⟩ := touch_new hi hx
 obtain ⟨e, he, rfl⟩ := Go.Conc.mem_ofEvents hop
 exact counts_plain hx hm ((hev e he).2.1 x hox)
theorem bookK (hk : p.Ok) (S : Sit p M gs w t j D T tag f0 d0 a st sm q) {k : Nat} (hj : k < j) {g g' : Goroutine} {es : Array Event} {d' : WD} {st' sm' : Int} (hg : gs[p.b + k]? = some g) (hgo : stepG p.P false g w = .go g' w' es)
  (hs' : p.WS k d' g') (hAs : Aside p.Wg w w') (hwg' : WgAt p.ty p.Wg w' st' sm') (hbk : ∀ e ∈ es, Bk p.Wg e) (h6 : (D k).stage ≤ 6) (h6' : d'.stage ≤ 6) (hsn : d'.sent = (D k).sent) (hpk : d'.park = false)
  (hd : ∀ jx e, es[jx]? = some e → (MemAct.ofEvent e).touch? = none ∨ 0 < deafBehind (D k).deaf (es.extract 0 jx)) (hdd : deafBehind (D k).deaf es = d'.deaf)
  (hmode : ∀ tag', Retag tag tag' → (mayWake p.P g = true → (g'.status = .running ∨ g'.status = .finished) → tag' ≠ .blk) → Mode j (upd D k d') tag' st' sm')
  (hlt : (wt p k d' < wt p k (D k) ∧ cnt d' ≤ cnt (D k)) ∨ (wt p k d' = wt p k (D k) ∧ cnt d' = cnt (D k) ∧ d'.fuel < (D k).fuel)) :
  Falls p M (mu p M j D tag f0 q) (runT p.P (crowd gs w sl) (p.b + k)) t := by
 have hjn := S.core.jn
 have hc := S.core.chan k hj
 have hne : ∀ k', k' < j → p.ch k' ≠ p.Wg := fun k' hk' => hk.chWg k' (by omega)
 have hf : p.Far j w w' := ⟨hAs.tape, hAs.os, hAs.output, hAs.size, fun b h1 _ => hAs.block b h1, fun _ => ⟨_, _, hwg'⟩, isSo_aside hwg' hAs.block⟩
 have hW := hk.lowWg
 have tn : ∀ e ∈ es, ∀ y, (MemAct.ofEvent e).touch? = some y → OfG p.Wg y.loc ∧ y.kind = .atomic := by
  intro e he y hy
  rcases hbk e he with h1 | h1 | ⟨ad, x, rfl, hab⟩
  iterate 2
   ·rw [ofEvent_loc_mark h1] at hy; cases hy
  ·rw [Go.ConcR.ofEvent_cell] at hy
   simp only [MemAct.touch?, Option.some.injEq] at hy
   subst hy
   exact ⟨⟨ad, rfl, hab⟩, rfl⟩
 refine goK hk S hj hg hgo hs' hf (fun k' hk' _ => hAs.block _ (hne k' hk')) ((hc.same hsn (by omega) (fun h => by rw [hpk] at h; cases h)).of_heap (hAs.block _ (hne k hj)))
  (fun e he => ⟨fun y hy => .inl (tn e he y hy), ?_, ?_⟩) (fun i x hi hx hm hr => ?_) hdd (fun _ => ?_) hwg' hmode (fun tag' hr _ => selQ_past S.sq hr (by omega)) hlt
 ·rcases hbk e he with h1 | h1 | ⟨ad, x, rfl, hab⟩
  iterate 2
   ·rw [ofEvent_loc_mark h1]; trivial
  ·rw [Go.ConcR.ofEvent_cell]; show ad.block < p.B; omega
 ·rcases hbk e he with h1 | h1 | ⟨ad, x, rfl, hab⟩
  ·rw [ofEvent_loc_mark h1]; simp
  ·rw [ofEvent_loc_mark h1]; simp
  ·rw [Go.ConcR.ofEvent_cell]; simp
 ·obtain ⟨op, hop, hox⟩ := touch_new hi hx
  obtain ⟨e, he, rfl⟩ := Go.Conc.mem_ofEvents hop
  exact absurd (.inr (tn e he x hox).1) (hk.rdNo k _ hr)
 ·obtain ⟨r, hr⟩ := S.core.rel k hj h6
  exact ⟨r, Go.ConcN.RelBy.book hr (S.core.deafK k hj) _ _ hbk hd⟩
end
end Go.Proofs.Ytilpedopnkhppaa.Mx

/- Many senders and one who takes: a sender at its send. Conditions: each theorem's own. -/
namespace Go.Proofs.Ytilpedopnkhppaa.Mx
open Go.Conc
open Go.ConcN (sumTo upd sumTo_upd upd_ne upd_same sumTo_congr le_sumTo sumTo_le RelBy Deaf_still)
open Go.ConcR (KK wgBlock WgAt stA smA rd wr DC0)
open Ph (Tag WD MS)
section
variable {p : Ph} {M : Nat} {gs : Array Goroutine} {w w' : World} {sl : Option (Nat × Nat)} {t : Trace} {j f0 d0 : Nat} {D : Nat → WD} {T : Nat → Nat} {tag : Tag} {a : Goroutine} {st sm : Int} {q : Nat → Nat}
theorem offers_sel (g₂ : Goroutine) (x y c : Nat) : offersAt (parked g₂ (p.kases T x y) .select) c true = [] := by
 rcases kase_cases p T x with ⟨_, e1⟩ | ⟨_, e1⟩ <;> rcases kase_cases p T y with ⟨_, e2⟩ | ⟨_, e2⟩ <;>
  simp [offersAt, parked, Ph.kases, e1, e2, rcase, rcaseNil, List.zipIdx_cons]
open Classical in
theorem offers_sel' (g₂ : Goroutine) (x y c : Nat) : offersAt (parked g₂ (p.kases T x y) .select) c false = (if p.opn T x ∧ p.ch x = c then [0] else []) ++ (if p.opn T y ∧ p.ch y = c then [1] else []) := by
 rcases kase_cases p T x with ⟨h1, e1⟩ | ⟨h1, e1⟩ <;> rcases kase_cases p T y with ⟨h2, e2⟩ | ⟨h2, e2⟩ <;> by_cases c1 : p.ch x = c <;> by_cases c2 : p.ch y = c <;>
  simp [offersAt, parked, Ph.kases, e1, e2, rcase, rcaseNil, List.zipIdx_cons, h1, h2, c1, c2]
theorem ms_offers (hk : p.Ok) (h : p.MS M tag j T f0 d0 a w) (c : Nat) : offersAt a c true = [] ∧ ((∀ m x y, tag ≠ .sel m x y) → offersAt a c false = []) := by
 rcases ms_status hk h with ⟨hr, _, _⟩ | ⟨hb, ht⟩
 ·exact ⟨offersAt_of_not_blocked (by rw [hr]; simp) _ _, fun _ => offersAt_of_not_blocked (by rw [hr]; simp) _ _⟩
 ·cases h with
  | sel hs => exact ⟨offers_sel _ _ _ _, fun hn => absurd rfl (hn _ _ _)⟩
  | @blk T g _ hT hs =>
   have e4 := (hs w (Far.refl _ _)).2.1
   exact ⟨by simp [offersAt, e4], fun _ => by simp [offersAt, e4]⟩
  | _ => rcases ht with ht | ⟨_, _, _, ht⟩ <;> cases ht
theorem core_offers (S : Sit p M gs w t j D T tag f0 d0 a st sm q) {i c : Nat} {g : Goroutine} (hi : i ≠ 0) (hg : gs[i]? = some g) : offersAt g c false = [] ∧ ∀ k, k < j → p.ch k = c → (∀ k', k' < j → p.ch k' = c → k' = k) → i ≠ p.b + k → offersAt g c true = [] := by
 rcases Nat.lt_or_ge i p.b with hlt | hge
 ·have hq := S.core.old i g (by omega) hlt hg
  have : g.status ≠ .blocked := by rcases hq.status with h | h <;> rw [h] <;> simp
  exact ⟨offersAt_of_not_blocked this _ _, fun _ _ _ _ _ => offersAt_of_not_blocked this _ _⟩
 ·have hsz : i < gs.size := (Array.getElem?_eq_some_iff.1 hg).1
  rw [S.core.size] at hsz
  obtain ⟨x, hx, hs⟩ := S.core.wk (i - p.b) (by omega)
  rw [show p.b + (i - p.b) = i by omega, hg] at hx
  obtain rfl := Option.some.inj hx
  have ho := ws_offers hs (S.kl (by omega)) c
  refine ⟨ho.1, fun k hk hc hu hne => ?_⟩
  rw [ho.2, if_neg]
  rintro ⟨_, hcc⟩
  have := hu (i - p.b) (by omega) hcc
  omega
theorem Core.comm (h : p.Core q gs w t j D T d0) (hk : p.Ok) {k : Nat} (hj : k < j) {gs' : Array Goroutine} {g' : Goroutine} {u : Trace} {d' : WD} {Tk : Nat}
  (hsz : gs'.size = gs.size) (ho : ∀ i, i ≠ 0 → i ≠ p.b + k → gs'[i]? = gs[i]?) (hg' : gs'[p.b + k]? = some g') (hs' : p.WS k d' g') (hf : p.Far j w w') (hch : ∀ k', k' < j → k' ≠ k → w'.heap[p.ch k']? = w.heap[p.ch k']?) (hc' : p.ChanAt k d' Tk w')
  (hu : ∀ op ∈ u, op.act.touch? = none ∧ op.act.low p.B ∧ (∀ m, op.act ≠ .mark m)) (hd : d'.deaf = (D k).deaf) (h7 : d'.stage ≤ 6 → (D k).stage ≤ 6) :
  p.Core q gs' w' (t ++ u) j (upd D k d') (upd T k Tk) d0 := by
 have hb := hk.b1
 have hds : ∀ g, Deaf (t ++ u) g = Deaf t g := fun g => Deaf_still t g u fun op hop => ⟨(hu op hop).2.2 _, (hu op hop).2.2 _⟩
 have mid : ∀ (l : List MemOp) {t : Trace}, (∀ op ∈ l, op.act.touch? = none ∧ op.act.low p.B ∧ (∀ m, op.act ≠ .mark m)) → Mid p.Shun (p.Bd w') p.Wg p.b p.Rd j t → Mid p.Shun (p.Bd w') p.Wg p.b p.Rd j (t ++ l.toArray) := by
  intro l
  induction l with
  | nil => intro t _ h; simpa using h
  | cons x l ih =>
   intro t hl h
   have e1 : t ++ (x :: l).toArray = (t ++ #[x]) ++ l.toArray := by simp
   rw [e1]
   obtain ⟨a1, a2, a3⟩ := hl x (by simp)
   exact ih (fun op hop => hl op (by simp [hop])) (h.appMute x a1 (MemAct.low_mono bd_b a2) (a3 _))
 refine ⟨h.jn, by rw [hsz, h.size], fun i g hi hlt hg => ?_, fun k' hk' => ?_, by have := mid u.toList (fun op hop => hu op (by simpa using hop)) (by rw [Far.bd hf]; exact h.mid); simpa using this, (hds 0).trans h.deaf0, fun k' hk' => ?_, fun i hi => (hds i).trans (h.above i hi), fun k' hk' hst => ?_, fun k' hk' => ?_, fun k' hk' => hk.kFar k' w w' (by have := h.jn; omega) (Far.mono h.jn hf) (h.box k' hk')⟩
 ·rw [hds]
  exact h.old i g hi hlt (by rw [← ho i (by omega) (by omega)]; exact hg)
 ·by_cases e : k' = k
  ·subst e; exact ⟨g', hg', by rw [upd_same]; exact hs'⟩
  ·obtain ⟨x, hx, hsx⟩ := h.wk k' hk'
   exact ⟨x, by rw [ho _ (by omega) (by omega)]; exact hx, by rw [upd_ne D _ e]; exact hsx⟩
 ·rw [hds, h.deafK k' hk']
  by_cases e : k' = k
  ·subst e; rw [upd_same, hd]
  ·rw [upd_ne D _ e]
 ·by_cases e : k' = k
  ·subst e; rw [upd_same] at hst
   obtain ⟨r, hr⟩ := h.rel k' hk' (h7 hst)
   exact ⟨r, RelBy.appMute hr fun op hop => (hu op hop).1⟩
  ·rw [upd_ne D _ e] at hst
   obtain ⟨r, hr⟩ := h.rel k' hk' hst
   exact ⟨r, RelBy.appMute hr fun op hop => (hu op hop).1⟩
 ·by_cases e : k' = k
  ·subst e; rw [upd_same, upd_same]; exact hc'
  ·rw [upd_ne D _ e, upd_ne T _ e]; exact (h.chan k' hk').of_heap (hch k' hk' e)
theorem ssum_upd {k : Nat} (hj : k < j) (d' : WD) : Ssum p j (upd D k d') + wt p k (D k) = Ssum p j D + wt p k d' := by
 have key : ∀ j', k < j' → sumTo j' (fun i => wt p i (upd D k d' i)) + wt p k (D k) = sumTo j' (fun i => wt p i (D i)) + wt p k d' := by
  intro j'
  induction j' with
  | zero => intro h; omega
  | succ j' ih =>
   intro h
   rcases Nat.lt_or_ge k j' with hlt | hge
   ·have := ih hlt
    simp only [sumTo, upd_ne D d' (show j' ≠ k by omega)]
    omega
   ·obtain rfl : k = j' := by omega
    simp only [sumTo, upd_same]
    rw [sumTo_congr (g := fun i => wt p i (D i)) (fun i hi => by rw [upd_ne D d' (by omega)])]
    omega
 exact key j hj
theorem upd_id {α : Type} (f : Nat → α) (k : Nat) : upd f k (f k) = f := by
 funext i
 by_cases e : i = k
 ·subst e; rw [upd_same]
 ·rw [upd_ne f _ e]
theorem fin_served (P : Program) (g : Goroutine) (cs : Array CommCase) (sh : CommShape) (k : Int) (v : Value) (ok : Bool) : g.finishComm P cs sh k v ok = Go.Conc.served g (commResult cs sh k v ok) := rfl
theorem Mode.openTo {D : Nat → WD} {tag' : Tag} (h : Mode j D tag st sm) (h1 : isOpen tag) (h2 : isOpen tag') (hp : pend tag' = pend tag) (hv : ∀ vs, tag' ≠ .w3 vs) : Mode j D tag' st sm := by
 cases h with
 | opn _ h3 _ => rw [← hp]; exact .opn h2 h3 (fun vs e => absurd e (hv vs))
 | reg h3 _ _ => cases tag <;> first | exact h1.elim | exact h3.elim
 | last L h3 _ _ _ => cases tag <;> first | exact h1.elim | exact h3.elim
 | sema _ => exact h1.elim
 | fin h3 _ => cases tag <;> first | exact h1.elim | exact h3.elim
theorem take_push {l : List Value} {s Tk : Nat} {v : Value} (hT : Tk ≤ s) (hv : l[s]? = some v) : ((l.drop Tk).take (s - Tk)).toArray.push v = ((l.drop Tk).take (s + 1 - Tk)).toArray := by
 have e : s + 1 - Tk = (s - Tk) + 1 := by omega
 rw [e, List.take_add_one]
 have : (l.drop Tk)[s - Tk]? = some v := by rw [List.getElem?_drop, show Tk + (s - Tk) = s by omega]; exact hv
 rw [this]
 simp
theorem sendStep (hk : p.Ok) (S : Sit p M gs w t j D T tag f0 d0 a st sm q) {k : Nat} (hj : k < j) {g g₂ : Goroutine} {v z : Value} {l : List Value} {s m : Nat} (hg : gs[p.b + k]? = some g) (hD : D k = ⟨8, s, m + 1, 0, false⟩) (hl : (p.vs k).drop s = v :: l)
  (hgo : stepG p.P false g w = .comm g₂ #[scase (p.ch k) v z] true .send w #[]) (hn : p.Sends k l (Go.Conc.served g₂ undef)) :
  Falls p M (mu p M j D tag f0 q) (runT p.P (crowd gs w sl) (p.b + k)) t := by
 have hb := hk.b1
 have hjn := S.core.jn
 have hc := S.core.chan k hj
 have hWk := hk.chWg k (by omega)
 have hi0 : (p.b + k == 0) = false := by simp; omega
 have hgo' : stepG p.P (p.b + k == 0) g w = .comm g₂ #[scase (p.ch k) v z] true .send w #[] := by rw [hi0]; exact hgo
 have hlen : s < (p.vs k).length := by
  rcases Nat.lt_or_ge s (p.vs k).length with h | h
  ·exact h
  ·rw [List.drop_eq_nil_of_le h] at hl; cases hl
 have hv : (p.vs k)[s]? = some v := by
  have := congrArg (fun l => l[0]?) hl
  simpa [List.getElem?_drop] using this
 have hl' : (p.vs k).drop (s + 1) = l := by
  have := congrArg (List.drop 1) hl
  simpa [List.drop_drop, Nat.add_comm] using this
 have hat := hc.at_
 have hTl : T k ≤ (p.vs k).length := Nat.le_of_not_lt fun h => by have := hc.done h; rw [hD] at this; simp at this
 have htk : min (T k) (p.vs k).length = T k := Nat.min_eq_left hTl
 have hTs : T k ≤ s := by have := hc.took; rw [htk, hD] at this; exact this
 have hroom := hc.room
 rw [hD] at hat hroom
 simp only [htk, show (decide ((8 : Nat) ≤ 7)) = false from rfl] at hat hroom
 have hbs : (((p.vs k).drop (T k)).take (s - T k)).toArray.size = s - T k := by simp; omega
 obtain ⟨m₂, hm₂⟩ := (p.sends_iff k l _).1 hn
 have hws : p.WS k ⟨8, s + 1, m₂ + 1, 0, false⟩ (Go.Conc.served g₂ undef) := .send hlen (by rw [hl']; exact hm₂)
 have hwt : wt p k ⟨8, s + 1, m₂ + 1, 0, false⟩ + 2 = wt p k (D k) := by simp only [wt, hD]; omega
 have hcnt : ∀ d' : WD, d'.stage = 8 → cnt d' = cnt (D k) := fun d' h => by simp [cnt, hD, h]
 have hVc : ∀ d' : WD, d'.stage = 8 → Vc j (upd D k d') = Vc j D := fun d' h => by have := Vc_upd D d' hj; have := hcnt d' h; omega
 have hmd : ∀ (d' : WD), d'.stage = 8 → Mode j (upd D k d') tag st sm := fun d' h => S.mode.same (by rw [h, hD])
 have hlow : p.ch k < p.B := hk.chLow k (by omega)
 have hchne : ∀ k', k' < j → k' ≠ k → p.ch k ≠ p.ch k' := fun k' hk' e h => e (hk.chInj k' k (by omega) (by omega) h.symm)
 by_cases hA : ∃ m' x y, tag = .sel m' x y ∧ (k = x ∨ k = y) ∧ p.opn T k
 · -- the starter waits for it: it is handed over
  obtain ⟨m', x, y, rfl, hxy, hop⟩ := hA
  have hms := S.ms
  cases hms with
  | @sel m' x y T g₂m w hs =>
   obtain ⟨_, hsent⟩ := S.sq _ _ _ rfl k hxy hop
   rw [hD] at hsent
   simp only at hsent
   subst hsent
   obtain ⟨idx, hidx, hcase⟩ : ∃ idx : Nat, (idx = 0 ∧ k = x ∨ idx = 1 ∧ k = y) ∧ (p.kases T x y)[idx]? = some (rcase (p.ch k) p.z) := by
    rcases hxy with rfl | rfl
    ·exact ⟨0, .inl ⟨rfl, rfl⟩, by simp [Ph.kases, Ph.kase, hop]⟩
    ·exact ⟨1, .inr ⟨rfl, rfl⟩, by simp [Ph.kases, Ph.kase, hop]⟩
   have hj0 : gs[0]? = some (parked g₂m (p.kases T x y) .select) := S.h0
   have hp : partners (gs.setIfInBounds (p.b + k) ph) (p.ch k) false = [(0, idx)] := by
    have h0' : (gs.setIfInBounds (p.b + k) ph)[0]? = some (parked g₂m (p.kases T x y) .select) := stand_get (by omega) hj0
    rw [partners_one h0' (fun i y' hne hy => ?_), offers_sel']
    ·have hinj : ∀ k', k' < p.n → p.ch k' = p.ch k → k' = k := fun k' hk' e => hk.chInj k' k hk' (by omega) e
     rcases hidx with ⟨h1, h2⟩ | ⟨h1, h2⟩
     ·rw [if_pos ⟨h2 ▸ hop, by rw [h2]⟩, if_neg (fun h => hs.ne (h2.symm.trans (hinj y h.1.1 h.2).symm)), h1]; rfl
     ·rw [if_pos (show p.opn T y ∧ p.ch y = p.ch k from ⟨h2 ▸ hop, by rw [h2]⟩), if_neg (fun h => hs.ne ((hinj x h.1.1 h.2).trans h2)), h1]; rfl
    ·rcases getElem?_stand gs (p.b + k) i y' hy with ⟨_, rfl⟩ | ⟨_, hy'⟩
     ·exact offersAt_ph _ _
     ·exact (core_offers S hne hy').1
   have hrun := crowd_send_meets_sel (P := p.P) (sl := sl) hg hgo' hat (show 0 ≠ p.b + k by omega) hj0 hcase hp
   rw [finishComm_send, fin_served] at hrun
   have hfar : p.Far p.n w (w.setChan (p.ch k) (p.cap k) (((p.vs k).drop (T k)).take (T k - T k)).toArray false (T k + 1) (T k + 1) false) := Far.setChan hj hWk _ _ _ _ _ _ _
   have htake := hs.val idx k v hidx hop.1 hv _ (Far.mono hjn hfar)
   obtain ⟨f, hf⟩ := (p.takes_iff _ _ _ _).1 htake
   refine ⟨_, _, mu p M p.n (upd D k ⟨8, T k + 1, m₂ + 1, 0, false⟩) (.tk m') (f + 1) q, hrun, ?_, _, _, sl, p.n, upd D k ⟨8, T k + 1, m₂ + 1, 0, false⟩, upd T k (T k + 1), .tk m', f + 1, 0, _, st, sm, q, rfl, ⟨?_, .tk hf, ?_, ?_, ?_, ?_⟩, rfl⟩
   ·simp only [Lt, mu, phi]
    have := ssum_upd (p := p) (D := D) hj ⟨8, T k + 1, m₂ + 1, 0, false⟩
    omega
   ·have : 0 < gs.size := (Array.getElem?_eq_some_iff.1 hj0).1
    rw [Array.getElem?_setIfInBounds_ne (by omega), Array.getElem?_setIfInBounds_self_of_lt this]
   ·refine Core.comm S.core hk hj (by simp) (fun i h0 h1 => by rw [Array.getElem?_setIfInBounds_ne (by omega), Array.getElem?_setIfInBounds_ne (by omega)]) (by rw [Array.getElem?_setIfInBounds_self_of_lt (by simp [S.core.size]; omega)]) hws hfar
     (fun k' hk' e => heap_setChan_ne' (hchne k' hk' e) _ _ _ _ _ _) ⟨?_, hlen, ?_, ?_, fun h => by simp at h, fun h => by simp at h, fun h => by omega, by omega⟩ ?_ (by rw [hD]) (by simp)
    ·rw [heap_setChan_self' hat]
     simp [Nat.min_eq_left (show T k + 1 ≤ (p.vs k).length by omega)]
    ·simp; omega
    ·simp
    ·intro op hop'
     simp only [ofEvents_nil, Array.empty_append, List.mem_toArray, List.mem_cons, List.not_mem_nil, or_false] at hop'
     rcases hop' with rfl | rfl | rfl | rfl <;> exact ⟨rfl, hlow, by simp⟩
   ·exact S.wg.of_block (heap_setChan_ne' hWk _ _ _ _ _ _)
   ·have := hmd ⟨8, T k + 1, m₂ + 1, 0, false⟩ rfl
    exact this.openTo trivial trivial rfl (fun _ => by simp)
   ·intro m x y e; cases e
 · -- nobody waits for it
  have hp : partners (gs.setIfInBounds (p.b + k) ph) (p.ch k) false = [] := by
   refine partners_nil fun i y' hy => ?_
   rcases getElem?_stand gs (p.b + k) i y' hy with ⟨_, rfl⟩ | ⟨hne, hy'⟩
   ·exact offersAt_ph _ _
   ·by_cases h0 : i = 0
    ·subst h0
     obtain rfl := Option.some.inj (hy'.symm.trans S.h0)
     by_cases ht : ∀ m x y, tag ≠ .sel m x y
     ·exact (ms_offers hk S.ms _).2 ht
     ·have hms := S.ms
      cases hms with
      | @sel m' x y T g₂m w hs =>
       have hinj : ∀ k', k' < p.n → p.ch k' = p.ch k → k' = k := fun k' hk' e => hk.chInj k' k hk' (by omega) e
       rw [offers_sel', if_neg (fun h : p.opn T x ∧ p.ch x = p.ch k => hA ⟨_, _, _, rfl, .inl (hinj x h.1.1 h.2).symm, hinj x h.1.1 h.2 ▸ h.1⟩), if_neg (fun h : p.opn T y ∧ p.ch y = p.ch k => hA ⟨_, _, _, rfl, .inr (hinj y h.1.1 h.2).symm, hinj y h.1.1 h.2 ▸ h.1⟩)]
       rfl
      | _ => exact absurd (fun m x y e => by cases e) ht
    ·exact (core_offers S h0 hy').1
  have hsq : ∀ d' : WD, SelQ p (upd D k d') T tag := fun d' m x y e k' hk' ho => by
   by_cases ek : k' = k
   ·subst ek; exact absurd ⟨m, x, y, e, hk', ho⟩ hA
   ·rw [upd_ne D _ ek]; exact S.sq m x y e k' hk' ho
  by_cases hr : s - T k < p.cap k
  · -- there is room
   have hrun := crowd_send_room (P := p.P) (sl := sl) hg hgo' hat (by rw [hbs]; exact hr) hp
   rw [finishComm_send, take_push hTs hv, ofEvents_nil] at hrun
   have hfar : p.Far j w (w.setChan (p.ch k) (p.cap k) (((p.vs k).drop (T k)).take (s + 1 - T k)).toArray false (s + 1) (T k) false) := Far.setChan hj hWk _ _ _ _ _ _ _
   refine ⟨_, _, mu p M j (upd D k ⟨8, s + 1, m₂ + 1, 0, false⟩) tag f0 q, hrun, ?_, _, _, sl, j, upd D k ⟨8, s + 1, m₂ + 1, 0, false⟩, T, tag, f0, d0, a, st, sm, q, rfl, ⟨?_, ms_rely S.ms hfar, ?_, ?_, hmd _ rfl, hsq _⟩, rfl⟩
   ·simp only [Lt, mu]
    rw [hVc ⟨8, s + 1, m₂ + 1, 0, false⟩ rfl]
    have := ssum_upd (p := p) (D := D) hj ⟨8, s + 1, m₂ + 1, 0, false⟩
    omega
   ·rw [Array.getElem?_setIfInBounds_ne (by omega)]; exact S.h0
   ·have := Core.comm S.core hk hj (gs' := gs.setIfInBounds (p.b + k) (Go.Conc.served g₂ undef)) (Tk := T k) (u := #[] ++ #[{ g := p.b + k, fn := g₂.frame.fn, pos := g₂.frame.place, act := .send (p.ch k) s }, { g := p.b + k, fn := g₂.frame.fn, pos := g₂.frame.place, act := .sendDone (p.ch k) s }]) (by simp) (fun i h0 h1 => by rw [Array.getElem?_setIfInBounds_ne (by omega)]) (by rw [Array.getElem?_setIfInBounds_self_of_lt (by rw [S.core.size]; omega)]) hws hfar
     (fun k' hk' e => heap_setChan_ne' (hchne k' hk' e) _ _ _ _ _ _) ⟨?_, hlen, ?_, ?_, fun h => by simp at h, fun h => by simp at h, fun h => by omega, by omega⟩ ?_ (by rw [hD]) (by simp)
    ·rw [upd_id] at this; exact this
    ·rw [heap_setChan_self' hat, htk]; simp
    ·simp; omega
    ·simp only; omega
    ·intro op hop'
     simp only [Array.empty_append, List.mem_toArray, List.mem_cons, List.not_mem_nil, or_false] at hop'
     rcases hop' with rfl | rfl <;> exact ⟨rfl, hlow, by simp⟩
   ·exact S.wg.of_block (heap_setChan_ne' hWk _ _ _ _ _ _)
  · -- it waits
   have hnw : NoWays w (gs.setIfInBounds (p.b + k) ph) (scase (p.ch k) v z) := ways_send_none hat (by rw [hbs]; omega) hp
   have hrun := crowd_waits (P := p.P) (sl := sl) hg hgo' (fun cc hcc => by simp at hcc; subst hcc; exact hnw)
   rw [ofEvents_nil] at hrun
   have hws' : p.WS k ⟨8, s, 0, 0, true⟩ (parked g₂ #[scase (p.ch k) v z] .send) := .park hlen hl hn
   refine ⟨_, _, mu p M j (upd D k ⟨8, s, 0, 0, true⟩) tag f0 q, hrun, ?_, _, _, sl, j, upd D k ⟨8, s, 0, 0, true⟩, T, tag, f0, d0, a, st, sm, q, rfl, ⟨?_, S.ms, ?_, S.wg, hmd _ rfl, hsq _⟩, rfl⟩
   ·simp only [Lt, mu]
    rw [hVc ⟨8, s, 0, 0, true⟩ rfl]
    have h1 := ssum_upd (p := p) (D := D) hj ⟨8, s, 0, 0, true⟩
    have h2 := sumTo_upd D (⟨8, s, 0, 0, true⟩ : WD) WD.fuel hj
    have h3 : wt p k ⟨8, s, 0, 0, true⟩ = wt p k (D k) := by simp only [wt, hD]
    have h4 : (D k).fuel = m + 1 := by rw [hD]
    have h5 : WD.fuel (⟨8, s, 0, 0, true⟩ : WD) = 0 := rfl
    simp only [Fsum] at *
    refine .inr ⟨?_, ?_⟩ <;> omega
   ·rw [Array.getElem?_setIfInBounds_ne (by omega)]; exact S.h0
   ·have := Core.comm S.core hk hj (gs' := gs.setIfInBounds (p.b + k) (parked g₂ #[scase (p.ch k) v z] .send)) (Tk := T k) (w' := w) (u := #[]) (by simp) (fun i h0 h1 => by rw [Array.getElem?_setIfInBounds_ne (by omega)]) (by rw [Array.getElem?_setIfInBounds_self_of_lt (by rw [S.core.size]; omega)]) hws' (Far.refl _ _)
     (fun k' hk' e => rfl) (hc.same (by rw [hD]) (by rw [hD]) (fun _ => by rw [hD]; simp only; omega)) (by simp) (by rw [hD]) (by simp)
    rw [upd_id] at this; exact this
end
end Go.Proofs.Ytilpedopnkhppaa.Mx

