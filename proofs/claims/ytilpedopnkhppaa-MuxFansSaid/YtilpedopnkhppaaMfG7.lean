/- Many senders started by one goroutine beside goroutines that only leave: the trace's law while they are at work. Conditions: each theorem's own. -/
import Derived.Conc.Beside
import Derived.Conc.CrowdCom2
import Derived.Conc.CrowdSel
import Derived.Conc.LoneSelect
set_option linter.unusedVariables false
set_option linter.unusedSimpArgs false
namespace Go.Proofs.Ytilpedopnkhppaa.Mx
open Go.Conc
open Go.ConcN (RelBy fork_knows Deaf_absent)
open Go.ConcR (KK wgBlock WgAt stA smA rd wr mk)
def OfG (Wg : Nat) (l : Loc) : Prop := ∃ a, l = .cell a ∧ a.block = Wg
theorem low_touch {B : Nat} {x : MemAct} {y : Touch} (h : x.low B) (ht : x.touch? = some y) : y.loc.low B := by
 cases x with
 | access e => simp only [MemAct.touch?, Option.some.injEq] at ht; subst ht; exact h
 | mark m => cases m <;> simp [MemAct.touch?] at ht <;> (subst ht; exact h)
 | _ => simp [MemAct.touch?] at ht
structure Mid (Shun : Loc → Prop) (B Wg b : Nat) (Rd : Nat → Loc → Prop) (j : Nat) (t : Trace) : Prop where
 clean : ∀ said, ¬ Race said t
 known : ∀ i a, touchAt t i = some a → a.loc.isMemory = true → Knows t 0 i ∨ ((Shun a.loc ∨ OfG Wg a.loc) ∧ a.kind = .atomic) ∨ ∃ k, k < j ∧ t.g? i = some (b + k) ∧ t.counts i ∧ Rd k a.loc ∧ a.write = false
 wk : ∀ k, k < j → ∀ i a, touchAt t i = some a → Rd k a.loc → a.write = true → Knows t (b + k) i
 quiet : ∀ i a, touchAt t i = some a → OfG Wg a.loc → a.kind ≠ .plain
 over : ∀ i g, t.g? i = some g → g ≠ 0 → t.counts i → (∃ q, t.g? q = some 0 ∧ HappensBefore t i q) ∨ ∃ k, k < j ∧ g = b + k
 seen : ∀ op ∈ t, op.act.low B
 norel : NoRelease (stA Wg) t
section
variable {Shun : Loc → Prop} {B B0 Wg b j : Nat} {Rd : Nat → Loc → Prop} {t u : Trace}
theorem Mid.start (h : Past Shun B0 t) (hB : B0 ≤ B) (hW : B0 ≤ Wg) : Mid Shun B Wg b Rd 0 t := by
 refine ⟨h.clean, fun i a ha hm => (h.known i a ha hm).imp id fun x => .inl ⟨.inl x.1, x.2⟩, fun k hk => by omega, fun i a ha ⟨ad, e, hb⟩ => ?_, fun i g hg hne hc => .inl ?_, fun op hop => MemAct.low_mono hB (h.seen op hop), fun i hi => ?_⟩
 ·obtain ⟨x, hx, hxa⟩ := touch_of ha
  have := low_touch (h.seen x (mem_of_getElem? hx)) hxa
  rw [e] at this
  simp only [Loc.low] at this
  omega
 ·obtain ⟨q, hq, hb⟩ := h.over i g hg hne hc
  exact ⟨q, hq, hb⟩
 ·obtain ⟨x, hx, hxa⟩ := Option.map_eq_some_iff.1 hi
  have := h.seen x (mem_of_getElem? hx)
  rw [hxa] at this
  simp only [MemAct.low, stA] at this
  omega
def OkM (Shun : Loc → Prop) (B Wg : Nat) (Rd : Nat → Loc → Prop) (j : Nat) (x : MemAct) : Prop :=
 (∀ y, x.touch? = some y → ((Shun y.loc ∨ OfG Wg y.loc) → y.kind ≠ .plain) ∧ (y.write = true → ∀ k, k < j → ¬ Rd k y.loc)) ∧ x.low B ∧ x ≠ .mark (.release (stA Wg))
def OkK (B Wg : Nat) (Rd : Nat → Loc → Prop) (k : Nat) (x : MemAct) : Prop :=
 (∀ y, x.touch? = some y → (OfG Wg y.loc ∧ y.kind = .atomic) ∨ (Rd k y.loc ∧ y.write = false)) ∧ x.low B ∧ x ≠ .mark (.release (stA Wg))
theorem Mid.up (h : Mid Shun B Wg b Rd j t) {B' : Nat} (hB : B ≤ B') : Mid Shun B' Wg b Rd j t := { h with seen := fun op hop => MemAct.low_mono hB (h.seen op hop) }
theorem OkM.up {x : MemAct} (h : OkM Shun B Wg Rd j x) {B' : Nat} (hB : B ≤ B') : OkM Shun B' Wg Rd j x := ⟨h.1, MemAct.low_mono hB h.2.1, h.2.2⟩
theorem OkK.up {k : Nat} {x : MemAct} (h : OkK B Wg Rd k x) {B' : Nat} (hB : B ≤ B') : OkK B' Wg Rd k x := ⟨h.1, MemAct.low_mono hB h.2.1, h.2.2⟩
theorem over_app (h : ∀ i g, t.g? i = some g → g ≠ 0 → t.counts i → (∃ q, t.g? q = some 0 ∧ HappensBefore t i q) ∨ ∃ k, k < j ∧ g = b + k)
  (hu : ∀ op ∈ u, op.act.touch? = none ∨ op.g = 0 ∨ ∃ k, k < j ∧ op.g = b + k) :
  ∀ i g, (t ++ u).g? i = some g → g ≠ 0 → (t ++ u).counts i → (∃ q, (t ++ u).g? q = some 0 ∧ HappensBefore (t ++ u) i q) ∨ ∃ k, k < j ∧ g = b + k := by
 intro i g hg hne hc
 obtain ⟨op, ho, hog⟩ := Option.map_eq_some_iff.1 hg
 rcases getElem?_append_cases ho with ⟨hi, ho'⟩ | ⟨_, hou⟩
 ·rcases h i g (by rw [← g?_old (u := u) hi]; exact hg) hne ((counts_old hi).1 hc) with ⟨q, hq, hb⟩ | hk
  ·refine .inl ⟨q, ?_, hb_app u hb⟩
   obtain ⟨z, hz, _⟩ := Option.map_eq_some_iff.1 hq
   rw [g?_old (lt_size_of_getElem? hz)]
   exact hq
  ·exact .inr hk
 ·rcases hu op hou with h0 | h0 | ⟨k, hk, e⟩
  ·obtain ⟨x, hx, _⟩ := hc
   obtain ⟨op', ho', hox⟩ := touch_of hx
   rw [ho] at ho'
   obtain rfl := Option.some.inj ho'
   rw [h0] at hox; cases hox
  ·exact absurd (hog.symm.trans h0) hne
  ·exact .inr ⟨k, hk, hog.symm.trans e⟩
theorem Mid.appM (h : Mid Shun B Wg b Rd j t) (h0 : ∀ op ∈ u, op.g = 0) (hu : ∀ op ∈ u, OkM Shun B Wg Rd j op.act) : Mid Shun B Wg b Rd j (t ++ u) := by
 refine ⟨fun said => noRace_append (h.clean said) h0 fun i a ha op hop x hx hc => ?_, fun i a ha hm => ?_, fun k hk i a ha hr hw => ?_, fun i a ha hg => ?_, over_app h.over fun op hop => .inr (.inl (h0 op hop)), seen_app h.seen fun op hop => (hu op hop).2.1, h.norel.app fun op hop => (hu op hop).2.2⟩
 ·obtain ⟨hs, hw⟩ := (hu op hop).1 x hx
  rcases h.known i a ha hc.2.1 with hk | ⟨hsh, hka⟩ | ⟨k, hk, _, _, hr, haw⟩
  ·exact hk
  ·exfalso
   have hxp := hs (hc.1 ▸ hsh)
   obtain ⟨_, _, _, hcase⟩ := hc
   rw [hka] at hcase
   rcases hcase with z | z | ⟨_, z, _⟩
   ·cases z
   ·exact hxp z
   ·cases z
  ·exfalso
   rcases hc.2.2.1 with z | z
   ·rw [haw] at z; cases z
   ·exact hw z k hk (hc.1 ▸ hr)
 ·obtain ⟨x, hx, hxa⟩ := touch_of ha
  rcases getElem?_append_cases hx with ⟨hi, hx'⟩ | ⟨_, hxu⟩
  ·rcases h.known i a (by rw [touchAt_of hx']; exact hxa) hm with hk | hk | ⟨k, hk, hg, hc, hr⟩
   ·exact .inl (hk.app u)
   ·exact .inr (.inl hk)
   ·exact .inr (.inr ⟨k, hk, by rw [g?_old hi]; exact hg, (counts_old hi).2 hc, hr⟩)
  ·have := knows_own hx
   rw [h0 x hxu] at this
   exact .inl this
 ·obtain ⟨x, hx, hxa⟩ := touch_of ha
  rcases getElem?_append_cases hx with ⟨hi, hx'⟩ | ⟨_, hxu⟩
  ·exact (h.wk k hk i a (by rw [touchAt_of hx']; exact hxa) hr hw).app u
  ·exact absurd hr (((hu x hxu).1 a hxa).2 hw k hk)
 ·obtain ⟨x, hx, hxa⟩ := touch_of ha
  rcases getElem?_append_cases hx with ⟨hi, hx'⟩ | ⟨_, hxu⟩
  ·exact h.quiet i a (by rw [touchAt_of hx']; exact hxa) hg
  ·exact ((hu x hxu).1 a hxa).1 (.inr hg)
theorem Mid.appK (h : Mid Shun B Wg b Rd j t) {k : Nat} (hk : k < j) (hRS : ∀ k l, Rd k l → ¬ OfG Wg l) (h0 : ∀ op ∈ u, op.g = b + k) (hu : ∀ op ∈ u, OkK B Wg Rd k op.act)
  (hcn : ∀ i a, t.size ≤ i → touchAt (t ++ u) i = some a → a.loc.isMemory = true → Rd k a.loc → (t ++ u).counts i) : Mid Shun B Wg b Rd j (t ++ u) := by
 refine ⟨fun said => noRace_append (h.clean said) h0 fun i a ha op hop x hx hc => ?_, fun i a ha hm => ?_, fun k' hk' i a ha hr hw => ?_, fun i a ha hg => ?_, over_app h.over fun op hop => .inr (.inr ⟨k, hk, h0 op hop⟩), seen_app h.seen fun op hop => (hu op hop).2.1, h.norel.app fun op hop => (hu op hop).2.2⟩
 ·rcases (hu op hop).1 x hx with ⟨hg, hka⟩ | ⟨hr, hxw⟩
  ·exfalso
   have hq := h.quiet i a ha (hc.1 ▸ hg)
   obtain ⟨_, _, _, hcase⟩ := hc
   rw [hka] at hcase
   rcases hcase with z | z | ⟨_, _, z⟩
   ·exact hq z
   ·cases z
   ·cases z
  ·rcases hc.2.2.1 with z | z
   ·exact h.wk k hk i a ha (hc.1 ▸ hr) z
   ·rw [hxw] at z; cases z
 ·obtain ⟨x, hx, hxa⟩ := touch_of ha
  rcases getElem?_append_cases hx with ⟨hi, hx'⟩ | ⟨hge, hxu⟩
  ·rcases h.known i a (by rw [touchAt_of hx']; exact hxa) hm with hk | hk | ⟨k, hk, hg, hc, hr⟩
   ·exact .inl (hk.app u)
   ·exact .inr (.inl hk)
   ·exact .inr (.inr ⟨k, hk, by rw [g?_old hi]; exact hg, (counts_old hi).2 hc, hr⟩)
  ·rcases (hu x hxu).1 a hxa with ⟨hg, hka⟩ | ⟨hr, hxw⟩
   ·exact .inr (.inl ⟨.inr hg, hka⟩)
   ·exact .inr (.inr ⟨k, hk, by simp [Trace.g?, hx, h0 x hxu], hcn i a hge ha hm hr, hr, hxw⟩)
 ·obtain ⟨x, hx, hxa⟩ := touch_of ha
  rcases getElem?_append_cases hx with ⟨hi, hx'⟩ | ⟨_, hxu⟩
  ·exact (h.wk k' hk' i a (by rw [touchAt_of hx']; exact hxa) hr hw).app u
  ·exfalso
   rcases (hu x hxu).1 a hxa with ⟨hg, hka⟩ | ⟨_, hxw⟩
   ·exact hRS _ _ hr hg
   ·rw [hw] at hxw; cases hxw
 ·obtain ⟨x, hx, hxa⟩ := touch_of ha
  rcases getElem?_append_cases hx with ⟨hi, hx'⟩ | ⟨_, hxu⟩
  ·exact h.quiet i a (by rw [touchAt_of hx']; exact hxa) hg
  ·rcases (hu x hxu).1 a hxa with ⟨_, hka⟩ | ⟨hr, _⟩
   ·rw [hka]; simp
   ·exact absurd hg (hRS _ _ hr)
theorem Mid.appMute (h : Mid Shun B Wg b Rd j t) (y : MemOp) (hn : y.act.touch? = none) (hl : y.act.low B) (hr : y.act ≠ .mark (.release (stA Wg))) : Mid Shun B Wg b Rd j (t ++ #[y]) := by
 have old : ∀ {i : Nat} {a : Touch}, touchAt (t ++ #[y]) i = some a → i < t.size ∧ touchAt t i = some a := by
  intro i a ha
  obtain ⟨z, hz, hza⟩ := touch_of ha
  rcases getElem?_append_cases hz with ⟨hi, hz'⟩ | ⟨_, hzu⟩
  ·exact ⟨hi, by rw [touchAt_of hz']; exact hza⟩
  ·have : z = y := by simpa using hzu
   rw [this, hn] at hza; cases hza
 refine ⟨fun said => noRace_append (g := y.g) (h.clean said) (fun op hop => by simp at hop; rw [hop]) fun i a ha op hop x hx hc => ?_, fun i a ha hm => ?_, fun k hk i a ha hr hw => (h.wk k hk i a (old ha).2 hr hw).app _, fun i a ha hg => h.quiet i a (old ha).2 hg,
  over_app h.over fun op hop => .inl (by simp at hop; rw [hop]; exact hn), seen_app h.seen fun op hop => by simp at hop; rw [hop]; exact hl, h.norel.app fun op hop => by simp at hop; rw [hop]; exact hr⟩
 ·have : op = y := by simpa using hop
  rw [this, hn] at hx; cases hx
 ·obtain ⟨hi, ha'⟩ := old ha
  rcases h.known i a ha' hm with hk | hk | ⟨k, hk, hg, hc, hr⟩
  ·exact .inl (hk.app _)
  ·exact .inr (.inl hk)
  ·exact .inr (.inr ⟨k, hk, by rw [g?_old hi]; exact hg, (counts_old hi).2 hc, hr⟩)
theorem Mid.grow (h : Mid Shun B Wg b Rd j t) (hw : ∀ i a, touchAt t i = some a → Rd j a.loc → a.write = true → Knows t (b + j) i) : Mid Shun B Wg b Rd (j + 1) t := by
 refine ⟨h.clean, fun i a ha hm => ?_, fun k hk i a ha hr hw' => ?_, h.quiet, fun i g hg hne hc => ?_, h.seen, h.norel⟩
 ·rcases h.known i a ha hm with hk | hk | ⟨k, hk, hr⟩
  ·exact .inl hk
  ·exact .inr (.inl hk)
  ·exact .inr (.inr ⟨k, by omega, hr⟩)
 ·rcases Nat.lt_or_ge k j with hlt | hge
  ·exact h.wk k hlt i a ha hr hw'
  ·obtain rfl : k = j := by omega
   exact hw i a ha hr hw'
 ·rcases h.over i g hg hne hc with hq | ⟨k, hk, e⟩
  ·exact .inl hq
  ·exact .inr ⟨k, by omega, e⟩
theorem Mid.fork (h : Mid Shun B Wg b Rd j t) (hRm : ∀ l, Rd j l → l.isMemory = true) (hRS : ∀ l, Rd j l → ¬ (Shun l ∨ OfG Wg l)) {x y : MemOp} (hx : x.g = 0 ∧ x.act = .go (b + j)) (hy : y.g = b + j ∧ y.act = .start) (h0 : Deaf t 0 = 0) (hk : Deaf t (b + j) = 0) : Mid Shun B Wg b Rd (j + 1) (t ++ #[x, y]) := by
 have e : t ++ #[x, y] = (t ++ #[x]) ++ #[y] := by apply Array.ext'; simp
 have m1 : Mid Shun B Wg b Rd j (t ++ #[x, y]) := by
  rw [e]
  exact (h.appMute x (by rw [hx.2]; rfl) (by rw [hx.2]; trivial) (by rw [hx.2]; simp)).appMute y (by rw [hy.2]; rfl) (by rw [hy.2]; trivial) (by rw [hy.2]; simp)
 refine m1.grow fun i a ha hr hw => ?_
 have old : touchAt t i = some a := by
  obtain ⟨z, hz, hza⟩ := touch_of ha
  rcases getElem?_append_cases hz with ⟨hi, hz'⟩ | ⟨_, hzu⟩
  ·rw [touchAt_of hz']; exact hza
  ·have : z = x ∨ z = y := by simpa using hzu
   rcases this with rfl | rfl
   ·rw [hx.2] at hza; cases hza
   ·rw [hy.2] at hza; cases hza
 rcases h.known i a old (hRm _ hr) with hk' | ⟨hs, _⟩ | ⟨k, _, _, _, _, hw'⟩
 ·exact fork_knows hx hy h0 hk hk'
 ·exact absurd hs (hRS _ hr)
 ·rw [hw] at hw'; cases hw'
theorem Mid.finish (h : Mid Shun B Wg b Rd j t) (hb : 0 < b) {q : Nat} (hq : t.act? q = some (.mark (.acquire (stA Wg)))) (hq0 : t.g? q = some 0) (hqh : t.heard q) (hrel : ∀ k, k < j → ∃ r, RelBy (stA Wg) t (b + k) r ∧ r < q) (hd : Deaf t 0 = 0) :
  Past (fun l => Shun l ∨ OfG Wg l) B t := by
 have key : ∀ k, k < j → ∀ i, t.g? i = some (b + k) → t.counts i → HappensBefore t i q := by
  intro k hk i hg hc
  obtain ⟨r, hr, hrq⟩ := hrel k hk
  have edge : HappensBefore t r q := .single (.inr ⟨.marked hrq (.inr hr.act) hq (fun m _ _ => h.norel m), hr.heard, hqh⟩)
  have hle : i ≤ r := Nat.le_of_not_lt fun hlt => hr.after i hlt hg hc
  rcases Nat.lt_or_ge i r with hlt | hge
  ·exact .trans (.single (.inl ⟨hlt, b + k, hg, hr.g⟩)) edge
  ·obtain rfl : i = r := by omega
   exact edge
 refine ⟨h.clean, fun i a ha hm => ?_, fun i g hg hne hc => ?_, hd, h.seen⟩
 ·rcases h.known i a ha hm with hk | hk | ⟨k, hk, hg, hc, _⟩
  ·exact .inl hk
  ·exact .inr hk
  ·obtain ⟨z, hz, hz0⟩ := Option.map_eq_some_iff.1 hq0
   exact .inl ⟨q, z, hz, hz0, .inr (key k hk i hg hc)⟩
 ·rcases h.over i g hg hne hc with hq | ⟨k, hk, rfl⟩
  ·exact hq
  ·exact ⟨q, hq0, key k hk i hg hc⟩
end
end Go.Proofs.Ytilpedopnkhppaa.Mx

/- Many senders and one who takes: what is asked of each goroutine. Conditions: none; definitions and their small laws. -/
namespace Go.Proofs.Ytilpedopnkhppaa.Mx
open Go.Conc
open Go.ConcR (KK wgBlock WgAt stA smA rd wr DC0)
structure Ph where
 P : Program
 ty : TypeId
 Wg : Nat
 b : Nat
 n : Nat
 B : Nat
 Shun : Loc → Prop
 vs : Nat → List Value
 cap : Nat → Nat
 ch : Nat → Nat
 K : Nat → World → Prop
 Rd : Nat → Loc → Prop
 z : Value
 Anch : Goroutine → World → Prop
 Post : Goroutine → World → Prop
def Rk (K : World → Prop) : World → World → Prop := fun _ w₁ => K w₁
theorem goes_rk {P : Program} {main : Bool} {K : World → Prop} {D : World → World → Array Event → Prop} {Stop : Goroutine → World → Prop} {n : Nat} {g : Goroutine} {w : World} (h : Goes P main (Rk K) D Stop n g w) (w' : World) : Goes P main (Rk K) D Stop n g w' := by
 cases n with
 | zero => exact h
 | succ n => exact h
namespace Ph
variable (p : Ph)
def Live (w : World) : Prop := ∃ st sm, WgAt p.ty p.Wg w st sm
def KL (k : Nat) (w : World) : Prop := p.K k w ∧ p.Live w
/-! ### the sender -/
def EvK (k : Nat) (e : Event) : Prop := OkK p.B p.Wg p.Rd k (.ofEvent e) ∧ (∀ y, (MemAct.ofEvent e).touch? = some y → y.kind ≠ .atomic) ∧ e.loc ≠ .mark .disable ∧ e.loc ≠ .mark .enable
def DR (k : Nat) (w w' : World) (es : Array Event) : Prop := w' = w ∧ ∀ e ∈ es, p.EvK k e
def T4 (k : Nat) (g : Goroutine) (w : World) : Prop :=
 g.status = .running ∧ mayWake p.P g = true ∧ (WgAt p.ty p.Wg w 0 0 → ∃ g', stepG p.P false g w = .go g' (w.setCell (smA p.Wg) (.int .u32 1)) (semEvents (smA p.Wg)) ∧ ∃ q, QuitsD p.P q 1 g')
def T3 (k : Nat) (g : Goroutine) (w : World) : Prop :=
 g.status = .running ∧ (WgAt p.ty p.Wg w 1 0 → ∃ g', stepG p.P false g w = .go g' (w.setCell (stA p.Wg) (.int .u64 0)) #[wr (stA p.Wg)] ∧ ∃ m, Goes p.P false (Rk (p.KL k)) DC0 (p.T4 k) m g' default)
def T2 (k : Nat) (g : Goroutine) (w : World) : Prop :=
 g.status = .running ∧ (WgAt p.ty p.Wg w 1 0 → ∃ g', stepG p.P false g w = .go g' w #[rd (stA p.Wg)] ∧ ∃ m, Goes p.P false (Rk (p.KL k)) DC0 (p.T3 k) m g' default)
def T1 (k : Nat) (g : Goroutine) (w : World) : Prop :=
 g.status = .running ∧ ∀ v wt : Nat, wt ≤ 1 → v < 2147483647 → WgAt p.ty p.Wg w ((v + 1) * KK + wt) 0 →
  ∃ g', stepG p.P false g w = .go g' (w.setCell (stA p.Wg) (.int .u64 (v * KK + wt))) #[rd (stA p.Wg), wr (stA p.Wg)] ∧
   ((v = 0 ∧ wt = 1) → ∃ m, Goes p.P false (Rk (p.KL k)) DC0 (p.T2 k) m g' default) ∧ (¬ (v = 0 ∧ wt = 1) → ∃ q, QuitsD p.P q 1 g')
def T0d (k : Nat) (g : Goroutine) (w : World) : Prop :=
 g.status = .running ∧ ∃ g', stepG p.P false g w = .go g' w #[Go.ConcR.mk .disable] ∧ ∃ m, Goes p.P false (Rk (p.KL k)) DC0 (p.T1 k) m g' default
def T0 (k : Nat) (g : Goroutine) (w : World) : Prop :=
 g.status = .running ∧ ∃ g', stepG p.P false g w = .go g' w #[Go.ConcR.mk (.releaseMerge (stA p.Wg))] ∧ ∃ m, Goes p.P false (Rk (p.KL k)) DC0 (p.T0d k) m g' default
def SClose (k : Nat) (g : Goroutine) (_ : World) : Prop :=
 g.status = .running ∧ mayWake p.P g = true ∧ ∃ g₂, (∀ w cap buf s r, p.KL k w → w.heap[p.ch k]? = some (.chan cap buf false s r false) →
   stepG p.P false g w = .go g₂ (w.setChan (p.ch k) cap buf true s r false) #[⟨.obj (p.ch k), false, true⟩, ⟨.obj (p.ch k), true, true⟩]) ∧ g₂.status = .running ∧ ∃ m, Goes p.P false (Rk (p.KL k)) (p.DR k) (p.T0 k) m g₂ default
def SSend (k : Nat) (v : Value) (Next : Goroutine → Prop) (g : Goroutine) (_ : World) : Prop :=
 g.status = .running ∧ ∃ g₂ z, (∀ w, p.KL k w → stepG p.P false g w = .comm g₂ #[scase (p.ch k) v z] true .send w #[]) ∧ Next (Go.Conc.served g₂ undef)
def Sends (k : Nat) : List Value → Goroutine → Prop
 | [], g => ∃ m, Goes p.P false (Rk (p.KL k)) (p.DR k) (p.SClose k) m g default
 | v :: vs, g => ∃ m, Goes p.P false (Rk (p.KL k)) (p.DR k) (p.SSend k v (Sends k vs)) m g default
def SStop (k : Nat) : List Value → Goroutine → World → Prop
 | [] => p.SClose k
 | v :: vs => p.SSend k v (p.Sends k vs)
theorem sends_iff (k : Nat) (l : List Value) (g : Goroutine) : p.Sends k l g ↔ ∃ m, Goes p.P false (Rk (p.KL k)) (p.DR k) (p.SStop k l) m g default := by
 cases l <;> exact Iff.rfl
structure WD where
 stage : Nat
 sent : Nat
 fuel : Nat
 deaf : Nat
 park : Bool
inductive WS (k : Nat) : WD → Goroutine → Prop
 | send {s m : Nat} {g : Goroutine} : s ≤ (p.vs k).length → Goes p.P false (Rk (p.KL k)) (p.DR k) (p.SStop k ((p.vs k).drop s)) m g default → WS k ⟨8, s, m + 1, 0, false⟩ g
 | park {s : Nat} {g₂ : Goroutine} {v z : Value} {l : List Value} : s < (p.vs k).length → (p.vs k).drop s = v :: l → p.Sends k l (Go.Conc.served g₂ undef) → WS k ⟨8, s, 0, 0, true⟩ (parked g₂ #[scase (p.ch k) v z] .send)
 | t0 {m : Nat} {g : Goroutine} : Goes p.P false (Rk (p.KL k)) (p.DR k) (p.T0 k) m g default → WS k ⟨7, (p.vs k).length, m, 0, false⟩ g
 | t0d {m : Nat} {g : Goroutine} : Goes p.P false (Rk (p.KL k)) DC0 (p.T0d k) m g default → WS k ⟨6, (p.vs k).length, m, 0, false⟩ g
 | t1 {m : Nat} {g : Goroutine} : Goes p.P false (Rk (p.KL k)) DC0 (p.T1 k) m g default → WS k ⟨5, (p.vs k).length, m, 1, false⟩ g
 | t2 {m : Nat} {g : Goroutine} : Goes p.P false (Rk (p.KL k)) DC0 (p.T2 k) m g default → WS k ⟨4, (p.vs k).length, m, 1, false⟩ g
 | t3 {m : Nat} {g : Goroutine} : Goes p.P false (Rk (p.KL k)) DC0 (p.T3 k) m g default → WS k ⟨3, (p.vs k).length, m, 1, false⟩ g
 | t4 {m : Nat} {g : Goroutine} : Goes p.P false (Rk (p.KL k)) DC0 (p.T4 k) m g default → WS k ⟨2, (p.vs k).length, m, 1, false⟩ g
 | quit {q d : Nat} {g : Goroutine} : QuitsD p.P q d g → WS k ⟨1, (p.vs k).length, q, d, false⟩ g
/-! ### the starter -/
def IsSo (w : World) (b : Nat) : Prop := ∃ o, w.heap[b]? = some o ∧ ((∃ c t, o = .cells c t (0, 0) ∧ c.size ≠ 0) ∨ ∃ a b c d e f, o = .chan a b c d e f)
structure Far (j : Nat) (w w₁ : World) : Prop where
 tape : w₁.tape = w.tape
 os : w₁.os = w.os
 output : w₁.output = w.output
 size : w₁.heap.size = w.heap.size
 block : ∀ b, b ≠ p.Wg → (∀ k, k < j → b ≠ p.ch k) → w₁.heap[b]? = w.heap[b]?
 live : p.Live w → p.Live w₁
 solid : ∀ b, IsSo w b → IsSo w₁ b
def Bd (w : World) : Nat := max p.B w.heap.size
def EvM (j : Nat) (e : Event) : Prop := OkM p.Shun p.B p.Wg p.Rd j (.ofEvent e) ∧ e.loc ≠ .mark .disable ∧ e.loc ≠ .mark .enable
structure DM (j : Nat) (w w' : World) (es : Array Event) : Prop where
 wg : w'.heap[p.Wg]? = w.heap[p.Wg]?
 ch : ∀ k, k < j → w'.heap[p.ch k]? = w.heap[p.ch k]?
 box : ∀ k, k < j → p.K k w → p.K k w'
 ev : ∀ e ∈ es, OkM p.Shun (p.Bd w') p.Wg p.Rd j (.ofEvent e) ∧ e.loc ≠ .mark .disable ∧ e.loc ≠ .mark .enable
 grow : w.heap.size ≤ w'.heap.size
def U4 (j : Nat) (Next : Goroutine → World → Prop) (g : Goroutine) (w : World) : Prop :=
 g.status = .running ∧ ∃ g' child, stepG p.P true g w = .spawn g' child w #[] ∧ p.Sends j (p.vs j) child ∧ p.K j w ∧ w.heap[p.ch j]? = some (.chan (p.cap j) #[] false 0 0 false) ∧ Next g' w
def U3 (j : Nat) (Next : Goroutine → World → Prop) (g : Goroutine) (w : World) : Prop :=
 g.status = .running ∧ ∃ g', stepG p.P true g w = .go g' w #[Go.ConcR.mk .enable] ∧ ∃ m, Goes p.P true (p.Far j) (p.DM j) (p.U4 j Next) m g' w
def U2 (j : Nat) (Next : Goroutine → World → Prop) (g : Goroutine) (w : World) : Prop :=
 g.status = .running ∧ ∀ v : Nat, v < 2147483647 → WgAt p.ty p.Wg w (v * KK) 0 →
  ∃ g', stepG p.P true g w = .go g' (w.setCell (stA p.Wg) (.int .u64 ((v + 1) * KK))) #[rd (stA p.Wg), wr (stA p.Wg)] ∧ ∃ m, Goes p.P true (p.Far j) (p.DM j) (p.U3 j Next) m g' (w.setCell (stA p.Wg) (.int .u64 ((v + 1) * KK)))
def U1 (j : Nat) (Next : Goroutine → World → Prop) (g : Goroutine) (w : World) : Prop :=
 g.status = .running ∧ ∃ g', stepG p.P true g w = .go g' w #[Go.ConcR.mk .disable] ∧ ∃ m, Goes p.P true (p.Far j) (p.DM j) (p.U2 j Next) m g' w
def Spawns (Fin : Goroutine → World → Prop) : Nat → Goroutine → World → Prop
 | 0, g, w => Fin g w
 | r + 1, g, w => ∃ m, Goes p.P true (p.Far (p.n - (r + 1))) (p.DM (p.n - (r + 1))) (p.U1 (p.n - (r + 1)) (Spawns Fin r)) m g w
def opn (T : Nat → Nat) (k : Nat) : Prop := k < p.n ∧ T k ≤ (p.vs k).length
open Classical in
noncomputable def kase (T : Nat → Nat) (k : Nat) : CommCase := if p.opn T k then rcase (p.ch k) p.z else rcaseNil p.z
noncomputable def kases (T : Nat → Nat) (x y : Nat) : Array CommCase := #[p.kase T x, p.kase T y]
structure SelAt (Next : (Nat → Nat) → Goroutine → World → Prop) (T : Nat → Nat) (x y : Nat) (g₂ : Goroutine) (w : World) : Prop where
 ne : x ≠ y
 one : p.opn T x ∨ p.opn T y
 step : ∀ w₁, p.Far p.n w w₁ → stepG p.P true g₂ w₁ = .comm g₂ (p.kases T x y) true .select w₁ #[]
 val : ∀ i k v, (i = 0 ∧ k = x ∨ i = 1 ∧ k = y) → k < p.n → (p.vs k)[T k]? = some v → ∀ w₁, p.Far p.n w w₁ → Next (Go.ConcN.upd T k (T k + 1)) (Go.Conc.served g₂ (commResult (p.kases T x y) .select (i : Nat) v true)) w₁
 shut : ∀ i k, (i = 0 ∧ k = x ∨ i = 1 ∧ k = y) → k < p.n → T k = (p.vs k).length → ∀ w₁, p.Far p.n w w₁ → Next (Go.ConcN.upd T k (T k + 1)) (Go.Conc.served g₂ (commResult (p.kases T x y) .select (i : Nat) p.z false)) w₁
def Sel (Next : (Nat → Nat) → Goroutine → World → Prop) (T : Nat → Nat) (g : Goroutine) (w : World) : Prop :=
 g.status = .running ∧ ∃ g₂ x y, g.frame = g₂.frame ∧ g.callers = g₂.callers ∧ g.dying = g₂.dying ∧ p.SelAt Next T x y g₂ w
def AllT (T : Nat → Nat) : Prop := ∀ k, k < p.n → T k = (p.vs k).length + 1
def V7 (g : Goroutine) (w : World) : Prop := g.status = .running ∧ ∃ g', stepG p.P true g w = .go g' w #[Go.ConcR.mk (.acquire (stA p.Wg))] ∧ p.Post g' w
def V6 (g : Goroutine) (w : World) : Prop :=
 g.status = .running ∧ ∃ g', stepG p.P true g w = .go g' w #[Go.ConcR.mk .enable] ∧ ∃ m, Goes p.P true (p.Far p.n) (p.DM p.n) p.V7 m g' w
def V5 (g : Goroutine) (w : World) : Prop :=
 g.status = .running ∧ (WgAt p.ty p.Wg w 0 0 → ∃ g', stepG p.P true g w = .go g' w #[rd (stA p.Wg)] ∧ ∃ m, Goes p.P true (p.Far p.n) (p.DM p.n) p.V6 m g' w)
def V4 (g : Goroutine) (w : World) : Prop :=
 g.status = .running ∧ g.offers = none ∧
  ((∃ st, WgAt p.ty p.Wg w st 0) → stepG p.P true g w = .go { g with status := .blocked } w #[]) ∧
  (WgAt p.ty p.Wg w 0 1 → ∃ g', stepG p.P true g w = .go g' (w.setCell (smA p.Wg) (.int .u32 0)) (semEvents (smA p.Wg)) ∧ ∃ m, Goes p.P true (p.Far p.n) (p.DM p.n) p.V5 m g' (w.setCell (smA p.Wg) (.int .u32 0)))
def V3 (vs : Nat) (g : Goroutine) (w : World) : Prop :=
 g.status = .running ∧ ∀ v : Nat, v < 2147483648 → WgAt p.ty p.Wg w (v * KK) 0 →
  (v = vs → ∃ g', stepG p.P true g w = .go g' (w.setCell (stA p.Wg) (.int .u64 (v * KK + 1))) #[rd (stA p.Wg), wr (stA p.Wg)] ∧ ∃ m, Goes p.P true (p.Far p.n) (p.DM p.n) p.V4 m g' (w.setCell (stA p.Wg) (.int .u64 (v * KK + 1)))) ∧
  (v ≠ vs → ∃ g', stepG p.P true g w = .go g' w #[rd (stA p.Wg)] ∧ ∃ m, Goes p.P true (p.Far p.n) (p.DM p.n) p.Anch m g' w)
def V2 (g : Goroutine) (w : World) : Prop :=
 g.status = .running ∧ ∀ v : Nat, v < 2147483648 → WgAt p.ty p.Wg w (v * KK) 0 → ∃ g', stepG p.P true g w = .go g' w #[rd (stA p.Wg)] ∧
  (v = 0 → ∃ m, Goes p.P true (p.Far p.n) (p.DM p.n) p.V6 m g' w) ∧ (v ≠ 0 → ∃ m, Goes p.P true (p.Far p.n) (p.DM p.n) (p.V3 v) m g' w)
def V1 (g : Goroutine) (w : World) : Prop :=
 g.status = .running ∧ ∃ g', stepG p.P true g w = .go g' w #[Go.ConcR.mk .disable] ∧ ∃ m, Goes p.P true (p.Far p.n) (p.DM p.n) p.Anch m g' w
def Takes : Nat → (Nat → Nat) → Goroutine → World → Prop
 | 0, T, g, w => ∃ f, Goes p.P true (p.Far p.n) (p.DM p.n) (fun g w => p.AllT T ∧ p.V1 g w) f g w
 | m + 1, T, g, w => ∃ f, Goes p.P true (p.Far p.n) (p.DM p.n) (fun g w => p.Sel (Takes m) T g w ∨ (p.AllT T ∧ p.V1 g w)) f g w
def TStop (m : Nat) (T : Nat → Nat) (g : Goroutine) (w : World) : Prop := (∃ m', m = m' + 1 ∧ p.Sel (p.Takes m') T g w) ∨ (p.AllT T ∧ p.V1 g w)
theorem takes_iff (m : Nat) (T : Nat → Nat) (g : Goroutine) (w : World) : p.Takes m T g w ↔ ∃ f, Goes p.P true (p.Far p.n) (p.DM p.n) (p.TStop m T) f g w := by
 cases m with
 | zero =>
  have e : p.TStop 0 T = fun g w => p.AllT T ∧ p.V1 g w := by
   funext g w
   apply propext
   constructor
   ·rintro (⟨_, h, _⟩ | h)
    ·cases h
    ·exact h
   ·exact .inr
  rw [e]; exact Iff.rfl
 | succ m =>
  have e : p.TStop (m + 1) T = fun g w => p.Sel (p.Takes m) T g w ∨ (p.AllT T ∧ p.V1 g w) := by
   funext g w
   apply propext
   constructor
   ·rintro (⟨m', h, h'⟩ | h)
    ·obtain rfl : m = m' := by omega
     exact .inl h'
    ·exact .inr h
   ·rintro (h | h)
    ·exact .inl ⟨m, rfl, h⟩
    ·exact .inr h
  rw [e]; exact Iff.rfl
inductive Tag where
 | sp (r s : Nat) | tk (m : Nat) | sel (m : Nat) (x y : Nat) | an | w2 | w3 (vs : Nat) | w4 | blk | w5 | w6 | w7
def T00 : Nat → Nat := fun _ => 0
inductive MS (M : Nat) : Tag → Nat → (Nat → Nat) → Nat → Nat → Goroutine → World → Prop
 | s1 {r m : Nat} {g : Goroutine} {w : World} : r < p.n → Goes p.P true (p.Far (p.n - (r + 1))) (p.DM (p.n - (r + 1))) (p.U1 (p.n - (r + 1)) (p.Spawns (p.Takes M T00) r)) m g w → MS M (.sp r 5) (p.n - (r + 1)) T00 m 0 g w
 | s2 {r m : Nat} {g : Goroutine} {w : World} : r < p.n → Goes p.P true (p.Far (p.n - (r + 1))) (p.DM (p.n - (r + 1))) (p.U2 (p.n - (r + 1)) (p.Spawns (p.Takes M T00) r)) m g w → MS M (.sp r 4) (p.n - (r + 1)) T00 m 1 g w
 | s3 {r m : Nat} {g : Goroutine} {w : World} : r < p.n → Goes p.P true (p.Far (p.n - (r + 1))) (p.DM (p.n - (r + 1))) (p.U3 (p.n - (r + 1)) (p.Spawns (p.Takes M T00) r)) m g w → MS M (.sp r 3) (p.n - (r + 1)) T00 m 1 g w
 | s4 {r m : Nat} {g : Goroutine} {w : World} : r < p.n → Goes p.P true (p.Far (p.n - (r + 1))) (p.DM (p.n - (r + 1))) (p.U4 (p.n - (r + 1)) (p.Spawns (p.Takes M T00) r)) m g w → MS M (.sp r 2) (p.n - (r + 1)) T00 m 0 g w
 | tk {m f : Nat} {T : Nat → Nat} {g : Goroutine} {w : World} : Goes p.P true (p.Far p.n) (p.DM p.n) (p.TStop m T) f g w → MS M (.tk m) p.n T (f + 1) 0 g w
 | sel {m x y : Nat} {T : Nat → Nat} {g₂ : Goroutine} {w : World} : p.SelAt (p.Takes m) T x y g₂ w → MS M (.sel (m + 1) x y) p.n T 0 0 (parked g₂ (p.kases T x y) .select) w
 | an {m : Nat} {T : Nat → Nat} {g : Goroutine} {w : World} : p.AllT T → Goes p.P true (p.Far p.n) (p.DM p.n) p.Anch m g w → MS M .an p.n T m 1 g w
 | w2 {m : Nat} {T : Nat → Nat} {g : Goroutine} {w : World} : p.AllT T → Goes p.P true (p.Far p.n) (p.DM p.n) p.V2 m g w → MS M .w2 p.n T m 1 g w
 | w3 {vs m : Nat} {T : Nat → Nat} {g : Goroutine} {w : World} : p.AllT T → Goes p.P true (p.Far p.n) (p.DM p.n) (p.V3 vs) m g w → MS M (.w3 vs) p.n T m 1 g w
 | w4 {m : Nat} {T : Nat → Nat} {g : Goroutine} {w : World} : p.AllT T → Goes p.P true (p.Far p.n) (p.DM p.n) p.V4 m g w → MS M .w4 p.n T (m + 1) 1 g w
 | blk {T : Nat → Nat} {g : Goroutine} {w : World} : p.AllT T → (∀ w₁, p.Far p.n w w₁ → p.V4 g w₁) → MS M .blk p.n T 0 1 { g with status := .blocked } w
 | w5 {m : Nat} {T : Nat → Nat} {g : Goroutine} {w : World} : p.AllT T → Goes p.P true (p.Far p.n) (p.DM p.n) p.V5 m g w → MS M .w5 p.n T m 1 g w
 | w6 {m : Nat} {T : Nat → Nat} {g : Goroutine} {w : World} : p.AllT T → Goes p.P true (p.Far p.n) (p.DM p.n) p.V6 m g w → MS M .w6 p.n T m 1 g w
 | w7 {m : Nat} {T : Nat → Nat} {g : Goroutine} {w : World} : p.AllT T → Goes p.P true (p.Far p.n) (p.DM p.n) p.V7 m g w → MS M .w7 p.n T m 0 g w
end Ph
end Go.Proofs.Ytilpedopnkhppaa.Mx

/- Many senders and one who takes: what holds of machine and trace at every moment, and how a step of a sender's own, or of the starter's own, keeps it. Conditions: each theorem's own. -/
namespace Go.Proofs.Ytilpedopnkhppaa.Mx
open Go.Conc
open Go.ConcN (sumTo upd sumTo_upd upd_ne upd_same sumTo_congr le_sumTo RelBy Deaf_still)
open Go.ConcR (KK wgBlock WgAt stA smA rd wr DC0)
namespace Ph
variable (p : Ph)
structure Ok : Prop where
 b1 : 1 ≤ p.b
 n31 : p.n < 2147483648
 chInj : ∀ k k', k < p.n → k' < p.n → p.ch k = p.ch k' → k = k'
 chWg : ∀ k, k < p.n → p.ch k ≠ p.Wg
 kFar : ∀ k w w₁, k < p.n → p.Far p.n w w₁ → p.K k w → p.K k w₁
 rdMem : ∀ k l, p.Rd k l → l.isMemory = true
 rdNo : ∀ k l, p.Rd k l → ¬ (p.Shun l ∨ OfG p.Wg l)
 rdObj : ∀ k, k < p.n → p.Rd k (.obj (p.ch k))
 lowWg : p.Wg < p.B
 chLow : ∀ k, k < p.n → p.ch k < p.B
 capOk : ∀ k, k < p.n → p.vs k = [] ∨ 1 ≤ p.cap k
 anRun : ∀ g w, p.Anch g w → g.status = .running
 an : ∀ g w, p.Anch g w → ∃ m, Goes p.P true (p.Far p.n) (p.DM p.n) p.V2 m g w
structure ChanAt (k : Nat) (d : WD) (Tk : Nat) (w : World) : Prop where
 at_ : w.heap[p.ch k]? = some (.chan (p.cap k) (((p.vs k).drop Tk).take (d.sent - Tk)).toArray (decide (d.stage ≤ 7)) d.sent (min Tk (p.vs k).length) false)
 sent : d.sent ≤ (p.vs k).length
 took : min Tk (p.vs k).length ≤ d.sent
 room : d.sent - Tk ≤ p.cap k
 park : d.park = true → d.sent - Tk = p.cap k
 shut : d.stage ≤ 7 → d.sent = (p.vs k).length
 done : (p.vs k).length < Tk → d.stage ≤ 7
 most : Tk ≤ (p.vs k).length + 1
theorem ChanAt.of_heap {p : Ph} {k : Nat} {d : WD} {Tk : Nat} {w w' : World} (h : p.ChanAt k d Tk w) (e : w'.heap[p.ch k]? = w.heap[p.ch k]?) : p.ChanAt k d Tk w' :=
 ⟨e.trans h.at_, h.sent, h.took, h.room, h.park, h.shut, h.done, h.most⟩
theorem ChanAt.same {p : Ph} {k : Nat} {d d' : WD} {Tk : Nat} {w : World} (h : p.ChanAt k d Tk w) (h1 : d'.sent = d.sent) (h2 : d'.stage ≤ 7 ↔ d.stage ≤ 7) (h3 : d'.park = true → d.sent - Tk = p.cap k) : p.ChanAt k d' Tk w := by
 have e : decide (d'.stage ≤ 7) = decide (d.stage ≤ 7) := by simp only [h2]
 exact ⟨by rw [h1, e]; exact h.at_, by rw [h1]; exact h.sent, by rw [h1]; exact h.took, by rw [h1]; exact h.room, by rw [h1]; exact h3, fun x => by rw [h1]; exact h.shut (h2.1 x), fun x => h2.2 (h.done x), h.most⟩
structure Core (q : Nat → Nat) (gs : Array Goroutine) (w : World) (t : Trace) (j : Nat) (D : Nat → WD) (T : Nat → Nat) (d0 : Nat) : Prop where
 jn : j ≤ p.n
 size : gs.size = p.b + j
 old : ∀ i g, 0 < i → i < p.b → gs[i]? = some g → QuitsD p.P (q i) (Deaf t i) g
 wk : ∀ k, k < j → ∃ g, gs[p.b + k]? = some g ∧ p.WS k (D k) g
 mid : Mid p.Shun (p.Bd w) p.Wg p.b p.Rd j t
 deaf0 : Deaf t 0 = d0
 deafK : ∀ k, k < j → Deaf t (p.b + k) = (D k).deaf
 above : ∀ i, p.b + j ≤ i → Deaf t i = 0
 rel : ∀ k, k < j → (D k).stage ≤ 6 → ∃ r, RelBy (stA p.Wg) t (p.b + k) r
 chan : ∀ k, k < j → p.ChanAt k (D k) (T k) w
 box : ∀ k, k < j → p.K k w
end Ph
section
variable {p : Ph} {q : Nat → Nat} {gs : Array Goroutine} {w w' : World} {t : Trace} {j d0 : Nat} {D : Nat → Ph.WD} {T : Nat → Nat}
theorem isSo_aside {w w' : World} {ty : TypeId} {W : Nat} {st sm : Int} (h : WgAt ty W w' st sm) (hb : ∀ b, b ≠ W → w'.heap[b]? = w.heap[b]?) (b : Nat) (hc : Ph.IsSo w b) : Ph.IsSo w' b := by
 obtain ⟨o, hc, hs⟩ := hc
 by_cases e : b = W
 ·subst e
  unfold WgAt Go.ConcR.wgBlock at h
  exact ⟨_, h, .inl ⟨_, _, rfl, by simp⟩⟩
 ·exact ⟨o, (hb b e).trans hc, hs⟩
theorem Far.refl (j : Nat) (w : World) : p.Far j w w := ⟨rfl, rfl, rfl, rfl, fun _ _ _ => rfl, id, fun _ h => h⟩
theorem Far.trans {j : Nat} {a b c : World} (h : p.Far j a b) (h' : p.Far j b c) : p.Far j a c :=
 ⟨h'.tape.trans h.tape, h'.os.trans h.os, h'.output.trans h.output, h'.size.trans h.size, fun b h1 h2 => (h'.block b h1 h2).trans (h.block b h1 h2), h'.live ∘ h.live, fun b k => h'.solid b (h.solid b k)⟩
theorem Far.mono {j j' : Nat} (hj : j ≤ j') {a b : World} (h : p.Far j a b) : p.Far j' a b :=
 ⟨h.tape, h.os, h.output, h.size, fun b h1 h2 => h.block b h1 fun k hk => h2 k (by omega), h.live, h.solid⟩
theorem Far.at (j : Nat) (w : World) (d : Nat) : p.Far j w (w.at d) := ⟨rfl, rfl, rfl, rfl, fun _ _ _ => rfl, id, fun _ h => h⟩
theorem Far.setChan {j k : Nat} (hk : k < j) (hW : p.ch k ≠ p.Wg) (w : World) (cap : Nat) (buf : Array Value) (cl : Bool) (s r : Nat) (tm : Bool) : p.Far j w (w.setChan (p.ch k) cap buf cl s r tm) := by
 refine ⟨rfl, rfl, rfl, by simp [World.setChan], fun b h1 h2 => ?_, fun ⟨st, sm, h⟩ => ⟨st, sm, h.of_block ?_⟩, fun b ⟨o, hb, hs⟩ => ?_⟩
 ·simp [World.setChan, Array.getElem?_setIfInBounds_ne (Ne.symm (h2 k hk))]
 ·simp [World.setChan, Array.getElem?_setIfInBounds_ne hW]
 ·by_cases e : p.ch k = b
  ·refine ⟨.chan cap buf cl s r tm, ?_, .inr ⟨_, _, _, _, _, _, rfl⟩⟩
   subst e
   have hlt : p.ch k < w.heap.size := (Array.getElem?_eq_some_iff.1 hb).1
   simp [World.setChan, hlt]
  ·exact ⟨o, by simp only [World.setChan, Array.getElem?_setIfInBounds_ne e]; exact hb, hs⟩
theorem Far.setWg {j : Nat} {st sm st' sm' : Int} {o : Nat} {v : Value} (h : WgAt p.ty p.Wg w st sm) (h' : WgAt p.ty p.Wg (w.setCell ⟨p.Wg, o, none⟩ v) st' sm') : p.Far j w (w.setCell ⟨p.Wg, o, none⟩ v) := by
 refine ⟨rfl, rfl, rfl, by simp [World.setCell], fun b h1 h2 => ?_, fun _ => ⟨_, _, h'⟩, isSo_aside h' fun b h1 => ?_⟩
 iterate 2
  ·simp [World.setCell, Array.getElem?_modify, Ne.symm h1]
theorem heap_setChan_self' {w : World} {c : Nat} {o : Obj} (h : w.heap[c]? = some o) (cap : Nat) (buf : Array Value) (cl : Bool) (s r : Nat) (tm : Bool) : (w.setChan c cap buf cl s r tm).heap[c]? = some (.chan cap buf cl s r tm) := by
 have hlt : c < w.heap.size := (Array.getElem?_eq_some_iff.1 h).1
 simp [World.setChan, hlt]
theorem heap_setChan_ne' {w : World} {c c' : Nat} (h : c ≠ c') (cap : Nat) (buf : Array Value) (cl : Bool) (s r : Nat) (tm : Bool) : (w.setChan c cap buf cl s r tm).heap[c']? = w.heap[c']? := by
 simp [World.setChan, Array.getElem?_setIfInBounds_ne h]
theorem heap_setCell_ne' {w : World} {a : Addr} {c : Nat} (h : a.block ≠ c) (v : Value) : (w.setCell a v).heap[c]? = w.heap[c]? := by
 simp [World.setCell, Array.getElem?_modify, h]
/-! ### who sleeps, who wakes -/
theorem goes_run {main : Bool} {R : World → World → Prop} {D : World → World → Array Event → Prop} {S : Goroutine → World → Prop} {m : Nat} {g : Goroutine} {w w₁ : World} (hr : R w w₁) (hS : ∀ g w, S g w → g.status = .running) (h : Goes p.P main R D S m g w) : g.status = .running := by
 cases m with
 | zero => exact hS _ _ (h w₁ hr)
 | succ m =>
  rcases h with h | h
  ·exact hS _ _ (h w₁ hr)
  ·exact h.1
theorem ws_run {k : Nat} {d : Ph.WD} {g : Goroutine} (h : p.WS k d g) (hw : p.KL k w) (h2 : 2 ≤ d.stage) (hp : d.park = false) : g.status = .running := by
 cases h with
 | @send s m g _ h =>
  refine goes_run (w₁ := w) hw (fun g w x => ?_) h
  cases hl : (p.vs k).drop s with
  | nil => rw [hl] at x; exact x.1
  | cons v l => rw [hl] at x; exact x.1
 | park _ _ _ => cases hp
 | t0 h => exact goes_run (w₁ := w) hw (fun g w x => x.1) h
 | t0d h => exact goes_run (w₁ := w) hw (fun g w x => x.1) h
 | t1 h => exact goes_run (w₁ := w) hw (fun g w x => x.1) h
 | t2 h => exact goes_run (w₁ := w) hw (fun g w x => x.1) h
 | t3 h => exact goes_run (w₁ := w) hw (fun g w x => x.1) h
 | t4 h => exact goes_run (w₁ := w) hw (fun g w x => x.1) h
 | quit h => simp at h2
theorem ws_status {k : Nat} {d : Ph.WD} {g : Goroutine} (h : p.WS k d g) (hw : p.KL k w) : (d.park = false ∧ (g.status = .running ∨ g.status = .finished)) ∨ (d.park = true ∧ g.status = .blocked ∧ d.stage = 8) := by
 cases hp : d.park with
 | true => cases h with
   | park _ _ _ => exact .inr ⟨rfl, rfl, rfl⟩
   | _ => cases hp
 | false =>
  by_cases h2 : 2 ≤ d.stage
  ·exact .inl ⟨rfl, .inl (ws_run h hw h2 hp)⟩
  ·cases h with
   | quit h => exact .inl ⟨rfl, h.status⟩
   | _ => simp at h2
theorem ws_awake {k : Nat} {d : Ph.WD} {g : Goroutine} (h : p.WS k d g) (hw : p.KL k w) : awake g := by
 rcases ws_status h hw with ⟨_, h | h⟩ | ⟨_, h, _⟩
 ·exact awake_of (.inl h)
 ·exact awake_of (.inr (.inr h))
 ·exact awake_of (.inr (.inl h))
theorem ws_again {k : Nat} {d : Ph.WD} {g : Goroutine} (h : p.WS k d g) (hw : p.KL k w) {Tk : Nat} (hc : p.ChanAt k d Tk w') : g.again w' = g := by
 rcases ws_status h hw with ⟨_, h⟩ | ⟨hp, hb, h8⟩
 ·exact again_running _ h
 ·cases h with
  | @park s g₂ v z l hs hl hn =>
   have e := hc.at_
   simp [Goroutine.again, parked, scase, e]
  | _ => cases hp
theorem ws_woken {k : Nat} {d : Ph.WD} {g : Goroutine} (h : p.WS k d g) (hw : p.KL k w) {Tk : Nat} (hc : p.ChanAt k d Tk w') (a a' : Goroutine) : woken p.P a a' w' g = g := by
 unfold woken
 split
 ·exact ws_again h hw hc
 ·rfl
theorem ws_offers {k : Nat} {d : Ph.WD} {g : Goroutine} (h : p.WS k d g) (hw : p.KL k w) (c : Nat) : offersAt g c false = [] ∧ (offersAt g c true = if d.park = true ∧ p.ch k = c then [0] else []) := by
 rcases ws_status h hw with ⟨hp, h⟩ | ⟨hp, hb, h8⟩
 ·have : g.status ≠ .blocked := by rcases h with h | h <;> rw [h] <;> simp
  exact ⟨offersAt_of_not_blocked this _ _, by rw [offersAt_of_not_blocked this]; simp [hp]⟩
 ·cases h with
  | @park s g₂ v z l hs hl hn => exact ⟨offersAt_parked_send' _ _ _ _ _ _, by rw [offersAt_parked_send]; simp⟩
  | _ => cases hp
theorem Far.bd {p : Ph} {j : Nat} {w w' : World} (h : p.Far j w w') : p.Bd w' = p.Bd w := by unfold Ph.Bd; rw [h.size]
theorem bd_b {p : Ph} {w : World} : p.B ≤ p.Bd w := Nat.le_max_left _ _
theorem bd_le {p : Ph} {w w' : World} (h : w.heap.size ≤ w'.heap.size) : p.Bd w ≤ p.Bd w' := by unfold Ph.Bd; omega
theorem Core.at {p : Ph} (h : p.Core q gs w t j D T d0) (hk : p.Ok) (d : Nat) : p.Core q gs (w.at d) t j D T d0 :=
 ⟨h.jn, h.size, h.old, h.wk, h.mid, h.deaf0, h.deafK, h.above, h.rel, fun k hj => (h.chan k hj).of_heap rfl, fun k hj => hk.kFar k w _ (by have := h.jn; omega) (Far.at _ _ _) (h.box k hj)⟩
theorem get_map_set (f : Goroutine → Goroutine) (a : Nat) (x : Goroutine) (b : Nat) (hb : a ≠ b) : ((gs.map f).setIfInBounds a x)[b]? = (gs[b]?).map f := by
 rw [Array.getElem?_setIfInBounds_ne hb, Array.getElem?_map]
theorem get_map_set_same (f : Goroutine → Goroutine) (a : Nat) (x : Goroutine) (ha : a < gs.size) : ((gs.map f).setIfInBounds a x)[a]? = some x := by
 simp [ha]
theorem RelBy.appMute {a : Addr} {u : Trace} {k r : Nat} (h : RelBy a t k r) (hu : ∀ op ∈ u, op.act.touch? = none) : RelBy a (t ++ u) k r := by
 refine Go.ConcN.RelBy.app h (fun i hi _ hc => ?_)
 obtain ⟨x, hx, _⟩ := hc
 obtain ⟨op, ho, hox⟩ := touch_of hx
 rcases getElem?_append_cases ho with ⟨hlt, _⟩ | ⟨_, hou⟩
 ·omega
 ·rw [hu op hou] at hox; cases hox
theorem Core.stepK (h : p.Core q gs w t j D T d0) (hk : p.Ok) (hL : p.Live w) {k : Nat} (hj : k < j) {g g' : Goroutine} {es : Array Event} {d' : Ph.WD}
  (hs' : p.WS k d' g') (hf : p.Far p.n w w') (hch : ∀ k', k' < j → k' ≠ k → w'.heap[p.ch k']? = w.heap[p.ch k']?) (hc' : p.ChanAt k d' (T k) w')
  (hok : ∀ e ∈ es, OkK p.B p.Wg p.Rd k (.ofEvent e)) (hcn : ∀ i a, t.size ≤ i → touchAt (t ++ MemOp.ofEvents (p.b + k) g.frame.fn g.frame.place es) i = some a → a.loc.isMemory = true → p.Rd k a.loc → (t ++ MemOp.ofEvents (p.b + k) g.frame.fn g.frame.place es).counts i)
  (hdeaf : deafBehind (D k).deaf es = d'.deaf) (hrel : d'.stage ≤ 6 → ∃ r, RelBy (stA p.Wg) (t ++ MemOp.ofEvents (p.b + k) g.frame.fn g.frame.place es) (p.b + k) r) :
  p.Core q ((gs.map (woken p.P g g' w')).setIfInBounds (p.b + k) g') w' (t ++ MemOp.ofEvents (p.b + k) g.frame.fn g.frame.place es) j (upd D k d') T d0 := by
 have hb := hk.b1
 have hjn := h.jn
 have hg0 : ∀ op ∈ MemOp.ofEvents (p.b + k) g.frame.fn g.frame.place es, op.g = p.b + k := fun op hop => by obtain ⟨e, _, rfl⟩ := Go.Conc.mem_ofEvents hop; rfl
 have hcc : ∀ k', k' < j → p.ChanAt k' (upd D k d' k') (T k') w' := fun k' hk' => by
  by_cases e : k' = k
  ·subst e; rw [upd_same]; exact hc'
  ·rw [upd_ne D _ e]; exact (h.chan k' hk').of_heap (hch k' hk' e)
 refine ⟨h.jn, by simp [h.size], fun i g1 hi hlt hg1 => ?_, fun k' hk' => ?_, (by rw [Far.bd hf]; exact h.mid.appK hj (fun k l hl hg => hk.rdNo k l hl (.inr hg)) hg0 (fun op hop => by obtain ⟨e, he, rfl⟩ := Go.Conc.mem_ofEvents hop; exact (hok e he).up bd_b) hcn), (Deaf_other t (by omega) _ hg0).trans h.deaf0, fun k' hk' => ?_, fun i hi => (Deaf_other t (by omega) _ hg0).trans (h.above i hi), fun k' hk' hst => ?_, hcc, fun k' hk' => hk.kFar k' w w' (by omega) hf (h.box k' hk')⟩
 ·rw [get_map_set _ _ _ _ (by omega)] at hg1
  obtain ⟨y, hy, rfl⟩ := Option.map_eq_some_iff.1 hg1
  have hq := h.old i y hi hlt hy
  rw [woken_quitsD hq, Deaf_other t (by omega) _ hg0]
  exact hq
 ·by_cases e : k' = k
  ·subst e
   exact ⟨g', get_map_set_same _ _ _ (by rw [h.size]; omega), by rw [upd_same]; exact hs'⟩
  ·obtain ⟨x, hx, hsx⟩ := h.wk k' hk'
   have hcx := hcc k' hk'
   rw [upd_ne D _ e] at hcx
   refine ⟨x, by rw [get_map_set _ _ _ _ (by omega), hx, Option.map_some, ws_woken hsx ⟨h.box k' hk', hL⟩ hcx], ?_⟩
   rw [upd_ne D _ e]
   exact hsx
 ·by_cases e : k' = k
  ·subst e; rw [Deaf_own, h.deafK k' hk', upd_same]; exact hdeaf
  ·rw [Deaf_other t (by omega) _ hg0, h.deafK k' hk', upd_ne D _ e]
 ·by_cases e : k' = k
  ·subst e; rw [upd_same] at hst; exact hrel hst
  ·rw [upd_ne D _ e] at hst
   obtain ⟨r, hr⟩ := h.rel k' hk' hst
   exact ⟨r, Go.ConcN.RelBy.appOther hr hg0 (by omega)⟩
theorem Core.step0 (h : p.Core q gs w t j D T d0) (hk : p.Ok) (hL : p.Live w) {a a' : Goroutine} {es : Array Event}
  (hch : ∀ k, k < j → w'.heap[p.ch k]? = w.heap[p.ch k]?) (hbx : ∀ k, k < j → p.K k w') (hok : ∀ e ∈ es, OkM p.Shun (p.Bd w') p.Wg p.Rd j (.ofEvent e)) (hgr : w.heap.size ≤ w'.heap.size) :
  p.Core q ((gs.map (woken p.P a a' w')).setIfInBounds 0 a') w' (t ++ MemOp.ofEvents 0 a.frame.fn a.frame.place es) j D T (deafBehind d0 es) := by
 have hb := hk.b1
 have hg0 : ∀ op ∈ MemOp.ofEvents 0 a.frame.fn a.frame.place es, op.g = 0 := fun op hop => by obtain ⟨e, _, rfl⟩ := Go.Conc.mem_ofEvents hop; rfl
 have hcc : ∀ k', k' < j → p.ChanAt k' (D k') (T k') w' := fun k' hk' => (h.chan k' hk').of_heap (hch k' hk')
 refine ⟨h.jn, by simp [h.size], fun i g1 hi hlt hg1 => ?_, fun k' hk' => ?_, (h.mid.up (bd_le hgr)).appM hg0 (fun op hop => by obtain ⟨e, he, rfl⟩ := Go.Conc.mem_ofEvents hop; exact hok e he), by rw [Deaf_own, h.deaf0], fun k' hk' => (Deaf_other t (by omega) _ hg0).trans (h.deafK k' hk'), fun i hi => (Deaf_other t (by omega) _ hg0).trans (h.above i hi), fun k' hk' hst => ?_, hcc, hbx⟩
 ·rw [get_map_set _ _ _ _ (by omega)] at hg1
  obtain ⟨y, hy, rfl⟩ := Option.map_eq_some_iff.1 hg1
  have hq := h.old i y hi hlt hy
  rw [woken_quitsD hq, Deaf_other t (by omega) _ hg0]
  exact hq
 ·obtain ⟨x, hx, hsx⟩ := h.wk k' hk'
  exact ⟨x, by rw [get_map_set _ _ _ _ (by omega), hx, Option.map_some, ws_woken hsx ⟨h.box k' hk', hL⟩ (hcc k' hk')], hsx⟩
 ·obtain ⟨r, hr⟩ := h.rel k' hk' hst
  exact ⟨r, Go.ConcN.RelBy.appOther hr hg0 (by omega)⟩
theorem Core.stepO (h : p.Core q gs w t j D T d0) (hk : p.Ok) (hL : p.Live w) {i m : Nat} (hi : 0 < i) (hib : i < p.b) {g g' : Goroutine} {es : Array Event} (hm : ∀ e ∈ es, Event.mute e = true) (hq : QuitsD p.P m (deafBehind (Deaf t i) es) g') :
  p.Core (upd q i m) ((gs.map (woken p.P g g' w)).setIfInBounds i g') w (t ++ MemOp.ofEvents i g.frame.fn g.frame.place es) j D T d0 := by
 have hb := hk.b1
 have hg0 : ∀ op ∈ MemOp.ofEvents i g.frame.fn g.frame.place es, op.g = i := fun op hop => by obtain ⟨e, _, rfl⟩ := Go.Conc.mem_ofEvents hop; rfl
 have hn : ∀ op ∈ MemOp.ofEvents i g.frame.fn g.frame.place es, op.act.touch? = none ∧ op.act.low (p.Bd w) ∧ op.act ≠ .mark (.release (stA p.Wg)) := fun op hop => by
  obtain ⟨e, he, rfl⟩ := Go.Conc.mem_ofEvents hop
  refine ⟨touch_mute (hm e he), low_mute (hm e he) _, ?_⟩
  have := hm e he
  obtain ⟨loc, x, y⟩ := e
  intro hx
  have hx' := Go.ConcR.loc_of_ofEvent hx
  simp only at hx'
  subst hx'
  simp [Event.mute] at this
 have mid : ∀ (l : List MemOp) {t : Trace}, (∀ op ∈ l, op.act.touch? = none ∧ op.act.low (p.Bd w) ∧ op.act ≠ .mark (.release (stA p.Wg))) → Mid p.Shun (p.Bd w) p.Wg p.b p.Rd j t → Mid p.Shun (p.Bd w) p.Wg p.b p.Rd j (t ++ l.toArray) := by
  intro l
  induction l with
  | nil => intro t _ h; simpa using h
  | cons x l ih =>
   intro t hl h
   have e1 : t ++ (x :: l).toArray = (t ++ #[x]) ++ l.toArray := by simp
   rw [e1]
   obtain ⟨a1, a2, a3⟩ := hl x (by simp)
   exact ih (fun op hop => hl op (by simp [hop])) (h.appMute x a1 a2 a3)
 refine ⟨h.jn, by simp [h.size], fun i' g1 hi' hlt hg1 => ?_, fun k' hk' => ?_, by have := mid (MemOp.ofEvents i g.frame.fn g.frame.place es).toList (fun op hop => hn op (by simpa using hop)) h.mid; simpa using this, (Deaf_other t (by omega) _ hg0).trans h.deaf0, fun k' hk' => (Deaf_other t (by omega) _ hg0).trans (h.deafK k' hk'), fun i' hi' => (Deaf_other t (by omega) _ hg0).trans (h.above i' hi'), fun k' hk' hst => ?_, h.chan, h.box⟩
 ·by_cases e : i' = i
  ·subst e
   rw [get_map_set_same _ _ _ (by rw [h.size]; omega)] at hg1
   obtain rfl := Option.some.inj hg1
   rw [upd_same, Deaf_own]
   exact hq
  ·rw [get_map_set _ _ _ _ (by omega)] at hg1
   obtain ⟨y, hy, rfl⟩ := Option.map_eq_some_iff.1 hg1
   have hqy := h.old i' y hi' hlt hy
   rw [woken_quitsD hqy, upd_ne q _ e, Deaf_other t (by omega) _ hg0]
   exact hqy
 ·obtain ⟨x, hx, hsx⟩ := h.wk k' hk'
  exact ⟨x, by rw [get_map_set _ _ _ _ (by omega), hx, Option.map_some, ws_woken hsx ⟨h.box k' hk', hL⟩ (h.chan k' hk')], hsx⟩
 ·obtain ⟨r, hr⟩ := h.rel k' hk' hst
  exact ⟨r, Go.ConcN.RelBy.appOther hr hg0 (by omega)⟩
end
end Go.Proofs.Ytilpedopnkhppaa.Mx

/- A select of several receives of which one or more can proceed, in a machine of many goroutines: one of those that can is carried out, whichever the tape picks. Conditions: the theorem's own. -/
namespace Go.Proofs.Ytilpedopnkhppaa.Mx
open Go.Conc
def readyOf (w : World) (gs : Array Goroutine) (cases : Array CommCase) : List (Nat × CommCase × List Way) :=
 (cases.zipIdx.toList.map fun (c, k) => (k, c, ways w gs c)).filter fun (_, _, ws) => !ws.isEmpty
theorem mem_readyOf {w : World} {gs : Array Goroutine} {cases : Array CommCase} {k : Nat} {c : CommCase} {ws : List Way} (h : (k, c, ws) ∈ readyOf w gs cases) : cases[k]? = some c ∧ ws = ways w gs c ∧ ws ≠ [] := by
 unfold readyOf at h
 rw [List.mem_filter] at h
 obtain ⟨h1, h2⟩ := h
 simp only [List.mem_map, Prod.mk.injEq, Prod.exists] at h1
 obtain ⟨c', k', hm', rfl, rfl, rfl⟩ := h1
 refine ⟨?_, rfl, by simpa using h2⟩
 have := Array.mem_zipIdx_iff_getElem?.1 (Array.mem_toList_iff.1 hm')
 simpa using this
theorem ready_fold (w : World) (gs : Array Goroutine) (cases : Array CommCase) : ((cases.zipIdx.toList.map fun (c, k) => (k, c, ways w gs c)).filter fun (_, _, ws) => !ws.isEmpty) = readyOf w gs cases := rfl
section
variable {P : Program} {gs : Array Goroutine} {w : World} {sl : Option (Nat × Nat)} {i : Nat} {g g₂ : Goroutine} {es : Array Event} {cases : Array CommCase} {blocking : Bool} {shape : CommShape}
theorem pick_one {ready : List (Nat × CommCase × List Way)} (hne : ready ≠ []) (h1 : ∀ x ∈ ready, x.2.2.length = 1) :
  ∃ (k : Nat) (c : CommCase) (y : Way) (d : Nat), (k, c, [y]) ∈ ready ∧
   (do
    let a ← choose (.select ready.length)
    let (k, c, ws) := ready.getD a (0, default, [])
    let b ← choose (.extern "which waiting goroutine is the partner" ws.length)
    pure (k, c, ws.getD b .closed) : Sem (Nat × CommCase × Way)).run P w = .ok (k, c, y) (w.at d) := by
 have hlen : 0 < ready.length := List.length_pos_iff.2 hne
 have fin : ∀ a, a < ready.length → ∃ (k : Nat) (c : CommCase) (y : Way), (k, c, [y]) ∈ ready ∧ ready.getD a (0, default, []) = (k, c, [y]) := by
  intro a ha
  have hm : ready[a] ∈ ready := List.getElem_mem ha
  obtain ⟨⟨k, c, ws⟩, hx⟩ : ∃ x, ready[a] = x := ⟨_, rfl⟩
  rw [hx] at hm
  have hl := h1 _ hm
  obtain ⟨y, rfl⟩ := List.length_eq_one_iff.1 hl
  exact ⟨k, c, y, hm, by simp [List.getD_eq_getElem?_getD, List.getElem?_eq_getElem ha, hx]⟩
 by_cases hf : (Question.select ready.length).forced = true
 ·obtain ⟨k, c, y, hm, e⟩ := fin 0 hlen
  refine ⟨k, c, y, w.drawn, hm, ?_⟩
  simp only [choose, bind, Sem.bind, Sem.run, hf, if_true, e]
  simp [Question.forced, pure, World.at]
 ·obtain ⟨k, c, y, hm, e⟩ := fin ((Question.select ready.length).cut (w.tape w.drawn (.select ready.length))) (by simp only [Question.cut]; exact Nat.mod_lt _ hlen)
  refine ⟨k, c, y, w.drawn + 1, hm, ?_⟩
  simp only [choose, bind, Sem.bind, Sem.run, hf, if_false, Bool.false_eq_true, e]
  simp [Question.forced, pure, World.at]
theorem crowd_sel_any (hi : gs[i]? = some g) (h : stepG P (i == 0) g w = .comm g₂ cases blocking .select w #[]) (hm : ∀ cc ∈ cases, illMade w cc = false)
  (hne : readyOf w (gs.setIfInBounds i ph) cases ≠ []) (h1 : ∀ cc ∈ cases, (ways w (gs.setIfInBounds i ph) cc).length ≤ 1) :
  ∃ (k : Nat) (cc : CommCase) (y : Way) (d : Nat), cases[k]? = some cc ∧ ways w (gs.setIfInBounds i ph) cc = [y] ∧
   ∀ c z, cc = rcase c z →
    (∀ cap s r tm, y = .closed → w.heap[c]? = some (.chan cap #[] true s r tm) → runT P (crowd gs w sl) i = (.next (crowd (gs.setIfInBounds i (g₂.finishComm P cases .select k z false)) (w.at d) sl), #[{ g := i, fn := g₂.frame.fn, pos := g₂.frame.place, act := .recvClosed c }])) ∧
    (∀ cap buf closed s r tm, y = .buffer → w.heap[c]? = some (.chan cap buf closed s r tm) →
     (partners (gs.setIfInBounds i ph) c true = [] → runT P (crowd gs w sl) i = (.next (crowd (gs.setIfInBounds i (g₂.finishComm P cases .select k (buf.getD 0 undef) true)) ((w.at d).setChan c cap (buf.extract 1 buf.size) closed s (r + 1) tm) sl), #[{ g := i, fn := g₂.frame.fn, pos := g₂.frame.place, act := .recv c r cap }, { g := i, fn := g₂.frame.fn, pos := g₂.frame.place, act := .recvDone c r }])) ∧
     (∀ j gj v zj, j ≠ i → gs[j]? = some (parked gj #[scase c v zj] .send) → partners (gs.setIfInBounds i ph) c true = [(j, 0)] →
      runT P (crowd gs w sl) i = (.next (crowd ((gs.setIfInBounds j (gj.finishComm P #[scase c v zj] .send 0 undef false)).setIfInBounds i (g₂.finishComm P cases .select k (buf.getD 0 undef) true)) ((w.at d).setChan c cap ((buf.extract 1 buf.size).push v) closed (s + 1) (r + 1) tm) sl),
       #[{ g := i, fn := g₂.frame.fn, pos := g₂.frame.place, act := .recv c r cap }, { g := i, fn := g₂.frame.fn, pos := g₂.frame.place, act := .recvDone c r }, { g := j, fn := gj.frame.fn, pos := gj.frame.place, act := .send c s }, { g := j, fn := gj.frame.fn, pos := gj.frame.place, act := .sendDone c s }]))) := by
 obtain ⟨k, cc, y, d, hmem, hpick⟩ := pick_one (P := P) (w := w) hne (fun x hx => by
  obtain ⟨k, c, ws⟩ := x
  obtain ⟨hk, rfl, hn⟩ := mem_readyOf hx
  have := h1 c (Array.mem_of_getElem? hk)
  have : 0 < (ways w (gs.setIfInBounds i ph) c).length := List.length_pos_iff.2 hn
  simp only
  omega)
 obtain ⟨hk, hw, _⟩ := mem_readyOf hmem
 have hill : (cases.any fun c => illMade w c) = false := any_ill hm
 have hem : (readyOf w (gs.setIfInBounds i ph) cases).isEmpty = false := by cases hr : readyOf w (gs.setIfInBounds i ph) cases with
  | nil => exact absurd hr hne
  | cons _ _ => rfl
 have hev : MemOp.ofEvents i g.frame.fn g.frame.place #[] = #[] := rfl
 refine ⟨k, cc, y, d, hk, hw.symm, fun c z e => ⟨fun cap s r tm ey hc => ?_, fun cap buf closed s r tm ey hc => ⟨fun hp => ?_, fun j gj v zj hji hj hp => ?_⟩⟩⟩
 ·subst e ey
  rw [runT_crowd_comm hi h, hev]
  unfold communicate
  simp only [ready_fold, hem, hpick, Bool.false_eq_true, if_false]
  rw [if_neg (by rw [Bool.not_eq_true]; exact any_ill hm)]
  simp [rcase, crowd, World.at, hc]
 ·subst e ey
  rw [runT_crowd_comm hi h, hev]
  unfold communicate
  simp only [ready_fold, hem, hpick, Bool.false_eq_true, if_false]
  rw [if_neg (by rw [Bool.not_eq_true]; exact any_ill hm)]
  simp [rcase, crowd, World.at, hc, hp, World.setChan]
 ·subst e ey
  have hj' := stand_get (i := i) hji hj
  have hfp := finishPartner_at P (gs.setIfInBounds i ph) hj' (cs := #[scase c v zj]) (sh := .send) rfl 0 undef
  have hgd : (gs.setIfInBounds i ph).getD j default = parked gj #[scase c v zj] .send := by rw [Array.getD_eq_getD_getElem?, hj']; rfl
  have hov : offeredValue (gs.setIfInBounds i ph) j 0 = v := by simp [offeredValue, hj', parked, scase]
  rw [runT_crowd_comm hi h, hev]
  unfold communicate
  simp only [ready_fold, hem, hpick, Bool.false_eq_true, if_false]
  rw [if_neg (by rw [Bool.not_eq_true]; exact any_ill hm)]
  simp [rcase, crowd, World.at, hc, hp, World.setChan, choose, Sem.run, Question.forced, hfp, hgd, hov, set_stand2, finishComm_parked, scase, parked]
  try rfl
end
end Go.Proofs.Ytilpedopnkhppaa.Mx

