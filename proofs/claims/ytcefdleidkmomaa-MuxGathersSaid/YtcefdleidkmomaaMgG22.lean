/- awake's group, carried out by the machine: to behind Wait's acquire, where the senders only leave. Conditions: each theorem's own. -/
import Derived.Test.YtcefdleidkmomaaMgG21
import Derived.Test.YtcefdleidkmomaaMgG14
import Derived.Test.YtcefdleidkmomaaRows
import Derived.LoopTactic
import Derived.Outline
import Derived.WalkKit
import Derived.ProofKit
import Derived.Deep.LoopGhost
import Derived.Deep.QuietTactic
import Derived.Deep.CutBlock
import Derived.WalkLawsBesides
import Derived.BigQuiet
import Derived.KernelRfl
set_option linter.unusedVariables false
set_option linter.unusedSimpArgs false
namespace Go.Proofs.Ytcefdleidkmomaa.Mx
open Go.Conc Go.Conc.Lib Br Go.RowKit Hp Rw Ro
open Go.ConcR (WgAt wgBlock)
/-- The phase of awake's group. -/
noncomputable abbrev phA (H : Nat) (vM W : World) (bA : Frame) (csA : List Frame) : Ph := phG (gA H) (sh0 W) 0 valsA (H + 4) 4 vM bA [] csA
set_option maxRecDepth 100000 in
theorem groupRuns {H : Nat} {vM W : World} (hM : WA H vM) {bA : Frame} (hbA : bA.kind = .normal) {csA : List Frame} {t : Array Value} (ht : FA H t) {gs : Array Goroutine} {w : World} {sl : Option (Nat × Nat)} {tr : Trace} {q : Nat → Nat}
    (hl : Like ((gA H).Sd (sh0 W) 0) w vM) (hwg : WgAt lnk.tWg (H + 3) w 0 0) (h0 : gs[0]? = some (G (bA.at ⟨t, []⟩ [.code at2]) csA)) (hsz : gs.size = 1) (hL : Leavers Try.prog tr gs q) (hP : Past (fun _ => False) (H + 3) tr) :
    ∃ N m' t', runNT Try.prog N (crowd gs w sl) tr = (.next m', t') ∧ Done (phA H vM W bA csA) m' t' := by
  have hk : (phA H vM W bA csA).Ok := okG noX (fun _ h => h.elim) (Nat.le_refl _) (show 3 < 2147483648 by decide) (show H + 5 + 5 * 3 ≤ H + 20 by omega) (show H + 3 < H + 5 by omega) (show H + 3 < H + 20 by omega)
  refine phase (p := phA H vM W bA csA) (M := rem 3 (lenv (gA H) (AnchG (gA H) (sh0 W) 0 valsA (H + 4) 4 vM bA [] csA) (PostG (gA H) (sh0 W) 0 valsA (H + 4) 4 vM bA [] csA)) Ph.T00) hk (show 1 ≤ 3 by decide) (B0 := H + 3) ?_ (Nat.le_refl _) hsz h0 hL hP hwg ?_
  · show H + 3 ≤ max (H + 20) _
    omega
  · exact groupStart hk hM hbA (fun t al g w h1 h2 => ⟨t, al, h1, h2⟩) ht hl ⟨_, _, hwg⟩ rfl
/-- What is dead behind it. -/
@[reducible] def DA (H : Nat) (W : World) : Sh := (gA H).Sd (sh0 W) 3
theorem shunA (H : Nat) (W : World) : ShunIn (DA H W) (fun l => False ∨ OfG (H + 3) l) := fun l h => by
  rcases h with h | ⟨a, ha, hb⟩
  · exact h.elim
  · exact ⟨a, ha, .inr (.inl hb)⟩
/-- What is known behind it. -/
structure Behind (H : Nat) (vM W : World) (al : Value) (w v : World) : Prop where
  like : Like (DA H W) w v
  row : Rw.Row iT v (H + 5) al [(0, 0, 1), (0, 1, 2), (2, 0, 3)]
  size : H + 20 ≤ v.heap.size
  same : ∀ b, b < H + 3 → v.heap[b]? = vM.heap[b]?
/-- The machine stands so that goroutine 0 slips back to atOnce, and the others only leave. -/
theorem groupDone {H : Nat} {vM W : World} {bA : Frame} {csA : List Frame} {m' : Machine} {t' : Trace} (h : Done (phA H vM W bA csA) m' t') :
    ∃ gs w sl a q t al v, m' = crowd gs w sl ∧ gs[0]? = some a ∧ Leavers Try.prog t' gs q ∧ Past (fun l => False ∨ OfG (H + 3) l) w.heap.size t' ∧ Behind H vM W al w v ∧ FT (gA H) al (H + 4) 4 0 4 t ∧
      Slips a (G (bA.at (Act.put ⟨t, []⟩ (((tk17 (sndOf spa))[0]?).bind (·.dst)) (.tuple #[])) (.inRegion (tk17 (sndOf spa)) [] :: .code (sndOf (sndOf spa)) :: [])) csA) := by
  obtain ⟨gs, w, sl, a, q, rfl, h0, ⟨t, al, ht, ⟨v, h1, h2, h3, h4⟩, hs⟩, hL, hP⟩ := h
  refine ⟨gs, w, sl, a, q, t, al, v, rfl, h0, hL, ?_, ⟨h1, h2, h3, fun b hb => h4 b (show b < H + 5 by omega) (by omega)⟩, ht, hs⟩
  have e : (phA H vM W bA csA).Bd w = w.heap.size := by
    show max (H + 20) w.heap.size = w.heap.size
    have h3' : H + 5 + 5 * 3 ≤ v.heap.size := h3
    rw [h1.size] at h3'
    omega
  rw [e] at hP
  exact hP
end Go.Proofs.Ytcefdleidkmomaa.Mx

/- Gather of any lists: a quiet step beside those who leave; the group carried out by the machine. Conditions: each theorem's own. -/
namespace Go.Proofs.Ytcefdleidkmomaa.Mx
open Go.Conc Go.Conc.Lib Br Go.RowKit Hp Rw Ro So
open Go.ConcR (WgAt wgBlock)
open Go.ConcN (sumTo upd sumTo_upd upd_ne upd_same)
theorem quiet_one {P : Program} {Shun : Loc → Prop} {B : Nat} {g g' : Goroutine} {w : World} {K : World → Prop} (hrun : g.status = .running) (hgo : ∀ d, ∃ w', stepG P true g (w.at d) = .go g' w' #[] ∧ K w')
    (gs : Array Goroutine) (w₁ : World) (sl : Option (Nat × Nat)) (t : Trace) (q : Nat → Nat) (hA : AtR w w₁) (h0 : gs[0]? = some g) (hL : Leavers P t gs q) (hP : Past Shun B t)
    (ihM : ∀ (gs' : Array Goroutine) (w₂ : World) (sl : Option (Nat × Nat)) (t : Trace) (q' : Nat → Nat), AtR w w₂ → sumTo gs'.size q' < sumTo gs.size q → gs'[0]? = some g → Leavers P t gs' q' → Past Shun B t →
      ∃ N gs₂ w' sl' t' q', runNT P N (crowd gs' w₂ sl) t = (.next (crowd gs₂ w' sl'), t') ∧ gs₂.size = gs'.size ∧ gs₂[0]? = some g' ∧ Leavers P t' gs₂ q' ∧ Past Shun B t' ∧ K w') :
    ∃ N gs' w' sl' t' q', runNT P N (crowd gs w₁ sl) t = (.next (crowd gs' w' sl'), t') ∧ gs'.size = gs.size ∧ gs'[0]? = some g' ∧ Leavers P t' gs' q' ∧ Past Shun B t' ∧ K w' := by
  have haw : ∀ g ∈ gs, awake g := by
    intro g1 hg
    obtain ⟨i, hi, rfl⟩ := Array.mem_iff_getElem.1 hg
    rcases Nat.eq_zero_or_pos i with rfl | hpos
    · have : gs[0] = g := by simpa [Array.getElem?_eq_getElem hi] using h0
      rw [this]; exact awake_of (.inl hrun)
    · exact awake_of ((hL.old i _ hpos (Array.getElem?_eq_getElem hi)).status.elim .inl fun x => .inr (.inr x))
  obtain ⟨i, g1, d, sl', hi, hg, hst⟩ := crowd_pick (P := P) (w := w₁) (sl := sl) haw ⟨0, _, h0, hrun⟩
  obtain ⟨d₀, rfl⟩ := hA
  have hlt0 : 0 < gs.size := (Array.getElem?_eq_some_iff.1 h0).1
  rcases Nat.eq_zero_or_pos i with rfl | hpos
  · obtain rfl : g1 = g := by rw [h0] at hi; exact (Option.some.inj hi).symm
    obtain ⟨w', e, hK⟩ := hgo d
    have hrunT := runT_crowd_go (P := P) (sl := sl') (i := 0) hi (show stepG P (0 == 0) _ ((w.at d₀).at d) = _ from e)
    refine ⟨1, (gs.map (woken P g1 g' w')).setIfInBounds 0 g', w', sl', t, q, ?_, by simp, by simp [hlt0], ⟨fun j y hj hy => ?_, fun j hj => hL.above j (by simpa using hj)⟩, hP, hK⟩
    · simp only [runNT, hst.trans hrunT]
      simp [MemOp.ofEvents]
    · have hne : 0 ≠ j := by omega
      rw [Array.getElem?_setIfInBounds_ne hne, Array.getElem?_map] at hy
      obtain ⟨z, hz, rfl⟩ := Option.map_eq_some_iff.1 hy
      have hq := hL.old j z hj hz
      rw [woken_quitsD hq]
      exact hq
  · have hq := hL.old i g1 hpos hi
    have hi0 : (i == 0) = false := by simp; omega
    have hlt : i < gs.size := (Array.getElem?_eq_some_iff.1 hi).1
    cases hqi : q i with
    | zero => rw [hqi] at hq; rw [hq.1] at hg; cases hg
    | succ k =>
      rw [hqi] at hq
      rcases hq with ⟨hf, _⟩ | ⟨_, g2, es, hm, hstp, hq'⟩
      · rw [hf] at hg; cases hg
      have hrunT := runT_crowd_go (P := P) (sl := sl') (i := i) hi (by rw [hi0]; exact hstp ((w.at d₀).at d))
      have hsz : ((gs.map (woken P g1 g2 ((w.at d₀).at d))).setIfInBounds i g2).size = gs.size := by simp
      have hsum : sumTo gs.size (upd q i k) + (k + 1) = sumTo gs.size q + k := by
        have := sumTo_upd q k id hlt
        simpa [hqi] using this
      obtain ⟨N, gs₂, w', sl₂, t', q', hr, hs, h0', hL', hP', hK⟩ := ihM _ ((w.at d₀).at d) sl' _ (upd q i k) ⟨d, rfl⟩ (by rw [hsz]; omega) (by
        have hne : i ≠ 0 := by omega
        rw [Array.getElem?_setIfInBounds_ne hne, Array.getElem?_map, h0]
        simp [woken_run hrun]) ⟨fun j y hj hy => by
          by_cases hji : i = j
          · subst hji
            rw [Array.getElem?_setIfInBounds_self_of_lt (by simpa using hlt)] at hy
            obtain rfl := Option.some.inj hy
            rw [upd_same, Deaf_own]
            exact hq'
          · rw [Array.getElem?_setIfInBounds_ne hji, Array.getElem?_map] at hy
            obtain ⟨z, hz, rfl⟩ := Option.map_eq_some_iff.1 hy
            have hqj := hL.old j z hj hz
            rw [woken_quitsD hqj, upd_ne q k (Ne.symm hji), Deaf_other t hji _ (fun op hop => by obtain ⟨e, _, rfl⟩ := Go.Conc.mem_ofEvents hop; rfl)]
            exact hqj, fun j hj => by
          rw [Deaf_other t (g' := i) (by simp at hj; omega) _ (fun op hop => by obtain ⟨e, _, rfl⟩ := Go.Conc.mem_ofEvents hop; rfl)]
          exact hL.above j (by simpa using hj)⟩ (hP.mute (by omega) hm)
      exact ⟨N + 1, gs₂, w', sl₂, t', q', by simp only [runNT, hst.trans hrunT]; exact hr, hs.trans hsz, h0', hL', hP', hK⟩
/-- One step of goroutine 0 that says nothing, beside goroutines that only leave. -/
theorem quiet_step {P : Program} {Shun : Loc → Prop} {B : Nat} {g g' : Goroutine} {w : World} {K : World → Prop} (hrun : g.status = .running) (hgo : ∀ d, ∃ w', stepG P true g (w.at d) = .go g' w' #[] ∧ K w') :
    ∀ (M : Nat) (gs : Array Goroutine) (w₁ : World) (sl : Option (Nat × Nat)) (t : Trace) (q : Nat → Nat), AtR w w₁ → sumTo gs.size q ≤ M → gs[0]? = some g → Leavers P t gs q → Past Shun B t →
    ∃ N gs' w' sl' t' q', runNT P N (crowd gs w₁ sl) t = (.next (crowd gs' w' sl'), t') ∧ gs'.size = gs.size ∧ gs'[0]? = some g' ∧ Leavers P t' gs' q' ∧ Past Shun B t' ∧ K w' := by
  intro M
  induction M with
  | zero =>
    intro gs w₁ sl t q hA hM h0 hL hP
    exact quiet_one hrun hgo gs w₁ sl t q hA h0 hL hP (fun gs' w₂ sl' t' q' _ hM' => by omega)
  | succ M ih =>
    intro gs w₁ sl t q hA hM h0 hL hP
    exact quiet_one hrun hgo gs w₁ sl t q hA h0 hL hP (fun gs' w₂ sl' t' q' hA' hM' h0' hL' hP' => ih gs' w₂ sl' t' q' hA' (by omega) h0' hL' hP')
section
variable {Z b n N lb lo cl : Nat} {Shun : Loc → Prop} {X : Sh} {ad : Nat → Option Addr} {len cp : Nat → Nat} {vals : Nat → List Int} {v vM w W : World} {al : Value}
/-- The phase. -/
noncomputable abbrev phN (Z b n N : Nat) (Shun : Loc → Prop) (X : Sh) (ad : Nat → Option Addr) (len cp : Nat → Nat) (vals : Nat → List Int) (vM : World) (bA : Frame) (csA : List Frame) : Ph := phG (gN Z b n Shun ad len cp) X 0 vals (Z + 1) N vM bA [] csA
set_option maxRecDepth 100000 in
theorem groupRunsN (hX : ShunIn X Shun) (hXM : ∀ b, X b → b < Z) (hb : 1 ≤ b) (hM : LL Z n lb lo ad len cp vals vM) (hs : vM.heap.size = Z + 1) (hcl : n ≤ cl) (hN : N = n + n % 2) {bA : Frame} (hbA : bA.kind = .normal) {csA : List Frame} {t : Array Value} (ht : FN Z n lb lo cl t) {gs : Array Goroutine} {sl : Option (Nat × Nat)} {tr : Trace} {q : Nat → Nat}
    (hl : Like ((gN Z b n Shun ad len cp).Sd X 0) w vM) (hwg : WgAt lnk.tWg Z w 0 0) (h0 : gs[0]? = some (G (bA.at ⟨t, []⟩ [.code at2]) csA)) (hsz : gs.size = b) (hL : Leavers Try.prog tr gs q) (hP : Past Shun Z tr) :
    ∃ N' m' t', runNT Try.prog N' (crowd gs w sl) tr = (.next m', t') ∧ Done (phN Z b n N Shun X ad len cp vals vM bA csA) m' t' := by
  have hk : (phN Z b n N Shun X ad len cp vals vM bA csA).Ok := okG (s := gN Z b n Shun ad len cp) hX (fun b' h => show b' < Z + 2 by have := hXM b' h; omega) hb (show n < 2147483648 by have := hM.n5; omega) (show Z + 2 + 5 * n ≤ Z + 2 + 5 * n by omega) (show Z < Z + 2 by omega) (show Z < Z + 2 + 5 * n by omega)
  refine phase (p := phN Z b n N Shun X ad len cp vals vM bA csA) (M := rem n (lenv (gN Z b n Shun ad len cp) (AnchG (gN Z b n Shun ad len cp) X 0 vals (Z + 1) N vM bA [] csA) (PostG (gN Z b n Shun ad len cp) X 0 vals (Z + 1) N vM bA [] csA)) Ph.T00) hk hM.n1 (B0 := Z) ?_ (Nat.le_refl _) hsz h0 hL hP hwg ?_
  · show Z ≤ max (Z + 2 + 5 * n) _
    omega
  · exact groupStartN hX hXM hk hM hs hcl hN hbA (fun t al g w h1 h2 => ⟨t, al, h1, h2⟩) ht hl ⟨_, _, hwg⟩ rfl
/-- What is dead behind it. -/
@[reducible] def DN (Z n : Nat) (X : Sh) : Sh := ⟨fun c => X c ∨ c = Z ∨ ∃ k, k < n ∧ Z + 2 + 5 * k ≤ c ∧ c < Z + 2 + 5 * k + 5, X.os, X.out⟩
theorem shunN (hX : ShunIn X Shun) : ShunIn (DN Z n X) (fun l => Shun l ∨ OfG Z l) := fun l h => by
  rcases h with h | ⟨a, ha, hb⟩
  · obtain ⟨a, ha, hb⟩ := hX l h
    exact ⟨a, ha, .inl hb⟩
  · exact ⟨a, ha, .inr (.inl hb)⟩
/-- All that comes, in its order. -/
def allN (n : Nat) (vals : Nat → List Int) : List It := (List.range (n + n % 2)).flatMap fun k => itemsOf (if k < n then (k : Int) else 0) (vals k) (vals k).length
theorem allN_eq : allOf (gN Z b n Shun ad len cp) 0 vals (n + n % 2) = allN n vals := by
  unfold allOf allN
  congr 1
  funext k
  unfold wfN
  rw [show (gN Z b n Shun ad len cp).n = n from rfl]
  by_cases h : k < n <;> simp [h]
/-- What is known behind it. -/
structure BehindN (Z n : Nat) (X : Sh) (vals : Nat → List Int) (vM : World) (al : Value) (w v : World) : Prop where
  like : Like (DN Z n X) w v
  row : Rw.Row iT v (Z + 2) al (allN n vals)
  size : Z + 2 + 5 * n ≤ v.heap.size
  same : ∀ b, b < Z → v.heap[b]? = vM.heap[b]?
/-- The machine stands so that goroutine 0 slips back to atOnce, and the others only leave. -/
theorem groupDoneN (hN : N = n + n % 2) {bA : Frame} {csA : List Frame} {m' : Machine} {t' : Trace} (h : Done (phN Z b n N Shun X ad len cp vals vM bA csA) m' t') :
    ∃ gs w sl a q t al v, m' = crowd gs w sl ∧ gs[0]? = some a ∧ Leavers Try.prog t' gs q ∧ Past (fun l => Shun l ∨ OfG Z l) w.heap.size t' ∧ BehindN Z n X vals vM al w v ∧ FT (gN Z b n Shun ad len cp) al (Z + 1) N 0 N t ∧
      Slips a (G (bA.at (Act.put ⟨t, []⟩ (((tk17 (sndOf spa))[0]?).bind (·.dst)) (.tuple #[])) (.inRegion (tk17 (sndOf spa)) [] :: .code (sndOf (sndOf spa)) :: [])) csA) := by
  obtain ⟨gs, w, sl, a, q, rfl, h0, ⟨t, al, ht, ⟨v, h1, h2, h3, h4⟩, hs⟩, hL, hP⟩ := h
  have h2' : Rw.Row iT v (Z + 2) al (allN n vals) := by
    rw [← allN_eq (Z := Z) (b := b) (Shun := Shun) (ad := ad) (len := len) (cp := cp), ← hN]
    exact h2
  refine ⟨gs, w, sl, a, q, t, al, v, rfl, h0, hL, ?_, ⟨h1, h2', h3, fun b hb => h4 b (show b < Z + 2 by omega) (by omega)⟩, ht, hs⟩
  have e : (phN Z b n N Shun X ad len cp vals vM bA csA).Bd w = w.heap.size := by
    show max (Z + 2 + 5 * n) w.heap.size = w.heap.size
    have h3' : Z + 2 + 5 * n ≤ v.heap.size := h3
    rw [h1.size] at h3'
    omega
  rw [e] at hP
  exact hP
end
end Go.Proofs.Ytcefdleidkmomaa.Mx

/- Behind the group: back through atOnce and Gather to awake, beside the senders that only leave. Conditions: each theorem's own. -/
namespace Go.Proofs.Ytcefdleidkmomaa.Mx
open Go.Conc Go.Conc.Lib Br Go.RowKit Hp Rw Ro So
/-- Pieces of Gather and of awake. -/
noncomputable def gaB : Code := Try.f9.body.getD .skip
noncomputable def gaL : Code := ((Try.f9.body.bind (findBody 0)).getD .skip)
def gaE : Code → Code
  | .seq _ (.seq _ (.seq _ r)) => r
  | c => c
def ga5 : Code → Array Oper
  | .seq _ (.seq (.block _ (.region _ ops _)) _) => ops
  | _ => #[]
def ga4 : Code → Code
  | .seq _ (.seq _ r) => r
  | c => c
noncomputable def awB : Code := Try.f8.body.getD .skip
def aw1 : Code → Array Oper
  | .seq _ (.seq (.region _ ops _) _) => ops
  | _ => #[]
def aw2 : Code → Code
  | .seq _ (.seq _ r) => r
  | c => c
/-- Gather's slots at its call of atOnce. -/
inductive FG (H : Nat) : Array Value → Prop
  | mk (u1 u5 u6 u7 u8 u9 u10 u11 u12 u13 u14 u15 u16 u17 u18 u19 u20 u21 u22 : Value) : FG H #[.slice (some ⟨H + 2, 0, none⟩) 3 3, u1, nilS, nilS, .int .i64 0, u5, u6, u7, u8, u9, u10, u11, u12, u13, u14, u15, u16, u17, u18, u19, u20, u21, u22]
/-- Behind the call; at the loop's head again; where its condition is told; at the end. -/
inductive FG2 (H : Nat) (al : Value) : Array Value → Prop
  | mk (u1 u2 u5 u6 u7 u8 u9 u10 u11 u12 u13 u14 u15 u16 u17 u18 u19 u20 u21 u22 : Value) : FG2 H al #[.slice (some ⟨H + 2, 0, none⟩) 3 3, u1, u2, al, .int .i64 0, u5, u6, u7, u8, u9, u10, u11, u12, u13, u14, u15, u16, u17, u18, u19, u20, u21, u22]
/-- See FG2. -/
inductive FG3 (H : Nat) (al : Value) : Array Value → Prop
  | mk (u1 u2 u5 u6 u7 u8 u9 u10 u11 u12 u13 u14 u15 u16 u17 u18 u19 u20 u21 u22 : Value) : FG3 H al #[.slice (some ⟨H + 2, 0, none⟩) 3 3, u1, u2, al, .int .i64 1000, u5, u6, u7, u8, u9, u10, u11, u12, u13, u14, u15, u16, u17, u18, u19, u20, u21, u22]
/-- See FG2. -/
inductive FG4 (H : Nat) (al : Value) : Array Value → Prop
  | mk (u1 u2 u5 u6 u7 u9 u10 u11 u12 u13 u14 u15 u16 u17 u18 u19 u20 u21 u22 : Value) : FG4 H al #[.slice (some ⟨H + 2, 0, none⟩) 3 3, u1, u2, al, .int .i64 1000, u5, u6, u7, .bool false, u9, u10, u11, u12, u13, u14, u15, u16, u17, u18, u19, u20, u21, u22]
theorem Behind.heap {H : Nat} {vM W w v w' v' : World} {al : Value} (h : Behind H vM W al w v) (hl : Like (DA H W) w' v') (e : v'.heap = v.heap) : Behind H vM W al w' v' :=
  ⟨hl, row_heap h.row e, by rw [e]; exact h.size, fun b hb => by rw [e]; exact h.same b hb⟩
section
variable {H : Nat} {vM W : World} {al : Value} {St : Goroutine → World → Prop} {m : Nat}
set_option maxRecDepth 100000 in
set_option maxHeartbeats 4000000 in
/-- From Gather's frame behind the call on. -/
theorem gatherBack {t : Array Value} (ht : FG H t) {cb : Frame} {ac : Act} {opsc : Array Oper} {ic : Nat} {restc : List Nat} {kc : List Item} {cs : List Frame}
    (hnext : ∀ w v, Behind H vM W al w v → SG (DA H W) St m (G (cb.at (ac.put ((opsc[ic]?).bind (·.dst)) al) (.inRegion opsc restc :: kc)) cs) w)
    {w v : World} (hb : Behind H vM W al w v) {cL cB : Code} (hcL : gaL = cL) (hcB : gaB = cB) :
    SG (DA H W) St (m + 60) (G ((base 9).at (Act.put ⟨t, []⟩ ((((ga5 cL)[10]?).bind (·.dst))) al) (.inRegion (ga5 cL) [11] :: .inBlock 1 :: .code (ga4 cL) :: .inLoop cL :: .inBlock 0 :: .code (gaE cB) :: [])) (cb.at ac (.inRegion opsc (ic :: restc) :: kc) :: cs)) w := by
  obtain ⟨u1, u5, u6, u7, u8, u9, u10, u11, u12, u13, u14, u15, u16, u17, u18, u19, u20, u21, u22⟩ := ht
  conv at hcL => lhs; whnf
  subst hcL
  conv at hcB => lhs; whnf
  subst hcB
  refine SG.le (m := 3 + 2 + (4 + 2 + (2 + 2 + (m + 1 + 1) + 1 + 1 + 1) + 1 + 1 + 1) + 1 + 1 + 1) ?_ (by omega)
  refine SG.pure (y := al) rfl rfl rfl (fun w => rfl) ?_
  refine SG.regEnd ?_
  refine SG.inBlock ?_
  show SG (DA H W) St _ (G ((base 9).at ⟨#[.slice (some ⟨H + 2, 0, none⟩) 3 3, u1, nilS, al, .int .i64 0, u5, u6, u7, u8, u9, u10, u11, u12, u13, u14, u15, u16, u17, u18, u19, u20, al, u22], []⟩ _) _) w
  refine SG.region (m := 4 + 2 + (2 + 2 + (m + 1 + 1) + 1 + 1 + 1) + 1 + 1 + 1) (R := fun t v' => FG3 H al t ∧ v'.heap = v.heap)
    rfl (by kernel_rfl) rfl hb.like (fun v1 h1 => ?_) (fun a4 w4 v4 hd hl4 hR4 => ?_)
  · have hh := Lib.hid (like_same hb.like h1)
    clear hb hnext
    go_wp2
    exact ⟨.mk .., hh.out⟩
  obtain ⟨h3, e4⟩ := hR4
  have hb4 : Behind H vM W al w4 v4 := hb.heap hl4 e4
  clear hl4 e4 hb
  obtain ⟨t4, ds4⟩ := a4
  obtain rfl : ds4 = [] := hd
  dsimp only at h3
  obtain ⟨u1, u2, u5, u6, u7, u8, u9, u10, u11, u12, u13, u14, u15, u16, u17, u18, u19, u20, u21, u22⟩ := h3
  refine SG.inLoop ?_
  refine SG.seq ?_
  refine SG.seq ?_
  refine SG.region (m := 2 + 2 + (m + 1 + 1) + 1 + 1 + 1) (R := fun t v' => FG4 H al t ∧ v'.heap = v4.heap)
    rfl (by kernel_rfl) rfl hb4.like (fun v1 h1 => ?_) (fun a5 w5 v5 hd hl5 hR5 => ?_)
  · have hh := Lib.hid (like_same hb4.like h1)
    clear hb4 hnext
    go_wp2
    exact ⟨.mk .., hh.out⟩
  obtain ⟨h3, e5⟩ := hR5
  have hb5 : Behind H vM W al w5 v5 := hb4.heap hl5 e5
  clear hl5 e5 hb4
  obtain ⟨t5, ds5⟩ := a5
  obtain rfl : ds5 = [] := hd
  dsimp only at h3
  obtain ⟨u1, u2, u5, u6, u7, u9, u10, u11, u12, u13, u14, u15, u16, u17, u18, u19, u20, u21, u22⟩ := h3
  refine SG.condF rfl ?_
  refine SG.exit rfl ?_
  refine SG.seq ?_
  refine SG.region (m := m + 1 + 1) (R := fun t v' => t.getD 2 undef = al ∧ v'.heap = v5.heap)
    rfl (by kernel_rfl) rfl hb5.like (fun v1 h1 => ?_) (fun a6 w6 v6 hd hl6 hR6 => ?_)
  · have hh := Lib.hid (like_same hb5.like h1)
    clear hb5 hnext
    go_wp2
    exact hh.out
  obtain ⟨h3, e6⟩ := hR6
  have hb6 : Behind H vM W al w6 v6 := hb5.heap hl6 e6
  refine SG.ret ?_
  refine SG.leave1 (t := 2) rfl hd rfl rfl ?_
  rw [h3]
  exact hnext _ _ hb6
set_option maxRecDepth 100000 in
set_option maxHeartbeats 4000000 in
/-- From atOnce's frame behind Wait on: al is answered. -/
theorem atOnceBack {t : Array Value} (ht : FT (gA H) al (H + 4) 4 0 4 t) {cb : Frame} {ac : Act} {opsc : Array Oper} {ic : Nat} {restc : List Nat} {kc : List Item} {cs : List Frame}
    (hnext : ∀ w v, Behind H vM W al w v → SG (DA H W) St m (G (cb.at (ac.put ((opsc[ic]?).bind (·.dst)) al) (.inRegion opsc restc :: kc)) cs) w)
    {w v : World} (hb : Behind H vM W al w v) {cS : Code} (hcS : sndOf (sndOf spa) = cS) :
    SG (DA H W) St (m + 20) (G ((base 26).at (Act.put ⟨t, []⟩ (((tk17 (sndOf spa))[0]?).bind (·.dst)) (.tuple #[])) (.inRegion (tk17 (sndOf spa)) [] :: .code cS :: [])) (cb.at ac (.inRegion opsc (ic :: restc) :: kc) :: cs)) w := by
  obtain ⟨u2, u3, u4, u5, u6, u9, u10, u11, u13, u14, u15, u16, u17, u18, u19, u20, u21, u22, u23, u24, u25, u26, u27, u28, u29, u30, u31, u32, u33, u34, u35, u36, u37, u38, u39, u40, u41, u42, u43, u44, u45, u46, u47, u48, u49, u50, u51, u52, u53, u54, u55, u56, u57, u58, u59, u60, u61, u62, u63, u64, u65, u66, u67, u68, u69, u70, u71, u72, u73, u74, u75, u76, u77, u78⟩ := ht
  conv at hcS => lhs; whnf
  subst hcS
  refine SG.le (m := 2 + 2 + (m + 1 + 1) + 1 + 1) ?_ (by omega)
  refine SG.regEnd ?_
  refine SG.seq ?_
  show SG (DA H W) St _ (G ((base 26).at ⟨#[al, .int .i64 0, u2, u3, u4, u5, u6, .pointer (some (gA H).wga), .slice (some ⟨H + 4, 0, none⟩) 4 4, u9, u10, u11, .int .i64 ((4 : Nat) : Int), u13, u14, u15, u16, u17, u18, u19, u20, u21, u22, u23, u24, u25, u26, u27, u28, u29, u30, u31, u32, u33, u34, u35, u36, u37, u38, u39, u40, u41, u42, u43, u44, u45, u46, u47, u48, u49, u50, u51, u52, u53, u54, u55, u56, u57, u58, u59, u60, u61, u62, u63, u64, u65, u66, u67, u68, u69, u70, u71, u72, u73, u74, u75, u76, .tuple #[], u78], []⟩ _) _) w
  refine SG.region (m := m + 1 + 1) (R := fun t v' => t.getD 6 undef = al ∧ v'.heap = v.heap)
    rfl (by kernel_rfl) rfl hb.like (fun v1 h1 => ?_) (fun a6 w6 v6 hd hl6 hR6 => ?_)
  · have hh := Lib.hid (like_same hb.like h1)
    clear hb hnext
    go_wp2
    exact hh.out
  obtain ⟨h3, e6⟩ := hR6
  have hb6 : Behind H vM W al w6 v6 := hb.heap hl6 e6
  refine SG.ret ?_
  refine SG.leave1 (t := 6) rfl hd rfl rfl ?_
  rw [h3]
  exact hnext _ _ hb6
end
end Go.Proofs.Ytcefdleidkmomaa.Mx

/- Gather of any lists, behind the group: back through atOnce and Gather. Conditions: each theorem's own. -/
namespace Go.Proofs.Ytcefdleidkmomaa.Mx
open Go.Conc Go.Conc.Lib Br Go.RowKit Hp Rw Ro So
open Go.ConcN (sumTo upd sumTo_upd upd_ne upd_same)
/-- Gather's slots at its call of atOnce. -/
inductive FGN (lb lo n cl : Nat) : Array Value → Prop
  | mk (u1 u5 u6 u7 u8 u9 u10 u11 u12 u13 u14 u15 u16 u17 u18 u19 u20 u21 u22 : Value) : FGN lb lo n cl #[.slice (some ⟨lb, lo, none⟩) n cl, u1, nilS, nilS, .int .i64 0, u5, u6, u7, u8, u9, u10, u11, u12, u13, u14, u15, u16, u17, u18, u19, u20, u21, u22]
/-- Behind the call; at the loop's head again; where its condition is told; at the end. -/
inductive FGN2 (lb lo n cl : Nat) (al : Value) : Array Value → Prop
  | mk (u1 u2 u5 u6 u7 u8 u9 u10 u11 u12 u13 u14 u15 u16 u17 u18 u19 u20 u21 u22 : Value) : FGN2 lb lo n cl al #[.slice (some ⟨lb, lo, none⟩) n cl, u1, u2, al, .int .i64 0, u5, u6, u7, u8, u9, u10, u11, u12, u13, u14, u15, u16, u17, u18, u19, u20, u21, u22]
/-- See FG2. -/
inductive FGN3 (lb lo n cl : Nat) (al : Value) : Array Value → Prop
  | mk (u1 u2 u5 u6 u7 u8 u9 u10 u11 u12 u13 u14 u15 u16 u17 u18 u19 u20 u21 u22 : Value) : FGN3 lb lo n cl al #[.slice (some ⟨lb, lo, none⟩) n cl, u1, u2, al, .int .i64 1000, u5, u6, u7, u8, u9, u10, u11, u12, u13, u14, u15, u16, u17, u18, u19, u20, u21, u22]
/-- See FG2. -/
inductive FGN4 (lb lo n cl : Nat) (al : Value) : Array Value → Prop
  | mk (u1 u2 u5 u6 u7 u9 u10 u11 u12 u13 u14 u15 u16 u17 u18 u19 u20 u21 u22 : Value) : FGN4 lb lo n cl al #[.slice (some ⟨lb, lo, none⟩) n cl, u1, u2, al, .int .i64 1000, u5, u6, u7, .bool false, u9, u10, u11, u12, u13, u14, u15, u16, u17, u18, u19, u20, u21, u22]
theorem BehindN.heap {Z n : Nat} {X : Sh} {vals : Nat → List Int} {vM w v w' v' : World} {al : Value} (h : BehindN Z n X vals vM al w v) (hl : Like (DN Z n X) w' v') (e : v'.heap = v.heap) : BehindN Z n X vals vM al w' v' :=
  ⟨hl, row_heap h.row e, by rw [e]; exact h.size, fun b hb => by rw [e]; exact h.same b hb⟩
section
variable {Z b n N lb lo cl : Nat} {Shun : Loc → Prop} {X : Sh} {ad : Nat → Option Addr} {len cp : Nat → Nat} {vals : Nat → List Int} {vM : World} {al : Value} {St : Goroutine → World → Prop} {m : Nat}
set_option maxRecDepth 100000 in
set_option maxHeartbeats 4000000 in
/-- From Gather's frame behind the call on. -/
theorem gatherBackN (h5 : n ≤ 500) {t : Array Value} (ht : FGN lb lo n cl t) {cb : Frame} {ac : Act} {opsc : Array Oper} {ic : Nat} {restc : List Nat} {kc : List Item} {cs : List Frame}
    (hnext : ∀ w v, BehindN Z n X vals vM al w v → SG (DN Z n X) St m (G (cb.at (ac.put ((opsc[ic]?).bind (·.dst)) al) (.inRegion opsc restc :: kc)) cs) w)
    {w v : World} (hb : BehindN Z n X vals vM al w v) {cL cB : Code} (hcL : gaL = cL) (hcB : gaB = cB) :
    SG (DN Z n X) St (m + 60) (G ((base 9).at (Act.put ⟨t, []⟩ ((((ga5 cL)[10]?).bind (·.dst))) al) (.inRegion (ga5 cL) [11] :: .inBlock 1 :: .code (ga4 cL) :: .inLoop cL :: .inBlock 0 :: .code (gaE cB) :: [])) (cb.at ac (.inRegion opsc (ic :: restc) :: kc) :: cs)) w := by
  obtain ⟨u1, u5, u6, u7, u8, u9, u10, u11, u12, u13, u14, u15, u16, u17, u18, u19, u20, u21, u22⟩ := ht
  conv at hcL => lhs; whnf
  subst hcL
  conv at hcB => lhs; whnf
  subst hcB
  refine SG.le (m := 3 + 2 + (4 + 2 + (2 + 2 + (m + 1 + 1) + 1 + 1 + 1) + 1 + 1 + 1) + 1 + 1 + 1) ?_ (by omega)
  refine SG.pure (y := al) rfl rfl rfl (fun w => rfl) ?_
  refine SG.regEnd ?_
  refine SG.inBlock ?_
  show SG (DN Z n X) St _ (G ((base 9).at ⟨#[.slice (some ⟨lb, lo, none⟩) n cl, u1, nilS, al, .int .i64 0, u5, u6, u7, u8, u9, u10, u11, u12, u13, u14, u15, u16, u17, u18, u19, u20, al, u22], []⟩ _) _) w
  refine SG.region (m := 4 + 2 + (2 + 2 + (m + 1 + 1) + 1 + 1 + 1) + 1 + 1 + 1) (R := fun t v' => FGN3 lb lo n cl al t ∧ v'.heap = v.heap)
    rfl (by kernel_rfl) rfl hb.like (fun v1 h1 => ?_) (fun a4 w4 v4 hd hl4 hR4 => ?_)
  · have hh := Lib.hid (like_same hb.like h1)
    clear hb hnext
    go_wp2
    exact ⟨.mk .., hh.out⟩
  obtain ⟨h3, e4⟩ := hR4
  have hb4 : BehindN Z n X vals vM al w4 v4 := hb.heap hl4 e4
  clear hl4 e4 hb
  obtain ⟨t4, ds4⟩ := a4
  obtain rfl : ds4 = [] := hd
  dsimp only at h3
  obtain ⟨u1, u2, u5, u6, u7, u8, u9, u10, u11, u12, u13, u14, u15, u16, u17, u18, u19, u20, u21, u22⟩ := h3
  refine SG.inLoop ?_
  refine SG.seq ?_
  refine SG.seq ?_
  refine SG.region (m := 2 + 2 + (m + 1 + 1) + 1 + 1 + 1) (R := fun t v' => FGN4 lb lo n cl al t ∧ v'.heap = v4.heap)
    rfl (by kernel_rfl) rfl hb4.like (fun v1 h1 => ?_) (fun a5 w5 v5 hd hl5 hR5 => ?_)
  · have hh := Lib.hid (like_same hb4.like h1)
    have hc : ¬ (1000 : Int) < (n : Int) := by omega
    clear hb4 hnext
    go_wp2
    exact ⟨.mk .., hh.out⟩
  obtain ⟨h3, e5⟩ := hR5
  have hb5 : BehindN Z n X vals vM al w5 v5 := hb4.heap hl5 e5
  clear hl5 e5 hb4
  obtain ⟨t5, ds5⟩ := a5
  obtain rfl : ds5 = [] := hd
  dsimp only at h3
  obtain ⟨u1, u2, u5, u6, u7, u9, u10, u11, u12, u13, u14, u15, u16, u17, u18, u19, u20, u21, u22⟩ := h3
  refine SG.condF rfl ?_
  refine SG.exit rfl ?_
  refine SG.seq ?_
  refine SG.region (m := m + 1 + 1) (R := fun t v' => t.getD 2 undef = al ∧ v'.heap = v5.heap)
    rfl (by kernel_rfl) rfl hb5.like (fun v1 h1 => ?_) (fun a6 w6 v6 hd hl6 hR6 => ?_)
  · have hh := Lib.hid (like_same hb5.like h1)
    clear hb5 hnext
    go_wp2
    exact hh.out
  obtain ⟨h3, e6⟩ := hR6
  have hb6 : BehindN Z n X vals vM al w6 v6 := hb5.heap hl6 e6
  refine SG.ret ?_
  refine SG.leave1 (t := 2) rfl hd rfl rfl ?_
  rw [h3]
  exact hnext _ _ hb6
set_option maxRecDepth 100000 in
set_option maxHeartbeats 4000000 in
/-- From atOnce's frame behind Wait on: al is answered. -/
theorem atOnceBackN {t : Array Value} (ht : FT (gN Z b n Shun ad len cp) al (Z + 1) N 0 N t) {cb : Frame} {ac : Act} {opsc : Array Oper} {ic : Nat} {restc : List Nat} {kc : List Item} {cs : List Frame}
    (hnext : ∀ w v, BehindN Z n X vals vM al w v → SG (DN Z n X) St m (G (cb.at (ac.put ((opsc[ic]?).bind (·.dst)) al) (.inRegion opsc restc :: kc)) cs) w)
    {w v : World} (hb : BehindN Z n X vals vM al w v) {cS : Code} (hcS : sndOf (sndOf spa) = cS) :
    SG (DN Z n X) St (m + 20) (G ((base 26).at (Act.put ⟨t, []⟩ (((tk17 (sndOf spa))[0]?).bind (·.dst)) (.tuple #[])) (.inRegion (tk17 (sndOf spa)) [] :: .code cS :: [])) (cb.at ac (.inRegion opsc (ic :: restc) :: kc) :: cs)) w := by
  obtain ⟨u2, u3, u4, u5, u6, u9, u10, u11, u13, u14, u15, u16, u17, u18, u19, u20, u21, u22, u23, u24, u25, u26, u27, u28, u29, u30, u31, u32, u33, u34, u35, u36, u37, u38, u39, u40, u41, u42, u43, u44, u45, u46, u47, u48, u49, u50, u51, u52, u53, u54, u55, u56, u57, u58, u59, u60, u61, u62, u63, u64, u65, u66, u67, u68, u69, u70, u71, u72, u73, u74, u75, u76, u77, u78⟩ := ht
  conv at hcS => lhs; whnf
  subst hcS
  refine SG.le (m := 2 + 2 + (m + 1 + 1) + 1 + 1) ?_ (by omega)
  refine SG.regEnd ?_
  refine SG.seq ?_
  show SG (DN Z n X) St _ (G ((base 26).at ⟨#[al, .int .i64 0, u2, u3, u4, u5, u6, .pointer (some (gN Z b n Shun ad len cp).wga), .slice (some ⟨Z + 1, 0, none⟩) N N, u9, u10, u11, .int .i64 ((N : Nat) : Int), u13, u14, u15, u16, u17, u18, u19, u20, u21, u22, u23, u24, u25, u26, u27, u28, u29, u30, u31, u32, u33, u34, u35, u36, u37, u38, u39, u40, u41, u42, u43, u44, u45, u46, u47, u48, u49, u50, u51, u52, u53, u54, u55, u56, u57, u58, u59, u60, u61, u62, u63, u64, u65, u66, u67, u68, u69, u70, u71, u72, u73, u74, u75, u76, .tuple #[], u78], []⟩ _) _) w
  refine SG.region (m := m + 1 + 1) (R := fun t v' => t.getD 6 undef = al ∧ v'.heap = v.heap)
    rfl (by kernel_rfl) rfl hb.like (fun v1 h1 => ?_) (fun a6 w6 v6 hd hl6 hR6 => ?_)
  · have hh := Lib.hid (like_same hb.like h1)
    clear hb hnext
    go_wp2
    exact hh.out
  obtain ⟨h3, e6⟩ := hR6
  have hb6 : BehindN Z n X vals vM al w6 v6 := hb.heap hl6 e6
  refine SG.ret ?_
  refine SG.leave1 (t := 6) rfl hd rfl rfl ?_
  rw [h3]
  exact hnext _ _ hb6
end
end Go.Proofs.Ytcefdleidkmomaa.Mx

/- A box of ints: a channel of pointers with room; Offer, Take, Len of one goroutine that alone has it. Conditions: each theorem's own. -/
namespace Go.Proofs.Ytcefdleidkmomaa.MoS
open Go.Conc Go.RowKit Hp Mo
/-- A box: its own block, its channel, what lies in it. -/
structure Bx (w : World) (b c room : Nat) (ps : List Nat) (vs : List ByteArray) : Prop where
  box : Blk w b [.chan (some c)] 78
  chan : ∃ s r, w.heap[c]? = some (.chan room (ps.map ptr).toArray false s r false)
  len : ps.length = vs.length
  cells : ∀ (i : Nat) (p : Nat) (v : ByteArray), ps[i]? = some p → vs[i]? = some v → Blk w p [.string v] 9
theorem Bx.lt {w : World} {b c room : Nat} {ps : List Nat} {vs : List ByteArray} (h : Bx w b c room ps vs) : c < w.heap.size := by
  obtain ⟨s, r, hc⟩ := h.chan
  rcases Nat.lt_or_ge c w.heap.size with h' | h'
  · exact h'
  · rw [Array.getElem?_eq_none h'] at hc; cases hc
theorem Bx.ne {w : World} {b c room : Nat} {ps : List Nat} {vs : List ByteArray} (h : Bx w b c room ps vs) {p : Nat} {l : List Value} {T : TypeId} (hp : Blk w p l T) : p ≠ c := by
  rintro rfl
  obtain ⟨s, r, hc⟩ := h.chan
  unfold Blk at hp
  rw [hp] at hc
  cases hc
/-- What is no channel of the box's bears what is done to another. -/
theorem Bx.kept {w w' : World} {b c room : Nat} {ps : List Nat} {vs : List ByteArray} (h : Bx w b c room ps vs) {c' : Nat} {r' : Nat} {x : Obj} (hx : w.heap[c']? = some x) (hn : ∀ l T z, x ≠ .cells l T z) (hc : c' ≠ c) (k : Kept (fun i => i = c') w w') : Bx w' b c room ps vs := by
  have key : ∀ {p : Nat} {l : List Value} {T : TypeId}, Blk w p l T → p ≠ c' := by
    rintro p l T hp rfl
    unfold Blk at hp
    rw [hp] at hx
    simp only [Option.some.injEq] at hx
    exact hn _ _ _ hx.symm
  obtain ⟨s, r, h2⟩ := h.chan
  exact ⟨k.blk h.box (key h.box), ⟨s, r, (k.block c h.lt (fun e => hc e.symm)).trans h2⟩, h.len, fun i p v h3 h4 => k.blk (h.cells i p v h3 h4) (key (h.cells i p v h3 h4))⟩
theorem chan_nil (w : World) : Calls Try.prog 31 #[.pointer none] w fun e w' => e = .returned (.chan none) ∧ w = w' := by
  go_enter Try.func31, Try.ntmps31
  go_wp2
  go_ret
  exact ⟨rfl, rfl⟩
theorem chan_box {w : World} {b c : Nat} (h : Blk w b [.chan (some c)] 78) : Calls Try.prog 31 #[ptr b] w fun e w' => e = .returned (.chan (some c)) ∧ w = w' := by
  have e1 := h.cell (o := 0) rfl
  unfold ptr
  go_enter Try.func31, Try.ntmps31
  go_wp2
  go_ret
  exact ⟨rfl, rfl⟩
end Go.Proofs.Ytcefdleidkmomaa.MoS

/- Offer, Take, Len, New of boxes of ints. Conditions: each theorem's own. -/
namespace Go.Proofs.Ytcefdleidkmomaa.MoS
open Go.Conc Go.RowKit Hp Mo
theorem offer_room {w : World} {b c room : Nat} {ps : List Nat} {vs : List ByteArray} (h : Bx w b c room ps vs) (hr : vs.length < room) (v : ByteArray) :
    Calls Try.prog 24 #[ptr b, .string v] w fun e w' => e = .returned (.bool true) ∧ Bx w' b c room (ps ++ [w.heap.size]) (vs ++ [v]) ∧ Kept (fun i => i = c) w w' := by
  refine calls_of_wpn Try.func24 rfl ?_
  simp only [Try.ntmps24, List.size_toArray, List.length_cons, List.length_nil, Nat.reduceAdd, Nat.reduceSub, Array.replicate_succ, Array.replicate_zero, List.push_toArray, List.append_toArray, List.nil_append, List.cons_append]
  refine Wpn.seq fun K1 hK1 => Wpn.of ?_
  go_wp2
  have hbx := h.box.old (.cells #[.string v] 9)
  refine Wpn.seq fun K1 hK1 => Wpn.of ?_
  go_wp2_with (go_at_call 31; (refine Calls.mono (chan_box hbx) ?_); rintro e w2 ⟨rfl, rfl⟩)
  obtain ⟨s, r, hc⟩ := h.chan
  have hlt := h.lt
  have hc1 := (heap_old w (.cells #[.string v] 9) hlt).trans hc
  have hz : (execOp (Act.eval ⟨#[ptr b, .string v, undef, .pointer (some ⟨w.heap.size, 0, none⟩), .bool false, ptr b, .chan (some c), undef, undef, undef], []⟩) { dst := some 7, op := Op.select #[{ chan := Operand.tmp 6, send := some (Operand.tmp 3), elem := 80 }] false, type := 0, pos := "box.go:34", after := #[], guard := none }).run Try.prog (w.alloc (.cells #[.string v] 9)) = .ok (.comm #[scase c (ptr w.heap.size) (.pointer none)] false .select) (w.alloc (.cells #[.string v] 9)) := by
    simp [go_sem, execOp, scase, Act.eval, ptr]
  refine Wpn.seq fun K1 hK1 => ?_
  refine Wpn.comm rfl hz (fun fr cs es he => step_lone_select_send_room he hc1 (by simpa [h.len] using hr)) ?_
  dsimp only [Act.put]
  simp only [List.setIfInBounds_toArray, List.set_cons_succ, List.set_cons_zero]
  go_wp2
  refine Wpn.of ?_
  go_wp2
  go_ret
  have hk : Kept (fun i => i = c) w ((w.alloc (.cells #[.string v] 9)).setChan c room ((ps.map ptr) ++ [ptr w.heap.size]).toArray false (s + 1) r false) :=
    ((Kept.refl (fun i => i = c) w).alloc _).trans (kept_setChan _ _ _ _ _ _ _ _)
  have hne : ∀ {p : Nat} {l : List Value} {T : TypeId}, Blk w p l T → ¬ p = c := fun hp => h.ne hp
  refine ⟨rfl, ⟨hk.blk h.box (hne h.box), ⟨s + 1, r, ?_⟩, by simp [h.len], ?_⟩, hk⟩
  · rw [heap_setChan _ _ _ _ _ _ _ _ (by simp; omega)]
    simp
  · intro i p u hp hu
    rcases Nat.lt_or_ge i ps.length with hi | hi
    · rw [List.getElem?_append_left hi] at hp
      rw [List.getElem?_append_left (by have := h.len; omega)] at hu
      exact hk.blk (h.cells i p u hp hu) (hne (h.cells i p u hp hu))
    · rw [List.getElem?_append_right hi] at hp
      rw [List.getElem?_append_right (by have := h.len; omega)] at hu
      have h0 : i - ps.length = 0 := by
        rcases Nat.eq_zero_or_pos (i - ps.length) with e | e
        · exact e
        · rw [List.getElem?_eq_none (by simp; omega)] at hp; cases hp
      have h1 : i - vs.length = 0 := by have := h.len; omega
      rw [h0] at hp
      rw [h1] at hu
      simp only [List.getElem?_cons_zero, Option.some.injEq] at hp hu
      subst hp hu
      exact (Blk.new w [.string v] 9).heap (setChan_other _ _ _ _ _ _ _ _ _ (by omega))
theorem offer_full {w : World} {b c room : Nat} {ps : List Nat} {vs : List ByteArray} (h : Bx w b c room ps vs) (hr : room ≤ vs.length) (v : ByteArray) :
    Calls Try.prog 24 #[ptr b, .string v] w fun e w' => e = .returned (.bool false) ∧ Kept (fun _ => False) w w' := by
  refine calls_of_wpn Try.func24 rfl ?_
  simp only [Try.ntmps24, List.size_toArray, List.length_cons, List.length_nil, Nat.reduceAdd, Nat.reduceSub, Array.replicate_succ, Array.replicate_zero, List.push_toArray, List.append_toArray, List.nil_append, List.cons_append]
  refine Wpn.seq fun K1 hK1 => Wpn.of ?_
  go_wp2
  have hbx := h.box.old (.cells #[.string v] 9)
  refine Wpn.seq fun K1 hK1 => Wpn.of ?_
  go_wp2_with (go_at_call 31; (refine Calls.mono (chan_box hbx) ?_); rintro e w2 ⟨rfl, rfl⟩)
  obtain ⟨s, r, hc⟩ := h.chan
  have hlt := h.lt
  have hc1 := (heap_old w (.cells #[.string v] 9) hlt).trans hc
  have hz : (execOp (Act.eval ⟨#[ptr b, .string v, undef, .pointer (some ⟨w.heap.size, 0, none⟩), .bool false, ptr b, .chan (some c), undef, undef, undef], []⟩) { dst := some 7, op := Op.select #[{ chan := Operand.tmp 6, send := some (Operand.tmp 3), elem := 80 }] false, type := 0, pos := "box.go:34", after := #[], guard := none }).run Try.prog (w.alloc (.cells #[.string v] 9)) = .ok (.comm #[scase c (ptr w.heap.size) (.pointer none)] false .select) (w.alloc (.cells #[.string v] 9)) := by
    simp [go_sem, execOp, scase, Act.eval, ptr]
  refine Wpn.seq fun K1 hK1 => ?_
  refine Wpn.comm rfl hz (fun fr cs es he => step_lone_select_send_full he hc1 (by have := h.len; simp; omega)) ?_
  dsimp only [Act.put]
  simp only [List.setIfInBounds_toArray, List.set_cons_succ, List.set_cons_zero]
  go_wp2
  refine Wpn.of ?_
  go_wp2
  go_ret
  exact ⟨rfl, (Kept.refl _ w).alloc _⟩
end Go.Proofs.Ytcefdleidkmomaa.MoS

/- Take of a box of ints. Conditions: each theorem's own. -/
namespace Go.Proofs.Ytcefdleidkmomaa.MoS
open Go.Conc Go.RowKit Hp Mo
theorem take_first {w : World} {b c room : Nat} {p : Nat} {ps : List Nat} {v : ByteArray} {vs : List ByteArray} (h : Bx w b c room (p :: ps) (v :: vs)) :
    Calls Try.prog 25 #[ptr b] w fun e w' => e = .returned (.tuple #[.string v, .bool true]) ∧ Bx w' b c room ps vs ∧ Kept (fun i => i = c) w w' := by
  refine calls_of_wpn Try.func25 rfl ?_
  simp only [Try.ntmps25, List.size_toArray, List.length_cons, List.length_nil, Nat.reduceAdd, Nat.reduceSub, Array.replicate_succ, Array.replicate_zero, List.push_toArray, List.append_toArray, List.nil_append, List.cons_append]
  refine Wpn.seq fun K1 hK1 => Wpn.of ?_
  go_wp2
  refine Wpn.seq fun K1 hK1 => Wpn.of ?_
  go_wp2_with (go_at_call 31; (refine Calls.mono (chan_box h.box) ?_); rintro e w2 ⟨rfl, rfl⟩)
  obtain ⟨s, r, hc⟩ := h.chan
  have hlt := h.lt
  have hz : (execOp (Act.eval ⟨#[ptr b, undef, .string ⟨#[]⟩, .bool false, undef, undef, ptr b, .chan (some c), undef, undef, undef, undef, undef, undef, undef, undef], []⟩) { dst := some 8, op := Op.select #[{ chan := Operand.tmp 7, send := none, elem := 80 }] false, type := 0, pos := "box.go:44", after := #[], guard := none }).run Try.prog w = .ok (.comm #[rcase c (.pointer none)] false .select) w := by
    simp [go_sem, execOp, rcase, Act.eval, ptr]
  refine Wpn.seq fun K1 hK1 => ?_
  refine Wpn.comm rfl hz (fun fr cs es he => step_lone_select_recv_buf he hc (by simp)) ?_
  have hk := kept_setChan w c room (ps.map ptr).toArray false s (r + 1) false
  have hne : ∀ {p : Nat} {l : List Value} {T : TypeId}, Blk w p l T → ¬ p = c := fun hp => h.ne hp
  have h0 := h.cells 0 p v rfl rfl
  have hp1 := (hk.blk h0 (hne h0)).cell (o := 0) rfl
  have hx : ((p :: ps).map ptr).toArray.extract 1 ((p :: ps).map ptr).toArray.size = (ps.map ptr).toArray := by simp [List.take_of_length_le]
  have hy : ((p :: ps).map ptr).toArray.getD 0 undef = .pointer (some ⟨p, 0, none⟩) := by simp [ptr]
  rw [hx, hy]
  have hB : Bx (w.setChan c room (ps.map ptr).toArray false s (r + 1) false) b c room ps vs :=
    ⟨hk.blk h.box (hne h.box), ⟨s, r + 1, heap_setChan _ _ _ _ _ _ _ _ hlt⟩, by simpa using h.len, fun i q u hq hu => hk.blk (h.cells (i + 1) q u (by simpa using hq) (by simpa using hu)) (hne (h.cells (i + 1) q u (by simpa using hq) (by simpa using hu)))⟩
  generalize w.setChan c room (ps.map ptr).toArray false s (r + 1) false = w1 at *
  dsimp only [Act.put]
  simp only [List.setIfInBounds_toArray, List.set_cons_succ, List.set_cons_zero]
  go_wp2
  refine Wpn.of ?_
  go_wp2
  go_ret2
  exact ⟨rfl, hB, hk⟩
theorem take_empty {w : World} {b c room : Nat} (h : Bx w b c room [] []) :
    Calls Try.prog 25 #[ptr b] w fun e w' => e = .returned (.tuple #[.string ⟨#[]⟩, .bool false]) ∧ w = w' := by
  refine calls_of_wpn Try.func25 rfl ?_
  simp only [Try.ntmps25, List.size_toArray, List.length_cons, List.length_nil, Nat.reduceAdd, Nat.reduceSub, Array.replicate_succ, Array.replicate_zero, List.push_toArray, List.append_toArray, List.nil_append, List.cons_append]
  refine Wpn.seq fun K1 hK1 => Wpn.of ?_
  go_wp2
  refine Wpn.seq fun K1 hK1 => Wpn.of ?_
  go_wp2_with (go_at_call 31; (refine Calls.mono (chan_box h.box) ?_); rintro e w2 ⟨rfl, rfl⟩)
  obtain ⟨s, r, hc⟩ := h.chan
  have hz : (execOp (Act.eval ⟨#[ptr b, undef, .string ⟨#[]⟩, .bool false, undef, undef, ptr b, .chan (some c), undef, undef, undef, undef, undef, undef, undef, undef], []⟩) { dst := some 8, op := Op.select #[{ chan := Operand.tmp 7, send := none, elem := 80 }] false, type := 0, pos := "box.go:44", after := #[], guard := none }).run Try.prog w = .ok (.comm #[rcase c (.pointer none)] false .select) w := by
    simp [go_sem, execOp, rcase, Act.eval, ptr]
  refine Wpn.seq fun K1 hK1 => ?_
  refine Wpn.comm rfl hz (fun fr cs es he => step_lone_select_default he hc) ?_
  dsimp only [Act.put]
  simp only [List.setIfInBounds_toArray, List.set_cons_succ, List.set_cons_zero]
  go_wp2
  refine Wpn.of ?_
  go_wp2
  go_ret2
  exact ⟨rfl, rfl⟩
end Go.Proofs.Ytcefdleidkmomaa.MoS

/- New and Len of boxes of ints. Conditions: each theorem's own. -/
namespace Go.Proofs.Ytcefdleidkmomaa.MoS
open Go.Conc Go.RowKit Hp Mo
theorem bytesPtr : ∃ i, Try.prog.info? 80 = some i ∧ i.bytes = 8 := by
  have h : (Try.prog.info? 80).map (·.bytes) = some 8 := by kernel_rfl
  obtain ⟨i, hi, hb⟩ := Option.map_eq_some_iff.1 h
  exact ⟨i, hi, hb⟩
theorem mkBox {n : Int} (h0 : 0 ≤ n) (h1 : n ≤ 10000) (w : World) : (Instr.makeChan 76 (.int .i64 n)).run Try.prog w = .ok (.chan (some w.heap.size)) (w.alloc (.chan n.toNat #[] false 0 0 false)) := by
  obtain ⟨i, hi, hb⟩ := bytesPtr
  obtain ⟨k, rfl⟩ := Int.eq_ofNat_of_zero_le h0
  simpa using run_makeChan (P := Try.prog) (w := w) Try.underlying76 hi .i64 k (by omega) (by rw [hb]; omega)
theorem new_ok {n : Int} (h0 : 0 ≤ n) (h1 : n ≤ 10000) (w : World) : Calls Try.prog 23 #[.int .i64 n] w fun e w' => e = .returned (.tuple #[ptr (w.heap.size + 1), .int .i64 0]) ∧ Bx w' (w.heap.size + 1) w.heap.size n.toNat [] [] ∧ Kept (fun _ => False) w w' ∧ w'.heap.size = w.heap.size + 2 := by
  have hmc := mkBox h0 h1
  go_enter Try.func23, Try.ntmps23
  go_wp2
  go_ret2
  have hB := Blk.new (w.alloc (.chan n.toNat #[] false 0 0 false)) [.chan (some w.heap.size)] 78
  have hk := ((Kept.refl (fun _ => False) w).alloc (.chan n.toNat #[] false 0 0 false)).alloc (.cells #[.chan (some w.heap.size)] 78)
  simp only [World.size_alloc] at hB
  refine ⟨rfl, ⟨hB, ⟨0, 0, ?_⟩, rfl, fun i p v hp => by simp at hp⟩, hk, by simp⟩
  rw [heap_old _ _ (by simp)]
  exact heap_alloc_new w _
end Go.Proofs.Ytcefdleidkmomaa.MoS

/- awake behind its call of Gather, walked alone. Conditions: each theorem's own. -/
namespace Go.Proofs.Ytcefdleidkmomaa.Mx
open Go.Conc Go.Conc.Lib Br Go.RowKit Hp Rw Ro
/-- What awake's tail leaves. -/
def Rt (w : World) (_ : FuncId) (t : Array Value) (w' : World) : Prop := t.size = 79 ∧ t.getD 0 undef = .bool true ∧ Kept (fun _ => False) w w'
def a1 : ByteArray := ⟨#[97]⟩
def b1 : ByteArray := ⟨#[98]⟩
/-- awake's slots behind Gather. -/
inductive FW (al : Value) : Array Value → Prop
  | mk (u2 u3 u4 u5 u6 u7 u8 u9 u10 u11 u12 u13 u14 u15 u16 u17 u18 u19 u20 u21 u22 u23 u24 u25 u26 u27 u28 u29 u30 u31 u32 u33 u34 u35 u36 u37 u38 u39 u40 u41 u42 u43 u44 u45 u46 u47 u48 u49 u50 u51 u52 u53 u54 u55 u56 u57 u58 u59 u60 u61 u62 u63 u64 u65 u66 u67 u68 u69 u70 u71 u72 u73 u74 u75 u76 u77 u78 : Value) : FW al #[.bool false, al, u2, u3, u4, u5, u6, u7, u8, u9, u10, u11, u12, u13, u14, u15, u16, u17, u18, u19, u20, u21, u22, u23, u24, u25, u26, u27, u28, u29, u30, u31, u32, u33, u34, u35, u36, u37, u38, u39, u40, u41, u42, u43, u44, u45, u46, u47, u48, u49, u50, u51, u52, u53, u54, u55, u56, u57, u58, u59, u60, u61, u62, u63, u64, u65, u66, u67, u68, u69, u70, u71, u72, u73, u74, u75, u76, u77, u78]
theorem squiet {w w' : World} {b c room : Nat} {ps : List Nat} {vs : List ByteArray} (h : MoS.Bx w b c room ps vs) (k : Kept (fun _ => False) w w') : MoS.Bx w' b c room ps vs := by
  obtain ⟨s, r, h2⟩ := h.chan
  exact ⟨k.blk h.box (fun f => f), ⟨s, r, (k.block c h.lt (fun f => f)).trans h2⟩, h.len, fun i p v h3 h4 => k.blk (h.cells i p v h3 h4) (fun f => f)⟩
set_option maxHeartbeats 4000000 in
set_option maxRecDepth 100000 in
theorem tail_wp {c : Code} (hc : aw2 awB = c) (w : World) {b : Nat} {al : Value} (hr : Rw.Row iT w b al [(0, 0, 1), (0, 1, 2), (2, 0, 3)]) {t : Array Value} (ht : FW al t) :
    c.wp Try.prog (fun e a' w' => (e = .ret ∨ e = .normal) ∧ Rt w 8 a'.tmps w') ⟨t, []⟩ w := by
  obtain ⟨u2, u3, u4, u5, u6, u7, u8, u9, u10, u11, u12, u13, u14, u15, u16, u17, u18, u19, u20, u21, u22, u23, u24, u25, u26, u27, u28, u29, u30, u31, u32, u33, u34, u35, u36, u37, u38, u39, u40, u41, u42, u43, u44, u45, u46, u47, u48, u49, u50, u51, u52, u53, u54, u55, u56, u57, u58, u59, u60, u61, u62, u63, u64, u65, u66, u67, u68, u69, u70, u71, u72, u73, u74, u75, u76, u77, u78⟩ := ht
  conv at hc => lhs; whnf
  subst hc
  rcases hr.form with ⟨_, h0⟩ | ⟨g, cap, cur, rfl, h1, hL⟩
  · cases h0
  clear hr h1
  have hl3 : ([(0, 0, 1), (0, 1, 2), (2, 0, 3)] : List It).length = 3 := rfl
  rw [hl3]
  have HL := Lib.hid hL
  clear hL hl3
  go_wp2_with fail
  with_reducible refine Calls.mono (MoS.new_ok (by decide) (by decide) w) ?_
  rintro e w1 ⟨rfl, b1, k1, z1⟩
  have C2 := Lib.hid (Mo.new_bad (n := -1) (.inl (by decide)) w1)
  have C3 := Lib.hid (MoS.offer_room b1 (by decide) ⟨#[97]⟩)
  have K1 := Lib.hid k1
  clear b1 k1 z1
  go_wp2_with fail
  with_reducible refine Calls.mono C2.out ?_
  rintro e w2 ⟨rfl, rfl⟩
  clear C2
  go_wp2_with fail
  with_reducible refine Calls.mono C3.out ?_
  rintro e w3 ⟨rfl, b3, k3⟩
  clear C3
  have K3 := Lib.hid (K1.out.trans' k3 (fun i hi e => absurd (e ▸ hi) (by omega)))
  have C4 := Lib.hid (MoS.offer_full b3 (by decide) ⟨#[98]⟩)
  have B3 := Lib.hid b3
  clear b3 k3 K1
  go_wp2_with fail
  with_reducible refine Calls.mono C4.out ?_
  rintro e w4 ⟨rfl, k4⟩
  clear C4
  have C5 := Lib.hid (MoS.take_first (squiet B3.out k4))
  have K4 := Lib.hid (K3.out.trans k4)
  clear k4 K3 B3
  go_wp2_with fail
  with_reducible refine Calls.mono C5.out ?_
  rintro e w5 ⟨rfl, b5, k5⟩
  clear C5 b5
  have k := K4.out.trans' k5 (fun i hi e => absurd (e ▸ hi) (by omega))
  have L5 := HL.out.kept k (fun f => f)
  have c1 : w5.cell? ⟨g, 5, none⟩ = some (.int .i64 2) := L5.cell (i := 1) (j := 2) rfl rfl
  have c2 : w5.cell? ⟨g, 6, none⟩ = some (.int .i64 2) := L5.cell (i := 2) (j := 0) rfl rfl
  have c3 : w5.cell? ⟨g, 7, none⟩ = some (.int .i64 0) := L5.cell (i := 2) (j := 1) rfl rfl
  have HK := Lib.hid k
  clear L5 k k5 K4 HL
  go_wp2_with fail
  exact ⟨rfl, rfl, HK.out⟩
end Go.Proofs.Ytcefdleidkmomaa.Mx

/- awake behind its group: back to its text, and on to its return. Conditions: each theorem's own. -/
namespace Go.Proofs.Ytcefdleidkmomaa.Mx
open Go.Conc Go.Conc.Lib Br Go.RowKit Hp Rw Ro So
open Go.ConcN (sumTo upd sumTo_upd upd_ne upd_same)
/-- awake's slots at its call of Gather. -/
inductive FAw : Array Value → Prop
  | mk (u1 u2 u3 u4 u5 u6 u7 u8 u9 u10 u11 u12 u13 u14 u15 u16 u17 u18 u19 u20 u21 u22 u23 u24 u25 u26 u27 u28 u29 u30 u31 u32 u33 u34 u35 u36 u37 u38 u39 u40 u41 u42 u43 u44 u45 u46 u47 u48 u49 u50 u51 u52 u53 u54 u55 u56 u57 u58 u59 u60 u61 u62 u63 u64 u65 u66 u67 u68 u69 u70 u71 u72 u73 u74 u75 u76 u77 u78 : Value) : FAw #[.bool false, u1, u2, u3, u4, u5, u6, u7, u8, u9, u10, u11, u12, u13, u14, u15, u16, u17, u18, u19, u20, u21, u22, u23, u24, u25, u26, u27, u28, u29, u30, u31, u32, u33, u34, u35, u36, u37, u38, u39, u40, u41, u42, u43, u44, u45, u46, u47, u48, u49, u50, u51, u52, u53, u54, u55, u56, u57, u58, u59, u60, u61, u62, u63, u64, u65, u66, u67, u68, u69, u70, u71, u72, u73, u74, u75, u76, u77, u78]
/-- Gather's frame while it waits for atOnce. -/
noncomputable def gaF (t : Array Value) : Frame := (base 9).at ⟨t, []⟩ (.inRegion (ga5 gaL) [10, 11] :: .inBlock 1 :: .code (ga4 gaL) :: .inLoop gaL :: .inBlock 0 :: .code (gaE gaB) :: [])
/-- awake's goroutine behind its first line. -/
def AtTail (H : Nat) (vM W : World) (cs : List Frame) (g : Goroutine) (w : World) : Prop := ∃ al t v, g = G ((base 8).at ⟨t, []⟩ [.code (aw2 awB)]) cs ∧ FW al t ∧ Behind H vM W al w v
/-- At awake's return. -/
def AtRet (S : Sh) (K : World → Prop) (cs : List Frame) (g : Goroutine) (w : World) : Prop :=
  ∃ fr v, g = G fr cs ∧ fr.defers = [] ∧ fr.kind = .normal ∧ fr.roundOf = none ∧ fr.mode = .returning ∧ fr.fn = 8 ∧ fr.tmps.getD 0 undef = .bool true ∧ Like S w v ∧ K v
theorem Behind.at_ {H : Nat} {vM W w v w₁ : World} {al : Value} (h : Behind H vM W al w v) (hr : AtR w w₁) : Behind H vM W al w₁ v := ⟨(like_atR hr h.like).1, h.row, h.size, h.same⟩
section
variable {H : Nat} {vM W : World} {al : Value}
set_option maxRecDepth 100000 in
set_option maxHeartbeats 4000000 in
theorem awBack {t : Array Value} (ht : FAw t) {cs : List Frame} {w v : World} (hb : Behind H vM W al w v) {cB : Code} (hcB : awB = cB) :
    SG (DA H W) (AtTail H vM W cs) 2 (G ((base 8).at (Act.put ⟨t, []⟩ (((aw1 cB)[3]?).bind (·.dst)) al) (.inRegion (aw1 cB) [4] :: [.code (aw2 cB)])) cs) w := by
  obtain ⟨u1, u2, u3, u4, u5, u6, u7, u8, u9, u10, u11, u12, u13, u14, u15, u16, u17, u18, u19, u20, u21, u22, u23, u24, u25, u26, u27, u28, u29, u30, u31, u32, u33, u34, u35, u36, u37, u38, u39, u40, u41, u42, u43, u44, u45, u46, u47, u48, u49, u50, u51, u52, u53, u54, u55, u56, u57, u58, u59, u60, u61, u62, u63, u64, u65, u66, u67, u68, u69, u70, u71, u72, u73, u74, u75, u76, u77, u78⟩ := ht
  have hcB' := hcB
  conv at hcB => lhs; whnf
  subst hcB
  refine SG.pure (y := al) rfl rfl rfl (fun w => rfl) ?_
  refine SG.regEnd ?_
  refine SG.stop fun w₁ hr => ⟨al, #[.bool false, al, u2, u3, u4, u5, u6, u7, u8, u9, u10, u11, u12, al, u14, u15, u16, u17, u18, u19, u20, u21, u22, u23, u24, u25, u26, u27, u28, u29, u30, u31, u32, u33, u34, u35, u36, u37, u38, u39, u40, u41, u42, u43, u44, u45, u46, u47, u48, u49, u50, u51, u52, u53, u54, u55, u56, u57, u58, u59, u60, u61, u62, u63, u64, u65, u66, u67, u68, u69, u70, u71, u72, u73, u74, u75, u76, u77, u78], v, ?_, .mk .., hb.at_ hr⟩
  rw [hcB']
  rfl
theorem backGoes {tg tw : Array Value} (hg : FG H tg) (hw : FAw tw) {cs : List Frame} {w v : World} (hb : Behind H vM W al w v) {t : Array Value} (ht : FT (gA H) al (H + 4) 4 0 4 t) {a : Goroutine}
    (hs : Slips a (G ((base 26).at (Act.put ⟨t, []⟩ (((tk17 (sndOf spa))[0]?).bind (·.dst)) (.tuple #[])) (.inRegion (tk17 (sndOf spa)) [] :: .code (sndOf (sndOf spa)) :: []))
      (gaF tg :: (base 8).at ⟨tw, []⟩ (.inRegion (aw1 awB) [3, 4] :: [.code (aw2 awB)]) :: cs))) : ∃ n, SG (DA H W) (AtTail H vM W cs) n a w := by
  obtain ⟨n, hs⟩ := hs
  refine ⟨n + ((2 + 60) + 20), SG.slip ?_ hs⟩
  refine atOnceBack ht (fun w v hb => ?_) hb rfl
  refine gatherBack hg (fun w v hb => ?_) hb rfl rfl
  exact awBack hw hb rfl
theorem awOk : okCode Try.prog Mo.Fs (aw2 awB) = true := by kernel_rfl
/-- awake's tail, beside whoever draws. -/
theorem tail_ev {t : Array Value} (ht : FW al t) {cs : List Frame} {w v : World} (hb : Behind H vM W al w v) :
    Ev Try.prog (DA H W) cs (StopG Try.prog [] (DA H W) (fun f t v' => f = 8 ∧ t.getD 0 undef = .bool true ∧ ∃ v₁, v₁.heap = v.heap ∧ Kept (fun _ => False) v₁ v')) ⟨(base 8).at ⟨t, []⟩ [.code (aw2 awB)], [], w⟩ := by
  refine ev_gates Mo.noEarly Mo.funs (br := (base 8).at ⟨t, []⟩ [.code (aw2 awB)]) (bg := (base 8).at ⟨t, []⟩ [.code (aw2 awB)]) ?_ hb.like ?_
  · exact ⟨rfl, rfl, rfl, rfl, rfl, rfl, rfl, rfl, rfl, .code (.same (okCode_ok awOk)) .nil⟩
  · intro v1 h1
    have hh := like_same hb.like h1
    obtain ⟨N, fr, v', h1, h2, h3, h4⟩ := lone_of_wp (b := base 8) (R := fun f t v' => (f = 8 ∧ t.getD 0 undef = .bool true) ∧ Kept (fun _ => False) v1 v') (Code.wp_mono (fun e a' w' h => ⟨h.1, ⟨rfl, h.2.2.1⟩, h.2.2.2⟩) (tail_wp rfl v1 (row_heap hb.row hh) ht))
    exact ⟨N, fr, v', h1, h2, h3.1, h3.2, v1, hh, h4⟩
theorem lands_then {P : Program} {Shun : Loc → Prop} {St St' : Goroutine → World → Prop} {gs : Array Goroutine} {w₁ : World} {sl : Option (Nat × Nat)} {t : Trace} (h : Lands P Shun St gs w₁ sl t)
    (k : ∀ gs' g w' sl' t' q', gs'.size = gs.size → gs'[0]? = some g → St g w' → Leavers P t' gs' q' → Past Shun w'.heap.size t' → Lands P Shun St' gs' w' sl' t') : Lands P Shun St' gs w₁ sl t := by
  obtain ⟨N, gs', g, w', sl', t', q', hr, hs, h0, hS, hL, hP⟩ := h
  obtain ⟨N2, gs2, g2, w2, sl2, t2, q2, hr2, hs2, h02, hS2, hL2, hP2⟩ := k gs' g w' sl' t' q' hs h0 hS hL hP
  exact ⟨N + N2, gs2, g2, w2, sl2, t2, q2, runNT_then hr hr2, hs2.trans hs, h02, hS2, hL2, hP2⟩
/-- From awake's tail to its return. -/
theorem tailLands {cs : List Frame} {gs : Array Goroutine} {g : Goroutine} {w : World} {sl : Option (Nat × Nat)} {t : Trace} {q : Nat → Nat} (h0 : gs[0]? = some g) (hS : AtTail H vM W cs g w) (hL : Leavers Try.prog t gs q) (hP : Past (fun l => False ∨ OfG (H + 3) l) w.heap.size t) :
    Lands Try.prog (fun l => False ∨ OfG (H + 3) l) (AtRet (DA H W) (fun v => H + 20 ≤ v.heap.size ∧ ∀ b, b < H + 3 → v.heap[b]? = vM.heap[b]?) cs) gs w sl t := by
  obtain ⟨al, tt, v, rfl, ht, hb⟩ := hS
  obtain ⟨N, gs', y, sl', t', q', hr, hs, h0', hSt, hL', hP'⟩ := ev_beside (shunA H W) (fun x d h => stopG_at x d h) (tail_ev ht hb) _ gs w sl t q ⟨w.drawn, rfl⟩ (Nat.le_refl _) h0 hL hP
  refine ⟨N, gs', _, y.w, sl', t', q', hr, hs, h0', ?_, hL', hP'⟩
  obtain ⟨s1, s2, s3, s4, s5⟩ := hSt
  rcases s5 with ⟨s5, v', hl, e1, e2, v1, e3, k⟩ | ⟨_, ops, i, kk, hm, _⟩
  · refine ⟨y.fr, v', by rw [s1]; rfl, s2, s3, s4, s5, e1, e2, hl, ?_, fun b hb' => ?_⟩
    · have := k.size
      rw [e3] at this
      have := hb.size
      omega
    · rw [k.block b (by rw [e3]; have := hb.size; omega) (fun f => f), e3]
      exact hb.same b hb'
  · cases hm
end
end Go.Proofs.Ytcefdleidkmomaa.Mx

