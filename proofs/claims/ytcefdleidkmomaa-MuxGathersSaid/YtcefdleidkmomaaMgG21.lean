/- atOnce from the head of its first loop on: all senders, all takes, Wait. Conditions: each theorem's own. -/
import Derived.Test.YtcefdleidkmomaaMgG19
import Derived.Test.YtcefdleidkmomaaMgG20
import Derived.Test.YtcefdleidkmomaaMgG10
import Derived.Laws.MakeOwn
import Derived.Test.YtcefdleidkmomaaMgG11
import Derived.Test.YtcefdleidkmomaaMgG4
set_option linter.unusedVariables false
set_option linter.unusedSimpArgs false
namespace Go.Proofs.Ytcefdleidkmomaa.Mx
open Go.Conc Go.Conc.Lib Br Go.RowKit Hp Rw Ro
theorem goes_mono {P : Program} {main : Bool} {Rl : World → World → Prop} {D : World → World → Array Event → Prop} {St St' : Goroutine → World → Prop} (h : ∀ g w, St g w → St' g w) : ∀ {n : Nat} {g : Goroutine} {w : World}, Goes P main Rl D St n g w → Goes P main Rl D St' n g w := by
  intro n
  induction n with
  | zero => exact fun {g w} hg => fun w₁ hw => h _ _ (hg w₁ hw)
  | succ n ih =>
    intro g w hg
    rcases hg with hg | ⟨hs, hg⟩
    · exact .inl fun w₁ hw => h _ _ (hg w₁ hw)
    · refine .inr ⟨hs, fun w₁ hw => ?_⟩
      have := hg w₁ hw
      cases e : stepG P main g w₁ with
      | go g' w' es => rw [e] at this; exact ⟨this.1, ih this.2⟩
      | _ => rw [e] at this; exact this.elim
section
variable {s : Grp} {X : Sh} {Anch Post : Goroutine → World → Prop} {first : Int} {vals : Nat → List Int} {wy N : Nat} {v0 v v' w' vM : World} {h lb lo cl r : Nat} {T : Nat → Nat} {al : Value} {L : List It}
/-- What is known behind the phase: all that came, in its row; all of old but the ways' block as it was. -/
def Fin (s : Grp) (X : Sh) (first : Int) (vals : Nat → List Int) (wy N : Nat) (vM : World) (al : Value) (w : World) : Prop :=
  ∃ v, Like (s.Sd X s.n) w v ∧ Rw.Row iT v s.M al (allOf s first vals N) ∧ s.M + 5 * s.n ≤ v.heap.size ∧ ∀ b, b < s.M → b ≠ wy → v.heap[b]? = vM.heap[b]?
theorem fin_far {w w₁ : World} (hf : (phI s zN Anch Post).Far s.n w w₁) : Fin s X first vals wy N vM al w → Fin s X first vals wy N vM al w₁ := fun ⟨v, h1, h2⟩ => ⟨v, far_on hf h1, h2⟩
/-- The ways' block, all of them made. -/
theorem wayC_T : wayC s first s.n N = wayT (wfN s first) (wcT s zN Anch Post Ph.T00) (fun _ => nilS) N := by
  unfold wayC wayT
  refine List.map_congr_left fun i _ => ?_
  unfold wayV wfN
  have e : wcT s zN Anch Post Ph.T00 (i / 3) = if i / 3 < s.n then some (s.chan (i / 3)) else none := by
    by_cases hk : i / 3 < s.n
    · rw [wcT_some ⟨hk, Nat.zero_le _⟩, if_pos hk]
    · rw [wcT_none (fun h => hk h.1), if_neg hk]
  rw [e]
  by_cases hk : i / 3 < s.n
  · simp only [hk, if_true]
  · simp only [hk, if_false]
/-- The lists, in the world that the phase begins in. -/
structure LsM (s : Grp) (Anch Post : Goroutine → World → Prop) (vals : Nat → List Int) (wy : Nat) (vM : World) : Prop where
  len : ∀ k, k < s.n → (vals k).length = lenv s Anch Post k
  none : ∀ k, s.n ≤ k → vals k = []
  hwy : wy < s.M
  at_ : ∀ (k i : Nat) (x : Int), k < s.n → (vals k)[i]? = some x → ∃ q : Addr, ((phI s zN Anch Post).vs k)[i]? = some (Value.pointer (some q)) ∧ q.block < s.M ∧ q.block ≠ wy ∧ vM.cell? q = some (Value.int .i64 x)
set_option maxRecDepth 100000 in
set_option maxHeartbeats 4000000 in
theorem atOnceGoes (hX : ShunIn X s.Shun) (hXM : ∀ b, X b → b < s.M) (hk : (phI s zN Anch Post).Ok) (hB : s.M + 5 * s.n ≤ s.B) (hWM : s.Wg < s.M) (hlM : lb < s.M) (hlw : lb ≠ wy) {q : Nat} (hq : s.n = q + 1)
    (hz : ∀ k, s.ad k = none → s.len k = 0) (hn : ∀ k, s.len k < 9223372036854775807) (hNn : s.n ≤ N) (hN9 : N < 1000000) (hev : 2 * r = N) (hf0 : 0 ≤ first) (hf1 : first + (s.n : Int) < 9223372036854775807)
    (hL : LsM s Anch Post vals wy vM) (hv9 : ∀ k, (vals k).length ≤ 100000) (hsm : ∀ h, h ≤ N → (allOf s first vals h).length ≤ 900000)
    {bA : Frame} (hbA : bA.kind = .normal) {kA : List Item} {csA : List Frame}
    (hA : ∀ t al g w, FT s al wy N first N t → AnchW s.Wg (Fin s X first vals wy N vM al) (bA.at ⟨t, []⟩ (.inRegion (tk17 (sndOf spa)) [0] :: .code (sndOf (sndOf spa)) :: kA)) csA g w → Anch g w)
    {t : Array Value} (ht : FR s nilS lb lo cl wy N first 0 t) {w v : World} (hl : Like (s.Sd X 0) w v) (hsz : v.heap.size = s.M + 5 * 0) (hi : SpI s lb lo wy N first (fun v => ∀ b, b < s.M → b ≠ wy → v.heap[b]? = vM.heap[b]?) 0 v) (hlive : (phI s zN Anch Post).Live w) :
    Goes Try.prog true ((phI s zN Anch Post).Far 0) ((phI s zN Anch Post).DM 0) ((phI s zN Anch Post).U1 0 ((phI s zN Anch Post).Spawns ((phI s zN Anch Post).Takes (rem s.n (lenv s Anch Post) Ph.T00) Ph.T00) q)) 1000 (G (bA.at ⟨t, []⟩ (.code spc :: .inLoop spc :: .inBlock 0 :: .code spa :: kA)) csA) w := by
  have hwM := hL.hwy
  have key := spawns (s := s) (X := X) (z := zN) (al := nilS) (Anch := Anch) (Post := Post) (lo := lo) (cl := cl) (wy := wy) (N := N) (first := first) hX hXM hk hB hWM hwM hlM hlw (by omega) hz hn hNn (by omega) hf0 hf1
    (Rest := fun v => ∀ b, b < s.M → b ≠ wy → v.heap[b]? = vM.heap[b]?) (fun v v' e h b h1 h2 => (e b h1 h2).trans (h b h1 h2)) hbA (k := .inBlock 0 :: .code spa :: kA) (cs := csA)
    (Fin := (phI s zN Anch Post).Takes (rem s.n (lenv s Anch Post) Ph.T00) Ph.T00) (StF := (phI s zN Anch Post).TStop (rem s.n (lenv s Anch Post) Ph.T00) Ph.T00) (mF := 3 + 40 + 400 * r + 20)
    (fun g w m hg => ((phI s zN Anch Post).takes_iff _ _ _ _).2 ⟨m, hg⟩) (fun t w v ht hl hs hi hlive => ?_) q 0 (by omega) t w v ht hl hsz hi hlive
  · exact key
  · refine spOut hX (Inv := fun v => Hp.Blk v wy (wayC s first s.n N) 93 ∧ ∀ b, b < s.M → b ≠ wy → v.heap[b]? = vM.heap[b]?) (fun v v' e i => ⟨i.1.heap (by rw [e]), fun b h1 h2 => by rw [e]; exact i.2 b h1 h2⟩) hbA (k := kA) (fun t w v ht hl hs hi hlive => ?_) ht hl hs ⟨hi.ways, hi.rest⟩ hlive rfl rfl
    have hLv : Ls s Anch Post vals wy v := ⟨hL.len, hL.none, by omega, fun k i x hk hx => by
      obtain ⟨qa, h1, h2, h3, h4⟩ := hL.at_ k i x hk hx
      exact ⟨_, h1, by omega, h3, by rw [World.cell?, hi.2 _ h2 h3]; exact h4⟩⟩
    have hvs : s.M + 5 * s.n ≤ v.heap.size := Nat.le_of_eq hs.symm
    refine pairs (F := 3 + 40) hX hLv hv9 hN9 hsm hbA (kk := .inBlock 2 :: .code (sndOf spa) :: kA) (fun T al t w v' m hT hi' ht hl hlive _ => ?_) hNn r 0 Ph.T00 nilS w v t _ (by omega) (fun k _ => Nat.zero_le _) (fun k hk => by omega) (fun k _ => rfl)
      ⟨by rw [← wayC_T]; exact hi.1, Rw.Row.none iT v _, ⟨Nat.le_refl _, fun _ _ _ => rfl⟩⟩ ht hl hlive (Nat.le_refl _)
    refine tkOut hX (Inv := HI s Anch Post first wy N v T al (allOf s first vals N)) (fun v v' e i => i.heap e) hN9 (Nat.le_refl _) hbA (k := kA) (fun t w v' ht hl hi' hlive => ?_) ht hl hi' hlive rfl rfl
    refine goes_mono (St := (phI s zN Anch Post).V1) (fun g w hg => Or.inr ⟨hT, hg⟩) ?_
    exact waitStart (F := Fin s X first vals wy N vM al) (fun w w₁ hf => fin_far hf) (fun g w hg => hA t al g w ht hg) w
      ⟨⟨v', hl, hi'.ra.base fun g hg => by have := (hi'.ra.lt g hg).1; omega, Nat.le_trans hvs hi'.kh.size, fun b h1 h2 => by rw [hi'.kh.same b (by omega) h2]; exact hi.2 b h1 h2⟩, hlive⟩
end
end Go.Proofs.Ytcefdleidkmomaa.Mx

/- The phase of atOnce: what its machine's text asks for holds. Conditions: each theorem's own. -/
namespace Go.Proofs.Ytcefdleidkmomaa.Mx
open Go.Conc Go.Conc.Lib Br Go.RowKit Hp Rw Ro
open Go.ConcR (WgAt)
section
variable (s : Grp) (X : Sh) (first : Int) (vals : Nat → List Int) (wy N : Nat) (vM : World) (bA : Frame) (kA : List Item) (csA : List Frame)
def AnchG (g : Goroutine) (w : World) : Prop := ∃ t al, FT s al wy N first N t ∧ AnchW s.Wg (Fin s X first vals wy N vM al) (bA.at ⟨t, []⟩ (.inRegion (tk17 (sndOf spa)) [0] :: .code (sndOf (sndOf spa)) :: kA)) csA g w
def PostG (g : Goroutine) (w : World) : Prop := ∃ t al, FT s al wy N first N t ∧ PostW (Fin s X first vals wy N vM al) (G (bA.at (Act.put ⟨t, []⟩ (((tk17 (sndOf spa))[0]?).bind (·.dst)) (.tuple #[])) (.inRegion (tk17 (sndOf spa)) [] :: .code (sndOf (sndOf spa)) :: kA)) csA) g w
/-- The phase. -/
noncomputable abbrev phG : Ph := phI s zN (AnchG s X first vals wy N vM bA kA csA) (PostG s X first vals wy N vM bA kA csA)
end
section
variable {s : Grp} {X : Sh} {first : Int} {vals : Nat → List Int} {wy N : Nat} {vM : World} {bA : Frame} {kA : List Item} {csA : List Frame}
theorem elems0 (a : Option Addr) : Grp.elems a 0 = [] := by cases a <;> simp [Grp.elems]
theorem okG (hX : ShunIn X s.Shun) (hXM : ∀ b, X b → b < s.M) (hb : 1 ≤ s.b) (hn31 : s.n < 2147483648) (hB : s.M + 5 * s.n ≤ s.B) (hWM : s.Wg < s.M) (hWB : s.Wg < s.B) :
    (phG s X first vals wy N vM bA kA csA).Ok where
  b1 := hb
  n31 := hn31
  chInj := fun k k' _ _ h => by
    have : s.M + 5 * k + 1 = s.M + 5 * k' + 1 := h
    omega
  chWg := fun k _ h => by
    have : s.M + 5 * k + 1 = s.Wg := h
    omega
  kFar := fun k w w₁ hk hf hb => by
    have hk' : k < s.n := hk
    have nb : ∀ i, i < 5 → i ≠ 1 → w₁.heap[s.M + 5 * k + i]? = w.heap[s.M + 5 * k + i]? := fun i h5 h1 => hf.block _ (fun e => by have : s.M + 5 * k + i = s.Wg := e; omega) (fun k' _ e => by have : s.M + 5 * k + i = s.M + 5 * k' + 1 := e; omega)
    have hb' : s.Boxes _ _ _ k w := hb
    exact ⟨(nb 0 (by omega) (by omega)).trans hb'.l, (nb 2 (by omega) (by omega)).trans hb'.i, (nb 3 (by omega) (by omega)).trans hb'.g, (nb 4 (by omega) (by omega)).trans hb'.f⟩
  rdMem := fun k l h => by
    rcases h with rfl | ⟨a, rfl, _⟩ <;> rfl
  rdNo := fun k l h hs => by
    rcases h with rfl | ⟨a, rfl, h1, h2⟩
    · rcases hs with hs | ⟨a, ha, _⟩
      · obtain ⟨a, ha, _⟩ := hX _ hs
        cases ha
      · cases ha
    · rcases hs with hs | ⟨b, hb, hw⟩
      · obtain ⟨b, hb, hx⟩ := hX _ hs
        cases hb
        have := hXM _ hx
        omega
      · cases hb
        have : a.block = s.Wg := hw
        omega
  rdObj := fun k _ => Or.inl rfl
  lowWg := hWB
  chLow := fun k hk => by
    have hk' : k < s.n := hk
    show s.M + 5 * k + 1 < s.B
    omega
  capOk := fun k _ => by
    by_cases h0 : s.len k = 0
    · left
      show Grp.elems (s.ad k) (s.len k) = []
      rw [h0, elems0]
    · right
      show 1 ≤ min (s.len k) 64
      omega
  anRun := fun g w ⟨t, al, _, T, hg, _⟩ => by rw [hg]; rfl
  an := fun g w ⟨t, al, ht, hg⟩ =>
    waitRound (F := Fin s X first vals wy N vM al) hWB (fun k _ h => by
      rcases h with h | ⟨a, ha, h1, _⟩
      · cases h
      · cases ha
        have : s.M + 5 * k ≤ s.Wg := h1
        omega) (fun w w₁ hf => fin_far hf) (fun g w hg => ⟨t, al, ht, hg⟩) (fun g w hg => ⟨t, al, ht, hg⟩) g w hg
end
end Go.Proofs.Ytcefdleidkmomaa.Mx

/- The group that the laws' own awake starts: three lists, of two, none and one. Conditions: each theorem's own. -/
namespace Go.Proofs.Ytcefdleidkmomaa.Mx
open Go.Conc Go.Conc.Lib Br Go.RowKit Hp Rw Ro
open Go.ConcR (WgAt wgBlock)
def adA (H : Nat) (k : Nat) : Option Addr := if k = 0 then some ⟨H, 0, none⟩ else if k = 2 then some ⟨H + 1, 0, none⟩ else none
def lenA (k : Nat) : Nat := if k = 0 then 2 else if k = 2 then 1 else 0
def valsA (k : Nat) : List Int := if k = 0 then [1, 2] else if k = 2 then [3] else []
/-- The group; H: the first block of awake's. -/
def gA (H : Nat) : Grp where
  M := H + 5
  Wg := H + 3
  b := 1
  n := 3
  B := H + 20
  Shun := fun _ => False
  ad := adA H
  len := lenA
  cp := lenA
theorem allA (H : Nat) : allOf (gA H) 0 valsA 4 = [(0, 0, 1), (0, 1, 2), (2, 0, 3)] := by rfl
/-- awake's first blocks: two lists, the row of all three. -/
def rowsA (H : Nat) : List Value := [.slice (some ⟨H, 0, none⟩) 2 2, .slice none 0 0, .slice (some ⟨H + 1, 0, none⟩) 1 1]
/-- What lies in the world that the phase begins in: the lists; the group is dead for who walks alone. -/
structure WA (H : Nat) (v : World) : Prop where
  a : Hp.Blk v H [.int .i64 1, .int .i64 2] 3
  b : Hp.Blk v (H + 1) [.int .i64 3] 3
  c : Hp.Blk v (H + 2) (rowsA H) 28
  size : v.heap.size = H + 4
theorem WA.heap {H : Nat} {v v' : World} (h : WA H v) (e : v'.heap = v.heap) : WA H v' := ⟨h.a.heap (by rw [e]), h.b.heap (by rw [e]), h.c.heap (by rw [e]), by rw [e]; exact h.size⟩
section
variable {H : Nat} {Anch Post : Goroutine → World → Prop} {v vM w W : World}
theorem lsA (h : WA H vM) : LsM (gA H) Anch Post valsA (H + 4) vM := by
  have e0 : (phI (gA H) zN Anch Post).vs 0 = [.pointer (some ⟨H, 0, none⟩), .pointer (some ⟨H, 1, none⟩)] := by
    show Grp.elems (some ⟨H, 0, none⟩) 2 = _
    simp [Grp.elems, Addr.add, List.range, List.range.loop]
  have e1 : (phI (gA H) zN Anch Post).vs 1 = [] := rfl
  have e2 : (phI (gA H) zN Anch Post).vs 2 = [.pointer (some ⟨H + 1, 0, none⟩)] := by
    show Grp.elems (some ⟨H + 1, 0, none⟩) 1 = _
    simp [Grp.elems, Addr.add, List.range, List.range.loop]
  refine ⟨fun k hk => ?_, fun k hk => ?_, show H + 4 < H + 5 by omega, fun k i x hk hx => ?_⟩
  · have hk' : k < 3 := hk
    rcases (show k = 0 ∨ k = 1 ∨ k = 2 by omega) with rfl | rfl | rfl
    · show 2 = List.length _; rw [e0]; rfl
    · rfl
    · show 1 = List.length _; rw [e2]; rfl
  · have hk' : 3 ≤ k := hk
    unfold valsA
    rw [if_neg (by omega), if_neg (by omega)]
  · have hk' : k < 3 := hk
    rcases (show k = 0 ∨ k = 1 ∨ k = 2 by omega) with rfl | rfl | rfl
    · rw [e0]
      have hx' : ([1, 2] : List Int)[i]? = some x := hx
      rcases (show i = 0 ∨ i = 1 ∨ 2 ≤ i by omega) with rfl | rfl | hi
      · obtain rfl : x = 1 := by simpa using hx'.symm
        exact ⟨_, rfl, show H < H + 5 by omega, show H ≠ H + 4 by omega, h.a.cell rfl⟩
      · obtain rfl : x = 2 := by simpa using hx'.symm
        exact ⟨_, rfl, show H < H + 5 by omega, show H ≠ H + 4 by omega, h.a.cell rfl⟩
      · rw [List.getElem?_eq_none (by simp; omega)] at hx'; cases hx'
    · have hx' : ([] : List Int)[i]? = some x := hx
      simp at hx'
    · rw [e2]
      have hx' : ([3] : List Int)[i]? = some x := hx
      rcases (show i = 0 ∨ 1 ≤ i by omega) with rfl | hi
      · obtain rfl : x = 3 := by simpa using hx'.symm
        exact ⟨_, rfl, show H + 1 < H + 5 by omega, show H + 1 ≠ H + 4 by omega, h.b.cell rfl⟩
      · rw [List.getElem?_eq_none (by simp; omega)] at hx'; cases hx'
/-- atOnce behind the making of the group. -/
noncomputable def at2 : Code := sndOf (sndOf (Try.f26.body.getD .skip))
/-- Its slots there. -/
inductive FA (H : Nat) : Array Value → Prop
  | mk (u3 u4 u5 u6 u8 u9 u10 u11 u12 u13 u14 u15 u16 u17 u18 u19 u20 u21 u22 u23 u24 u25 u26 u27 u28 u29 u30 u31 u32 u33 u34 u35 u36 u37 u38 u39 u40 u41 u42 u43 u44 u45 u46 u47 u48 u49 u50 u51 u52 u53 u54 u55 u56 u57 u58 u59 u60 u61 u62 u63 u64 u65 u66 u67 u68 u69 u70 u71 u72 u73 u74 u75 u76 u77 u78 : Value) : FA H #[nilS, .int .i64 0, .slice (some ⟨H + 2, 0, none⟩) 3 3, u3, u4, u5, u6, .pointer (some ⟨H + 3, 0, none⟩), u8, u9, u10, u11, u12, u13, u14, u15, u16, u17, u18, u19, u20, u21, u22, u23, u24, u25, u26, u27, u28, u29, u30, u31, u32, u33, u34, u35, u36, u37, u38, u39, u40, u41, u42, u43, u44, u45, u46, u47, u48, u49, u50, u51, u52, u53, u54, u55, u56, u57, u58, u59, u60, u61, u62, u63, u64, u65, u66, u67, u68, u69, u70, u71, u72, u73, u74, u75, u76, u77, u78]
inductive FA2 (H : Nat) : Array Value → Prop
  | mk (u3 u4 u5 u6 u9 u10 u11 u12 u13 u14 u15 u16 u17 u18 u19 u20 u21 u22 u23 u24 u25 u26 u27 u28 u29 u30 u31 u32 u33 u34 u35 u36 u37 u38 u39 u40 u41 u42 u43 u44 u45 u46 u47 u48 u49 u50 u51 u52 u53 u54 u55 u56 u57 u58 u59 u60 u61 u62 u63 u64 u65 u66 u67 u68 u69 u70 u71 u72 u73 u74 u75 u76 u77 u78 : Value) : FA2 H #[nilS, .int .i64 0, .slice (some ⟨H + 2, 0, none⟩) 3 3, u3, u4, u5, u6, .pointer (some ⟨H + 3, 0, none⟩), .slice (some ⟨H + 4, 0, none⟩) 4 4, u9, u10, u11, u12, u13, u14, u15, u16, u17, u18, u19, u20, u21, u22, u23, u24, u25, u26, u27, u28, u29, u30, u31, u32, u33, u34, u35, u36, u37, u38, u39, u40, u41, u42, u43, u44, u45, u46, u47, u48, u49, u50, u51, u52, u53, u54, u55, u56, u57, u58, u59, u60, u61, u62, u63, u64, u65, u66, u67, u68, u69, u70, u71, u72, u73, u74, u75, u76, u77, u78]
/-- The ways' cells, made. -/
def way0 : List Value := [.int .i64 0, .chan none, nilS, .int .i64 0, .chan none, nilS, .int .i64 0, .chan none, nilS, .int .i64 0, .chan none, nilS]
theorem mk4 (w : World) : (Instr.makeSlice 91 (.int .i64 4) (.int .i64 4)).run Try.prog w = .ok (.slice (some ⟨w.heap.size, 0, none⟩) 4 4) (w.alloc (.cells way0.toArray 93)) := by kernel_rfl
theorem noX : ShunIn (sh0 W) (gA H).Shun := fun l h => h.elim
set_option maxRecDepth 100000 in
set_option maxHeartbeats 4000000 in
theorem groupStart (hk : (phI (gA H) zN Anch Post).Ok) (hM : WA H vM) {bA : Frame} (hbA : bA.kind = .normal) {csA : List Frame}
    (hA : ∀ t al g w, FT (gA H) al (H + 4) 4 0 4 t → AnchW (gA H).Wg (Fin (gA H) (sh0 W) 0 valsA (H + 4) 4 vM al) (bA.at ⟨t, []⟩ (.inRegion (tk17 (sndOf spa)) [0] :: .code (sndOf (sndOf spa)) :: [])) csA g w → Anch g w)
    {t : Array Value} (ht : FA H t) (hl : Like ((gA H).Sd (sh0 W) 0) w vM) (hlive : (phI (gA H) zN Anch Post).Live w) {c : Code} (hc : at2 = c) :
    (phI (gA H) zN Anch Post).Spawns ((phI (gA H) zN Anch Post).Takes (rem 3 (lenv (gA H) Anch Post) Ph.T00) Ph.T00) 3 (G (bA.at ⟨t, []⟩ [.code c]) csA) w := by
  obtain ⟨u3, u4, u5, u6, u8, u9, u10, u11, u12, u13, u14, u15, u16, u17, u18, u19, u20, u21, u22, u23, u24, u25, u26, u27, u28, u29, u30, u31, u32, u33, u34, u35, u36, u37, u38, u39, u40, u41, u42, u43, u44, u45, u46, u47, u48, u49, u50, u51, u52, u53, u54, u55, u56, u57, u58, u59, u60, u61, u62, u63, u64, u65, u66, u67, u68, u69, u70, u71, u72, u73, u74, u75, u76, u77, u78⟩ := ht
  conv at hc => lhs; whnf
  subst hc
  refine ⟨8 + 2 + (3 + 2 + (1000 + 1 + 1) + 1 + 1) + 1, ?_⟩
  show MG (phI (gA H) zN Anch Post) 0 _ (8 + 2 + (3 + 2 + (1000 + 1 + 1) + 1 + 1) + 1) _ _
  refine MG.seq ?_
  refine m_region (s := gA H) (X := sh0 W) (j := 0) (m := 3 + 2 + (1000 + 1 + 1) + 1 + 1) (R := fun t v' => FA2 H t ∧ v'.heap = vM.heap.push (.cells way0.toArray 93))
    noX hbA (by kernel_rfl) rfl hlive hl (fun v1 h1 => ?_) (fun a4 w4 v4 hd hi4 hl4 hR4 => ?_)
  · have hh := Lib.hid (like_same hl h1)
    have HS := Lib.hid hM.size
    have MK := mk4
    clear hA hM hk
    go_wp2
    have e : v1.heap.size = H + 4 := by rw [hh.out, HS.out]
    simp only [e]
    exact ⟨.mk .., by simp only [World.alloc]; rw [hh.out]⟩
  obtain ⟨t4, d4⟩ := a4
  have hd1 : d4 = [] := hd
  subst hd1
  obtain ⟨ht, hv4⟩ := hR4
  obtain ⟨u3, u4, u5, u6, u9, u10, u11, u12, u13, u14, u15, u16, u17, u18, u19, u20, u21, u22, u23, u24, u25, u26, u27, u28, u29, u30, u31, u32, u33, u34, u35, u36, u37, u38, u39, u40, u41, u42, u43, u44, u45, u46, u47, u48, u49, u50, u51, u52, u53, u54, u55, u56, u57, u58, u59, u60, u61, u62, u63, u64, u65, u66, u67, u68, u69, u70, u71, u72, u73, u74, u75, u76, u77, u78⟩ := ht
  clear hd
  show MG (phI (gA H) zN Anch Post) 0 _ (3 + 2 + (1000 + 1 + 1) + 1 + 1) _ _
  refine MG.seq ?_
  refine MG.seq ?_
  refine m_region (s := gA H) (X := sh0 W) (j := 0) (m := 1000 + 1 + 1) (R := fun t v' => FR (gA H) nilS (H + 2) 0 3 (H + 4) 4 0 0 t ∧ v'.heap = v4.heap)
    noX hbA (by kernel_rfl) rfl hi4 hl4 (fun v1 h1 => ?_) (fun a5 w5 v5 hd hi5 hl5 hR5 => ?_)
  · have hh := Lib.hid (like_same hl4 h1)
    clear hA hM hk
    go_wp2
    exact ⟨.mk .., hh.out.trans hv4⟩
  obtain ⟨t5, d5⟩ := a5
  have hd1 : d5 = [] := hd
  subst hd1
  obtain ⟨ht5, hv5⟩ := hR5
  clear hd
  show MG (phI (gA H) zN Anch Post) 0 _ (1000 + 1 + 1) _ _
  refine MG.block ?_
  refine MG.loop ?_
  have hp : v5.heap = vM.heap.push (.cells way0.toArray 93) := hv5.trans hv4
  have hold : ∀ b, b < H + 4 → v5.heap[b]? = vM.heap[b]? := fun b hb => by rw [hp]; exact push_old (by rw [hM.size]; exact hb)
  have hsz : v5.heap.size = H + 5 := by rw [hp, Array.size_push, hM.size]
  have C : Hp.Blk v5 (H + 2) (rowsA H) 28 := hM.c.heap (hold _ (by omega))
  refine atOnceGoes (s := gA H) (X := sh0 W) (first := 0) (vals := valsA) (wy := H + 4) (N := 4) (vM := vM) (lb := H + 2) (lo := 0) (cl := 3) (r := 2) (kA := []) noX (fun _ h => h.elim) hk (show H + 5 + 5 * 3 ≤ H + 20 by omega) (show H + 3 < H + 5 by omega) (show H + 2 < H + 5 by omega) (show H + 2 ≠ H + 4 by omega) (q := 2) rfl
    (fun k h => ?_) (fun k => ?_) (show 3 ≤ 4 by omega) (by decide) (by decide) (by decide) (by show (0 : Int) + ((3 : Nat) : Int) < _; decide) (lsA hM) (fun k => ?_) (fun h hh => ?_) hbA hA ht5 hl5 (by rw [hsz]; rfl) ⟨fun k hk => ?_, ?_, fun b h1 h2 => ?_⟩ hi5
  · show lenA k = 0
    have h' : adA H k = none := h
    unfold adA at h'
    unfold lenA
    by_cases e0 : k = 0
    · simp [e0] at h'
    · by_cases e2 : k = 2
      · simp [e0, e2] at h'
      · simp [e0, e2]
  · show lenA k < _
    unfold lenA
    split
    · decide
    · split <;> decide
  · unfold valsA
    split
    · decide
    · split <;> decide
  · rcases (show h = 0 ∨ h = 1 ∨ h = 2 ∨ h = 3 ∨ h = 4 by omega) with rfl | rfl | rfl | rfl | rfl
    · exact (show (0 : Nat) ≤ 900000 by decide)
    · exact (show (2 : Nat) ≤ 900000 by decide)
    · exact (show (2 : Nat) ≤ 900000 by decide)
    · exact (show (3 : Nat) ≤ 900000 by decide)
    · exact (show (3 : Nat) ≤ 900000 by decide)
  · have hk' : k < 3 := hk
    rcases (show k = 0 ∨ k = 1 ∨ k = 2 by omega) with rfl | rfl | rfl <;> exact C.cell rfl
  · show Hp.Blk v5 (H + 4) _ _
    have e : v5.heap[H + 4]? = some (.cells way0.toArray 93) := by rw [hp, ← hM.size]; simp
    exact e
  · exact hold b (by have h1' : b < H + 5 := h1; omega)
end
end Go.Proofs.Ytcefdleidkmomaa.Mx

/- Gather of any lists: the group is made and all senders are started. Conditions: each theorem's own. -/
namespace Go.Proofs.Ytcefdleidkmomaa.Mx
open Go.Conc Go.Conc.Lib Br Go.RowKit Hp Rw Ro
open Go.ConcR (WgAt wgBlock)
/-- The group; Z: the first block of atOnce's (the WaitGroup's); b: how many goroutines there are. -/
def gN (Z b n : Nat) (Shun : Loc → Prop) (ad : Nat → Option Addr) (len cp : Nat → Nat) : Grp where
  M := Z + 2
  Wg := Z
  b := b
  n := n
  B := Z + 2 + 5 * n
  Shun := Shun
  ad := ad
  len := len
  cp := cp
/-- The lists: where they are told, what they hold. -/
structure LL (Z n lb lo : Nat) (ad : Nat → Option Addr) (len cp : Nat → Nat) (vals : Nat → List Int) (v : World) : Prop where
  n1 : 1 ≤ n
  n5 : n ≤ 500
  l5 : ∀ k, len k ≤ 500
  lenq : ∀ k, k < n → (vals k).length = len k
  off : ∀ k, n ≤ k → vals k = []
  nil : ∀ k, ad k = none → len k = 0
  low : lb < Z
  row : ∀ k, k < n → v.cell? ⟨lb, lo + k, none⟩ = some (.slice (ad k) (len k) (cp k))
  at_ : ∀ (k i : Nat) (x : Int), k < n → (vals k)[i]? = some x → ∃ q : Addr, (Grp.elems (ad k) (len k))[i]? = some (Value.pointer (some q)) ∧ q.block < Z ∧ v.cell? q = some (Value.int .i64 x)
theorem LL.heap {Z n lb lo : Nat} {ad : Nat → Option Addr} {len cp : Nat → Nat} {vals : Nat → List Int} {v v' : World} (h : LL Z n lb lo ad len cp vals v) (e : ∀ b, b < Z → v'.heap[b]? = v.heap[b]?) : LL Z n lb lo ad len cp vals v' := by
  refine ⟨h.n1, h.n5, h.l5, h.lenq, h.off, h.nil, h.low, fun k hk => ?_, fun k i x hk hx => ?_⟩
  · have := h.row k hk
    unfold World.cell? at this ⊢
    rw [e lb h.low]
    exact this
  · obtain ⟨q, h1, h2, h3⟩ := h.at_ k i x hk hx
    refine ⟨q, h1, h2, ?_⟩
    unfold World.cell? at h3 ⊢
    rw [e _ h2]
    exact h3
theorem infoW : (Try.prog.info? 93).map (fun i => (i.zero, i.size, i.bytes)) = some (some (.agg #[.int .i64 0, .chan none, nilS]), 3, 40) := by kernel_rfl
theorem madeW (s : Grp) (first : Int) (N : Nat) (hN : N ≤ 1000) (w : World) : (Instr.makeSlice 91 (.int .i64 (N : Int)) (.int .i64 (N : Int))).run Try.prog w = .ok (.slice (some ⟨w.heap.size, 0, none⟩) N N) (w.alloc (.cells (wayC s first 0 N).toArray 93)) := by
  obtain ⟨ti, hti, hz0, hz1, hz2⟩ := info_parts infoW
  have := run_make (P := Try.prog) (w := w) 91 93 ti _ Try.underlying91 hti hz0 .i64 .i64 (N : Int) (N : Int) (by omega) (by omega) (by rw [hz2]; omega) (by omega)
  rw [Int.toNat_natCast, hz1] at this
  rw [this]
  have e : madeCells (Value.cells (.agg #[.int .i64 0, .chan none, nilS])) (N * 3) = (wayC s first 0 N).toArray := by
    apply Array.toList_inj.1
    apply List.ext_getElem?
    intro t
    by_cases ht : t < N * 3
    · rw [wayC_get s first 0 (by omega)]
      unfold madeCells wayV
      rw [Array.toList_map, List.getElem?_map, Array.toList_range, List.getElem?_range ht, if_neg (by omega)]
      show some ((#[.int .i64 0, .chan none, nilS] : Array Value)[t % 3]!) = _
      rcases (show t % 3 = 0 ∨ t % 3 = 1 ∨ t % 3 = 2 by omega) with h | h | h <;> rw [h] <;> rfl
    · rw [List.getElem?_eq_none (by rw [Array.length_toList, size_madeCells]; omega), List.getElem?_eq_none (by simp [wayC]; omega)]
  rw [e]
theorem items_le (f : Int) (l : List Int) : (itemsOf f l l.length).length ≤ l.length := by
  unfold itemsOf
  simp
theorem all_le {s : Grp} {first : Int} {vals : Nat → List Int} (h5 : ∀ k, (vals k).length ≤ 500) : ∀ h, (allOf s first vals h).length ≤ 500 * h := by
  intro h
  induction h with
  | zero => simp [allOf]
  | succ h ih =>
    rw [allOf_succ, List.length_append]
    have := items_le (wfN s first h) (vals h)
    have := h5 h
    omega
section
variable {Z b n N lb lo cl : Nat} {Shun : Loc → Prop} {X : Sh} {ad : Nat → Option Addr} {len cp : Nat → Nat} {vals : Nat → List Int} {Anch Post : Goroutine → World → Prop} {v vM w W : World}
theorem LL.five (h : LL Z n lb lo ad len cp vals v) (k : Nat) : (vals k).length ≤ 500 := by
  rcases Nat.lt_or_ge k n with hk | hk
  · rw [h.lenq k hk]; exact h.l5 k
  · rw [h.off k hk]; simp
theorem elems_len (a : Option Addr) {n : Nat} (h : a = none → n = 0) : (Grp.elems a n).length = n := by
  cases a with
  | none => rw [h rfl]; rfl
  | some a => simp [Grp.elems]
theorem lsN (h : LL Z n lb lo ad len cp vals vM) : LsM (gN Z b n Shun ad len cp) Anch Post vals (Z + 1) vM :=
  ⟨fun k hk => (h.lenq k hk).trans (elems_len (ad k) (h.nil k)).symm, h.off, show Z + 1 < Z + 2 by omega, fun k i x hk hx => by
    obtain ⟨q, h1, h2, h3⟩ := h.at_ k i x hk hx
    exact ⟨q, h1, show q.block < Z + 2 by omega, by omega, h3⟩⟩
/-- Its slots there. -/
inductive FN (Z n lb lo cl : Nat) : Array Value → Prop
  | mk (u3 u4 u5 u6 u8 u9 u10 u11 u12 u13 u14 u15 u16 u17 u18 u19 u20 u21 u22 u23 u24 u25 u26 u27 u28 u29 u30 u31 u32 u33 u34 u35 u36 u37 u38 u39 u40 u41 u42 u43 u44 u45 u46 u47 u48 u49 u50 u51 u52 u53 u54 u55 u56 u57 u58 u59 u60 u61 u62 u63 u64 u65 u66 u67 u68 u69 u70 u71 u72 u73 u74 u75 u76 u77 u78 : Value) : FN Z n lb lo cl #[nilS, .int .i64 0, .slice (some ⟨lb, lo, none⟩) n cl, u3, u4, u5, u6, .pointer (some ⟨Z, 0, none⟩), u8, u9, u10, u11, u12, u13, u14, u15, u16, u17, u18, u19, u20, u21, u22, u23, u24, u25, u26, u27, u28, u29, u30, u31, u32, u33, u34, u35, u36, u37, u38, u39, u40, u41, u42, u43, u44, u45, u46, u47, u48, u49, u50, u51, u52, u53, u54, u55, u56, u57, u58, u59, u60, u61, u62, u63, u64, u65, u66, u67, u68, u69, u70, u71, u72, u73, u74, u75, u76, u77, u78]
inductive FN2 (Z n N lb lo cl : Nat) : Array Value → Prop
  | mk (u3 u4 u5 u6 u9 u10 u11 u12 u13 u14 u15 u16 u17 u18 u19 u20 u21 u22 u23 u24 u25 u26 u27 u28 u29 u30 u31 u32 u33 u34 u35 u36 u37 u38 u39 u40 u41 u42 u43 u44 u45 u46 u47 u48 u49 u50 u51 u52 u53 u54 u55 u56 u57 u58 u59 u60 u61 u62 u63 u64 u65 u66 u67 u68 u69 u70 u71 u72 u73 u74 u75 u76 u77 u78 : Value) : FN2 Z n N lb lo cl #[nilS, .int .i64 0, .slice (some ⟨lb, lo, none⟩) n cl, u3, u4, u5, u6, .pointer (some ⟨Z, 0, none⟩), .slice (some ⟨Z + 1, 0, none⟩) N N, u9, u10, u11, u12, u13, u14, u15, u16, u17, u18, u19, u20, u21, u22, u23, u24, u25, u26, u27, u28, u29, u30, u31, u32, u33, u34, u35, u36, u37, u38, u39, u40, u41, u42, u43, u44, u45, u46, u47, u48, u49, u50, u51, u52, u53, u54, u55, u56, u57, u58, u59, u60, u61, u62, u63, u64, u65, u66, u67, u68, u69, u70, u71, u72, u73, u74, u75, u76, u77, u78]
theorem fr_of {s : Grp} (es : s.n = n) (eW : s.Wg = Z) : ∀ (u3 u4 u5 u6 u9 u10 u11 u12 u13 u14 u15 u16 u17 u18 u19 u20 u21 u25 u26 u27 u28 u29 u30 u31 u32 u33 u34 u35 u36 u37 u38 u39 u40 u41 u42 u43 u44 u45 u46 u47 u48 u49 u50 u51 u52 u53 u54 u55 u56 u57 u58 u59 u60 u61 u62 u63 u64 u65 u66 u67 u68 u69 u70 u71 u72 u73 u74 u75 u76 u77 u78 : Value), FR s nilS lb lo cl (Z + 1) N 0 0 #[nilS, .int .i64 0, .slice (some ⟨lb, lo, none⟩) n cl, u3, u4, u5, u6, .pointer (some ⟨Z, 0, none⟩), .slice (some ⟨Z + 1, 0, none⟩) N N, u9, u10, u11, u12, u13, u14, u15, u16, u17, u18, u19, u20, u21, .slice (some ⟨lb, lo, none⟩) n cl, .int .i64 (n : Int), .int .i64 0, u25, u26, u27, u28, u29, u30, u31, u32, u33, u34, u35, u36, u37, u38, u39, u40, u41, u42, u43, u44, u45, u46, u47, u48, u49, u50, u51, u52, u53, u54, u55, u56, u57, u58, u59, u60, u61, u62, u63, u64, u65, u66, u67, u68, u69, u70, u71, u72, u73, u74, u75, u76, u77, u78] := by
  intros
  subst es
  subst eW
  exact .mk ..
set_option maxRecDepth 100000 in
set_option maxHeartbeats 4000000 in
theorem groupStartN (hX : ShunIn X Shun) (hXM : ∀ b, X b → b < Z) (hk : (phI (gN Z b n Shun ad len cp) zN Anch Post).Ok) (hM : LL Z n lb lo ad len cp vals vM) (hs : vM.heap.size = Z + 1) (hcl : n ≤ cl) (hN : N = n + n % 2) {bA : Frame} (hbA : bA.kind = .normal) {csA : List Frame}
    (hA : ∀ t al g w, FT (gN Z b n Shun ad len cp) al (Z + 1) N 0 N t → AnchW Z (Fin (gN Z b n Shun ad len cp) X 0 vals (Z + 1) N vM al) (bA.at ⟨t, []⟩ (.inRegion (tk17 (sndOf spa)) [0] :: .code (sndOf (sndOf spa)) :: [])) csA g w → Anch g w)
    {t : Array Value} (ht : FN Z n lb lo cl t) (hl : Like ((gN Z b n Shun ad len cp).Sd X 0) w vM) (hlive : (phI (gN Z b n Shun ad len cp) zN Anch Post).Live w) {c : Code} (hc : at2 = c) :
    (phI (gN Z b n Shun ad len cp) zN Anch Post).Spawns ((phI (gN Z b n Shun ad len cp) zN Anch Post).Takes (rem n (lenv (gN Z b n Shun ad len cp) Anch Post) Ph.T00) Ph.T00) n (G (bA.at ⟨t, []⟩ [.code c]) csA) w := by
  obtain ⟨q, hq⟩ : ∃ q, n = q + 1 := ⟨n - 1, by have := hM.n1; omega⟩
  have hXM' : ∀ b, X b → b < Z + 2 := fun b hb => by have := hXM b hb; omega
  have h5 := hM.n5
  have n1 := hM.n1
  have hN2 : 2 * (N / 2) = N := by omega
  have hN9 : N ≤ 501 := by omega
  have hnN : n ≤ N := by omega
  have hlow := hM.low
  have hne : lb ≠ Z + 1 := by omega
  have MK := madeW (gN Z b n Shun ad len cp) 0 N (by omega)
  generalize hg : gN Z b n Shun ad len cp = s at *
  have es : s.n = n := by rw [← hg]; rfl
  have eM : s.M = Z + 2 := by rw [← hg]; rfl
  have eW : s.Wg = Z := by rw [← hg]; rfl
  have eB : s.B = Z + 2 + 5 * n := by rw [← hg]; rfl
  have eS : s.Shun = Shun := by rw [← hg]; rfl
  have ea : s.ad = ad := by rw [← hg]; rfl
  have el : s.len = len := by rw [← hg]; rfl
  have ec : s.cp = cp := by rw [← hg]; rfl
  have hXs : ShunIn X s.Shun := by rw [eS]; exact hX
  have hLs : LsM s Anch Post vals (Z + 1) vM := by rw [← hg]; exact lsN hM
  obtain ⟨u3, u4, u5, u6, u8, u9, u10, u11, u12, u13, u14, u15, u16, u17, u18, u19, u20, u21, u22, u23, u24, u25, u26, u27, u28, u29, u30, u31, u32, u33, u34, u35, u36, u37, u38, u39, u40, u41, u42, u43, u44, u45, u46, u47, u48, u49, u50, u51, u52, u53, u54, u55, u56, u57, u58, u59, u60, u61, u62, u63, u64, u65, u66, u67, u68, u69, u70, u71, u72, u73, u74, u75, u76, u77, u78⟩ := ht
  conv at hc => lhs; whnf
  subst hc
  have key : ∀ F g, (phI s zN Anch Post).Spawns F (q + 1) g w → (phI s zN Anch Post).Spawns F n g w := fun F g h => by rw [hq]; exact h
  rw [show rem n (lenv s Anch Post) Ph.T00 = rem s.n (lenv s Anch Post) Ph.T00 by rw [es]]
  refine key _ _ ?_
  refine ⟨8 + 2 + (3 + 2 + (1000 + 1 + 1) + 1 + 1) + 1, ?_⟩
  have e0 : s.n - (q + 1) = 0 := by omega
  show Goes Try.prog true ((phI s zN Anch Post).Far (s.n - (q + 1))) ((phI s zN Anch Post).DM (s.n - (q + 1))) ((phI s zN Anch Post).U1 (s.n - (q + 1)) _) _ _ _
  rw [e0]
  show MG (phI s zN Anch Post) 0 _ (8 + 2 + (3 + 2 + (1000 + 1 + 1) + 1 + 1) + 1) _ _
  refine MG.seq ?_
  refine m_region (s := s) (X := X) (j := 0) (m := 3 + 2 + (1000 + 1 + 1) + 1 + 1) (R := fun t v' => FN2 Z n N lb lo cl t ∧ v'.heap = vM.heap.push (.cells (wayC s 0 0 N).toArray 93))
    hXs hbA (by kernel_rfl) rfl hlive hl (fun v1 h1 => ?_) (fun a4 w4 v4 hd hi4 hl4 hR4 => ?_)
  · have hh := Lib.hid (like_same hl h1)
    have HS := Lib.hid hs
    clear hA hM hk hLs hl hlive
    have eN : (n : Int) + (n : Int) % 2 = ((N : Nat) : Int) := by omega
    rw [← eN] at MK
    clear hq hN eN es eM eW eB eS ea el ec e0 hN2
    go_wp2
    have e : v1.heap.size = Z + 1 := by rw [hh.out, HS.out]
    simp only [e]
    exact ⟨.mk .., by simp only [World.alloc]; rw [hh.out]⟩
  obtain ⟨t4, d4⟩ := a4
  have hd1 : d4 = [] := hd
  subst hd1
  obtain ⟨ht, hv4⟩ := hR4
  obtain ⟨u3, u4, u5, u6, u9, u10, u11, u12, u13, u14, u15, u16, u17, u18, u19, u20, u21, u22, u23, u24, u25, u26, u27, u28, u29, u30, u31, u32, u33, u34, u35, u36, u37, u38, u39, u40, u41, u42, u43, u44, u45, u46, u47, u48, u49, u50, u51, u52, u53, u54, u55, u56, u57, u58, u59, u60, u61, u62, u63, u64, u65, u66, u67, u68, u69, u70, u71, u72, u73, u74, u75, u76, u77, u78⟩ := ht
  clear hd
  show MG (phI s zN Anch Post) 0 _ (3 + 2 + (1000 + 1 + 1) + 1 + 1) _ _
  refine MG.seq ?_
  refine MG.seq ?_
  refine m_region (s := s) (X := X) (j := 0) (m := 1000 + 1 + 1) (R := fun t v' => FR s nilS lb lo cl (Z + 1) N 0 0 t ∧ v'.heap = v4.heap)
    hXs hbA (by kernel_rfl) rfl hi4 hl4 (fun v1 h1 => ?_) (fun a5 w5 v5 hd hi5 hl5 hR5 => ?_)
  · have hh := Lib.hid (like_same hl4 h1)
    clear hA hM hk hLs hl hlive MK
    have EF := fr_of (s := s) (lb := lb) (lo := lo) (cl := cl) (Z := Z) (N := N) es eW
    clear hq hN es eM eW eB eS ea el ec e0 hN2
    go_wp2

    exact hh.out.trans hv4
  obtain ⟨t5, d5⟩ := a5
  have hd1 : d5 = [] := hd
  subst hd1
  obtain ⟨ht5, hv5⟩ := hR5
  clear hd
  show MG (phI s zN Anch Post) 0 _ (1000 + 1 + 1) _ _
  refine MG.block ?_
  refine MG.loop ?_
  have hp : v5.heap = vM.heap.push (.cells (wayC s 0 0 N).toArray 93) := hv5.trans hv4
  have hold : ∀ b, b < Z + 1 → v5.heap[b]? = vM.heap[b]? := fun b hb => by rw [hp]; exact push_old (by rw [hs]; exact hb)
  have hsz : v5.heap.size = Z + 2 := by rw [hp, Array.size_push, hs]
  have C := hM.heap (v' := v5) fun b hb => hold b (by omega)
  have l5 : ∀ k, len k ≤ 500 := hM.l5
  refine atOnceGoes (s := s) (X := X) (first := 0) (vals := vals) (wy := Z + 1) (N := N) (vM := vM) (lb := lb) (lo := lo) (cl := cl) (r := N / 2) (kA := []) hXs (by rw [eM]; exact hXM') hk (by rw [eM, eB, es]; omega) (by rw [eM, eW]; omega) (by rw [eM]; omega) hne (q := q) (by rw [es]; exact hq)
    (by rw [ea, el]; exact hM.nil) (fun k => by rw [el]; have := l5 k; omega) (by rw [es]; exact hnN) (by omega) (by omega) (by decide) (by rw [es]; omega) hLs (fun k => by have := hM.five k; omega) (fun h hh => by have := all_le (s := s) (first := 0) hM.five h; omega) hbA (by rw [eW]; exact hA) ht5 hl5 (by rw [hsz, eM]) ⟨fun k hk => ?_, ?_, fun b h1 h2 => ?_⟩ hi5
  · rw [ea, el, ec]
    exact C.row k (by omega)
  · show Hp.Blk v5 (Z + 1) _ _
    have e : v5.heap[Z + 1]? = some (.cells (wayC s 0 0 N).toArray 93) := by rw [hp, ← hs]; simp
    exact e
  · exact hold b (by omega)
end
end Go.Proofs.Ytcefdleidkmomaa.Mx

/- A walk of the starter's beside goroutines that only leave, told as Goes. Conditions: each theorem's own. -/
namespace Go.Proofs.Ytcefdleidkmomaa.So
open Go.Conc Br
open Go.ConcN (sumTo upd sumTo_upd upd_ne upd_same)
/-- The same world, at whatever place of the tape. -/
def AtR (w w₁ : World) : Prop := ∃ d, w₁ = w.at d
/-- What a step may say and do. -/
def DF (S : Sh) (w w' : World) (es : Array Event) : Prop := (∀ e ∈ es, Fine S w'.heap.size e) ∧ w.heap.size ≤ w'.heap.size
theorem atR_refl (w : World) : AtR w w := ⟨w.drawn, rfl⟩
theorem atR_trans {a b c : World} (h : AtR a b) (k : AtR b c) : AtR a c := by obtain ⟨d, rfl⟩ := h; obtain ⟨e, rfl⟩ := k; exact ⟨e, rfl⟩
section
variable {P : Program} {S : Sh} {Shun : Loc → Prop} {St : Goroutine → World → Prop}
/-- Where it comes to. -/
def Lands (P : Program) (Shun : Loc → Prop) (St : Goroutine → World → Prop) (gs : Array Goroutine) (w₁ : World) (sl : Option (Nat × Nat)) (t : Trace) : Prop :=
  ∃ (N : Nat) (gs' : Array Goroutine) (g : Goroutine) (w' : World) (sl' : Option (Nat × Nat)) (t' : Trace) (q' : Nat → Nat),
    runNT P N (crowd gs w₁ sl) t = (.next (crowd gs' w' sl'), t') ∧ gs'.size = gs.size ∧ gs'[0]? = some g ∧ St g w' ∧ Leavers P t' gs' q' ∧ Past Shun w'.heap.size t'
theorem Lands.after {gs gs₁ : Array Goroutine} {w₁ w₂ : World} {sl sl₁ : Option (Nat × Nat)} {t t₁ : Trace} {ops : Array MemOp} (h : stepT P (crowd gs w₁ sl) = (.next (crowd gs₁ w₂ sl₁), ops)) (ht : t₁ = t ++ ops) (hz : gs₁.size = gs.size)
    (k : Lands P Shun St gs₁ w₂ sl₁ t₁) : Lands P Shun St gs w₁ sl t := by
  obtain ⟨N, gs', g, w', sl', t', q', hr, hs, h0, hS, hL, hP⟩ := k
  subst ht
  exact ⟨N + 1, gs', g, w', sl', t', q', by simp only [runNT, h]; exact hr, hs.trans hz, h0, hS, hL, hP⟩
theorem step_beside (hS : ShunIn S Shun) {n : Nat} {g : Goroutine} {w : World} (hrun : g.status = .running) (hone : ∀ w₁, AtR w w₁ → ∃ g' w' es, stepG P true g w₁ = .go g' w' es ∧ DF S w₁ w' es ∧ Goes P true AtR (DF S) St n g' w')
    (ih : ∀ (g' : Goroutine) (w' : World), Goes P true AtR (DF S) St n g' w' → ∀ (M : Nat) (gs : Array Goroutine) (w₁ : World) (sl : Option (Nat × Nat)) (t : Trace) (q : Nat → Nat), AtR w' w₁ → sumTo gs.size q ≤ M → gs[0]? = some g' → Leavers P t gs q → Past Shun w'.heap.size t → Lands P Shun St gs w₁ sl t)
    (M : Nat) (ihM : ∀ (gs : Array Goroutine) (w₁ : World) (sl : Option (Nat × Nat)) (t : Trace) (q : Nat → Nat), AtR w w₁ → sumTo gs.size q < M → gs[0]? = some g → Leavers P t gs q → Past Shun w.heap.size t → Lands P Shun St gs w₁ sl t)
    (gs : Array Goroutine) (w₁ : World) (sl : Option (Nat × Nat)) (t : Trace) (q : Nat → Nat) (hA : AtR w w₁) (hM : sumTo gs.size q ≤ M) (h0 : gs[0]? = some g) (hL : Leavers P t gs q) (hP : Past Shun w.heap.size t) : Lands P Shun St gs w₁ sl t := by
  have haw : ∀ g ∈ gs, awake g := by
    intro g1 hg
    obtain ⟨i, hi, rfl⟩ := Array.mem_iff_getElem.1 hg
    rcases Nat.eq_zero_or_pos i with rfl | hpos
    · have : gs[0] = g := by simpa [Array.getElem?_eq_getElem hi] using h0
      rw [this]; exact awake_of (.inl hrun)
    · exact awake_of ((hL.old i _ hpos (Array.getElem?_eq_getElem hi)).status.elim .inl fun x => .inr (.inr x))
  obtain ⟨i, g1, d, sl', hi, hg, hst⟩ := crowd_pick (P := P) (w := w₁) (sl := sl) haw ⟨0, _, h0, hrun⟩
  obtain ⟨d₀, rfl⟩ := hA
  have hlt0 : 0 < gs.size := (Array.getElem?_eq_some_iff.1 h0).1
  rcases Nat.eq_zero_or_pos i with rfl | hpos
  · obtain rfl : g1 = g := by rw [h0] at hi; exact (Option.some.inj hi).symm
    obtain ⟨g', w', es, e, ⟨hes, hgr⟩, hgo⟩ := hone ((w.at d₀).at d) ⟨d, rfl⟩
    have hP' : Past Shun w'.heap.size t := hP.mono hgr
    have hrunT := runT_crowd_go (P := P) (sl := sl') (i := 0) hi (show stepG P (0 == 0) _ ((w.at d₀).at d) = _ from e)
    refine Lands.after (hst.trans hrunT) rfl (by simp) (ih g' w' hgo _ _ _ _ _ q (atR_refl _) (Nat.le_refl _) (by simp [hlt0]) ⟨fun j y hj hy => ?_, fun j hj => ?_⟩ (hP'.own fun e he => fine_evL hS (hes e he)))
    · have hne : 0 ≠ j := by omega
      rw [Array.getElem?_setIfInBounds_ne hne, Array.getElem?_map] at hy
      obtain ⟨z, hz, rfl⟩ := Option.map_eq_some_iff.1 hy
      have hq := hL.old j z hj hz
      rw [woken_quitsD hq, Deaf_other t (by omega) _ (fun op hop => by obtain ⟨e, _, rfl⟩ := Go.Conc.mem_ofEvents hop; rfl)]
      exact hq
    · rw [Deaf_other t (g' := 0) (by simp at hj; omega) _ (fun op hop => by obtain ⟨e, _, rfl⟩ := Go.Conc.mem_ofEvents hop; rfl)]
      exact hL.above j (by simpa using hj)
  · have hq := hL.old i g1 hpos hi
    have hi0 : (i == 0) = false := by simp; omega
    have hlt : i < gs.size := (Array.getElem?_eq_some_iff.1 hi).1
    cases hqi : q i with
    | zero => rw [hqi] at hq; rw [hq.1] at hg; cases hg
    | succ k =>
      rw [hqi] at hq
      rcases hq with ⟨hf, _⟩ | ⟨_, g', es, hm, hstp, hq'⟩
      · rw [hf] at hg; cases hg
      have hrunT := runT_crowd_go (P := P) (sl := sl') (i := i) hi (by rw [hi0]; exact hstp ((w.at d₀).at d))
      have hsz : ((gs.map (woken P g1 g' ((w.at d₀).at d))).setIfInBounds i g').size = gs.size := by simp
      have hsum : sumTo gs.size (upd q i k) + (k + 1) = sumTo gs.size q + k := by
        have := sumTo_upd q k id hlt
        simpa [hqi] using this
      refine Lands.after (hst.trans hrunT) rfl hsz (ihM _ _ _ _ (upd q i k) ⟨d, rfl⟩ (by rw [hsz]; omega) ?_ ⟨fun j y hj hy => ?_, fun j hj => ?_⟩ (hP.mute (by omega) hm))
      · have hne : i ≠ 0 := by omega
        rw [Array.getElem?_setIfInBounds_ne hne, Array.getElem?_map, h0]
        simp [woken_run hrun]
      · by_cases hji : i = j
        · subst hji
          rw [Array.getElem?_setIfInBounds_self_of_lt (by simpa using hlt)] at hy
          obtain rfl := Option.some.inj hy
          rw [upd_same, Deaf_own]
          exact hq'
        · rw [Array.getElem?_setIfInBounds_ne hji, Array.getElem?_map] at hy
          obtain ⟨z, hz, rfl⟩ := Option.map_eq_some_iff.1 hy
          have hqj := hL.old j z hj hz
          rw [woken_quitsD hqj, upd_ne q k (Ne.symm hji), Deaf_other t hji _ (fun op hop => by obtain ⟨e, _, rfl⟩ := Go.Conc.mem_ofEvents hop; rfl)]
          exact hqj
      · rw [Deaf_other t (g' := i) (by simp at hj; omega) _ (fun op hop => by obtain ⟨e, _, rfl⟩ := Go.Conc.mem_ofEvents hop; rfl)]
        exact hL.above j (by simpa using hj)
/-- A walk told as Goes is carried out by the machine beside leavers. -/
theorem goes_beside (hS : ShunIn S Shun) : ∀ (n : Nat) (g : Goroutine) (w : World), Goes P true AtR (DF S) St n g w → ∀ (M : Nat) (gs : Array Goroutine) (w₁ : World) (sl : Option (Nat × Nat)) (t : Trace) (q : Nat → Nat), AtR w w₁ → sumTo gs.size q ≤ M → gs[0]? = some g → Leavers P t gs q → Past Shun w.heap.size t → Lands P Shun St gs w₁ sl t := by
  have stp : ∀ {g : Goroutine} {w : World}, (∀ w₁, AtR w w₁ → St g w₁) → ∀ (gs : Array Goroutine) (w₁ : World) (sl : Option (Nat × Nat)) (t : Trace) (q : Nat → Nat), AtR w w₁ → gs[0]? = some g → Leavers P t gs q → Past Shun w.heap.size t → Lands P Shun St gs w₁ sl t := by
    intro g w h gs w₁ sl t q hA h0 hL hP
    refine ⟨0, gs, g, w₁, sl, t, q, rfl, rfl, h0, h w₁ hA, hL, ?_⟩
    obtain ⟨d, rfl⟩ := hA
    exact hP
  intro n
  induction n with
  | zero => exact fun g w h M gs w₁ sl t q hA _ h0 hL hP => stp h gs w₁ sl t q hA h0 hL hP
  | succ n ih =>
    intro g w h
    rcases h with h | ⟨hrun, h⟩
    · exact fun M gs w₁ sl t q hA _ h0 hL hP => stp h gs w₁ sl t q hA h0 hL hP
    · have hone : ∀ w₁, AtR w w₁ → ∃ g' w' es, stepG P true g w₁ = .go g' w' es ∧ DF S w₁ w' es ∧ Goes P true AtR (DF S) St n g' w' := by
        intro w₁ hw
        have := h w₁ hw
        cases e : stepG P true g w₁ with
        | go g' w' es => rw [e] at this; exact ⟨g', w', es, rfl, this.1, this.2⟩
        | _ => rw [e] at this; exact this.elim
      intro M
      induction M with
      | zero =>
        intro gs w₁ sl t q hA hM h0 hL hP
        exact step_beside hS hrun hone ih 0 (fun gs' w₂ sl' t' q' _ hM' => by omega) gs w₁ sl t q hA hM h0 hL hP
      | succ M ihM =>
        intro gs w₁ sl t q hA hM h0 hL hP
        exact step_beside hS hrun hone ih (M + 1) (fun gs' w₂ sl' t' q' hA' hM' h0' hL' hP' => ihM gs' w₂ sl' t' q' hA' (by omega) h0' hL' hP') gs w₁ sl t q hA hM h0 hL hP
end
end Go.Proofs.Ytcefdleidkmomaa.So

/- Control steps beside goroutines that only leave; a region; what only slips. Conditions: each theorem's own. -/
namespace Go.Proofs.Ytcefdleidkmomaa.So
open Go.Conc Go.Conc.Lib Br
/-- It goes, alone or beside leavers, to where St holds. -/
abbrev SG (S : Sh) (St : Goroutine → World → Prop) (m : Nat) (g : Goroutine) (w : World) : Prop := Goes Try.prog true AtR (DF S) St m g w
section
variable {S : Sh} {m : Nat} {St : Goroutine → World → Prop} {w v : World} {b : Frame} {a : Act} {k : List Item} {cs : List Frame} {ops : Array Oper} {i : Nat} {rest : List Nat}
theorem df_zero (w : World) : DF S w w #[] := ⟨fun e he => by simp at he, Nat.le_refl _⟩
theorem SG.rely {g : Goroutine} {w₁ : World} (h : SG S St m g w) (hr : AtR w w₁) : SG S St m g w₁ := Goes.rely (R := AtR) (fun _ _ _ h1 h2 => atR_trans h1 h2) h hr
theorem SG.more {g : Goroutine} (h : SG S St m g w) (n : Nat) : SG S St (n + m) g w := by
  induction n with
  | zero => rw [Nat.zero_add]; exact h
  | succ n ih => rw [show n + 1 + m = (n + m) + 1 by omega]; exact Goes.more ih
theorem SG.le {n : Nat} {g : Goroutine} (h : SG S St m g w) (hn : m ≤ n) : SG S St n g w := by
  have := h.more (n - m)
  rwa [show n - m + m = n by omega] at this
theorem SG.stop {g : Goroutine} (h : ∀ w₁, AtR w w₁ → St g w₁) : SG S St m g w := Goes.stop h
theorem SG.ctl {fr fr' : Frame} {cs' : List Frame} (h : ∀ w₁, stepG Try.prog true (G fr cs) w₁ = .go (G fr' cs') w₁ #[]) (hk : SG S St m (G fr' cs') w) : SG S St (m + 1) (G fr cs) w :=
  .inr ⟨rfl, fun w₁ hr => by rw [h]; exact ⟨df_zero _, hk.rely hr⟩⟩
theorem SG.goes {fr fr' : Frame} {cs' : List Frame} (h : ∀ (w₁ : World) (K : Goroutine → World → Array Event → Prop), K (G fr' cs') w₁ #[] → (stepG Try.prog true (G fr cs) w₁).goes K) (hk : SG S St m (G fr' cs') w) : SG S St (m + 1) (G fr cs) w :=
  .inr ⟨rfl, fun w₁ hr => h w₁ _ ⟨df_zero _, hk.rely hr⟩⟩
theorem SG.seq {x y : Code} (hk : SG S St m (G (b.at a (.code x :: .code y :: k)) cs) w) : SG S St (m + 1) (G (b.at a (.code (.seq x y) :: k)) cs) w := .ctl (fun _ => stepG_seq) hk
theorem SG.skip (hk : SG S St m (G (b.at a k) cs) w) : SG S St (m + 1) (G (b.at a (.code .skip :: k)) cs) w := .ctl (fun _ => stepG_skip) hk
theorem SG.condT {c : Operand} {x y : Code} (h : a.eval c = .bool true) (hk : SG S St m (G (b.at a (.code x :: k)) cs) w) : SG S St (m + 1) (G (b.at a (.code (.cond c x y) :: k)) cs) w := .ctl (fun _ => (stepG_cond h).trans (by simp)) hk
theorem SG.condF {c : Operand} {x y : Code} (h : a.eval c = .bool false) (hk : SG S St m (G (b.at a (.code y :: k)) cs) w) : SG S St (m + 1) (G (b.at a (.code (.cond c x y) :: k)) cs) w := .ctl (fun _ => (stepG_cond h).trans (by simp)) hk
theorem SG.block {id : Nat} {x : Code} (hk : SG S St m (G (b.at a (.code x :: .inBlock id :: k)) cs) w) : SG S St (m + 1) (G (b.at a (.code (.block id x) :: k)) cs) w := .ctl (fun _ => stepG_block) hk
theorem SG.inBlock {id : Nat} (hk : SG S St m (G (b.at a k) cs) w) : SG S St (m + 1) (G (b.at a (.inBlock id :: k)) cs) w := .ctl (fun _ => stepG_inBlock) hk
theorem SG.loop {x : Code} (hk : SG S St m (G (b.at a (.code x :: .inLoop x :: k)) cs) w) : SG S St (m + 1) (G (b.at a (.code (.loop x) :: k)) cs) w := .ctl (fun _ => stepG_loop) hk
theorem SG.inLoop {x : Code} (hk : SG S St m (G (b.at a (.code x :: .inLoop x :: k)) cs) w) : SG S St (m + 1) (G (b.at a (.inLoop x :: k)) cs) w := .ctl (fun _ => stepG_inLoop) hk
theorem SG.exit {id : Nat} {k' : List Item} (h : exitTo id k = some k') (hk : SG S St m (G (b.at a k') cs) w) : SG S St (m + 1) (G (b.at a (.code (.exit id) :: k)) cs) w := .goes (fun _ _ hK => goes_exit h hK) hk
theorem SG.ret (hk : SG S St m (G { b.at a (.code .ret :: k) with mode := .returning } cs) w) : SG S St (m + 1) (G (b.at a (.code .ret :: k)) cs) w := .ctl (fun _ => stepG_ret') hk
theorem SG.end_ (hk : SG S St m (G { b.at a [] with mode := .returning } cs) w) : SG S St (m + 1) (G (b.at a []) cs) w := .ctl (fun _ => stepG_end) hk
theorem SG.reg {id : Nat} (hk : SG S St m (G (b.at a (.inRegion ops (List.range ops.size) :: k)) cs) w) : SG S St (m + 1) (G (b.at a (.code (.region id ops false) :: k)) cs) w := .ctl (fun _ => stepG_region) hk
theorem SG.regEnd (hk : SG S St m (G (b.at a k) cs) w) : SG S St (m + 1) (G (b.at a (.inRegion ops [] :: k)) cs) w := .ctl (fun _ => stepG_region_end) hk
/-- An operation that touches nothing. -/
theorem SG.pure {o : Oper} {y : Value} (ho : ops[i]? = some o) (hw : Region.wanted o (yielded ops a.tmps) = true) (hb : b.kind = .normal) (hr : ∀ w, (execOp a.eval o).runT Try.prog w #[] = (.ok (.value y) w, #[]))
    (hk : SG S St m (G (b.at (a.put o.dst y) (.inRegion ops rest :: k)) cs) w) : SG S St (m + 1) (G (b.at a (.inRegion ops (i :: rest) :: k)) cs) w := by
  refine .ctl (fun w₁ => ?_) hk
  rw [stepG_oper ho hw]
  have hR : (execOp a.eval o).run Try.prog w₁ = .ok (.value y) w₁ := by rw [← Sem.runT_fst Try.prog _ w₁ #[], hr]
  have hE : (execOp a.eval o).events Try.prog w₁ #[] = #[] := by unfold Sem.events; rw [hr]
  have hf : (b.at a (.inRegion ops (i :: rest) :: k)).finish y = b.at (a.put o.dst y) (.inRegion ops rest :: k) := by rw [Frame.finish_at, ho]; rfl
  have hk' : ((b.at a (.inRegion ops (i :: rest) :: k)).kind == CallKind.early) = false := by
    show (b.kind == CallKind.early) = false
    rw [hb]; rfl
  simp [stepG.apply, hR, hE, GStep.after, hk', G, hf, seen_nil]
/-- An operation whose turn has not come. -/
theorem SG.off (hw : ((ops[i]?).map (Region.wanted · (yielded ops a.tmps))).getD false = false) (hk : SG S St m (G (b.at (a.put ((ops[i]?).bind (·.dst)) undef) (.inRegion ops rest :: k)) cs) w) : SG S St (m + 1) (G (b.at a (.inRegion ops (i :: rest) :: k)) cs) w := by
  refine .ctl (fun w₁ => ?_) hk
  rw [← Frame.finish_at]
  have h' := hw
  simp only [Frame.at] at *
  simp [G, stepG, stepG.exec, h']
/-- A call. -/
theorem SG.call {o : Oper} {f : FuncId} {fn : Func} {c : Code} {args : Array Operand} {ats : Array TypeId} (ho : ops[i]? = some o) (hw : Region.wanted o (yielded ops a.tmps) = true) (hb : b.kind = .normal) (hop : o.op = .call { callee := .value (.func f), args, argTypes := ats })
    (hf : Try.prog.funcs[f]? = some fn) (hname : (fn.name == "runtime.NumGoroutine") = false) (hc : fn.body = some c)
    (hk : SG S St m (G ((base f).at { tmps := args.map a.eval ++ Array.replicate (fn.ntmps - (args.map a.eval).size) undef, defers := [] } [.code c]) (b.at a (.inRegion ops (i :: rest) :: k) :: cs)) w) :
    SG S St (m + 1) (G (b.at a (.inRegion ops (i :: rest) :: k)) cs) w := .goes (fun _ _ hK => goes_call ho hw (by rw [hb]; decide) hop hf hname hc hK) hk
theorem SG.call' {o : Oper} {f : FuncId} {fn : Func} {c : Code} {args : Array Operand} {ats : Array TypeId} {vals : Array Value} (ho : ops[i]? = some o) (hw : Region.wanted o (yielded ops a.tmps) = true) (hb : b.kind = .normal) (hop : o.op = .call { callee := .value (.func f), args, argTypes := ats })
    (hf : Try.prog.funcs[f]? = some fn) (hname : (fn.name == "runtime.NumGoroutine") = false) (hc : fn.body = some c) (hv : args.map a.eval = vals)
    (hk : SG S St m (G ((base f).at { tmps := vals ++ Array.replicate (fn.ntmps - vals.size) undef, defers := [] } [.code c]) (b.at a (.inRegion ops (i :: rest) :: k) :: cs)) w) :
    SG S St (m + 1) (G (b.at a (.inRegion ops (i :: rest) :: k)) cs) w := .call ho hw hb hop hf hname hc (by rw [hv]; exact hk)
/-- A return, of nothing; of one slot. -/
theorem SG.leave0 {fn : Func} {todo : List Item} {b₀ : Frame} {a₀ : Act} (hb : b.kind = .normal) (hd : a.defers = []) (hf : Try.prog.funcs[b.fn]? = some fn) (hr : fn.results = #[])
    (hk : SG S St m (G (b₀.at (a₀.put ((ops[i]?).bind (·.dst)) (.tuple #[])) (.inRegion ops rest :: k)) cs) w) : SG S St (m + 1) (G { b.at a todo with mode := .returning } (b₀.at a₀ (.inRegion ops (i :: rest) :: k) :: cs)) w :=
  .goes (fun _ _ hK => goes_leave0 hb hd hf hr hK) hk
theorem SG.leave1 {fn : Func} {todo : List Item} {b₀ : Frame} {a₀ : Act} {t : Tmp} (hb : b.kind = .normal) (hd : a.defers = []) (hf : Try.prog.funcs[b.fn]? = some fn) (hr : fn.results = #[.tmp t])
    (hk : SG S St m (G (b₀.at (a₀.put ((ops[i]?).bind (·.dst)) (a.tmps.getD t undef)) (.inRegion ops rest :: k)) cs) w) : SG S St (m + 1) (G { b.at a todo with mode := .returning } (b₀.at a₀ (.inRegion ops (i :: rest) :: k) :: cs)) w :=
  .goes (fun _ _ hK => goes_leave1 hb hd hf hr hK) hk
theorem like_atR {w₁ : World} (h : AtR w w₁) (hl : Like S w v) : Like S w₁ v ∧ w₁.tape = w.tape := by obtain ⟨d, rfl⟩ := h; exact ⟨like_at hl d, rfl⟩
/-- A region without calls. -/
theorem SG.region (hb : b.kind = .normal) {id : Nat} {draw : Bool} (hops : ops.all (okPlain Try.prog) = true) (ha : a.defers = []) (hl : Like S w v) {R : Array Value → World → Prop}
    (hlone : ∀ v, Like S w v → (Code.region id ops draw).wp Try.prog (fun e a' w' => e = .normal ∧ R a'.tmps w') a v)
    (hnext : ∀ (a' : Act) (w' v' : World), a'.defers = [] → Like S w' v' → R a'.tmps v' → SG S St m (G (b.at a' k) cs) w') :
    SG S St (ops.size + 2 + m) (G (b.at a (.code (.region id ops draw) :: k)) cs) w :=
  Mx.goes_then atR_refl (fun g w' ⟨a', v', e, hd, _, hl', hR⟩ => e ▸ hnext a' w' v' hd hl' hR)
    (goes_region Mo.noEarly hb (fun i o ho => okPlain_ok (Array.all_eq_true_iff_forall_mem.1 hops o (Array.mem_of_getElem? ho))) (fun h hl => like_atR h hl) (fun h => ⟨fun e he => h.fine e (Array.mem_toList_iff.2 he), h.grow⟩) (Iv := fun _ => True) (fun _ _ => trivial) (fun _ _ => trivial) trivial ha hl hlone)
/-- What is left of one. -/
theorem SG.left (hb : b.kind = .normal) {l : List Nat} (hops : (l.all fun i => match ops[i]? with | some o => okPlain Try.prog o | none => true) = true) (ha : a.defers = []) (hl : Like S w v) {R : Array Value → World → Prop}
    (hlone : ∀ v, Like S w v → wpOps Try.prog ops (fun e a' w' => e = .normal ∧ R a'.tmps w') l a v)
    (hnext : ∀ (a' : Act) (w' v' : World), a'.defers = [] → Like S w' v' → R a'.tmps v' → SG S St m (G (b.at a' k) cs) w') :
    SG S St (l.length + 1 + m) (G (b.at a (.inRegion ops l :: k)) cs) w :=
  Mx.goes_then atR_refl (fun g w' ⟨a', v', e, hd, _, hl', hR⟩ => e ▸ hnext a' w' v' hd hl' hR)
    (goes_rest (id := 0) (draw := false) Mo.noEarly hb (fun i o hi ho => okPlain_ok (by have := List.all_eq_true.1 hops i hi; rw [ho] at this; exact this)) (fun h hl => like_atR h hl) (fun h => ⟨fun e he => h.fine e (Array.mem_toList_iff.2 he), h.grow⟩) (Iv := fun _ => True) (fun _ _ => trivial) (fun _ _ => trivial) trivial ha hl hlone)
/-- One operation that calls nobody. -/
theorem SG.one (hb : b.kind = .normal) {o : Oper} (ho : ops[i]? = some o) (hw : Region.wanted o (yielded ops a.tmps) = true) (hok : okPlain Try.prog o = true) (hl : Like S w v)
    {R : Value → World → Prop} (hr : ∀ v, Like S w v → ∃ y v', ((execOp a.eval o).run Try.prog v = .ok (.value y) v' ∨ ((execOp a.eval o).run Try.prog v = .ok .skip v' ∧ y = undef)) ∧ R y v')
    (hnext : ∀ (y : Value) (w' v' : World), Like S w' v' → R y v' → SG S St m (G (b.at (a.put o.dst y) (.inRegion ops rest :: k)) cs) w') :
    SG S St (m + 1) (G (b.at a (.inRegion ops (i :: rest) :: k)) cs) w := by
  refine .inr ⟨rfl, fun w₁ hr₁ => ?_⟩
  obtain ⟨hl₁, _⟩ := like_atR hr₁ hl
  have hv : Like S w₁ { v with tape := w₁.tape, drawn := w₁.drawn } := like_tape hl₁ _ _
  have hv0 : Like S w { v with tape := w₁.tape, drawn := w₁.drawn } := like_tape hl _ _
  obtain ⟨y, v', hrun, hR⟩ := hr _ hv0
  have hk : ((b.at a (.inRegion ops (i :: rest) :: k)).kind == CallKind.early) = false := by
    show (b.kind == CallKind.early) = false
    rw [hb]; rfl
  have hf : (b.at a (.inRegion ops (i :: rest) :: k)).finish y = b.at (a.put o.dst y) (.inRegion ops rest :: k) := by rw [Frame.finish_at, ho]; rfl
  have hg : ∃ fs, stepG Try.prog true (G (b.at a (.inRegion ops (i :: rest) :: k)) cs) { v with tape := w₁.tape, drawn := w₁.drawn } = .go (G (b.at (a.put o.dst y) (.inRegion ops rest :: k)) cs) v' fs := by
    rw [stepG_oper ho hw]
    rcases hrun with hrun | ⟨hrun, rfl⟩ <;> exact ⟨_, by simp [stepG.apply, hrun, GStep.after, hk, G, hf]; rfl⟩
  obtain ⟨fs, hg⟩ := hg
  rcases plain_sim Mo.noEarly hb (rest := rest) ho hw (okPlain_ok hok) hv (fun _ _ _ => rfl) with ⟨u, h⟩ | ⟨y', w', u, es, h1, h2, h3, h4⟩ | ⟨ch, u, h⟩
  · obtain ⟨o', es', e⟩ := h k cs
    rw [hg] at e
    cases e
  · obtain ⟨fs', e⟩ := h2 k cs
    rw [hg] at e
    simp only [GStep.go.injEq] at e
    obtain ⟨e1, rfl, _⟩ := e
    have e2 := g_inj e1
    rw [h1 k cs, ← e2]
    exact ⟨⟨fun e he => h3.fine e (Array.mem_toList_iff.2 he), h3.grow⟩, hnext y w' v' h3.like hR⟩
  · obtain ⟨fs', e⟩ := h k cs
    rw [hg] at e
    simp only [GStep.go.injEq] at e
    have e2 := congrArg Frame.mode (g_inj e.1)
    cases e2
/-- Silent steps, in whatever world. -/
theorem SG.slip {g' : Goroutine} (hk : SG S St m g' w) : ∀ {n : Nat} {g : Goroutine} {w0 : World}, Goes Try.prog true Mx.RT Mx.DS (fun h _ => h = g') n g w0 → SG S St (n + m) g w := by
  intro n
  induction n with
  | zero =>
    intro g w0 h
    obtain rfl : g = g' := h w0 trivial
    rw [Nat.zero_add]
    exact hk
  | succ n ih =>
    intro g w0 h
    rcases h with h | ⟨hrun, h⟩
    · obtain rfl : g = g' := h w0 trivial
      exact SG.le hk (by omega)
    · rw [show n + 1 + m = (n + m) + 1 by omega]
      refine .inr ⟨hrun, fun w₁ hr => ?_⟩
      have := h w₁ trivial
      cases e : stepG Try.prog true g w₁ with
      | go g1 w1 es =>
        rw [e] at this
        obtain ⟨⟨rfl, hes⟩, hg⟩ := this
        exact ⟨⟨fun e he => (hes e he).elim, Nat.le_refl _⟩, (ih hg).rely hr⟩
      | _ => rw [e] at this; exact this.elim
end
end Go.Proofs.Ytcefdleidkmomaa.So

