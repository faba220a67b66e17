/- atOnce's second loop whole: pair by pair, all that comes stands behind all. Conditions: each theorem's own. -/
import Derived.Test.YtilpedopnkhppaaMfG23
import Derived.Test.YtilpedopnkhppaaMfG18
import Derived.Test.YtilpedopnkhppaaMfG10
import Derived.Test.YtilpedopnkhppaaMfG19
import Derived.Test.YtilpedopnkhppaaMfG14
import Derived.Test.YtilpedopnkhppaaMfG20
import Derived.Laws.MakeOwn
set_option linter.unusedVariables false
set_option linter.unusedSimpArgs false
namespace Go.Proofs.Ytilpedopnkhppaa.Mx
open Go.Conc Go.Conc.Lib Br Go.RowKit Hp Rw Ro
section
variable (s : Grp) (Anch Post : Goroutine → World → Prop) (first : Int) (vals : Nat → List Int) (wy N : Nat) (v0 : World)
def allOf (h : Nat) : List It := (List.range h).flatMap fun k => itemsOf (wfN s first k) (vals k) (vals k).length
structure HI (T : Nat → Nat) (al : Value) (L : List It) (v : World) : Prop where
 ways : Hp.Blk v wy (wayT (wfN s first) (wcT s zN Anch Post T) (fun _ => nilS) N) 93
 ra : Rw.Row iT v v0.heap.size al L
 kh : KH wy v0 v
end
section
variable {s : Grp} {X : Sh} {Anch Post : Goroutine → World → Prop} {first : Int} {vals : Nat → List Int} {wy N : Nat} {v0 v v' w' : World} {h : Nat} {T : Nat → Nat} {u1 u2 al u : Value} {L : List It}
theorem allOf_succ (h : Nat) : allOf s first vals (h + 1) = allOf s first vals h ++ itemsOf (wfN s first h) (vals h) (vals h).length := by
 unfold allOf
 rw [List.range_succ, List.flatMap_append]
 simp
theorem HI.heap (p : HI s Anch Post first wy N v0 T al L v) (e : v'.heap = v.heap) : HI s Anch Post first wy N v0 T al L v' :=
 ⟨p.ways.heap (by rw [e]), row_heap p.ra e, ⟨by rw [e]; exact p.kh.size, fun b h1 h2 => by rw [e]; exact p.kh.same b h1 h2⟩⟩
theorem upd_nil (h : Nat) : Go.ConcN.upd (Go.ConcN.upd (fun _ => nilS) h nilS) (h + 1) nilS = fun _ => nilS := by
 funext k
 unfold Go.ConcN.upd
 split
 ·rfl
 ·split <;> rfl
theorem items0 (f : Int) (l : List Int) : itemsOf f l 0 = [] := by
 unfold itemsOf
 rw [Nat.zero_min]
 rfl
theorem nil_own {g : Nat} : nilS.ownBlock ≠ some g := by intro e; cases e
theorem HI.pair (p : HI s Anch Post first wy N v0 T al L v) (h0 : T h = 0) (h1 : T (h + 1) = 0) : PI s Anch Post first vals wy N v0 h T nilS nilS al L v := by
 refine ⟨?_, ?_, ?_, p.ra, fun g e => absurd e nil_own, fun g _ => nil_own, fun g _ => nil_own, p.kh⟩
 ·unfold Wys
  rw [upd_nil]
  exact p.ways
 ·rw [h0, items0]; exact Rw.Row.none iT v _
 ·rw [h1, items0]; exact Rw.Row.none iT v _
theorem PI.all (hL : Ls s Anch Post vals wy v0) (p : PI s Anch Post first vals wy N v0 h T u1 u2 al L v) {L' : List It} (hr : Rw.Row iT w' v0.heap.size u L') (hk : Kept (Grw v al) v w') (ho : ∀ g, u.ownBlock = some g → al.ownBlock = some g ∨ v.heap.size ≤ g) :
  PI s Anch Post first vals wy N v0 h T u1 u2 u L' w' := by
 have hwy := hL.hwy
 have hvs := p.kh.size
 have nu : ∀ {u' : Value} {l : List It}, Rw.Row iT v v0.heap.size u' l → (∀ g, al.ownBlock = some g → u'.ownBlock ≠ some g) → ∀ g, u.ownBlock = some g → u'.ownBlock ≠ some g := fun r hd g hg e => by
  rcases ho g hg with h1 | h1
  ·exact hd g h1 e
  ·have := (r.lt g e).2; omega
 exact ⟨p.ways.heap (grw_same hk (by omega) (fun e => by have := (p.ra.lt wy e).1; omega)), row_grow p.r1 hk fun b hb e => p.da1 b e hb, row_grow p.r2 hk fun b hb e => p.da2 b e hb, hr, p.d12, nu p.r1 p.da1, nu p.r2 p.da2, p.kh.grow hwy hk fun b hb => (p.ra.lt b hb).1⟩
theorem full_of (hL : Ls s Anch Post vals wy v0) (hT : Tle s Anch Post T) {k : Nat} (hc : ¬ (phI s zN Anch Post).opn T k) : itemsOf (wfN s first k) (vals k) (T k) = itemsOf (wfN s first k) (vals k) (vals k).length := by
 rcases Nat.lt_or_ge k s.n with hk | hk
 ·exact itemsOf_full (by rw [hL.len k hk, tdone hT hk hc]; omega)
 ·rw [hL.none k hk]
  unfold itemsOf
  simp
theorem upd_clear (h : Nat) (u1 u2 : Value) : Go.ConcN.upd (Go.ConcN.upd (Go.ConcN.upd (Go.ConcN.upd (fun _ => nilS) h u1) (h + 1) u2) h nilS) (h + 1) nilS = fun _ => nilS := by
 funext k
 unfold Go.ConcN.upd
 split
 ·rfl
 ·split
  ·rfl
  ·rfl
set_option maxRecDepth 100000 in
set_option maxHeartbeats 4000000 in
theorem pairs (hX : ShunIn X s.Shun) (hL : Ls s Anch Post vals wy v0) (hv9 : ∀ k, (vals k).length ≤ 100000) (hN9 : N < 1000000) (hsm : ∀ h, h ≤ N → (allOf s first vals h).length ≤ 900000) {bA : Frame} (hbA : bA.kind = .normal) {kk : List Item} {csA : List Frame} {F : Nat}
  (hend : ∀ T al t w v m, (phI s zN Anch Post).AllT T → HI s Anch Post first wy N v0 T al (allOf s first vals N) v → FT s al wy N first N t → Like (s.Sd X s.n) w v → (phI s zN Anch Post).Live w → s.n ≤ N →
   Goes Try.prog true ((phI s zN Anch Post).Far s.n) ((phI s zN Anch Post).DM s.n) ((phI s zN Anch Post).TStop m T) F (G (bA.at ⟨t, []⟩ (.code tkc :: .inLoop tkc :: kk)) csA) w) (hnN : s.n ≤ N) :
  ∀ r h T al w v t m, h + 2 * r = N → Tle s Anch Post T → (∀ k, k < h → k < s.n → T k = lenv s Anch Post k + 1) → (∀ k, h ≤ k → T k = 0) → HI s Anch Post first wy N v0 T al (allOf s first vals h) v → FT s al wy N first h t → Like (s.Sd X s.n) w v → (phI s zN Anch Post).Live w → rem s.n (lenv s Anch Post) T ≤ m →
   Goes Try.prog true ((phI s zN Anch Post).Far s.n) ((phI s zN Anch Post).DM s.n) ((phI s zN Anch Post).TStop m T) (F + 400 * r) (G (bA.at ⟨t, []⟩ (.code tkc :: .inLoop tkc :: kk)) csA) w := by
 intro r
 induction r with
 | zero =>
  intro h T al w v t m hh hT h1 h2 hi ht hl hlive hm
  obtain rfl : h = N := by omega
  exact hend T al t w v m (fun k hk => h1 k (Nat.lt_of_lt_of_le hk hnN) hk) hi ht hl hlive hnN
 | succ r ih =>
  intro h T al w v t m hh hT h1 h2 hi ht hl hlive hm
  have hN : h + 1 < N := by omega
  show MG (phI s zN Anch Post) s.n _ (F + 400 * (r + 1)) _ _
  refine MG.le (m := F + 400 * r + 80 + 40 + 2 + 40) ?_ (by omega)
  refine pairHead hX (fun v v' e i => i.heap e) (Inv := HI s Anch Post first wy N v0 T al (allOf s first vals h)) hN9 hN hbA (k := .inLoop tkc :: kk) (fun tc w v htc hl hi hlive => ?_) ht hl hi hlive rfl
  refine tbIn fun t ht => ?_
  obtain ⟨aa, ca, hal, _, _⟩ := hi.ra.slice
  refine both (al := al) (L := allOf s first vals h) (T0 := T) (F := F + 400 * r + 80) (kA := .code (tk15 tkc) :: .inBlock 3 :: .code (tk12 tkc) :: .inLoop tkc :: kk) hX hL hv9 hN htc (fun T' u1 u2 tc w v m hT' h0 n1 n2 hi htc hl hlive hm => ?_) _ T nilS nilS w v t m rfl hm hT (fun k _ _ => rfl) (hi.pair (h2 h (Nat.le_refl _)) (h2 (h + 1) (by omega))) ht hl hlive
  obtain ⟨a1, c1, rfl, _, _⟩ := hi.r1.slice
  obtain ⟨a2, c2, rfl, _, _⟩ := hi.r2.slice
  subst hal
  have e1 := full_of (first := first) hL hT' n1
  have e2 := full_of (first := first) hL hT' n2
  have eL : allOf s first vals h ++ itemsOf (wfN s first h) (vals h) (T' h) ++ itemsOf (wfN s first (h + 1)) (vals (h + 1)) (T' (h + 1)) = allOf s first vals (h + 2) := by rw [e1, e2, allOf_succ (h + 1), allOf_succ h]
  have hlen := hsm (h + 2) (by omega)
  rw [← eL, List.length_append, List.length_append] at hlen
  refine pairAll hX (Inv := PI s Anch Post first vals wy N v0 h T' _ _ _ (allOf s first vals h)) (Inv' := fun u v => PI s Anch Post first vals wy N v0 h T' _ _ u (allOf s first vals h ++ itemsOf (wfN s first h) (vals h) (T' h) ++ itemsOf (wfN s first (h + 1)) (vals (h + 1)) (T' (h + 1))) v) (base := v0.heap.size)
   (fun v v' e i => i.heap e) hlen (fun v i => ⟨i.ra, i.r1, i.r2, i.kh.size, Nat.lt_of_lt_of_le hL.hwy i.kh.size, ?_, ?_⟩) (fun g hg => ⟨fun e => by have := (hi.ra.lt g hg).1; have := hL.hwy; omega, hi.da1 g hg, hi.da2 g hg⟩)
   (fun v v' w' i r k o => i.all hL r k o) hbA (fun t w v u ht hl hi hlive => ?_) htc hl hi hlive rfl
  ·have B : Hp.Blk v wy _ _ := i.ways
   refine B.cell ?_
   rw [Nat.mul_comm, wayT_m (show h < N by omega), upd_comm (show h ≠ h + 1 by omega), Go.ConcN.upd_same]
  ·have B : Hp.Blk v wy _ _ := i.ways
   refine B.cell ?_
   rw [Nat.mul_comm, wayT_m hN, Go.ConcN.upd_same]
  rw [eL] at hi
  refine pairEnd hX (Inv := PI s Anch Post first vals wy N v0 h T' _ _ u (allOf s first vals (h + 2))) (Inv' := HI s Anch Post first wy N v0 T' u (allOf s first vals (h + 2))) hN9 hN (fun v i => i.ways)
   (fun v v' i b e z => ⟨by rw [upd_clear] at b; exact b, row_same i.ra fun g hg => e g (by have := (i.ra.lt g hg).1; have := hL.hwy; omega), ⟨by rw [z]; exact i.kh.size, fun b h1 h2 => by rw [e b h2]; exact i.kh.same b h1 h2⟩⟩)
   hbA (fun t w v ht hl hi hlive => ?_) ht hl hi hlive rfl rfl
  refine ih (h + 2) T' u w v t m (by omega) hT' (fun k hk hn => ?_) (fun k hk => ?_) hi ht hl hlive hm
  ·by_cases ea : k = h
   ·subst ea; exact tdone hT' hn n1
   ·by_cases eb : k = h + 1
    ·subst eb; exact tdone hT' hn n2
    ·rw [h0 k ea eb]; exact h1 k (by omega) hn
  ·rw [h0 k (by omega) (by omega)]; exact h2 k (by omega)
end
end Go.Proofs.Ytilpedopnkhppaa.Mx

/- atOnce from the head of its first loop on: all senders, all takes, Wait. Conditions: each theorem's own. -/
namespace Go.Proofs.Ytilpedopnkhppaa.Mx
open Go.Conc Go.Conc.Lib Br Go.RowKit Hp Rw Ro
theorem goes_mono {P : Program} {main : Bool} {Rl : World → World → Prop} {D : World → World → Array Event → Prop} {St St' : Goroutine → World → Prop} (h : ∀ g w, St g w → St' g w) : ∀ {n : Nat} {g : Goroutine} {w : World}, Goes P main Rl D St n g w → Goes P main Rl D St' n g w := by
 intro n
 induction n with
 | zero => exact fun {g w} hg => fun w₁ hw => h _ _ (hg w₁ hw)
 | succ n ih =>
  intro g w hg
  rcases hg with hg | ⟨hs, hg⟩
  ·exact .inl fun w₁ hw => h _ _ (hg w₁ hw)
  ·refine .inr ⟨hs, fun w₁ hw => ?_⟩
   have := hg w₁ hw
   cases e : stepG P main g w₁ with
   | go g' w' es => rw [e] at this; exact ⟨this.1, ih this.2⟩
   | _ => rw [e] at this; exact this.elim
section
variable {s : Grp} {X : Sh} {Anch Post : Goroutine → World → Prop} {first : Int} {vals : Nat → List Int} {wy N : Nat} {v0 v v' w' vM : World} {h lb lo cl r : Nat} {T : Nat → Nat} {al : Value} {L : List It}
def Fin (s : Grp) (X : Sh) (first : Int) (vals : Nat → List Int) (wy N : Nat) (vM : World) (al : Value) (w : World) : Prop :=
 ∃ v, Like (s.Sd X s.n) w v ∧ Rw.Row iT v s.M al (allOf s first vals N) ∧ s.M + 5 * s.n ≤ v.heap.size ∧ ∀ b, b < s.M → b ≠ wy → v.heap[b]? = vM.heap[b]?
theorem fin_far {w w₁ : World} (hf : (phI s zN Anch Post).Far s.n w w₁) : Fin s X first vals wy N vM al w → Fin s X first vals wy N vM al w₁ := fun ⟨v, h1, h2⟩ => ⟨v, far_on hf h1, h2⟩
theorem wayC_T : wayC s first s.n N = wayT (wfN s first) (wcT s zN Anch Post Ph.T00) (fun _ => nilS) N := by
 unfold wayC wayT
 refine List.map_congr_left fun i _ => ?_
 unfold wayV wfN
 have e : wcT s zN Anch Post Ph.T00 (i / 3) = if i / 3 < s.n then some (s.chan (i / 3)) else none := by
  by_cases hk : i / 3 < s.n
  ·rw [wcT_some ⟨hk, Nat.zero_le _⟩, if_pos hk]
  ·rw [wcT_none (fun h => hk h.1), if_neg hk]
 rw [e]
 by_cases hk : i / 3 < s.n
 ·simp only [hk, if_true]
 ·simp only [hk, if_false]
structure LsM (s : Grp) (Anch Post : Goroutine → World → Prop) (vals : Nat → List Int) (wy : Nat) (vM : World) : Prop where
 len : ∀ k, k < s.n → (vals k).length = lenv s Anch Post k
 none : ∀ k, s.n ≤ k → vals k = []
 hwy : wy < s.M
 at_ : ∀ (k i : Nat) (x : Int), k < s.n → (vals k)[i]? = some x → ∃ q : Addr, ((phI s zN Anch Post).vs k)[i]? = some (Value.pointer (some q)) ∧ q.block < s.M ∧ q.block ≠ wy ∧ vM.cell? q = some (Value.int .i64 x)
set_option maxRecDepth 100000 in
set_option maxHeartbeats 4000000 in
theorem atOnceGoes (hX : ShunIn X s.Shun) (hXM : ∀ b, X b → b < s.M) (hk : (phI s zN Anch Post).Ok) (hB : s.M + 5 * s.n ≤ s.B) (hWM : s.Wg < s.M) (hlM : lb < s.M) (hlw : lb ≠ wy) {q : Nat} (hq : s.n = q + 1)
  (hz : ∀ k, s.ad k = none → s.len k = 0) (hn : ∀ k, s.len k < 9223372036854775807) (hNn : s.n ≤ N) (hN9 : N < 1000000) (hev : 2 * r = N) (hf0 : 0 ≤ first) (hf1 : first + (s.n : Int) < 9223372036854775807)
  (hL : LsM s Anch Post vals wy vM) (hv9 : ∀ k, (vals k).length ≤ 100000) (hsm : ∀ h, h ≤ N → (allOf s first vals h).length ≤ 900000)
  {bA : Frame} (hbA : bA.kind = .normal) {kA : List Item} {csA : List Frame}
  (hA : ∀ t al g w, FT s al wy N first N t → AnchW s.Wg (Fin s X first vals wy N vM al) (bA.at ⟨t, []⟩ (.inRegion (tk17 (sndOf spa)) [0] :: .code (sndOf (sndOf spa)) :: kA)) csA g w → Anch g w)
  {t : Array Value} (ht : FR s nilS lb lo cl wy N first 0 t) {w v : World} (hl : Like (s.Sd X 0) w v) (hsz : v.heap.size = s.M + 5 * 0) (hi : SpI s lb lo wy N first (fun v => ∀ b, b < s.M → b ≠ wy → v.heap[b]? = vM.heap[b]?) 0 v) (hlive : (phI s zN Anch Post).Live w) :
  Goes Try.prog true ((phI s zN Anch Post).Far 0) ((phI s zN Anch Post).DM 0) ((phI s zN Anch Post).U1 0 ((phI s zN Anch Post).Spawns ((phI s zN Anch Post).Takes (rem s.n (lenv s Anch Post) Ph.T00) Ph.T00) q)) 1000 (G (bA.at ⟨t, []⟩ (.code spc :: .inLoop spc :: .inBlock 0 :: .code spa :: kA)) csA) w := by
 have hwM := hL.hwy
 have key := spawns (s := s) (X := X) (z := zN) (al := nilS) (Anch := Anch) (Post := Post) (lo := lo) (cl := cl) (wy := wy) (N := N) (first := first) hX hXM hk hB hWM hwM hlM hlw (by omega) hz hn hNn (by omega) hf0 hf1
  (Rest := fun v => ∀ b, b < s.M → b ≠ wy → v.heap[b]? = vM.heap[b]?) (fun v v' e h b h1 h2 => (e b h1 h2).trans (h b h1 h2)) hbA (k := .inBlock 0 :: .code spa :: kA) (cs := csA)
  (Fin := (phI s zN Anch Post).Takes (rem s.n (lenv s Anch Post) Ph.T00) Ph.T00) (StF := (phI s zN Anch Post).TStop (rem s.n (lenv s Anch Post) Ph.T00) Ph.T00) (mF := 3 + 40 + 400 * r + 20)
  (fun g w m hg => ((phI s zN Anch Post).takes_iff _ _ _ _).2 ⟨m, hg⟩) (fun t w v ht hl hs hi hlive => ?_) q 0 (by omega) t w v ht hl hsz hi hlive
 ·exact key
 ·refine spOut hX (Inv := fun v => Hp.Blk v wy (wayC s first s.n N) 93 ∧ ∀ b, b < s.M → b ≠ wy → v.heap[b]? = vM.heap[b]?) (fun v v' e i => ⟨i.1.heap (by rw [e]), fun b h1 h2 => by rw [e]; exact i.2 b h1 h2⟩) hbA (k := kA) (fun t w v ht hl hs hi hlive => ?_) ht hl hs ⟨hi.ways, hi.rest⟩ hlive rfl rfl
  have hLv : Ls s Anch Post vals wy v := ⟨hL.len, hL.none, by omega, fun k i x hk hx => by
   obtain ⟨qa, h1, h2, h3, h4⟩ := hL.at_ k i x hk hx
   exact ⟨_, h1, by omega, h3, by rw [World.cell?, hi.2 _ h2 h3]; exact h4⟩⟩
  have hvs : s.M + 5 * s.n ≤ v.heap.size := Nat.le_of_eq hs.symm
  refine pairs (F := 3 + 40) hX hLv hv9 hN9 hsm hbA (kk := .inBlock 2 :: .code (sndOf spa) :: kA) (fun T al t w v' m hT hi' ht hl hlive _ => ?_) hNn r 0 Ph.T00 nilS w v t _ (by omega) (fun k _ => Nat.zero_le _) (fun k hk => by omega) (fun k _ => rfl)
   ⟨by rw [← wayC_T]; exact hi.1, Rw.Row.none iT v _, ⟨Nat.le_refl _, fun _ _ _ => rfl⟩⟩ ht hl hlive (Nat.le_refl _)
  refine tkOut hX (Inv := HI s Anch Post first wy N v T al (allOf s first vals N)) (fun v v' e i => i.heap e) hN9 (Nat.le_refl _) hbA (k := kA) (fun t w v' ht hl hi' hlive => ?_) ht hl hi' hlive rfl rfl
  refine goes_mono (St := (phI s zN Anch Post).V1) (fun g w hg => Or.inr ⟨hT, hg⟩) ?_
  exact waitStart (F := Fin s X first vals wy N vM al) (fun w w₁ hf => fin_far hf) (fun g w hg => hA t al g w ht hg) w
   ⟨⟨v', hl, hi'.ra.base fun g hg => by have := (hi'.ra.lt g hg).1; omega, Nat.le_trans hvs hi'.kh.size, fun b h1 h2 => by rw [hi'.kh.same b (by omega) h2]; exact hi.2 b h1 h2⟩, hlive⟩
end
end Go.Proofs.Ytilpedopnkhppaa.Mx

/- The phase of atOnce: what its machine's text asks for holds. Conditions: each theorem's own. -/
namespace Go.Proofs.Ytilpedopnkhppaa.Mx
open Go.Conc Go.Conc.Lib Br Go.RowKit Hp Rw Ro
open Go.ConcR (WgAt)
section
variable (s : Grp) (X : Sh) (first : Int) (vals : Nat → List Int) (wy N : Nat) (vM : World) (bA : Frame) (kA : List Item) (csA : List Frame)
def AnchG (g : Goroutine) (w : World) : Prop := ∃ t al, FT s al wy N first N t ∧ AnchW s.Wg (Fin s X first vals wy N vM al) (bA.at ⟨t, []⟩ (.inRegion (tk17 (sndOf spa)) [0] :: .code (sndOf (sndOf spa)) :: kA)) csA g w
def PostG (g : Goroutine) (w : World) : Prop := ∃ t al, FT s al wy N first N t ∧ PostW (Fin s X first vals wy N vM al) (G (bA.at (Act.put ⟨t, []⟩ (((tk17 (sndOf spa))[0]?).bind (·.dst)) (.tuple #[])) (.inRegion (tk17 (sndOf spa)) [] :: .code (sndOf (sndOf spa)) :: kA)) csA) g w
noncomputable abbrev phG : Ph := phI s zN (AnchG s X first vals wy N vM bA kA csA) (PostG s X first vals wy N vM bA kA csA)
end
section
variable {s : Grp} {X : Sh} {first : Int} {vals : Nat → List Int} {wy N : Nat} {vM : World} {bA : Frame} {kA : List Item} {csA : List Frame}
theorem elems0 (a : Option Addr) : Grp.elems a 0 = [] := by cases a <;> simp [Grp.elems]
theorem okG (hX : ShunIn X s.Shun) (hXM : ∀ b, X b → b < s.M) (hb : 1 ≤ s.b) (hn31 : s.n < 2147483648) (hB : s.M + 5 * s.n ≤ s.B) (hWM : s.Wg < s.M) (hWB : s.Wg < s.B) :
  (phG s X first vals wy N vM bA kA csA).Ok where
 b1 := hb
 n31 := hn31
 chInj := fun k k' _ _ h => by
  have : s.M + 5 * k + 1 = s.M + 5 * k' + 1 := h
  omega
 chWg := fun k _ h => by
  have : s.M + 5 * k + 1 = s.Wg := h
  omega
 kFar := fun k w w₁ hk hf hb => by
  have hk' : k < s.n := hk
  have nb : ∀ i, i < 5 → i ≠ 1 → w₁.heap[s.M + 5 * k + i]? = w.heap[s.M + 5 * k + i]? := fun i h5 h1 => hf.block _ (fun e => by have : s.M + 5 * k + i = s.Wg := e; omega) (fun k' _ e => by have : s.M + 5 * k + i = s.M + 5 * k' + 1 := e; omega)
  have hb' : s.Boxes _ _ _ k w := hb
  exact ⟨(nb 0 (by omega) (by omega)).trans hb'.l, (nb 2 (by omega) (by omega)).trans hb'.i, (nb 3 (by omega) (by omega)).trans hb'.g, (nb 4 (by omega) (by omega)).trans hb'.f⟩
 rdMem := fun k l h => by
  rcases h with rfl | ⟨a, rfl, _⟩ <;> rfl
 rdNo := fun k l h hs => by
  rcases h with rfl | ⟨a, rfl, h1, h2⟩
  ·rcases hs with hs | ⟨a, ha, _⟩
   ·obtain ⟨a, ha, _⟩ := hX _ hs
    cases ha
   ·cases ha
  ·rcases hs with hs | ⟨b, hb, hw⟩
   ·obtain ⟨b, hb, hx⟩ := hX _ hs
    cases hb
    have := hXM _ hx
    omega
   ·cases hb
    have : a.block = s.Wg := hw
    omega
 rdObj := fun k _ => Or.inl rfl
 lowWg := hWB
 chLow := fun k hk => by
  have hk' : k < s.n := hk
  show s.M + 5 * k + 1 < s.B
  omega
 capOk := fun k _ => by
  by_cases h0 : s.len k = 0
  ·left
   show Grp.elems (s.ad k) (s.len k) = []
   rw [h0, elems0]
  ·right
   show 1 ≤ min (s.len k) 64
   omega
 anRun := fun g w ⟨t, al, _, T, hg, _⟩ => by rw [hg]; rfl
 an := fun g w ⟨t, al, ht, hg⟩ =>
  waitRound (F := Fin s X first vals wy N vM al) hWB (fun k _ h => by
   rcases h with h | ⟨a, ha, h1, _⟩
   ·cases h
   ·cases ha
    have : s.M + 5 * k ≤ s.Wg := h1
    omega) (fun w w₁ hf => fin_far hf) (fun g w hg => ⟨t, al, ht, hg⟩) (fun g w hg => ⟨t, al, ht, hg⟩) g w hg
end
end Go.Proofs.Ytilpedopnkhppaa.Mx

/- The group that the laws' own awake starts: three lists, of two, none and one. Conditions: each theorem's own. -/
namespace Go.Proofs.Ytilpedopnkhppaa.Mx
open Go.Conc Go.Conc.Lib Br Go.RowKit Hp Rw Ro
open Go.ConcR (WgAt wgBlock)
def adA (H : Nat) (k : Nat) : Option Addr := if k = 0 then some ⟨H, 0, none⟩ else if k = 2 then some ⟨H + 1, 0, none⟩ else none
def lenA (k : Nat) : Nat := if k = 0 then 2 else if k = 2 then 1 else 0
def valsA (k : Nat) : List Int := if k = 0 then [1, 2] else if k = 2 then [3] else []
def gA (H : Nat) : Grp where
 M := H + 5
 Wg := H + 3
 b := 1
 n := 3
 B := H + 20
 Shun := fun _ => False
 ad := adA H
 len := lenA
 cp := lenA
def rowsA (H : Nat) : List Value := [.slice (some ⟨H, 0, none⟩) 2 2, .slice none 0 0, .slice (some ⟨H + 1, 0, none⟩) 1 1]
section
variable {H : Nat} {Anch Post : Goroutine → World → Prop} {v vM w W : World}
noncomputable def at2 : Code := sndOf (sndOf (Try.f26.body.getD .skip))
end
end Go.Proofs.Ytilpedopnkhppaa.Mx

/- awake's group, carried out by the machine: to behind Wait's acquire, where the senders only leave. Conditions: each theorem's own. -/
namespace Go.Proofs.Ytilpedopnkhppaa.Mx
open Go.Conc Go.Conc.Lib Br Go.RowKit Hp Rw Ro
open Go.ConcR (WgAt wgBlock)
@[reducible] def DA (H : Nat) (W : World) : Sh := (gA H).Sd (sh0 W) 3
structure Behind (H : Nat) (vM W : World) (al : Value) (w v : World) : Prop where
 like : Like (DA H W) w v
 row : Rw.Row iT v (H + 5) al [(0, 0, 1), (0, 1, 2), (2, 0, 3)]
 size : H + 20 ≤ v.heap.size
 same : ∀ b, b < H + 3 → v.heap[b]? = vM.heap[b]?
end Go.Proofs.Ytilpedopnkhppaa.Mx

/- Behind the group: back through atOnce and Gather to awake, beside the senders that only leave. Conditions: each theorem's own. -/
namespace Go.Proofs.Ytilpedopnkhppaa.Mx
open Go.Conc Go.Conc.Lib Br Go.RowKit Hp Rw Ro So
noncomputable def gaB : Code := Try.f9.body.getD .skip
noncomputable def gaL : Code := ((Try.f9.body.bind (findBody 0)).getD .skip)
def gaE : Code → Code
 | .seq _ (.seq _ (.seq _ r)) => r
 | c => c
def ga5 : Code → Array Oper
 | .seq _ (.seq (.block _ (.region _ ops _)) _) => ops
 | _ => #[]
def ga4 : Code → Code
 | .seq _ (.seq _ r) => r
 | c => c
noncomputable def awB : Code := Try.f8.body.getD .skip
def aw1 : Code → Array Oper
 | .seq _ (.seq (.region _ ops _) _) => ops
 | _ => #[]
def aw2 : Code → Code
 | .seq _ (.seq _ r) => r
 | c => c
inductive FG2 (H : Nat) (al : Value) : Array Value → Prop
 | mk (u1 u2 u5 u6 u7 u8 u9 u10 u11 u12 u13 u14 u15 u16 u17 u18 u19 u20 u21 u22 : Value) : FG2 H al #[.slice (some ⟨H + 2, 0, none⟩) 3 3, u1, u2, al, .int .i64 0, u5, u6, u7, u8, u9, u10, u11, u12, u13, u14, u15, u16, u17, u18, u19, u20, u21, u22]
section
variable {H : Nat} {vM W : World} {al : Value} {St : Goroutine → World → Prop} {m : Nat}
end
end Go.Proofs.Ytilpedopnkhppaa.Mx

/- awake behind its call of Gather, walked alone. Conditions: each theorem's own. -/
namespace Go.Proofs.Ytilpedopnkhppaa.Mx
open Go.Conc Go.Conc.Lib Br Go.RowKit Hp Rw Ro
def Rt (w : World) (_ : FuncId) (t : Array Value) (w' : World) : Prop := t.size = 79 ∧ t.getD 0 undef = .bool true ∧ Kept (fun _ => False) w w'
def a1 : ByteArray := ⟨#[97]⟩
def b1 : ByteArray := ⟨#[98]⟩
inductive FW (al : Value) : Array Value → Prop
 | mk (u2 u3 u4 u5 u6 u7 u8 u9 u10 u11 u12 u13 u14 u15 u16 u17 u18 u19 u20 u21 u22 u23 u24 u25 u26 u27 u28 u29 u30 u31 u32 u33 u34 u35 u36 u37 u38 u39 u40 u41 u42 u43 u44 u45 u46 u47 u48 u49 u50 u51 u52 u53 u54 u55 u56 u57 u58 u59 u60 u61 u62 u63 u64 u65 u66 u67 u68 u69 u70 u71 u72 u73 u74 u75 u76 u77 u78 : Value) : FW al #[.bool false, al, u2, u3, u4, u5, u6, u7, u8, u9, u10, u11, u12, u13, u14, u15, u16, u17, u18, u19, u20, u21, u22, u23, u24, u25, u26, u27, u28, u29, u30, u31, u32, u33, u34, u35, u36, u37, u38, u39, u40, u41, u42, u43, u44, u45, u46, u47, u48, u49, u50, u51, u52, u53, u54, u55, u56, u57, u58, u59, u60, u61, u62, u63, u64, u65, u66, u67, u68, u69, u70, u71, u72, u73, u74, u75, u76, u77, u78]
theorem squiet {w w' : World} {b c room : Nat} {ps : List Nat} {vs : List ByteArray} (h : MoS.Bx w b c room ps vs) (k : Kept (fun _ => False) w w') : MoS.Bx w' b c room ps vs := by
 obtain ⟨s, r, h2⟩ := h.chan
 exact ⟨k.blk h.box (fun f => f), ⟨s, r, (k.block c h.lt (fun f => f)).trans h2⟩, h.len, fun i p v h3 h4 => k.blk (h.cells i p v h3 h4) (fun f => f)⟩
set_option maxHeartbeats 4000000 in
set_option maxRecDepth 100000 in
theorem tail_wp {c : Code} (hc : aw2 awB = c) (w : World) {b : Nat} {al : Value} (hr : Rw.Row iT w b al [(0, 0, 1), (0, 1, 2), (2, 0, 3)]) {t : Array Value} (ht : FW al t) :
  c.wp Try.prog (fun e a' w' => (e = .ret ∨ e = .normal) ∧ Rt w 8 a'.tmps w') ⟨t, []⟩ w := by
 obtain ⟨u2, u3, u4, u5, u6, u7, u8, u9, u10, u11, u12, u13, u14, u15, u16, u17, u18, u19, u20, u21, u22, u23, u24, u25, u26, u27, u28, u29, u30, u31, u32, u33, u34, u35, u36, u37, u38, u39, u40, u41, u42, u43, u44, u45, u46, u47, u48, u49, u50, u51, u52, u53, u54, u55, u56, u57, u58, u59, u60, u61, u62, u63, u64, u65, u66, u67, u68, u69, u70, u71, u72, u73, u74, u75, u76, u77, u78⟩ := ht
 conv at hc => lhs; whnf
 subst hc
 rcases hr.form with ⟨_, h0⟩ | ⟨g, cap, cur, rfl, h1, hL⟩
 ·cases h0
 clear hr h1
 have hl3 : ([(0, 0, 1), (0, 1, 2), (2, 0, 3)] : List It).length = 3 := rfl
 rw [hl3]
 have HL := Lib.hid hL
 clear hL hl3
 go_wp2_with fail
 with_reducible refine Calls.mono (MoS.new_ok (by decide) (by decide) w) ?_
 rintro e w1 ⟨rfl, b1, k1, z1⟩
 have C2 := Lib.hid (Mo.new_bad (n := -1) (.inl (by decide)) w1)
 have C3 := Lib.hid (MoS.offer_room b1 (by decide) ⟨#[97]⟩)
 have K1 := Lib.hid k1
 clear b1 k1 z1
 go_wp2_with fail
 with_reducible refine Calls.mono C2.out ?_
 rintro e w2 ⟨rfl, rfl⟩
 clear C2
 go_wp2_with fail
 with_reducible refine Calls.mono C3.out ?_
 rintro e w3 ⟨rfl, b3, k3⟩
 clear C3
 have K3 := Lib.hid (K1.out.trans' k3 (fun i hi e => absurd (e ▸ hi) (by omega)))
 have C4 := Lib.hid (MoS.offer_full b3 (by decide) ⟨#[98]⟩)
 have B3 := Lib.hid b3
 clear b3 k3 K1
 go_wp2_with fail
 with_reducible refine Calls.mono C4.out ?_
 rintro e w4 ⟨rfl, k4⟩
 clear C4
 have C5 := Lib.hid (MoS.take_first (squiet B3.out k4))
 have K4 := Lib.hid (K3.out.trans k4)
 clear k4 K3 B3
 go_wp2_with fail
 with_reducible refine Calls.mono C5.out ?_
 rintro e w5 ⟨rfl, b5, k5⟩
 clear C5 b5
 have k := K4.out.trans' k5 (fun i hi e => absurd (e ▸ hi) (by omega))
 have L5 := HL.out.kept k (fun f => f)
 have c1 : w5.cell? ⟨g, 5, none⟩ = some (.int .i64 2) := L5.cell (i := 1) (j := 2) rfl rfl
 have c2 : w5.cell? ⟨g, 6, none⟩ = some (.int .i64 2) := L5.cell (i := 2) (j := 0) rfl rfl
 have c3 : w5.cell? ⟨g, 7, none⟩ = some (.int .i64 0) := L5.cell (i := 2) (j := 1) rfl rfl
 have HK := Lib.hid k
 clear L5 k k5 K4 HL
 go_wp2_with fail
 exact ⟨rfl, rfl, HK.out⟩
end Go.Proofs.Ytilpedopnkhppaa.Mx

/- awake behind its group: back to its text, and on to its return. Conditions: each theorem's own. -/
namespace Go.Proofs.Ytilpedopnkhppaa.Mx
open Go.Conc Go.Conc.Lib Br Go.RowKit Hp Rw Ro So
open Go.ConcN (sumTo upd sumTo_upd upd_ne upd_same)
inductive FAw : Array Value → Prop
 | mk (u1 u2 u3 u4 u5 u6 u7 u8 u9 u10 u11 u12 u13 u14 u15 u16 u17 u18 u19 u20 u21 u22 u23 u24 u25 u26 u27 u28 u29 u30 u31 u32 u33 u34 u35 u36 u37 u38 u39 u40 u41 u42 u43 u44 u45 u46 u47 u48 u49 u50 u51 u52 u53 u54 u55 u56 u57 u58 u59 u60 u61 u62 u63 u64 u65 u66 u67 u68 u69 u70 u71 u72 u73 u74 u75 u76 u77 u78 : Value) : FAw #[.bool false, u1, u2, u3, u4, u5, u6, u7, u8, u9, u10, u11, u12, u13, u14, u15, u16, u17, u18, u19, u20, u21, u22, u23, u24, u25, u26, u27, u28, u29, u30, u31, u32, u33, u34, u35, u36, u37, u38, u39, u40, u41, u42, u43, u44, u45, u46, u47, u48, u49, u50, u51, u52, u53, u54, u55, u56, u57, u58, u59, u60, u61, u62, u63, u64, u65, u66, u67, u68, u69, u70, u71, u72, u73, u74, u75, u76, u77, u78]
def AtRet (S : Sh) (K : World → Prop) (cs : List Frame) (g : Goroutine) (w : World) : Prop :=
 ∃ fr v, g = G fr cs ∧ fr.defers = [] ∧ fr.kind = .normal ∧ fr.roundOf = none ∧ fr.mode = .returning ∧ fr.fn = 8 ∧ fr.tmps.getD 0 undef = .bool true ∧ Like S w v ∧ K v
section
variable {H : Nat} {vM W : World} {al : Value}
theorem awOk : okCode Try.prog Mo.Fs (aw2 awB) = true := by kernel_rfl
end
end Go.Proofs.Ytilpedopnkhppaa.Mx

/- awake from its entry to the making of its group. Conditions: each theorem's own. -/
namespace Go.Proofs.Ytilpedopnkhppaa.Mx
open Go.Conc Go.Conc.Lib Br Go.RowKit Hp Rw Ro So
open Go.ConcN (sumTo upd sumTo_upd upd_ne upd_same)
noncomputable def atB : Code := Try.f26.body.getD .skip
section
variable (w : World) (f : Operand → Value)
theorem sl1 {b : Nat} (h1 : f (.tmp 13) = .slice (some ⟨b, 0, none⟩) 3 3) (h2 : f (.tmp 14) = .int .i64 0) (h3 : f (.tmp 19) = .int .i64 3) : (execOp f { dst := some 20, op := .slice 22 (.tmp 13) (some (.tmp 14)) (some (.tmp 19)) none, type := 22, pos := "mux.go:86", after := #[{ on := 2, ground := .data }, { on := 3, ground := .data }, { on := 8, ground := .data }], guard := none }).run Try.prog w = .ok (.value (.slice (some ⟨b, 0, none⟩) 3 3)) w := by
 have e : (Instr.slice 22 (.slice (some ⟨b, 0, none⟩) 3 3) (some (.int .i64 0)) (some (.int .i64 3)) none).run Try.prog w = .ok (.slice (some ⟨b, 0, none⟩) 3 3) w := by kernel_rfl
 simp [execOp, h1, h2, h3, go_sem, e]
theorem bs1 (h1 : f (.const (.int .i64 1)) = .int .i64 1) (h2 : f (.const (.int .i64 2)) = .int .i64 2) : (execOp f { dst := some 10, op := .buildSlice 28 2 #[(0, .const (.int .i64 1)), (1, .const (.int .i64 2))], type := 28, pos := "law.go:14", after := #[], guard := none }).run Try.prog w = .ok (.value (.slice (some ⟨w.heap.size, 0, none⟩) 2 2)) (w.alloc (.cells #[.int .i64 1, .int .i64 2] 3)) := by
 simp [execOp, h1, h2, go_sem]
theorem bs2 (h1 : f (.const (.int .i64 3)) = .int .i64 3) : (execOp f { dst := some 11, op := .buildSlice 28 1 #[(0, .const (.int .i64 3))], type := 28, pos := "law.go:14", after := #[], guard := none }).run Try.prog w = .ok (.value (.slice (some ⟨w.heap.size, 0, none⟩) 1 1)) (w.alloc (.cells #[.int .i64 3] 3)) := by
 simp [execOp, h1, go_sem]
theorem bs3 {a b : Option Addr} {n m : Nat} (h1 : f (.tmp 10) = .slice a n n) (h2 : f (.const (.slice none 0 0)) = .slice none 0 0) (h3 : f (.tmp 11) = .slice b m m) : (execOp f { dst := some 12, op := .buildSlice 22 3 #[(0, .tmp 10), (1, .const (.slice none 0 0)), (2, .tmp 11)], type := 22, pos := "law.go:14", after := #[{ on := 0, ground := .data }, { on := 1, ground := .data }], guard := none }).run Try.prog w = .ok (.value (.slice (some ⟨w.heap.size, 0, none⟩) 3 3)) (w.alloc (.cells #[.slice a n n, .slice none 0 0, .slice b m m] 28)) := by
 simp [execOp, h1, h2, h3, go_sem]
end
section
variable {H : Nat} {vI W : World} {St : Goroutine → World → Prop} {m : Nat}
end
end Go.Proofs.Ytilpedopnkhppaa.Mx

/- Gather from its entry to its call of atOnce; atOnce to the making of its group. Conditions: each theorem's own. -/
namespace Go.Proofs.Ytilpedopnkhppaa.Mx
open Go.Conc Go.Conc.Lib Br Go.RowKit Hp Rw Ro So
open Go.ConcN (sumTo upd sumTo_upd upd_ne upd_same)
section
variable {H : Nat} {vI W : World} {St : Goroutine → World → Prop} {m : Nat}
end
end Go.Proofs.Ytilpedopnkhppaa.Mx

/- atOnce to the making of its group; awake's way in as one. Conditions: each theorem's own. -/
namespace Go.Proofs.Ytilpedopnkhppaa.Mx
open Go.Conc Go.Conc.Lib Br Go.RowKit Hp Rw Ro So
open Go.ConcN (sumTo upd sumTo_upd upd_ne upd_same)
section
variable {H : Nat} {vI W : World} {St : Goroutine → World → Prop} {m : Nat}
end
end Go.Proofs.Ytilpedopnkhppaa.Mx

/- awake's group: made, carried out, and awake at its return. Conditions: each theorem's own. -/
namespace Go.Proofs.Ytilpedopnkhppaa.Mx
open Go.Conc Go.Conc.Lib Br Go.RowKit Hp Rw Ro So
open Go.ConcR (WgAt wgBlock)
open Go.ConcN (sumTo upd sumTo_upd upd_ne upd_same)
theorem step_plain {b : Frame} {a : Act} {ops : Array Oper} {i : Nat} {rest : List Nat} {k : List Item} {cs : List Frame} {w w' : World} {o : Oper} {y : Value} (ho : ops[i]? = some o) (hw : Region.wanted o (yielded ops a.tmps) = true) (hb : b.kind = .normal) (hr : (execOp a.eval o).runT Try.prog w #[] = (.ok (.value y) w', #[])) :
  stepG Try.prog true (G (b.at a (.inRegion ops (i :: rest) :: k)) cs) w = .go (G (b.at (a.put o.dst y) (.inRegion ops rest :: k)) cs) w' #[] := by
 rw [stepG_oper ho hw]
 have hR : (execOp a.eval o).run Try.prog w = .ok (.value y) w' := by rw [← Sem.runT_fst Try.prog _ w #[], hr]
 have hE : (execOp a.eval o).events Try.prog w #[] = #[] := by unfold Sem.events; rw [hr]
 have hf : (b.at a (.inRegion ops (i :: rest) :: k)).finish y = b.at (a.put o.dst y) (.inRegion ops rest :: k) := by rw [Frame.finish_at, ho]; rfl
 have hk' : ((b.at a (.inRegion ops (i :: rest) :: k)).kind == CallKind.early) = false := by
  show (b.kind == CallKind.early) = false
  rw [hb]; rfl
 simp [stepG.apply, hR, hE, GStep.after, hk', G, hf, seen_nil]
theorem alW (w : World) (f : Operand → Value) : (execOp f { dst := some 7, op := .alloc 90, type := 0, pos := "mux.go:65", after := #[], guard := none }).runT Try.prog w #[] = (.ok (.value (.pointer (some ⟨w.heap.size, 0, none⟩))) (w.alloc (wgBlock lnk.tWg 0 0)), #[]) := by kernel_rfl
end Go.Proofs.Ytilpedopnkhppaa.Mx

/- Gather of any lists, whole: from its entry to behind its call, whoever calls. Conditions: each theorem's own. -/
namespace Go.Proofs.Ytilpedopnkhppaa.MxS
open Go.Conc Go.Conc.Lib Br Go.RowKit Hp Rw Ro So Go.Proofs.Ytilpedopnkhppaa.Mx
open Go.ConcR (WgAt wgBlock)
open Go.ConcN (sumTo upd sumTo_upd upd_ne upd_same)
theorem at2_eq : aw2 atB = at2 := by kernel_rfl
theorem push_new {h : Array Obj} {o : Obj} {n : Nat} (hn : h.size = n) : (h.push o)[n]? = some o := by subst hn; simp
theorem al_step {b : Frame} (hb : b.kind = .normal) {tA : Array Value} {k : List Item} {cs : List Frame} (w : World) (d : Nat) : stepG Try.prog true (G (b.at ⟨tA, []⟩ (.inRegion (aw1 atB) [0] :: k)) cs) (w.at d) = .go (G (b.at (Act.put ⟨tA, []⟩ (some 7) (.pointer (some ⟨w.heap.size, 0, none⟩))) (.inRegion (aw1 atB) [] :: k)) cs) ((w.at d).alloc (wgBlock lnk.tWg 0 0)) #[] :=
 step_plain (o := ⟨some 7, .alloc 90, 0, "mux.go:65", #[], none⟩) (by kernel_rfl) rfl hb (alW (w.at d) _)
def wMN (v : World) : World := { v.alloc (wgBlock lnk.tWg 0 0) with heap := (v.alloc (wgBlock lnk.tWg 0 0)).heap.setIfInBounds v.heap.size (.coro none) }
section
variable {Z b n lb lo cl : Nat} {Shun : Loc → Prop} {X : Sh} {ad : Nat → Option Addr} {len cp : Nat → Nat} {vals : Nat → List ByteArray} {v vM w W : World} {al : Value}
theorem wMN_size (v : World) : (wMN v).heap.size = v.heap.size + 1 := by
 show ((v.heap.push _).setIfInBounds v.heap.size _).size = _
 simp
theorem wMN_old (v : World) {c : Nat} (hc : c < v.heap.size) : (wMN v).heap[c]? = v.heap[c]? := by
 show ((v.heap.push _).setIfInBounds v.heap.size _)[c]? = _
 rw [Array.getElem?_setIfInBounds_ne (by omega), push_old hc]
theorem like_wMN (hXM : ∀ c, X c → c < v.heap.size) (hl : Like X w v) (d : Nat) : Like ((gN v.heap.size b n Shun ad len cp).Sd X 0) ((w.at d).alloc (wgBlock lnk.tWg 0 0)) (wMN v) := by
 have hw : w.heap.size = v.heap.size := hl.size.symm
 have hsd : ∀ c, (gN v.heap.size b n Shun ad len cp).Sd X 0 c ↔ (X c ∨ c = v.heap.size) := fun c => ⟨fun h => by
  rcases h with h | h | ⟨k, h, _⟩
  ·exact .inl h
  ·exact .inr h
  ·omega, fun h => h.elim .inl fun h => .inr (.inl h)⟩
 refine ⟨by rw [wMN_size]; show _ = (w.heap.push _).size; simp [hw], hl.os, hl.out, hl.osx, hl.outx, fun c hc => ?_, fun c hc => ?_, fun c hc => ?_⟩
 ·have hc1 : ¬ X c := fun e => hc ((hsd c).2 (.inl e))
  have hc2 : c ≠ v.heap.size := fun e => hc ((hsd c).2 (.inr e))
  show ((v.heap.push _).setIfInBounds v.heap.size _)[c]? = (w.heap.push _)[c]?
  rw [Array.getElem?_setIfInBounds_ne (by omega)]
  rcases Nat.lt_or_ge c v.heap.size with hlt | hge
  ·rw [push_old hlt, push_old (by omega), hl.off c hc1]
  ·rw [Array.getElem?_eq_none (by simp only [Array.size_push]; omega), Array.getElem?_eq_none (by simp only [Array.size_push]; omega)]
 ·rcases (hsd c).1 hc with h | rfl
  ·show ((v.heap.push _).setIfInBounds v.heap.size _)[c]? = _
   have := hXM c h
   rw [Array.getElem?_setIfInBounds_ne (by omega), push_old this]
   exact hl.dead c h
  ·show ((v.heap.push _).setIfInBounds v.heap.size _)[v.heap.size]? = _
   rw [Array.getElem?_setIfInBounds_self_of_lt (by simp)]
 ·rcases (hsd c).1 hc with h | rfl
  ·obtain ⟨o, ho, hs⟩ := hl.solid c h
   have := hXM c h
   refine ⟨o, ?_, hs⟩
   show (w.heap.push _)[c]? = _
   rw [push_old (by omega)]
   exact ho
  ·refine ⟨wgBlock lnk.tWg 0 0, ?_, .inl ⟨_, _, rfl, by simp⟩⟩
   show (w.heap.push _)[v.heap.size]? = _
   rw [← hw]; simp
noncomputable def gaFN (t : Array Value) : Frame := (base 30).at ⟨t, []⟩ (.inRegion (ga5 gaL) [10, 11] :: .inBlock 1 :: .code (ga4 gaL) :: .inLoop gaL :: .inBlock 0 :: .code (gaE gaB) :: [])
def AtAllocN (lb lo n cl : Nat) (X : Sh) (hp : Array Obj) (cs : List Frame) (g : Goroutine) (w : World) : Prop :=
 ∃ tA tg v, g = G ((base 41).at ⟨tA, []⟩ (.inRegion (aw1 atB) [0] :: .code (aw2 atB) :: [])) (gaFN tg :: cs) ∧ FN0 lb lo n cl tA ∧ FGN lb lo n cl tg ∧ Like X w v ∧ v.heap = hp
theorem gatherEnter (h1 : 1 ≤ n) (h5 : n ≤ 500) (hcl : n ≤ cl) {cs : List Frame} (hl : Like X w v) :
  SG X (AtAllocN lb lo n cl X v.heap cs) ((0 + 10) + 60) (G ((base 30).at { tmps := #[.slice (some ⟨lb, lo, none⟩) n cl] ++ Array.replicate 22 undef, defers := [] } [.code gaB]) cs) w := by
 refine gatherInN h1 h5 hcl hl rfl rfl fun tg w2 v2 hg hl2 e2 => ?_
 refine atInN hl2 rfl fun tA w3 v3 hA hl3 e3 => ?_
 exact SG.stop fun w₁ hr => ⟨tA, tg, v3, rfl, hA, hg, (like_atR hr hl3).1, e3.trans e2⟩
theorem BehindN.at_ {w₁ : World} (h : BehindN Z n X vals vM al w v) (hr : AtR w w₁) : BehindN Z n X vals vM al w₁ v := ⟨(like_atR hr h.like).1, h.row, h.size, h.same⟩
def AfterN (Z n : Nat) (X : Sh) (vals : Nat → List ByteArray) (vM : World) (cb : Frame) (ac : Act) (opsc : Array Oper) (ic : Nat) (restc : List Nat) (kc : List Item) (cs : List Frame) (g : Goroutine) (w : World) : Prop :=
 ∃ al v, g = G (cb.at (ac.put ((opsc[ic]?).bind (·.dst)) al) (.inRegion opsc restc :: kc)) cs ∧ BehindN Z n X vals vM al w v
theorem gatherExit (h5 : n ≤ 500) {N : Nat} {tg : Array Value} (hg : FGN lb lo n cl tg) {cb : Frame} {ac : Act} {opsc : Array Oper} {ic : Nat} {restc : List Nat} {kc : List Item} {cs : List Frame} (hb : BehindN Z n X vals vM al w v) {t : Array Value} (ht : FT (gN Z b n Shun ad len cp) al (Z + 1) N 0 N t) {a : Goroutine}
  (hs : Slips a (G ((base 41).at (Act.put ⟨t, []⟩ (((tk17 (sndOf spa))[0]?).bind (·.dst)) (.tuple #[])) (.inRegion (tk17 (sndOf spa)) [] :: .code (sndOf (sndOf spa)) :: []))
   (gaFN tg :: cb.at ac (.inRegion opsc (ic :: restc) :: kc) :: cs))) : ∃ m, SG (DN Z n X) (AfterN Z n X vals vM cb ac opsc ic restc kc cs) m a w := by
 obtain ⟨m, hs⟩ := hs
 refine ⟨m + ((0 + 60) + 20), SG.slip ?_ hs⟩
 refine atOnceBackN ht (fun w v hb => ?_) hb rfl
 refine gatherBackN h5 hg (fun w v hb => ?_) hb rfl rfl
 exact SG.stop fun w₁ hr => ⟨al, v, rfl, hb.at_ hr⟩
theorem gatherLands (hX : ShunIn X Shun) (hXM : ∀ c, X c → c < v.heap.size) (hM : LL v.heap.size n lb lo ad len cp vals v) (hcl : n ≤ cl) {cb : Frame} {ac : Act} {opsc : Array Oper} {ic : Nat} {restc : List Nat} {kc : List Item} {cs : List Frame} {gs : Array Goroutine} {sl : Option (Nat × Nat)} {t : Trace} {q : Nat → Nat}
  (hl : Like X w v) (h0 : gs[0]? = some (G ((base 30).at { tmps := #[.slice (some ⟨lb, lo, none⟩) n cl] ++ Array.replicate 22 undef, defers := [] } [.code gaB]) (cb.at ac (.inRegion opsc (ic :: restc) :: kc) :: cs))) (hL : Leavers Try.prog t gs q) (hP : Past Shun w.heap.size t) :
  ∃ N gs' g w' sl' t' q', runNT Try.prog N (crowd gs w sl) t = (.next (crowd gs' w' sl'), t') ∧ gs'[0]? = some g ∧ AfterN v.heap.size n X vals v cb ac opsc ic restc kc cs g w' ∧ Leavers Try.prog t' gs' q' ∧ Past (fun l => Shun l ∨ OfG v.heap.size l) w'.heap.size t' := by
 obtain ⟨N1, gs1, g1, w1, sl1, t1, q1, r1, s1, h1, ⟨tA, tg, v1, rfl, hA, hg, hl1, e1⟩, hL1, hP1⟩ := goes_beside hX _ _ _ (gatherEnter hM.n1 hM.n5 hcl hl) _ gs w sl t q (atR_refl w) (Nat.le_refl _) h0 hL hP
 have ez : v1.heap.size = v.heap.size := by rw [e1]
 have hw1 : w1.heap.size = v1.heap.size := hl1.size.symm
 obtain ⟨N2, gs2, w2, sl2, t2, q2, r2, s2, h2, hL2, hP2, d2, rfl⟩ := quiet_step (K := fun w' => ∃ d, w' = (w1.at d).alloc (wgBlock lnk.tWg 0 0)) rfl (fun d => ⟨_, al_step rfl w1 d, d, rfl⟩) _ gs1 w1 sl1 t1 q1 (atR_refl w1) (Nat.le_refl _) h1 hL1 hP1
 obtain ⟨N3, gs3, w3, sl3, t3, q3, r3, s3, h3, hL3, hP3, d3, rfl⟩ := quiet_step (K := fun w' => ∃ d, w' = ((w1.at d2).alloc (wgBlock lnk.tWg 0 0)).at d) rfl (fun d => ⟨_, stepG_region_end, d, rfl⟩) _ gs2 _ sl2 t2 q2 (atR_refl _) (Nat.le_refl _) h2 hL2 hP2
 have hb1 : 1 ≤ gs3.size := (Array.getElem?_eq_some_iff.1 h3).1
 obtain ⟨tF, eF, hF⟩ : ∃ tF, Act.put ⟨tA, []⟩ (some 7) (.pointer (some ⟨w1.heap.size, 0, none⟩)) = ⟨tF, []⟩ ∧ FN v1.heap.size n lb lo cl tF := by
  rw [hw1]
  obtain ⟨u3, u4, u5, u6, u7, u8, u9, u10, u11, u12, u13, u14, u15, u16, u17, u18, u19, u20, u21, u22, u23, u24, u25, u26, u27, u28, u29, u30, u31, u32, u33, u34, u35, u36, u37, u38, u39, u40, u41, u42, u43, u44, u45, u46, u47, u48, u49, u50, u51, u52, u53, u54, u55, u56, u57, u58, u59, u60, u61, u62, u63, u64, u65, u66, u67, u68, u69, u70, u71, u72, u73, u74, u75, u76, u77, u78⟩ := hA
  exact ⟨_, rfl, .mk ..⟩
 rw [eF, at2_eq] at h3
 have hlk : Like ((gN v1.heap.size gs3.size n Shun ad len cp).Sd X 0) ((w1.at d2).alloc (wgBlock lnk.tWg 0 0)) (wMN v1) := like_wMN (fun c hc => by rw [ez]; exact hXM c hc) hl1 d2
 have hlk3 : Like ((gN v1.heap.size gs3.size n Shun ad len cp).Sd X 0) (((w1.at d2).alloc (wgBlock lnk.tWg 0 0)).at d3) (wMN v1) := like_at hlk d3
 have hwg : WgAt lnk.tWg v1.heap.size (((w1.at d2).alloc (wgBlock lnk.tWg 0 0)).at d3) 0 0 := by
  show (w1.heap.push _)[v1.heap.size]? = _
  rw [push_new hw1]
 have hM1 : LL v1.heap.size n lb lo ad len cp vals (wMN v1) := by
  rw [ez]
  exact hM.heap fun c hc => by rw [wMN_old v1 (by omega), e1]
 have hP3' : Past Shun v1.heap.size t3 := by rw [← hw1]; exact hP3
 obtain ⟨N4, m4, t4, r4, hD⟩ := groupRunsN (b := gs3.size) hX (fun c hc => by rw [ez]; exact hXM c hc) hb1 hM1 (wMN_size v1) hcl rfl (bA := base 41) rfl hF hlk3 hwg h3 rfl hL3 hP3' (sl := sl3)
 obtain ⟨gs5, w5, sl5, a5, q5, tT, al, v5, rfl, h5, hL5, hP5, hB, hT, hS⟩ := groupDoneN rfl hD
 obtain ⟨m, hG⟩ := gatherExit hM.n5 hg hB hT hS
 obtain ⟨N6, gs6, g6, w6, sl6, t6, q6, r6, s6, h6, ⟨al6, v6, e6, hB6⟩, hL6, hP6⟩ := goes_beside (shunN hX) _ _ _ hG _ gs5 w5 sl5 t4 q5 (atR_refl w5) (Nat.le_refl _) h5 hL5 hP5
 refine ⟨_, gs6, g6, w6, sl6, t6, q6, runNT_then r1 (runNT_then r2 (runNT_then r3 (runNT_then r4 r6))), h6, ?_, hL6, by rw [← ez]; exact hP6⟩
 rw [← ez]
 refine ⟨al6, v6, e6, hB6.like, hB6.row, hB6.size, fun c hc => ?_⟩
 rw [hB6.same c hc, wMN_old v1 hc, e1]
end
end Go.Proofs.Ytilpedopnkhppaa.MxS

/- Gather of any lists: the group is made and all senders are started. Conditions: each theorem's own. -/
namespace Go.Proofs.Ytilpedopnkhppaa.Mx
open Go.Conc Go.Conc.Lib Br Go.RowKit Hp Rw Ro
open Go.ConcR (WgAt wgBlock)
def gN (Z b n : Nat) (Shun : Loc → Prop) (ad : Nat → Option Addr) (len cp : Nat → Nat) : Grp where
 M := Z + 2
 Wg := Z
 b := b
 n := n
 B := Z + 2 + 5 * n
 Shun := Shun
 ad := ad
 len := len
 cp := cp
structure LL (Z n lb lo : Nat) (ad : Nat → Option Addr) (len cp : Nat → Nat) (vals : Nat → List Int) (v : World) : Prop where
 n1 : 1 ≤ n
 n5 : n ≤ 500
 l5 : ∀ k, len k ≤ 500
 lenq : ∀ k, k < n → (vals k).length = len k
 off : ∀ k, n ≤ k → vals k = []
 nil : ∀ k, ad k = none → len k = 0
 low : lb < Z
 row : ∀ k, k < n → v.cell? ⟨lb, lo + k, none⟩ = some (.slice (ad k) (len k) (cp k))
 at_ : ∀ (k i : Nat) (x : Int), k < n → (vals k)[i]? = some x → ∃ q : Addr, (Grp.elems (ad k) (len k))[i]? = some (Value.pointer (some q)) ∧ q.block < Z ∧ v.cell? q = some (Value.int .i64 x)
theorem LL.heap {Z n lb lo : Nat} {ad : Nat → Option Addr} {len cp : Nat → Nat} {vals : Nat → List Int} {v v' : World} (h : LL Z n lb lo ad len cp vals v) (e : ∀ b, b < Z → v'.heap[b]? = v.heap[b]?) : LL Z n lb lo ad len cp vals v' := by
 refine ⟨h.n1, h.n5, h.l5, h.lenq, h.off, h.nil, h.low, fun k hk => ?_, fun k i x hk hx => ?_⟩
 ·have := h.row k hk
  unfold World.cell? at this ⊢
  rw [e lb h.low]
  exact this
 ·obtain ⟨q, h1, h2, h3⟩ := h.at_ k i x hk hx
  refine ⟨q, h1, h2, ?_⟩
  unfold World.cell? at h3 ⊢
  rw [e _ h2]
  exact h3
theorem infoW : (Try.prog.info? 93).map (fun i => (i.zero, i.size, i.bytes)) = some (some (.agg #[.int .i64 0, .chan none, nilS]), 3, 40) := by kernel_rfl
theorem madeW (s : Grp) (first : Int) (N : Nat) (hN : N ≤ 1000) (w : World) : (Instr.makeSlice 91 (.int .i64 (N : Int)) (.int .i64 (N : Int))).run Try.prog w = .ok (.slice (some ⟨w.heap.size, 0, none⟩) N N) (w.alloc (.cells (wayC s first 0 N).toArray 93)) := by
 obtain ⟨ti, hti, hz0, hz1, hz2⟩ := info_parts infoW
 have := run_make (P := Try.prog) (w := w) 91 93 ti _ Try.underlying91 hti hz0 .i64 .i64 (N : Int) (N : Int) (by omega) (by omega) (by rw [hz2]; omega) (by omega)
 rw [Int.toNat_natCast, hz1] at this
 rw [this]
 have e : madeCells (Value.cells (.agg #[.int .i64 0, .chan none, nilS])) (N * 3) = (wayC s first 0 N).toArray := by
  apply Array.toList_inj.1
  apply List.ext_getElem?
  intro t
  by_cases ht : t < N * 3
  ·rw [wayC_get s first 0 (by omega)]
   unfold madeCells wayV
   rw [Array.toList_map, List.getElem?_map, Array.toList_range, List.getElem?_range ht, if_neg (by omega)]
   show some ((#[.int .i64 0, .chan none, nilS] : Array Value)[t % 3]!) = _
   rcases (show t % 3 = 0 ∨ t % 3 = 1 ∨ t % 3 = 2 by omega) with h | h | h <;> rw [h] <;> rfl
  ·rw [List.getElem?_eq_none (by rw [Array.length_toList, size_madeCells]; omega), List.getElem?_eq_none (by simp [wayC]; omega)]
 rw [e]
theorem items_le (f : Int) (l : List Int) : (itemsOf f l l.length).length ≤ l.length := by
 unfold itemsOf
 simp
theorem all_le {s : Grp} {first : Int} {vals : Nat → List Int} (h5 : ∀ k, (vals k).length ≤ 500) : ∀ h, (allOf s first vals h).length ≤ 500 * h := by
 intro h
 induction h with
 | zero => simp [allOf]
 | succ h ih =>
  rw [allOf_succ, List.length_append]
  have := items_le (wfN s first h) (vals h)
  have := h5 h
  omega
section
variable {Z b n N lb lo cl : Nat} {Shun : Loc → Prop} {X : Sh} {ad : Nat → Option Addr} {len cp : Nat → Nat} {vals : Nat → List Int} {Anch Post : Goroutine → World → Prop} {v vM w W : World}
theorem LL.five (h : LL Z n lb lo ad len cp vals v) (k : Nat) : (vals k).length ≤ 500 := by
 rcases Nat.lt_or_ge k n with hk | hk
 ·rw [h.lenq k hk]; exact h.l5 k
 ·rw [h.off k hk]; simp
theorem elems_len (a : Option Addr) {n : Nat} (h : a = none → n = 0) : (Grp.elems a n).length = n := by
 cases a with
 | none => rw [h rfl]; rfl
 | some a => simp [Grp.elems]
theorem lsN (h : LL Z n lb lo ad len cp vals vM) : LsM (gN Z b n Shun ad len cp) Anch Post vals (Z + 1) vM :=
 ⟨fun k hk => (h.lenq k hk).trans (elems_len (ad k) (h.nil k)).symm, h.off, show Z + 1 < Z + 2 by omega, fun k i x hk hx => by
  obtain ⟨q, h1, h2, h3⟩ := h.at_ k i x hk hx
  exact ⟨q, h1, show q.block < Z + 2 by omega, by omega, h3⟩⟩
inductive FN (Z n lb lo cl : Nat) : Array Value → Prop
 | mk (u3 u4 u5 u6 u8 u9 u10 u11 u12 u13 u14 u15 u16 u17 u18 u19 u20 u21 u22 u23 u24 u25 u26 u27 u28 u29 u30 u31 u32 u33 u34 u35 u36 u37 u38 u39 u40 u41 u42 u43 u44 u45 u46 u47 u48 u49 u50 u51 u52 u53 u54 u55 u56 u57 u58 u59 u60 u61 u62 u63 u64 u65 u66 u67 u68 u69 u70 u71 u72 u73 u74 u75 u76 u77 u78 : Value) : FN Z n lb lo cl #[nilS, .int .i64 0, .slice (some ⟨lb, lo, none⟩) n cl, u3, u4, u5, u6, .pointer (some ⟨Z, 0, none⟩), u8, u9, u10, u11, u12, u13, u14, u15, u16, u17, u18, u19, u20, u21, u22, u23, u24, u25, u26, u27, u28, u29, u30, u31, u32, u33, u34, u35, u36, u37, u38, u39, u40, u41, u42, u43, u44, u45, u46, u47, u48, u49, u50, u51, u52, u53, u54, u55, u56, u57, u58, u59, u60, u61, u62, u63, u64, u65, u66, u67, u68, u69, u70, u71, u72, u73, u74, u75, u76, u77, u78]
inductive FN2 (Z n N lb lo cl : Nat) : Array Value → Prop
 | mk (u3 u4 u5 u6 u9 u10 u11 u12 u13 u14 u15 u16 u17 u18 u19 u20 u21 u22 u23 u24 u25 u26 u27 u28 u29 u30 u31 u32 u33 u34 u35 u36 u37 u38 u39 u40 u41 u42 u43 u44 u45 u46 u47 u48 u49 u50 u51 u52 u53 u54 u55 u56 u57 u58 u59 u60 u61 u62 u63 u64 u65 u66 u67 u68 u69 u70 u71 u72 u73 u74 u75 u76 u77 u78 : Value) : FN2 Z n N lb lo cl #[nilS, .int .i64 0, .slice (some ⟨lb, lo, none⟩) n cl, u3, u4, u5, u6, .pointer (some ⟨Z, 0, none⟩), .slice (some ⟨Z + 1, 0, none⟩) N N, u9, u10, u11, u12, u13, u14, u15, u16, u17, u18, u19, u20, u21, u22, u23, u24, u25, u26, u27, u28, u29, u30, u31, u32, u33, u34, u35, u36, u37, u38, u39, u40, u41, u42, u43, u44, u45, u46, u47, u48, u49, u50, u51, u52, u53, u54, u55, u56, u57, u58, u59, u60, u61, u62, u63, u64, u65, u66, u67, u68, u69, u70, u71, u72, u73, u74, u75, u76, u77, u78]
theorem fr_of {s : Grp} (es : s.n = n) (eW : s.Wg = Z) : ∀ (u3 u4 u5 u6 u9 u10 u11 u12 u13 u14 u15 u16 u17 u18 u19 u20 u21 u25 u26 u27 u28 u29 u30 u31 u32 u33 u34 u35 u36 u37 u38 u39 u40 u41 u42 u43 u44 u45 u46 u47 u48 u49 u50 u51 u52 u53 u54 u55 u56 u57 u58 u59 u60 u61 u62 u63 u64 u65 u66 u67 u68 u69 u70 u71 u72 u73 u74 u75 u76 u77 u78 : Value), FR s nilS lb lo cl (Z + 1) N 0 0 #[nilS, .int .i64 0, .slice (some ⟨lb, lo, none⟩) n cl, u3, u4, u5, u6, .pointer (some ⟨Z, 0, none⟩), .slice (some ⟨Z + 1, 0, none⟩) N N, u9, u10, u11, u12, u13, u14, u15, u16, u17, u18, u19, u20, u21, .slice (some ⟨lb, lo, none⟩) n cl, .int .i64 (n : Int), .int .i64 0, u25, u26, u27, u28, u29, u30, u31, u32, u33, u34, u35, u36, u37, u38, u39, u40, u41, u42, u43, u44, u45, u46, u47, u48, u49, u50, u51, u52, u53, u54, u55, u56, u57, u58, u59, u60, u61, u62, u63, u64, u65, u66, u67, u68, u69, u70, u71, u72, u73, u74, u75, u76, u77, u78] := by
 intros
 subst es
 subst eW
 exact .mk ..
set_option maxRecDepth 100000 in
set_option maxHeartbeats 4000000 in
theorem groupStartN (hX : ShunIn X Shun) (hXM : ∀ b, X b → b < Z) (hk : (phI (gN Z b n Shun ad len cp) zN Anch Post).Ok) (hM : LL Z n lb lo ad len cp vals vM) (hs : vM.heap.size = Z + 1) (hcl : n ≤ cl) (hN : N = n + n % 2) {bA : Frame} (hbA : bA.kind = .normal) {csA : List Frame}
  (hA : ∀ t al g w, FT (gN Z b n Shun ad len cp) al (Z + 1) N 0 N t → AnchW Z (Fin (gN Z b n Shun ad len cp) X 0 vals (Z + 1) N vM al) (bA.at ⟨t, []⟩ (.inRegion (tk17 (sndOf spa)) [0] :: .code (sndOf (sndOf spa)) :: [])) csA g w → Anch g w)
  {t : Array Value} (ht : FN Z n lb lo cl t) (hl : Like ((gN Z b n Shun ad len cp).Sd X 0) w vM) (hlive : (phI (gN Z b n Shun ad len cp) zN Anch Post).Live w) {c : Code} (hc : at2 = c) :
  (phI (gN Z b n Shun ad len cp) zN Anch Post).Spawns ((phI (gN Z b n Shun ad len cp) zN Anch Post).Takes (rem n (lenv (gN Z b n Shun ad len cp) Anch Post) Ph.T00) Ph.T00) n (G (bA.at ⟨t, []⟩ [.code c]) csA) w := by
 obtain ⟨q, hq⟩ : ∃ q, n = q + 1 := ⟨n - 1, by have := hM.n1; omega⟩
 have hXM' : ∀ b, X b → b < Z + 2 := fun b hb => by have := hXM b hb; omega
 have h5 := hM.n5
 have n1 := hM.n1
 have hN2 : 2 * (N / 2) = N := by omega
 have hN9 : N ≤ 501 := by omega
 have hnN : n ≤ N := by omega
 have hlow := hM.low
 have hne : lb ≠ Z + 1 := by omega
 have MK := madeW (gN Z b n Shun ad len cp) 0 N (by omega)
 generalize hg : gN Z b n Shun ad len cp = s at *
 have es : s.n = n := by rw [← hg]; rfl
 have eM : s.M = Z + 2 := by rw [← hg]; rfl
 have eW : s.Wg = Z := by rw [← hg]; rfl
 have eB : s.B = Z + 2 + 5 * n := by rw [← hg]; rfl
 have eS : s.Shun = Shun := by rw [← hg]; rfl
 have ea : s.ad = ad := by rw [← hg]; rfl
 have el : s.len = len := by rw [← hg]; rfl
 have ec : s.cp = cp := by rw [← hg]; rfl
 have hXs : ShunIn X s.Shun := by rw [eS]; exact hX
 have hLs : LsM s Anch Post vals (Z + 1) vM := by rw [← hg]; exact lsN hM
 obtain ⟨u3, u4, u5, u6, u8, u9, u10, u11, u12, u13, u14, u15, u16, u17, u18, u19, u20, u21, u22, u23, u24, u25, u26, u27, u28, u29, u30, u31, u32, u33, u34, u35, u36, u37, u38, u39, u40, u41, u42, u43, u44, u45, u46, u47, u48, u49, u50, u51, u52, u53, u54, u55, u56, u57, u58, u59, u60, u61, u62, u63, u64, u65, u66, u67, u68, u69, u70, u71, u72, u73, u74, u75, u76, u77, u78⟩ := ht
 conv at hc => lhs; whnf
 subst hc
 have key : ∀ F g, (phI s zN Anch Post).Spawns F (q + 1) g w → (phI s zN Anch Post).Spawns F n g w := fun F g h => by rw [hq]; exact h
 rw [show rem n (lenv s Anch Post) Ph.T00 = rem s.n (lenv s Anch Post) Ph.T00 by rw [es]]
 refine key _ _ ?_
 refine ⟨8 + 2 + (3 + 2 + (1000 + 1 + 1) + 1 + 1) + 1, ?_⟩
 have e0 : s.n - (q + 1) = 0 := by omega
 show Goes Try.prog true ((phI s zN Anch Post).Far (s.n - (q + 1))) ((phI s zN Anch Post).DM (s.n - (q + 1))) ((phI s zN Anch Post).U1 (s.n - (q + 1)) _) _ _ _
 rw [e0]
 show MG (phI s zN Anch Post) 0 _ (8 + 2 + (3 + 2 + (1000 + 1 + 1) + 1 + 1) + 1) _ _
 refine MG.seq ?_
 refine m_region (s := s) (X := X) (j := 0) (m := 3 + 2 + (1000 + 1 + 1) + 1 + 1) (R := fun t v' => FN2 Z n N lb lo cl t ∧ v'.heap = vM.heap.push (.cells (wayC s 0 0 N).toArray 93))
  hXs hbA (by kernel_rfl) rfl hlive hl (fun v1 h1 => ?_) (fun a4 w4 v4 hd hi4 hl4 hR4 => ?_)
 ·have hh := Lib.hid (like_same hl h1)
  have HS := Lib.hid hs
  clear hA hM hk hLs hl hlive
  have eN : (n : Int) + (n : Int) % 2 = ((N : Nat) : Int) := by omega
  rw [← eN] at MK
  clear hq hN eN es eM eW eB eS ea el ec e0 hN2
  go_wp2
  have e : v1.heap.size = Z + 1 := by rw [hh.out, HS.out]
  simp only [e]
  exact ⟨.mk .., by simp only [World.alloc]; rw [hh.out]⟩
 obtain ⟨t4, d4⟩ := a4
 have hd1 : d4 = [] := hd
 subst hd1
 obtain ⟨ht, hv4⟩ := hR4
 obtain ⟨u3, u4, u5, u6, u9, u10, u11, u12, u13, u14, u15, u16, u17, u18, u19, u20, u21, u22, u23, u24, u25, u26, u27, u28, u29, u30, u31, u32, u33, u34, u35, u36, u37, u38, u39, u40, u41, u42, u43, u44, u45, u46, u47, u48, u49, u50, u51, u52, u53, u54, u55, u56, u57, u58, u59, u60, u61, u62, u63, u64, u65, u66, u67, u68, u69, u70, u71, u72, u73, u74, u75, u76, u77, u78⟩ := ht
 clear hd
 show MG (phI s zN Anch Post) 0 _ (3 + 2 + (1000 + 1 + 1) + 1 + 1) _ _
 refine MG.seq ?_
 refine MG.seq ?_
 refine m_region (s := s) (X := X) (j := 0) (m := 1000 + 1 + 1) (R := fun t v' => FR s nilS lb lo cl (Z + 1) N 0 0 t ∧ v'.heap = v4.heap)
  hXs hbA (by kernel_rfl) rfl hi4 hl4 (fun v1 h1 => ?_) (fun a5 w5 v5 hd hi5 hl5 hR5 => ?_)
 ·have hh := Lib.hid (like_same hl4 h1)
  clear hA hM hk hLs hl hlive MK
  have EF := fr_of (s := s) (lb := lb) (lo := lo) (cl := cl) (Z := Z) (N := N) es eW
  clear hq hN es eM eW eB eS ea el ec e0 hN2
  go_wp2
  exact hh.out.trans hv4
 obtain ⟨t5, d5⟩ := a5
 have hd1 : d5 = [] := hd
 subst hd1
 obtain ⟨ht5, hv5⟩ := hR5
 clear hd
 show MG (phI s zN Anch Post) 0 _ (1000 + 1 + 1) _ _
 refine MG.block ?_
 refine MG.loop ?_
 have hp : v5.heap = vM.heap.push (.cells (wayC s 0 0 N).toArray 93) := hv5.trans hv4
 have hold : ∀ b, b < Z + 1 → v5.heap[b]? = vM.heap[b]? := fun b hb => by rw [hp]; exact push_old (by rw [hs]; exact hb)
 have hsz : v5.heap.size = Z + 2 := by rw [hp, Array.size_push, hs]
 have C := hM.heap (v' := v5) fun b hb => hold b (by omega)
 have l5 : ∀ k, len k ≤ 500 := hM.l5
 refine atOnceGoes (s := s) (X := X) (first := 0) (vals := vals) (wy := Z + 1) (N := N) (vM := vM) (lb := lb) (lo := lo) (cl := cl) (r := N / 2) (kA := []) hXs (by rw [eM]; exact hXM') hk (by rw [eM, eB, es]; omega) (by rw [eM, eW]; omega) (by rw [eM]; omega) hne (q := q) (by rw [es]; exact hq)
  (by rw [ea, el]; exact hM.nil) (fun k => by rw [el]; have := l5 k; omega) (by rw [es]; exact hnN) (by omega) (by omega) (by decide) (by rw [es]; omega) hLs (fun k => by have := hM.five k; omega) (fun h hh => by have := all_le (s := s) (first := 0) hM.five h; omega) hbA (by rw [eW]; exact hA) ht5 hl5 (by rw [hsz, eM]) ⟨fun k hk => ?_, ?_, fun b h1 h2 => ?_⟩ hi5
 ·rw [ea, el, ec]
  exact C.row k (by omega)
 ·show Hp.Blk v5 (Z + 1) _ _
  have e : v5.heap[Z + 1]? = some (.cells (wayC s 0 0 N).toArray 93) := by rw [hp, ← hs]; simp
  exact e
 ·exact hold b (by omega)
end
end Go.Proofs.Ytilpedopnkhppaa.Mx

