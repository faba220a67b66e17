/- takeBoth whole: all that comes by a pair of ways is taken, in whatever order. Conditions: each theorem's own. -/
import Derived.Test.YtilpedopnkhppaaMfG16
import Derived.Test.YtilpedopnkhppaaMfG15
set_option linter.unusedVariables false
set_option linter.unusedSimpArgs false
namespace Go.Proofs.Ytilpedopnkhppaa.MxS
open Go.Conc Go.Conc.Lib Br Go.RowKit Hp Rw Ro Go.Proofs.Ytilpedopnkhppaa.Mx
section
variable {s : Grp} {X : Sh} {Anch Post : Goroutine → World → Prop} {first : Int} {vals : Nat → List ByteArray} {wy N : Nat} {v0 : World} {h : Nat} {al : Value} {L : List It}
noncomputable abbrev tbG (t : Array Value) (cs : List Frame) : Goroutine := G ((base 59).at ⟨t, []⟩ [.code tbc, .inLoop tbc, .inBlock 0]) cs
def Tle (s : Grp) (Anch Post : Goroutine → World → Prop) (T : Nat → Nat) : Prop := ∀ k, k < s.n → T k ≤ lenv s Anch Post k + 1
theorem Tle.upd {T : Nat → Nat} (hT : Tle s Anch Post T) {a : Nat} (h : T a ≤ lenv s Anch Post a) : Tle s Anch Post (Go.ConcN.upd T a (T a + 1)) := fun k hk => by
 unfold Go.ConcN.upd
 split
 ·rename_i e; subst e; omega
 ·exact hT k hk
theorem take_frame (p v : Value) (ok : Bool) : (#[p, v, .bool ok] ++ Array.replicate 30 undef : Array Value) = #[p, v, .bool ok, undef, undef, undef, undef, undef, undef, undef, undef, undef, undef, undef, undef, undef, undef, undef, undef, undef, undef, undef, undef, undef, undef, undef, undef, undef, undef, undef, undef, undef, undef] := by kernel_rfl
set_option maxRecDepth 100000 in
set_option maxHeartbeats 4000000 in
theorem fstOn (hX : ShunIn X s.Shun) (hL : Ls s Anch Post vals wy v0) (hv9 : ∀ k, (vals k).length ≤ 100000) (hN : h + 1 < N) {T : Nat → Nat} {u1 u2 : Value} {cs : List Frame} {F m' : Nat}
  (ih : ∀ u1' w v t, PI s Anch Post first vals wy N v0 h (Go.ConcN.upd T h (T h + 1)) u1' u2 al L v → FB wy h t → Like (s.Sd X s.n) w v → (phI s zN Anch Post).Live w → Goes Try.prog true ((phI s zN Anch Post).Far s.n) ((phI s zN Anch Post).DM s.n) ((phI s zN Anch Post).TStop m' (Go.ConcN.upd T h (T h + 1))) F (tbG t cs) w)
  {t : Array Value} {x y : Option Nat} (ht : FBs wy h x y t) {va : Value} {ok : Bool} (hn : h < s.n) (hnew : News (phI s zN Anch Post) T h va ok) {w v : World} (hi : PI s Anch Post first vals wy N v0 h T u1 u2 al L v) (hl : Like (s.Sd X s.n) w v) (hlive : (phI s zN Anch Post).Live w) :
  Goes Try.prog true ((phI s zN Anch Post).Far s.n) ((phI s zN Anch Post).DM s.n) ((phI s zN Anch Post).TStop m' (Go.ConcN.upd T h (T h + 1))) (F + 4 + 40 + 30) (G ((base 59).at (Act.put ⟨t, []⟩ (some 28) (.tuple #[.int .i64 0, .bool ok, va, zN])) (.inRegion (tb3 tbc) [1, 2, 3] :: .code (tb4 tbc) :: .inBlock 1 :: [.inLoop tbc, .inBlock 0])) cs) w := by
 obtain ⟨u2_, u3, u4, u5, u6, u7, u8, u9, u10, u11, u12, u13, u14, u15, u16, u17, u18, u19, u20, u21, u22, u24, u25, u26, u28, u29, u30, u31, u32, u33, u34, u35, u36, u37, u38, u39, u40, u41, u42, u43⟩ := ht
 refine selFst hX (fun v v' e i => i.heap e) rfl (b₀ := base 59) (k := [.inLoop tbc, .inBlock 0]) (Inv := PI s Anch Post first vals wy N v0 h T u1 u2 al L) (va := va) (vb := zN) (ok := ok) u2_ u3 u4 u5 u6 u7 u8 u9 u10 u11 u12 u13 u14 u15 u16 u17 u18 u19 u20 u21 u22 (.chan x) u24 u25 u26 (.chan y) u29 u30 u31 u32 u33 u34 u35 u36 u37 u38 u39 u40 u41 u42 u43 (fun t w v ht hl hi hlive => ?_) hl hi hlive rfl rfl
 rw [take_frame]
 rcases hnew with ⟨hv, rfl⟩ | ⟨hT, rfl, rfl⟩
 ·have hlt : T h < lenv s Anch Post h := (List.getElem?_eq_some_iff.1 hv).1
  have hlen := hL.len h hn
  obtain ⟨xv, hxv⟩ : ∃ xv, (vals h)[T h]? = some xv := ⟨_, List.getElem?_eq_getElem (by rw [hlen]; exact hlt)⟩
  obtain ⟨q, hq, hq1, hq2, hq3⟩ := hL.at_ h (T h) xv hn hxv
  obtain rfl : va = .pointer (some q) := by rw [hq] at hv; exact (Option.some.inj hv).symm
  obtain ⟨am, cc, hu, hcc, _⟩ := hi.r1.slice
  have hil : (itemsOf (wfN s first h) (vals h) (T h)).length = T h := by rw [itemsOf_len]; exact Nat.min_eq_left (by omega)
  rw [hil] at hu hcc
  subst hu
  refine takeVal hX (Inv := PI s Anch Post first vals wy N v0 h T (.slice am (T h) cc) u2 al L) (Inv' := fun u v => PI s Anch Post first vals wy N v0 h (Go.ConcN.upd T h (T h + 1)) u u2 al L v) (base := v0.heap.size) (l := itemsOf (wfN s first h) (vals h) (T h)) (q := q) (y := xv) (wf := wfN s first) (a := h)
   (fun v v' e i => i.heap e) (fun v i => i.ways) (by omega) (by rw [upd_comm (show h ≠ h + 1 by omega), Go.ConcN.upd_same]) hil (by have := hv9 h; omega)
   (fun v i => ⟨i.r1, i.kh.size, Nat.lt_of_lt_of_le hq1 i.kh.size, by rw [World.cell?, i.kh.same _ hq1 hq2]; exact hq3⟩) hq2 (fun g hg => ⟨fun e => by have := (hi.r1.lt g hg).1; have := hL.hwy; omega, fun e => by have := (hi.r1.lt g hg).1; omega⟩)
   (fun v v' w' i r k o => i.fst hL hN hn hxv r k o) (fun w v u hl hi hlive => ?_) hl hi hlive rfl
  exact backFst ht fun t ht => ih u w v t hi ht hl hlive
 ·show MG (phI s zN Anch Post) s.n _ (F + 4 + 40) _ _
  refine MG.le (m := F + 4 + 20) ?_ (by omega)
  refine takeShut hX (Inv := PI s Anch Post first vals wy N v0 h T u1 u2 al L) (Inv' := PI s Anch Post first vals wy N v0 h (Go.ConcN.upd T h (T h + 1)) u1 u2 al L) (fun v i => i.ways) (show h < N by omega) (fun v v' i b e z => i.shut hL (Or.inl rfl) hn hT b e z) (fun w v hl hi hlive => ?_) hl hi hlive rfl
  exact backFst ht fun t ht => ih u1 w v t hi ht hl hlive
set_option maxRecDepth 100000 in
set_option maxHeartbeats 4000000 in
theorem sndOn (hX : ShunIn X s.Shun) (hL : Ls s Anch Post vals wy v0) (hv9 : ∀ k, (vals k).length ≤ 100000) (hN : h + 1 < N) {T : Nat → Nat} {u1 u2 : Value} {cs : List Frame} {F m' : Nat}
  (ih : ∀ u2' w v t, PI s Anch Post first vals wy N v0 h (Go.ConcN.upd T (h + 1) (T (h + 1) + 1)) u1 u2' al L v → FB wy h t → Like (s.Sd X s.n) w v → (phI s zN Anch Post).Live w → Goes Try.prog true ((phI s zN Anch Post).Far s.n) ((phI s zN Anch Post).DM s.n) ((phI s zN Anch Post).TStop m' (Go.ConcN.upd T (h + 1) (T (h + 1) + 1))) F (tbG t cs) w)
  {t : Array Value} {x y : Option Nat} (ht : FBs wy h x y t) {va : Value} {ok : Bool} (hn : h + 1 < s.n) (hnew : News (phI s zN Anch Post) T (h + 1) va ok) {w v : World} (hi : PI s Anch Post first vals wy N v0 h T u1 u2 al L v) (hl : Like (s.Sd X s.n) w v) (hlive : (phI s zN Anch Post).Live w) :
  Goes Try.prog true ((phI s zN Anch Post).Far s.n) ((phI s zN Anch Post).DM s.n) ((phI s zN Anch Post).TStop m' (Go.ConcN.upd T (h + 1) (T (h + 1) + 1))) (F + 4 + 40 + 30) (G ((base 59).at (Act.put ⟨t, []⟩ (some 28) (.tuple #[.int .i64 1, .bool ok, zN, va])) (.inRegion (tb3 tbc) [1, 2, 3] :: .code (tb4 tbc) :: .inBlock 1 :: [.inLoop tbc, .inBlock 0])) cs) w := by
 obtain ⟨u2_, u3, u4, u5, u6, u7, u8, u9, u10, u11, u12, u13, u14, u15, u16, u17, u18, u19, u20, u21, u22, u24, u25, u26, u28, u29, u30, u31, u32, u33, u34, u35, u36, u37, u38, u39, u40, u41, u42, u43⟩ := ht
 refine selSnd hX (fun v v' e i => i.heap e) rfl (b₀ := base 59) (k := [.inLoop tbc, .inBlock 0]) (Inv := PI s Anch Post first vals wy N v0 h T u1 u2 al L) (va := zN) (vb := va) (ok := ok) u2_ u3 u4 u5 u6 u7 u8 u9 u10 u11 u12 u13 u14 u15 u16 u17 u18 u19 u20 u21 u22 (.chan x) u24 u25 u26 (.chan y) u29 u30 u31 u32 u33 u34 u35 u36 u37 u38 u39 u40 u41 u42 u43 (fun t w v ht hl hi hlive => ?_) hl hi hlive rfl rfl
 rw [take_frame]
 rcases hnew with ⟨hv, rfl⟩ | ⟨hT, rfl, rfl⟩
 ·have hlt : T (h + 1) < lenv s Anch Post (h + 1) := (List.getElem?_eq_some_iff.1 hv).1
  have hlen := hL.len (h + 1) hn
  obtain ⟨xv, hxv⟩ : ∃ xv, (vals (h + 1))[T (h + 1)]? = some xv := ⟨_, List.getElem?_eq_getElem (by rw [hlen]; exact hlt)⟩
  obtain ⟨q, hq, hq1, hq2, hq3⟩ := hL.at_ (h + 1) (T (h + 1)) xv hn hxv
  obtain rfl : va = .pointer (some q) := by rw [hq] at hv; exact (Option.some.inj hv).symm
  obtain ⟨am, cc, hu, hcc, _⟩ := hi.r2.slice
  have hil : (itemsOf (wfN s first (h + 1)) (vals (h + 1)) (T (h + 1))).length = T (h + 1) := by rw [itemsOf_len]; exact Nat.min_eq_left (by omega)
  rw [hil] at hu hcc
  subst hu
  refine takeVal hX (Inv := PI s Anch Post first vals wy N v0 h T u1 (.slice am (T (h + 1)) cc) al L) (Inv' := fun u v => PI s Anch Post first vals wy N v0 h (Go.ConcN.upd T (h + 1) (T (h + 1) + 1)) u1 u al L v) (base := v0.heap.size) (l := itemsOf (wfN s first (h + 1)) (vals (h + 1)) (T (h + 1))) (q := q) (y := xv) (wf := wfN s first) (a := h + 1)
   (fun v v' e i => i.heap e) (fun v i => i.ways) (by omega) (by rw [Go.ConcN.upd_same]) hil (by have := hv9 (h + 1); omega)
   (fun v i => ⟨i.r2, i.kh.size, Nat.lt_of_lt_of_le hq1 i.kh.size, by rw [World.cell?, i.kh.same _ hq1 hq2]; exact hq3⟩) hq2 (fun g hg => ⟨fun e => by have := (hi.r2.lt g hg).1; have := hL.hwy; omega, fun e => by have := (hi.r2.lt g hg).1; omega⟩)
   (fun v v' w' i r k o => i.snd hL hN hn hxv r k o) (fun w v u hl hi hlive => ?_) hl hi hlive rfl
  exact backSnd ht fun t ht => ih u w v t hi ht hl hlive
 ·show MG (phI s zN Anch Post) s.n _ (F + 4 + 40) _ _
  refine MG.le (m := F + 4 + 20) ?_ (by omega)
  refine takeShut hX (Inv := PI s Anch Post first vals wy N v0 h T u1 u2 al L) (Inv' := PI s Anch Post first vals wy N v0 h (Go.ConcN.upd T (h + 1) (T (h + 1) + 1)) u1 u2 al L) (fun v i => i.ways) (show h + 1 < N by omega) (fun v v' i b e z => i.shut hL (Or.inr rfl) hn hT b e z) (fun w v hl hi hlive => ?_) hl hi hlive rfl
  exact backSnd ht fun t ht => ih u2 w v t hi ht hl hlive
theorem tdone {T : Nat → Nat} {k : Nat} (hT : Tle s Anch Post T) (hk : k < s.n) (hc : ¬ (phI s zN Anch Post).opn T k) : T k = lenv s Anch Post k + 1 := by
 have h1 := hT k hk
 have h2 : ¬ T k ≤ lenv s Anch Post k := fun e => hc ⟨hk, e⟩
 omega
theorem far_on {w w₁ v : World} (hf : (phI s zN Anch Post).Far s.n w w₁) (hl : Like (s.Sd X s.n) w v) : Like (s.Sd X s.n) w₁ v := (sd_rely hf hl).1
set_option maxRecDepth 100000 in
set_option maxHeartbeats 4000000 in
theorem both (hX : ShunIn X s.Shun) (hL : Ls s Anch Post vals wy v0) (hv9 : ∀ k, (vals k).length ≤ 100000) (hN : h + 1 < N) {bA : Frame} {tc : Array Value} {kA : List Item} {csA : List Frame} {F : Nat} (htc : FP s al wy N first h tc) {T0 : Nat → Nat}
  (hend : ∀ T u1 u2 tc w v m, Tle s Anch Post T → (∀ k, k ≠ h → k ≠ h + 1 → T k = T0 k) → ¬ (phI s zN Anch Post).opn T h → ¬ (phI s zN Anch Post).opn T (h + 1) → PI s Anch Post first vals wy N v0 h T u1 u2 al L v → FP s al wy N first h tc → Like (s.Sd X s.n) w v → (phI s zN Anch Post).Live w → rem s.n (lenv s Anch Post) T ≤ m →
   Goes Try.prog true ((phI s zN Anch Post).Far s.n) ((phI s zN Anch Post).DM s.n) ((phI s zN Anch Post).TStop m T) F (G (bA.at ⟨tc, []⟩ kA) csA) w) :
  ∀ c T u1 u2 w v t m, rem s.n (lenv s Anch Post) T = c → c ≤ m → Tle s Anch Post T → (∀ k, k ≠ h → k ≠ h + 1 → T k = T0 k) → PI s Anch Post first vals wy N v0 h T u1 u2 al L v → FB wy h t → Like (s.Sd X s.n) w v → (phI s zN Anch Post).Live w →
   Goes Try.prog true ((phI s zN Anch Post).Far s.n) ((phI s zN Anch Post).DM s.n) ((phI s zN Anch Post).TStop m T) (F + 40) (tbG t (bA.at ⟨tc, []⟩ (.inRegion (tk14 tkc) [2] :: kA) :: csA)) w := by
 intro c
 induction c with
 | zero =>
  intro T u1 u2 w v t m hc hm hT h0 hi ht hl hlive
  have no : ∀ k, ¬ (phI s zN Anch Post).opn T k := fun k ⟨h1, h2⟩ => by
   have := rem_upd (n := s.n) (len := lenv s Anch Post) (T := T) (k := k) h2 (show k < s.n from h1)
   omega
  show MG (phI s zN Anch Post) s.n _ (F + 40) _ _
  refine MG.le (m := F + 30) ?_ (by omega)
  exact tbOut hX (fun v v' e i => i.heap e) (Inv := PI s Anch Post first vals wy N v0 h T u1 u2 al L) (fun v i => i.ways) hN (wcT_none (no h)) (wcT_none (no (h + 1))) htc
   (fun t w v ht hl hi hlive => hend T u1 u2 t w v m hT h0 (no h) (no (h + 1)) hi ht hl hlive (by omega)) ht hl hi hlive rfl
 | succ c ih =>
  intro T u1 u2 w v t m hc hm hT h0 hi ht hl hlive
  show MG (phI s zN Anch Post) s.n _ (F + 40) _ _
  by_cases ho : (phI s zN Anch Post).opn T h ∨ (phI s zN Anch Post).opn T (h + 1)
  ·refine MG.le (m := 0 + 40) ?_ (by omega)
   obtain ⟨m', rfl⟩ : ∃ m', m = m' + 1 := ⟨m - 1, by omega⟩
   refine tbSel hX (fun v v' e i => i.heap e) (Inv := PI s Anch Post first vals wy N v0 h T u1 u2 al L) (fun v i => i.ways) hN ?_ rfl (k := [.inLoop tbc, .inBlock 0]) (fun t w v ht hl hi hlive => ?_) ht hl hi hlive rfl
   ·rcases ho with ho | ho
    ·left; rw [wcT_some ho]; exact Option.some_ne_none _
    ·right; rw [wcT_some ho]; exact Option.some_ne_none _
   ·intro w₁ hw₁
    refine Or.inl ⟨m', rfl, selAt ht ho rfl (fun va ok w₂ hk hnew hw₂ => ?_) (fun va ok w₂ hk hnew hw₂ => ?_)⟩
    ·have hTk : T h ≤ lenv s Anch Post h := by
      rcases hnew with ⟨h1, _⟩ | ⟨h1, _⟩
      ·exact Nat.le_of_lt (List.getElem?_eq_some_iff.1 h1).1
      ·exact Nat.le_of_eq h1
     have hr := rem_upd (len := lenv s Anch Post) (T := T) (k := h) hTk hk
     refine ((phI s zN Anch Post).takes_iff _ _ _ _).2 ⟨_, fstOn (al := al) (L := L) (F := F + 40) hX hL hv9 hN (fun u1' w v t hi ht hl hlive => ?_) ht hk hnew hi (far_on hw₂ (far_on hw₁ hl)) (hw₂.live (hw₁.live hlive))⟩
     exact ih _ _ _ _ _ _ _ (by omega) (by omega) (hT.upd hTk) (fun k h1 h2 => by rw [Go.ConcN.upd_ne _ _ h1]; exact h0 k h1 h2) hi ht hl hlive
    ·have hTk : T (h + 1) ≤ lenv s Anch Post (h + 1) := by
      rcases hnew with ⟨h1, _⟩ | ⟨h1, _⟩
      ·exact Nat.le_of_lt (List.getElem?_eq_some_iff.1 h1).1
      ·exact Nat.le_of_eq h1
     have hr := rem_upd (len := lenv s Anch Post) (T := T) (k := h + 1) hTk hk
     refine ((phI s zN Anch Post).takes_iff _ _ _ _).2 ⟨_, sndOn (al := al) (L := L) (F := F + 40) hX hL hv9 hN (fun u2' w v t hi ht hl hlive => ?_) ht hk hnew hi (far_on hw₂ (far_on hw₁ hl)) (hw₂.live (hw₁.live hlive))⟩
     exact ih _ _ _ _ _ _ _ (by omega) (by omega) (hT.upd hTk) (fun k h1 h2 => by rw [Go.ConcN.upd_ne _ _ h2]; exact h0 k h1 h2) hi ht hl hlive
  ·refine MG.le (m := F + 30) ?_ (by omega)
   have n1 : ¬ (phI s zN Anch Post).opn T h := fun e => ho (Or.inl e)
   have n2 : ¬ (phI s zN Anch Post).opn T (h + 1) := fun e => ho (Or.inr e)
   exact tbOut hX (fun v v' e i => i.heap e) (Inv := PI s Anch Post first vals wy N v0 h T u1 u2 al L) (fun v i => i.ways) hN (wcT_none n1) (wcT_none n2) htc
    (fun t w v ht hl hi hlive => hend T u1 u2 t w v m hT h0 n1 n2 hi ht hl hlive (by omega)) ht hl hi hlive rfl
end
end Go.Proofs.Ytilpedopnkhppaa.MxS

/- atOnce out of its second loop, to Wait's entry, in company. Conditions: each theorem's own. -/
namespace Go.Proofs.Ytilpedopnkhppaa.MxS
open Go.Conc Go.Conc.Lib Br Go.Proofs.Ytilpedopnkhppaa.Mx
def tk17 : Code → Array Oper
 | .seq (.region _ ops _) _ => ops
 | _ => #[]
section
variable {s : Grp} {X : Sh} {z al : Value} {Anch Post : Goroutine → World → Prop} {wy N h : Nat} {first : Int}
set_option maxRecDepth 100000 in
set_option maxHeartbeats 4000000 in
theorem tkOut (hX : ShunIn X s.Shun) {Inv : World → Prop} (hI : ∀ v v' : World, v'.heap = v.heap → Inv v → Inv v') (hN9 : N < 1000000) (hN : N ≤ h) {b₀ : Frame} (hb₀ : b₀.kind = .normal) {k : List Item} {cs : List Frame} {St : Goroutine → World → Prop} {m : Nat}
  (hnext : ∀ t w v, FT s al wy N first h t → Like (s.Sd X s.n) w v → Inv v → (phI s z Anch Post).Live w → Goes Try.prog true ((phI s z Anch Post).Far s.n) ((phI s z Anch Post).DM s.n) St m (G ((base 36).at ⟨#[.pointer (some s.wga)] ++ Array.replicate 83 undef, []⟩ [.code (Try.f36.body.getD .skip)]) (b₀.at ⟨t, []⟩ (.inRegion (tk17 (sndOf spa)) [0] :: .code (sndOf (sndOf spa)) :: k) :: cs)) w)
  {t : Array Value} {w v : World} (ht : FT s al wy N first h t) (hl : Like (s.Sd X s.n) w v) (hi : Inv v) (hlive : (phI s z Anch Post).Live w) {c ca : Code} (hc : tkc = c) (hca : sndOf spa = ca) :
  Goes Try.prog true ((phI s z Anch Post).Far s.n) ((phI s z Anch Post).DM s.n) St (m + 40) (G (b₀.at ⟨t, []⟩ (.code c :: .inLoop c :: .inBlock 2 :: .code ca :: k)) cs) w := by
 obtain ⟨u2, u3, u4, u5, u6, u9, u10, u11, u13, u14, u15, u16, u17, u18, u19, u20, u21, u22, u23, u24, u25, u26, u27, u28, u29, u30, u31, u32, u33, u34, u35, u36, u37, u38, u39, u40, u41, u42, u43, u44, u45, u46, u47, u48, u49, u50, u51, u52, u53, u54, u55, u56, u57, u58, u59, u60, u61, u62, u63, u64, u65, u66, u67, u68, u69, u70, u71, u72, u73, u74, u75, u76, u77, u78⟩ := ht
 conv at hc => lhs; whnf
 subst hc
 conv at hca => lhs; whnf
 subst hca
 show MG (phI s z Anch Post) s.n _ (m + 40) _ _
 refine MG.le (m := 4 + 2 + (m + 1 + 1 + 1 + 1 + 1) + 1 + 1) ?_ (by omega)
 refine MG.seq ?_
 refine MG.seq ?_
 refine m_region (m := m + 1 + 1 + 1 + 1 + 1) (R := fun t v' => t = #[al, .int .i64 first, u2, u3, u4, u5, u6, .pointer (some s.wga), .slice (some ⟨wy, 0, none⟩) N N, u9, u10, u11, .int .i64 (h : Int), u13, u14, u15, u16, u17, u18, u19, u20, u21, u22, u23, u24, u25, u26, u27, u28, u29, u30, u31, u32, u33, u34, u35, u36, u37, u38, u39, u40, u41, u42, u43, .int .i64 (h : Int), .slice (some ⟨wy, 0, none⟩) N N, .int .i64 (N : Int), .bool false, u48, u49, u50, u51, u52, u53, u54, u55, u56, u57, u58, u59, u60, u61, u62, u63, u64, u65, u66, u67, u68, u69, u70, u71, u72, u73, u74, u75, u76, u77, u78] ∧ v'.heap = v.heap)
  hX hb₀ (by kernel_rfl) rfl hlive hl (fun v1 h1 => ?_) (fun a4 w4 v4 hd hi4 hl4 hR4 => ?_)
 ·have hh := Lib.hid (like_same hl h1)
  have hjn : ¬ (h : Int) < (N : Int) := by omega
  clear h1 hl hi hnext
  go_wp2
  exact hh.out
 obtain ⟨t4, d4⟩ := a4
 have hd1 : d4 = [] := hd
 subst hd1
 obtain ⟨ht, hv4⟩ := hR4
 have ht1 : t4 = #[al, .int .i64 first, u2, u3, u4, u5, u6, .pointer (some s.wga), .slice (some ⟨wy, 0, none⟩) N N, u9, u10, u11, .int .i64 (h : Int), u13, u14, u15, u16, u17, u18, u19, u20, u21, u22, u23, u24, u25, u26, u27, u28, u29, u30, u31, u32, u33, u34, u35, u36, u37, u38, u39, u40, u41, u42, u43, .int .i64 (h : Int), .slice (some ⟨wy, 0, none⟩) N N, .int .i64 (N : Int), .bool false, u48, u49, u50, u51, u52, u53, u54, u55, u56, u57, u58, u59, u60, u61, u62, u63, u64, u65, u66, u67, u68, u69, u70, u71, u72, u73, u74, u75, u76, u77, u78] := ht
 subst ht1
 clear ht hd
 show MG (phI s z Anch Post) s.n _ (m + 1 + 1 + 1 + 1 + 1) _ _
 refine MG.condF rfl ?_
 refine MG.exit rfl ?_
 refine MG.seq ?_
 refine MG.reg ?_
 refine MG.call' (f := 36) (vals := #[.pointer (some s.wga)]) rfl rfl hb₀ rfl Try.func36 (by kernel_rfl) rfl (by simp [Act.eval]) ?_
 exact hnext _ w4 v4 (.mk ..) hl4 (hI v v4 hv4 hi) hi4
end
end Go.Proofs.Ytilpedopnkhppaa.MxS

/- A pair's end: what came is forgotten in the ways; on by two; in company. Conditions: each theorem's own. -/
namespace Go.Proofs.Ytilpedopnkhppaa.MxS
open Go.Conc Go.Conc.Lib Br Go.Proofs.Ytilpedopnkhppaa.Mx
section
variable {s : Grp} {X : Sh} {z al : Value} {Anch Post : Goroutine → World → Prop} {wy N h : Nat} {first : Int} {wf : Nat → Int} {wc : Nat → Option Nat} {wm : Nat → Value}
set_option maxRecDepth 100000 in
set_option maxHeartbeats 4000000 in
theorem pairEnd (hX : ShunIn X s.Shun) {Inv Inv' : World → Prop} (hN9 : N < 1000000) (hi2 : h + 1 < N) (hW : ∀ v, Inv v → Hp.Blk v wy (wayT wf wc wm N) 117)
  (hI : ∀ v v', Inv v → Hp.Blk v' wy (wayT wf wc (Go.ConcN.upd (Go.ConcN.upd wm h (.slice none 0 0)) (h + 1) (.slice none 0 0)) N) 117 → (∀ b, b ≠ wy → v'.heap[b]? = v.heap[b]?) → v'.heap.size = v.heap.size → Inv' v')
  {b₀ : Frame} (hb₀ : b₀.kind = .normal) {k : List Item} {cs : List Frame} {St : Goroutine → World → Prop} {m : Nat}
  (hnext : ∀ t w v, FT s al wy N first (h + 2) t → Like (s.Sd X s.n) w v → Inv' v → (phI s z Anch Post).Live w → Goes Try.prog true ((phI s z Anch Post).Far s.n) ((phI s z Anch Post).DM s.n) St m (G (b₀.at ⟨t, []⟩ (.code tkc :: .inLoop tkc :: k)) cs) w)
  {t : Array Value} {w v : World} (ht : FP s al wy N first h t) (hl : Like (s.Sd X s.n) w v) (hi : Inv v) (hlive : (phI s z Anch Post).Live w) {c ca : Code} (hc : sndOf (tk15 tkc) = c) (hca : tk12 tkc = ca) :
  Goes Try.prog true ((phI s z Anch Post).Far s.n) ((phI s z Anch Post).DM s.n) St (m + 40) (G (b₀.at ⟨t, []⟩ (.code c :: .inBlock 3 :: .code ca :: .inLoop tkc :: k)) cs) w := by
 obtain ⟨u2, u3, u4, u5, u6, u9, u10, u11, u15, u16, u17, u18, u19, u20, u21, u22, u23, u24, u25, u26, u27, u28, u29, u30, u31, u32, u33, u34, u35, u36, u37, u38, u39, u40, u41, u42, u43, u44, u45, u46, u47, u48, u49, u50, u51, u52, u53, u54, u55, u56, u57, u58, u59, u60, u61, u62, u63, u64, u65, u66, u67, u68, u69, u70, u71, u72, u73, u74, u75, u76, u77, u78⟩ := ht
 conv at hc => lhs; whnf
 subst hc
 conv at hca => lhs; whnf
 subst hca
 show MG (phI s z Anch Post) s.n _ (m + 40) _ _
 refine MG.le (m := 8 + 2 + (3 + 2 + (m + 1) + 1)) ?_ (by omega)
 refine m_region (m := 3 + 2 + (m + 1) + 1) (R := fun t v' => FP s al wy N first h t ∧ Hp.Blk v' wy (wayT wf wc (Go.ConcN.upd (Go.ConcN.upd wm h (.slice none 0 0)) (h + 1) (.slice none 0 0)) N) 117 ∧ (∀ b, b ≠ wy → v'.heap[b]? = v.heap[b]?) ∧ v'.heap.size = v.heap.size)
  hX hb₀ (by kernel_rfl) rfl hlive hl (fun v1 h1 => ?_) (fun a4 w4 v4 hd hi4 hl4 hR4 => ?_)
 ·have hh := Lib.hid (like_same hl h1)
  have B := (hW v hi).heap (w' := v1) (by rw [hh.out])
  have f1 : v1.cell? ⟨wy, h * 3 + 2, none⟩ = some (wm h) := B.cell (by rw [Nat.mul_comm h 3]; exact wayT_m (by omega))
  have z1 := B.frozen (h * 3 + 2)
  have B1 := B.set (h * 3 + 2) (.slice none 0 0)
  rw [show h * 3 + 2 = 3 * h + 2 by omega, wayT_setm (by omega), show 3 * h + 2 = h * 3 + 2 by omega] at B1
  have f2 : (v1.setCell ⟨wy, h * 3 + 2, none⟩ (.slice none 0 0)).cell? ⟨wy, (h + 1) * 3 + 2, none⟩ = some (wm (h + 1)) := B1.cell (by rw [Nat.mul_comm (h + 1) 3, wayT_m (by omega)]; simp [Go.ConcN.upd])
  have z2 := B1.frozen ((h + 1) * 3 + 2)
  have B2 := B1.set ((h + 1) * 3 + 2) (.slice none 0 0)
  rw [show (h + 1) * 3 + 2 = 3 * (h + 1) + 2 by omega, wayT_setm (by omega), show 3 * (h + 1) + 2 = (h + 1) * 3 + 2 by omega] at B2
  have C := Lib.hid B2
  clear h1 hl hi hnext hW hI B B1 B2
  go_wp2
  refine ⟨.mk .., C.out, fun b hb => ?_, by rw [hh.out]⟩
  rw [set_far hb, set_far hb, hh.out]
 obtain ⟨t4, d4⟩ := a4
 have hd1 : d4 = [] := hd
 subst hd1
 obtain ⟨ht, hB4, ho4, hs4⟩ := hR4
 obtain ⟨u2, u3, u4, u5, u6, u9, u10, u11, u15, u16, u17, u18, u19, u20, u21, u22, u23, u24, u25, u26, u27, u28, u29, u30, u31, u32, u33, u34, u35, u36, u37, u38, u39, u40, u41, u42, u43, u44, u45, u46, u47, u48, u49, u50, u51, u52, u53, u54, u55, u56, u57, u58, u59, u60, u61, u62, u63, u64, u65, u66, u67, u68, u69, u70, u71, u72, u73, u74, u75, u76, u77, u78⟩ := ht
 clear hd
 show MG (phI s z Anch Post) s.n _ (3 + 2 + (m + 1) + 1) _ _
 refine MG.inBlock ?_
 refine m_region (m := m + 1) (R := fun t v' => FT s al wy N first (h + 2) t ∧ v'.heap = v4.heap)
  hX hb₀ (by kernel_rfl) rfl hi4 hl4 (fun v1 h1 => ?_) (fun a5 w5 v5 hd hi5 hl5 hR5 => ?_)
 ·have hh := Lib.hid (like_same hl4 h1)
  have hjn : (h : Int) + 2 < 1000002 := by omega
  have hj0 : 0 ≤ (h : Int) := by omega
  clear h1 hl hl4 hi hnext hW hI hB4 ho4 hs4
  go_wp2
  exact ⟨.mk .., hh.out⟩
 obtain ⟨t5, d5⟩ := a5
 have hd1 : d5 = [] := hd
 subst hd1
 obtain ⟨ht, hv5⟩ := hR5
 clear hd
 show MG (phI s z Anch Post) s.n _ (m + 1) _ _
 refine MG.inLoop ?_
 exact hnext _ w5 v5 ht hl5 (hI v v5 hi (hB4.heap (by rw [hv5])) (fun b hb => by rw [hv5]; exact ho4 b hb) (by rw [hv5]; exact hs4)) hi5
end
end Go.Proofs.Ytilpedopnkhppaa.MxS

/- atOnce's second loop whole: pair by pair, all that comes stands behind all. Conditions: each theorem's own. -/
namespace Go.Proofs.Ytilpedopnkhppaa.MxS
open Go.Conc Go.Conc.Lib Br Go.RowKit Hp Rw Ro Go.Proofs.Ytilpedopnkhppaa.Mx
section
variable (s : Grp) (Anch Post : Goroutine → World → Prop) (first : Int) (vals : Nat → List ByteArray) (wy N : Nat) (v0 : World)
def allOf (h : Nat) : List It := (List.range h).flatMap fun k => itemsOf (wfN s first k) (vals k) (vals k).length
structure HI (T : Nat → Nat) (al : Value) (L : List It) (v : World) : Prop where
 ways : Hp.Blk v wy (wayT (wfN s first) (wcT s zN Anch Post T) (fun _ => nilS) N) 117
 ra : Rw.Row iT v v0.heap.size al L
 kh : KH wy v0 v
end
section
variable {s : Grp} {X : Sh} {Anch Post : Goroutine → World → Prop} {first : Int} {vals : Nat → List ByteArray} {wy N : Nat} {v0 v v' w' : World} {h : Nat} {T : Nat → Nat} {u1 u2 al u : Value} {L : List It}
theorem allOf_succ (h : Nat) : allOf s first vals (h + 1) = allOf s first vals h ++ itemsOf (wfN s first h) (vals h) (vals h).length := by
 unfold allOf
 rw [List.range_succ, List.flatMap_append]
 simp
theorem HI.heap (p : HI s Anch Post first wy N v0 T al L v) (e : v'.heap = v.heap) : HI s Anch Post first wy N v0 T al L v' :=
 ⟨p.ways.heap (by rw [e]), row_heap p.ra e, ⟨by rw [e]; exact p.kh.size, fun b h1 h2 => by rw [e]; exact p.kh.same b h1 h2⟩⟩
theorem upd_nil (h : Nat) : Go.ConcN.upd (Go.ConcN.upd (fun _ => nilS) h nilS) (h + 1) nilS = fun _ => nilS := by
 funext k
 unfold Go.ConcN.upd
 split
 ·rfl
 ·split <;> rfl
theorem items0 (f : Int) (l : List ByteArray) : itemsOf f l 0 = [] := by
 unfold itemsOf
 rw [Nat.zero_min]
 rfl
theorem nil_own {g : Nat} : nilS.ownBlock ≠ some g := by intro e; cases e
theorem HI.pair (p : HI s Anch Post first wy N v0 T al L v) (h0 : T h = 0) (h1 : T (h + 1) = 0) : PI s Anch Post first vals wy N v0 h T nilS nilS al L v := by
 refine ⟨?_, ?_, ?_, p.ra, fun g e => absurd e nil_own, fun g _ => nil_own, fun g _ => nil_own, p.kh⟩
 ·unfold Wys
  rw [upd_nil]
  exact p.ways
 ·rw [h0, items0]; exact Rw.Row.none iT v _
 ·rw [h1, items0]; exact Rw.Row.none iT v _
theorem PI.all (hL : Ls s Anch Post vals wy v0) (p : PI s Anch Post first vals wy N v0 h T u1 u2 al L v) {L' : List It} (hr : Rw.Row iT w' v0.heap.size u L') (hk : Kept (Grw v al) v w') (ho : ∀ g, u.ownBlock = some g → al.ownBlock = some g ∨ v.heap.size ≤ g) :
  PI s Anch Post first vals wy N v0 h T u1 u2 u L' w' := by
 have hwy := hL.hwy
 have hvs := p.kh.size
 have nu : ∀ {u' : Value} {l : List It}, Rw.Row iT v v0.heap.size u' l → (∀ g, al.ownBlock = some g → u'.ownBlock ≠ some g) → ∀ g, u.ownBlock = some g → u'.ownBlock ≠ some g := fun r hd g hg e => by
  rcases ho g hg with h1 | h1
  ·exact hd g h1 e
  ·have := (r.lt g e).2; omega
 exact ⟨p.ways.heap (grw_same hk (by omega) (fun e => by have := (p.ra.lt wy e).1; omega)), row_grow p.r1 hk fun b hb e => p.da1 b e hb, row_grow p.r2 hk fun b hb e => p.da2 b e hb, hr, p.d12, nu p.r1 p.da1, nu p.r2 p.da2, p.kh.grow hwy hk fun b hb => (p.ra.lt b hb).1⟩
theorem full_of (hL : Ls s Anch Post vals wy v0) (hT : Tle s Anch Post T) {k : Nat} (hc : ¬ (phI s zN Anch Post).opn T k) : itemsOf (wfN s first k) (vals k) (T k) = itemsOf (wfN s first k) (vals k) (vals k).length := by
 rcases Nat.lt_or_ge k s.n with hk | hk
 ·exact itemsOf_full (by rw [hL.len k hk, tdone hT hk hc]; omega)
 ·rw [hL.none k hk]
  unfold itemsOf
  simp
theorem upd_clear (h : Nat) (u1 u2 : Value) : Go.ConcN.upd (Go.ConcN.upd (Go.ConcN.upd (Go.ConcN.upd (fun _ => nilS) h u1) (h + 1) u2) h nilS) (h + 1) nilS = fun _ => nilS := by
 funext k
 unfold Go.ConcN.upd
 split
 ·rfl
 ·split
  ·rfl
  ·rfl
set_option maxRecDepth 100000 in
set_option maxHeartbeats 4000000 in
theorem pairs (hX : ShunIn X s.Shun) (hL : Ls s Anch Post vals wy v0) (hv9 : ∀ k, (vals k).length ≤ 100000) (hN9 : N < 1000000) (hsm : ∀ h, h ≤ N → (allOf s first vals h).length ≤ 900000) {bA : Frame} (hbA : bA.kind = .normal) {kk : List Item} {csA : List Frame} {F : Nat}
  (hend : ∀ T al t w v m, (phI s zN Anch Post).AllT T → HI s Anch Post first wy N v0 T al (allOf s first vals N) v → FT s al wy N first N t → Like (s.Sd X s.n) w v → (phI s zN Anch Post).Live w → s.n ≤ N →
   Goes Try.prog true ((phI s zN Anch Post).Far s.n) ((phI s zN Anch Post).DM s.n) ((phI s zN Anch Post).TStop m T) F (G (bA.at ⟨t, []⟩ (.code tkc :: .inLoop tkc :: kk)) csA) w) (hnN : s.n ≤ N) :
  ∀ r h T al w v t m, h + 2 * r = N → Tle s Anch Post T → (∀ k, k < h → k < s.n → T k = lenv s Anch Post k + 1) → (∀ k, h ≤ k → T k = 0) → HI s Anch Post first wy N v0 T al (allOf s first vals h) v → FT s al wy N first h t → Like (s.Sd X s.n) w v → (phI s zN Anch Post).Live w → rem s.n (lenv s Anch Post) T ≤ m →
   Goes Try.prog true ((phI s zN Anch Post).Far s.n) ((phI s zN Anch Post).DM s.n) ((phI s zN Anch Post).TStop m T) (F + 400 * r) (G (bA.at ⟨t, []⟩ (.code tkc :: .inLoop tkc :: kk)) csA) w := by
 intro r
 induction r with
 | zero =>
  intro h T al w v t m hh hT h1 h2 hi ht hl hlive hm
  obtain rfl : h = N := by omega
  exact hend T al t w v m (fun k hk => h1 k (Nat.lt_of_lt_of_le hk hnN) hk) hi ht hl hlive hnN
 | succ r ih =>
  intro h T al w v t m hh hT h1 h2 hi ht hl hlive hm
  have hN : h + 1 < N := by omega
  show MG (phI s zN Anch Post) s.n _ (F + 400 * (r + 1)) _ _
  refine MG.le (m := F + 400 * r + 80 + 40 + 2 + 40) ?_ (by omega)
  refine pairHead hX (fun v v' e i => i.heap e) (Inv := HI s Anch Post first wy N v0 T al (allOf s first vals h)) hN9 hN hbA (k := .inLoop tkc :: kk) (fun tc w v htc hl hi hlive => ?_) ht hl hi hlive rfl
  refine tbIn fun t ht => ?_
  obtain ⟨aa, ca, hal, _, _⟩ := hi.ra.slice
  refine both (al := al) (L := allOf s first vals h) (T0 := T) (F := F + 400 * r + 80) (kA := .code (tk15 tkc) :: .inBlock 3 :: .code (tk12 tkc) :: .inLoop tkc :: kk) hX hL hv9 hN htc (fun T' u1 u2 tc w v m hT' h0 n1 n2 hi htc hl hlive hm => ?_) _ T nilS nilS w v t m rfl hm hT (fun k _ _ => rfl) (hi.pair (h2 h (Nat.le_refl _)) (h2 (h + 1) (by omega))) ht hl hlive
  obtain ⟨a1, c1, rfl, _, _⟩ := hi.r1.slice
  obtain ⟨a2, c2, rfl, _, _⟩ := hi.r2.slice
  subst hal
  have e1 := full_of (first := first) hL hT' n1
  have e2 := full_of (first := first) hL hT' n2
  have eL : allOf s first vals h ++ itemsOf (wfN s first h) (vals h) (T' h) ++ itemsOf (wfN s first (h + 1)) (vals (h + 1)) (T' (h + 1)) = allOf s first vals (h + 2) := by rw [e1, e2, allOf_succ (h + 1), allOf_succ h]
  have hlen := hsm (h + 2) (by omega)
  rw [← eL, List.length_append, List.length_append] at hlen
  refine pairAll hX (Inv := PI s Anch Post first vals wy N v0 h T' _ _ _ (allOf s first vals h)) (Inv' := fun u v => PI s Anch Post first vals wy N v0 h T' _ _ u (allOf s first vals h ++ itemsOf (wfN s first h) (vals h) (T' h) ++ itemsOf (wfN s first (h + 1)) (vals (h + 1)) (T' (h + 1))) v) (base := v0.heap.size)
   (fun v v' e i => i.heap e) hlen (fun v i => ⟨i.ra, i.r1, i.r2, i.kh.size, Nat.lt_of_lt_of_le hL.hwy i.kh.size, ?_, ?_⟩) (fun g hg => ⟨fun e => by have := (hi.ra.lt g hg).1; have := hL.hwy; omega, hi.da1 g hg, hi.da2 g hg⟩)
   (fun v v' w' i r k o => i.all hL r k o) hbA (fun t w v u ht hl hi hlive => ?_) htc hl hi hlive rfl
  ·have B : Hp.Blk v wy _ _ := i.ways
   refine B.cell ?_
   rw [Nat.mul_comm, wayT_m (show h < N by omega), upd_comm (show h ≠ h + 1 by omega), Go.ConcN.upd_same]
  ·have B : Hp.Blk v wy _ _ := i.ways
   refine B.cell ?_
   rw [Nat.mul_comm, wayT_m hN, Go.ConcN.upd_same]
  rw [eL] at hi
  refine pairEnd hX (Inv := PI s Anch Post first vals wy N v0 h T' _ _ u (allOf s first vals (h + 2))) (Inv' := HI s Anch Post first wy N v0 T' u (allOf s first vals (h + 2))) hN9 hN (fun v i => i.ways)
   (fun v v' i b e z => ⟨by rw [upd_clear] at b; exact b, row_same i.ra fun g hg => e g (by have := (i.ra.lt g hg).1; have := hL.hwy; omega), ⟨by rw [z]; exact i.kh.size, fun b h1 h2 => by rw [e b h2]; exact i.kh.same b h1 h2⟩⟩)
   hbA (fun t w v ht hl hi hlive => ?_) ht hl hi hlive rfl rfl
  refine ih (h + 2) T' u w v t m (by omega) hT' (fun k hk hn => ?_) (fun k hk => ?_) hi ht hl hlive hm
  ·by_cases ea : k = h
   ·subst ea; exact tdone hT' hn n1
   ·by_cases eb : k = h + 1
    ·subst eb; exact tdone hT' hn n2
    ·rw [h0 k ea eb]; exact h1 k (by omega) hn
  ·rw [h0 k (by omega) (by omega)]; exact h2 k (by omega)
end
end Go.Proofs.Ytilpedopnkhppaa.MxS

