/- A fabric in memory: its own cells, its net, its ports, what came to each host. Conditions: each theorem's own. -/
import Derived.Test.YtpogpibjkolioaaGreatFpK11
import Derived.Test.YtpogpibjkolioaaGreatFpK12
import Derived.Test.YtpogpibjkolioaaGreatFpK13
set_option linter.unusedVariables false
set_option linter.unusedSimpArgs false
namespace Go.Proofs.YtpogpibjkolioaaGreat.Fb
open Go.RowKit Hp QuM QuN Rw Qu NumM NumC Po Fo FbM TpM Tp
abbrev tF : TypeId := 69
abbrev tH : TypeId := 98
abbrev tPp : TypeId := 70
structure Ad where
 fb : Nat
 nb : Nat
 pb : Nat
 hb : Nat
 cp : Nat
 ch : Nat
 pp : Nat → Nat
 O : Nat → Nat → Prop
 iv : Nat → Value
 z : Nat → Nat
structure Mo where
 P : Nat → Pt
 I : Nat → List Bx
 B : Nat → Int
 L : Int
structure Cf.Ok (K : Cf) : Prop where
 net : Net K.H K.S
 hn : (K.hn : Int) = K.H
 n : (K.n : Int) = pts K.H K.S
theorem Cf.Ok.le {K : Cf} (h : K.Ok) : K.hn ≤ 8 ∧ 2 ≤ K.hn ∧ K.n ≤ 48 ∧ K.hn ≤ K.n := by
 have := h.net.h0; have := h.net.h1; have := mm_in h.net; have := h.hn; have := h.n
 unfold pts at this
 omega
def ownA (K : Cf) (a : Ad) (i : Nat) : Prop := i = a.fb ∨ i = a.nb ∨ i = a.pb ∨ i = a.hb ∨ (∃ h, h < K.hn ∧ (a.iv h).ownBlock = some i) ∨ ∃ p, p < K.n ∧ a.O p i
def Is (K : Cf) (M : Mo) (x : Bx) : Prop := (∃ p, p < K.n ∧ In (M.P p).ls (M.P p).cr x) ∨ ∃ h, h < K.hn ∧ x ∈ M.I h
def Dat (w0 w : World) (x : Bx) : Prop := Byt.Row w w0.heap.size (.slice x.s x.f.data.length x.c) x.f.data ∧ x.f.data.length ≤ 1000000 ∧ Sane x
structure Fab (w0 : World) (K : Cf) (a : Ad) (M : Mo) (w : World) : Prop where
 cf : K.Ok
 since : Kept (fun _ => False) w0 w
 blk : Blk w a.fb [ptr a.nb, .slice (some ⟨a.pb, 0, none⟩) K.n a.cp, .slice (some ⟨a.hb, 0, none⟩) K.hn a.ch, .int .i64 M.L] tF
 nv : NV w a.nb K.H K.S
 prow : ∃ c, Blk w a.pb c tPp ∧ ∀ p, p < K.n → c[p]? = some (.pointer (some ⟨a.pp p, 0, none⟩))
 hrow : ∃ c, Blk w a.hb c tH ∧ ∀ h, h < K.hn → c[h * 3]? = some (a.iv h) ∧ c[h * 3 + 1]? = some (.int .i64 (a.z h : Nat)) ∧ c[h * 3 + 2]? = some (.int .i64 (M.B h))
 prt : ∀ p, p < K.n → POP w0 (a.pp p) K (M.P p) (a.O p) w
 inb : ∀ h, h < K.hn → ∃ Z : List Bx, Z.length = a.z h ∧ Z.length ≤ (M.I h).length ∧ Rw.Row fT w w0.heap.size (a.iv h) (Z ++ M.I h)
 dat : ∀ x, Is K M x → Dat w0 w x
 oo : ∀ p q g, p < K.n → q < K.n → a.O p g → a.O q g → p = q
 of : ∀ p g, p < K.n → a.O p g → g ≠ a.fb ∧ g ≠ a.nb ∧ g ≠ a.pb ∧ g ≠ a.hb ∧ ∀ h, h < K.hn → (a.iv h).ownBlock ≠ some g
 od : ∀ p x g, p < K.n → Is K M x → xb x = some g → ¬ a.O p g
 ii : ∀ h j g, h < K.hn → j < K.hn → (a.iv h).ownBlock = some g → (a.iv j).ownBlock = some g → h = j
 low : w0.heap.size ≤ a.fb ∧ w0.heap.size ≤ a.nb ∧ w0.heap.size ≤ a.pb ∧ w0.heap.size ≤ a.hb
theorem row_blk {α : Type} {t : Rw.Ty α} {w : World} {base g : Nat} {v : Value} {l : List α} (h : Rw.Row t w base v l) (hg : v.ownBlock = some g) : ∃ c, Blk w g c t.E := by
 rcases h.form with ⟨rfl, _⟩ | ⟨g', cap, cur, rfl, h1, h2⟩
 ·cases hg
 ·cases hg; exact ⟨cur, h2.blk⟩
theorem byt_blk {w : World} {base g : Nat} {v : Value} {l : List UInt8} (h : Byt.Row w base v l) (hg : v.ownBlock = some g) : ∃ c, Blk w g c 5 := by
 rcases h.form with ⟨rfl, _⟩ | ⟨g', cap, cur, rfl, h1, h2, _⟩
 ·cases hg
 ·cases hg; exact ⟨cur, h2⟩
theorem ne_blk {w : World} {g j : Nat} {c d : List Value} {T T' : TypeId} (h : Blk w g c T) (h' : Blk w j d T') (e : T ≠ T') : g ≠ j := by
 rintro rfl
 exact e (h.inj h').2
variable {w0 w w' : World} {K : Cf} {a : Ad} {M : Mo}
theorem Fab.sorts (h : Fab w0 K a M w) : a.fb ≠ a.nb ∧ a.fb ≠ a.pb ∧ a.fb ≠ a.hb ∧ a.nb ≠ a.pb ∧ a.nb ≠ a.hb ∧ a.pb ≠ a.hb := by
 obtain ⟨c1, h1, _⟩ := h.prow
 obtain ⟨c2, h2, _⟩ := h.hrow
 exact ⟨ne_blk h.blk h.nv (by decide), ne_blk h.blk h1 (by decide), ne_blk h.blk h2 (by decide), ne_blk h.nv h1 (by decide), ne_blk h.nv h2 (by decide), ne_blk h1 h2 (by decide)⟩
theorem Fab.iblk (h : Fab w0 K a M w) {j g : Nat} (hj : j < K.hn) (hg : (a.iv j).ownBlock = some g) : ∃ c, Blk w g c 35 := by
 obtain ⟨Z, hz, hzl, hr⟩ := h.inb j hj
 exact row_blk hr hg
theorem Fab.isort (h : Fab w0 K a M w) {j g : Nat} (hj : j < K.hn) (hg : (a.iv j).ownBlock = some g) : g ≠ a.fb ∧ g ≠ a.nb ∧ g ≠ a.pb ∧ g ≠ a.hb := by
 obtain ⟨c, hb⟩ := h.iblk hj hg
 obtain ⟨c1, h1, _⟩ := h.prow
 obtain ⟨c2, h2, _⟩ := h.hrow
 exact ⟨ne_blk hb h.blk (by decide), ne_blk hb h.nv (by decide), ne_blk hb h1 (by decide), ne_blk hb h2 (by decide)⟩
theorem Fab.dsort (h : Fab w0 K a M w) {x : Bx} {g : Nat} (hx : Is K M x) (hg : xb x = some g) : ¬ ownA K a g := by
 obtain ⟨c, hb⟩ := byt_blk (h.dat x hx).1 hg
 obtain ⟨c1, h1, _⟩ := h.prow
 obtain ⟨c2, h2, _⟩ := h.hrow
 rintro (e | e | e | e | ⟨j, hj, e⟩ | ⟨p, hp, e⟩)
 ·exact ne_blk hb h.blk (by decide) e
 ·exact ne_blk hb h.nv (by decide) e
 ·exact ne_blk hb h1 (by decide) e
 ·exact ne_blk hb h2 (by decide) e
 ·obtain ⟨d, hd⟩ := h.iblk hj e
  exact ne_blk hb hd (by decide) rfl
 ·exact h.od p x g hp hx hg e
theorem Fab.bound (h : Fab w0 K a M w) {i : Nat} (hi : ownA K a i) : w0.heap.size ≤ i ∧ i < w.heap.size := by
 obtain ⟨c1, h1, _⟩ := h.prow
 obtain ⟨c2, h2, _⟩ := h.hrow
 rcases hi with e | e | e | e | ⟨j, hj, e⟩ | ⟨p, hp, e⟩
 ·subst e; exact ⟨h.low.1, h.blk.lt⟩
 ·subst e; exact ⟨h.low.2.1, Blk.lt h.nv⟩
 ·subst e; exact ⟨h.low.2.2.1, h1.lt⟩
 ·subst e; exact ⟨h.low.2.2.2, h2.lt⟩
 ·obtain ⟨Z, hz, hzl, hr⟩ := h.inb j hj
  exact hr.lt i e
 ·exact (h.prt p hp).bound e
theorem Fab.far {G : Nat → Prop} (h : Fab w0 K a M w) (k : Kept G w w') (hG : ∀ i, G i → ownA K a i → False) (hD : ∀ x, Is K M x → ∀ g, xb x = some g → ¬ G g) (hw : ∀ i, G i → w0.heap.size ≤ i) : Fab w0 K a M w' := by
 obtain ⟨c1, h1, h1'⟩ := h.prow
 obtain ⟨c2, h2, h2'⟩ := h.hrow
 exact { h with
  since := h.since.trans' k (fun i hi g => by have := hw i g; omega)
  blk := k.blk h.blk (fun g => hG _ g (Or.inl rfl))
  nv := k.blk h.nv (fun g => hG _ g (Or.inr (Or.inl rfl)))
  prow := ⟨c1, k.blk h1 (fun g => hG _ g (Or.inr (Or.inr (Or.inl rfl)))), h1'⟩
  hrow := ⟨c2, k.blk h2 (fun g => hG _ g (Or.inr (Or.inr (Or.inr (Or.inl rfl))))), h2'⟩
  prt := fun p hp => (h.prt p hp).far k (fun i g e => hG i g (Or.inr (Or.inr (Or.inr (Or.inr (Or.inr ⟨p, hp, e⟩)))))) (fun x hx => hD x (Or.inl ⟨p, hp, hx⟩)) hw
  inb := fun j hj => by
   obtain ⟨Z, hz, hzl, hr⟩ := h.inb j hj
   exact ⟨Z, hz, hzl, hr.kept k (fun g e f => hG g f (Or.inr (Or.inr (Or.inr (Or.inr (Or.inl ⟨j, hj, e⟩))))))⟩
  dat := fun x hx => ⟨(h.dat x hx).1.kept k (fun g e => hD x hx g e), (h.dat x hx).2⟩ }
theorem Fab.old (h : Fab w0 K a M w) (k : Kept (fun _ => False) w w') : Fab w0 K a M w' := h.far k (fun _ f _ => f) (fun _ _ _ _ f => f) (fun _ f => f.elim)
theorem Fab.turn (h : Fab w0 K a M w) {p : Nat} (hp : p < K.n) {P' : Pt} {O' : Nat → Prop} (hP : POP w0 (a.pp p) K P' O' w') (hN : Qu.Next (a.O p) w O' w') (hnew : ∀ x, In P'.ls P'.cr x → In (M.P p).ls (M.P p).cr x ∨ ∀ g, xb x = some g → w.heap.size ≤ g) :
  Fab w0 K { a with O := upd a.O p O' } { M with P := upd M.P p P' } w' := by
 obtain ⟨c1, h1, h1'⟩ := h.prow
 obtain ⟨c2, h2, h2'⟩ := h.hrow
 have hop := h.of p
 have hk := hN.1
 have h0 := h.since.size
 have far : ∀ q, q < K.n → q ≠ p → ∀ i, a.O p i → a.O q i → False := fun q hq e i e1 e2 => e (h.oo q p i hq hp e2 e1)
 have hlt : ∀ q, q < K.n → ∀ g, a.O q g → g < w.heap.size := fun q hq g e => ((h.prt q hq).bound e).2
 have old : ∀ x, Is K M x → Dat w0 w' x := fun x hx => ⟨(h.dat x hx).1.kept hk (fun g e => h.od p x g hp hx e), (h.dat x hx).2⟩
 have new : ∀ x, In P'.ls P'.cr x → Dat w0 w' x := fun x hx => by
  have := hP.gd hx
  exact ⟨this.2.2.1, this.2.1, this.1⟩
 have cases_ : ∀ x, Is K { M with P := upd M.P p P' } x → Is K M x ∨ (In P'.ls P'.cr x ∧ ∀ g, xb x = some g → w.heap.size ≤ g) := by
  rintro x (⟨q, hq, hx⟩ | hx)
  ·by_cases e : q = p
   ·subst e
    dsimp only at hx
    rw [upd_self] at hx
    rcases hnew x hx with h3 | h3
    ·exact Or.inl (Or.inl ⟨q, hq, h3⟩)
    ·exact Or.inr ⟨hx, h3⟩
   ·dsimp only at hx
    rw [upd_ne _ _ e] at hx
    exact Or.inl (Or.inl ⟨q, hq, hx⟩)
  ·exact Or.inl (Or.inr hx)
 refine { cf := h.cf, since := h.since.trans' hk (fun i hi e => by have := ((h.prt p hp).bound e).1; omega), blk := hk.blk h.blk (fun e => (hop _ hp e).1 rfl), nv := hk.blk h.nv (fun e => (hop _ hp e).2.1 rfl), prow := ⟨c1, hk.blk h1 (fun e => (hop _ hp e).2.2.1 rfl), h1'⟩, hrow := ⟨c2, hk.blk h2 (fun e => (hop _ hp e).2.2.2.1 rfl), h2'⟩, prt := ?_, inb := ?_, dat := ?_, oo := ?_, of := ?_, od := ?_, ii := h.ii, low := h.low }
 ·intro q hq
  by_cases e : q = p
  ·subst e
   dsimp only
   rw [upd_self, upd_self]; exact hP
  ·dsimp only
   rw [upd_ne _ _ e, upd_ne _ _ e]
   exact (h.prt q hq).far hk (far q hq e) (fun x hx g eg => h.od p x g hp (Or.inl ⟨q, hq, hx⟩) eg) (fun i e => ((h.prt p hp).bound e).1)
 ·intro j hj
  obtain ⟨Z, hz, hzl, hr⟩ := h.inb j hj
  exact ⟨Z, hz, hzl, hr.kept hk (fun g e f => (hop g hp f).2.2.2.2 j hj e)⟩
 ·intro x hx
  rcases cases_ x hx with h3 | h3
  ·exact old x h3
  ·exact new x h3.1
 ·intro q r g hq hr e1 e2
  dsimp only at e1 e2
  by_cases eq : q = p
  ·by_cases er : r = p
   ·omega
   ·subst eq
    rw [upd_self] at e1
    rw [upd_ne _ _ er] at e2
    rcases hN.2 g e1 with e3 | e3
    ·exact (far r hr er g e3 e2).elim
    ·have := hlt r hr g e2; omega
  ·rw [upd_ne _ _ eq] at e1
   by_cases er : r = p
   ·subst er
    rw [upd_self] at e2
    rcases hN.2 g e2 with e3 | e3
    ·exact (far q hq eq g e3 e1).elim
    ·have := hlt q hq g e1; omega
   ·rw [upd_ne _ _ er] at e2
    exact h.oo q r g hq hr e1 e2
 ·intro q g hq e
  dsimp only at e ⊢
  by_cases eq : q = p
  ·subst eq
   rw [upd_self] at e
   rcases hN.2 g e with e3 | e3
   ·exact h.of q g hq e3
   ·refine ⟨?_, ?_, ?_, ?_, fun j hj ej => ?_⟩
    ·have := h.blk.lt; omega
    ·have := Blk.lt h.nv; omega
    ·have := h1.lt; omega
    ·have := h2.lt; omega
    ·obtain ⟨Z, hz, hzl, hr⟩ := h.inb j hj
     have := (hr.lt g ej).2; omega
  ·rw [upd_ne _ _ eq] at e
   exact h.of q g hq e
 ·intro q x g hq hx hg e
  dsimp only at e
  by_cases eq : q = p
  ·subst eq
   rw [upd_self] at e
   rcases cases_ x hx with h3 | h3
   ·rcases hN.2 g e with e3 | e3
    ·exact h.od q x g hq h3 hg e3
    ·have := ((h.dat x h3).1.lt g hg).2; omega
   ·exact (hP.gd h3.1).2.2.2 g hg e
  ·rw [upd_ne _ _ eq] at e
   rcases cases_ x hx with h3 | h3
   ·exact h.od q x g hq h3 hg e
   ·have := h3.2 g hg; have := hlt q hq g e; omega
theorem own_turn (h : Fab w0 K a M w) {p : Nat} (hp : p < K.n) {O' : Nat → Prop} (hN : Qu.Next (a.O p) w O' w') : Qu.Next (ownA K a) w (ownA K { a with O := upd a.O p O' }) w' := by
 refine ⟨hN.1.mono (fun i _ e => Or.inr (Or.inr (Or.inr (Or.inr (Or.inr ⟨p, hp, e⟩))))), ?_⟩
 rintro i (e | e | e | e | e | ⟨q, hq, e⟩)
 ·exact Or.inl (Or.inl e)
 ·exact Or.inl (Or.inr (Or.inl e))
 ·exact Or.inl (Or.inr (Or.inr (Or.inl e)))
 ·exact Or.inl (Or.inr (Or.inr (Or.inr (Or.inl e))))
 ·exact Or.inl (Or.inr (Or.inr (Or.inr (Or.inr (Or.inl e)))))
 ·dsimp only at e
  by_cases eq : q = p
  ·subst eq
   rw [upd_self] at e
   exact (hN.2 i e).imp (fun e => Or.inr (Or.inr (Or.inr (Or.inr (Or.inr ⟨q, hq, e⟩))))) id
  ·rw [upd_ne _ _ eq] at e
   exact Or.inl (Or.inr (Or.inr (Or.inr (Or.inr (Or.inr ⟨q, hq, e⟩)))))
theorem next_trans {F G E : Nat → Prop} {w1 : World} (h : Qu.Next F w G w1) (h' : Qu.Next G w1 E w') (hlt : ∀ i, G i → F i ∨ w.heap.size ≤ i) : Qu.Next F w E w' :=
 ⟨h.1.trans' h'.1 (fun i hi g => (hlt i g).elim id (fun e => by omega)), fun i hi => (h'.2 i hi).elim (fun g => hlt i g) (fun e => Or.inr (Nat.le_trans h.1.size e))⟩
theorem nxt {F G E : Nat → Prop} {w1 : World} (h : Qu.Next F w G w1) (h' : Qu.Next G w1 E w') : Qu.Next F w E w' := next_trans h h' h.2
theorem Fab.setB (h : Fab w0 K a M w) {j : Nat} (hj : j < K.hn) (v : Int) : Fab w0 K a { M with B := upd M.B j v } (w.setCell ⟨a.hb, j * 3 + 2, none⟩ (.int .i64 v)) ∧ Kept (fun i => i = a.hb) w (w.setCell ⟨a.hb, j * 3 + 2, none⟩ (.int .i64 v)) := by
 have k := Kept.one w a.hb (j * 3 + 2) (.int .i64 v)
 obtain ⟨c1, h1, h1'⟩ := h.prow
 obtain ⟨c2, h2, h2'⟩ := h.hrow
 have hs := h.sorts
 refine ⟨{ h with
  since := h.since.trans' k (fun i hi e => by have := h.low.2.2.2; omega)
  blk := k.blk h.blk hs.2.2.1
  nv := k.blk h.nv hs.2.2.2.2.1
  prow := ⟨c1, k.blk h1 hs.2.2.2.2.2, h1'⟩
  hrow := ⟨_, h2.set (j * 3 + 2) (.int .i64 v), fun i hi => ?_⟩
  prt := fun p hp => (h.prt p hp).far k (fun i e f => (h.of p i hp f).2.2.2.1 e) (fun x hx g eg e => h.dsort (Or.inl ⟨p, hp, hx⟩) eg (Or.inr (Or.inr (Or.inr (Or.inl e))))) (fun i e => by have := h.low.2.2.2; omega)
  inb := fun i hi => by
   obtain ⟨Z, hz, hzl, hr⟩ := h.inb i hi
   exact ⟨Z, hz, hzl, hr.kept k (fun g e f => (h.isort hi e).2.2.2 f)⟩
  dat := fun x hx => ⟨(h.dat x hx).1.kept k (fun g eg e => h.dsort hx eg (Or.inr (Or.inr (Or.inr (Or.inl e))))), (h.dat x hx).2⟩ }, k⟩
 obtain ⟨e1, e2, e3⟩ := h2' i hi
 have hl := (List.getElem?_eq_some_iff.1 e3).1
 refine ⟨by rw [List.getElem?_set_ne (by omega)]; exact e1, by rw [List.getElem?_set_ne (by omega)]; exact e2, ?_⟩
 dsimp only
 by_cases e : i = j
 ·subst e
  rw [upd_self, List.getElem?_set_self hl]
 ·rw [upd_ne _ _ e, List.getElem?_set_ne (by omega)]; exact e3
theorem Fab.setL (h : Fab w0 K a M w) (v : Int) : Fab w0 K a { M with L := v } (w.setCell ⟨a.fb, 3, none⟩ (.int .i64 v)) ∧ Kept (fun i => i = a.fb) w (w.setCell ⟨a.fb, 3, none⟩ (.int .i64 v)) := by
 have k := Kept.one w a.fb 3 (.int .i64 v)
 obtain ⟨c1, h1, h1'⟩ := h.prow
 obtain ⟨c2, h2, h2'⟩ := h.hrow
 have hs := h.sorts
 exact ⟨{ h with
  since := h.since.trans' k (fun i hi e => by have := h.low.1; omega)
  blk := h.blk.set 3 _
  nv := k.blk h.nv hs.1.symm
  prow := ⟨c1, k.blk h1 hs.2.1.symm, h1'⟩
  hrow := ⟨c2, k.blk h2 hs.2.2.1.symm, h2'⟩
  prt := fun p hp => (h.prt p hp).far k (fun i e f => (h.of p i hp f).1 e) (fun x hx g eg e => h.dsort (Or.inl ⟨p, hp, hx⟩) eg (Or.inl e)) (fun i e => by have := h.low.1; omega)
  inb := fun i hi => by
   obtain ⟨Z, hz, hzl, hr⟩ := h.inb i hi
   exact ⟨Z, hz, hzl, hr.kept k (fun g e f => (h.isort hi e).1 f)⟩
  dat := fun x hx => ⟨(h.dat x hx).1.kept k (fun g eg e => h.dsort hx eg (Or.inl e)), (h.dat x hx).2⟩ }, k⟩
end Go.Proofs.YtpogpibjkolioaaGreat.Fb

/- A fabric's port and host by their numbers; what is counted. Conditions: each theorem's own. -/
namespace Go.Proofs.YtpogpibjkolioaaGreat.Fb
open Go.RowKit Hp QuM QuN Rw Qu NumM NumC Po Fo FbM TpM Tp
attribute [local go_sem ↓] Go.wp_at_zero Go.wp_at_succ
variable {w0 w w' : World} {K : Cf} {a : Ad} {M : Mo}
theorem host_yes (h : Fab w0 K a M w) {j : Nat} (hj : j < K.hn) :
  Calls Tryz.prog 31 #[ptr a.fb, .int .i64 (j : Nat)] w fun e w' => e = .returned (.pointer (some ⟨a.hb, j * 3, none⟩)) ∧ w = w' := by
 have c2 := h.blk.cell (o := 2) rfl
 have hl := h.cf.le.1
 have hj2 : (j : Int) < (K.hn : Int) := by omega
 clear h
 generalize K.hn = n at *
 generalize a.fb = fb at *
 generalize a.hb = hb at *
 generalize a.ch = ch at *
 clear hj
 go_enter Tryz.func31, Tryz.ntmps31
 go_wp2_with fail
 go_ret
 exact ⟨rfl, rfl⟩
theorem host_no (h : Fab w0 K a M w) {J : Int} (hj : J < 0 ∨ (K.hn : Int) ≤ J) :
  Calls Tryz.prog 31 #[ptr a.fb, .int .i64 J] w fun e w' => e = .returned (.pointer none) ∧ w = w' := by
 have c2 := h.blk.cell (o := 2) rfl
 clear h
 generalize K.hn = n at *
 generalize a.fb = fb at *
 generalize a.hb = hb at *
 generalize a.ch = ch at *
 rcases (show J < 0 ∨ (¬ J < 0 ∧ (n : Int) ≤ J) by omega) with h1 | ⟨h1, h2⟩
 all_goals
  go_enter Tryz.func31, Tryz.ntmps31
  go_wp2_with fail
  go_ret
  exact ⟨rfl, rfl⟩
theorem port_yes (h : Fab w0 K a M w) {p : Nat} (hp : p < K.n) :
  Calls Tryz.prog 37 #[ptr a.fb, .int .i64 (p : Nat)] w fun e w' => e = .returned (ptr (a.pp p)) ∧ w = w' := by
 have c1 := h.blk.cell (o := 1) rfl
 obtain ⟨c, hB, hc⟩ := h.prow
 have cp := hB.cell (hc p hp)
 have hl := h.cf.le.2.2.1
 have hp2 : (p : Int) < (K.n : Int) := by omega
 clear h hB hc
 generalize K.n = n at *
 generalize a.fb = fb at *
 generalize a.pb = pb at *
 generalize a.cp = cap at *
 generalize a.pp p = q at *
 clear hp
 go_enter Tryz.func37, Tryz.ntmps37
 go_wp2_with fail
 go_ret
 exact ⟨rfl, rfl⟩
theorem port_no (h : Fab w0 K a M w) {J : Int} (hj : J < 0 ∨ (K.n : Int) ≤ J) :
  Calls Tryz.prog 37 #[ptr a.fb, .int .i64 J] w fun e w' => e = .returned (.pointer none) ∧ w = w' := by
 have c1 := h.blk.cell (o := 1) rfl
 clear h
 generalize K.n = n at *
 generalize a.fb = fb at *
 generalize a.pb = pb at *
 generalize a.cp = cap at *
 rcases (show J < 0 ∨ (¬ J < 0 ∧ (n : Int) ≤ J) by omega) with h1 | ⟨h1, h2⟩
 all_goals
  go_enter Tryz.func37, Tryz.ntmps37
  go_wp2_with fail
  go_ret
  exact ⟨rfl, rfl⟩
def cB (B : Nat → Int) (x : Bx) (k : Int) : Nat → Int := if x.f.kind = 1 then upd B x.f.dst.toNat (B x.f.dst.toNat + k * x.f.len) else B
theorem cnt_any (h : Fab w0 K a M w) {x : Bx} {k : Int} (hd : 0 ≤ x.f.dst ∧ x.f.dst < K.H) (hl : 0 ≤ x.f.len ∧ x.f.len ≤ 1500) (hk : k = 1 ∨ k = -1) (hB : ∀ j, -1000000000 ≤ M.B j ∧ M.B j ≤ 1000000000) :
  Calls Tryz.prog 39 #[ptr a.fb, fv x, .int .i64 k] w fun e w' => e = .returned (.tuple #[]) ∧ Fab w0 K a { M with B := cB M.B x k } w' ∧ Kept (fun i => i = a.hb) w w' := by
 unfold cB
 obtain ⟨⟨x1, x2, x3, x4, x5, x6, x7, x8, x9, xd⟩, xa, xc, xq⟩ := x
 dsimp only at hd hl ⊢
 by_cases hkd : x1 = 1
 ·subst hkd
  rw [if_pos rfl]
  obtain ⟨d, rfl⟩ := Int.eq_ofNat_of_zero_le hd.1
  rw [Int.toNat_natCast]
  have hdn : d < K.hn := by have := h.cf.hn; omega
  go_enter Tryz.func39, Tryz.ntmps39
  go_upto_region 1 with fail
  have hO := Blk.new w [.int .i64 1, .int .i64 x2, .int .i64 (d : Nat), .int .i64 x4, .int .u64 (x5 : Int), .int .i64 x6, .int .i64 x7, .int .i64 x8, .int .i64 x9, .slice xa xd.length xc] 35
  have hkk := (Kept.refl (fun _ => False) w).alloc (.cells [.int .i64 1, .int .i64 x2, .int .i64 (d : Nat), .int .i64 x4, .int .u64 (x5 : Int), .int .i64 x6, .int .i64 x7, .int .i64 x8, .int .i64 x9, .slice xa xd.length xc].toArray 35)
  dsimp only [List.toArray] at hO hkk
  have h1 := h.old hkk
  have HKK := Lib.hid hkk
  have hlo := (h.bound (i := a.hb) (Or.inr (Or.inr (Or.inr (Or.inl rfl))))).2
  generalize w.alloc (.cells #[.int .i64 1, .int .i64 x2, .int .i64 (d : Nat), .int .i64 x4, .int .u64 (x5 : Int), .int .i64 x6, .int .i64 x7, .int .i64 x8, .int .i64 x9, .slice xa xd.length xc] 35) = w1 at *
  obtain ⟨ob, hob⟩ : ∃ ob, w.heap.size = ob := ⟨_, rfl⟩
  rw [hob] at hO hlo
  simp only [hob]
  have HOB := Lib.hid hob
  clear hob hkk h
  have c0 := hO.cell (o := 0) rfl
  obtain ⟨cc, hH, hc⟩ := h1.hrow
  have cb := hH.cell (hc d hdn).2.2
  have fz := hH.frozen (d * 3 + 2)
  have c2 := hO.cell (o := 2) rfl
  have c6 := hO.cell (o := 6) rfl
  have HS : Hid (∀ w2, Kept (fun _ => False) w1 w2 → Fab w0 K a { M with B := upd M.B d (M.B d + k * x7) } (w2.setCell ⟨a.hb, d * 3 + 2, none⟩ (.int .i64 (M.B d + k * x7))) ∧ Kept (fun i => i = a.hb) w (w2.setCell ⟨a.hb, d * 3 + 2, none⟩ (.int .i64 (M.B d + k * x7)))) := Lib.hid fun w2 kk => by
   have h3 := (h1.old kk).setB hdn (M.B d + k * x7)
   exact ⟨h3.1, ((HKK.out.trans kk).mono (fun _ _ f => f.elim)).trans h3.2⟩
  have CH := Lib.hid fun w' (kk : Kept (fun _ => False) w1 w') => host_yes (h1.old kk) hdn
  have hb := hB d
  have hw1 : IntKind.i64.wrap (k * x7) = k * x7 := by rw [IntKind.wrap_i64]; rcases hk with rfl | rfl <;> omega
  have hw2 : IntKind.i64.wrap (M.B d + k * x7) = M.B d + k * x7 := by rw [IntKind.wrap_i64]; rcases hk with rfl | rfl <;> omega
  clear hH hc hO hB h1 hk hl hd hdn HKK hlo HOB
  go_upto_region 2 with fail
  go_region_with (first | (go_at_call 31; (with_reducible refine Calls.mono (CH.out _ (by first | exact Kept.refl _ _ | exact (Kept.refl _ _).drew)) ?_); rintro e w3 ⟨rfl, rfl⟩))
  all_goals
   have FIN := HS.out _ (by first | exact Kept.refl _ _ | exact (Kept.refl _ _).drew)
   have FIN := Lib.hid (And.intro (FIN.1.old (Kept.refl _ _).drew) FIN.2.drew)
   go_wp2_with fail
   go_end0
   exact ⟨rfl, FIN.out⟩
 ·rw [if_neg hkd]
  go_enter Tryz.func39, Tryz.ntmps39
  go_upto_region 1 with fail
  have hO := Blk.new w [.int .i64 x1, .int .i64 x2, .int .i64 x3, .int .i64 x4, .int .u64 (x5 : Int), .int .i64 x6, .int .i64 x7, .int .i64 x8, .int .i64 x9, .slice xa xd.length xc] 35
  have hkk := (Kept.refl (fun _ => False) w).alloc (.cells [.int .i64 x1, .int .i64 x2, .int .i64 x3, .int .i64 x4, .int .u64 (x5 : Int), .int .i64 x6, .int .i64 x7, .int .i64 x8, .int .i64 x9, .slice xa xd.length xc].toArray 35)
  dsimp only [List.toArray] at hO hkk
  have h1 := h.old hkk
  have HKK := Lib.hid hkk
  have hlo := (h.bound (i := a.hb) (Or.inr (Or.inr (Or.inr (Or.inl rfl))))).2
  generalize w.alloc (.cells #[.int .i64 x1, .int .i64 x2, .int .i64 x3, .int .i64 x4, .int .u64 (x5 : Int), .int .i64 x6, .int .i64 x7, .int .i64 x8, .int .i64 x9, .slice xa xd.length xc] 35) = w1 at *
  obtain ⟨ob, hob⟩ : ∃ ob, w.heap.size = ob := ⟨_, rfl⟩
  rw [hob] at hO hlo
  simp only [hob]
  have HOB := Lib.hid hob
  clear hob hkk h
  have c0 := hO.cell (o := 0) rfl
  have HF := Lib.hid (And.intro h1 ((HKK.out.mono (fun _ _ f => f.elim)) : Kept (fun i => i = a.hb) w w1))
  clear h1 hO
  go_wp2_with fail
  go_end0
  exact ⟨rfl, HF.out⟩
end Go.Proofs.YtpogpibjkolioaaGreat.Fb

/- A fabric's put: a frame is put at a port, and counted. Conditions: each theorem's own. -/
namespace Go.Proofs.YtpogpibjkolioaaGreat.Fb
open Go.RowKit Hp QuM QuN Rw Qu NumM NumC Po Fo FbM TpM Tp
attribute [local go_sem ↓] Go.wp_at_zero Go.wp_at_succ
variable {w0 w w' : World} {K : Cf} {a : Ad} {M : Mo}
abbrev dD (K : Cf) (M : Mo) (p : Nat) (x : Bx) : Int × Nat := putD K.room K.most K.trim (M.P p) x
def putM (K : Cf) (M : Mo) (p : Nat) (x : Bx) (s : Option Addr) (c : Nat) : Mo :=
 { P := upd M.P p (puP K (M.P p) x s c), I := M.I, B := if (dD K M p x).1 = 1 then cB M.B x 1 else M.B, L := if (dD K M p x).1 = 3 then M.L + 1 else M.L }
structure Bd (K : Cf) (M : Mo) : Prop where
 b : ∀ j, -1000000000 ≤ M.B j ∧ M.B j ≤ 1000000000
 l : 0 ≤ M.L ∧ M.L ≤ 1000000000
 n : ∀ p, p < K.n → (accL (M.P p).ls (M.P p).cr 9).length < 100000
 i : ∀ h, h < K.hn → (M.I h).length ≤ 50000
structure Go (K : Cf) (x : Bx) : Prop where
 d : 0 ≤ x.f.dst ∧ x.f.dst < K.H
 l : 0 ≤ x.f.len ∧ x.f.len ≤ 1500
def PutF (w0 : World) (K : Cf) (a : Ad) (M : Mo) (w : World) (p : Nat) (x : Bx) (w' : World) : Prop :=
 ∃ s c a', Fab w0 K a' (putM K M p x s c) w' ∧ Qu.Next (ownA K a) w (ownA K a') w' ∧ a'.fb = a.fb
theorem PutP.before {b : Nat} {P : Pt} {F : Nat → Prop} {x : Bx} {w1 : World} (k : Kept (fun _ => False) w w1) (h : PutP w0 b K P F w1 x w') : PutP w0 b K P F w x w' := by
 obtain ⟨s, c, F', h1, h2, h3⟩ := h
 exact ⟨s, c, F', h1, next_in k h2, fun e g hg => Nat.le_trans k.size (h3 e g hg)⟩
theorem PutP.keeps {b : Nat} {P : Pt} {F : Nat → Prop} {x : Bx} (h : PutP w0 b K P F w x w') : Kept F w w' := by
 obtain ⟨s, c, F', h1, h2, h3⟩ := h
 exact h2.1
theorem Fab.putP (h : Fab w0 K a M w) {p : Nat} (hp : p < K.n) {x : Bx} (hP : PutP w0 (a.pp p) K (M.P p) (a.O p) w x w') :
  ∃ s c a', Fab w0 K a' { M with P := upd M.P p (puP K (M.P p) x s c) } w' ∧ Qu.Next (ownA K a) w (ownA K a') w' ∧ a'.fb = a.fb ∧ a'.hb = a.hb := by
 obtain ⟨s, c, F', h1, h2, h3⟩ := hP
 refine ⟨s, c, _, h.turn hp h1 h2 (fun y hy => ?_), own_turn h hp h2, rfl, rfl⟩
 rcases in_add hy with hy | ⟨e, rfl⟩
 ·exact Or.inl hy
 ·exact Or.inr (h3 e)
theorem putM_1 {p : Nat} {x : Bx} {s : Option Addr} {c : Nat} (h : (dD K M p x).1 = 1) : putM K M p x s c = { P := upd M.P p (puP K (M.P p) x s c), I := M.I, B := cB M.B x 1, L := M.L } := by
 unfold putM; rw [if_pos h, if_neg (by omega)]
theorem putM_2 {p : Nat} {x : Bx} {s : Option Addr} {c : Nat} (h : (dD K M p x).1 = 2) : putM K M p x s c = { P := upd M.P p (puP K (M.P p) x s c), I := M.I, B := M.B, L := M.L } := by
 unfold putM; rw [if_neg (by omega), if_neg (by omega)]
theorem putM_3 {p : Nat} {x : Bx} {s : Option Addr} {c : Nat} (h : (dD K M p x).1 = 3) : putM K M p x s c = { P := upd M.P p (puP K (M.P p) x s c), I := M.I, B := M.B, L := M.L + 1 } := by
 unfold putM; rw [if_neg (by omega), if_pos h]
set_option maxRecDepth 100000 in
set_option maxHeartbeats 4000000 in
theorem fput_any (h : Fab w0 K a M w) (hb : Bd K M) {p : Nat} (hp : p < K.n) {x : Bx} (hr : Rd w x) (hs : Sane x) (hx : Go K x) :
  Calls Tryz.prog 33 #[ptr a.fb, .int .i64 (p : Nat), bv x] w fun e w' => e = .returned (.int .i64 (dD K M p x).1) ∧ PutF w0 K a M w p x w' := by
 have PU := Lib.hid fun (w' : World) (kk : Kept (fun _ => False) w w') => po_put ((h.prt p hp).old kk) (hr.old kk) hs (hb.n p hp)
 have PT := Lib.hid fun (w' : World) (kk : Kept (fun _ => False) w w') => port_yes (h.old kk) hp
 have HD := Lib.hid (putD_in K.room K.most K.trim (M.P p) x)
 have HH := Lib.hid h
 have HB := Lib.hid hb
 have HX := Lib.hid hx
 have hob : ∀ g, a.O p g → g < w.heap.size := fun g e => ((h.prt p hp).bound e).2
 have HOb := Lib.hid hob
 have hfb := (h.bound (i := a.fb) (Or.inl rfl)).2
 clear h hb hr hs hx hob
 obtain ⟨⟨x1, x2, x3, x4, x5, x6, x7, x8, x9, xd⟩, xa, xc, xq⟩ := x
 go_enter Tryz.func33, Tryz.ntmps33
 go_upto_region 1 with fail
 have hO := Blk.new w [.int .i64 x1, .int .i64 x2, .int .i64 x3, .int .i64 x4, .int .u64 (x5 : Int), .int .i64 x6, .int .i64 x7, .int .i64 x8, .int .i64 x9, .slice xa xd.length xc, .int .i64 xq] 83
 have hkk := (Kept.refl (fun _ => False) w).alloc (.cells [.int .i64 x1, .int .i64 x2, .int .i64 x3, .int .i64 x4, .int .u64 (x5 : Int), .int .i64 x6, .int .i64 x7, .int .i64 x8, .int .i64 x9, .slice xa xd.length xc, .int .i64 xq].toArray 83)
 dsimp only [List.toArray] at hO hkk
 have HO := Lib.hid hO
 have HK := Lib.hid hkk
 generalize w.alloc (.cells #[.int .i64 x1, .int .i64 x2, .int .i64 x3, .int .i64 x4, .int .u64 (x5 : Int), .int .i64 x6, .int .i64 x7, .int .i64 x8, .int .i64 x9, .slice xa xd.length xc, .int .i64 xq] 83) = w1 at *
 obtain ⟨ob, hob⟩ : ∃ ob, w.heap.size = ob := ⟨_, rfl⟩
 rw [hob] at hO HO HOb hfb
 simp only [hob]
 have HOE := Lib.hid hob
 clear hob hkk
 obtain ⟨e0, e1, e2, e3, e4, e5, e6, e7, e8, e9, e10⟩ := cs11 hO
 clear hO
 go_region_with (first | (go_at_call 37; (with_reducible refine Calls.mono (PT.out _ (by first | exact HK.out | exact HK.out.drew)) ?_); rintro e w3 ⟨rfl, rfl⟩) | (go_at_call 62; (with_reducible refine Calls.mono (PU.out _ (by first | exact HK.out | exact HK.out.drew)) ?_); rintro e w3 ⟨rfl, hPP⟩))
 all_goals
  have HPP : Hid (PutP w0 (a.pp p) K (M.P p) (a.O p) w ⟨⟨x1, x2, x3, x4, x5, x6, x7, x8, x9, xd⟩, xa, xc, xq⟩ w3 ∧ Kept (a.O p) w1 w3) := Lib.hid ⟨PutP.before (by first | exact HK.out | exact HK.out.drew) hPP, by first | exact hPP.keeps | exact (Kept.refl _ w1).drew.trans hPP.keeps⟩
  have hO3 := HPP.out.2.blk HO.out (fun e => by have := HOb.out ob e; omega)
  obtain ⟨s, c, a', hF, hN, q1, q2⟩ := Fab.putP HH.out hp HPP.out.1
  have f3 := hF.blk.cell (o := 3) rfl
  have g3 := hF.blk.frozen 3
  rw [q1] at f3 g3
  have hL := HB.out.l
  have hw : IntKind.i64.wrap (M.L + 1) = M.L + 1 := by rw [IntKind.wrap_i64]; omega
  have HF := Lib.hid hF
  have HN := Lib.hid hN
  have HE := Lib.hid (And.intro q1 q2)
  clear hPP hF hN q1 q2 e0 e1 e2 e3 e4 e5 e6 e7 e8 e9 e10 HPP HO PU PT
  rcases HD.out with ⟨h3, h9⟩ | ⟨h1 | ⟨h2, hk⟩, h9⟩
  ·have FIN : Hid (∀ w4, Kept (fun _ => False) w3 w4 → PutF w0 K a M w p ⟨⟨x1, x2, x3, x4, x5, x6, x7, x8, x9, xd⟩, xa, xc, xq⟩ (w4.setCell ⟨a.fb, 3, none⟩ (.int .i64 (M.L + 1)))) := Lib.hid fun w4 kk => by
    have hF := HF.out.old kk
    have h5 := hF.setL (M.L + 1)
    rw [HE.out.1] at h5
    refine ⟨s, c, a', by rw [putM_3 h3]; exact h5.1, nxt HN.out ⟨(kk.mono (fun _ _ f => f.elim)).trans (h5.2.mono (fun i _ e => Or.inl (by rw [HE.out.1]; exact e))), fun i hi => Or.inl hi⟩, HE.out.1⟩
   have HR : Hid (Ending.returned (.int .i64 3) = .returned (.int .i64 (putD K.room K.most K.trim (M.P p) ⟨⟨x1, x2, x3, x4, x5, x6, x7, x8, x9, xd⟩, xa, xc, xq⟩).1)) := Lib.hid (by rw [h3])
   rw [h3]
   clear hO3 HF HN h3 h9
   go_wp2_with fail
   go_ret
   exact ⟨HR.out, FIN.out _ (by first | exact Kept.refl _ _ | exact (Kept.refl _ _).drew)⟩
  ·have CN := Lib.hid fun (w4 : World) (kk : Kept (fun _ => False) w3 w4) => cnt_any (x := ⟨⟨x1, x2, x3, x4, x5, x6, x7, x8, x9, xd⟩, xa, xc, xq⟩) (k := 1) (HF.out.old kk) HX.out.d HX.out.l (Or.inl rfl) HB.out.b
   rw [HE.out.1] at CN
   obtain ⟨e0, e1, e2, e3, e4, e5, e6, e7, e8, e9, e10⟩ := cs11 hO3
   have HR : Hid (Ending.returned (.int .i64 1) = .returned (.int .i64 (putD K.room K.most K.trim (M.P p) ⟨⟨x1, x2, x3, x4, x5, x6, x7, x8, x9, xd⟩, xa, xc, xq⟩).1)) := Lib.hid (by rw [h1])
   have H1 := Lib.hid h1
   rw [h1]
   clear hO3 h1 h9 f3 g3 hw
   go_wp2_with fail
   with_reducible refine Calls.mono (CN.out _ (by first | exact Kept.refl _ _ | exact (Kept.refl _ _).drew)) ?_
   rintro e w5 ⟨rfl, hF5, hk5⟩
   have FIN : Hid (PutF w0 K a M w p ⟨⟨x1, x2, x3, x4, x5, x6, x7, x8, x9, xd⟩, xa, xc, xq⟩ w5) := Lib.hid ⟨s, c, a', by rw [putM_1 H1.out]; exact hF5, nxt HN.out ⟨(by first | exact hk5.mono (fun i _ e => Or.inr (Or.inr (Or.inr (Or.inl e)))) | exact (Kept.refl _ _).drew.trans (hk5.mono (fun i _ e => Or.inr (Or.inr (Or.inr (Or.inl e)))))), fun i hi => Or.inl hi⟩, HE.out.1⟩
   clear hF5 hk5 CN e0 e1 e2 e3 e4 e5 e6 e7 e8 e9 e10
   go_wp2_with fail
   go_ret
   exact ⟨HR.out, FIN.out⟩
  ·have FIN : Hid (∀ w4, Kept (fun _ => False) w3 w4 → PutF w0 K a M w p ⟨⟨x1, x2, x3, x4, x5, x6, x7, x8, x9, xd⟩, xa, xc, xq⟩ w4) := Lib.hid fun w4 kk => ⟨s, c, a', by rw [putM_2 h2]; exact HF.out.old kk, nxt HN.out ⟨kk.mono (fun _ _ f => f.elim), fun i hi => Or.inl hi⟩, HE.out.1⟩
   have HR : Hid (Ending.returned (.int .i64 2) = .returned (.int .i64 (putD K.room K.most K.trim (M.P p) ⟨⟨x1, x2, x3, x4, x5, x6, x7, x8, x9, xd⟩, xa, xc, xq⟩).1)) := Lib.hid (by rw [h2])
   rw [h2]
   clear hO3 HF HN h2 h9 hk f3 g3 hw
   go_wp2_with fail
   go_ret
   exact ⟨HR.out, FIN.out _ (by first | exact Kept.refl _ _ | exact (Kept.refl _ _).drew)⟩
end Go.Proofs.YtpogpibjkolioaaGreat.Fb

/- A fabric's Serve. Conditions: each theorem's own. -/
namespace Go.Proofs.YtpogpibjkolioaaGreat.Fb
open Go.RowKit Hp QuM QuN Rw Qu NumM NumC Po Fo FbM TpM Tp
attribute [local go_sem ↓] Go.wp_at_zero Go.wp_at_succ
variable {w0 w w' : World} {K : Cf} {a : Ad} {M : Mo}
def srv0 (M : Mo) (p : Nat) (t : Int) : Mo := { M with P := upd M.P p (tkP (M.P p) t) }
def srv1 (M : Mo) (p : Nat) (t : Int) (x : Bx) : Mo := { M with P := upd M.P p (tkP (M.P p) t), B := cB M.B x (-1) }
def srv2 (M : Mo) (p : Nat) (t : Int) (x : Bx) (d : Nat) : Mo := { M with P := upd M.P p (tkP (M.P p) t), B := cB M.B x (-1), I := upd M.I d (M.I d ++ [x]) }
def FabN (w0 : World) (K : Cf) (a : Ad) (M' : Mo) (w w' : World) : Prop := ∃ a', Fab w0 K a' M' w' ∧ Qu.Next (ownA K a) w (ownA K a') w' ∧ a'.fb = a.fb
theorem FabN.old {M' : Mo} {w2 : World} (h : FabN w0 K a M' w w') (k : Kept (fun _ => False) w' w2) : FabN w0 K a M' w w2 := by
 obtain ⟨a', h1, h2, h3⟩ := h
 exact ⟨a', h1.old k, nxt h2 ⟨k.mono (fun _ _ f => f.elim), fun i hi => Or.inl hi⟩, h3⟩
theorem Fab.takeP (h : Fab w0 K a M w) {p : Nat} (hp : p < K.n) {t : Int} (hP : TakeP w0 (a.pp p) K (M.P p) (a.O p) w t w') : ∃ a', Fab w0 K a' (srv0 M p t) w' ∧ Qu.Next (ownA K a) w (ownA K a') w' ∧ a'.fb = a.fb ∧ a'.hb = a.hb ∧ a'.nb = a.nb ∧ ∀ x, Is K M x → ∀ q g, q < K.n → xb x = some g → ¬ a'.O q g := by
 obtain ⟨h1, F', h2, h3⟩ := hP
 refine ⟨_, h.turn hp h2 h3 (fun y hy => Or.inl (in_tk hy)), own_turn h hp h3, rfl, rfl, rfl, fun x hx q g hq hg e => ?_⟩
 dsimp only at e
 by_cases eq : q = p
 ·subst eq
  rw [upd_self] at e
  rcases h3.2 g e with f | f
  ·exact h.od q x g hq hx hg f
  ·have := ((h.dat x hx).1.lt g hg).2; omega
 ·rw [upd_ne _ _ eq] at e
  exact h.od q x g hq hx hg e
theorem serve_no (h : Fab w0 K a M w) {J t : Int} (hj : J < 0 ∨ (K.n : Int) ≤ J) : Calls Tryz.prog 10 #[ptr a.fb, .int .i64 J, .int .i64 t] w fun e w' => e = .returned (.tuple #[.bool false, .int .i64 5]) ∧ w = w' := by
 have PT := Lib.hid (port_no h hj)
 clear h
 go_enter Tryz.func10, Tryz.ntmps10
 go_wp2_with fail
 with_reducible refine Calls.mono PT.out ?_
 rintro e w3 ⟨rfl, rfl⟩
 go_wp2_with fail
 exact bodyPost_ret (v := .tuple #[.bool false, .int .i64 5]) (by simp [results, Tryz.results10, go_sem]) rfl ⟨rfl, rfl⟩
set_option maxRecDepth 100000 in
set_option maxHeartbeats 4000000 in
theorem serve_none (h : Fab w0 K a M w) (hb : Bd K M) {p : Nat} (hp : p < K.n) {t : Int} (hx : tkX (M.P p) t = none) :
  Calls Tryz.prog 10 #[ptr a.fb, .int .i64 (p : Nat), .int .i64 t] w fun e w' => e = .returned (.tuple #[.bool false, .int .i64 0]) ∧ FabN w0 K a (srv0 M p t) w w' := by
 have TK := Lib.hid (po_take (h.prt p hp) t (hb.n p hp))
 have PT := Lib.hid (port_yes h hp)
 rw [hx] at TK
 have HH := Lib.hid h
 clear h hb hx
 go_enter Tryz.func10, Tryz.ntmps10
 go_wp2_with fail
 with_reducible refine Calls.mono PT.out ?_
 rintro e w3 ⟨rfl, rfl⟩
 go_wp2_with fail
 with_reducible refine Calls.mono TK.out ?_
 rintro e w4 ⟨rfl, hT⟩
 have R : Hid (FabN w0 K a (srv0 M p t) w (w4.alloc (.cells #[.int .i64 0, .int .i64 0, .int .i64 0, .int .i64 0, .int .u64 0, .int .i64 0, .int .i64 0, .int .i64 0, .int .i64 0, .slice none 0 0, .int .i64 0] 83))) := by
  obtain ⟨a', h1, h2, h3, _⟩ := HH.out.takeP hp hT
  exact Lib.hid (FabN.old ⟨a', h1, h2, h3⟩ ((Kept.refl _ w4).alloc _))
 clear hT TK PT HH
 go_wp2_with fail
 exact bodyPost_ret (v := .tuple #[.bool false, .int .i64 0]) (by simp [results, Tryz.results10, go_sem]) rfl ⟨rfl, R.out⟩
end Go.Proofs.YtpogpibjkolioaaGreat.Fb

/- A fabric whose one inbox is another one. Conditions: each theorem's own. -/
namespace Go.Proofs.YtpogpibjkolioaaGreat.Fb
open Go.RowKit Hp QuM QuN Rw Qu NumM NumC Po Fo FbM TpM Tp
variable {w0 w w' : World} {K : Cf} {a : Ad} {M : Mo}
theorem Fab.inbox (h : Fab w0 K a M w) {j : Nat} (hj : j < K.hn) : ∃ (c : List Value) (Z : List Bx), Z.length = a.z j ∧ Z.length ≤ (M.I j).length ∧ Blk w a.hb c tH ∧ c[j * 3]? = some (a.iv j) ∧ c[j * 3 + 1]? = some (.int .i64 (Z.length : Nat)) ∧ Rw.Row fT w w0.heap.size (a.iv j) (Z ++ M.I j) ∧ (∀ g, (a.iv j).ownBlock = some g → g = a.hb → False) ∧
  ∀ (v' : Value) (c' : List Value) (Z' L' : List Bx) (w' : World), Blk w' a.hb c' tH → (∀ i, i ≠ j * 3 → i ≠ j * 3 + 1 → c'[i]? = c[i]?) → c'[j * 3]? = some v' → c'[j * 3 + 1]? = some (.int .i64 (Z'.length : Nat)) → Z'.length ≤ L'.length → Rw.Row fT w' w0.heap.size v' (Z' ++ L') → Kept (fun i => i = a.hb ∨ (a.iv j).ownBlock = some i) w w' →
   (∀ g, v'.ownBlock = some g → (a.iv j).ownBlock = some g ∨ w.heap.size ≤ g) → (∀ x, x ∈ L' → x ∈ M.I j ∨ (Dat w0 w x ∧ ∀ p g, p < K.n → xb x = some g → ¬ a.O p g)) →
   Fab w0 K { a with iv := upd a.iv j v', z := upd a.z j Z'.length } { M with I := upd M.I j L' } w' ∧ Qu.Next (ownA K a) w (ownA K { a with iv := upd a.iv j v', z := upd a.z j Z'.length }) w' := by
 obtain ⟨c1, h1, h1'⟩ := h.prow
 obtain ⟨c, h2, h2'⟩ := h.hrow
 obtain ⟨Z, hZ, hZl, hR⟩ := h.inb j hj
 obtain ⟨d1, d2, d3⟩ := h2' j hj
 refine ⟨c, Z, hZ, hZl, h2, d1, by rw [hZ]; exact d2, hR, fun g e => (h.isort hj e).2.2.2, ?_⟩
 intro v' c' Z' L' w' hB hc e1 e2 hzl' hR' k hlies hL
 have hs := h.sorts
 have hGo : ∀ p g, p < K.n → a.O p g → (g = a.hb ∨ (a.iv j).ownBlock = some g) → False := by
  rintro p g hp e (f | f)
  ·exact (h.of p g hp e).2.2.2.1 f
  ·exact (h.of p g hp e).2.2.2.2 j hj f
 have hown : ∀ i, (i = a.hb ∨ (a.iv j).ownBlock = some i) → ownA K a i := by
  rintro i (f | f)
  ·exact Or.inr (Or.inr (Or.inr (Or.inl f)))
  ·exact Or.inr (Or.inr (Or.inr (Or.inr (Or.inl ⟨j, hj, f⟩))))
 have hnew : ∀ g, v'.ownBlock = some g → g ≠ a.fb ∧ g ≠ a.nb ∧ g ≠ a.pb ∧ g ≠ a.hb := fun g e => by
  rcases hlies g e with f | f
  ·exact h.isort hj f
  ·have := h.blk.lt; have := Blk.lt h.nv; have := h1.lt; have := h2.lt
   exact ⟨by omega, by omega, by omega, by omega⟩
 have ndat : ∀ x, Dat w0 w x → (∀ g, xb x = some g → ¬ (g = a.hb ∨ (a.iv j).ownBlock = some g)) → Dat w0 w' x := fun x hx hg => ⟨hx.1.kept k hg, hx.2⟩
 have dsrt : ∀ x, Dat w0 w x → ∀ g, xb x = some g → ¬ (g = a.hb ∨ (a.iv j).ownBlock = some g) := fun x hx g hg => by
  obtain ⟨cb, hb⟩ := byt_blk hx.1 hg
  rintro (f | f)
  ·exact ne_blk hb h2 (by decide) f
  ·obtain ⟨d, hd⟩ := h.iblk hj f
   exact ne_blk hb hd (by decide) rfl
 have cases_ : ∀ x, Is K { M with I := upd M.I j L' } x → Is K M x ∨ (Dat w0 w x ∧ ∀ p g, p < K.n → xb x = some g → ¬ a.O p g) := by
  rintro x (hx | ⟨i, hi, hx⟩)
  ·exact Or.inl (Or.inl hx)
  ·by_cases e : i = j
   ·subst e
    dsimp only at hx
    rw [upd_self] at hx
    rcases hL x hx with f | f
    ·exact Or.inl (Or.inr ⟨i, hi, f⟩)
    ·exact Or.inr f
   ·dsimp only at hx
    rw [upd_ne _ _ e] at hx
    exact Or.inl (Or.inr ⟨i, hi, hx⟩)
 have hdat : ∀ x, Is K { M with I := upd M.I j L' } x → Dat w0 w x := fun x hx => (cases_ x hx).elim (fun f => h.dat x f) (fun f => f.1)
 refine ⟨{ cf := h.cf, since := h.since.trans' k (fun i hi e => by have := (h.bound (hown i e)).1; omega), blk := k.blk h.blk (fun e => ?_), nv := k.blk h.nv (fun e => ?_), prow := ⟨c1, k.blk h1 (fun e => ?_), h1'⟩, hrow := ⟨c', hB, fun i hi => ?_⟩, prt := fun p hp => ?_, inb := fun i hi => ?_, dat := fun x hx => ndat x (hdat x hx) (dsrt x (hdat x hx)), oo := h.oo, of := fun p g hp e => ?_, od := fun p x g hp hx hg => ?_, ii := fun i q g hi hq ei eq => ?_, low := h.low }, k.mono (fun i _ e => hown i e), ?_⟩
 ·rcases e with e | e
  ·exact hs.2.2.1 e
  ·exact (h.isort hj e).1 rfl
 ·rcases e with e | e
  ·exact hs.2.2.2.2.1 e
  ·exact (h.isort hj e).2.1 rfl
 ·rcases e with e | e
  ·exact hs.2.2.2.2.2 e
  ·exact (h.isort hj e).2.2.1 rfl
 ·obtain ⟨f1, f2, f3⟩ := h2' i hi
  dsimp only
  by_cases e : i = j
  ·subst e
   rw [upd_self, upd_self]
   exact ⟨e1, e2, by rw [hc _ (by omega) (by omega)]; exact f3⟩
  ·rw [upd_ne _ _ e, upd_ne _ _ e]
   exact ⟨by rw [hc _ (by omega) (by omega)]; exact f1, by rw [hc _ (by omega) (by omega)]; exact f2, by rw [hc _ (by omega) (by omega)]; exact f3⟩
 ·exact (h.prt p hp).far k (fun i e f => hGo p i hp f e) (fun x hx g hg => dsrt x (h.dat x (Or.inl ⟨p, hp, hx⟩)) g hg) (fun i e => (h.bound (hown i e)).1)
 ·dsimp only
  by_cases e : i = j
  ·subst e
   rw [upd_self, upd_self, upd_self]
   exact ⟨Z', rfl, hzl', hR'⟩
  ·rw [upd_ne _ _ e, upd_ne _ _ e, upd_ne _ _ e]
   obtain ⟨Y, hY, hYl, hr⟩ := h.inb i hi
   exact ⟨Y, hY, hYl, hr.kept k (fun g f f2 => f2.elim (fun f3 => (h.isort hi f).2.2.2 f3) (fun f3 => e (h.ii i j g hi hj f f3)))⟩
 ·refine ⟨(h.of p g hp e).1, (h.of p g hp e).2.1, (h.of p g hp e).2.2.1, (h.of p g hp e).2.2.2.1, fun i hi f => ?_⟩
  dsimp only at f
  by_cases ei : i = j
  ·subst ei
   rw [upd_self] at f
   rcases hlies g f with f2 | f2
   ·exact (h.of p g hp e).2.2.2.2 i hi f2
   ·have := ((h.prt p hp).bound e).2; omega
  ·rw [upd_ne _ _ ei] at f
   exact (h.of p g hp e).2.2.2.2 i hi f
 ·rcases cases_ x hx with f | f
  ·exact h.od p x g hp f hg
  ·exact f.2 p g hp hg
 ·dsimp only at ei eq
  have key : ∀ i, i < K.hn → i ≠ j → v'.ownBlock = some g → (a.iv i).ownBlock = some g → False := fun i hi e f1 f2 => by
   rcases hlies g f1 with f3 | f3
   ·exact e (h.ii i j g hi hj f2 f3)
   ·obtain ⟨Y, hY, hYl, hr⟩ := h.inb i hi
    have := (hr.lt g f2).2; omega
  by_cases e3 : i = j
  ·by_cases e4 : q = j
   ·omega
   ·subst e3
    rw [upd_self] at ei
    rw [upd_ne _ _ e4] at eq
    exact (key q hq e4 ei eq).elim
  ·rw [upd_ne _ _ e3] at ei
   by_cases e4 : q = j
   ·subst e4
    rw [upd_self] at eq
    exact (key i hi e3 eq ei).elim
   ·rw [upd_ne _ _ e4] at eq
    exact h.ii i q g hi hq ei eq
 ·rintro i (e | e | e | e | ⟨q, hq, e⟩ | e)
  ·exact Or.inl (Or.inl e)
  ·exact Or.inl (Or.inr (Or.inl e))
  ·exact Or.inl (Or.inr (Or.inr (Or.inl e)))
  ·exact Or.inl (Or.inr (Or.inr (Or.inr (Or.inl e))))
  ·dsimp only at e
   by_cases eq : q = j
   ·subst eq
    rw [upd_self] at e
    exact (hlies i e).imp (fun f => hown i (Or.inr f)) id
   ·rw [upd_ne _ _ eq] at e
    exact Or.inl (Or.inr (Or.inr (Or.inr (Or.inr (Or.inl ⟨q, hq, e⟩)))))
  ·exact Or.inl (Or.inr (Or.inr (Or.inr (Or.inr (Or.inr e)))))
end Go.Proofs.YtpogpibjkolioaaGreat.Fb

