/- Both ports beside each other: how they are alike, what else lies about. Conditions: each theorem's own. -/
import Derived.Test.YtpogpibjkolioaaGreatFpK28
import Derived.Test.YtpogpibjkolioaaGreatFpK24
import Derived.Test.YtpogpibjkolioaaGreatFpK26
import Derived.Test.YtpogpibjkolioaaGreatFpK27
import Derived.Test.YtpogpibjkolioaaGreatFpK10
import Derived.Test.YtpogpibjkolioaaGreatFpK20
import Derived.Test.YtpogpibjkolioaaGreatFpK13
import Derived.Test.YtpogpibjkolioaaGreatFpK1
set_option linter.unusedVariables false
set_option linter.unusedSimpArgs false
namespace Go.Proofs.YtpogpibjkolioaaGreat.Rf
open Go.RowKit Hp QuM Rw Qu Po NumM NumC
variable {W w0 w w' : World} {b m : Nat} {room most : Int} {trim : Bool} {ls l1 l2 : Nat → List Bx} {cr c1 c2 : List Bx} {now nxt last : Int} {ever : Bool} {vs : Nat → Value} {vc : Value} {R F G : Nat → Prop}
def Rel (l1 l2 : Nat → List Bx) (c1 c2 : List Bx) : Prop := (∀ k, k < 8 → (l1 k).map ky = (l2 k).map ky) ∧ c1.map ky = c2.map ky
theorem ky_len {A B : List Bx} (h : A.map ky = B.map ky) : A.length = B.length := by have := congrArg List.length h; simpa using this
theorem Rel.len (h : Rel l1 l2 c1 c2) {k : Nat} (hk : k < 8) : (l1 k).length = (l2 k).length := ky_len (h.1 k hk)
theorem nb_ky {x y : Bx} (e : ky x = ky y) : nb x = nb y := by
 have : x.f = y.f := congrArg Prod.fst e
 unfold nb; rw [this]
theorem sumB_ky : ∀ {A B : List Bx}, A.map ky = B.map ky → sumB A = sumB B
 | [], [], _ => rfl
 | [], b :: B, h => by cases h
 | a :: A, [], h => by cases h
 | a :: A, b :: B, h => by
  rw [List.map_cons, List.map_cons] at h
  injection h with h1 h2
  show szI (nb a) + sumB A = szI (nb b) + sumB B
  rw [nb_ky h1, sumB_ky h2]
theorem Rel.totE (h : Rel l1 l2 c1 c2) : ∀ {n : Nat}, n ≤ 8 → tot l1 n = tot l2 n
 | 0, _ => rfl
 | n + 1, hn => by
  show tot l1 n + sumB (l1 n) = tot l2 n + sumB (l2 n)
  rw [Rel.totE h (n := n) (by omega), sumB_ky (h.1 n (by omega))]
theorem Rel.topE (h : Rel l1 l2 c1 c2) : ∀ {n : Nat}, n ≤ 8 → top l1 n = top l2 n
 | 0, _ => rfl
 | n + 1, hn => by
  show (if l1 n = [] then top l1 n else some n) = (if l2 n = [] then top l2 n else some n)
  have h1 := h.len (k := n) (by omega)
  rw [Rel.topE h (n := n) (by omega)]
  by_cases e : l2 n = []
  ·rw [e] at h1
   rw [if_pos e, if_pos (List.length_eq_zero_iff.1 h1)]
  ·rw [if_neg e, if_neg (fun e1 => e (by rw [e1] at h1; exact List.length_eq_zero_iff.1 h1.symm))]
theorem Rel.lnlE (h : Rel l1 l2 c1 c2) {i : Nat} (hi : i < 9) : (lnl l1 c1 i).map ky = (lnl l2 c2 i).map ky := by
 unfold Po.lnl
 split
 ·exact h.1 _ (by omega)
 ·exact h.2
theorem Rel.acc (h : Rel l1 l2 c1 c2) : ∀ {n : Nat}, n ≤ 9 → (accL l1 c1 n).map ky = (accL l2 c2 n).map ky
 | 0, _ => rfl
 | n + 1, hn => by
  show (accL l1 c1 n ++ Po.lnl l1 c1 n).map ky = (accL l2 c2 n ++ Po.lnl l2 c2 n).map ky
  rw [List.map_append, List.map_append, Rel.acc h (n := n) (by omega), h.lnlE (by omega)]
theorem Rel.line (h : Rel l1 l2 c1 c2) {p : Nat} {A B : List Bx} (e : A.map ky = B.map ky) : Rel (upd l1 p A) (upd l2 p B) c1 c2 := by
 refine ⟨fun k hk => ?_, h.2⟩
 by_cases e2 : k = p
 ·subst e2; rw [upd_self, upd_self]; exact e
 ·rw [upd_ne _ _ e2, upd_ne _ _ e2]; exact h.1 k hk
theorem Rel.push (h : Rel l1 l2 c1 c2) {p : Nat} (hp : p < 8) {x y : Bx} (e : ky x = ky y) : Rel (upd l1 p (l1 p ++ [x])) (upd l2 p (l2 p ++ [y])) c1 c2 :=
 h.line (by rw [List.map_append, List.map_append, h.1 p hp, List.map_singleton, List.map_singleton, e])
theorem Rel.cred (h : Rel l1 l2 c1 c2) {x y : Bx} (e : ky x = ky y) : Rel l1 l2 (c1 ++ [x]) (c2 ++ [y]) :=
 ⟨h.1, by rw [List.map_append, List.map_append, h.2, List.map_singleton, List.map_singleton, e]⟩
theorem map_erase (A : List Bx) (k : Nat) : (A.eraseIdx k).map ky = (A.map ky).eraseIdx k := by
 rw [List.eraseIdx_eq_take_drop_succ, List.eraseIdx_eq_take_drop_succ, List.map_append, List.map_take, List.map_drop]
theorem Rel.erase (h : Rel l1 l2 c1 c2) (i at_ : Nat) (hi : i < 9) : Rel (lsE l1 i at_) (lsE l2 i at_) (crE c1 i at_) (crE c2 i at_) := by
 unfold lsE crE
 split
 ·exact h.line (by rw [map_erase, map_erase, h.1 _ (by omega)])
 ·exact ⟨h.1, by rw [map_erase, map_erase, h.2]⟩
abbrev Ex := List (Nat × List Value × TypeId)
def DX (W : World) (b m : Nat) (room most : Int) (trim : Bool) (l1 : Nat → List Bx) (c1 : List Bx) (n1 nxt : Int) (l2 : Nat → List Bx) (c2 : List Bx) (n2 last : Int) (ever : Bool) (ex : Ex) (w : World) : Prop :=
 ∃ F R, PS W b room most trim l1 c1 n1 nxt F w ∧ RS W m room most trim l2 c2 n2 last ever R w ∧ (∀ i, F i → R i → False) ∧ ∀ x ∈ ex, Blk w x.1 x.2.1 x.2.2 ∧ ¬ F x.1 ∧ ¬ R x.1
variable {n1 n2 : Int} {ex : Ex}
theorem DX.keep (h : DX W b m room most trim l1 c1 n1 nxt l2 c2 n2 last ever ex w) (k : Kept (fun _ => False) w w') : DX W b m room most trim l1 c1 n1 nxt l2 c2 n2 last ever ex w' := by
 obtain ⟨F, R, h1, h2, h3, h4⟩ := h
 exact ⟨F, R, h1.old k, h2.old k, h3, fun x hx => ⟨k.blk (h4 x hx).1 (fun f => f), (h4 x hx).2⟩⟩
theorem DX.drew (h : DX W b m room most trim l1 c1 n1 nxt l2 c2 n2 last ever ex w) : DX W b m room most trim l1 c1 n1 nxt l2 c2 n2 last ever ex w.drew := h.keep (Kept.refl _ w).drew
theorem DX.blk (h : DX W b m room most trim l1 c1 n1 nxt l2 c2 n2 last ever ex w) {x : Nat × List Value × TypeId} (hx : x ∈ ex) : Blk w x.1 x.2.1 x.2.2 := by
 obtain ⟨F, R, h1, h2, h3, h4⟩ := h
 exact (h4 x hx).1
theorem DX.old (h : DX W b m room most trim l1 c1 n1 nxt l2 c2 n2 last ever ex w) : Kept (fun _ => False) W w := by
 obtain ⟨F, R, h1, h2, h3, h4⟩ := h
 exact h1.since
theorem DX.alloc (h : DX W b m room most trim l1 c1 n1 nxt l2 c2 n2 last ever ex w) (c : List Value) (T : TypeId) : DX W b m room most trim l1 c1 n1 nxt l2 c2 n2 last ever ((w.heap.size, c, T) :: ex) (w.alloc (.cells c.toArray T)) := by
 have hk : Kept (fun _ => False) w (w.alloc (.cells c.toArray T)) := (Kept.refl _ w).alloc _
 obtain ⟨F, R, h1, h2, h3, h4⟩ := h
 refine ⟨F, R, h1.old hk, h2.old hk, h3, fun x hx => ?_⟩
 rcases List.mem_cons.1 hx with rfl | hx
 ·exact ⟨Blk.new w c T, fun e => by have := (h1.bound e).2; simp at this, fun e => by have := h2.bound e; simp at this⟩
 ·exact ⟨hk.blk (h4 x hx).1 (fun f => f), (h4 x hx).2⟩
end Go.Proofs.YtpogpibjkolioaaGreat.Rf

/- The reference's port by lists (Pt): what a Put makes of one. Conditions: each theorem's own. -/
namespace Go.Proofs.YtpogpibjkolioaaGreat.Rf
open Go.RowKit Hp QuM Rw Qu Po NumM NumC FbM
variable {w0 w w' : World} {m : Nat} {room most : Int} {trim : Bool} {P : Pt} {now last : Int} {ever : Bool} {R : Nat → Prop}
theorem rn_keep (k : Kept (fun _ => False) w w') : RN m R w R w' := ⟨k.mono (fun _ _ f => f.elim), fun i h => Or.inl h⟩
theorem rput_any (h : RS w0 m room most trim P.ls P.cr now last ever R w) {y : Bx} (hy : Rok w0 y) (hc : cnt P.ls 8 ≤ 900) (hcr : P.cr.length ≤ 900) :
  Calls Tryz.prog 65 #[.pointer (some ⟨m, 0, none⟩), bv y] w fun e w' => e = .returned (.int .i64 (putD room most trim P y).1) ∧ ∃ s c R', RS w0 m room most trim (addP P (putD room most trim P y).2 ⟨itF (putD room most trim P y).1 y, s, c, y.q⟩).ls (addP P (putD room most trim P y).2 ⟨itF (putD room most trim P y).1 y, s, c, y.q⟩).cr now last ever R' w' ∧ RN m R w R' w' := by
 have hh := h
 obtain ⟨vs, vc, h, rfl⟩ := h
 have hpi := prI_bd y
 unfold putD
 by_cases hk : y.f.kind = 11
 ·rw [if_pos hk]
  by_cases hm : (P.cr.length : Int) < most
  ·rw [if_pos hm]
   refine (rput_credit h hy hk hcr (fit := true) (by simpa using hm)).mono ?_
   rintro e w' ⟨rfl, R', h1, h2⟩
   refine ⟨rfl, y.s, y.c, R', ?_, h2⟩
   unfold addP itF
   dsimp only
   rw [if_neg (by decide), if_pos rfl, if_neg (by decide)]
   exact h1
  ·rw [if_neg hm]
   refine (rput_credit h hy hk hcr (fit := false) (by simpa using hm)).mono ?_
   rintro e w' ⟨rfl, h2⟩
   refine ⟨rfl, none, 0, _, ?_, rn_keep h2⟩
   unfold addP
   dsimp only
   rw [if_neg (by decide), if_neg (by decide)]
   exact hh.old h2
 ·rw [if_neg hk]
  have hp0 : prI y = ((prI y).toNat : Nat) := by omega
  have hp8 : (prI y).toNat < 8 := by omega
  by_cases hf : tot P.ls 8 + szI (nb y) ≤ room
  ·rw [if_pos hf]
   refine (rput_fit h hy hk hp0 hc hf).mono ?_
   rintro e w' ⟨rfl, R', h1, h2⟩
   refine ⟨rfl, y.s, y.c, R', ?_, h2⟩
   unfold addP itF
   dsimp only
   rw [if_pos hp8, if_neg (by decide)]
   exact h1
  ·rw [if_neg hf]
   by_cases ht : trim = true ∧ y.f.kind = 1 ∧ tot P.ls 8 + 26 ≤ room
   ·rw [if_pos ht]
    obtain ⟨rfl, hk1, hf2⟩ := ht
    refine (rput_trim h hy hk1 hp0 hc hf (fit := true) (by simpa using hf2)).mono ?_
    rintro e w' ⟨rfl, R', h1, h2⟩
    refine ⟨rfl, (trX y).s, (trX y).c, R', ?_, h2⟩
    unfold addP itF
    dsimp only
    rw [if_pos (by decide), if_pos rfl]
    exact h1
   ·rw [if_neg ht]
    by_cases ht2 : trim = false ∨ y.f.kind ≠ 1
    ·refine (rput_drop h hy hk hp0 hc hf ht2).mono ?_
     rintro e w' ⟨rfl, h2⟩
     refine ⟨rfl, none, 0, _, ?_, rn_keep h2⟩
     unfold addP
     dsimp only
     rw [if_neg (by decide), if_neg (by decide)]
     exact hh.old h2
    ·have ht1 : trim = true := by cases trim with
      | true => rfl
      | false => exact absurd (Or.inl rfl) ht2
     have hk1 : y.f.kind = 1 := Classical.byContradiction fun h => ht2 (Or.inr h)
     subst ht1
     have hf2 : ¬ tot P.ls 8 + 26 ≤ room := fun f => ht ⟨rfl, hk1, f⟩
     refine (rput_trim h hy hk1 hp0 hc hf (fit := false) (by simpa using hf2)).mono ?_
     rintro e w' ⟨rfl, h2⟩
     refine ⟨rfl, none, 0, _, ?_, rn_keep h2⟩
     unfold addP
     dsimp only
     rw [if_neg (by decide), if_neg (by decide)]
     exact hh.old h2
def Tn (now nxt last : Int) (ever : Bool) : Prop := 0 ≤ last ∧ last ≤ now ∧ now ≤ 1125899906842624 ∧ (ever = false → nxt ≤ now) ∧ (ever = true → nxt = last + 4)
def RP (w0 : World) (m : Nat) (room most : Int) (trim : Bool) (P : Pt) (R : Nat → Prop) (w : World) : Prop := ∃ last ever, Tn P.now P.nxt last ever ∧ RS w0 m room most trim P.ls P.cr P.now last ever R w
def Fw (P : Pt) : Prop := cnt P.ls 8 ≤ 900 ∧ P.cr.length ≤ 900
theorem RP.old (h : RP w0 m room most trim P R w) (k : Kept (fun _ => False) w w') : RP w0 m room most trim P R w' := by
 obtain ⟨last, ever, h1, h2⟩ := h
 exact ⟨last, ever, h1, h2.old k⟩
theorem RP.far {G : Nat → Prop} (h : RP w0 m room most trim P R w) (k : Kept G w w') (hG : ∀ i, G i → R i → False) (hw : ∀ i, G i → w0.heap.size ≤ i) : RP w0 m room most trim P R w' := by
 obtain ⟨last, ever, h1, h2⟩ := h
 exact ⟨last, ever, h1, h2.far k hG hw⟩
theorem RP.bound (h : RP w0 m room most trim P R w) {i : Nat} (hi : R i) : i < w.heap.size := by
 obtain ⟨last, ever, h1, h2⟩ := h
 exact h2.bound hi
theorem addP_now (P : Pt) (k : Nat) (y : Bx) : (addP P k y).now = P.now ∧ (addP P k y).nxt = P.nxt := by
 unfold addP
 split
 ·exact ⟨rfl, rfl⟩
 ·split <;> exact ⟨rfl, rfl⟩
theorem rp_put (h : RP w0 m room most trim P R w) {y : Bx} (hy : Rok w0 y) (hf : Fw P) :
  Calls Tryz.prog 65 #[.pointer (some ⟨m, 0, none⟩), bv y] w fun e w' => e = .returned (.int .i64 (putD room most trim P y).1) ∧ ∃ s c R', RP w0 m room most trim (addP P (putD room most trim P y).2 ⟨itF (putD room most trim P y).1 y, s, c, y.q⟩) R' w' ∧ RN m R w R' w' := by
 obtain ⟨last, ever, h1, h2⟩ := h
 refine (rput_any h2 hy hf.1 hf.2).mono ?_
 rintro e w' ⟨rfl, s, c, R', h3, h4⟩
 have hn := addP_now P (putD room most trim P y).2 ⟨itF (putD room most trim P y).1 y, s, c, y.q⟩
 refine ⟨rfl, s, c, R', ⟨last, ever, ?_, ?_⟩, h4⟩
 ·rw [hn.1, hn.2]; exact h1
 ·rw [hn.1]; exact h3
theorem line_le (ls : Nat → List Bx) {k : Nat} (hk : k < 8) : (ls k).length ≤ cnt ls 8 := len_le_cnt hk
theorem rp_take_some (h : RP w0 m room most trim P R w) (hf : Fw P) {t : Int} {y : Bx} (hx : tkX P t = some y) :
  Calls Tryz.prog 42 #[.pointer (some ⟨m, 0, none⟩), .int .i64 t] w fun e w' => e = .returned (.tuple #[bv y, .bool true]) ∧ Rok w0 y ∧ ∃ R', RP w0 m room most trim (tkP P t) R' w' ∧ RN m R w R' w' := by
 obtain ⟨last, ever, hT, h2⟩ := h
 obtain ⟨vs, vc, h, rfl⟩ := h2
 obtain ⟨t1, t2, t3, t4, t5⟩ := hT
 have hcm : P.now ≤ tkM P t ∧ tkM P t ≤ 1125899906842624 := clampI_bd t t3
 have hn0 : 0 ≤ P.now ∧ 0 ≤ last ∧ last ≤ P.now := ⟨by omega, t1, t2⟩
 have hll : ∀ k, k < 8 → (P.ls k).length ≤ 1000 := fun k hk => by have := line_le P.ls hk; have := hf.1; omega
 have hfc := hf.2
 rcases tk_some hx with ⟨L, e1, e2, e3⟩ | ⟨p, L, e0, e1, e2, e3⟩
 ·have hok : Rok w0 y := h.okc y (by rw [e1]; exact List.mem_cons_self)
  have h0 : 0 < P.cr.length := by rw [e1, List.length_cons]; omega
  rw [e3]
  cases ever with
  | false =>
   refine (rtake_cr_new h (mm := tkM P t) rfl hn0 t3 (by omega) h0 e1).mono ?_
   rintro e w' ⟨rfl, R', h3, h4⟩
   exact ⟨rfl, hok, R', ⟨tkM P t, true, ⟨by omega, Int.le_refl _, hcm.2, fun h => (by cases h), fun _ => rfl⟩, h3⟩, h4⟩
  | true =>
   have h5 := t5 rfl
   refine (rtake_cr_yes h (mm := tkM P t) rfl hn0 t3 (by omega) h0 (by omega) e1).mono ?_
   rintro e w' ⟨rfl, R', h3, h4⟩
   exact ⟨rfl, hok, R', ⟨tkM P t, true, ⟨by omega, Int.le_refl _, hcm.2, fun h => (by cases h), fun _ => rfl⟩, h3⟩, h4⟩
 ·have hp8 := (top_some e0).1
  have hok : Rok w0 y := h.ok p y hp8 (by rw [e1]; exact List.mem_cons_self)
  rw [e3]
  have fin : ∀ e w', TkL w0 m room most trim P.ls P.cr (tkM P t) last ever (frp m vs vc) w e w' → e = .returned (.tuple #[bv y, .bool true]) ∧ Rok w0 y ∧ ∃ R', RP w0 m room most trim { P with ls := upd P.ls p L, now := tkM P t } R' w' ∧ RN m (frp m vs vc) w R' w' := by
   rintro e w' (⟨g1, _⟩ | ⟨p', x', L', g1, g2, rfl, R', g3, g4⟩)
   ·rw [e0] at g1; cases g1
   ·rw [e0] at g1
    cases g1
    rw [e1] at g2
    cases g2
    exact ⟨rfl, hok, R', ⟨last, ever, ⟨t1, by dsimp only; omega, hcm.2, fun h => by have := t4 h; dsimp only; omega, t5⟩, g3⟩, g4⟩
  by_cases h0 : P.cr.length = 0
  ·exact (rtake_ln_off h (mm := tkM P t) rfl hn0 t3 (by omega) h0 hll).mono fin
  ·have hlt : tkM P t < P.nxt := by
    rcases e2 with e2 | e2
    ·rw [e2] at h0; exact absurd rfl h0
    ·exact e2
   cases ever with
   | false => have := t4 rfl; omega
   | true =>
    have h5 := t5 rfl
    exact (rtake_ln_no h (mm := tkM P t) rfl hn0 t3 (by omega) (by omega) (by omega) hll).mono fin
theorem rp_take_none (h : RP w0 m room most trim P R w) (hf : Fw P) {t : Int} (hx : tkX P t = none) :
  Calls Tryz.prog 42 #[.pointer (some ⟨m, 0, none⟩), .int .i64 t] w fun e w' => e = .returned (.tuple #[bv zB, .bool false]) ∧ ∃ R', RP w0 m room most trim (tkP P t) R' w' ∧ RN m R w R' w' := by
 obtain ⟨last, ever, hT, h2⟩ := h
 obtain ⟨vs, vc, h, rfl⟩ := h2
 obtain ⟨t1, t2, t3, t4, t5⟩ := hT
 have hcm : P.now ≤ tkM P t ∧ tkM P t ≤ 1125899906842624 := clampI_bd t t3
 have hn0 : 0 ≤ P.now ∧ 0 ≤ last ∧ last ≤ P.now := ⟨by omega, t1, t2⟩
 have hll : ∀ k, k < 8 → (P.ls k).length ≤ 1000 := fun k hk => by have := line_le P.ls hk; have := hf.1; omega
 have hfc := hf.2
 obtain ⟨e3, e0, e2⟩ := tk_none hx
 rw [e3]
 have fin : ∀ e w', TkL w0 m room most trim P.ls P.cr (tkM P t) last ever (frp m vs vc) w e w' → e = .returned (.tuple #[bv zB, .bool false]) ∧ ∃ R', RP w0 m room most trim { P with now := tkM P t } R' w' ∧ RN m (frp m vs vc) w R' w' := by
  rintro e w' (⟨g1, rfl, R', g3, g4⟩ | ⟨p', x', L', g1, _⟩)
  ·exact ⟨rfl, R', ⟨last, ever, ⟨t1, by dsimp only; omega, hcm.2, fun h => by have := t4 h; dsimp only; omega, t5⟩, g3⟩, g4⟩
  ·rw [e0] at g1; cases g1
 by_cases h0 : P.cr.length = 0
 ·exact (rtake_ln_off h (mm := tkM P t) rfl hn0 t3 (by omega) h0 hll).mono fin
 ·have hlt : tkM P t < P.nxt := by
   rcases e2 with e2 | e2
   ·rw [e2] at h0; exact absurd rfl h0
   ·exact e2
  cases ever with
  | false => have := t4 rfl; omega
  | true =>
   have h5 := t5 rfl
   exact (rtake_ln_no h (mm := tkM P t) rfl hn0 t3 (by omega) (by omega) (by omega) hll).mono fin
theorem rp_drop_no (h : RP w0 m room most trim P R w) {k : Int} (hk : k < 0 ∨ ((accL P.ls P.cr 9).length : Int) ≤ k) (hk2 : k ≤ 9223372036854775807) (hl : (accL P.ls P.cr 9).length ≤ 1000) :
  Calls Tryz.prog 46 #[.pointer (some ⟨m, 0, none⟩), .int .i64 k] w fun e w' => e = .returned (.tuple #[bv zB, .bool false]) ∧ ∃ R', RP w0 m room most trim P R' w' ∧ RN m R w R' w' := by
 obtain ⟨last, ever, hT, h2⟩ := h
 obtain ⟨vs, vc, h, rfl⟩ := h2
 by_cases h0 : k < 0
 ·refine (rdrop_negW h h0).mono ?_
  rintro e w' ⟨rfl, R', h3, h4⟩
  exact ⟨rfl, R', ⟨last, ever, hT, h3⟩, h4⟩
 ·obtain ⟨n, rfl⟩ := Int.eq_ofNat_of_zero_le (Int.not_lt.1 h0)
  refine (rdrop_noW h hk2 (k := n) (by omega) (by omega)).mono ?_
  rintro e w' ⟨rfl, R', h3, h4⟩
  exact ⟨rfl, R', ⟨last, ever, hT, h3⟩, h4⟩
theorem rp_drop_yes (h : RP w0 m room most trim P R w) {i at_ k : Nat} {x : Bx} (hi : i < 9) (hx : (lnl P.ls P.cr i)[at_]? = some x) (hk : (accL P.ls P.cr i).length + at_ = k) (hl : (accL P.ls P.cr 9).length ≤ 1000) :
  Calls Tryz.prog 46 #[.pointer (some ⟨m, 0, none⟩), .int .i64 (k : Nat)] w fun e w' => e = .returned (.tuple #[bv x, .bool true]) ∧ ∃ R', RP w0 m room most trim (drP P i at_) R' w' ∧ RN m R w R' w' := by
 obtain ⟨last, ever, hT, h2⟩ := h
 obtain ⟨vs, vc, h, rfl⟩ := h2
 refine (rdrop_yesW h hi hx hk hl).mono ?_
 rintro e w' ⟨rfl, R', h3, h4⟩
 exact ⟨rfl, R', ⟨last, ever, hT, h3⟩, h4⟩
end Go.Proofs.YtpogpibjkolioaaGreat.Rf

/- Two fabrics' models that hold the same: what each call makes of both. Conditions: each theorem's own. -/
namespace Go.Proofs.YtpogpibjkolioaaGreat.Rf
open Go.RowKit Hp QuM Rw Qu Po NumM NumC FbM Go.Proofs.YtpogpibjkolioaaGreat.Fb
def Al (P Q : Pt) : Prop := Rel P.ls Q.ls P.cr Q.cr ∧ P.now = Q.now ∧ P.nxt = Q.nxt
variable {P Q : Pt} {x y : Bx} {room most : Int} {trim : Bool}
theorem ky_f (e : ky x = ky y) : x.f = y.f := congrArg Prod.fst e
theorem ky_q (e : ky x = ky y) : x.q = y.q := congrArg Prod.snd e
theorem ky_of (e : x.f = y.f) (e2 : x.q = y.q) : ky x = ky y := by unfold ky; rw [e, e2]
theorem Al.putD (h : Al P Q) (e : ky x = ky y) : putD room most trim P x = putD room most trim Q y := by
 have ef := ky_f e
 have e1 := ky_len h.1.2
 have e2 := h.1.totE (n := 8) (Nat.le_refl _)
 have e3 := nb_ky e
 have e4 : prI x = prI y := by unfold prI; rw [ef]
 unfold FbM.putD
 rw [ef, e1, e2, e3, e4]
theorem itF_ky (e : ky x = ky y) (r : Int) : itF r x = itF r y := by
 have ef := ky_f e
 unfold itF
 split
 ·unfold trX; rw [ef]
 ·exact ef
theorem Al.add (h : Al P Q) (e : ky x = ky y) (k : Nat) : Al (addP P k x) (addP Q k y) := by
 unfold addP
 by_cases h1 : k < 8
 ·rw [if_pos h1, if_pos h1]
  exact ⟨h.1.push h1 e, h.2.1, h.2.2⟩
 ·rw [if_neg h1, if_neg h1]
  by_cases h2 : k = 8
  ·rw [if_pos h2, if_pos h2]
   exact ⟨h.1.cred e, h.2.1, h.2.2⟩
  ·rw [if_neg h2, if_neg h2]; exact h
theorem Al.tkM (h : Al P Q) (t : Int) : tkM P t = tkM Q t := by unfold FbM.tkM; rw [h.2.1]
theorem Al.tkL (h : Al P Q) (t : Int) : tkL P t = tkL Q t := by
 have e1 := ky_len h.1.2
 have e2 : P.cr ≠ [] ↔ Q.cr ≠ [] := by rw [← List.length_pos_iff, ← List.length_pos_iff, e1]
 unfold FbM.tkL
 rw [h.tkM t, h.2.2, h.1.topE (Nat.le_refl _)]
 by_cases h1 : Q.cr ≠ [] ∧ Q.nxt ≤ FbM.tkM Q t
 ·rw [if_pos h1, if_pos ⟨e2.2 h1.1, h1.2⟩]
 ·rw [if_neg h1, if_neg (fun f => h1 ⟨e2.1 f.1, f.2⟩)]
theorem head_ky {A B : List Bx} (h : A.map ky = B.map ky) : A.head?.map ky = B.head?.map ky := by
 rw [← List.head?_map, ← List.head?_map, h]
theorem tail_ky {A B : List Bx} (h : A.map ky = B.map ky) : A.tail.map ky = B.tail.map ky := by
 rw [List.map_tail, List.map_tail, h]
theorem Al.tkX (h : Al P Q) (t : Int) : (tkX P t).map ky = (tkX Q t).map ky := by
 unfold FbM.tkX
 rw [h.tkL t]
 by_cases h1 : FbM.tkL Q t < 8
 ·rw [if_pos h1, if_pos h1]; exact head_ky (h.1.1 _ h1)
 ·rw [if_neg h1, if_neg h1]
  by_cases h2 : FbM.tkL Q t = 8
  ·rw [if_pos h2, if_pos h2]; exact head_ky h.1.2
  ·rw [if_neg h2, if_neg h2]
theorem Al.tkP (h : Al P Q) (t : Int) : Al (tkP P t) (tkP Q t) := by
 unfold FbM.tkP
 rw [h.tkL t, h.tkM t]
 by_cases h1 : FbM.tkL Q t < 8
 ·rw [if_pos h1, if_pos h1]
  exact ⟨h.1.line (tail_ky (h.1.1 _ h1)), rfl, h.2.2⟩
 ·rw [if_neg h1, if_neg h1]
  by_cases h2 : FbM.tkL Q t = 8
  ·rw [if_pos h2, if_pos h2]
   exact ⟨⟨h.1.1, tail_ky h.1.2⟩, rfl, rfl⟩
  ·rw [if_neg h2, if_neg h2]
   exact ⟨h.1, rfl, h.2.2⟩
theorem Al.drP (h : Al P Q) {i : Nat} (at_ : Nat) (hi : i < 9) : Al (drP P i at_) (drP Q i at_) := ⟨h.1.erase i at_ hi, h.2.1, h.2.2⟩
theorem Al.acc (h : Al P Q) : (accL P.ls P.cr 9).map ky = (accL Q.ls Q.cr 9).map ky := h.1.acc (Nat.le_refl _)
structure Am (K : Cf) (M N : Mo) : Prop where
 p : ∀ p, p < K.n → Al (M.P p) (N.P p)
 i : ∀ h, (M.I h).map (·.f) = (N.I h).map (·.f)
 l : M.L = N.L
variable {K : Cf} {M N : Mo} {p : Nat}
theorem am_upd (h : ∀ q, q < K.n → Al (M.P q) (N.P q)) (e : Al P Q) : ∀ q, q < K.n → Al (upd M.P p P q) (upd N.P p Q q) := fun q hq => by
 by_cases e2 : q = p
 ·subst e2; rw [upd_self, upd_self]; exact e
 ·rw [upd_ne _ _ e2, upd_ne _ _ e2]; exact h q hq
theorem am_zero : Am K M0 M0 := ⟨fun p hp => ⟨⟨fun k hk => rfl, rfl⟩, rfl, rfl⟩, fun h => rfl, rfl⟩
theorem Am.dDe (h : Am K M N) (hp : p < K.n) (e : ky x = ky y) : dD K M p x = dD K N p y := (h.p p hp).putD e
theorem Am.put (h : Am K M N) (hp : p < K.n) (e : ky x = ky y) (s s' : Option Addr) (c c' : Nat) : Am K (putM K M p x s c) (putM K N p y s' c') := by
 have hd := h.dDe hp e
 refine ⟨am_upd h.p ?_, h.i, ?_⟩
 ·show Al (addP (M.P p) (dD K M p x).2 ⟨itF (dD K M p x).1 x, s, c, x.q⟩) (addP (N.P p) (dD K N p y).2 ⟨itF (dD K N p y).1 y, s', c', y.q⟩)
  have hq := ky_q e
  have hi := itF_ky e (Fb.dD K N p y).1
  rw [hd]
  exact (h.p p hp).add (ky_of (x := ⟨itF (dD K N p y).1 x, s, c, x.q⟩) (y := ⟨itF (dD K N p y).1 y, s', c', y.q⟩) hi hq) _
 ·show (if (dD K M p x).1 = 3 then M.L + 1 else M.L) = (if (dD K N p y).1 = 3 then N.L + 1 else N.L)
  rw [hd, h.l]
theorem Am.sv0 (h : Am K M N) (hp : p < K.n) (t : Int) : Am K (srv0 M p t) (srv0 N p t) := ⟨am_upd h.p ((h.p p hp).tkP t), h.i, h.l⟩
theorem Am.sv1 (h : Am K M N) (hp : p < K.n) (t : Int) : Am K (srv1 M p t x) (srv1 N p t y) := ⟨am_upd h.p ((h.p p hp).tkP t), h.i, h.l⟩
theorem Am.sv2 (h : Am K M N) (hp : p < K.n) (t : Int) (e : x.f = y.f) (d : Nat) : Am K (srv2 M p t x d) (srv2 N p t y d) := by
 refine ⟨am_upd h.p ((h.p p hp).tkP t), fun j => ?_, h.l⟩
 show (upd M.I d (M.I d ++ [x]) j).map (·.f) = (upd N.I d (N.I d ++ [y]) j).map (·.f)
 by_cases e2 : j = d
 ·subst e2; rw [upd_self, upd_self, List.map_append, List.map_append, h.i j]; simp [e]
 ·rw [upd_ne _ _ e2, upd_ne _ _ e2]; exact h.i j
theorem Am.take (h : Am K M N) {d : Nat} {A B : List Bx} (hM : M.I d = x :: A) (hN : N.I d = y :: B) : x.f = y.f ∧ Am K { M with I := upd M.I d A } { N with I := upd N.I d B } := by
 have hi := h.i d
 rw [hM, hN, List.map_cons, List.map_cons] at hi
 injection hi with h1 h2
 refine ⟨h1, h.p, fun j => ?_, h.l⟩
 show (upd M.I d A j).map (·.f) = (upd N.I d B j).map (·.f)
 by_cases e2 : j = d
 ·subst e2; rw [upd_self, upd_self]; exact h2
 ·rw [upd_ne _ _ e2, upd_ne _ _ e2]; exact h.i j
theorem Am.dr (h : Am K M N) (hp : p < K.n) {i : Nat} (at_ : Nat) (hi : i < 9) : Am K (drM M p i at_ x) (drM N p i at_ y) := by
 refine ⟨am_upd h.p ((h.p p hp).drP at_ hi), h.i, ?_⟩
 show M.L + 1 = N.L + 1
 rw [h.l]
theorem Am.len (h : Am K M N) (d : Nat) : (M.I d).length = (N.I d).length := by have := congrArg List.length (h.i d); simpa using this
end Go.Proofs.YtpogpibjkolioaaGreat.Rf

/- A port's name: small numbers as text, Name; the reference's numeral. Conditions: each theorem's own. -/
namespace Go.Proofs.YtpogpibjkolioaaGreat.Tp
open Go.RowKit Hp TpM
attribute [local go_sem ↓] Go.wp_at_zero Go.wp_at_succ
variable {w : World} {b : Nat} {H S : Int}
theorem eight {i : Int} (h0 : 0 ≤ i) (h1 : i < 8) : i = 0 ∨ i = 1 ∨ i = 2 ∨ i = 3 ∨ i = 4 ∨ i = 5 ∨ i = 6 ∨ i = 7 := by omega
def nmv (t : Int × Int × Int) : Value := .string ⟨(nm t).toArray⟩
end Go.Proofs.YtpogpibjkolioaaGreat.Tp

/- A net made; the laws' own words of it; what nothing tells. Conditions: each theorem's own. -/
namespace Go.Proofs.YtpogpibjkolioaaGreat.Tp
open Go.RowKit Hp TpM Go.Proofs.YtpogpibjkolioaaGreat.End
attribute [local go_sem ↓] Go.wp_at_zero Go.wp_at_succ
variable {w : World} {b : Nat} {H S : Int}
theorem new_yes (n : Net H S) (w : World) : Calls Tryz.prog 25 #[.int .i64 H, .int .i64 S] w fun e w' => ∃ b, e = .returned (.tuple #[ptr b, .int .i64 0]) ∧ NV w' b H S ∧ Kept (fun _ => False) w w' := by
 obtain ⟨h0, h1, h2, h3⟩ := n
 have d1 : decide (8 < H) = false := by rw [decide_eq_false_iff_not]; omega
 have d2 : decide (S < 1) = false := by rw [decide_eq_false_iff_not]; omega
 have d3 : decide (4 < S) = false := by rw [decide_eq_false_iff_not]; omega
 go_enter Tryz.func25, Tryz.ntmps25
 go_wp2_with fail
 exact bodyPost_ret (v := .tuple #[ptr w.heap.size, .int .i64 0]) (by simp [results, Tryz.results25, go_sem]) rfl ⟨_, rfl, Blk.new w _ _, (Kept.refl _ w).alloc _⟩
theorem net_no {H S : Int} (h : ¬ Net H S) : H < 2 ∨ (¬ H < 2 ∧ 8 < H) ∨ (¬ H < 2 ∧ ¬ 8 < H ∧ S < 1) ∨ (¬ H < 2 ∧ ¬ 8 < H ∧ ¬ S < 1 ∧ 4 < S) := by
 by_cases h0 : H < 2
 ·exact Or.inl h0
 by_cases h1 : 8 < H
 ·exact Or.inr (Or.inl ⟨h0, h1⟩)
 by_cases h2 : S < 1
 ·exact Or.inr (Or.inr (Or.inl ⟨h0, h1, h2⟩))
 by_cases h3 : 4 < S
 ·exact Or.inr (Or.inr (Or.inr ⟨h0, h1, h2, h3⟩))
 exact absurd ⟨by omega, by omega, by omega, by omega⟩ h
theorem new_no (h : ¬ Net H S) (w : World) : Calls Tryz.prog 25 #[.int .i64 H, .int .i64 S] w fun e w' => e = .returned (.tuple #[.pointer none, .int .i64 1]) ∧ w = w' := by
 have h := net_no h
 rcases h with h0 | ⟨h0, h1⟩ | ⟨h0, h1, h2⟩ | ⟨h0, h1, h2, h3⟩
 all_goals
  go_enter Tryz.func25, Tryz.ntmps25
  go_wp2_with fail
  exact bodyPost_ret (v := .tuple #[.pointer none, .int .i64 1]) (by simp [results, Tryz.results25, go_sem]) rfl ⟨rfl, rfl⟩
theorem n41 : Net 4 1 := ⟨by decide, by decide, by decide, by decide⟩
structure TS (w0 : World) (b : Nat) (H S : Int) (w : World) : Prop where
 old : Old w0 w
 net : NV w b H S
theorem TS.next {w0 w w' : World} (h : TS w0 b H S w) (k : Kept (fun _ => False) w w') : TS w0 b H S w' := ⟨h.old.trans k, k.blk h.net (fun f => f)⟩
theorem TS.drewN {w0 w : World} (h : TS w0 b H S w) (m : Nat) : TS w0 b H S (w.drewN m) := ⟨h.old.drewN m, h.net.drewN m⟩
end Go.Proofs.YtpogpibjkolioaaGreat.Tp

