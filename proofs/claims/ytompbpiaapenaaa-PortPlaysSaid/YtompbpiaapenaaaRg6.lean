/- Both ports beside each other: how they are alike, what else lies about. Conditions: each theorem's own. -/
import Derived.Test.YtompbpiaapenaaaRg5
set_option linter.unusedVariables false
namespace Go.Proofs.Ytompbpiaapenaaa.Rf
open Go.RowKit Hp QuM Rw Qu Po NumM NumC
variable {W w0 w w' : World} {b m : Nat} {room most : Int} {trim : Bool} {ls l1 l2 : Nat → List Bx} {cr c1 c2 : List Bx} {now nxt last : Int} {ever : Bool} {vs : Nat → Value} {vc : Value} {R F G : Nat → Prop}
/-- Both hold the same. -/
def Rel (l1 l2 : Nat → List Bx) (c1 c2 : List Bx) : Prop := (∀ k, k < 8 → (l1 k).map ky = (l2 k).map ky) ∧ c1.map ky = c2.map ky
theorem ky_len {A B : List Bx} (h : A.map ky = B.map ky) : A.length = B.length := by have := congrArg List.length h; simpa using this
theorem Rel.len (h : Rel l1 l2 c1 c2) {k : Nat} (hk : k < 8) : (l1 k).length = (l2 k).length := ky_len (h.1 k hk)
theorem nb_ky {x y : Bx} (e : ky x = ky y) : nb x = nb y := by
  have : x.f = y.f := congrArg Prod.fst e
  unfold nb; rw [this]
theorem sumB_ky : ∀ {A B : List Bx}, A.map ky = B.map ky → sumB A = sumB B
  | [], [], _ => rfl
  | [], b :: B, h => by cases h
  | a :: A, [], h => by cases h
  | a :: A, b :: B, h => by
    rw [List.map_cons, List.map_cons] at h
    injection h with h1 h2
    show szI (nb a) + sumB A = szI (nb b) + sumB B
    rw [nb_ky h1, sumB_ky h2]
theorem Rel.totE (h : Rel l1 l2 c1 c2) : ∀ {n : Nat}, n ≤ 8 → tot l1 n = tot l2 n
  | 0, _ => rfl
  | n + 1, hn => by
    show tot l1 n + sumB (l1 n) = tot l2 n + sumB (l2 n)
    rw [Rel.totE h (n := n) (by omega), sumB_ky (h.1 n (by omega))]
theorem Rel.cntE (h : Rel l1 l2 c1 c2) : ∀ {n : Nat}, n ≤ 8 → cnt l1 n = cnt l2 n
  | 0, _ => rfl
  | n + 1, hn => by
    show cnt l1 n + (l1 n).length = cnt l2 n + (l2 n).length
    rw [Rel.cntE h (n := n) (by omega), h.len (by omega)]
theorem Rel.topE (h : Rel l1 l2 c1 c2) : ∀ {n : Nat}, n ≤ 8 → top l1 n = top l2 n
  | 0, _ => rfl
  | n + 1, hn => by
    show (if l1 n = [] then top l1 n else some n) = (if l2 n = [] then top l2 n else some n)
    have h1 := h.len (k := n) (by omega)
    rw [Rel.topE h (n := n) (by omega)]
    by_cases e : l2 n = []
    · rw [e] at h1
      rw [if_pos e, if_pos (List.length_eq_zero_iff.1 h1)]
    · rw [if_neg e, if_neg (fun e1 => e (by rw [e1] at h1; exact List.length_eq_zero_iff.1 h1.symm))]
theorem Rel.lnlE (h : Rel l1 l2 c1 c2) {i : Nat} (hi : i < 9) : (lnl l1 c1 i).map ky = (lnl l2 c2 i).map ky := by
  unfold Po.lnl
  split
  · exact h.1 _ (by omega)
  · exact h.2
theorem Rel.acc (h : Rel l1 l2 c1 c2) : ∀ {n : Nat}, n ≤ 9 → (accL l1 c1 n).map ky = (accL l2 c2 n).map ky
  | 0, _ => rfl
  | n + 1, hn => by
    show (accL l1 c1 n ++ Po.lnl l1 c1 n).map ky = (accL l2 c2 n ++ Po.lnl l2 c2 n).map ky
    rw [List.map_append, List.map_append, Rel.acc h (n := n) (by omega), h.lnlE (by omega)]
theorem Rel.line (h : Rel l1 l2 c1 c2) {p : Nat} {A B : List Bx} (e : A.map ky = B.map ky) : Rel (upd l1 p A) (upd l2 p B) c1 c2 := by
  refine ⟨fun k hk => ?_, h.2⟩
  by_cases e2 : k = p
  · subst e2; rw [upd_self, upd_self]; exact e
  · rw [upd_ne _ _ e2, upd_ne _ _ e2]; exact h.1 k hk
theorem Rel.push (h : Rel l1 l2 c1 c2) {p : Nat} (hp : p < 8) {x y : Bx} (e : ky x = ky y) : Rel (upd l1 p (l1 p ++ [x])) (upd l2 p (l2 p ++ [y])) c1 c2 :=
  h.line (by rw [List.map_append, List.map_append, h.1 p hp, List.map_singleton, List.map_singleton, e])
theorem Rel.cred (h : Rel l1 l2 c1 c2) {x y : Bx} (e : ky x = ky y) : Rel l1 l2 (c1 ++ [x]) (c2 ++ [y]) :=
  ⟨h.1, by rw [List.map_append, List.map_append, h.2, List.map_singleton, List.map_singleton, e]⟩
theorem map_erase (A : List Bx) (k : Nat) : (A.eraseIdx k).map ky = (A.map ky).eraseIdx k := by
  rw [List.eraseIdx_eq_take_drop_succ, List.eraseIdx_eq_take_drop_succ, List.map_append, List.map_take, List.map_drop]
theorem Rel.erase (h : Rel l1 l2 c1 c2) (i at_ : Nat) (hi : i < 9) : Rel (lsE l1 i at_) (lsE l2 i at_) (crE c1 i at_) (crE c2 i at_) := by
  unfold lsE crE
  split
  · exact h.line (by rw [map_erase, map_erase, h.1 _ (by omega)])
  · exact ⟨h.1, by rw [map_erase, map_erase, h.2]⟩
theorem acc_split {k : Nat} : ∀ {n : Nat}, k < (accL ls cr n).length → ∃ i at_, i < n ∧ at_ < (lnl ls cr i).length ∧ (accL ls cr i).length + at_ = k
  | 0, h => by cases h
  | n + 1, h => by
    rw [acc_succ] at h
    by_cases e : k < (accL ls cr n).length
    · obtain ⟨i, a, h1, h2⟩ := acc_split (n := n) e
      exact ⟨i, a, by omega, h2⟩
    · exact ⟨n, k - (accL ls cr n).length, by omega, by omega, by omega⟩
theorem acc_uniq {i j a c : Nat} (h1 : a < (lnl ls cr i).length) (h2 : c < (lnl ls cr j).length) (h : (accL ls cr i).length + a = (accL ls cr j).length + c) : i = j ∧ a = c := by
  rcases Nat.lt_trichotomy i j with e | e | e
  · have := acc_le (ls := ls) (cr := cr) (n := i + 1) (m := j) e
    rw [acc_succ] at this; omega
  · subst e; exact ⟨rfl, by omega⟩
  · have := acc_le (ls := ls) (cr := cr) (n := j + 1) (m := i) e
    rw [acc_succ] at this; omega
/-- How many wait. -/
theorem acc_cnt : (accL ls cr 9).length = cnt ls 8 + cr.length := by
  have e : (accL ls cr 9).length = (lnl ls cr 0).length + (lnl ls cr 1).length + (lnl ls cr 2).length + (lnl ls cr 3).length + (lnl ls cr 4).length + (lnl ls cr 5).length + (lnl ls cr 6).length + (lnl ls cr 7).length + (lnl ls cr 8).length := by
    simp only [acc_succ]; show 0 + _ + _ + _ + _ + _ + _ + _ + _ + _ = _; omega
  rw [e]
  show (ls 7).length + (ls 6).length + (ls 5).length + (ls 4).length + (ls 3).length + (ls 2).length + (ls 1).length + (ls 0).length + cr.length = 0 + (ls 0).length + (ls 1).length + (ls 2).length + (ls 3).length + (ls 4).length + (ls 5).length + (ls 6).length + (ls 7).length + cr.length
  omega
/-- When the next credit may go. -/
def Tm (now nxt last : Int) (ever : Bool) : Prop := 0 ≤ last ∧ last ≤ now ∧ now ≤ 1125899906842624 ∧ (ever = false → nxt = 0) ∧ (ever = true → nxt = last + 4)
abbrev Ex := List (Nat × List Value × TypeId)
/-- Both ports; blocks of neither. -/
def DX (W : World) (b m : Nat) (room most : Int) (trim : Bool) (l1 : Nat → List Bx) (c1 : List Bx) (n1 nxt : Int) (l2 : Nat → List Bx) (c2 : List Bx) (n2 last : Int) (ever : Bool) (ex : Ex) (w : World) : Prop :=
  ∃ F R, PS W b room most trim l1 c1 n1 nxt F w ∧ RS W m room most trim l2 c2 n2 last ever R w ∧ (∀ i, F i → R i → False) ∧ ∀ x ∈ ex, Blk w x.1 x.2.1 x.2.2 ∧ ¬ F x.1 ∧ ¬ R x.1
variable {n1 n2 : Int} {ex : Ex}
theorem DX.keep (h : DX W b m room most trim l1 c1 n1 nxt l2 c2 n2 last ever ex w) (k : Kept (fun _ => False) w w') : DX W b m room most trim l1 c1 n1 nxt l2 c2 n2 last ever ex w' := by
  obtain ⟨F, R, h1, h2, h3, h4⟩ := h
  exact ⟨F, R, h1.old k, h2.old k, h3, fun x hx => ⟨k.blk (h4 x hx).1 (fun f => f), (h4 x hx).2⟩⟩
theorem DX.drew (h : DX W b m room most trim l1 c1 n1 nxt l2 c2 n2 last ever ex w) : DX W b m room most trim l1 c1 n1 nxt l2 c2 n2 last ever ex w.drew := h.keep (Kept.refl _ w).drew
theorem DX.blk (h : DX W b m room most trim l1 c1 n1 nxt l2 c2 n2 last ever ex w) {x : Nat × List Value × TypeId} (hx : x ∈ ex) : Blk w x.1 x.2.1 x.2.2 := by
  obtain ⟨F, R, h1, h2, h3, h4⟩ := h
  exact (h4 x hx).1
theorem DX.old (h : DX W b m room most trim l1 c1 n1 nxt l2 c2 n2 last ever ex w) : Kept (fun _ => False) W w := by
  obtain ⟨F, R, h1, h2, h3, h4⟩ := h
  exact h1.since
theorem DX.less {ex' : Ex} (h : DX W b m room most trim l1 c1 n1 nxt l2 c2 n2 last ever ex w) (hx : ∀ x ∈ ex', x ∈ ex) : DX W b m room most trim l1 c1 n1 nxt l2 c2 n2 last ever ex' w := by
  obtain ⟨F, R, h1, h2, h3, h4⟩ := h
  exact ⟨F, R, h1, h2, h3, fun x h => h4 x (hx x h)⟩
theorem DX.alloc (h : DX W b m room most trim l1 c1 n1 nxt l2 c2 n2 last ever ex w) (c : List Value) (T : TypeId) : DX W b m room most trim l1 c1 n1 nxt l2 c2 n2 last ever ((w.heap.size, c, T) :: ex) (w.alloc (.cells c.toArray T)) := by
  have hk : Kept (fun _ => False) w (w.alloc (.cells c.toArray T)) := (Kept.refl _ w).alloc _
  obtain ⟨F, R, h1, h2, h3, h4⟩ := h
  refine ⟨F, R, h1.old hk, h2.old hk, h3, fun x hx => ?_⟩
  rcases List.mem_cons.1 hx with rfl | hx
  · exact ⟨Blk.new w c T, fun e => by have := (h1.bound e).2; simp at this, fun e => by have := h2.bound e; simp at this⟩
  · exact ⟨hk.blk (h4 x hx).1 (fun f => f), (h4 x hx).2⟩
/-- A call of the port. -/
theorem DX.callP {f : FuncId} {args : Array Value} {E : Ending → World → Prop} {P : (Nat → List Bx) → List Bx → Prop} {n1' nxt' : Int} (h : DX W b m room most trim l1 c1 n1 nxt l2 c2 n2 last ever ex w)
    (H : ∀ F, PS W b room most trim l1 c1 n1 nxt F w → Calls Try.prog f args w fun e w' => E e w' ∧ ∃ l1' c1', P l1' c1' ∧ ∃ F', PS W b room most trim l1' c1' n1' nxt' F' w' ∧ Qu.Next F w F' w') :
    Calls Try.prog f args w fun e w' => E e w' ∧ ∃ l1' c1', P l1' c1' ∧ DX W b m room most trim l1' c1' n1' nxt' l2 c2 n2 last ever ex w' := by
  obtain ⟨F, R, h1, h2, h3, h4⟩ := h
  refine (H F h1).mono fun e w' ⟨e1, l1', c1', hP, F', e2, e3, e4⟩ => ⟨e1, l1', c1', hP, F', R, e2, h2.far e3 (fun i hf hr => h3 i hf hr) (fun i hf => (h1.bound hf).1), fun i hf hr => (e4 i hf).elim (fun hh => h3 i hh hr) (fun hh => by have := h2.bound hr; omega), fun x hx => ?_⟩
  obtain ⟨g1, g2, g3⟩ := h4 x hx
  exact ⟨e3.blk g1 g2, fun e => (e4 x.1 e).elim g2 (fun hh => by have := g1.lt; omega), g3⟩
/-- A call of the reference's. -/
theorem DX.callM {f : FuncId} {args : Array Value} {E : Ending → Prop} {l2' : Nat → List Bx} {c2' : List Bx} {n2' last' : Int} {ever' : Bool} (h : DX W b m room most trim l1 c1 n1 nxt l2 c2 n2 last ever ex w)
    (H : ∀ R, RS W m room most trim l2 c2 n2 last ever R w → Calls Try.prog f args w fun e w' => E e ∧ ∃ R', RS W m room most trim l2' c2' n2' last' ever' R' w' ∧ RN m R w R' w') :
    Calls Try.prog f args w fun e w' => (E e ∧ Kept (fun i => i = m) w w') ∧ DX W b m room most trim l1 c1 n1 nxt l2' c2' n2' last' ever' ex w' := by
  obtain ⟨F, R, h1, h2, h3, h4⟩ := h
  refine (H R h2).mono fun e w' ⟨e1, R', e2, e3, e4⟩ => ⟨⟨e1, e3⟩, F, R', h1.far e3 (fun i hf hr => h3 i hr (hf ▸ h2.own.1)) (fun i hf => hf ▸ h2.own.2), e2, fun i hf hr => (e4 i hr).elim (fun hh => h3 i hf hh) (fun hh => by have := (h1.bound hf).2; omega), fun x hx => ?_⟩
  obtain ⟨g1, g2, g3⟩ := h4 x hx
  exact ⟨e3.blk g1 (fun e => g3 (e ▸ h2.own.1)), g2, fun e => (e4 x.1 e).elim g3 (fun hh => by have := g1.lt; omega)⟩
end Go.Proofs.Ytompbpiaapenaaa.Rf

/- Both ports beside each other: Put, Take, Drop. Conditions: each theorem's own. -/
namespace Go.Proofs.Ytompbpiaapenaaa.Rf
open Go.RowKit Hp QuM Rw Qu Po NumM NumC
variable {W w0 w w' : World} {b m : Nat} {room most : Int} {trim : Bool} {ls l1 l2 : Nat → List Bx} {cr c1 c2 : List Bx} {now nxt last : Int} {ever : Bool} {vs : Nat → Value} {vc : Value} {R F G : Nat → Prop}
abbrev rI (r : Int) : Ending := .returned (.int .i64 r)
abbrev rX (x : Bx) (ok : Bool) : Ending := .returned (.tuple #[bv x, .bool ok])
theorem next_same (k : Kept (fun _ => False) w w') : Qu.Next F w F w' := ⟨k.mono (fun _ _ f => f.elim), fun i h => Or.inl h⟩
theorem rn_same (k : Kept (fun _ => False) w w') : RN m R w R w' := ⟨k.mono (fun _ _ f => f.elim), fun i h => Or.inl h⟩
theorem cnt_push {p : Nat} (hp : p < 8) (y : Bx) : cnt (upd ls p (ls p ++ [y])) 8 = cnt ls 8 + 1 := by
  have := cnt_upd (ls := ls) (k := p) (L := ls p ++ [y]) (n := 8) hp
  rw [List.length_append, List.length_singleton] at this
  omega
theorem put_spec (hr : Rel l1 l2 c1 c2) {x y : Bx} (e : ky x = ky y) (hy : Rok W y) (hc : cnt l2 8 + c2.length ≤ 800) :
    ∃ r l2' c2', cnt l2' 8 + c2'.length ≤ cnt l2 8 + c2.length + 1 ∧
    (∀ F w, PS W b room most trim l1 c1 now nxt F w → Rd w x → Calls Try.prog 11 #[.pointer (some ⟨b, 0, none⟩), bv x] w fun e w' => e = rI r ∧ ∃ l1' c1', Rel l1' l2' c1' c2' ∧ ∃ F', PS W b room most trim l1' c1' now nxt F' w' ∧ Qu.Next F w F' w') ∧
    (∀ R w, RS W m room most trim l2 c2 now last ever R w → Calls Try.prog 12 #[.pointer (some ⟨m, 0, none⟩), bv y] w fun e w' => e = rI r ∧ ∃ R', RS W m room most trim l2' c2' now last ever R' w' ∧ RN m R w R' w') := by
  have ef : x.f = y.f := congrArg Prod.fst e
  have eq : x.q = y.q := congrArg Prod.snd e
  have hnb := nb_ky e
  have hcl : c1.length = c2.length := ky_len hr.2
  have htot := hr.totE (n := 8) (Nat.le_refl _)
  have hs : Sane x := by
    unfold Sane Wr.dl
    rw [ef]
    have h1 := hy.1
    have h2 := hy.2.1
    split <;> omega
  by_cases hk : x.f.kind = 11
  · have hk2 : y.f.kind = 11 := by rw [← ef]; exact hk
    by_cases hm : (c2.length : Int) < most
    · refine ⟨1, l2, c2 ++ [y], by rw [List.length_append, List.length_singleton]; omega, fun F w h hrd => ?_, fun R w h => ?_⟩
      · refine (put_cy h hrd hs hk (by rw [hcl]; exact hm) (by omega)).mono ?_
        rintro e1 w' ⟨rfl, s, c, F', h1, h2⟩
        exact ⟨rfl, l1, _, hr.cred (x := ⟨x.f, s, c, x.q⟩) e, F', h1, h2⟩
      · obtain ⟨vs, vc, h, rfl⟩ := h
        refine (rput_credit h hy hk2 (by omega) (fit := true) (by simpa using hm)).mono ?_
        rintro e1 w' ⟨rfl, h2⟩
        exact ⟨rfl, h2⟩
    · refine ⟨3, l2, c2, by omega, fun F w h hrd => ?_, fun R w h => ?_⟩
      · refine (put_cn h hrd hs hk (by rw [hcl]; omega)).mono ?_
        rintro e1 w' ⟨rfl, h2⟩
        exact ⟨rfl, l1, c1, hr, F, h.old h2, next_same h2⟩
      · have hh := h
        obtain ⟨vs, vc, h, rfl⟩ := h
        refine (rput_credit h hy hk2 (by omega) (fit := false) (by simpa using hm)).mono ?_
        rintro e1 w' ⟨rfl, h2⟩
        exact ⟨rfl, _, hh.old h2, rn_same h2⟩
  · have hk2 : y.f.kind ≠ 11 := by rw [← ef]; exact hk
    obtain ⟨p, hp⟩ : ∃ p : Nat, prI x = (p : Nat) := ⟨(prI x).toNat, by have := prI_bd x; omega⟩
    have hp8 : p < 8 := by have := prI_bd x; omega
    have hpy : prI y = (p : Nat) := by rw [← hp]; unfold prI; rw [ef]
    have hlp : (l1 p).length < 100000 := by have := hr.len hp8; have := len_le_cnt (ls := l2) hp8; omega
    by_cases hf : tot l2 8 + szI (nb y) ≤ room
    · refine ⟨1, upd l2 p (l2 p ++ [y]), c2, by rw [cnt_push hp8]; omega, fun F w h hrd => ?_, fun R w h => ?_⟩
      · refine (put_fy h hrd hs hk hp (by rw [htot, hnb]; exact hf) hlp).mono ?_
        rintro e1 w' ⟨rfl, s, c, F', h1, h2⟩
        exact ⟨rfl, _, c1, hr.push hp8 (x := ⟨x.f, s, c, x.q⟩) e, F', h1, h2⟩
      · obtain ⟨vs, vc, h, rfl⟩ := h
        exact rput_fit h hy hk2 hpy (by omega) hf
    · by_cases ht : trim = false ∨ x.f.kind ≠ 1
      · refine ⟨3, l2, c2, by omega, fun F w h hrd => ?_, fun R w h => ?_⟩
        · refine (put_fn h hrd hs hk (by rw [htot, hnb]; omega) ht).mono ?_
          rintro e1 w' ⟨rfl, h2⟩
          exact ⟨rfl, l1, c1, hr, F, h.old h2, next_same h2⟩
        · have hh := h
          obtain ⟨vs, vc, h, rfl⟩ := h
          refine (rput_drop h hy hk2 hpy (by omega) hf (by rw [← ef]; exact ht)).mono ?_
          rintro e1 w' ⟨rfl, h2⟩
          exact ⟨rfl, _, hh.old h2, rn_same h2⟩
      · have ht1 : trim = true := by cases trim with
          | true => rfl
          | false => exact absurd (Or.inl rfl) ht
        have hk1 : x.f.kind = 1 := Classical.byContradiction fun h => ht (Or.inr h)
        have hk1y : y.f.kind = 1 := by rw [← ef]; exact hk1
        subst ht1
        by_cases hf2 : tot l2 8 + 26 ≤ room
        · refine ⟨2, upd l2 7 (l2 7 ++ [trX y]), c2, by rw [cnt_push (by decide)]; omega, fun F w h hrd => ?_, fun R w h => ?_⟩
          · refine (put_ty h hrd hs hk1 (by rw [htot, hnb]; omega) (by rw [htot]; exact hf2) (by have := hr.len (k := 7) (by decide); have := len_le_cnt (ls := l2) (show 7 < 8 by decide); omega)).mono ?_
            rintro e1 w' ⟨rfl, s, c, F', h1, h2⟩
            refine ⟨rfl, _, c1, hr.push (by decide) (x := ⟨(trX x).f, s, c, x.q⟩) ?_, F', h1, h2⟩
            show ((trX x).f, x.q) = ((trX y).f, (trX y).q)
            have : (trX x).f = (trX y).f ∧ x.q = (trX y).q := ⟨by unfold trX; rw [ef], by unfold trX; exact eq⟩
            rw [this.1, this.2]
          · obtain ⟨vs, vc, h, rfl⟩ := h
            refine (rput_trim h hy hk1y hpy (by omega) hf (fit := true) (by simpa using hf2)).mono ?_
            rintro e1 w' ⟨rfl, h2⟩
            exact ⟨rfl, h2⟩
        · refine ⟨3, l2, c2, by omega, fun F w h hrd => ?_, fun R w h => ?_⟩
          · refine (put_tn h hrd hs hk1 (by rw [htot, hnb]; omega) (by rw [htot]; omega)).mono ?_
            rintro e1 w' ⟨rfl, h2⟩
            exact ⟨rfl, l1, c1, hr, F, h.old h2, next_same h2⟩
          · have hh := h
            obtain ⟨vs, vc, h, rfl⟩ := h
            refine (rput_trim h hy hk1y hpy (by omega) hf (fit := false) (by simpa using hf2)).mono ?_
            rintro e1 w' ⟨rfl, h2⟩
            exact ⟨rfl, _, hh.old h2, rn_same h2⟩
/-- Its data lie apart, and are not many. -/
def Fd (W w : World) (x : Bx) : Prop := Byt.Row w W.heap.size (.slice x.s x.f.data.length x.c) x.f.data ∧ x.f.data.length ≤ 1000000
theorem Fd.rd {x : Bx} (h : Fd W w x) : Rd w x := ⟨h.1.src, h.2⟩
theorem fd_z : Fd W w zB := ⟨⟨rfl, Or.inl ⟨rfl, rfl⟩⟩, by decide⟩
theorem gd_len (h : PS W b room most trim l1 c1 now nxt F w) {x : Bx} (hx : (∃ k, k < 8 ∧ x ∈ l1 k) ∨ x ∈ c1) : x.f.data.length ≤ 1000000 := by
  obtain ⟨qf, qc, pb, Ff, Fc, hp, _⟩ := h
  rcases hx with ⟨k, hk, hx⟩ | hx
  · exact (hp.gf k x hk hx).2.1
  · exact (hp.gc x hx).2.1
theorem cnt_tail {p : Nat} (hp : p < 8) {y : Bx} {L : List Bx} (h : ls p = y :: L) : cnt (upd ls p L) 8 ≤ cnt ls 8 := by
  have := cnt_upd (ls := ls) (k := p) (L := L) (n := 8) hp
  rw [h, List.length_cons] at this
  omega
theorem rd_z : Rd W zB := (fd_z (W := W) (w := W)).rd
theorem clamp_in {t : Int} (h : now ≤ 1125899906842624) : now ≤ clampI t now 1125899906842624 ∧ clampI t now 1125899906842624 ≤ 1125899906842624 := clampI_bd t h
theorem take_spec (hr : Rel l1 l2 c1 c2) (hT : Tm now nxt last ever) (hc : cnt l2 8 + c2.length ≤ 900) (t : Int) :
    ∃ (x y : Bx) (ok : Bool) (l1' : Nat → List Bx) (c1' : List Bx) (nxt' : Int) (l2' : Nat → List Bx) (c2' : List Bx) (last' : Int) (ever' : Bool) (now' : Int), ky x = ky y ∧ Rel l1' l2' c1' c2' ∧ Tm now' nxt' last' ever' ∧ cnt l2' 8 + c2'.length ≤ cnt l2 8 + c2.length ∧
    (∀ F w, PS W b room most trim l1 c1 now nxt F w → Calls Try.prog 13 #[.pointer (some ⟨b, 0, none⟩), .int .i64 t] w fun e w' => (e = rX x ok ∧ Fd W w' x) ∧ ∃ l1'' c1'', (l1'' = l1' ∧ c1'' = c1') ∧ ∃ F', PS W b room most trim l1'' c1'' now' nxt' F' w' ∧ Qu.Next F w F' w') ∧
    (∀ R w, RS W m room most trim l2 c2 now last ever R w → Calls Try.prog 14 #[.pointer (some ⟨m, 0, none⟩), .int .i64 t] w fun e w' => (e = rX y ok ∧ Rd W y) ∧ ∃ R', RS W m room most trim l2' c2' now' last' ever' R' w' ∧ RN m R w R' w') := by
  obtain ⟨t1, t2, t3, t4, t5⟩ := hT
  have hn0 : 0 ≤ now ∧ 0 ≤ last ∧ last ≤ now := ⟨by omega, t1, t2⟩
  have hcm := clamp_in (t := t) t3
  obtain ⟨mm, hmm⟩ : ∃ mm, clampI t now 1125899906842624 = mm := ⟨_, rfl⟩
  rw [hmm] at hcm
  have hcl : c1.length = c2.length := ky_len hr.2
  have hll : ∀ k, k < 8 → (l2 k).length ≤ 1000 := fun k hk => by have := len_le_cnt (ls := l2) hk; omega
  have hT2 : ∀ nx, nx = nxt → Tm mm nx last ever := fun nx e => ⟨t1, by omega, hcm.2, fun h => e ▸ t4 h, fun h => e ▸ t5 h⟩
  -- the lines' own turn
  have LN : (c1 = [] ∨ (0 < c1.length ∧ c1.length ≤ 1000000 ∧ mm < nxt)) → (∀ R w, RS W m room most trim l2 c2 now last ever R w → Calls Try.prog 14 #[.pointer (some ⟨m, 0, none⟩), .int .i64 t] w fun e w' => TkL W m room most trim l2 c2 mm last ever R w e w') →
      ∃ (x y : Bx) (ok : Bool) (l1' : Nat → List Bx) (c1' : List Bx) (nxt' : Int) (l2' : Nat → List Bx) (c2' : List Bx) (last' : Int) (ever' : Bool) (now' : Int), ky x = ky y ∧ Rel l1' l2' c1' c2' ∧ Tm now' nxt' last' ever' ∧ cnt l2' 8 + c2'.length ≤ cnt l2 8 + c2.length ∧
      (∀ F w, PS W b room most trim l1 c1 now nxt F w → Calls Try.prog 13 #[.pointer (some ⟨b, 0, none⟩), .int .i64 t] w fun e w' => (e = rX x ok ∧ Fd W w' x) ∧ ∃ l1'' c1'', (l1'' = l1' ∧ c1'' = c1') ∧ ∃ F', PS W b room most trim l1'' c1'' now' nxt' F' w' ∧ Qu.Next F w F' w') ∧
      (∀ R w, RS W m room most trim l2 c2 now last ever R w → Calls Try.prog 14 #[.pointer (some ⟨m, 0, none⟩), .int .i64 t] w fun e w' => (e = rX y ok ∧ Rd W y) ∧ ∃ R', RS W m room most trim l2' c2' now' last' ever' R' w' ∧ RN m R w R' w') := by
    intro hm hM
    have htop := hr.topE (n := 8) (Nat.le_refl _)
    cases ht : top l2 8 with
    | none =>
      refine ⟨zB, zB, false, l1, c1, nxt, l2, c2, last, ever, mm, rfl, hr, hT2 _ rfl, Nat.le_refl _, fun F w h => ?_, fun R w h => ?_⟩
      · refine (take_empty h hmm hm (htop.trans ht)).mono ?_
        rintro e w' ⟨rfl, F', h1, h2⟩
        exact ⟨⟨rfl, fd_z⟩, l1, c1, ⟨rfl, rfl⟩, F', h1, h2⟩
      · refine (hM R w h).mono ?_
        rintro e w' (⟨_, rfl, h2⟩ | ⟨p, x, L, h3, _⟩)
        · exact ⟨⟨rfl, rd_z⟩, h2⟩
        · rw [ht] at h3; cases h3
    | some p =>
      have hp8 : p < 8 := (top_some ht).1
      have hne : l2 p ≠ [] := (top_some ht).2.1
      obtain ⟨y, L2, hy⟩ : ∃ y L, l2 p = y :: L := by
        cases hh : l2 p with
        | nil => exact absurd hh hne
        | cons y L => exact ⟨y, L, rfl⟩
      have h1p := hr.1 p hp8
      obtain ⟨x, L1, hx⟩ : ∃ y L, l1 p = y :: L := by
        cases hh : l1 p with
        | nil => rw [hh, hy] at h1p; cases h1p
        | cons y L => exact ⟨y, L, rfl⟩
      rw [hx, hy, List.map_cons, List.map_cons] at h1p
      injection h1p with g1 g2
      refine ⟨x, y, true, upd l1 p L1, c1, nxt, upd l2 p L2, c2, last, ever, mm, g1, hr.line g2, hT2 _ rfl, by have := cnt_tail hp8 hy; omega, fun F w h => ?_, fun R w h => ?_⟩
      · have hg := gd_len h (x := x) (Or.inl ⟨p, hp8, by rw [hx]; exact List.mem_cons_self⟩)
        refine (take_frame h hmm hm (htop.trans ht) hx (by have := hr.len hp8; have := hll p hp8; omega)).mono ?_
        rintro e w' ⟨rfl, h0, F', h1, h2⟩
        exact ⟨⟨rfl, h0, hg⟩, _, c1, ⟨rfl, rfl⟩, F', h1, h2⟩
      · have hok : Rd W y := by
          obtain ⟨vs, vc, hh, _⟩ := h
          exact (hh.ok p y hp8 (by rw [hy]; exact List.mem_cons_self)).2.2
        refine (hM R w h).mono ?_
        rintro e w' (⟨h3, _⟩ | ⟨p', x', L', h3, h4, rfl, h5⟩)
        · rw [ht] at h3; cases h3
        · rw [ht] at h3
          cases h3
          rw [hy] at h4
          cases h4
          exact ⟨⟨rfl, hok⟩, h5⟩
  by_cases h0 : c2.length = 0
  · refine LN (Or.inl (List.length_eq_zero_iff.1 (by omega))) fun R w h => ?_
    obtain ⟨vs, vc, h, rfl⟩ := h
    exact rtake_ln_off h hmm hn0 t3 (by omega) h0 hll
  · have h0' : 0 < c2.length := by omega
    obtain ⟨y, L2, hy⟩ : ∃ y L, c2 = y :: L := by
      cases c2 with
      | nil => exact absurd rfl h0
      | cons y L => exact ⟨y, L, rfl⟩
    have h1p := hr.2
    obtain ⟨x, L1, hx⟩ : ∃ y L, c1 = y :: L := by
      cases c1 with
      | nil => rw [hy] at h1p; cases h1p
      | cons y L => exact ⟨y, L, rfl⟩
    rw [hx, hy, List.map_cons, List.map_cons] at h1p
    injection h1p with g1 g2
    have CR : nxt ≤ mm → (∀ R w, RS W m room most trim l2 c2 now last ever R w → Calls Try.prog 14 #[.pointer (some ⟨m, 0, none⟩), .int .i64 t] w fun e w' => e = rX y true ∧ ∃ R', RS W m room most trim l2 L2 mm mm true R' w' ∧ RN m R w R' w') →
      ∃ (x y : Bx) (ok : Bool) (l1' : Nat → List Bx) (c1' : List Bx) (nxt' : Int) (l2' : Nat → List Bx) (c2' : List Bx) (last' : Int) (ever' : Bool) (now' : Int), ky x = ky y ∧ Rel l1' l2' c1' c2' ∧ Tm now' nxt' last' ever' ∧ cnt l2' 8 + c2'.length ≤ cnt l2 8 + c2.length ∧
      (∀ F w, PS W b room most trim l1 c1 now nxt F w → Calls Try.prog 13 #[.pointer (some ⟨b, 0, none⟩), .int .i64 t] w fun e w' => (e = rX x ok ∧ Fd W w' x) ∧ ∃ l1'' c1'', (l1'' = l1' ∧ c1'' = c1') ∧ ∃ F', PS W b room most trim l1'' c1'' now' nxt' F' w' ∧ Qu.Next F w F' w') ∧
      (∀ R w, RS W m room most trim l2 c2 now last ever R w → Calls Try.prog 14 #[.pointer (some ⟨m, 0, none⟩), .int .i64 t] w fun e w' => (e = rX y ok ∧ Rd W y) ∧ ∃ R', RS W m room most trim l2' c2' now' last' ever' R' w' ∧ RN m R w R' w') := by
      intro hge hM
      refine ⟨x, y, true, l1, L1, mm + 4, l2, L2, mm, true, mm, g1, ⟨hr.1, g2⟩, ⟨by omega, Int.le_refl _, hcm.2, fun h => (by cases h), fun _ => rfl⟩, by rw [hy, List.length_cons]; omega, fun F w h => ?_, fun R w h => ?_⟩
      · have hg := gd_len h (x := x) (Or.inr (by rw [hx]; exact List.mem_cons_self))
        rw [hx] at h
        refine (take_credit h hmm (by rw [← hx]; omega) hge).mono ?_
        rintro e w' ⟨rfl, h0, F', h1, h2⟩
        exact ⟨⟨rfl, h0, hg⟩, l1, L1, ⟨rfl, rfl⟩, F', h1, h2⟩
      · have hok : Rd W y := by
          obtain ⟨vs, vc, hh, _⟩ := h
          exact (hh.okc y (by rw [hy]; exact List.mem_cons_self)).2.2
        refine (hM R w h).mono ?_
        rintro e w' ⟨rfl, h2⟩
        exact ⟨⟨rfl, hok⟩, h2⟩
    cases ever with
    | false =>
      have := t4 rfl
      exact CR (by omega) fun R w h => by
        obtain ⟨vs, vc, h, rfl⟩ := h
        exact rtake_cr_new h hmm hn0 t3 (by omega) h0' hy
    | true =>
      have h5 := t5 rfl
      by_cases hge : 4 ≤ mm - last
      · exact CR (by omega) fun R w h => by
          obtain ⟨vs, vc, h, rfl⟩ := h
          exact rtake_cr_yes h hmm hn0 t3 (by omega) h0' hge hy
      · refine LN (Or.inr ⟨by omega, by omega, by omega⟩) fun R w h => ?_
        obtain ⟨vs, vc, h, rfl⟩ := h
        exact rtake_ln_no h hmm hn0 t3 (by omega) h0' hge hll
theorem mem_acc {x : Bx} {i at_ : Nat} (hi : i < 9) (h : (lnl ls cr i)[at_]? = some x) : (∃ k, k < 8 ∧ x ∈ ls k) ∨ x ∈ cr := by
  have hx := List.mem_of_getElem? h
  unfold Po.lnl at hx
  split at hx
  · exact Or.inl ⟨7 - i, by omega, hx⟩
  · exact Or.inr hx
theorem cnt_erase {i at_ : Nat} (hi : i < 9) (h : at_ < (lnl ls cr i).length) : cnt (lsE ls i at_) 8 + (crE cr i at_).length ≤ cnt ls 8 + cr.length := by
  rw [← acc_cnt, ← acc_cnt, acc_drop hi h rfl]
  exact List.length_eraseIdx_le ..
theorem drop_spec (hr : Rel l1 l2 c1 c2) (hc : cnt l2 8 + c2.length ≤ 900) (k : Int) (hk2 : k ≤ 9223372036854775807) :
    ∃ (x y : Bx) (ok : Bool) (l1' : Nat → List Bx) (c1' : List Bx) (l2' : Nat → List Bx) (c2' : List Bx), ky x = ky y ∧ Rel l1' l2' c1' c2' ∧ cnt l2' 8 + c2'.length ≤ cnt l2 8 + c2.length ∧
    (∀ F w, PS W b room most trim l1 c1 now nxt F w → Calls Try.prog 16 #[.pointer (some ⟨b, 0, none⟩), .int .i64 k] w fun e w' => (e = rX x ok ∧ Fd W w' x) ∧ ∃ l1'' c1'', (l1'' = l1' ∧ c1'' = c1') ∧ ∃ F', PS W b room most trim l1'' c1'' now nxt F' w' ∧ Qu.Next F w F' w') ∧
    (∀ R w, RS W m room most trim l2 c2 now last ever R w → Calls Try.prog 17 #[.pointer (some ⟨m, 0, none⟩), .int .i64 k] w fun e w' => (e = rX y ok ∧ Rd W y) ∧ ∃ R', RS W m room most trim l2' c2' now last ever R' w' ∧ RN m R w R' w') := by
  have hcl : c1.length = c2.length := ky_len hr.2
  have hcn := hr.cntE (n := 8) (Nat.le_refl _)
  have ha1 := acc_cnt (ls := l1) (cr := c1)
  have ha2 := acc_cnt (ls := l2) (cr := c2)
  by_cases hk : k < 0 ∨ ((accL l2 c2 9).length : Int) ≤ k
  · refine ⟨zB, zB, false, l1, c1, l2, c2, rfl, hr, Nat.le_refl _, fun F w h => ?_, fun R w h => ?_⟩
    · refine (drop_no h (k := k) (by omega) hk2 (by omega)).mono ?_
      rintro e w' ⟨rfl, h2⟩
      exact ⟨⟨rfl, fd_z⟩, l1, c1, ⟨rfl, rfl⟩, F, h.old h2, next_same h2⟩
    · obtain ⟨vs, vc, h, rfl⟩ := h
      by_cases h0 : k < 0
      · refine (rdrop_negW h h0).mono ?_
        rintro e w' ⟨rfl, h2⟩
        exact ⟨⟨rfl, rd_z⟩, h2⟩
      · obtain ⟨n, rfl⟩ := Int.eq_ofNat_of_zero_le (Int.not_lt.1 h0)
        refine (rdrop_noW h hk2 (k := n) (by omega) (by omega)).mono ?_
        rintro e w' ⟨rfl, h2⟩
        exact ⟨⟨rfl, rd_z⟩, h2⟩
  · obtain ⟨n, rfl⟩ := Int.eq_ofNat_of_zero_le (show 0 ≤ k by omega)
    obtain ⟨i, at_, hi, hat, hn⟩ := acc_split (ls := l2) (cr := c2) (k := n) (n := 9) (by omega)
    obtain ⟨y, hy⟩ : ∃ y, (lnl l2 c2 i)[at_]? = some y := ⟨_, List.getElem?_eq_getElem hat⟩
    have hln := hr.lnlE hi
    have hat1 : at_ < (lnl l1 c1 i).length := by have := ky_len hln; omega
    obtain ⟨x, hx⟩ : ∃ x, (lnl l1 c1 i)[at_]? = some x := ⟨_, List.getElem?_eq_getElem hat1⟩
    have e1 : ky x = ky y := by
      have h1 := congrArg (fun l => l[at_]?) hln
      simp only [List.getElem?_map, hx, hy, Option.map_some] at h1
      exact Option.some.inj h1
    have hn1 : (accL l1 c1 i).length + at_ = n := by have := ky_len (hr.acc (n := i) (by omega)); omega
    have hx9 : (accL l1 c1 9)[n]? = some x := by rw [← hn1, acc_at hat1 hi]; exact hx
    refine ⟨x, y, true, lsE l1 i at_, crE c1 i at_, lsE l2 i at_, crE c2 i at_, e1, hr.erase i at_ hi, cnt_erase hi hat, fun F w h => ?_, fun R w h => ?_⟩
    · have hg := gd_len h (mem_acc hi hx)
      refine (drop_yes h hx9 (by omega)).mono ?_
      rintro e w' ⟨rfl, h0, j, c, F', hj, h1, h2, h3, h4, h5⟩
      obtain ⟨rfl, rfl⟩ := acc_uniq h1 hat1 (by omega)
      exact ⟨⟨rfl, h0, hg⟩, _, _, ⟨rfl, rfl⟩, F', h4, h5⟩
    · have hok : Rd W y := by
        obtain ⟨vs, vc, hh, _⟩ := h
        rcases mem_acc hi hy with ⟨k, hk, h1⟩ | h1
        · exact (hh.ok k y hk h1).2.2
        · exact (hh.okc y h1).2.2
      obtain ⟨vs, vc, h, rfl⟩ := h
      refine (rdrop_yesW h hi hy hn (by omega)).mono ?_
      rintro e w' ⟨rfl, h2⟩
      exact ⟨⟨rfl, hok⟩, h2⟩
end Go.Proofs.Ytompbpiaapenaaa.Rf

/- Both ports beside each other: what is shown. Conditions: each theorem's own. -/
namespace Go.Proofs.Ytompbpiaapenaaa.Rf
open Go.RowKit Hp QuM Rw Qu Po NumM NumC
attribute [local go_sem ↓] Go.wp_at_zero Go.wp_at_succ
variable {W w0 w w' : World} {b m : Nat} {room most : Int} {trim : Bool} {ls l1 l2 : Nat → List Bx} {cr c1 c2 : List Bx} {now nxt last n1 n2 : Int} {ever : Bool} {vs : Nat → Value} {vc : Value} {R F G : Nat → Prop}
theorem rd_of (h : RS W m room most trim l2 c2 n2 last ever R w) {x : Bx} (hx : x ∈ accL l2 c2 9) : Rd w x := by
  obtain ⟨vs, vc, h, _⟩ := h
  rcases acc_mem (Nat.le_refl 9) hx with ⟨k, hk, h1⟩ | h1
  · exact (h.ok k x hk h1).2.2.old h.since
  · exact (h.okc x h1).2.2.old h.since
theorem rc_cell (h : RS W m room most trim l2 c2 n2 last ever R w) : ∃ a c, w.cell? ⟨m, 11, none⟩ = some (.slice a c2.length c) := by
  obtain ⟨vs, vc, h, _⟩ := h
  obtain ⟨a, c, e, _⟩ := h.rowc.slice
  exact ⟨a, c, by rw [← e]; exact h.blk.cell rfl⟩
theorem bx_dat (h1 : PS W b room most trim l1 c1 n1 nxt F w) {V : List Bx} (hV : V.map ky = (accL l1 c1 9).map ky) {y : Bx} (hy : y ∈ V) : y.f.data.length ≤ 1000000 := by
  have h2 : ky y ∈ (accL l1 c1 9).map ky := by rw [← hV]; exact List.mem_map_of_mem hy
  obtain ⟨x, hx, e⟩ := List.mem_map.1 h2
  have ef : x.f = y.f := congrArg Prod.fst e
  rw [← ef]
  rcases acc_mem (Nat.le_refl 9) hx with h | h
  · exact gd_len h1 (Or.inl h)
  · exact gd_len h1 (Or.inr h)
set_option maxRecDepth 100000 in
set_option maxHeartbeats 8000000 in
theorem shows_yes (h1 : PS W b room most trim l1 c1 n1 nxt F w) (h2 : RS W m room most trim l2 c2 n2 last ever R w) (hr : Rel l1 l2 c1 c2) (hc : cnt l2 8 + c2.length ≤ 900) :
    Calls Try.prog 20 #[.pointer (some ⟨b, 0, none⟩), .pointer (some ⟨m, 0, none⟩)] w fun e w' => e = .returned (.bool true) ∧ Kept (fun _ => False) w w' := by
  have ha1 := acc_cnt (ls := l1) (cr := c1)
  have ha2 := acc_cnt (ls := l2) (cr := c2)
  have hcl : c1.length = c2.length := ky_len hr.2
  have hcn := hr.cntE (n := 8) (Nat.le_refl _)
  have hal : (accL l1 c1 9).length = (accL l2 c2 9).length := ky_len (hr.acc (Nat.le_refl 9))
  have H1 := Lib.hid h1
  have H2 := Lib.hid h2
  have WP := Lib.hid fun (w' : World) (k : Kept (fun _ => False) w w') => waiting_any (h1.old k) (by omega)
  have WM := Lib.hid fun (w' : World) (k : Kept (fun _ => False) w w') => rwait_any (h2.old k) (by omega)
  have CP := Lib.hid fun (w' : World) (k : Kept (fun _ => False) w w') => credits_any (h1.old k) (by omega)
  have UP := Lib.hid fun (w' : World) (k : Kept (fun _ => False) w w') => pused_any (h1.old k)
  have UM := Lib.hid fun (w' : World) (k : Kept (fun _ => False) w w') => rused_any (h2.old k) (by omega)
  obtain ⟨ca, cc, CC⟩ : ∃ ca cc, Hid (∀ w', Kept (fun _ => False) w w' → w'.cell? ⟨m, 11, none⟩ = some (.slice ca c2.length cc)) := by
    obtain ⟨vs, vc, h, _⟩ := h2
    obtain ⟨a, c, e, _⟩ := h.rowc.slice
    exact ⟨a, c, Lib.hid fun w' k => by rw [← e]; exact (h.old k).blk.cell rfl⟩
  rw [hr.totE (Nat.le_refl 8)] at UP
  rw [hcl] at CP
  have HR := Lib.hid (hr.acc (Nat.le_refl 9))
  have hn9 : (accL l2 c2 9).length ≤ 900 := by omega
  clear h1 h2 ha1 ha2 hcl hcn hc hr
  obtain ⟨n, hn⟩ : ∃ n, (accL l2 c2 9).length = n := ⟨_, rfl⟩
  have HNN := Lib.hid (And.intro hal hn)
  rw [hn] at hn9
  obtain ⟨cn, hcn⟩ : ∃ cn, c2.length = cn := ⟨_, rfl⟩
  rw [hcn] at CP CC
  obtain ⟨T, hT⟩ : ∃ T, tot l2 8 = T := ⟨_, rfl⟩
  rw [hT] at UP UM
  clear hn hal hcn hT
  go_enter Try.func20, Try.ntmps20
  go_wp2_with fail
  with_reducible refine Calls.mono (WP.out _ (Kept.refl _ _)) ?_
  rintro e wa ⟨v1, V, rfl, hr1, hv1, hd1, hk1⟩
  have HKa := Lib.hid hk1
  have hVl : V.length = n := (ky_len hv1).trans (HNN.out.1.trans HNN.out.2)
  have hV2 : V.map ky = (accL l2 c2 9).map ky := hv1.trans HR.out
  have HD1 : Hid (∀ y ∈ V, Rd wa y) := Lib.hid fun y hy => ⟨(hd1 y hy).src, bx_dat H1.out hv1 hy⟩
  obtain ⟨a1, k1, rfl, hk11, hk12⟩ := hr1.slice
  rw [hVl] at hr1 hk11
  have HR1 := Lib.hid hr1
  rw [hVl]
  clear hr1 hv1 hd1 hk1
  go_wp2_with fail
  with_reducible refine Calls.mono (WM.out _ HKa.out) ?_
  rintro e wb ⟨v2, rfl, hr2, hk2⟩
  have HKb := Lib.hid (HKa.out.trans hk2)
  have HR1b := Lib.hid (HR1.out.old hk2)
  have HD1b : Hid (∀ y ∈ V, Rd wb y) := Lib.hid fun y hy => (HD1.out y hy).old hk2
  obtain ⟨a2, k2, rfl, hk21, hk22⟩ := hr2.slice
  rw [HNN.out.2] at hr2 hk21 ⊢
  have HR2 := Lib.hid hr2
  clear hr2 hk2 HR1 HD1
  go_upto_region 2 with fail
  have HC0 : Hid (∀ w', Kept (fun _ => False) wb w' → w'.cell? ⟨m, 11, none⟩ = some (.slice ca cn cc)) := Lib.hid fun w' k => CC.out _ (HKb.out.trans k)
  go_region_held3 (fun w' => w'.cell? ⟨m, 11, none⟩ = some (.slice ca cn cc))
    (first | exact HC0.out _ (Kept.refl _ _) | exact HC0.out _ (Kept.refl _ _).drew | exact HC0.out _ (by assumption) | exact HC0.out _ (Kept.drew (by assumption)))
    (first
      | (go_at_call 38; (with_reducible refine Calls.mono (CP.out _ (HKb.out.trans (by first | exact Kept.refl _ _ | exact (Kept.refl _ _).drew | assumption | exact Kept.drew (by assumption)))) ?_); rintro e wc ⟨rfl, rfl⟩)
      | (go_at_call 57; (with_reducible refine Calls.mono (UP.out _ (HKb.out.trans (by first | exact Kept.refl _ _ | exact (Kept.refl _ _).drew | assumption | exact Kept.drew (by assumption)))) ?_); rintro e wc ⟨rfl, rfl⟩)
      | (go_at_call 58; (with_reducible refine Calls.mono (UM.out _ (HKb.out.trans (by first | exact Kept.refl _ _ | exact (Kept.refl _ _).drew | assumption | exact Kept.drew (by assumption)))) ?_); rintro e wc ⟨rfl, hkc⟩; have hkd : Kept (fun _ => False) wb wc := (by first | exact hkc | exact ((Kept.refl _ _).drew).trans hkc)))
  have HKc : Hid (Kept (fun _ => False) wb wc) := Lib.hid hkd
  clear hkd hkc
  go_wp2_with fail
  go_loopg [7] n (fun mm s7 wr => ∃ (j : Nat), Hid (n - j ≤ mm) ∧ j ≤ n ∧ s7 = .int .i64 (j : Nat) ∧ Hid (Kept (fun _ => False) wb wr))
  case atStart => exact ⟨0, Lib.hid (by omega), Nat.zero_le _, rfl, HKc⟩
  case round =>
    obtain ⟨j, hmm, hj, rfl, hkw⟩ := hrel
    rcases Nat.lt_or_ge j n with hlt | hge
    · have hlt' : (j : Int) < (n : Int) := by omega
      obtain ⟨x, hx⟩ : ∃ x, V[j]? = some x := ⟨_, List.getElem?_eq_getElem (by rw [hVl]; exact hlt)⟩
      obtain ⟨y, hy⟩ : ∃ y, (accL l2 c2 9)[j]? = some y := ⟨_, List.getElem?_eq_getElem (by rw [HNN.out.2]; exact hlt)⟩
      have hxy : ky x = ky y := by
        have h1 := congrArg (fun l => l[j]?) hV2
        simp only [List.getElem?_map, hx, hy, Option.map_some] at h1
        exact Option.some.inj h1
      have hRx := (HD1b.out x (List.mem_of_getElem? hx)).old hkw.out
      have hRy := rd_of (H2.out.old (HKb.out.trans hkw.out)) (List.mem_of_getElem? hy)
      obtain ⟨g, cur1, rfl, hL1⟩ : ∃ g cur, a1 = some ⟨g, 0, none⟩ ∧ Lies bT wr g k1 cur V := by
        rcases (HR1b.out.old hkw.out).form with ⟨_, h0⟩ | ⟨g, cap, cur, e, h1, h2⟩
        · rw [h0] at hx; cases hx
        · cases e; exact ⟨g, cur, rfl, h2⟩
      obtain ⟨h, o, cur2, rfl, hL2⟩ : ∃ g o cur, a2 = some ⟨g, o, none⟩ ∧ Ro.Lies rT wr g o k2 cur (accL l2 c2 9) := by
        rcases Ro.of_rw (HR2.out.old hkw.out) with ⟨_, h0⟩ | ⟨g, o, cap, cur, e, h2⟩
        · rw [h0] at hy; cases hy
        · cases e; exact ⟨g, o, cur, rfl, h2⟩
      have HL1 := Lib.hid hL1
      have HL2 := Lib.hid hL2
      have HX := Lib.hid (And.intro hx hy)
      obtain ⟨f, xa, xc, xq⟩ := x
      obtain ⟨f', ya, yc, yq⟩ := y
      obtain ⟨rfl, rfl⟩ : f = f' ∧ xq = yq := by injection hxy with a b; exact ⟨a, b⟩
      obtain ⟨x1, x2, x3, x4, x5, x6, x7, x8, x9, xd⟩ := f
      have SM := Lib.hid fun (w' : World) (k : Kept (fun _ => False) wr w') => same_yes (x := ⟨⟨x1, x2, x3, x4, x5, x6, x7, x8, x9, xd⟩, xa, xc, xq⟩) (y := ⟨⟨x1, x2, x3, x4, x5, x6, x7, x8, x9, xd⟩, ya, yc, xq⟩) rfl (hRx.old k) (hRy.old k)
      have KS : Hid (∀ w', Kept (fun _ => False) wr w' → w'.cell? ⟨g, j * 11, none⟩ = some (.int .i64 x1) ∧ w'.cell? ⟨g, j * 11 + 1, none⟩ = some (.int .i64 x2) ∧ w'.cell? ⟨g, j * 11 + 2, none⟩ = some (.int .i64 x3) ∧ w'.cell? ⟨g, j * 11 + 3, none⟩ = some (.int .i64 x4) ∧ w'.cell? ⟨g, j * 11 + 4, none⟩ = some (.int .u64 (x5 : Int)) ∧ w'.cell? ⟨g, j * 11 + 5, none⟩ = some (.int .i64 x6) ∧ w'.cell? ⟨g, j * 11 + 6, none⟩ = some (.int .i64 x7) ∧ w'.cell? ⟨g, j * 11 + 7, none⟩ = some (.int .i64 x8) ∧ w'.cell? ⟨g, j * 11 + 8, none⟩ = some (.int .i64 x9) ∧ w'.cell? ⟨g, j * 11 + 9, none⟩ = some (.slice xa xd.length xc) ∧ w'.cell? ⟨g, j * 11 + 10, none⟩ = some (.int .i64 xq) ∧ w'.cell? ⟨h, o + j * 11, none⟩ = some (.int .i64 x1) ∧ w'.cell? ⟨h, o + j * 11 + 1, none⟩ = some (.int .i64 x2) ∧ w'.cell? ⟨h, o + j * 11 + 2, none⟩ = some (.int .i64 x3) ∧ w'.cell? ⟨h, o + j * 11 + 3, none⟩ = some (.int .i64 x4) ∧ w'.cell? ⟨h, o + j * 11 + 4, none⟩ = some (.int .u64 (x5 : Int)) ∧ w'.cell? ⟨h, o + j * 11 + 5, none⟩ = some (.int .i64 x6) ∧ w'.cell? ⟨h, o + j * 11 + 6, none⟩ = some (.int .i64 x7) ∧ w'.cell? ⟨h, o + j * 11 + 7, none⟩ = some (.int .i64 x8) ∧ w'.cell? ⟨h, o + j * 11 + 8, none⟩ = some (.int .i64 x9) ∧ w'.cell? ⟨h, o + j * 11 + 9, none⟩ = some (.slice ya xd.length yc) ∧ w'.cell? ⟨h, o + j * 11 + 10, none⟩ = some (.int .i64 xq)) := by
        refine Lib.hid fun w' k => ?_
        obtain ⟨d0, d1, d2, d3, d4, d5, d6, d7, d8, d9, d10⟩ := bx_cells (HL1.out.kept k (fun f => f)) HX.out.1
        obtain ⟨e0, e1, e2, e3, e4, e5, e6, e7, e8, e9, e10⟩ := ro_cells (HL2.out.kept k (fun f => f)) HX.out.2
        exact ⟨d0, d1, d2, d3, d4, d5, d6, d7, d8, d9, d10, e0, e1, e2, e3, e4, e5, e6, e7, e8, e9, e10⟩
      clear hx hy hxy hRx hRy hL1 hL2
      have HKW := hkw
      clear hkw
      go_wp2_with fail
      go_region_held3 (fun w' => w'.cell? ⟨g, j * 11, none⟩ = some (.int .i64 x1) ∧ w'.cell? ⟨g, j * 11 + 1, none⟩ = some (.int .i64 x2) ∧ w'.cell? ⟨g, j * 11 + 2, none⟩ = some (.int .i64 x3) ∧ w'.cell? ⟨g, j * 11 + 3, none⟩ = some (.int .i64 x4) ∧ w'.cell? ⟨g, j * 11 + 4, none⟩ = some (.int .u64 (x5 : Int)) ∧ w'.cell? ⟨g, j * 11 + 5, none⟩ = some (.int .i64 x6) ∧ w'.cell? ⟨g, j * 11 + 6, none⟩ = some (.int .i64 x7) ∧ w'.cell? ⟨g, j * 11 + 7, none⟩ = some (.int .i64 x8) ∧ w'.cell? ⟨g, j * 11 + 8, none⟩ = some (.int .i64 x9) ∧ w'.cell? ⟨g, j * 11 + 9, none⟩ = some (.slice xa xd.length xc) ∧ w'.cell? ⟨g, j * 11 + 10, none⟩ = some (.int .i64 xq) ∧ w'.cell? ⟨h, o + j * 11, none⟩ = some (.int .i64 x1) ∧ w'.cell? ⟨h, o + j * 11 + 1, none⟩ = some (.int .i64 x2) ∧ w'.cell? ⟨h, o + j * 11 + 2, none⟩ = some (.int .i64 x3) ∧ w'.cell? ⟨h, o + j * 11 + 3, none⟩ = some (.int .i64 x4) ∧ w'.cell? ⟨h, o + j * 11 + 4, none⟩ = some (.int .u64 (x5 : Int)) ∧ w'.cell? ⟨h, o + j * 11 + 5, none⟩ = some (.int .i64 x6) ∧ w'.cell? ⟨h, o + j * 11 + 6, none⟩ = some (.int .i64 x7) ∧ w'.cell? ⟨h, o + j * 11 + 7, none⟩ = some (.int .i64 x8) ∧ w'.cell? ⟨h, o + j * 11 + 8, none⟩ = some (.int .i64 x9) ∧ w'.cell? ⟨h, o + j * 11 + 9, none⟩ = some (.slice ya xd.length yc) ∧ w'.cell? ⟨h, o + j * 11 + 10, none⟩ = some (.int .i64 xq))
        (first | exact KS.out _ (Kept.refl _ _) | exact KS.out _ (Kept.refl _ _).drew | exact KS.out _ (by assumption) | exact KS.out _ (Kept.drew (by assumption)))
        (first | (go_at_call 15; (with_reducible refine Calls.mono (SM.out _ (by first | exact Kept.refl _ _ | exact (Kept.refl _ _).drew | assumption | exact Kept.drew (by assumption))) ?_); rintro e we ⟨rfl, hke⟩; have hkf : Kept (fun _ => False) wr we := (by first | exact hke | exact ((Kept.refl _ _).drew).trans hke)))
      have HKF : Hid (Kept (fun _ => False) wb we) := Lib.hid (HKW.out.trans hkf)
      clear hke hkf
      go_wp2_with fail
      go_roundg (n - (j + 1))
      case measure => have := hmm.out; omega
      case rel => exact ⟨j + 1, Lib.hid (Nat.le_refl _), by omega, by go_num, HKF⟩
    · have hge' : ¬ ((j : Int) < (n : Int)) := by omega
      have HKW : Hid (Kept (fun _ => False) w wr) := Lib.hid (HKb.out.trans hkw.out)
      clear hkw
      go_wp2_with fail
      go_ret
      first | exact ⟨rfl, HKW.out⟩ | exact HKW.out
end Go.Proofs.Ytompbpiaapenaaa.Rf

