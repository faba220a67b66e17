/- A port's Put, told so that what it writes is apart from the data. Conditions: each theorem's own. -/
import Derived.Test.YtompbpiaapenaaaFbK13
import Derived.Test.YtompbpiaapenaaaFbK9
set_option linter.unusedVariables false
set_option linter.unusedSimpArgs false
namespace Go.Proofs.Ytompbpiaapenaaa.Fo
open Go.RowKit Hp QuM QuN Rw Qu NumM NumC Po
attribute [local go_sem ↓] Go.wp_at_zero Go.wp_at_succ
variable {w0 w w' : World} {b qf qc pb : Nat} {room most : Int} {trim : Bool} {ls : Nat → List Bx} {cr : List Bx} {now nxt : Int} {Ff Fc F : Nat → Prop}
/-- Its data lie where nothing lay. -/
def Fresh (w : World) (x : Bx) : Prop := ∀ g, xb x = some g → w.heap.size ≤ g
/-- A credit finds room. -/
theorem ppush_cy (h : PO w0 b room most trim ls cr now nxt F w) {x : Bx} (hr : Rd w x) (hs : Sane x) (hk : x.f.kind = 11) (hc : (cr.length : Int) < most) (hl : cr.length < 100000) :
    Calls Try.prog 42 #[.pointer (some ⟨b, 0, none⟩), bv x] w fun e w' => e = .returned (.bool true) ∧ ∃ s c F', PO w0 b room most trim ls (cr ++ [⟨x.f, s, c, x.q⟩]) now nxt F' w' ∧ Qu.Next F w F' w' ∧ Fresh w ⟨x.f, s, c, x.q⟩ := by
  obtain ⟨qf, qc, pb, Ff, Fc, hp, rfl⟩ := h
  have h0 := hp.fr.1.size
  refine (push_of (q := qc) (p := 0) (Post := fun r w'' => r = 0 ∧ ∃ s c F', PO w0 b room most trim ls (cr ++ [⟨x.f, s, c, x.q⟩]) now nxt F' w'' ∧ Qu.Next (own b pb Ff Fc) w F' w'' ∧ Fresh w ⟨x.f, s, c, x.q⟩)
    (fun w' k => lineOf_credit (k.blk hp.blk (fun f => f)) hk) hr ?_ ?_).mono ?_
  · intro w1 s c k hrow
    have hp1 := hp.old k
    refine (push_ok hp1.cq (p := 0) (K := 0) rfl (by decide) (x := ⟨x.f, s, c, x.q⟩) hs ?_ ?_).mono ?_
    · have e : szI (nb (⟨x.f, s, c, x.q⟩ : Bx)) = 26 := nb_credit hk
      rw [tot_crl, sumB_credit hp.kinds, e]
      omega
    · rw [show crl cr 0 = cr from upd_self _ _ _]; exact hl
    · rintro e w2 ⟨rfl, Fc', hS, hN⟩
      rw [crl_push] at hS
      have hy : Gd w0 w2 (own b pb Ff Fc') ⟨x.f, s, c, x.q⟩ := gd_copy hs hr.2 h0 hrow hN.1 (fun i hi => (hp.cq.own i hi).2) (fun i hi => by
        rcases hi with e | e | e | e
        · subst e; exact Or.inl hp.blk.lt
        · subst e; exact Or.inl (Blk.lt hp.pace)
        · exact Or.inl (hp.fr.own i e).2
        · exact (hN.2 i e).imp (fun e => (hp.cq.own i e).2) id)
      have h2 := hp1.turnC hS hN (fun y hy => by
        rcases List.mem_append.1 hy with hy | hy
        · exact hp.kinds y hy
        · rw [List.mem_singleton] at hy; subst hy; exact hk) (fun y hy' => by
        rcases List.mem_append.1 hy' with hy' | hy'
        · exact Or.inl hy'
        · rw [List.mem_singleton] at hy'; subst hy'; exact Or.inr hy)
      refine ⟨0, rfl, ⟨rfl, s, c, _, ⟨qf, qc, pb, Ff, Fc', h2, rfl⟩, ⟨(k.mono (fun _ _ f => f.elim)).trans (hN.1.mono (fun i _ e => Or.inr (Or.inr (Or.inr e)))), fun i hi => ?_⟩, fun g hg => (hrow.lt g hg).1⟩, Fc, hN.1, fun i hi => (hp.cq.own i hi).2⟩
      refine own_step (fun i hi => Or.inl hi) (fun i hi => (hN.2 i hi).imp id (fun e => Nat.le_trans k.size e)) hi
  · rintro r w' ⟨rfl, s, c, F', h1, h2, h3⟩
    exact ⟨rfl, s, c, F', h1.old (Kept.refl _ w').drew, ⟨h2.1.drew, h2.2⟩, h3⟩
  · rintro e w' ⟨r, rfl, rfl, h⟩
    exact ⟨rfl, h⟩
/-- A credit finds none. -/
theorem ppush_cn (h : PO w0 b room most trim ls cr now nxt F w) {x : Bx} (hr : Rd w x) (hs : Sane x) (hk : x.f.kind = 11) (hc : most ≤ (cr.length : Int)) :
    Calls Try.prog 42 #[.pointer (some ⟨b, 0, none⟩), bv x] w fun e w' => e = .returned (.bool false) ∧ Kept (fun _ => False) w w' := by
  obtain ⟨qf, qc, pb, Ff, Fc, hp, rfl⟩ := h
  refine (push_of (q := qc) (p := 0) (Post := fun r w'' => r = 4 ∧ Kept (fun _ => False) w w'') (fun w' k => lineOf_credit (k.blk hp.blk (fun f => f)) hk) hr ?_ ?_).mono ?_
  · intro w1 s c k hrow
    refine (push_full (hp.old k).cq (p := 0) (by decide) (x := ⟨x.f, s, c, x.q⟩) hs ?_).mono ?_
    · have e : szI (nb (⟨x.f, s, c, x.q⟩ : Bx)) = 26 := nb_credit hk
      rw [tot_crl, sumB_credit hp.kinds, e]
      omega
    · rintro e w2 ⟨rfl, k2⟩
      exact ⟨4, rfl, ⟨rfl, k.trans k2⟩, fun _ => False, k2, fun _ f => f.elim⟩
  · rintro r w' ⟨rfl, h⟩; exact ⟨rfl, h.drew⟩
  · rintro e w' ⟨r, rfl, rfl, h⟩; exact ⟨rfl, h⟩
/-- Another one finds room. -/
theorem ppush_fy (h : PO w0 b room most trim ls cr now nxt F w) {x : Bx} (hr : Rd w x) (hs : Sane x) (hk : x.f.kind ≠ 11) {p : Nat} (hp0 : prI x = (p : Nat)) (hc : tot ls 8 + szI (nb x) ≤ room) (hl : (ls p).length < 100000) :
    Calls Try.prog 42 #[.pointer (some ⟨b, 0, none⟩), bv x] w fun e w' => e = .returned (.bool true) ∧ ∃ s c F', PO w0 b room most trim (upd ls p (ls p ++ [⟨x.f, s, c, x.q⟩])) cr now nxt F' w' ∧ Qu.Next F w F' w' ∧ Fresh w ⟨x.f, s, c, x.q⟩ := by
  obtain ⟨qf, qc, pb, Ff, Fc, hp, rfl⟩ := h
  have h0 := hp.fr.1.size
  have hpb := prI_bd x
  have hp8 : p < 8 := by omega
  refine (push_of (q := qf) (p := prI x) (Post := fun r w'' => r = 0 ∧ ∃ s c F', PO w0 b room most trim (upd ls p (ls p ++ [⟨x.f, s, c, x.q⟩])) cr now nxt F' w'' ∧ Qu.Next (own b pb Ff Fc) w F' w'' ∧ Fresh w ⟨x.f, s, c, x.q⟩)
    (fun w' k => lineOf_else (k.blk hp.blk (fun f => f)) hk) hr ?_ ?_).mono ?_
  · intro w1 s c k hrow
    have hp1 := hp.old k
    refine (push_ok hp1.fr (p := p) (K := prI x) hp0 hp8 (x := ⟨x.f, s, c, x.q⟩) hs hc hl).mono ?_
    rintro e w2 ⟨rfl, Ff', hS, hN⟩
    have hy : Gd w0 w2 (own b pb Ff' Fc) ⟨x.f, s, c, x.q⟩ := gd_copy hs hr.2 h0 hrow hN.1 (fun i hi => (hp.fr.own i hi).2) (fun i hi => by
      rcases hi with e | e | e | e
      · subst e; exact Or.inl hp.blk.lt
      · subst e; exact Or.inl (Blk.lt hp.pace)
      · exact (hN.2 i e).imp (fun e => (hp.fr.own i e).2) id
      · exact Or.inl (hp.cq.own i e).2)
    have hm : ∀ k y, k < 8 → y ∈ upd ls p (ls p ++ [⟨x.f, s, c, x.q⟩]) k → (∃ j, j < 8 ∧ y ∈ ls j) ∨ y = ⟨x.f, s, c, x.q⟩ := fun k y hk hy' =>
      mem_upd (P := fun y => y = ⟨x.f, s, c, x.q⟩) hp8 (fun z hz => (List.mem_append.1 hz).imp id (fun h => List.mem_singleton.1 h)) hk hy'
    have h2 := hp1.turnF hS hN (fun k y hk hy' => (hm k y hk hy').imp id (fun e => by subst e; exact hy))
    refine ⟨0, rfl, ⟨rfl, s, c, _, ⟨qf, qc, pb, Ff', Fc, h2, rfl⟩, ⟨(k.mono (fun _ _ f => f.elim)).trans (hN.1.mono (fun i _ e => Or.inr (Or.inr (Or.inl e)))), fun i hi => ?_⟩, fun g hg => (hrow.lt g hg).1⟩, Ff, hN.1, fun i hi => (hp.fr.own i hi).2⟩
    refine own_step (fun i hi => (hN.2 i hi).imp id (fun e => Nat.le_trans k.size e)) (fun i hi => Or.inl hi) hi
  · rintro r w' ⟨rfl, s, c, F', h1, h2, h3⟩
    exact ⟨rfl, s, c, F', h1.old (Kept.refl _ w').drew, ⟨h2.1.drew, h2.2⟩, h3⟩
  · rintro e w' ⟨r, rfl, rfl, h⟩
    exact ⟨rfl, h⟩
/-- Another one finds none. -/
theorem ppush_fn (h : PO w0 b room most trim ls cr now nxt F w) {x : Bx} (hr : Rd w x) (hs : Sane x) (hk : x.f.kind ≠ 11) (hc : room < tot ls 8 + szI (nb x)) :
    Calls Try.prog 42 #[.pointer (some ⟨b, 0, none⟩), bv x] w fun e w' => e = .returned (.bool false) ∧ Kept (fun _ => False) w w' := by
  obtain ⟨qf, qc, pb, Ff, Fc, hp, rfl⟩ := h
  have hpb := prI_bd x
  refine (push_of (q := qf) (p := prI x) (Post := fun r w'' => r = 4 ∧ Kept (fun _ => False) w w'') (fun w' k => lineOf_else (k.blk hp.blk (fun f => f)) hk) hr ?_ ?_).mono ?_
  · intro w1 s c k hrow
    refine (push_full (hp.old k).fr (p := prI x) (by omega) (x := ⟨x.f, s, c, x.q⟩) hs hc).mono ?_
    rintro e w2 ⟨rfl, k2⟩
    exact ⟨4, rfl, ⟨rfl, k.trans k2⟩, fun _ => False, k2, fun _ f => f.elim⟩
  · rintro r w' ⟨rfl, h⟩; exact ⟨rfl, h.drew⟩
  · rintro e w' ⟨r, rfl, rfl, h⟩; exact ⟨rfl, h⟩
theorem put_cy (h : PO w0 b room most trim ls cr now nxt F w) {x : Bx} (hr : Rd w x) (hs : Sane x) (hk : x.f.kind = 11) (hc : (cr.length : Int) < most) (hl : cr.length < 100000) :
    Calls Try.prog 11 #[.pointer (some ⟨b, 0, none⟩), bv x] w fun e w' => e = .returned (.int .i64 1) ∧ ∃ s c F', PO w0 b room most trim ls (cr ++ [⟨x.f, s, c, x.q⟩]) now nxt F' w' ∧ Qu.Next F w F' w' ∧ Fresh w ⟨x.f, s, c, x.q⟩ :=
  put_q fun w1 k => (ppush_cy (h.old k) (hr.old k) hs hk hc hl).mono fun e w2 ⟨e1, s, c, F', h1, h2, h3⟩ => ⟨e1, s, c, F', h1, next_in k h2, fun g hg => Nat.le_trans k.size (h3 g hg)⟩
theorem put_cn (h : PO w0 b room most trim ls cr now nxt F w) {x : Bx} (hr : Rd w x) (hs : Sane x) (hk : x.f.kind = 11) (hc : most ≤ (cr.length : Int)) :
    Calls Try.prog 11 #[.pointer (some ⟨b, 0, none⟩), bv x] w fun e w' => e = .returned (.int .i64 3) ∧ Kept (fun _ => False) w w' :=
  put_d h.cell0.1 (fun w1 k => ppush_cn (h.old k) (hr.old k) hs hk hc) h.cell0.2 (Or.inr (by rw [hk]; decide))
theorem put_fy (h : PO w0 b room most trim ls cr now nxt F w) {x : Bx} (hr : Rd w x) (hs : Sane x) (hk : x.f.kind ≠ 11) {p : Nat} (hp0 : prI x = (p : Nat)) (hc : tot ls 8 + szI (nb x) ≤ room) (hl : (ls p).length < 100000) :
    Calls Try.prog 11 #[.pointer (some ⟨b, 0, none⟩), bv x] w fun e w' => e = .returned (.int .i64 1) ∧ ∃ s c F', PO w0 b room most trim (upd ls p (ls p ++ [⟨x.f, s, c, x.q⟩])) cr now nxt F' w' ∧ Qu.Next F w F' w' ∧ Fresh w ⟨x.f, s, c, x.q⟩ :=
  put_q fun w1 k => (ppush_fy (h.old k) (hr.old k) hs hk hp0 hc hl).mono fun e w2 ⟨e1, s, c, F', h1, h2, h3⟩ => ⟨e1, s, c, F', h1, next_in k h2, fun g hg => Nat.le_trans k.size (h3 g hg)⟩
theorem put_fn (h : PO w0 b room most trim ls cr now nxt F w) {x : Bx} (hr : Rd w x) (hs : Sane x) (hk : x.f.kind ≠ 11) (hc : room < tot ls 8 + szI (nb x)) (ht : trim = false ∨ x.f.kind ≠ 1) :
    Calls Try.prog 11 #[.pointer (some ⟨b, 0, none⟩), bv x] w fun e w' => e = .returned (.int .i64 3) ∧ Kept (fun _ => False) w w' :=
  put_d h.cell0.1 (fun w1 k => ppush_fn (h.old k) (hr.old k) hs hk hc) h.cell0.2 ht
theorem put_ty (h : PO w0 b room most true ls cr now nxt F w) {x : Bx} (hr : Rd w x) (hs : Sane x) (hk : x.f.kind = 1) (hc : room < tot ls 8 + szI (nb x)) (hc2 : tot ls 8 + 26 ≤ room) (hl : (ls 7).length < 100000) :
    Calls Try.prog 11 #[.pointer (some ⟨b, 0, none⟩), bv x] w fun e w' => e = .returned (.int .i64 2) ∧ ∃ s c F', PO w0 b room most true (upd ls 7 (ls 7 ++ [⟨(trX x).f, s, c, x.q⟩])) cr now nxt F' w' ∧ Qu.Next F w F' w' ∧ Fresh w ⟨(trX x).f, s, c, x.q⟩ :=
  put_t (r := true) h.cell0.1 (fun w1 k => ppush_fn (h.old k) (hr.old k) hs (by rw [hk]; decide) hc)
    (fun w1 k => (ppush_fy (h.old k) (rd_tr w1 x) (sane_tr x) (show (7 : Int) ≠ 11 by decide) (p := 7) (prI_tr x) (by rw [nb_tr]; exact hc2) hl).mono fun e w2 ⟨e1, s, c, F', h1, h2, h3⟩ => ⟨e1, s, c, F', h1, next_in k h2, fun g hg => Nat.le_trans k.size (h3 g hg)⟩) h.cell0.2 hk
theorem put_tn (h : PO w0 b room most true ls cr now nxt F w) {x : Bx} (hr : Rd w x) (hs : Sane x) (hk : x.f.kind = 1) (hc : room < tot ls 8 + szI (nb x)) (hc2 : room < tot ls 8 + 26) :
    Calls Try.prog 11 #[.pointer (some ⟨b, 0, none⟩), bv x] w fun e w' => e = .returned (.int .i64 3) ∧ Kept (fun _ => False) w w' :=
  put_t (r := false) h.cell0.1 (fun w1 k => ppush_fn (h.old k) (hr.old k) hs (by rw [hk]; decide) hc)
    (fun w1 k => (ppush_fn (h.old k) (rd_tr w1 x) (sane_tr x) (show (7 : Int) ≠ 11 by decide) (by rw [nb_tr]; exact hc2)).mono fun e w2 ⟨e1, h2⟩ => ⟨e1, k.trans h2⟩) h.cell0.2 hk
end Go.Proofs.Ytompbpiaapenaaa.Fo

/- A port's Take, told so that what it writes is apart from the data. Conditions: each theorem's own. -/
namespace Go.Proofs.Ytompbpiaapenaaa.Fo
open Go.RowKit Hp QuM QuN Rw Qu NumM NumC Po
attribute [local go_sem ↓] Go.wp_at_zero Go.wp_at_succ
variable {w0 w w' : World} {b qf qc pb : Nat} {room most : Int} {trim : Bool} {ls : Nat → List Bx} {cr : List Bx} {now nxt : Int} {Ff Fc F : Nat → Prop}
theorem take_end {w3 w4 : World} {ls' : Nat → List Bx} {cr' : List Bx} {m nxt' : Int} {Ff' Fc' G : Nat → Prop} (hp : Prt w0 b qf qc pb room most trim ls cr now nxt Ff Fc w) (k3 : Kept (fun i => i = b ∨ i = pb) w w3) (h3 : w.heap.size < w3.heap.size)
    (h4 : Prt w0 b qf qc pb room most trim ls' cr' m nxt' Ff' Fc' w4) (kG : Kept G w3 w4) (hG : ∀ i, G i → own b pb Ff Fc i) (hnew : ∀ i, fp b pb ls' cr' Ff' Fc' i → fp b pb ls cr Ff Fc i ∨ w3.heap.size ≤ i) (hown : ∀ i, own b pb Ff' Fc' i → own b pb Ff Fc i ∨ w3.heap.size ≤ i) (k5 : Kept (fun i => i = w.heap.size) w4 w') :
    ∃ F', PO w0 b room most trim ls' cr' m nxt' F' w' ∧ Qu.Next (own b pb Ff Fc) w F' w' := by
  have hs := hp.fr.1.size
  refine ⟨_, ⟨qf, qc, pb, Ff', Fc', h4.far k5 (fun i e f => ?_) (fun i e => by omega), rfl⟩, ?_, fun i hi => (hown i hi).imp id (fun e => by omega)⟩
  · rcases hnew i f with h | h
    · have := (hp.bound h).2; omega
    · omega
  · refine ((k3.mono (fun i _ e => ?_)).trans (kG.mono (fun i _ e => hG i e))).trans' k5 (fun i hi e => by omega)
    rcases e with e | e
    · exact Or.inl e
    · exact Or.inr (Or.inl e)
/-- The first one of the highest line. -/
theorem take_frame (h : PO w0 b room most trim ls cr now nxt F w) {t m : Int} (hmt : clampI t now 1125899906842624 = m) (hm : cr = [] ∨ (0 < cr.length ∧ cr.length ≤ 1000000 ∧ m < nxt)) {p : Nat} {x : Bx} {R : List Bx} (ht : top ls 8 = some p) (hx : ls p = x :: R) (hl : (ls p).length ≤ 100000) :
    Calls Try.prog 13 #[.pointer (some ⟨b, 0, none⟩), .int .i64 t] w fun e w' => e = .returned (.tuple #[bv x, .bool true]) ∧ Byt.Row w' w0.heap.size (.slice x.s x.f.data.length x.c) x.f.data ∧ ∃ F', PO w0 b room most trim (upd ls p R) cr m nxt F' w' ∧ Qu.Next F w F' w' := by
  obtain ⟨qf, qc, pb, Ff, Fc, hp, rfl⟩ := h
  have hp8 : p < 8 := (top_some ht).1
  have hmem : x ∈ ls p := by rw [hx]; exact List.mem_cons_self
  have hPop : ∀ w3, Prt w0 b qf qc pb room most trim ls cr m nxt Ff Fc w3 → w.heap.size < w3.heap.size → Calls Try.prog 50 #[.pointer (some ⟨qf, 0, none⟩)] w3 fun e w4 => ∃ x' p' ok, e = .returned (.tuple #[bv x', .int .i64 p', .bool ok]) ∧
      (x' = x ∧ ok = true ∧ ∃ Ff', Prt w0 b qf qc pb room most trim (upd ls p R) cr m nxt Ff' Fc w4 ∧ Qu.Next Ff w3 Ff' w4) ∧ ∃ G : Nat → Prop, Kept G w3 w4 ∧ ∀ i, G i → i < w.heap.size := by
    intro w3 h3 _
    refine (pop_some h3.fr ht hx hl).mono ?_
    rintro e w4 ⟨rfl, Ff', hS, hN⟩
    exact ⟨x, _, true, rfl, ⟨rfl, rfl, Ff', h3.turnF hS hN (fun k y hk hy => (mem_upd (ls := ls) (P := fun _ => False) hp8 (fun z hz => Or.inl (by rw [hx]; exact List.mem_cons_of_mem _ hz)) hk hy).imp id (fun f => f.elim)), hN⟩, Ff, hN.1, fun i hi => (hp.fr.own i hi).2⟩
  have fin : ∀ e w', (∃ x' ok w3 w4, e = Ending.returned (.tuple #[bv x', .bool ok]) ∧ Kept (fun i => i = b ∨ i = pb) w w3 ∧ w.heap.size < w3.heap.size ∧ Prt w0 b qf qc pb room most trim ls cr m nxt Ff Fc w3 ∧ (x' = x ∧ ok = true ∧ ∃ Ff', Prt w0 b qf qc pb room most trim (upd ls p R) cr m nxt Ff' Fc w4 ∧ Qu.Next Ff w3 Ff' w4) ∧ Kept (fun i => i = w.heap.size) w4 w') →
      e = .returned (.tuple #[bv x, .bool true]) ∧ Byt.Row w' w0.heap.size (.slice x.s x.f.data.length x.c) x.f.data ∧ ∃ F', PO w0 b room most trim (upd ls p R) cr m nxt F' w' ∧ Qu.Next (own b pb Ff Fc) w F' w' := by
    rintro e w' ⟨x', ok, w3, w4, rfl, k3, hs3, h3, ⟨rfl, rfl, Ff', h4, hN⟩, k5⟩
    have hg3 := h3.gf p x' hp8 hmem
    refine ⟨rfl, row_end (hp.gf p x' hp8 hmem) hg3 hN.1 (fun g hg f => hg3.2.2.2 g hg (Or.inr (Or.inr (Or.inl f)))) k5, ?_⟩
    refine take_end hp k3 hs3 h4 hN.1 (fun i f => Or.inr (Or.inr (Or.inl f))) (fun i hi => ?_) (fun i hi => own_step hN.2 (fun i f => Or.inl f) hi) k5
    exact fp_step hN.2 (fun i f => Or.inl f) (fun k y hk hy => (mem_upd (ls := ls) (P := fun _ => False) hp8 (fun z hz => Or.inl (by rw [hx]; exact List.mem_cons_of_mem _ hz)) hk hy).imp id (fun f => f.elim)) (fun y hy => Or.inl hy) hi
  rcases hm with hcr | ⟨hc0, hc1, hm⟩
  · exact (take_off hp hmt hcr (Post := fun x' ok w3 w4 => x' = x ∧ ok = true ∧ ∃ Ff', Prt w0 b qf qc pb room most trim (upd ls p R) cr m nxt Ff' Fc w4 ∧ Qu.Next Ff w3 Ff' w4) hPop).mono fin
  · exact (take_no hp hmt hc0 hc1 hm (Post := fun x' ok w3 w4 => x' = x ∧ ok = true ∧ ∃ Ff', Prt w0 b qf qc pb room most trim (upd ls p R) cr m nxt Ff' Fc w4 ∧ Qu.Next Ff w3 Ff' w4) hPop).mono fin
/-- There is none. -/
theorem take_empty (h : PO w0 b room most trim ls cr now nxt F w) {t m : Int} (hmt : clampI t now 1125899906842624 = m) (hm : cr = [] ∨ (0 < cr.length ∧ cr.length ≤ 1000000 ∧ m < nxt)) (ht : top ls 8 = none) :
    Calls Try.prog 13 #[.pointer (some ⟨b, 0, none⟩), .int .i64 t] w fun e w' => e = .returned (.tuple #[bv zB, .bool false]) ∧ ∃ F', PO w0 b room most trim ls cr m nxt F' w' ∧ Qu.Next F w F' w' := by
  obtain ⟨qf, qc, pb, Ff, Fc, hp, rfl⟩ := h
  have hPop : ∀ w3, Prt w0 b qf qc pb room most trim ls cr m nxt Ff Fc w3 → w.heap.size < w3.heap.size → Calls Try.prog 50 #[.pointer (some ⟨qf, 0, none⟩)] w3 fun e w4 => ∃ x' p' ok, e = .returned (.tuple #[bv x', .int .i64 p', .bool ok]) ∧
      (x' = zB ∧ ok = false ∧ Kept (fun _ => False) w3 w4) ∧ ∃ G : Nat → Prop, Kept G w3 w4 ∧ ∀ i, G i → i < w.heap.size := by
    intro w3 h3 _
    refine (pop_none h3.fr ht).mono ?_
    rintro e w4 ⟨rfl, hk⟩
    exact ⟨zB, _, false, rfl, ⟨rfl, rfl, hk⟩, fun _ => False, hk, fun _ f => f.elim⟩
  have fin : ∀ e w', (∃ x' ok w3 w4, e = Ending.returned (.tuple #[bv x', .bool ok]) ∧ Kept (fun i => i = b ∨ i = pb) w w3 ∧ w.heap.size < w3.heap.size ∧ Prt w0 b qf qc pb room most trim ls cr m nxt Ff Fc w3 ∧ (x' = zB ∧ ok = false ∧ Kept (fun _ => False) w3 w4) ∧ Kept (fun i => i = w.heap.size) w4 w') →
      e = .returned (.tuple #[bv zB, .bool false]) ∧ ∃ F', PO w0 b room most trim ls cr m nxt F' w' ∧ Qu.Next (own b pb Ff Fc) w F' w' := by
    rintro e w' ⟨x', ok, w3, w4, rfl, k3, hs3, h3, ⟨rfl, rfl, hk⟩, k5⟩
    exact ⟨rfl, take_end hp k3 hs3 (h3.old hk) hk (fun i f => f.elim) (fun i hi => Or.inl hi) (fun i hi => Or.inl hi) k5⟩
  rcases hm with hcr | ⟨hc0, hc1, hm⟩
  · exact (take_off hp hmt hcr (Post := fun x' ok w3 w4 => x' = zB ∧ ok = false ∧ Kept (fun _ => False) w3 w4) hPop).mono fin
  · exact (take_no hp hmt hc0 hc1 hm (Post := fun x' ok w3 w4 => x' = zB ∧ ok = false ∧ Kept (fun _ => False) w3 w4) hPop).mono fin
theorem top_crl (x : Bx) (R : List Bx) : top (crl (x :: R)) 8 = some 0 := by
  simp [top, crl, upd]
/-- The first credit. -/
theorem take_credit {x : Bx} {R : List Bx} (h : PO w0 b room most trim ls (x :: R) now nxt F w) {t m : Int} (hmt : clampI t now 1125899906842624 = m) (hl : (x :: R).length ≤ 100000) (hm : nxt ≤ m) :
    Calls Try.prog 13 #[.pointer (some ⟨b, 0, none⟩), .int .i64 t] w fun e w' => e = .returned (.tuple #[bv x, .bool true]) ∧ Byt.Row w' w0.heap.size (.slice x.s x.f.data.length x.c) x.f.data ∧ ∃ F', PO w0 b room most trim ls R m (m + 4) F' w' ∧ Qu.Next F w F' w' := by
  obtain ⟨qf, qc, pb, Ff, Fc, hp, rfl⟩ := h
  have hmem : x ∈ x :: R := List.mem_cons_self
  have hPop : ∀ w3, Prt w0 b qf qc pb room most trim ls (x :: R) m (m + 4) Ff Fc w3 → w.heap.size < w3.heap.size → Calls Try.prog 50 #[.pointer (some ⟨qc, 0, none⟩)] w3 fun e w4 => ∃ x' p' ok, e = .returned (.tuple #[bv x', .int .i64 p', .bool ok]) ∧
      (x' = x ∧ ok = true ∧ ∃ Fc', Prt w0 b qf qc pb room most trim ls R m (m + 4) Ff Fc' w4 ∧ Qu.Next Fc w3 Fc' w4) ∧ ∃ G : Nat → Prop, Kept G w3 w4 ∧ ∀ i, G i → i < w.heap.size := by
    intro w3 h3 _
    refine (pop_some h3.cq (top_crl x R) (x := x) (L' := R) (upd_self _ _ _) (by rw [show crl (x :: R) 0 = x :: R from upd_self _ _ _]; exact hl)).mono ?_
    rintro e w4 ⟨rfl, Fc', hS, hN⟩
    rw [show upd (crl (x :: R)) 0 R = crl R from upd_upd _ _ _ _] at hS
    exact ⟨x, _, true, rfl, ⟨rfl, rfl, Fc', h3.turnC hS hN (fun y hy => hp.kinds y (List.mem_cons_of_mem _ hy)) (fun y hy => Or.inl (List.mem_cons_of_mem _ hy)), hN⟩, Fc, hN.1, fun i hi => (hp.cq.own i hi).2⟩
  refine (take_go hp hmt (Nat.zero_lt_succ _) (Nat.le_trans hl (by decide)) hm (Post := fun x' ok w3 w4 => x' = x ∧ ok = true ∧ ∃ Fc', Prt w0 b qf qc pb room most trim ls R m (m + 4) Ff Fc' w4 ∧ Qu.Next Fc w3 Fc' w4) hPop).mono ?_
  rintro e w' ⟨x', ok, w3, w4, rfl, k3, hs3, h3, ⟨rfl, rfl, Fc', h4, hN⟩, k5⟩
  have hg3 := h3.gc x' hmem
  refine ⟨rfl, row_end (hp.gc x' hmem) hg3 hN.1 (fun g hg f => hg3.2.2.2 g hg (Or.inr (Or.inr (Or.inr f)))) k5, ?_⟩
  refine take_end hp k3 hs3 h4 hN.1 (fun i f => Or.inr (Or.inr (Or.inr f))) (fun i hi => ?_) (fun i hi => own_step (fun i f => Or.inl f) hN.2 hi) k5
  exact fp_step (fun i f => Or.inl f) hN.2 (fun k y hk hy => Or.inl ⟨k, hk, hy⟩) (fun y hy => Or.inl (List.mem_cons_of_mem _ hy)) hi
end Go.Proofs.Ytompbpiaapenaaa.Fo

