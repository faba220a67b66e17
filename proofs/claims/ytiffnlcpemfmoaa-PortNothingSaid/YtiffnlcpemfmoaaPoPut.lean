/- A port: one is put in. Conditions: each theorem's own. -/
import Derived.Test.YtiffnlcpemfmoaaPoSt
set_option linter.unusedVariables false
namespace Go.Proofs.Ytiffnlcpemfmoaa.Po
open Go.RowKit Hp QuM QuN Rw Qu NumM NumC
attribute [local go_sem ↓] Go.wp_at_zero Go.wp_at_succ
variable {w0 w w' : World} {b qf qc pb : Nat} {room most : Int} {trim : Bool} {ls : Nat → List Bx} {cr : List Bx} {now nxt : Int} {Ff Fc F : Nat → Prop}
theorem fp_step {n : Nat} {ls' : Nat → List Bx} {cr' : List Bx} {Ff' Fc' : Nat → Prop} (hF : ∀ i, Ff' i → Ff i ∨ n ≤ i) (hC : ∀ i, Fc' i → Fc i ∨ n ≤ i) (hl : ∀ k x, k < 8 → x ∈ ls' k → (∃ j, j < 8 ∧ x ∈ ls j) ∨ ∀ g, xb x = some g → n ≤ g)
    (hc : ∀ x, x ∈ cr' → x ∈ cr ∨ ∀ g, xb x = some g → n ≤ g) {i : Nat} (h : fp b pb ls' cr' Ff' Fc' i) : fp b pb ls cr Ff Fc i ∨ n ≤ i := by
  rcases h with (e | e | e | e) | ⟨k, x, hk, hx, e⟩ | ⟨x, hx, e⟩
  · exact Or.inl (Or.inl (Or.inl e))
  · exact Or.inl (Or.inl (Or.inr (Or.inl e)))
  · exact (hF i e).imp (fun e => Or.inl (Or.inr (Or.inr (Or.inl e)))) id
  · exact (hC i e).imp (fun e => Or.inl (Or.inr (Or.inr (Or.inr e)))) id
  · rcases hl k x hk hx with ⟨j, hj, hx⟩ | h
    · exact Or.inl (Or.inr (Or.inl ⟨j, x, hj, hx, e⟩))
    · exact Or.inr (h i e)
  · rcases hc x hx with hx | h
    · exact Or.inl (Or.inr (Or.inr ⟨x, hx, e⟩))
    · exact Or.inr (h i e)
theorem mem_upd {p : Nat} {L : List Bx} {P : Bx → Prop} (hp : p < 8) (hL : ∀ x, x ∈ L → x ∈ ls p ∨ P x) {k : Nat} {x : Bx} (hk : k < 8) (h : x ∈ upd ls p L k) : (∃ j, j < 8 ∧ x ∈ ls j) ∨ P x := by
  by_cases e : k = p
  · subst e
    rw [upd_self] at h
    exact (hL x h).imp (fun h => ⟨k, hk, h⟩) id
  · rw [upd_ne _ _ e] at h
    exact Or.inl ⟨k, hk, h⟩
theorem next_in {F' : Nat → Prop} {w1 : World} (k : Kept (fun _ => False) w w1) (h : Qu.Next F w1 F' w') : Qu.Next F w F' w' :=
  ⟨(k.mono (fun _ _ f => f.elim)).trans h.1, fun i hi => (h.2 i hi).imp id (fun e => Nat.le_trans k.size e)⟩
theorem crl_push (cr : List Bx) (y : Bx) : upd (crl cr) 0 (crl cr 0 ++ [y]) = crl (cr ++ [y]) := by
  rw [show crl cr 0 = cr from upd_self _ _ _]; exact upd_upd _ _ _ _
/-- A copy is one that may wait. -/
theorem gd_copy {x : Bx} {s : Option Addr} {c : Nat} {O G : Nat → Prop} {w1 : World} (hs : Sane x) (hl : x.f.data.length ≤ 1000000) (h0 : w0.heap.size ≤ w.heap.size) (hrow : Byt.Row w1 w.heap.size (.slice s x.f.data.length c) x.f.data) (k : Kept G w1 w')
    (hG : ∀ i, G i → i < w.heap.size) (hO : ∀ i, O i → i < w.heap.size ∨ w1.heap.size ≤ i) : Gd w0 w' O ⟨x.f, s, c, x.q⟩ :=
  ⟨hs, hl, (hrow.kept k (fun g hg e => by have := (hrow.lt g hg).1; have := hG g e; omega)).base (fun g hg => Nat.le_trans h0 (hrow.lt g hg).1),
    fun g hg e => by have h1 := hrow.lt g hg; rcases hO g e with h | h <;> omega⟩
/-- A credit finds room. -/
theorem ppush_cy (h : PS w0 b room most trim ls cr now nxt F w) {x : Bx} (hr : Rd w x) (hs : Sane x) (hk : x.f.kind = 11) (hc : (cr.length : Int) < most) (hl : cr.length < 100000) :
    Calls Try.prog 18 #[.pointer (some ⟨b, 0, none⟩), bv x] w fun e w' => e = .returned (.bool true) ∧ ∃ s c F', PS w0 b room most trim ls (cr ++ [⟨x.f, s, c, x.q⟩]) now nxt F' w' ∧ Qu.Next F w F' w' := by
  obtain ⟨qf, qc, pb, Ff, Fc, hp, rfl⟩ := h
  have h0 := hp.fr.1.size
  refine (push_of (q := qc) (p := 0) (Post := fun r w'' => r = 0 ∧ ∃ s c F', PS w0 b room most trim ls (cr ++ [⟨x.f, s, c, x.q⟩]) now nxt F' w'' ∧ Qu.Next (fp b pb ls cr Ff Fc) w F' w'')
    (fun w' k => lineOf_credit (k.blk hp.blk (fun f => f)) hk) hr ?_ ?_).mono ?_
  · intro w1 s c k hrow
    have hp1 := hp.old k
    refine (push_ok hp1.cq (p := 0) (K := 0) rfl (by decide) (x := ⟨x.f, s, c, x.q⟩) hs ?_ ?_).mono ?_
    · have e : szI (nb (⟨x.f, s, c, x.q⟩ : Bx)) = 26 := nb_credit hk
      rw [tot_crl, sumB_credit hp.kinds, e]
      omega
    · rw [show crl cr 0 = cr from upd_self _ _ _]; exact hl
    · rintro e w2 ⟨rfl, Fc', hS, hN⟩
      rw [crl_push] at hS
      have hy : Gd w0 w2 (own b pb Ff Fc') ⟨x.f, s, c, x.q⟩ := gd_copy hs hr.2 h0 hrow hN.1 (fun i hi => (hp.cq.own i hi).2) (fun i hi => by
        rcases hi with e | e | e | e
        · subst e; exact Or.inl hp.blk.lt
        · subst e; exact Or.inl (Blk.lt hp.pace)
        · exact Or.inl (hp.fr.own i e).2
        · exact (hN.2 i e).imp (fun e => (hp.cq.own i e).2) id)
      have h2 := hp1.turnC hS hN (fun y hy => by
        rcases List.mem_append.1 hy with hy | hy
        · exact hp.kinds y hy
        · rw [List.mem_singleton] at hy; subst hy; exact hk) (fun y hy' => by
        rcases List.mem_append.1 hy' with hy' | hy'
        · exact Or.inl hy'
        · rw [List.mem_singleton] at hy'; subst hy'; exact Or.inr hy)
      refine ⟨0, rfl, ⟨rfl, s, c, _, ⟨qf, qc, pb, Ff, Fc', h2, rfl⟩, (k.mono (fun _ _ f => f.elim)).trans (hN.1.mono (fun i _ e => Or.inl (Or.inr (Or.inr (Or.inr e))))), fun i hi => ?_⟩, Fc, hN.1, fun i hi => (hp.cq.own i hi).2⟩
      refine fp_step (fun i hi => Or.inl hi) (fun i hi => (hN.2 i hi).imp id (fun e => Nat.le_trans k.size e)) (fun k x hk hx => Or.inl ⟨k, hk, hx⟩) (fun y hy' => ?_) hi
      rcases List.mem_append.1 hy' with hy' | hy'
      · exact Or.inl hy'
      · rw [List.mem_singleton] at hy'; subst hy'; exact Or.inr (fun g hg => (hrow.lt g hg).1)
  · rintro r w' ⟨rfl, s, c, F', h1, h2⟩
    exact ⟨rfl, s, c, F', h1.old (Kept.refl _ w').drew, h2.1.drew, h2.2⟩
  · rintro e w' ⟨r, rfl, rfl, h⟩
    exact ⟨rfl, h⟩
/-- A credit finds none. -/
theorem ppush_cn (h : PS w0 b room most trim ls cr now nxt F w) {x : Bx} (hr : Rd w x) (hs : Sane x) (hk : x.f.kind = 11) (hc : most ≤ (cr.length : Int)) :
    Calls Try.prog 18 #[.pointer (some ⟨b, 0, none⟩), bv x] w fun e w' => e = .returned (.bool false) ∧ Kept (fun _ => False) w w' := by
  obtain ⟨qf, qc, pb, Ff, Fc, hp, rfl⟩ := h
  refine (push_of (q := qc) (p := 0) (Post := fun r w'' => r = 4 ∧ Kept (fun _ => False) w w'') (fun w' k => lineOf_credit (k.blk hp.blk (fun f => f)) hk) hr ?_ ?_).mono ?_
  · intro w1 s c k hrow
    refine (push_full (hp.old k).cq (p := 0) (by decide) (x := ⟨x.f, s, c, x.q⟩) hs ?_).mono ?_
    · have e : szI (nb (⟨x.f, s, c, x.q⟩ : Bx)) = 26 := nb_credit hk
      rw [tot_crl, sumB_credit hp.kinds, e]
      omega
    · rintro e w2 ⟨rfl, k2⟩
      exact ⟨4, rfl, ⟨rfl, k.trans k2⟩, fun _ => False, k2, fun _ f => f.elim⟩
  · rintro r w' ⟨rfl, h⟩; exact ⟨rfl, h.drew⟩
  · rintro e w' ⟨r, rfl, rfl, h⟩; exact ⟨rfl, h⟩
/-- Another one finds room. -/
theorem ppush_fy (h : PS w0 b room most trim ls cr now nxt F w) {x : Bx} (hr : Rd w x) (hs : Sane x) (hk : x.f.kind ≠ 11) {p : Nat} (hp0 : prI x = (p : Nat)) (hc : tot ls 8 + szI (nb x) ≤ room) (hl : (ls p).length < 100000) :
    Calls Try.prog 18 #[.pointer (some ⟨b, 0, none⟩), bv x] w fun e w' => e = .returned (.bool true) ∧ ∃ s c F', PS w0 b room most trim (upd ls p (ls p ++ [⟨x.f, s, c, x.q⟩])) cr now nxt F' w' ∧ Qu.Next F w F' w' := by
  obtain ⟨qf, qc, pb, Ff, Fc, hp, rfl⟩ := h
  have h0 := hp.fr.1.size
  have hpb := prI_bd x
  have hp8 : p < 8 := by omega
  refine (push_of (q := qf) (p := prI x) (Post := fun r w'' => r = 0 ∧ ∃ s c F', PS w0 b room most trim (upd ls p (ls p ++ [⟨x.f, s, c, x.q⟩])) cr now nxt F' w'' ∧ Qu.Next (fp b pb ls cr Ff Fc) w F' w'')
    (fun w' k => lineOf_else (k.blk hp.blk (fun f => f)) hk) hr ?_ ?_).mono ?_
  · intro w1 s c k hrow
    have hp1 := hp.old k
    refine (push_ok hp1.fr (p := p) (K := prI x) hp0 hp8 (x := ⟨x.f, s, c, x.q⟩) hs hc hl).mono ?_
    rintro e w2 ⟨rfl, Ff', hS, hN⟩
    have hy : Gd w0 w2 (own b pb Ff' Fc) ⟨x.f, s, c, x.q⟩ := gd_copy hs hr.2 h0 hrow hN.1 (fun i hi => (hp.fr.own i hi).2) (fun i hi => by
      rcases hi with e | e | e | e
      · subst e; exact Or.inl hp.blk.lt
      · subst e; exact Or.inl (Blk.lt hp.pace)
      · exact (hN.2 i e).imp (fun e => (hp.fr.own i e).2) id
      · exact Or.inl (hp.cq.own i e).2)
    have hm : ∀ k y, k < 8 → y ∈ upd ls p (ls p ++ [⟨x.f, s, c, x.q⟩]) k → (∃ j, j < 8 ∧ y ∈ ls j) ∨ y = ⟨x.f, s, c, x.q⟩ := fun k y hk hy' =>
      mem_upd (P := fun y => y = ⟨x.f, s, c, x.q⟩) hp8 (fun z hz => (List.mem_append.1 hz).imp id (fun h => List.mem_singleton.1 h)) hk hy'
    have h2 := hp1.turnF hS hN (fun k y hk hy' => (hm k y hk hy').imp id (fun e => by subst e; exact hy))
    refine ⟨0, rfl, ⟨rfl, s, c, _, ⟨qf, qc, pb, Ff', Fc, h2, rfl⟩, (k.mono (fun _ _ f => f.elim)).trans (hN.1.mono (fun i _ e => Or.inl (Or.inr (Or.inr (Or.inl e))))), fun i hi => ?_⟩, Ff, hN.1, fun i hi => (hp.fr.own i hi).2⟩
    refine fp_step (fun i hi => (hN.2 i hi).imp id (fun e => Nat.le_trans k.size e)) (fun i hi => Or.inl hi) (fun k y hk hy' => (hm k y hk hy').imp id (fun e => by subst e; exact fun g hg => (hrow.lt g hg).1)) (fun y hy' => Or.inl hy') hi
  · rintro r w' ⟨rfl, s, c, F', h1, h2⟩
    exact ⟨rfl, s, c, F', h1.old (Kept.refl _ w').drew, h2.1.drew, h2.2⟩
  · rintro e w' ⟨r, rfl, rfl, h⟩
    exact ⟨rfl, h⟩
/-- Another one finds none. -/
theorem ppush_fn (h : PS w0 b room most trim ls cr now nxt F w) {x : Bx} (hr : Rd w x) (hs : Sane x) (hk : x.f.kind ≠ 11) (hc : room < tot ls 8 + szI (nb x)) :
    Calls Try.prog 18 #[.pointer (some ⟨b, 0, none⟩), bv x] w fun e w' => e = .returned (.bool false) ∧ Kept (fun _ => False) w w' := by
  obtain ⟨qf, qc, pb, Ff, Fc, hp, rfl⟩ := h
  have hpb := prI_bd x
  refine (push_of (q := qf) (p := prI x) (Post := fun r w'' => r = 4 ∧ Kept (fun _ => False) w w'') (fun w' k => lineOf_else (k.blk hp.blk (fun f => f)) hk) hr ?_ ?_).mono ?_
  · intro w1 s c k hrow
    refine (push_full (hp.old k).fr (p := prI x) (by omega) (x := ⟨x.f, s, c, x.q⟩) hs hc).mono ?_
    rintro e w2 ⟨rfl, k2⟩
    exact ⟨4, rfl, ⟨rfl, k.trans k2⟩, fun _ => False, k2, fun _ f => f.elim⟩
  · rintro r w' ⟨rfl, h⟩; exact ⟨rfl, h.drew⟩
  · rintro e w' ⟨r, rfl, rfl, h⟩; exact ⟨rfl, h⟩
end Go.Proofs.Ytiffnlcpemfmoaa.Po
