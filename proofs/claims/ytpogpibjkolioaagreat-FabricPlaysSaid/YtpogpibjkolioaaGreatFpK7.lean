/- A port: one is put in. Conditions: each theorem's own. -/
import Derived.Test.YtpogpibjkolioaaGreatFpK6
set_option linter.unusedVariables false
set_option linter.unusedSimpArgs false
namespace Go.Proofs.YtpogpibjkolioaaGreat.Po
open Go.RowKit Hp QuM QuN Rw Qu NumM NumC
attribute [local go_sem ↓] Go.wp_at_zero Go.wp_at_succ
variable {w0 w w' : World} {b qf qc pb : Nat} {room most : Int} {trim : Bool} {ls : Nat → List Bx} {cr : List Bx} {now nxt : Int} {Ff Fc F : Nat → Prop}
theorem fp_step {n : Nat} {ls' : Nat → List Bx} {cr' : List Bx} {Ff' Fc' : Nat → Prop} (hF : ∀ i, Ff' i → Ff i ∨ n ≤ i) (hC : ∀ i, Fc' i → Fc i ∨ n ≤ i) (hl : ∀ k x, k < 8 → x ∈ ls' k → (∃ j, j < 8 ∧ x ∈ ls j) ∨ ∀ g, xb x = some g → n ≤ g)
  (hc : ∀ x, x ∈ cr' → x ∈ cr ∨ ∀ g, xb x = some g → n ≤ g) {i : Nat} (h : fp b pb ls' cr' Ff' Fc' i) : fp b pb ls cr Ff Fc i ∨ n ≤ i := by
 rcases h with (e | e | e | e) | ⟨k, x, hk, hx, e⟩ | ⟨x, hx, e⟩
 ·exact Or.inl (Or.inl (Or.inl e))
 ·exact Or.inl (Or.inl (Or.inr (Or.inl e)))
 ·exact (hF i e).imp (fun e => Or.inl (Or.inr (Or.inr (Or.inl e)))) id
 ·exact (hC i e).imp (fun e => Or.inl (Or.inr (Or.inr (Or.inr e)))) id
 ·rcases hl k x hk hx with ⟨j, hj, hx⟩ | h
  ·exact Or.inl (Or.inr (Or.inl ⟨j, x, hj, hx, e⟩))
  ·exact Or.inr (h i e)
 ·rcases hc x hx with hx | h
  ·exact Or.inl (Or.inr (Or.inr ⟨x, hx, e⟩))
  ·exact Or.inr (h i e)
theorem mem_upd {p : Nat} {L : List Bx} {P : Bx → Prop} (hp : p < 8) (hL : ∀ x, x ∈ L → x ∈ ls p ∨ P x) {k : Nat} {x : Bx} (hk : k < 8) (h : x ∈ upd ls p L k) : (∃ j, j < 8 ∧ x ∈ ls j) ∨ P x := by
 by_cases e : k = p
 ·subst e
  rw [upd_self] at h
  exact (hL x h).imp (fun h => ⟨k, hk, h⟩) id
 ·rw [upd_ne _ _ e] at h
  exact Or.inl ⟨k, hk, h⟩
theorem next_in {F' : Nat → Prop} {w1 : World} (k : Kept (fun _ => False) w w1) (h : Qu.Next F w1 F' w') : Qu.Next F w F' w' :=
 ⟨(k.mono (fun _ _ f => f.elim)).trans h.1, fun i hi => (h.2 i hi).imp id (fun e => Nat.le_trans k.size e)⟩
theorem crl_push (cr : List Bx) (y : Bx) : upd (crl cr) 0 (crl cr 0 ++ [y]) = crl (cr ++ [y]) := by
 rw [show crl cr 0 = cr from upd_self _ _ _]; exact upd_upd _ _ _ _
theorem gd_copy {x : Bx} {s : Option Addr} {c : Nat} {O G : Nat → Prop} {w1 : World} (hs : Sane x) (hl : x.f.data.length ≤ 1000000) (h0 : w0.heap.size ≤ w.heap.size) (hrow : Byt.Row w1 w.heap.size (.slice s x.f.data.length c) x.f.data) (k : Kept G w1 w')
  (hG : ∀ i, G i → i < w.heap.size) (hO : ∀ i, O i → i < w.heap.size ∨ w1.heap.size ≤ i) : Gd w0 w' O ⟨x.f, s, c, x.q⟩ :=
 ⟨hs, hl, (hrow.kept k (fun g hg e => by have := (hrow.lt g hg).1; have := hG g e; omega)).base (fun g hg => Nat.le_trans h0 (hrow.lt g hg).1),
  fun g hg e => by have h1 := hrow.lt g hg; rcases hO g e with h | h <;> omega⟩
theorem ppush_cy (h : PS w0 b room most trim ls cr now nxt F w) {x : Bx} (hr : Rd w x) (hs : Sane x) (hk : x.f.kind = 11) (hc : (cr.length : Int) < most) (hl : cr.length < 100000) :
  Calls Tryz.prog 85 #[.pointer (some ⟨b, 0, none⟩), bv x] w fun e w' => e = .returned (.bool true) ∧ ∃ s c F', PS w0 b room most trim ls (cr ++ [⟨x.f, s, c, x.q⟩]) now nxt F' w' ∧ Qu.Next F w F' w' := by
 obtain ⟨qf, qc, pb, Ff, Fc, hp, rfl⟩ := h
 have h0 := hp.fr.1.size
 refine (push_of (q := qc) (p := 0) (Post := fun r w'' => r = 0 ∧ ∃ s c F', PS w0 b room most trim ls (cr ++ [⟨x.f, s, c, x.q⟩]) now nxt F' w'' ∧ Qu.Next (fp b pb ls cr Ff Fc) w F' w'')
  (fun w' k => lineOf_credit (k.blk hp.blk (fun f => f)) hk) hr ?_ ?_).mono ?_
 ·intro w1 s c k hrow
  have hp1 := hp.old k
  refine (push_ok hp1.cq (p := 0) (K := 0) rfl (by decide) (x := ⟨x.f, s, c, x.q⟩) hs ?_ ?_).mono ?_
  ·have e : szI (nb (⟨x.f, s, c, x.q⟩ : Bx)) = 26 := nb_credit hk
   rw [tot_crl, sumB_credit hp.kinds, e]
   omega
  ·rw [show crl cr 0 = cr from upd_self _ _ _]; exact hl
  ·rintro e w2 ⟨rfl, Fc', hS, hN⟩
   rw [crl_push] at hS
   have hy : Gd w0 w2 (own b pb Ff Fc') ⟨x.f, s, c, x.q⟩ := gd_copy hs hr.2 h0 hrow hN.1 (fun i hi => (hp.cq.own i hi).2) (fun i hi => by
    rcases hi with e | e | e | e
    ·subst e; exact Or.inl hp.blk.lt
    ·subst e; exact Or.inl (Blk.lt hp.pace)
    ·exact Or.inl (hp.fr.own i e).2
    ·exact (hN.2 i e).imp (fun e => (hp.cq.own i e).2) id)
   have h2 := hp1.turnC hS hN (fun y hy => by
    rcases List.mem_append.1 hy with hy | hy
    ·exact hp.kinds y hy
    ·rw [List.mem_singleton] at hy; subst hy; exact hk) (fun y hy' => by
    rcases List.mem_append.1 hy' with hy' | hy'
    ·exact Or.inl hy'
    ·rw [List.mem_singleton] at hy'; subst hy'; exact Or.inr hy)
   refine ⟨0, rfl, ⟨rfl, s, c, _, ⟨qf, qc, pb, Ff, Fc', h2, rfl⟩, (k.mono (fun _ _ f => f.elim)).trans (hN.1.mono (fun i _ e => Or.inl (Or.inr (Or.inr (Or.inr e))))), fun i hi => ?_⟩, Fc, hN.1, fun i hi => (hp.cq.own i hi).2⟩
   refine fp_step (fun i hi => Or.inl hi) (fun i hi => (hN.2 i hi).imp id (fun e => Nat.le_trans k.size e)) (fun k x hk hx => Or.inl ⟨k, hk, hx⟩) (fun y hy' => ?_) hi
   rcases List.mem_append.1 hy' with hy' | hy'
   ·exact Or.inl hy'
   ·rw [List.mem_singleton] at hy'; subst hy'; exact Or.inr (fun g hg => (hrow.lt g hg).1)
 ·rintro r w' ⟨rfl, s, c, F', h1, h2⟩
  exact ⟨rfl, s, c, F', h1.old (Kept.refl _ w').drew, h2.1.drew, h2.2⟩
 ·rintro e w' ⟨r, rfl, rfl, h⟩
  exact ⟨rfl, h⟩
theorem ppush_cn (h : PS w0 b room most trim ls cr now nxt F w) {x : Bx} (hr : Rd w x) (hs : Sane x) (hk : x.f.kind = 11) (hc : most ≤ (cr.length : Int)) :
  Calls Tryz.prog 85 #[.pointer (some ⟨b, 0, none⟩), bv x] w fun e w' => e = .returned (.bool false) ∧ Kept (fun _ => False) w w' := by
 obtain ⟨qf, qc, pb, Ff, Fc, hp, rfl⟩ := h
 refine (push_of (q := qc) (p := 0) (Post := fun r w'' => r = 4 ∧ Kept (fun _ => False) w w'') (fun w' k => lineOf_credit (k.blk hp.blk (fun f => f)) hk) hr ?_ ?_).mono ?_
 ·intro w1 s c k hrow
  refine (push_full (hp.old k).cq (p := 0) (by decide) (x := ⟨x.f, s, c, x.q⟩) hs ?_).mono ?_
  ·have e : szI (nb (⟨x.f, s, c, x.q⟩ : Bx)) = 26 := nb_credit hk
   rw [tot_crl, sumB_credit hp.kinds, e]
   omega
  ·rintro e w2 ⟨rfl, k2⟩
   exact ⟨4, rfl, ⟨rfl, k.trans k2⟩, fun _ => False, k2, fun _ f => f.elim⟩
 ·rintro r w' ⟨rfl, h⟩; exact ⟨rfl, h.drew⟩
 ·rintro e w' ⟨r, rfl, rfl, h⟩; exact ⟨rfl, h⟩
theorem ppush_fy (h : PS w0 b room most trim ls cr now nxt F w) {x : Bx} (hr : Rd w x) (hs : Sane x) (hk : x.f.kind ≠ 11) {p : Nat} (hp0 : prI x = (p : Nat)) (hc : tot ls 8 + szI (nb x) ≤ room) (hl : (ls p).length < 100000) :
  Calls Tryz.prog 85 #[.pointer (some ⟨b, 0, none⟩), bv x] w fun e w' => e = .returned (.bool true) ∧ ∃ s c F', PS w0 b room most trim (upd ls p (ls p ++ [⟨x.f, s, c, x.q⟩])) cr now nxt F' w' ∧ Qu.Next F w F' w' := by
 obtain ⟨qf, qc, pb, Ff, Fc, hp, rfl⟩ := h
 have h0 := hp.fr.1.size
 have hpb := prI_bd x
 have hp8 : p < 8 := by omega
 refine (push_of (q := qf) (p := prI x) (Post := fun r w'' => r = 0 ∧ ∃ s c F', PS w0 b room most trim (upd ls p (ls p ++ [⟨x.f, s, c, x.q⟩])) cr now nxt F' w'' ∧ Qu.Next (fp b pb ls cr Ff Fc) w F' w'')
  (fun w' k => lineOf_else (k.blk hp.blk (fun f => f)) hk) hr ?_ ?_).mono ?_
 ·intro w1 s c k hrow
  have hp1 := hp.old k
  refine (push_ok hp1.fr (p := p) (K := prI x) hp0 hp8 (x := ⟨x.f, s, c, x.q⟩) hs hc hl).mono ?_
  rintro e w2 ⟨rfl, Ff', hS, hN⟩
  have hy : Gd w0 w2 (own b pb Ff' Fc) ⟨x.f, s, c, x.q⟩ := gd_copy hs hr.2 h0 hrow hN.1 (fun i hi => (hp.fr.own i hi).2) (fun i hi => by
   rcases hi with e | e | e | e
   ·subst e; exact Or.inl hp.blk.lt
   ·subst e; exact Or.inl (Blk.lt hp.pace)
   ·exact (hN.2 i e).imp (fun e => (hp.fr.own i e).2) id
   ·exact Or.inl (hp.cq.own i e).2)
  have hm : ∀ k y, k < 8 → y ∈ upd ls p (ls p ++ [⟨x.f, s, c, x.q⟩]) k → (∃ j, j < 8 ∧ y ∈ ls j) ∨ y = ⟨x.f, s, c, x.q⟩ := fun k y hk hy' =>
   mem_upd (P := fun y => y = ⟨x.f, s, c, x.q⟩) hp8 (fun z hz => (List.mem_append.1 hz).imp id (fun h => List.mem_singleton.1 h)) hk hy'
  have h2 := hp1.turnF hS hN (fun k y hk hy' => (hm k y hk hy').imp id (fun e => by subst e; exact hy))
  refine ⟨0, rfl, ⟨rfl, s, c, _, ⟨qf, qc, pb, Ff', Fc, h2, rfl⟩, (k.mono (fun _ _ f => f.elim)).trans (hN.1.mono (fun i _ e => Or.inl (Or.inr (Or.inr (Or.inl e))))), fun i hi => ?_⟩, Ff, hN.1, fun i hi => (hp.fr.own i hi).2⟩
  refine fp_step (fun i hi => (hN.2 i hi).imp id (fun e => Nat.le_trans k.size e)) (fun i hi => Or.inl hi) (fun k y hk hy' => (hm k y hk hy').imp id (fun e => by subst e; exact fun g hg => (hrow.lt g hg).1)) (fun y hy' => Or.inl hy') hi
 ·rintro r w' ⟨rfl, s, c, F', h1, h2⟩
  exact ⟨rfl, s, c, F', h1.old (Kept.refl _ w').drew, h2.1.drew, h2.2⟩
 ·rintro e w' ⟨r, rfl, rfl, h⟩
  exact ⟨rfl, h⟩
theorem ppush_fn (h : PS w0 b room most trim ls cr now nxt F w) {x : Bx} (hr : Rd w x) (hs : Sane x) (hk : x.f.kind ≠ 11) (hc : room < tot ls 8 + szI (nb x)) :
  Calls Tryz.prog 85 #[.pointer (some ⟨b, 0, none⟩), bv x] w fun e w' => e = .returned (.bool false) ∧ Kept (fun _ => False) w w' := by
 obtain ⟨qf, qc, pb, Ff, Fc, hp, rfl⟩ := h
 have hpb := prI_bd x
 refine (push_of (q := qf) (p := prI x) (Post := fun r w'' => r = 4 ∧ Kept (fun _ => False) w w'') (fun w' k => lineOf_else (k.blk hp.blk (fun f => f)) hk) hr ?_ ?_).mono ?_
 ·intro w1 s c k hrow
  refine (push_full (hp.old k).fr (p := prI x) (by omega) (x := ⟨x.f, s, c, x.q⟩) hs hc).mono ?_
  rintro e w2 ⟨rfl, k2⟩
  exact ⟨4, rfl, ⟨rfl, k.trans k2⟩, fun _ => False, k2, fun _ f => f.elim⟩
 ·rintro r w' ⟨rfl, h⟩; exact ⟨rfl, h.drew⟩
 ·rintro e w' ⟨r, rfl, rfl, h⟩; exact ⟨rfl, h⟩
end Go.Proofs.YtpogpibjkolioaaGreat.Po

/- A port: Put. Conditions: each theorem's own. -/
namespace Go.Proofs.YtpogpibjkolioaaGreat.Po
open Go.RowKit Hp QuM QuN Rw Qu NumM NumC
attribute [local go_sem ↓] Go.wp_at_zero Go.wp_at_succ
variable {w0 w w' : World} {b qf qc pb : Nat} {room most : Int} {trim : Bool} {ls : Nat → List Bx} {cr : List Bx} {now nxt : Int} {Ff Fc F : Nat → Prop}
set_option maxRecDepth 100000 in
set_option maxHeartbeats 4000000 in
theorem put_q {x : Bx} {Post : World → Prop} (hP : ∀ w', Kept (fun _ => False) w w' → Calls Tryz.prog 85 #[.pointer (some ⟨b, 0, none⟩), bv x] w' fun e w'' => e = .returned (.bool true) ∧ Post w'') :
  Calls Tryz.prog 62 #[.pointer (some ⟨b, 0, none⟩), bv x] w fun e w' => e = .returned (.int .i64 1) ∧ Post w' := by
 have HP := Lib.hid hP
 obtain ⟨⟨x1, x2, x3, x4, x5, x6, x7, x8, x9, xd⟩, xa, xc, xq⟩ := x
 clear hP
 go_enter Tryz.func62, Tryz.ntmps62
 go_upto_block 0 with fail
 have hB := Blk.new w [.int .i64 x1, .int .i64 x2, .int .i64 x3, .int .i64 x4, .int .u64 (x5 : Int), .int .i64 x6, .int .i64 x7, .int .i64 x8, .int .i64 x9, .slice xa xd.length xc, .int .i64 xq] 83
 have hk1 := (Kept.refl (fun _ => False) w).alloc (.cells [.int .i64 x1, .int .i64 x2, .int .i64 x3, .int .i64 x4, .int .u64 (x5 : Int), .int .i64 x6, .int .i64 x7, .int .i64 x8, .int .i64 x9, .slice xa xd.length xc, .int .i64 xq].toArray 83)
 dsimp only [List.toArray] at hB hk1
 generalize w.alloc (.cells #[.int .i64 x1, .int .i64 x2, .int .i64 x3, .int .i64 x4, .int .u64 (x5 : Int), .int .i64 x6, .int .i64 x7, .int .i64 x8, .int .i64 x9, .slice xa xd.length xc, .int .i64 xq] 83) = w1 at *
 generalize w.heap.size = rb at *
 have HK := Lib.hid hk1
 clear hk1
 obtain ⟨c0, c1, c2, c3, c4, c5, c6, c7, c8, c9, c10⟩ := cs11 hB
 clear hB
 go_wp2_with fail
 with_reducible refine Calls.mono (HP.out _ HK.out) ?_
 rintro e w2 ⟨rfl, h2⟩
 have H2 := Lib.hid h2
 clear c0 c1 c2 c3 c4 c5 c6 c7 c8 c9 c10 h2 HK HP
 go_wp2_with fail
 go_ret
 exact ⟨rfl, H2.out⟩
set_option maxRecDepth 100000 in
set_option maxHeartbeats 4000000 in
theorem put_d {x : Bx} (hb : b < w.heap.size) (hP : ∀ w', Kept (fun _ => False) w w' → Calls Tryz.prog 85 #[.pointer (some ⟨b, 0, none⟩), bv x] w' fun e w'' => e = .returned (.bool false) ∧ Kept (fun _ => False) w' w'')
  (hc : w.cell? ⟨b, 0, none⟩ = some (.bool trim)) (ht : trim = false ∨ x.f.kind ≠ 1) :
  Calls Tryz.prog 62 #[.pointer (some ⟨b, 0, none⟩), bv x] w fun e w' => e = .returned (.int .i64 3) ∧ Kept (fun _ => False) w w' := by
 have HP := Lib.hid hP
 have C0 : Hid (∀ w', Kept (fun _ => False) w w' → w'.cell? ⟨b, 0, none⟩ = some (.bool trim)) := Lib.hid fun w' k => (Byt.keptAt k hb (fun f => f) 0).trans hc
 obtain ⟨⟨x1, x2, x3, x4, x5, x6, x7, x8, x9, xd⟩, xa, xc, xq⟩ := x
 clear hP hc
 have ht2 : trim = false ∨ (trim = true ∧ (x1 == 1) = false) := by
  rcases ht with h | h
  ·exact Or.inl h
  ·cases trim
   ·exact Or.inl rfl
   ·exact Or.inr ⟨rfl, by rw [beq_eq_false_iff_ne]; exact h⟩
 clear ht
 rcases ht2 with rfl | ⟨rfl, hk⟩
 all_goals
  go_enter Tryz.func62, Tryz.ntmps62
  go_upto_block 0 with fail
  have hB := Blk.new w [.int .i64 x1, .int .i64 x2, .int .i64 x3, .int .i64 x4, .int .u64 (x5 : Int), .int .i64 x6, .int .i64 x7, .int .i64 x8, .int .i64 x9, .slice xa xd.length xc, .int .i64 xq] 83
  have hk1 := (Kept.refl (fun _ => False) w).alloc (.cells [.int .i64 x1, .int .i64 x2, .int .i64 x3, .int .i64 x4, .int .u64 (x5 : Int), .int .i64 x6, .int .i64 x7, .int .i64 x8, .int .i64 x9, .slice xa xd.length xc, .int .i64 xq].toArray 83)
  dsimp only [List.toArray] at hB hk1
  generalize w.alloc (.cells #[.int .i64 x1, .int .i64 x2, .int .i64 x3, .int .i64 x4, .int .u64 (x5 : Int), .int .i64 x6, .int .i64 x7, .int .i64 x8, .int .i64 x9, .slice xa xd.length xc, .int .i64 xq] 83) = w1 at *
  generalize w.heap.size = rb at *
  have HK := Lib.hid hk1
  have HB := Lib.hid hB
  clear hk1
  obtain ⟨c0, c1, c2, c3, c4, c5, c6, c7, c8, c9, c10⟩ := cs11 hB
  clear hB
  go_wp2_with fail
  with_reducible refine Calls.mono (HP.out _ HK.out) ?_
  rintro e w2 ⟨rfl, hk2⟩
  have hB2 := hk2.blk HB.out (fun f => f)
  have HK2 := Lib.hid (HK.out.trans hk2)
  have t0 := C0.out _ HK2.out
  clear c0 c1 c2 c3 c4 c5 c6 c7 c8 c9 c10 hk2 HK HP HB C0
  have c0 := hB2.cell (o := 0) rfl
  clear hB2
  go_wp2_with fail
  go_ret
  exact ⟨rfl, HK2.out⟩
set_option maxRecDepth 100000 in
set_option maxHeartbeats 4000000 in
theorem put_t {x : Bx} {r : Bool} {Post : World → Prop} (hb : b < w.heap.size) (hP : ∀ w', Kept (fun _ => False) w w' → Calls Tryz.prog 85 #[.pointer (some ⟨b, 0, none⟩), bv x] w' fun e w'' => e = .returned (.bool false) ∧ Kept (fun _ => False) w' w'')
  (hT : ∀ w', Kept (fun _ => False) w w' → Calls Tryz.prog 85 #[.pointer (some ⟨b, 0, none⟩), bv (trX x)] w' fun e w'' => e = .returned (.bool r) ∧ Post w'')
  (hc : w.cell? ⟨b, 0, none⟩ = some (.bool true)) (hk : x.f.kind = 1) :
  Calls Tryz.prog 62 #[.pointer (some ⟨b, 0, none⟩), bv x] w fun e w' => e = .returned (.int .i64 (if r then 2 else 3)) ∧ Post w' := by
 have HP := Lib.hid hP
 have HT := Lib.hid hT
 have TR := Lib.hid fun (w' : World) => trimmed_any (w := w') x
 have C0 : Hid (∀ w', Kept (fun _ => False) w w' → w'.cell? ⟨b, 0, none⟩ = some (.bool true)) := Lib.hid fun w' k => (Byt.keptAt k hb (fun f => f) 0).trans hc
 generalize trX x = y at *
 obtain ⟨⟨x1, x2, x3, x4, x5, x6, x7, x8, x9, xd⟩, xa, xc, xq⟩ := x
 dsimp only at hk
 subst hk
 clear hP hT hc
 obtain ⟨vy, hvy⟩ : ∃ vy, bv y = vy := ⟨_, rfl⟩
 rw [hvy] at TR HT
 clear hvy
 cases r
 all_goals
  go_enter Tryz.func62, Tryz.ntmps62
  go_upto_block 0 with fail
  have hB := Blk.new w [.int .i64 1, .int .i64 x2, .int .i64 x3, .int .i64 x4, .int .u64 (x5 : Int), .int .i64 x6, .int .i64 x7, .int .i64 x8, .int .i64 x9, .slice xa xd.length xc, .int .i64 xq] 83
  have hk1 := (Kept.refl (fun _ => False) w).alloc (.cells [.int .i64 1, .int .i64 x2, .int .i64 x3, .int .i64 x4, .int .u64 (x5 : Int), .int .i64 x6, .int .i64 x7, .int .i64 x8, .int .i64 x9, .slice xa xd.length xc, .int .i64 xq].toArray 83)
  dsimp only [List.toArray] at hB hk1
  generalize w.alloc (.cells #[.int .i64 1, .int .i64 x2, .int .i64 x3, .int .i64 x4, .int .u64 (x5 : Int), .int .i64 x6, .int .i64 x7, .int .i64 x8, .int .i64 x9, .slice xa xd.length xc, .int .i64 xq] 83) = w1 at *
  generalize w.heap.size = rb at *
  have HK := Lib.hid hk1
  have HB := Lib.hid hB
  clear hk1
  obtain ⟨c0, c1, c2, c3, c4, c5, c6, c7, c8, c9, c10⟩ := cs11 hB
  clear hB
  go_wp2_with fail
  with_reducible refine Calls.mono (HP.out _ HK.out) ?_
  rintro e w2 ⟨rfl, hk2⟩
  have hB2 := hk2.blk HB.out (fun f => f)
  have HK2 := Lib.hid (HK.out.trans hk2)
  have t0 := C0.out _ HK2.out
  clear c0 c1 c2 c3 c4 c5 c6 c7 c8 c9 c10 hk2 HK HP HB C0
  obtain ⟨c0, c1, c2, c3, c4, c5, c6, c7, c8, c9, c10⟩ := cs11 hB2
  clear hB2
  go_wp2_with fail
  with_reducible refine Calls.mono (TR.out _) ?_
  rintro e w3 ⟨rfl, hk3⟩
  have HK3 := Lib.hid (HK2.out.trans hk3)
  clear hk3 HK2 TR
  go_wp2_with fail
  with_reducible refine Calls.mono (HT.out _ HK3.out) ?_
  rintro e w4 ⟨rfl, h4⟩
  have H4 := Lib.hid h4
  clear h4 HT HK3
  go_wp2_with fail
  go_ret
  exact ⟨rfl, H4.out⟩
theorem sane_tr (x : Bx) : Sane (trX x) := by
 show 0 ≤ (if (7 : Int) = 1 then x.f.len else 0) ∧ (if (7 : Int) = 1 then x.f.len else 0) ≤ 1000000
 rw [if_neg (by decide)]
 decide
theorem nb_tr (x : Bx) : szI (nb (trX x)) = 26 := by
 show min (max (26 + (if (7 : Int) = 1 then x.f.len else 0)) 0) 1073741824 = 26
 rw [if_neg (by decide)]
 decide
theorem rd_tr (w : World) (x : Bx) : Rd w (trX x) := ⟨⟨none, 0, rfl, Nat.le_refl _, Or.inl rfl, fun _ => rfl⟩, by show (0 : Nat) ≤ _; decide⟩
theorem prI_tr (x : Bx) : prI (trX x) = 7 := by unfold prI trX; rfl
theorem put_cy (h : PS w0 b room most trim ls cr now nxt F w) {x : Bx} (hr : Rd w x) (hs : Sane x) (hk : x.f.kind = 11) (hc : (cr.length : Int) < most) (hl : cr.length < 100000) :
  Calls Tryz.prog 62 #[.pointer (some ⟨b, 0, none⟩), bv x] w fun e w' => e = .returned (.int .i64 1) ∧ ∃ s c F', PS w0 b room most trim ls (cr ++ [⟨x.f, s, c, x.q⟩]) now nxt F' w' ∧ Qu.Next F w F' w' :=
 put_q fun w1 k => (ppush_cy (h.old k) (hr.old k) hs hk hc hl).mono fun e w2 ⟨e1, s, c, F', h1, h2⟩ => ⟨e1, s, c, F', h1, next_in k h2⟩
theorem PS.cell0 (h : PS w0 b room most trim ls cr now nxt F w) : b < w.heap.size ∧ w.cell? ⟨b, 0, none⟩ = some (.bool trim) := by
 obtain ⟨qf, qc, pb, Ff, Fc, hp, rfl⟩ := h
 exact ⟨hp.blk.lt, hp.blk.cell (o := 0) rfl⟩
theorem put_cn (h : PS w0 b room most trim ls cr now nxt F w) {x : Bx} (hr : Rd w x) (hs : Sane x) (hk : x.f.kind = 11) (hc : most ≤ (cr.length : Int)) :
  Calls Tryz.prog 62 #[.pointer (some ⟨b, 0, none⟩), bv x] w fun e w' => e = .returned (.int .i64 3) ∧ Kept (fun _ => False) w w' :=
 put_d h.cell0.1 (fun w1 k => ppush_cn (h.old k) (hr.old k) hs hk hc) h.cell0.2 (Or.inr (by rw [hk]; decide))
end Go.Proofs.YtpogpibjkolioaaGreat.Po

/- A port: made, its time and its pacer set, how much it holds. Conditions: each theorem's own. -/
namespace Go.Proofs.YtpogpibjkolioaaGreat.Po
open Go.RowKit Hp QuM QuN Rw Qu NumM NumC
attribute [local go_sem ↓] Go.wp_at_zero Go.wp_at_succ
variable {w0 w w' : World} {b qf qc pb : Nat} {room most : Int} {trim : Bool} {ls : Nat → List Bx} {cr : List Bx} {now nxt : Int} {Ff Fc F : Nat → Prop}
theorem st_base {w1 : World} {q : Nat} {r : Int} (h : St w1 q r ls F w) (k : Kept (fun _ => False) w0 w1) : St w0 q r ls F w := by
 obtain ⟨h0, hr, c, vs, fs, h1, h2, h3, h4⟩ := h
 exact ⟨k.trans h0, hr, c, vs, fs, h1, h2, h3, fun i hi => ⟨Nat.le_trans k.size (h4 i hi).1, (h4 i hi).2⟩⟩
theorem Prt.setNow (h : Prt w0 b qf qc pb room most trim ls cr now nxt Ff Fc w) {m : Int} (hm : 0 ≤ m ∧ m ≤ 1125899906842624) : Prt w0 b qf qc pb room most trim ls cr m nxt Ff Fc (w.setCell ⟨b, 4, none⟩ (.int .i64 m)) := by
 have k := Kept.one w b 4 (.int .i64 m)
 have hlow := h.low.1
 exact { h with
  blk := h.blk.set 4 (.int .i64 m)
  pace := k.blk h.pace (fun e => h.npf.2.2 e.symm)
  fr := h.fr.far k (fun i e f => h.nbf.1 (e ▸ f)) (fun i e => e ▸ hlow)
  cq := h.cq.far k (fun i e f => h.nbf.2 (e ▸ f)) (fun i e => e ▸ hlow)
  nw := ⟨hm.1, hm.2, h.nw.2.2⟩
  gf := fun j x hj hx => (h.gf j x hj hx).kept k (fun g e f => (h.gf j x hj hx).2.2.2 g e (Or.inl f))
  gc := fun x hx => (h.gc x hx).kept k (fun g e f => (h.gc x hx).2.2.2 g e (Or.inl f)) }
theorem Prt.setPace (h : Prt w0 b qf qc pb room most trim ls cr now nxt Ff Fc w) {v : Int} (hv : 0 ≤ v) (hP : Pc.PP w' pb 4 v) (k : Kept (fun i => i = pb) w w') : Prt w0 b qf qc pb room most trim ls cr now v Ff Fc w' := by
 have hlow := h.low.2
 exact { h with
  blk := k.blk h.blk (fun e => h.npf.2.2 e)
  pace := hP
  fr := h.fr.far k (fun i e f => h.npf.1 (e ▸ f)) (fun i e => e ▸ hlow)
  cq := h.cq.far k (fun i e f => h.npf.2.1 (e ▸ f)) (fun i e => e ▸ hlow)
  nw := ⟨h.nw.1, h.nw.2.1, hv⟩
  gf := fun j x hj hx => (h.gf j x hj hx).kept k (fun g e f => (h.gf j x hj hx).2.2.2 g e (Or.inr (Or.inl f)))
  gc := fun x hx => (h.gc x hx).kept k (fun g e f => (h.gc x hx).2.2.2 g e (Or.inr (Or.inl f))) }
set_option maxRecDepth 100000 in
set_option maxHeartbeats 4000000 in
theorem pnew_yes {room most : Int} (h0 : 0 ≤ room) (h1 : room ≤ 1073741824) (h2 : 0 ≤ most) (h3 : most ≤ 1073741824) (trim : Bool) (w : World) :
  Calls Tryz.prog 27 #[.int .i64 room, .int .i64 most, .bool trim] w fun e w' => ∃ b F, e = .returned (.tuple #[.pointer (some ⟨b, 0, none⟩), .int .i64 0]) ∧ PS w b room most trim (fun _ => []) [] 0 0 F w' ∧ ∀ i, F i → w.heap.size ≤ i := by
 have NQ := Lib.hid fun w => new_yes (room := room) h0 (by omega) w
 have NC := Lib.hid fun w => new_yes (room := most * 26) (by omega) (by omega) w
 have NP := Lib.hid fun w => Pc.newP_yes (v := 4) ⟨by decide, by decide⟩ w
 have hw1 : IntKind.i64.wrap (most * 26) = most * 26 := by rw [IntKind.wrap_i64]; omega
 have g0 : decide (room < 0) = false := by rw [decide_eq_false_iff_not]; omega
 have g1 : decide (1073741824 < room) = false := by rw [decide_eq_false_iff_not]; omega
 have g2 : decide (most < 0) = false := by rw [decide_eq_false_iff_not]; omega
 have g3 : decide (1073741824 < most) = false := by rw [decide_eq_false_iff_not]; omega
 have LM := Lib.hid (And.intro h1 (And.intro h2 h3))
 go_enter Tryz.func27, Tryz.ntmps27
 go_upto_region 4 with fail
 have hB := Blk.new w [.bool trim, .pointer none, .pointer none, .pointer none, .int .i64 0] tP
 have hk1 := (Kept.refl (fun _ => False) w).alloc (.cells [.bool trim, .pointer none, .pointer none, .pointer none, .int .i64 0].toArray tP)
 dsimp only [List.toArray] at hB hk1
 generalize w.alloc (.cells #[.bool trim, .pointer none, .pointer none, .pointer none, .int .i64 0] 112) = w1 at *
 obtain ⟨b, hb⟩ : ∃ b, w.heap.size = b := ⟨_, rfl⟩
 rw [hb] at hB
 simp only [hb]
 have HBe := Lib.hid hb
 have HB := Lib.hid hB
 have HK := Lib.hid hk1
 clear hb hB hk1
 go_wp2_with fail
 with_reducible refine Calls.mono (NQ.out _) ?_
 rintro e w2 ⟨qf, Ff, rfl, hS, hF⟩
 have hB2 := hS.1.blk HB.out (fun f => f)
 have d1 := hB2.cell (o := 1) rfl
 have f1 := hB2.frozen 1
 have hlt := HB.out.lt
 have HSq : Hid (St w qf room (fun _ => []) Ff (w2.setCell ⟨b, 1, none⟩ (.pointer (some ⟨qf, 0, none⟩)))) := Lib.hid ((st_base hS HK.out).far (Kept.one w2 b 1 _) (fun i e f => by have := hF i f; subst e; omega) (fun i e => by have := HBe.out; omega))
 have hB3 := hB2.set 1 (.pointer (some ⟨qf, 0, none⟩))
 dsimp only [List.set] at hB3
 have HF : Hid (∀ i, Ff i → b < i) := Lib.hid fun i f => by have := hF i f; omega
 have HB3 := Lib.hid hB3
 clear hS hF hB2 hB3 HB HK NQ
 go_upto_region 5 with fail
 generalize w2.setCell ⟨b, 1, none⟩ (.pointer (some ⟨qf, 0, none⟩)) = w3 at *
 clear d1 f1
 go_wp2_with fail
 with_reducible refine Calls.mono (NC.out _) ?_
 rintro e w4 ⟨qc, Fc, rfl, hS, hF⟩
 have hB4 := hS.1.blk HB3.out (fun f => f)
 have d2 := hB4.cell (o := 2) rfl
 have f2 := hB4.frozen 2
 have HSq4 := Lib.hid ((HSq.out.old hS.1).far (Kept.one w4 b 2 (.pointer (some ⟨qc, 0, none⟩))) (fun i e f => by have := HF.out i f; omega) (fun i e => by have := HBe.out; omega))
 have HSc4 : Hid (St w qc (most * 26) (fun _ => []) Fc (w4.setCell ⟨b, 2, none⟩ (.pointer (some ⟨qc, 0, none⟩)))) := Lib.hid ((st_base hS HSq.out.1).far (Kept.one w4 b 2 _) (fun i e f => by have := hF i f; have := HB3.out.lt; omega) (fun i e => by have := HBe.out; omega))
 have HC : Hid (∀ i, Fc i → b < i ∧ ¬ Ff i) := Lib.hid fun i f => ⟨by have := hF i f; have := HB3.out.lt; omega, fun g => by have := hF i f; have := (HSq.out.own i g).2; omega⟩
 have hB5 := hB4.set 2 (.pointer (some ⟨qc, 0, none⟩))
 dsimp only [List.set] at hB5
 have HB5 := Lib.hid hB5
 clear hS hF hB4 hB5 HB3 NC HSq
 go_upto_region 6 with fail
 generalize w4.setCell ⟨b, 2, none⟩ (.pointer (some ⟨qc, 0, none⟩)) = w5 at *
 clear d2 f2
 go_wp2_with fail
 with_reducible refine Calls.mono (NP.out _) ?_
 rintro e w6 ⟨pb, rfl, hP, hk, hpb⟩
 have hB6 := hk.blk HB5.out (fun f => f)
 have d3 := hB6.cell (o := 3) rfl
 have f3 := hB6.frozen 3
 have k7 := Kept.one w6 b 3 (.pointer (some ⟨pb, 0, none⟩))
 have hbl := HB5.out.lt
 have R : Hid (PS w b room most trim (fun _ => []) [] 0 0 (fp b pb (fun _ => []) [] Ff Fc) (w6.setCell ⟨b, 3, none⟩ (.pointer (some ⟨pb, 0, none⟩))) ∧ ∀ i, fp b pb (fun _ => []) [] Ff Fc i → w.heap.size ≤ i) := by
  have hf7 := (HSq4.out.old hk).far k7 (fun i e f => by have := HF.out i f; omega) (fun i e => by have := HBe.out; omega)
  have hc7 := (HSc4.out.old hk).far k7 (fun i e f => by have := (HC.out i f).1; omega) (fun i e => by have := HBe.out; omega)
  have e0 : (crl [] : Nat → List Bx) = fun _ => [] := by funext j; by_cases e : j = 0 <;> simp [crl, upd, e]
  have hp : Prt w b qf qc pb room most trim (fun _ => []) [] 0 0 Ff Fc (w6.setCell ⟨b, 3, none⟩ (.pointer (some ⟨pb, 0, none⟩))) :=
   ⟨hB6.set 3 _, k7.blk hP (fun e => by omega), hf7, by rw [e0]; exact hc7, fun i f c => (HC.out i c).2 f, ⟨fun f => by have := HF.out b f; omega, fun f => by have := (HC.out b f).1; omega⟩,
    ⟨fun f => by have := (HSq4.out.own pb f).2; omega, fun f => by have := (HSc4.out.own pb f).2; omega, by omega⟩, ⟨by have := HBe.out; omega, by have := HBe.out; omega⟩, ⟨LM.out.2.1, LM.out.2.2, LM.out.1⟩, fun x hx => (by cases hx), ⟨by decide, by decide, by decide⟩, fun k x hk hx => (by cases hx), fun x hx => (by cases hx)⟩
  exact Lib.hid ⟨⟨qf, qc, pb, Ff, Fc, hp, rfl⟩, fun i hi => (hp.bound hi).1⟩
 clear hP hk hpb hB6 k7 HSq4 HSc4 HB5 NP
 go_wp2_with fail
 exact bodyPost_ret (v := .tuple #[.pointer (some ⟨b, 0, none⟩), .int .i64 0]) (by simp [results, Tryz.results27, go_sem]) rfl ⟨b, _, rfl, R.out⟩
end Go.Proofs.YtpogpibjkolioaaGreat.Po

