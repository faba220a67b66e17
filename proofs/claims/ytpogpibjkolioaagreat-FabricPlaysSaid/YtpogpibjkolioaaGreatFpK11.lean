/- A port's Take, told so that what it writes is apart from the data. Conditions: each theorem's own. -/
import Derived.Test.YtpogpibjkolioaaGreatFpK10
set_option linter.unusedVariables false
set_option linter.unusedSimpArgs false
namespace Go.Proofs.YtpogpibjkolioaaGreat.Fo
open Go.RowKit Hp QuM QuN Rw Qu NumM NumC Po
attribute [local go_sem ↓] Go.wp_at_zero Go.wp_at_succ
variable {w0 w w' : World} {b qf qc pb : Nat} {room most : Int} {trim : Bool} {ls : Nat → List Bx} {cr : List Bx} {now nxt : Int} {Ff Fc F : Nat → Prop}
theorem take_end {w3 w4 : World} {ls' : Nat → List Bx} {cr' : List Bx} {m nxt' : Int} {Ff' Fc' G : Nat → Prop} (hp : Prt w0 b qf qc pb room most trim ls cr now nxt Ff Fc w) (k3 : Kept (fun i => i = b ∨ i = pb) w w3) (h3 : w.heap.size < w3.heap.size)
  (h4 : Prt w0 b qf qc pb room most trim ls' cr' m nxt' Ff' Fc' w4) (kG : Kept G w3 w4) (hG : ∀ i, G i → own b pb Ff Fc i) (hnew : ∀ i, fp b pb ls' cr' Ff' Fc' i → fp b pb ls cr Ff Fc i ∨ w3.heap.size ≤ i) (hown : ∀ i, own b pb Ff' Fc' i → own b pb Ff Fc i ∨ w3.heap.size ≤ i) (k5 : Kept (fun i => i = w.heap.size) w4 w') :
  ∃ F', PO w0 b room most trim ls' cr' m nxt' F' w' ∧ Qu.Next (own b pb Ff Fc) w F' w' := by
 have hs := hp.fr.1.size
 refine ⟨_, ⟨qf, qc, pb, Ff', Fc', h4.far k5 (fun i e f => ?_) (fun i e => by omega), rfl⟩, ?_, fun i hi => (hown i hi).imp id (fun e => by omega)⟩
 ·rcases hnew i f with h | h
  ·have := (hp.bound h).2; omega
  ·omega
 ·refine ((k3.mono (fun i _ e => ?_)).trans (kG.mono (fun i _ e => hG i e))).trans' k5 (fun i hi e => by omega)
  rcases e with e | e
  ·exact Or.inl e
  ·exact Or.inr (Or.inl e)
theorem take_frame (h : PO w0 b room most trim ls cr now nxt F w) {t m : Int} (hmt : clampI t now 1125899906842624 = m) (hm : cr = [] ∨ (0 < cr.length ∧ cr.length ≤ 1000000 ∧ m < nxt)) {p : Nat} {x : Bx} {R : List Bx} (ht : top ls 8 = some p) (hx : ls p = x :: R) (hl : (ls p).length ≤ 100000) :
  Calls Tryz.prog 38 #[.pointer (some ⟨b, 0, none⟩), .int .i64 t] w fun e w' => e = .returned (.tuple #[bv x, .bool true]) ∧ Byt.Row w' w0.heap.size (.slice x.s x.f.data.length x.c) x.f.data ∧ ∃ F', PO w0 b room most trim (upd ls p R) cr m nxt F' w' ∧ Qu.Next F w F' w' := by
 obtain ⟨qf, qc, pb, Ff, Fc, hp, rfl⟩ := h
 have hp8 : p < 8 := (top_some ht).1
 have hmem : x ∈ ls p := by rw [hx]; exact List.mem_cons_self
 have hPop : ∀ w3, Prt w0 b qf qc pb room most trim ls cr m nxt Ff Fc w3 → w.heap.size < w3.heap.size → Calls Tryz.prog 69 #[.pointer (some ⟨qf, 0, none⟩)] w3 fun e w4 => ∃ x' p' ok, e = .returned (.tuple #[bv x', .int .i64 p', .bool ok]) ∧
   (x' = x ∧ ok = true ∧ ∃ Ff', Prt w0 b qf qc pb room most trim (upd ls p R) cr m nxt Ff' Fc w4 ∧ Qu.Next Ff w3 Ff' w4) ∧ ∃ G : Nat → Prop, Kept G w3 w4 ∧ ∀ i, G i → i < w.heap.size := by
  intro w3 h3 _
  refine (pop_some h3.fr ht hx hl).mono ?_
  rintro e w4 ⟨rfl, Ff', hS, hN⟩
  exact ⟨x, _, true, rfl, ⟨rfl, rfl, Ff', h3.turnF hS hN (fun k y hk hy => (mem_upd (ls := ls) (P := fun _ => False) hp8 (fun z hz => Or.inl (by rw [hx]; exact List.mem_cons_of_mem _ hz)) hk hy).imp id (fun f => f.elim)), hN⟩, Ff, hN.1, fun i hi => (hp.fr.own i hi).2⟩
 have fin : ∀ e w', (∃ x' ok w3 w4, e = Ending.returned (.tuple #[bv x', .bool ok]) ∧ Kept (fun i => i = b ∨ i = pb) w w3 ∧ w.heap.size < w3.heap.size ∧ Prt w0 b qf qc pb room most trim ls cr m nxt Ff Fc w3 ∧ (x' = x ∧ ok = true ∧ ∃ Ff', Prt w0 b qf qc pb room most trim (upd ls p R) cr m nxt Ff' Fc w4 ∧ Qu.Next Ff w3 Ff' w4) ∧ Kept (fun i => i = w.heap.size) w4 w') →
   e = .returned (.tuple #[bv x, .bool true]) ∧ Byt.Row w' w0.heap.size (.slice x.s x.f.data.length x.c) x.f.data ∧ ∃ F', PO w0 b room most trim (upd ls p R) cr m nxt F' w' ∧ Qu.Next (own b pb Ff Fc) w F' w' := by
  rintro e w' ⟨x', ok, w3, w4, rfl, k3, hs3, h3, ⟨rfl, rfl, Ff', h4, hN⟩, k5⟩
  have hg3 := h3.gf p x' hp8 hmem
  refine ⟨rfl, row_end (hp.gf p x' hp8 hmem) hg3 hN.1 (fun g hg f => hg3.2.2.2 g hg (Or.inr (Or.inr (Or.inl f)))) k5, ?_⟩
  refine take_end hp k3 hs3 h4 hN.1 (fun i f => Or.inr (Or.inr (Or.inl f))) (fun i hi => ?_) (fun i hi => own_step hN.2 (fun i f => Or.inl f) hi) k5
  exact fp_step hN.2 (fun i f => Or.inl f) (fun k y hk hy => (mem_upd (ls := ls) (P := fun _ => False) hp8 (fun z hz => Or.inl (by rw [hx]; exact List.mem_cons_of_mem _ hz)) hk hy).imp id (fun f => f.elim)) (fun y hy => Or.inl hy) hi
 rcases hm with hcr | ⟨hc0, hc1, hm⟩
 ·exact (take_off hp hmt hcr (Post := fun x' ok w3 w4 => x' = x ∧ ok = true ∧ ∃ Ff', Prt w0 b qf qc pb room most trim (upd ls p R) cr m nxt Ff' Fc w4 ∧ Qu.Next Ff w3 Ff' w4) hPop).mono fin
 ·exact (take_no hp hmt hc0 hc1 hm (Post := fun x' ok w3 w4 => x' = x ∧ ok = true ∧ ∃ Ff', Prt w0 b qf qc pb room most trim (upd ls p R) cr m nxt Ff' Fc w4 ∧ Qu.Next Ff w3 Ff' w4) hPop).mono fin
theorem take_empty (h : PO w0 b room most trim ls cr now nxt F w) {t m : Int} (hmt : clampI t now 1125899906842624 = m) (hm : cr = [] ∨ (0 < cr.length ∧ cr.length ≤ 1000000 ∧ m < nxt)) (ht : top ls 8 = none) :
  Calls Tryz.prog 38 #[.pointer (some ⟨b, 0, none⟩), .int .i64 t] w fun e w' => e = .returned (.tuple #[bv zB, .bool false]) ∧ ∃ F', PO w0 b room most trim ls cr m nxt F' w' ∧ Qu.Next F w F' w' := by
 obtain ⟨qf, qc, pb, Ff, Fc, hp, rfl⟩ := h
 have hPop : ∀ w3, Prt w0 b qf qc pb room most trim ls cr m nxt Ff Fc w3 → w.heap.size < w3.heap.size → Calls Tryz.prog 69 #[.pointer (some ⟨qf, 0, none⟩)] w3 fun e w4 => ∃ x' p' ok, e = .returned (.tuple #[bv x', .int .i64 p', .bool ok]) ∧
   (x' = zB ∧ ok = false ∧ Kept (fun _ => False) w3 w4) ∧ ∃ G : Nat → Prop, Kept G w3 w4 ∧ ∀ i, G i → i < w.heap.size := by
  intro w3 h3 _
  refine (pop_none h3.fr ht).mono ?_
  rintro e w4 ⟨rfl, hk⟩
  exact ⟨zB, _, false, rfl, ⟨rfl, rfl, hk⟩, fun _ => False, hk, fun _ f => f.elim⟩
 have fin : ∀ e w', (∃ x' ok w3 w4, e = Ending.returned (.tuple #[bv x', .bool ok]) ∧ Kept (fun i => i = b ∨ i = pb) w w3 ∧ w.heap.size < w3.heap.size ∧ Prt w0 b qf qc pb room most trim ls cr m nxt Ff Fc w3 ∧ (x' = zB ∧ ok = false ∧ Kept (fun _ => False) w3 w4) ∧ Kept (fun i => i = w.heap.size) w4 w') →
   e = .returned (.tuple #[bv zB, .bool false]) ∧ ∃ F', PO w0 b room most trim ls cr m nxt F' w' ∧ Qu.Next (own b pb Ff Fc) w F' w' := by
  rintro e w' ⟨x', ok, w3, w4, rfl, k3, hs3, h3, ⟨rfl, rfl, hk⟩, k5⟩
  exact ⟨rfl, take_end hp k3 hs3 (h3.old hk) hk (fun i f => f.elim) (fun i hi => Or.inl hi) (fun i hi => Or.inl hi) k5⟩
 rcases hm with hcr | ⟨hc0, hc1, hm⟩
 ·exact (take_off hp hmt hcr (Post := fun x' ok w3 w4 => x' = zB ∧ ok = false ∧ Kept (fun _ => False) w3 w4) hPop).mono fin
 ·exact (take_no hp hmt hc0 hc1 hm (Post := fun x' ok w3 w4 => x' = zB ∧ ok = false ∧ Kept (fun _ => False) w3 w4) hPop).mono fin
theorem top_crl (x : Bx) (R : List Bx) : top (crl (x :: R)) 8 = some 0 := by
 simp [top, crl, upd]
theorem take_credit {x : Bx} {R : List Bx} (h : PO w0 b room most trim ls (x :: R) now nxt F w) {t m : Int} (hmt : clampI t now 1125899906842624 = m) (hl : (x :: R).length ≤ 100000) (hm : nxt ≤ m) :
  Calls Tryz.prog 38 #[.pointer (some ⟨b, 0, none⟩), .int .i64 t] w fun e w' => e = .returned (.tuple #[bv x, .bool true]) ∧ Byt.Row w' w0.heap.size (.slice x.s x.f.data.length x.c) x.f.data ∧ ∃ F', PO w0 b room most trim ls R m (m + 4) F' w' ∧ Qu.Next F w F' w' := by
 obtain ⟨qf, qc, pb, Ff, Fc, hp, rfl⟩ := h
 have hmem : x ∈ x :: R := List.mem_cons_self
 have hPop : ∀ w3, Prt w0 b qf qc pb room most trim ls (x :: R) m (m + 4) Ff Fc w3 → w.heap.size < w3.heap.size → Calls Tryz.prog 69 #[.pointer (some ⟨qc, 0, none⟩)] w3 fun e w4 => ∃ x' p' ok, e = .returned (.tuple #[bv x', .int .i64 p', .bool ok]) ∧
   (x' = x ∧ ok = true ∧ ∃ Fc', Prt w0 b qf qc pb room most trim ls R m (m + 4) Ff Fc' w4 ∧ Qu.Next Fc w3 Fc' w4) ∧ ∃ G : Nat → Prop, Kept G w3 w4 ∧ ∀ i, G i → i < w.heap.size := by
  intro w3 h3 _
  refine (pop_some h3.cq (top_crl x R) (x := x) (L' := R) (upd_self _ _ _) (by rw [show crl (x :: R) 0 = x :: R from upd_self _ _ _]; exact hl)).mono ?_
  rintro e w4 ⟨rfl, Fc', hS, hN⟩
  rw [show upd (crl (x :: R)) 0 R = crl R from upd_upd _ _ _ _] at hS
  exact ⟨x, _, true, rfl, ⟨rfl, rfl, Fc', h3.turnC hS hN (fun y hy => hp.kinds y (List.mem_cons_of_mem _ hy)) (fun y hy => Or.inl (List.mem_cons_of_mem _ hy)), hN⟩, Fc, hN.1, fun i hi => (hp.cq.own i hi).2⟩
 refine (take_go hp hmt (Nat.zero_lt_succ _) (Nat.le_trans hl (by decide)) hm (Post := fun x' ok w3 w4 => x' = x ∧ ok = true ∧ ∃ Fc', Prt w0 b qf qc pb room most trim ls R m (m + 4) Ff Fc' w4 ∧ Qu.Next Fc w3 Fc' w4) hPop).mono ?_
 rintro e w' ⟨x', ok, w3, w4, rfl, k3, hs3, h3, ⟨rfl, rfl, Fc', h4, hN⟩, k5⟩
 have hg3 := h3.gc x' hmem
 refine ⟨rfl, row_end (hp.gc x' hmem) hg3 hN.1 (fun g hg f => hg3.2.2.2 g hg (Or.inr (Or.inr (Or.inr f)))) k5, ?_⟩
 refine take_end hp k3 hs3 h4 hN.1 (fun i f => Or.inr (Or.inr (Or.inr f))) (fun i hi => ?_) (fun i hi => own_step (fun i f => Or.inl f) hN.2 hi) k5
 exact fp_step (fun i f => Or.inl f) hN.2 (fun k y hk hy => Or.inl ⟨k, hk, hy⟩) (fun y hy => Or.inl (List.mem_cons_of_mem _ hy)) hi
end Go.Proofs.YtpogpibjkolioaaGreat.Fo

/- A port: Drop and Double, walked. Conditions: each theorem's own. -/
namespace Go.Proofs.YtpogpibjkolioaaGreat.Po
open Go.RowKit Hp QuM QuN Rw Qu NumM NumC
attribute [local go_sem ↓] Go.wp_at_zero Go.wp_at_succ
variable {w0 w w' : World} {b qf qc pb : Nat} {room most : Int} {trim : Bool} {ls : Nat → List Bx} {cr : List Bx} {now nxt : Int} {Ff Fc F : Nat → Prop}
theorem find_out (h : PS w0 b room most trim ls cr now nxt F w) {k : Int} (hk : k < 0 ∨ ((accL ls cr 9).length : Int) ≤ k) (hk2 : k ≤ 9223372036854775807) (hn : (accL ls cr 9).length ≤ 100000) :
  Calls Tryz.prog 77 #[.pointer (some ⟨b, 0, none⟩), .int .i64 k] w fun e w' => e = .returned (.tuple #[lz, .int .i64 0, .bool false]) ∧ Kept (fun _ => False) w w' := by
 rcases Int.lt_or_le k 0 with h0 | h0
 ·exact find_neg h0 w
 ·obtain ⟨k, rfl⟩ := Int.eq_ofNat_of_zero_le h0
  obtain ⟨qf, qc, pb, Ff, Fc, hp, rfl⟩ := h
  refine (find_any hp (by omega) hn).mono ?_
  rintro e w' ⟨v, rfl, hF, hk3⟩
  rcases hF with ⟨i, at_, hi, h1, h2, rfl⟩ | ⟨_, rfl⟩
  ·exfalso
   have h3 := acc_le (ls := ls) (cr := cr) (n := i + 1) (m := 9) (by omega)
   rw [acc_succ] at h3
   omega
  ·exact ⟨rfl, hk3⟩
def DropP (w0 : World) (b : Nat) (room most : Int) (trim : Bool) (ls : Nat → List Bx) (cr : List Bx) (now nxt : Int) (F : Nat → Prop) (w : World) (k : Nat) (x : Bx) (w' : World) : Prop :=
 ∃ i at_ F', i < 9 ∧ at_ < (lnl ls cr i).length ∧ (accL ls cr i).length + at_ = k ∧ (lnl ls cr i)[at_]? = some x ∧ PS w0 b room most trim (lsE ls i at_) (crE cr i at_) now nxt F' w' ∧ Qu.Next F w F' w'
set_option maxRecDepth 100000 in
set_option maxHeartbeats 8000000 in
theorem standing_yes (hp : Prt w0 b qf qc pb room most trim ls cr now nxt Ff Fc w) {k : Nat} {x : Bx} (hx : (accL ls cr 9)[k]? = some x) (hn : (accL ls cr 9).length ≤ 100000) :
  Calls Tryz.prog 80 #[.pointer (some ⟨b, 0, none⟩), .int .i64 (k : Nat)] w fun e w' => e = .returned (.tuple #[bv x, .bool true]) ∧ Kept (fun _ => False) w w' := by
 have hkl := (List.getElem?_eq_some_iff.1 hx).1
 have HP := Lib.hid hp
 have FD := Lib.hid fun (w' : World) (kk : Kept (fun _ => False) w w') => find_any (hp.old kk) (k := k) (by omega) hn
 have HX := Lib.hid hx
 have HN := Lib.hid hn
 have HKL := Lib.hid hkl
 clear hp hx hn hkl
 go_enter Tryz.func80, Tryz.ntmps80
 go_upto_region 1 with fail
 have hO := Blk.new w [.int .i64 0, .int .i64 0, .int .i64 0, .int .i64 0, .int .u64 0, .int .i64 0, .int .i64 0, .int .i64 0, .int .i64 0, .slice none 0 0, .int .i64 0] 83
 have hk1 := (Kept.refl (fun _ => False) w).alloc (.cells [.int .i64 0, .int .i64 0, .int .i64 0, .int .i64 0, .int .u64 0, .int .i64 0, .int .i64 0, .int .i64 0, .int .i64 0, .slice none 0 0, .int .i64 0].toArray 83)
 dsimp only [List.toArray] at hO hk1
 generalize w.alloc (.cells #[.int .i64 0, .int .i64 0, .int .i64 0, .int .i64 0, .int .u64 0, .int .i64 0, .int .i64 0, .int .i64 0, .int .i64 0, .slice none 0 0, .int .i64 0] 83) = w1 at *
 obtain ⟨rb, hrb⟩ : ∃ rb, w.heap.size = rb := ⟨_, rfl⟩
 rw [hrb] at hO
 simp only [hrb]
 have HRB := Lib.hid hrb
 have HO := Lib.hid hO
 have HK := Lib.hid hk1
 clear hrb hO hk1
 go_wp2_with fail
 with_reducible refine Calls.mono (FD.out _ HK.out) ?_
 rintro e w2 ⟨v, rfl, hF, hk2⟩
 have HO2 := Lib.hid (hk2.blk HO.out (fun f => f))
 have HK2 := Lib.hid (HK.out.trans hk2)
 clear hk2 HO HK FD
 obtain ⟨i, at_, hi, h1, h2, rfl⟩ : ∃ i at_, i < 9 ∧ at_ < (lnl ls cr i).length ∧ (accL ls cr i).length + at_ = k ∧ v = .tuple #[lv (lq qf qc i).1 ((lq qf qc i).2 : Nat), .int .i64 (at_ : Nat), .bool true] := by
  rcases hF with h | ⟨h, _⟩
  ·exact h
  ·have := HKL.out; omega
 have hxi : (lnl ls cr i)[at_]? = some x := by
  rw [← acc_at h1 (n := 9) hi, h2]; exact HX.out
 have HI := Lib.hid (And.intro hi (And.intro h1 (And.intro h2 hxi)))
 have hll : (lnl ls cr i).length ≤ 100000 := Nat.le_trans (lnl_le hi) HN.out
 have AT := Lib.hid fun (w' : World) (kk : Kept (fun _ => False) w w') => at_of (HP.out.old kk) hi hxi hll
 clear hi h1 h2 hxi hll hF
 generalize (lq qf qc i).1 = q at *
 generalize (lq qf qc i).2 = p at *
 go_upto_region 2 with fail
 have hQ := Blk.new w2 [.pointer (some ⟨q, 0, none⟩), .int .i64 (p : Nat)] 135
 have hkk := (Kept.refl (fun _ => False) w2).alloc (.cells [.pointer (some ⟨q, 0, none⟩), .int .i64 (p : Nat)].toArray 135)
 dsimp only [List.toArray] at hQ hkk
 have HO3 := Lib.hid (hkk.blk HO2.out (fun f => f))
 have HK3 := Lib.hid (HK2.out.trans hkk)
 generalize w2.alloc (.cells #[.pointer (some ⟨q, 0, none⟩), .int .i64 (p : Nat)] 135) = w3 at *
 generalize w2.heap.size = ob at *
 have c0 := hQ.cell (o := 0) rfl
 have c1 := hQ.cell (o := 1) rfl
 clear hQ hkk HK2 HO2
 go_wp2_with fail
 with_reducible refine Calls.mono (AT.out _ HK3.out) ?_
 rintro e w4 ⟨rfl, hk4⟩
 have hO4 := hk4.blk HO3.out (fun f => f)
 have HK4 := Lib.hid (HK3.out.trans hk4)
 clear hk4 HK3 AT c0 c1 HP HX HN HKL HO3
 obtain ⟨⟨x1, x2, x3, x4, x5, x6, x7, x8, x9, xd⟩, xa, xc, xq⟩ := x
 obtain ⟨n0, n1, n2, n3, n4, n5, n6, n7, n8, n9, n10⟩ := cs11 hO4
 obtain ⟨fz0, fz1, fz2, fz3, fz4, fz5, fz6, fz7, fz8, fz9, fz10⟩ := fz11 hO4
 have hO6 := set11_blk hO4 rfl ⟨⟨x1, x2, x3, x4, x5, x6, x7, x8, x9, xd⟩, xa, xc, xq⟩
 have k6 := set11_kept w4 rb ⟨⟨x1, x2, x3, x4, x5, x6, x7, x8, x9, xd⟩, xa, xc, xq⟩
 have HK6 : Hid (Kept (fun _ => False) w (set11 w4 rb ⟨⟨x1, x2, x3, x4, x5, x6, x7, x8, x9, xd⟩, xa, xc, xq⟩)) := Lib.hid (HK4.out.trans' k6 (fun i hi e => by have := HRB.out; omega))
 unfold set11 at HK6 hO6
 dsimp only at HK6 hO6
 obtain ⟨z0, z1, z2, z3, z4, z5, z6, z7, z8, z9, z10⟩ := cs11 hO6
 clear hO4 hO6 k6
 go_wp2_with fail
 exact bodyPost_ret (v := .tuple #[bv ⟨⟨x1, x2, x3, x4, x5, x6, x7, x8, x9, xd⟩, xa, xc, xq⟩, .bool true]) (by simp [results, Tryz.results80, go_sem, z0, z1, z2, z3, z4, z5, z6, z7, z8, z9, z10]) rfl ⟨rfl, HK6.out⟩
theorem standing_no (h : PS w0 b room most trim ls cr now nxt F w) {k : Int} (hk : k < 0 ∨ ((accL ls cr 9).length : Int) ≤ k) (hk2 : k ≤ 9223372036854775807) (hn : (accL ls cr 9).length ≤ 100000) :
  Calls Tryz.prog 80 #[.pointer (some ⟨b, 0, none⟩), .int .i64 k] w fun e w' => e = .returned (.tuple #[bv zB, .bool false]) ∧ Kept (fun _ => False) w w' :=
 standing_off fun w' kk => find_out (h.old kk) hk hk2 hn
theorem pat_of {q : Option Addr} {k : Int} {x : Bx} {r : Bool} (hS : ∀ w', Kept (fun _ => False) w w' → Calls Tryz.prog 80 #[.pointer q, .int .i64 k] w' fun e w'' => e = .returned (.tuple #[bv x, .bool r]) ∧ Kept (fun _ => False) w' w'') (hr : Rd w x) :
  Calls Tryz.prog 47 #[.pointer q, .int .i64 k] w fun e w' => ∃ s c, e = .returned (.tuple #[bv ⟨x.f, s, c, x.q⟩, .bool r]) ∧ Byt.Row w' w.heap.size (.slice s x.f.data.length c) x.f.data ∧ Kept (fun _ => False) w w' := by
 have ST := Lib.hid hS
 have HR := Lib.hid hr
 clear hS hr
 go_enter Tryz.func47, Tryz.ntmps47
 go_upto_region 1 with fail
 have hO := Blk.new w [.int .i64 0, .int .i64 0, .int .i64 0, .int .i64 0, .int .u64 0, .int .i64 0, .int .i64 0, .int .i64 0, .int .i64 0, .slice none 0 0, .int .i64 0] 83
 have hk1 := (Kept.refl (fun _ => False) w).alloc (.cells [.int .i64 0, .int .i64 0, .int .i64 0, .int .i64 0, .int .u64 0, .int .i64 0, .int .i64 0, .int .i64 0, .int .i64 0, .slice none 0 0, .int .i64 0].toArray 83)
 dsimp only [List.toArray] at hO hk1
 generalize w.alloc (.cells #[.int .i64 0, .int .i64 0, .int .i64 0, .int .i64 0, .int .u64 0, .int .i64 0, .int .i64 0, .int .i64 0, .int .i64 0, .slice none 0 0, .int .i64 0] 83) = w1 at *
 obtain ⟨rb, hrb⟩ : ∃ rb, w.heap.size = rb := ⟨_, rfl⟩
 rw [hrb] at hO
 simp only [hrb]
 have HRB := Lib.hid hrb
 have HO := Lib.hid hO
 have HK := Lib.hid hk1
 clear hrb hO hk1
 go_wp2_with fail
 with_reducible refine Calls.mono (ST.out _ HK.out) ?_
 rintro e w2 ⟨rfl, hk2⟩
 have HO2 := Lib.hid (hk2.blk HO.out (fun f => f))
 have HK2 := Lib.hid (HK.out.trans hk2)
 clear hk2 HO HK ST
 have CP := Lib.hid fun (w' : World) (kk : Kept (fun _ => False) w w') => copied_any (HR.out.old kk)
 obtain ⟨⟨x1, x2, x3, x4, x5, x6, x7, x8, x9, xd⟩, xa, xc, xq⟩ := x
 clear HR
 go_upto_region 2 with fail
 have hQ := Blk.new w2 [.int .i64 x1, .int .i64 x2, .int .i64 x3, .int .i64 x4, .int .u64 (x5 : Int), .int .i64 x6, .int .i64 x7, .int .i64 x8, .int .i64 x9, .slice xa xd.length xc, .int .i64 xq] 83
 have hkk := (Kept.refl (fun _ => False) w2).alloc (.cells [.int .i64 x1, .int .i64 x2, .int .i64 x3, .int .i64 x4, .int .u64 (x5 : Int), .int .i64 x6, .int .i64 x7, .int .i64 x8, .int .i64 x9, .slice xa xd.length xc, .int .i64 xq].toArray 83)
 dsimp only [List.toArray] at hQ hkk
 have HO3 := Lib.hid (hkk.blk HO2.out (fun f => f))
 have HK3 := Lib.hid (HK2.out.trans hkk)
 generalize w2.alloc (.cells #[.int .i64 x1, .int .i64 x2, .int .i64 x3, .int .i64 x4, .int .u64 (x5 : Int), .int .i64 x6, .int .i64 x7, .int .i64 x8, .int .i64 x9, .slice xa xd.length xc, .int .i64 xq] 83) = w3 at *
 generalize w2.heap.size = ob at *
 obtain ⟨c0, c1, c2, c3, c4, c5, c6, c7, c8, c9, c10⟩ := cs11 hQ
 clear hQ hkk HK2 HO2
 go_wp2_with fail
 with_reducible refine Calls.mono (CP.out _ HK3.out) ?_
 rintro e w4 ⟨s, c, rfl, hR4, hk4⟩
 have hO4 := hk4.blk HO3.out (fun f => f)
 have HK4 := Lib.hid (HK3.out.trans hk4)
 have hs3 : w.heap.size < w3.heap.size := by have := HO3.out.lt; have := HRB.out; omega
 clear CP c0 c1 c2 c3 c4 c5 c6 c7 c8 c9 c10
 obtain ⟨n0, n1, n2, n3, n4, n5, n6, n7, n8, n9, n10⟩ := cs11 hO4
 obtain ⟨fz0, fz1, fz2, fz3, fz4, fz5, fz6, fz7, fz8, fz9, fz10⟩ := fz11 hO4
 have hO6 := set11_blk hO4 rfl ⟨⟨x1, x2, x3, x4, x5, x6, x7, x8, x9, xd⟩, s, c, xq⟩
 have k6 := set11_kept w4 rb ⟨⟨x1, x2, x3, x4, x5, x6, x7, x8, x9, xd⟩, s, c, xq⟩
 have R6 : Hid (Byt.Row (set11 w4 rb ⟨⟨x1, x2, x3, x4, x5, x6, x7, x8, x9, xd⟩, s, c, xq⟩) w.heap.size (.slice s xd.length c) xd ∧ Kept (fun _ => False) w (set11 w4 rb ⟨⟨x1, x2, x3, x4, x5, x6, x7, x8, x9, xd⟩, s, c, xq⟩)) :=
  Lib.hid ⟨(hR4.kept k6 (fun g hg e => by have := (hR4.lt g hg).1; have := HRB.out; omega)).base (fun g hg => by have := (hR4.lt g hg).1; omega), HK4.out.trans' k6 (fun i hi e => by have := HRB.out; omega)⟩
 unfold set11 at R6 hO6
 dsimp only at R6 hO6
 obtain ⟨z0, z1, z2, z3, z4, z5, z6, z7, z8, z9, z10⟩ := cs11 hO6
 clear hO4 hO6 k6 hR4 hk4 HK3 HO3
 go_wp2_with fail
 exact bodyPost_ret (v := .tuple #[bv ⟨⟨x1, x2, x3, x4, x5, x6, x7, x8, x9, xd⟩, s, c, xq⟩, .bool r]) (by simp [results, Tryz.results47, go_sem, z0, z1, z2, z3, z4, z5, z6, z7, z8, z9, z10]) rfl ⟨s, c, rfl, R6.out⟩
theorem plen_any (h : PS w0 b room most trim ls cr now nxt F w) (hn : (accL ls cr 9).length ≤ 100000) :
  Calls Tryz.prog 53 #[.pointer (some ⟨b, 0, none⟩)] w fun e w' => e = .returned (.int .i64 ((accL ls cr 9).length : Nat)) ∧ ∃ m, w' = w.drewN m := by
 obtain ⟨qf, qc, pb, Ff, Fc, hp, rfl⟩ := h
 have hs : (accL ls cr 9).length = cnt ls 8 + cr.length := by
  show (((((((((([] ++ lnl ls cr 0) ++ lnl ls cr 1) ++ lnl ls cr 2) ++ lnl ls cr 3) ++ lnl ls cr 4) ++ lnl ls cr 5) ++ lnl ls cr 6) ++ lnl ls cr 7) ++ lnl ls cr 8)).length = _
  simp only [List.length_append]
  show 0 + (ls 7).length + (ls 6).length + (ls 5).length + (ls 4).length + (ls 3).length + (ls 2).length + (ls 1).length + (ls 0).length + cr.length = 0 + (ls 0).length + (ls 1).length + (ls 2).length + (ls 3).length + (ls 4).length + (ls 5).length + (ls 6).length + (ls 7).length + cr.length
  omega
 rw [hs] at hn ⊢
 have L1 := Lib.hid fun n : Nat => (len_any (hp.fr.old ((Kept.refl (fun _ => False) w).drewN n)) (by omega)).mono (fun _ _ ⟨e1, e2⟩ => And.intro e1 e2.symm)
 have L2 := Lib.hid fun n : Nat => (len_any (hp.cq.old ((Kept.refl (fun _ => False) w).drewN n)) (by rw [cnt_crl]; omega)).mono (fun _ _ ⟨e1, e2⟩ => And.intro e1 e2.symm)
 rw [cnt_crl] at L2
 have hw : IntKind.i64.wrap ((cnt ls 8 : Nat) + (cr.length : Nat)) = ((cnt ls 8 : Nat) : Int) + ((cr.length : Nat) : Int) := by rw [IntKind.wrap_i64]; omega
 have c1 := hp.blk.cell (o := 1) rfl
 have c2 := hp.blk.cell (o := 2) rfl
 clear hp hs
 have ha : (cnt ls 8 : Int) + (cr.length : Int) ≤ 100000 := by omega
 rw [Int.natCast_add]
 generalize cr.length = n at *
 generalize cnt ls 8 = m at *
 clear hn
 go_enter Tryz.func53, Tryz.ntmps53
 go_upto_region 3 with fail
 go_quiet ((go_at_call 67; first | (with_reducible exact Calls.quiet_of_same (L1.out _)) | (with_reducible exact Calls.quiet_of_same (L2.out _))))
 go_wp2_with fail
 go_ret
 exact ⟨rfl, _, rfl⟩
set_option maxRecDepth 100000 in
set_option maxHeartbeats 8000000 in
theorem drop_yes (h : PS w0 b room most trim ls cr now nxt F w) {k : Nat} {x : Bx} (hx : (accL ls cr 9)[k]? = some x) (hn : (accL ls cr 9).length ≤ 100000) :
  Calls Tryz.prog 45 #[.pointer (some ⟨b, 0, none⟩), .int .i64 (k : Nat)] w fun e w' => e = .returned (.tuple #[bv x, .bool true]) ∧ Byt.Row w' w0.heap.size (.slice x.s x.f.data.length x.c) x.f.data ∧ DropP w0 b room most trim ls cr now nxt F w k x w' := by
 obtain ⟨qf, qc, pb, Ff, Fc, hp, rfl⟩ := h
 have hkl := (List.getElem?_eq_some_iff.1 hx).1
 have HP := Lib.hid hp
 have FD := Lib.hid fun (w' : World) (kk : Kept (fun _ => False) w w') => find_any (hp.old kk) (k := k) (by omega) hn
 have HX := Lib.hid hx
 have HN := Lib.hid hn
 have HKL := Lib.hid hkl
 clear hp hx hn hkl
 go_enter Tryz.func45, Tryz.ntmps45
 go_upto_region 1 with fail
 have hO := Blk.new w [.int .i64 0, .int .i64 0, .int .i64 0, .int .i64 0, .int .u64 0, .int .i64 0, .int .i64 0, .int .i64 0, .int .i64 0, .slice none 0 0, .int .i64 0] 83
 have hk1 := (Kept.refl (fun _ => False) w).alloc (.cells [.int .i64 0, .int .i64 0, .int .i64 0, .int .i64 0, .int .u64 0, .int .i64 0, .int .i64 0, .int .i64 0, .int .i64 0, .slice none 0 0, .int .i64 0].toArray 83)
 dsimp only [List.toArray] at hO hk1
 generalize w.alloc (.cells #[.int .i64 0, .int .i64 0, .int .i64 0, .int .i64 0, .int .u64 0, .int .i64 0, .int .i64 0, .int .i64 0, .int .i64 0, .slice none 0 0, .int .i64 0] 83) = w1 at *
 obtain ⟨rb, hrb⟩ : ∃ rb, w.heap.size = rb := ⟨_, rfl⟩
 rw [hrb] at hO
 simp only [hrb]
 have HRB := Lib.hid hrb
 have HO := Lib.hid hO
 have HK := Lib.hid hk1
 clear hrb hO hk1
 go_wp2_with fail
 with_reducible refine Calls.mono (FD.out _ HK.out) ?_
 rintro e w2 ⟨v, rfl, hF, hk2⟩
 have HO2 := Lib.hid (hk2.blk HO.out (fun f => f))
 have HK2 := Lib.hid (HK.out.trans hk2)
 clear hk2 HO HK FD
 obtain ⟨i, at_, hi, h1, h2, rfl⟩ : ∃ i at_, i < 9 ∧ at_ < (lnl ls cr i).length ∧ (accL ls cr i).length + at_ = k ∧ v = .tuple #[lv (lq qf qc i).1 ((lq qf qc i).2 : Nat), .int .i64 (at_ : Nat), .bool true] := by
  rcases hF with h | ⟨h, _⟩
  ·exact h
  ·have := HKL.out; omega
 have hxi : (lnl ls cr i)[at_]? = some x := by
  rw [← acc_at h1 (n := 9) hi, h2]; exact HX.out
 have HI := Lib.hid (And.intro hi (And.intro h1 (And.intro h2 hxi)))
 have hll : (lnl ls cr i).length ≤ 100000 := Nat.le_trans (lnl_le hi) HN.out
 have RM := Lib.hid fun (w' : World) (kk : Kept (fun _ => False) w w') => rem_of (HP.out.old kk) hi hxi hll
 have hgd := gd_of HP.out hi (List.mem_of_getElem? hxi)
 have HGD := Lib.hid hgd
 clear hi h1 h2 hxi hll hgd hF
 generalize (lq qf qc i).1 = q at *
 generalize (lq qf qc i).2 = p at *
 go_upto_region 2 with fail
 have hQ := Blk.new w2 [.pointer (some ⟨q, 0, none⟩), .int .i64 (p : Nat)] 135
 have hkk := (Kept.refl (fun _ => False) w2).alloc (.cells [.pointer (some ⟨q, 0, none⟩), .int .i64 (p : Nat)].toArray 135)
 dsimp only [List.toArray] at hQ hkk
 have HO3 := Lib.hid (hkk.blk HO2.out (fun f => f))
 have HK3 := Lib.hid (HK2.out.trans hkk)
 generalize w2.alloc (.cells #[.pointer (some ⟨q, 0, none⟩), .int .i64 (p : Nat)] 135) = w3 at *
 generalize w2.heap.size = ob at *
 have c0 := hQ.cell (o := 0) rfl
 have c1 := hQ.cell (o := 1) rfl
 clear hQ hkk HK2 HO2
 go_wp2_with fail
 with_reducible refine Calls.mono (RM.out _ HK3.out) ?_
 rintro e w4 ⟨rfl, Ff', Fc', h4, hf, hc, kG⟩
 have hrF : ¬ (Ff rb ∨ Fc rb) := by
  intro e
  have := HRB.out
  rcases e with e | e
  ·have := (HP.out.fr.own rb e).2; omega
  ·have := (HP.out.cq.own rb e).2; omega
 have hO4 := kG.blk HO3.out hrF
 have hs3 : w.heap.size < w3.heap.size := by have := HO3.out.lt; have := HRB.out; omega
 have R : Hid (∀ w', Kept (fun i => i = w.heap.size) w4 w' → Byt.Row w' w0.heap.size (.slice x.s x.f.data.length x.c) x.f.data ∧ ∃ F', PS w0 b room most trim (lsE ls i at_) (crE cr i at_) now nxt F' w' ∧ Qu.Next (fp b pb ls cr Ff Fc) w F' w') := by
  refine Lib.hid fun w' k5 => ⟨?_, ?_⟩
  ·exact row_end HGD.out (HGD.out.kept HK3.out (fun _ _ f => f)) kG (fun g hg e => HGD.out.2.2.2 g hg (Or.inr (Or.inr e))) k5
  ·refine take_end HP.out (HK3.out.mono (fun _ _ f => f.elim)) hs3 h4 kG (fun j e => Or.inl (Or.inr (Or.inr e))) (fun j hj => ?_) k5
   obtain ⟨hi, _, _, _⟩ := HI.out
   refine fp_step hf hc (fun kk y hkk hy => Or.inl ?_) (fun y hy => Or.inl ?_) hj
   ·unfold lsE at hy
    split at hy
    ·exact (mem_upd (ls := ls) (P := fun _ => False) (by omega) (fun z hz => Or.inl (List.mem_of_mem_eraseIdx hz)) hkk hy).elim id (fun f => f.elim)
    ·exact ⟨kk, hkk, hy⟩
   ·unfold crE at hy
    split at hy
    ·exact hy
    ·exact List.mem_of_mem_eraseIdx hy
 clear h4 hf hc kG hrF RM HP HX HN HKL HGD c0 c1 HK3 HO3
 obtain ⟨⟨x1, x2, x3, x4, x5, x6, x7, x8, x9, xd⟩, xa, xc, xq⟩ := x
 obtain ⟨n0, n1, n2, n3, n4, n5, n6, n7, n8, n9, n10⟩ := cs11 hO4
 obtain ⟨fz0, fz1, fz2, fz3, fz4, fz5, fz6, fz7, fz8, fz9, fz10⟩ := fz11 hO4
 have hO6 := set11_blk hO4 rfl ⟨⟨x1, x2, x3, x4, x5, x6, x7, x8, x9, xd⟩, xa, xc, xq⟩
 have k6 := set11_kept w4 rb ⟨⟨x1, x2, x3, x4, x5, x6, x7, x8, x9, xd⟩, xa, xc, xq⟩
 have R6 : Hid (Byt.Row (set11 w4 rb ⟨⟨x1, x2, x3, x4, x5, x6, x7, x8, x9, xd⟩, xa, xc, xq⟩) w0.heap.size (.slice xa xd.length xc) xd ∧ ∃ F', PS w0 b room most trim (lsE ls i at_) (crE cr i at_) now nxt F' (set11 w4 rb ⟨⟨x1, x2, x3, x4, x5, x6, x7, x8, x9, xd⟩, xa, xc, xq⟩) ∧ Qu.Next (fp b pb ls cr Ff Fc) w F' (set11 w4 rb ⟨⟨x1, x2, x3, x4, x5, x6, x7, x8, x9, xd⟩, xa, xc, xq⟩)) := Lib.hid (R.out _ (by rw [HRB.out]; exact k6))
 unfold set11 at R6 hO6
 dsimp only at R6 hO6
 obtain ⟨z0, z1, z2, z3, z4, z5, z6, z7, z8, z9, z10⟩ := cs11 hO6
 clear hO4 hO6 k6 R
 go_wp2_with fail
 obtain ⟨hi, h1, h2, h3⟩ := HI.out
 obtain ⟨r1, F', r2, r3⟩ := R6.out
 exact bodyPost_ret (v := .tuple #[bv ⟨⟨x1, x2, x3, x4, x5, x6, x7, x8, x9, xd⟩, xa, xc, xq⟩, .bool true]) (by simp [results, Tryz.results45, go_sem, z0, z1, z2, z3, z4, z5, z6, z7, z8, z9, z10]) rfl ⟨rfl, r1, i, at_, F', hi, h1, h2, h3, r2, r3⟩
theorem drop_no (h : PS w0 b room most trim ls cr now nxt F w) {k : Int} (hk : k < 0 ∨ ((accL ls cr 9).length : Int) ≤ k) (hk2 : k ≤ 9223372036854775807) (hn : (accL ls cr 9).length ≤ 100000) :
  Calls Tryz.prog 45 #[.pointer (some ⟨b, 0, none⟩), .int .i64 k] w fun e w' => e = .returned (.tuple #[bv zB, .bool false]) ∧ Kept (fun _ => False) w w' :=
 drop_off fun w' kk => find_out (h.old kk) hk hk2 hn
end Go.Proofs.YtpogpibjkolioaaGreat.Po

/- A port's Drop and At, told so that what it writes is apart from the data. Conditions: each theorem's own. -/
namespace Go.Proofs.YtpogpibjkolioaaGreat.Fo
open Go.RowKit Hp QuM QuN Rw Qu NumM NumC Po
attribute [local go_sem ↓] Go.wp_at_zero Go.wp_at_succ
variable {w0 w w' : World} {b qf qc pb : Nat} {room most : Int} {trim : Bool} {ls : Nat → List Bx} {cr : List Bx} {now nxt : Int} {Ff Fc F : Nat → Prop}
def DropP (w0 : World) (b : Nat) (room most : Int) (trim : Bool) (ls : Nat → List Bx) (cr : List Bx) (now nxt : Int) (F : Nat → Prop) (w : World) (k : Nat) (x : Bx) (w' : World) : Prop :=
 ∃ i at_ F', i < 9 ∧ at_ < (lnl ls cr i).length ∧ (accL ls cr i).length + at_ = k ∧ (lnl ls cr i)[at_]? = some x ∧ PO w0 b room most trim (lsE ls i at_) (crE cr i at_) now nxt F' w' ∧ Qu.Next F w F' w'
set_option maxRecDepth 100000 in
set_option maxHeartbeats 8000000 in
theorem drop_yes (h : PO w0 b room most trim ls cr now nxt F w) {k : Nat} {x : Bx} (hx : (accL ls cr 9)[k]? = some x) (hn : (accL ls cr 9).length ≤ 100000) :
  Calls Tryz.prog 45 #[.pointer (some ⟨b, 0, none⟩), .int .i64 (k : Nat)] w fun e w' => e = .returned (.tuple #[bv x, .bool true]) ∧ Byt.Row w' w0.heap.size (.slice x.s x.f.data.length x.c) x.f.data ∧ DropP w0 b room most trim ls cr now nxt F w k x w' := by
 obtain ⟨qf, qc, pb, Ff, Fc, hp, rfl⟩ := h
 have hkl := (List.getElem?_eq_some_iff.1 hx).1
 have HP := Lib.hid hp
 have FD := Lib.hid fun (w' : World) (kk : Kept (fun _ => False) w w') => find_any (hp.old kk) (k := k) (by omega) hn
 have HX := Lib.hid hx
 have HN := Lib.hid hn
 have HKL := Lib.hid hkl
 clear hp hx hn hkl
 go_enter Tryz.func45, Tryz.ntmps45
 go_upto_region 1 with fail
 have hO := Blk.new w [.int .i64 0, .int .i64 0, .int .i64 0, .int .i64 0, .int .u64 0, .int .i64 0, .int .i64 0, .int .i64 0, .int .i64 0, .slice none 0 0, .int .i64 0] 83
 have hk1 := (Kept.refl (fun _ => False) w).alloc (.cells [.int .i64 0, .int .i64 0, .int .i64 0, .int .i64 0, .int .u64 0, .int .i64 0, .int .i64 0, .int .i64 0, .int .i64 0, .slice none 0 0, .int .i64 0].toArray 83)
 dsimp only [List.toArray] at hO hk1
 generalize w.alloc (.cells #[.int .i64 0, .int .i64 0, .int .i64 0, .int .i64 0, .int .u64 0, .int .i64 0, .int .i64 0, .int .i64 0, .int .i64 0, .slice none 0 0, .int .i64 0] 83) = w1 at *
 obtain ⟨rb, hrb⟩ : ∃ rb, w.heap.size = rb := ⟨_, rfl⟩
 rw [hrb] at hO
 simp only [hrb]
 have HRB := Lib.hid hrb
 have HO := Lib.hid hO
 have HK := Lib.hid hk1
 clear hrb hO hk1
 go_wp2_with fail
 with_reducible refine Calls.mono (FD.out _ HK.out) ?_
 rintro e w2 ⟨v, rfl, hF, hk2⟩
 have HO2 := Lib.hid (hk2.blk HO.out (fun f => f))
 have HK2 := Lib.hid (HK.out.trans hk2)
 clear hk2 HO HK FD
 obtain ⟨i, at_, hi, h1, h2, rfl⟩ : ∃ i at_, i < 9 ∧ at_ < (lnl ls cr i).length ∧ (accL ls cr i).length + at_ = k ∧ v = .tuple #[lv (lq qf qc i).1 ((lq qf qc i).2 : Nat), .int .i64 (at_ : Nat), .bool true] := by
  rcases hF with h | ⟨h, _⟩
  ·exact h
  ·have := HKL.out; omega
 have hxi : (lnl ls cr i)[at_]? = some x := by
  rw [← acc_at h1 (n := 9) hi, h2]; exact HX.out
 have HI := Lib.hid (And.intro hi (And.intro h1 (And.intro h2 hxi)))
 have hll : (lnl ls cr i).length ≤ 100000 := Nat.le_trans (lnl_le hi) HN.out
 have RM := Lib.hid fun (w' : World) (kk : Kept (fun _ => False) w w') => rem_of (HP.out.old kk) hi hxi hll
 have hgd := gd_of HP.out hi (List.mem_of_getElem? hxi)
 have HGD := Lib.hid hgd
 clear hi h1 h2 hxi hll hgd hF
 generalize (lq qf qc i).1 = q at *
 generalize (lq qf qc i).2 = p at *
 go_upto_region 2 with fail
 have hQ := Blk.new w2 [.pointer (some ⟨q, 0, none⟩), .int .i64 (p : Nat)] 135
 have hkk := (Kept.refl (fun _ => False) w2).alloc (.cells [.pointer (some ⟨q, 0, none⟩), .int .i64 (p : Nat)].toArray 135)
 dsimp only [List.toArray] at hQ hkk
 have HO3 := Lib.hid (hkk.blk HO2.out (fun f => f))
 have HK3 := Lib.hid (HK2.out.trans hkk)
 generalize w2.alloc (.cells #[.pointer (some ⟨q, 0, none⟩), .int .i64 (p : Nat)] 135) = w3 at *
 generalize w2.heap.size = ob at *
 have c0 := hQ.cell (o := 0) rfl
 have c1 := hQ.cell (o := 1) rfl
 clear hQ hkk HK2 HO2
 go_wp2_with fail
 with_reducible refine Calls.mono (RM.out _ HK3.out) ?_
 rintro e w4 ⟨rfl, Ff', Fc', h4, hf, hc, kG⟩
 have hrF : ¬ (Ff rb ∨ Fc rb) := by
  intro e
  have := HRB.out
  rcases e with e | e
  ·have := (HP.out.fr.own rb e).2; omega
  ·have := (HP.out.cq.own rb e).2; omega
 have hO4 := kG.blk HO3.out hrF
 have hs3 : w.heap.size < w3.heap.size := by have := HO3.out.lt; have := HRB.out; omega
 have R : Hid (∀ w', Kept (fun i => i = w.heap.size) w4 w' → Byt.Row w' w0.heap.size (.slice x.s x.f.data.length x.c) x.f.data ∧ ∃ F', PO w0 b room most trim (lsE ls i at_) (crE cr i at_) now nxt F' w' ∧ Qu.Next (own b pb Ff Fc) w F' w') := by
  refine Lib.hid fun w' k5 => ⟨?_, ?_⟩
  ·exact row_end HGD.out (HGD.out.kept HK3.out (fun _ _ f => f)) kG (fun g hg e => HGD.out.2.2.2 g hg (Or.inr (Or.inr e))) k5
  ·refine take_end HP.out (HK3.out.mono (fun _ _ f => f.elim)) hs3 h4 kG (fun j e => Or.inr (Or.inr e)) (fun j hj => ?_) (fun j hj => own_step hf hc hj) k5
   obtain ⟨hi, _, _, _⟩ := HI.out
   refine fp_step hf hc (fun kk y hkk hy => Or.inl ?_) (fun y hy => Or.inl ?_) hj
   ·unfold lsE at hy
    split at hy
    ·exact (mem_upd (ls := ls) (P := fun _ => False) (by omega) (fun z hz => Or.inl (List.mem_of_mem_eraseIdx hz)) hkk hy).elim id (fun f => f.elim)
    ·exact ⟨kk, hkk, hy⟩
   ·unfold crE at hy
    split at hy
    ·exact hy
    ·exact List.mem_of_mem_eraseIdx hy
 clear h4 hf hc kG hrF RM HP HX HN HKL HGD c0 c1 HK3 HO3
 obtain ⟨⟨x1, x2, x3, x4, x5, x6, x7, x8, x9, xd⟩, xa, xc, xq⟩ := x
 obtain ⟨n0, n1, n2, n3, n4, n5, n6, n7, n8, n9, n10⟩ := cs11 hO4
 obtain ⟨fz0, fz1, fz2, fz3, fz4, fz5, fz6, fz7, fz8, fz9, fz10⟩ := fz11 hO4
 have hO6 := set11_blk hO4 rfl ⟨⟨x1, x2, x3, x4, x5, x6, x7, x8, x9, xd⟩, xa, xc, xq⟩
 have k6 := set11_kept w4 rb ⟨⟨x1, x2, x3, x4, x5, x6, x7, x8, x9, xd⟩, xa, xc, xq⟩
 have R6 : Hid (Byt.Row (set11 w4 rb ⟨⟨x1, x2, x3, x4, x5, x6, x7, x8, x9, xd⟩, xa, xc, xq⟩) w0.heap.size (.slice xa xd.length xc) xd ∧ ∃ F', PO w0 b room most trim (lsE ls i at_) (crE cr i at_) now nxt F' (set11 w4 rb ⟨⟨x1, x2, x3, x4, x5, x6, x7, x8, x9, xd⟩, xa, xc, xq⟩) ∧ Qu.Next (own b pb Ff Fc) w F' (set11 w4 rb ⟨⟨x1, x2, x3, x4, x5, x6, x7, x8, x9, xd⟩, xa, xc, xq⟩)) := Lib.hid (R.out _ (by rw [HRB.out]; exact k6))
 unfold set11 at R6 hO6
 dsimp only at R6 hO6
 obtain ⟨z0, z1, z2, z3, z4, z5, z6, z7, z8, z9, z10⟩ := cs11 hO6
 clear hO4 hO6 k6 R
 go_wp2_with fail
 obtain ⟨hi, h1, h2, h3⟩ := HI.out
 obtain ⟨r1, F', r2, r3⟩ := R6.out
 exact bodyPost_ret (v := .tuple #[bv ⟨⟨x1, x2, x3, x4, x5, x6, x7, x8, x9, xd⟩, xa, xc, xq⟩, .bool true]) (by simp [results, Tryz.results45, go_sem, z0, z1, z2, z3, z4, z5, z6, z7, z8, z9, z10]) rfl ⟨rfl, r1, i, at_, F', hi, h1, h2, h3, r2, r3⟩
end Go.Proofs.YtpogpibjkolioaaGreat.Fo

/- A port's Put, Take, Drop told by what they make of its lists. Conditions: each theorem's own. -/
namespace Go.Proofs.YtpogpibjkolioaaGreat.Fb
open Go.RowKit Hp QuM QuN Rw Qu NumM NumC Po Fo FbM
structure Cf where
 H : Int
 S : Int
 hn : Nat
 n : Nat
 room : Int
 most : Int
 trim : Bool
abbrev POP (w0 : World) (b : Nat) (K : Cf) (P : Pt) (F : Nat → Prop) (w : World) : Prop := PO w0 b K.room K.most K.trim P.ls P.cr P.now P.nxt F w
variable {w0 w w' : World} {b : Nat} {K : Cf} {P : Pt} {F : Nat → Prop}
theorem len_le_acc (P : Pt) {k : Nat} (hk : k < 8) : (P.ls k).length ≤ (accL P.ls P.cr 9).length := by
 have := lnl_le (ls := P.ls) (cr := P.cr) (i := 7 - k) (by omega)
 unfold lnl at this
 rw [if_pos (by omega), show 7 - (7 - k) = k by omega] at this
 exact this
theorem cr_le_acc (P : Pt) : P.cr.length ≤ (accL P.ls P.cr 9).length := by
 have := lnl_le (ls := P.ls) (cr := P.cr) (i := 8) (by omega)
 unfold lnl at this
 rw [if_neg (by omega)] at this
 exact this
abbrev puP (K : Cf) (P : Pt) (x : Bx) (s : Option Addr) (c : Nat) : Pt := addP P (putD K.room K.most K.trim P x).2 ⟨itF (putD K.room K.most K.trim P x).1 x, s, c, x.q⟩
def PutP (w0 : World) (b : Nat) (K : Cf) (P : Pt) (F : Nat → Prop) (w : World) (x : Bx) (w' : World) : Prop :=
 ∃ s c F', POP w0 b K (puP K P x s c) F' w' ∧ Qu.Next F w F' w' ∧ ((putD K.room K.most K.trim P x).2 < 9 → Fresh w ⟨itF (putD K.room K.most K.trim P x).1 x, s, c, x.q⟩)
theorem next_same {F : Nat → Prop} (k : Kept (fun _ => False) w w') : Qu.Next F w F w' := ⟨k.mono (fun _ _ f => f.elim), fun _ h => Or.inl h⟩
theorem po_put (h : POP w0 b K P F w) {x : Bx} (hr : Rd w x) (hs : Sane x) (hl : (accL P.ls P.cr 9).length < 100000) :
  Calls Tryz.prog 62 #[.pointer (some ⟨b, 0, none⟩), bv x] w fun e w' => e = .returned (.int .i64 (putD K.room K.most K.trim P x).1) ∧ PutP w0 b K P F w x w' := by
 have hl7 := fun k (hk : k < 8) => Nat.lt_of_le_of_lt (len_le_acc P hk) hl
 have hlc := Nat.lt_of_le_of_lt (cr_le_acc P) hl
 have hpi := prI_bd x
 unfold PutP puP putD
 by_cases hk : x.f.kind = 11
 ·rw [if_pos hk]
  by_cases hc : (P.cr.length : Int) < K.most
  ·rw [if_pos hc]
   refine (put_cy h hr hs hk hc hlc).mono ?_
   rintro e w' ⟨rfl, s, c, F', h1, h2, h3⟩
   refine ⟨rfl, s, c, F', ?_, h2, fun _ => ?_⟩
   ·unfold addP itF
    dsimp only
    rw [if_neg (by decide), if_pos rfl, if_neg (by decide)]
    exact h1
   ·unfold itF; dsimp only; rw [if_neg (by decide)]; exact h3
  ·rw [if_neg hc]
   refine (put_cn h hr hs hk (by omega)).mono ?_
   rintro e w' ⟨rfl, h1⟩
   refine ⟨rfl, none, 0, F, ?_, next_same h1, fun f => absurd f (by decide)⟩
   unfold addP
   dsimp only
   rw [if_neg (by decide), if_neg (by decide)]
   exact h.old h1
 ·rw [if_neg hk]
  have hp0 : prI x = ((prI x).toNat : Nat) := by omega
  have hp8 : (prI x).toNat < 8 := by omega
  by_cases hc : tot P.ls 8 + szI (nb x) ≤ K.room
  ·rw [if_pos hc]
   refine (put_fy h hr hs hk hp0 hc (hl7 _ hp8)).mono ?_
   rintro e w' ⟨rfl, s, c, F', h1, h2, h3⟩
   refine ⟨rfl, s, c, F', ?_, h2, fun _ => ?_⟩
   ·unfold addP itF
    dsimp only
    rw [if_pos hp8, if_neg (by decide)]
    exact h1
   ·unfold itF; dsimp only; rw [if_neg (by decide)]; exact h3
  ·rw [if_neg hc]
   by_cases ht : K.trim = true ∧ x.f.kind = 1 ∧ tot P.ls 8 + 26 ≤ K.room
   ·rw [if_pos ht]
    obtain ⟨ht, hk1, hc2⟩ := ht
    have h' : PO w0 b K.room K.most true P.ls P.cr P.now P.nxt F w := by rw [← ht]; exact h
    refine (put_ty h' hr hs hk1 (by omega) hc2 (hl7 7 (by decide))).mono ?_
    rintro e w' ⟨rfl, s, c, F', h1, h2, h3⟩
    refine ⟨rfl, s, c, F', ?_, h2, fun _ => ?_⟩
    ·unfold addP itF
     dsimp only
     rw [if_pos (by decide), if_pos rfl]
     show PO w0 b K.room K.most K.trim _ _ _ _ F' w'
     rw [ht]
     exact h1
    ·unfold itF; dsimp only; rw [if_pos rfl]; exact h3
   ·rw [if_neg ht]
    have fin : ∀ (e : Ending) w', e = .returned (.int .i64 3) ∧ Kept (fun _ => False) w w' → e = .returned (.int .i64 (3, 9).1) ∧ ∃ s c F', POP w0 b K (addP P (3, 9).2 ⟨itF (3, 9).1 x, s, c, x.q⟩) F' w' ∧ Qu.Next F w F' w' ∧ ((3, 9).2 < 9 → Fresh w ⟨itF (3, 9).1 x, s, c, x.q⟩) := by
     rintro e w' ⟨rfl, h1⟩
     refine ⟨rfl, none, 0, F, ?_, next_same h1, fun f => absurd f (by decide)⟩
     unfold addP
     dsimp only
     rw [if_neg (by decide), if_neg (by decide)]
     exact h.old h1
    by_cases h1 : K.trim = false ∨ x.f.kind ≠ 1
    ·exact (put_fn h hr hs hk (by omega) h1).mono fin
    ·have h2 : K.trim = true := by
      cases h3 : K.trim with
      | true => rfl
      | false => exact absurd (Or.inl h3) h1
     have h3 : x.f.kind = 1 := by
      rcases Decidable.em (x.f.kind = 1) with h3 | h3
      ·exact h3
      ·exact absurd (Or.inr h3) h1
     have h' : PO w0 b K.room K.most true P.ls P.cr P.now P.nxt F w := by rw [← h2]; exact h
     have hc2 : K.room < tot P.ls 8 + 26 := by
      rcases Int.lt_or_le K.room (tot P.ls 8 + 26) with h4 | h4
      ·exact h4
      ·exact absurd ⟨h2, h3, h4⟩ ht
     exact (put_tn h' hr hs h3 (by omega) hc2).mono fin
def tkA : Option Bx → Bx × Bool
 | some x => (x, true)
 | none => (zB, false)
def TakeP (w0 : World) (b : Nat) (K : Cf) (P : Pt) (F : Nat → Prop) (w : World) (t : Int) (w' : World) : Prop :=
 (∀ x, tkX P t = some x → Byt.Row w' w0.heap.size (.slice x.s x.f.data.length x.c) x.f.data) ∧ ∃ F', POP w0 b K (tkP P t) F' w' ∧ Qu.Next F w F' w'
theorem po_take (h : POP w0 b K P F w) (t : Int) (hl : (accL P.ls P.cr 9).length < 100000) :
  Calls Tryz.prog 38 #[.pointer (some ⟨b, 0, none⟩), .int .i64 t] w fun e w' => e = .returned (.tuple #[bv (tkA (tkX P t)).1, .bool (tkA (tkX P t)).2]) ∧ TakeP w0 b K P F w t w' := by
 have hl7 := fun k (hk : k < 8) => Nat.lt_of_le_of_lt (len_le_acc P hk) hl
 have hlc := Nat.lt_of_le_of_lt (cr_le_acc P) hl
 unfold TakeP
 have hcr : (P.cr = [] ∨ tkM P t < P.nxt) → P.cr = [] ∨ (0 < P.cr.length ∧ P.cr.length ≤ 1000000 ∧ tkM P t < P.nxt) := by
  rintro (h | h)
  ·exact Or.inl h
  ·cases hc : P.cr with
   | nil => exact Or.inl rfl
   | cons y l => rw [hc] at hlc; exact Or.inr ⟨Nat.zero_lt_succ _, by omega, h⟩
 cases hx : tkX P t with
 | none =>
  obtain ⟨e1, ht, hc⟩ := tk_none hx
  rw [e1]
  refine (take_empty h (m := tkM P t) rfl (hcr hc) ht).mono ?_
  rintro e w' ⟨rfl, F', h1, h2⟩
  exact ⟨rfl, fun x h => (by cases h), F', h1, h2⟩
 | some x =>
  rcases tk_some hx with ⟨R, e0, hn, e1⟩ | ⟨p, R, ht, e0, hc, e1⟩
  ·rw [e1]
   have h' : PO w0 b K.room K.most K.trim P.ls (x :: R) P.now P.nxt F w := by rw [← e0]; exact h
   refine (take_credit h' (m := tkM P t) rfl (by rw [← e0]; omega) hn).mono ?_
   rintro e w' ⟨rfl, hr, F', h1, h2⟩
   exact ⟨rfl, fun y h => (by cases h; exact hr), F', h1, h2⟩
  ·rw [e1]
   refine (take_frame h (m := tkM P t) rfl (hcr hc) ht e0 (by have := hl7 p (top_some ht).1; omega)).mono ?_
   rintro e w' ⟨rfl, hr, F', h1, h2⟩
   exact ⟨rfl, fun y h => (by cases h; exact hr), F', h1, h2⟩
end Go.Proofs.YtpogpibjkolioaaGreat.Fb

