/- A port: Drop, Double. Conditions: each theorem's own. -/
import Derived.Test.YtpogpibjkolioaaGreatFpK9
import Derived.Test.YtpogpibjkolioaaGreatFpK8
import Derived.Test.YtpogpibjkolioaaGreatFpK7
set_option linter.unusedVariables false
set_option linter.unusedSimpArgs false
namespace Go.Proofs.YtpogpibjkolioaaGreat.Po
open Go.RowKit Hp QuM QuN Rw Qu NumM NumC
attribute [local go_sem ↓] Go.wp_at_zero Go.wp_at_succ
variable {w0 w w' : World} {b qf qc pb : Nat} {room most : Int} {trim : Bool} {ls : Nat → List Bx} {cr : List Bx} {now nxt : Int} {Ff Fc F : Nat → Prop}
def lsE (ls : Nat → List Bx) (i at_ : Nat) : Nat → List Bx := if i < 8 then upd ls (7 - i) ((ls (7 - i)).eraseIdx at_) else ls
def crE (cr : List Bx) (i at_ : Nat) : List Bx := if i < 8 then cr else cr.eraseIdx at_
theorem acc_at {i at_ : Nat} (h : at_ < (lnl ls cr i).length) : ∀ {n : Nat}, i < n → (accL ls cr n)[(accL ls cr i).length + at_]? = (lnl ls cr i)[at_]?
 | 0, hn => by omega
 | n + 1, hn => by
  show (accL ls cr n ++ lnl ls cr n)[_]? = _
  by_cases e : i = n
  ·subst e
   rw [List.getElem?_append_right (by omega), Nat.add_sub_cancel_left]
  ·have h1 := acc_le (ls := ls) (cr := cr) (n := i + 1) (m := n) (by omega)
   rw [acc_succ] at h1
   rw [List.getElem?_append_left (by omega)]
   exact acc_at h (by omega)
theorem lnl_mem {i : Nat} (hi : i < 9) {x : Bx} (hx : x ∈ lnl ls cr i) : (i < 8 ∧ x ∈ ls (7 - i)) ∨ (i = 8 ∧ x ∈ cr) := by
 unfold lnl at hx
 split at hx
 ·exact Or.inl ⟨by assumption, hx⟩
 ·exact Or.inr ⟨by omega, hx⟩
theorem gd_of (hp : Prt w0 b qf qc pb room most trim ls cr now nxt Ff Fc w) {i : Nat} (hi : i < 9) {x : Bx} (hx : x ∈ lnl ls cr i) : Gd w0 w (own b pb Ff Fc) x := by
 rcases lnl_mem hi hx with ⟨h, hx⟩ | ⟨h, hx⟩
 ·exact hp.gf _ x (by omega) hx
 ·exact hp.gc x hx
def RmP (w0 : World) (b qf qc pb : Nat) (room most : Int) (trim : Bool) (ls : Nat → List Bx) (cr : List Bx) (now nxt : Int) (Ff Fc : Nat → Prop) (w : World) (i at_ : Nat) (w' : World) : Prop :=
 ∃ Ff' Fc' : Nat → Prop, Prt w0 b qf qc pb room most trim (lsE ls i at_) (crE cr i at_) now nxt Ff' Fc' w' ∧ (∀ j, Ff' j → Ff j ∨ w.heap.size ≤ j) ∧ (∀ j, Fc' j → Fc j ∨ w.heap.size ≤ j) ∧ Kept (fun j => Ff j ∨ Fc j) w w'
theorem rem_of (hp : Prt w0 b qf qc pb room most trim ls cr now nxt Ff Fc w) {i at_ : Nat} (hi : i < 9) {x : Bx} (hx : (lnl ls cr i)[at_]? = some x) (hl : (lnl ls cr i).length ≤ 100000) :
  Calls Tryz.prog 78 #[.pointer (some ⟨(lq qf qc i).1, 0, none⟩), .int .i64 ((lq qf qc i).2 : Nat), .int .i64 (at_ : Nat)] w fun e w' => e = .returned (.tuple #[bv x, .bool true]) ∧ RmP w0 b qf qc pb room most trim ls cr now nxt Ff Fc w i at_ w' := by
 unfold RmP lsE crE
 unfold lnl at hx hl
 unfold lq
 by_cases h8 : i < 8
 ·simp only [if_pos h8] at hx hl ⊢
  refine (remove_yes hp.fr (p := 7 - i) (k := at_) rfl rfl (by omega) hx hl).mono ?_
  rintro e w' ⟨rfl, Ff', hS, hN⟩
  exact ⟨rfl, Ff', Fc, hp.turnF hS hN (fun k y hk hy => (mem_upd (ls := ls) (P := fun _ => False) (by omega) (fun z hz => Or.inl (List.mem_of_mem_eraseIdx hz)) hk hy).imp id (fun f => f.elim)), hN.2, fun j f => Or.inl f, hN.1.mono (fun _ _ f => Or.inl f)⟩
 ·simp only [if_neg h8] at hx hl ⊢
  have e0 : crl cr 0 = cr := upd_self _ _ _
  refine (remove_yes hp.cq (p := 0) (k := at_) rfl rfl (by decide) (by rw [e0]; exact hx) (by rw [e0]; exact hl)).mono ?_
  rintro e w' ⟨rfl, Fc', hS, hN⟩
  rw [e0, show upd (crl cr) 0 (cr.eraseIdx at_) = crl (cr.eraseIdx at_) from upd_upd _ _ _ _] at hS
  exact ⟨rfl, Ff, Fc', hp.turnC hS hN (fun y hy => hp.kinds y (List.mem_of_mem_eraseIdx hy)) (fun y hy => Or.inl (List.mem_of_mem_eraseIdx hy)), fun j f => Or.inl f, hN.2, hN.1.mono (fun _ _ f => Or.inr f)⟩
theorem at_of (hp : Prt w0 b qf qc pb room most trim ls cr now nxt Ff Fc w) {i at_ : Nat} (hi : i < 9) {x : Bx} (hx : (lnl ls cr i)[at_]? = some x) (hl : (lnl ls cr i).length ≤ 100000) :
  Calls Tryz.prog 95 #[.pointer (some ⟨(lq qf qc i).1, 0, none⟩), .int .i64 ((lq qf qc i).2 : Nat), .int .i64 (at_ : Nat)] w fun e w' => e = .returned (.tuple #[bv x, .bool true]) ∧ Kept (fun _ => False) w w' := by
 unfold lnl at hx hl
 unfold lq
 by_cases h8 : i < 8
 ·simp only [if_pos h8] at hx hl ⊢
  exact qat_any hp.fr (p := 7 - i) (k := at_) rfl rfl (by omega) hx hl
 ·simp only [if_neg h8] at hx hl ⊢
  have e0 : crl cr 0 = cr := upd_self _ _ _
  exact qat_any hp.cq (p := 0) (k := at_) rfl rfl (by decide) (by rw [e0]; exact hx) (by rw [e0]; exact hl)
end Go.Proofs.YtpogpibjkolioaaGreat.Po

/- A port again: what it writes is told apart from the data that wait there. Conditions: each theorem's own. -/
namespace Go.Proofs.YtpogpibjkolioaaGreat.Fo
open Go.RowKit Hp QuM QuN Rw Qu NumM NumC Po
variable {w0 w w' : World} {b qf qc pb : Nat} {room most : Int} {trim : Bool} {ls : Nat → List Bx} {cr : List Bx} {now nxt : Int} {Ff Fc F G : Nat → Prop}
def PO (w0 : World) (b : Nat) (room most : Int) (trim : Bool) (ls : Nat → List Bx) (cr : List Bx) (now next : Int) (F : Nat → Prop) (w : World) : Prop :=
 ∃ qf qc pb Ff Fc, Prt w0 b qf qc pb room most trim ls cr now next Ff Fc w ∧ F = own b pb Ff Fc
def In (ls : Nat → List Bx) (cr : List Bx) (x : Bx) : Prop := (∃ k, k < 8 ∧ x ∈ ls k) ∨ x ∈ cr
theorem PO.ps (h : PO w0 b room most trim ls cr now nxt F w) : ∃ F', PS w0 b room most trim ls cr now nxt F' w := by
 obtain ⟨qf, qc, pb, Ff, Fc, h, e⟩ := h
 exact ⟨_, qf, qc, pb, Ff, Fc, h, rfl⟩
theorem PO.old (h : PO w0 b room most trim ls cr now nxt F w) (k : Kept (fun _ => False) w w') : PO w0 b room most trim ls cr now nxt F w' := by
 obtain ⟨qf, qc, pb, Ff, Fc, h, e⟩ := h
 exact ⟨qf, qc, pb, Ff, Fc, h.old k, e⟩
theorem PO.far (h : PO w0 b room most trim ls cr now nxt F w) (k : Kept G w w') (hG : ∀ i, G i → F i → False) (hD : ∀ x, In ls cr x → ∀ g, xb x = some g → ¬ G g) (hw : ∀ i, G i → w0.heap.size ≤ i) : PO w0 b room most trim ls cr now nxt F w' := by
 obtain ⟨qf, qc, pb, Ff, Fc, h, rfl⟩ := h
 refine ⟨qf, qc, pb, Ff, Fc, h.far k (fun i g f => ?_) hw, rfl⟩
 rcases f with f | ⟨k, x, hk, hx, e⟩ | ⟨x, hx, e⟩
 ·exact hG i g f
 ·exact hD x (Or.inl ⟨k, hk, hx⟩) i e g
 ·exact hD x (Or.inr hx) i e g
theorem PO.bound (h : PO w0 b room most trim ls cr now nxt F w) {i : Nat} (hi : F i) : w0.heap.size ≤ i ∧ i < w.heap.size := by
 obtain ⟨qf, qc, pb, Ff, Fc, h, rfl⟩ := h
 exact h.ownb hi
theorem PO.since (h : PO w0 b room most trim ls cr now nxt F w) : Kept (fun _ => False) w0 w := by
 obtain ⟨qf, qc, pb, Ff, Fc, h, rfl⟩ := h
 exact h.fr.1
theorem PO.gd (h : PO w0 b room most trim ls cr now nxt F w) {x : Bx} (hx : In ls cr x) : Gd w0 w F x := by
 obtain ⟨qf, qc, pb, Ff, Fc, h, rfl⟩ := h
 rcases hx with ⟨k, hk, hx⟩ | hx
 ·exact h.gf k x hk hx
 ·exact h.gc x hx
theorem PO.cell0 (h : PO w0 b room most trim ls cr now nxt F w) : b < w.heap.size ∧ w.cell? ⟨b, 0, none⟩ = some (.bool trim) := by
 obtain ⟨qf, qc, pb, Ff, Fc, hp, rfl⟩ := h
 exact ⟨hp.blk.lt, hp.blk.cell (o := 0) rfl⟩
theorem PO.tot (h : PO w0 b room most trim ls cr now nxt F w) : 0 ≤ room ∧ tot ls 8 ≤ room ∧ room ≤ 1073741824 ∧ 0 ≤ most ∧ most ≤ 1073741824 := by
 obtain ⟨qf, qc, pb, Ff, Fc, hp, rfl⟩ := h
 exact ⟨hp.fr.2.1.1, hp.fr.2.1.2.2, hp.lim.2.2, hp.lim.1, hp.lim.2.1⟩
theorem PO.kinds (h : PO w0 b room most trim ls cr now nxt F w) : ∀ x ∈ cr, x.f.kind = 11 := by
 obtain ⟨qf, qc, pb, Ff, Fc, hp, rfl⟩ := h
 exact hp.kinds
theorem gd_base {wa wb : World} {O : Nat → Prop} {x : Bx} (h : Gd wb w O x) (k : wa.heap.size ≤ wb.heap.size) : Gd wa w O x :=
 ⟨h.1, h.2.1, h.2.2.1.base (fun g hg => Nat.le_trans k (h.2.2.1.lt g hg).1), h.2.2.2⟩
theorem st_base {wa wb : World} {q : Nat} {r : Int} (h : St wb q r ls F w) (k : Kept (fun _ => False) wa wb) : St wa q r ls F w := by
 obtain ⟨h0, hr, c, vs, fs, h1, h2, h3, h4⟩ := h
 exact ⟨k.trans h0, hr, c, vs, fs, h1, h2, h3, fun i hi => ⟨Nat.le_trans k.size (h4 i hi).1, (h4 i hi).2⟩⟩
theorem po_of_ps {wa wb : World} (h : PS wb b room most trim ls cr now nxt F w) (k : Kept (fun _ => False) wa wb) : ∃ F', PO wa b room most trim ls cr now nxt F' w ∧ ∀ i, F' i → F i := by
 obtain ⟨qf, qc, pb, Ff, Fc, h, rfl⟩ := h
 exact ⟨_, ⟨qf, qc, pb, Ff, Fc, { h with fr := st_base h.fr k, cq := st_base h.cq k, low := ⟨Nat.le_trans k.size h.low.1, Nat.le_trans k.size h.low.2⟩, gf := fun j x hj hx => gd_base (h.gf j x hj hx) k.size, gc := fun x hx => gd_base (h.gc x hx) k.size }, rfl⟩, fun i hi => Or.inl hi⟩
theorem own_step {n : Nat} {Ff' Fc' : Nat → Prop} (hF : ∀ i, Ff' i → Ff i ∨ n ≤ i) (hC : ∀ i, Fc' i → Fc i ∨ n ≤ i) {i : Nat} (h : own b pb Ff' Fc' i) : own b pb Ff Fc i ∨ n ≤ i := by
 rcases h with e | e | e | e
 ·exact Or.inl (Or.inl e)
 ·exact Or.inl (Or.inr (Or.inl e))
 ·exact (hF i e).imp (fun e => Or.inr (Or.inr (Or.inl e))) id
 ·exact (hC i e).imp (fun e => Or.inr (Or.inr (Or.inr e))) id
end Go.Proofs.YtpogpibjkolioaaGreat.Fo

/- A net of hosts, leaves and spines by numbers alone: a port's group and its two numbers, what comes next, its name; no two names are alike; a frame's route. Conditions: each theorem's own. -/
namespace Go.Proofs.YtpogpibjkolioaaGreat.TpM
structure Net (H S : Int) : Prop where
 h0 : 2 ≤ H
 h1 : H ≤ 8
 s0 : 1 ≤ S
 s1 : S ≤ 4
def lv (H : Int) : Int := (H + 1) / 2
def mm (H S : Int) : Int := lv H * S
theorem lv_in {H S : Int} (h : Net H S) : 1 ≤ lv H ∧ lv H ≤ 4 ∧ H ≤ 2 * lv H ∧ 2 * lv H ≤ H + 1 := by obtain ⟨_, _, _, _⟩ := h; unfold lv; omega
theorem mm_in {H S : Int} (h : Net H S) : 1 ≤ mm H S ∧ mm H S ≤ 16 := by
 obtain ⟨a, b, c, d⟩ := h
 have e : S = 1 ∨ S = 2 ∨ S = 3 ∨ S = 4 := by omega
 unfold mm lv
 rcases e with rfl | rfl | rfl | rfl <;> omega
theorem mul_in {l x n L : Int} (hl : 0 ≤ l) (hl2 : l < L) (hx : 0 ≤ x) (hx2 : x < n) : 0 ≤ l * n ∧ l * n + x < L * n := by
 have h1 : 0 ≤ l * n := Int.mul_nonneg hl (by omega)
 have h2 : (l + 1) * n ≤ L * n := Int.mul_le_mul_of_nonneg_right (by omega) (by omega)
 rw [Int.add_mul, Int.one_mul] at h2
 omega
theorem div_of {l x n : Int} (hx : 0 ≤ x) (hx2 : x < n) : (l * n + x) / n = l ∧ (l * n + x) % n = x := by
 have hn : n ≠ 0 := by omega
 rw [Int.add_comm, Int.add_mul_ediv_right _ _ hn, Int.ediv_eq_zero_of_lt hx hx2, Int.add_mul_emod_self_right, Int.emod_eq_of_lt hx hx2]
 omega
theorem div_in {k n L : Int} (hn : 1 ≤ n) (h0 : 0 ≤ k) (h1 : k < L * n) : 0 ≤ k / n ∧ k / n < L ∧ 0 ≤ k % n ∧ k % n < n ∧ k / n * n + k % n = k :=
 ⟨Int.ediv_nonneg h0 (by omega), Int.ediv_lt_of_lt_mul (by omega) h1, Int.emod_nonneg _ (by omega), Int.emod_lt_of_pos _ (by omega), by rw [Int.mul_comm]; exact Int.mul_ediv_add_emod k n⟩
def pts (H S : Int) : Int := 2 * H + 2 * mm H S
def kd (H S p : Int) : Int × Int × Int :=
 if p < 0 ∨ pts H S ≤ p then (0, 0, 0)
 else if p < H then (1, p, p / 2)
 else if p < 2 * H then (2, (p - H) / 2, p - H)
 else if p < 2 * H + mm H S then (3, (p - 2 * H) / S, (p - 2 * H) % S)
 else (4, (p - 2 * H - mm H S) / lv H, (p - 2 * H - mm H S) % lv H)
variable {H S p : Int}
theorem kd_none (h : p < 0 ∨ pts H S ≤ p) : kd H S p = (0, 0, 0) := by unfold kd; rw [if_pos h]
theorem kd_up (n : Net H S) (h0 : 0 ≤ p) (h1 : p < H) : kd H S p = (1, p, p / 2) := by
 have := n.h0; have := mm_in n
 unfold kd pts; rw [if_neg (by omega), if_pos h1]
theorem kd_down (n : Net H S) (h0 : H ≤ p) (h1 : p < 2 * H) : kd H S p = (2, (p - H) / 2, p - H) := by
 have := n.h0; have := mm_in n
 unfold kd pts; rw [if_neg (by omega), if_neg (by omega), if_pos h1]
theorem kd_lup (n : Net H S) (h0 : 2 * H ≤ p) (h1 : p < 2 * H + mm H S) : kd H S p = (3, (p - 2 * H) / S, (p - 2 * H) % S) := by
 have := n.h0; have := mm_in n
 unfold kd pts; rw [if_neg (by omega), if_neg (by omega), if_neg (by omega), if_pos h1]
theorem kd_sdn (n : Net H S) (h0 : 2 * H + mm H S ≤ p) (h1 : p < 2 * H + 2 * mm H S) : kd H S p = (4, (p - 2 * H - mm H S) / lv H, (p - 2 * H - mm H S) % lv H) := by
 have := n.h0; have := mm_in n
 unfold kd pts; rw [if_neg (by omega), if_neg (by omega), if_neg (by omega), if_neg (by omega)]
theorem five (n : Net H S) (p : Int) : (p < 0 ∨ pts H S ≤ p) ∨ (0 ≤ p ∧ p < H) ∨ (H ≤ p ∧ p < 2 * H) ∨ (2 * H ≤ p ∧ p < 2 * H + mm H S) ∨ (2 * H + mm H S ≤ p ∧ p < 2 * H + 2 * mm H S) := by
 have := n.h0; have := mm_in n
 unfold pts; omega
theorem kd_in (n : Net H S) (p : Int) : 0 ≤ (kd H S p).1 ∧ (kd H S p).1 ≤ 4 ∧ 0 ≤ (kd H S p).2.1 ∧ (kd H S p).2.1 < 8 ∧ 0 ≤ (kd H S p).2.2 ∧ (kd H S p).2.2 < 8 := by
 have hl := lv_in n
 have hm := mm_in n
 have ⟨_, _, _, _⟩ := n
 rcases five n p with h | ⟨h, h2⟩ | ⟨h, h2⟩ | ⟨h, h2⟩ | ⟨h, h2⟩
 ·rw [kd_none h]; decide
 ·rw [kd_up n h h2]; dsimp only; omega
 ·rw [kd_down n h h2]; dsimp only; omega
 ·rw [kd_lup n h h2]; dsimp only
  have := div_in (k := p - 2 * H) (n := S) (L := lv H) (by omega) (by omega) (by show _ < mm H S; omega)
  omega
 ·rw [kd_sdn n h h2]; dsimp only
  have e : lv H * S = S * lv H := Int.mul_comm _ _
  have := div_in (k := p - 2 * H - mm H S) (n := lv H) (L := S) (by omega) (by omega) (by rw [← e]; show _ < mm H S; omega)
  omega
def bk (H S : Int) (t : Int × Int × Int) : Int :=
 if t.1 = 1 then t.2.1 else if t.1 = 2 then H + t.2.2 else if t.1 = 3 then 2 * H + (t.2.1 * S + t.2.2) else 2 * H + mm H S + (t.2.1 * lv H + t.2.2)
def dg (i : Int) : UInt8 := UInt8.ofNat (48 + i.toNat)
def nm (t : Int × Int × Int) : List UInt8 :=
 if t.1 = 1 then [104, dg t.2.1]
 else if t.1 = 2 then [108, dg t.2.1, 45, 104, dg t.2.2]
 else if t.1 = 3 then [108, dg t.2.1, 45, 115, dg t.2.2]
 else if t.1 = 4 then [115, dg t.2.1, 45, 108, dg t.2.2]
 else []
def sp (S q : Int) : Int := if q.tmod S < 0 then q.tmod S + S else q.tmod S
theorem sp_in (n : Net H S) (q : Int) : 0 ≤ sp S q ∧ sp S q < S := by
 have h0 := n.s0
 have h1 : q.tmod S < S := Int.tmod_lt_of_pos q (by omega)
 have h2 : -S < q.tmod S := by
  have := Int.tmod_lt_of_pos (-q) (b := S) (by omega)
  rw [Int.neg_tmod] at this
  omega
 unfold sp
 split <;> omega
def nx (H S p d q : Int) : Int × Bool :=
 if d < 0 ∨ H ≤ d then (-1, false)
 else if (kd H S p).1 = 1 then if (kd H S p).2.2 = d / 2 then (H + d, false) else (2 * H + ((kd H S p).2.2 * S + sp S q), false)
 else if (kd H S p).1 = 2 then (-1, true)
 else if (kd H S p).1 = 3 then (2 * H + mm H S + ((kd H S p).2.2 * lv H + d / 2), false)
 else if (kd H S p).1 = 4 then if (kd H S p).2.2 = d / 2 then (H + d, false) else (-1, false)
 else (-1, false)
variable {d q : Int}
theorem nx_off (h : d < 0 ∨ H ≤ d) : nx H S p d q = (-1, false) := by unfold nx; rw [if_pos h]
theorem nx_none (h : p < 0 ∨ pts H S ≤ p) : nx H S p d q = (-1, false) := by unfold nx; rw [kd_none h]; simp
theorem nx_up (n : Net H S) (d0 : 0 ≤ d) (d1 : d < H) (h0 : 0 ≤ p) (h1 : p < H) : nx H S p d q = if p / 2 = d / 2 then (H + d, false) else (2 * H + (p / 2 * S + sp S q), false) := by
 unfold nx; rw [if_neg (by omega), kd_up n h0 h1]; simp
theorem nx_down (n : Net H S) (d0 : 0 ≤ d) (d1 : d < H) (h0 : H ≤ p) (h1 : p < 2 * H) : nx H S p d q = (-1, true) := by
 unfold nx; rw [if_neg (by omega), kd_down n h0 h1]; simp
theorem nx_lup (n : Net H S) (d0 : 0 ≤ d) (d1 : d < H) (h0 : 2 * H ≤ p) (h1 : p < 2 * H + mm H S) : nx H S p d q = (2 * H + mm H S + ((p - 2 * H) % S * lv H + d / 2), false) := by
 unfold nx; rw [if_neg (by omega), kd_lup n h0 h1]; simp
theorem nx_sdn (n : Net H S) (d0 : 0 ≤ d) (d1 : d < H) (h0 : 2 * H + mm H S ≤ p) (h1 : p < 2 * H + 2 * mm H S) : nx H S p d q = if (p - 2 * H - mm H S) % lv H = d / 2 then (H + d, false) else (-1, false) := by
 unfold nx; rw [if_neg (by omega), kd_sdn n h0 h1]; simp
def hp (H s d : Int) : Int := if (s < 0 ∨ H ≤ s) ∨ (d < 0 ∨ H ≤ d) then 0 else if s / 2 = d / 2 then 2 else 4
theorem half (n : Net H S) (h0 : 0 ≤ p) (h1 : p < H) : 0 ≤ p / 2 ∧ p / 2 < lv H := by unfold lv; omega
end Go.Proofs.YtpogpibjkolioaaGreat.TpM

/- A fabric's ports by lists: what a Put, a Take and a Drop make of one, sums over all that waits, where a frame may wait. Conditions: each theorem's own. -/
namespace Go.Proofs.YtpogpibjkolioaaGreat.FbM
open QuM Po Fo NumM TpM
structure Pt where
 ls : Nat → List Bx
 cr : List Bx
 now : Int
 nxt : Int
def sm (g : Bx → Int) : List Bx → Int
 | [] => 0
 | x :: l => g x + sm g l
theorem sm_append (g : Bx → Int) : ∀ a c : List Bx, sm g (a ++ c) = sm g a + sm g c
 | [], c => by show sm g c = 0 + sm g c; omega
 | x :: a, c => by show g x + sm g (a ++ c) = g x + sm g a + sm g c; rw [sm_append g a c]; omega
theorem sm_erase (g : Bx → Int) : ∀ {L : List Bx} {k : Nat} {x : Bx}, L[k]? = some x → sm g (L.eraseIdx k) = sm g L - g x
 | [], k, x, h => by simp at h
 | y :: L, 0, x, h => by simp at h; subst h; rw [List.eraseIdx_cons_zero]; show _ = g y + sm g L - g y; omega
 | y :: L, k + 1, x, h => by
  have := sm_erase g (L := L) (k := k) (x := x) (by simpa using h)
  rw [List.eraseIdx_cons_succ]
  show g y + sm g (L.eraseIdx k) = g y + sm g L - g x
  omega
theorem sm_nonneg {g : Bx → Int} : ∀ {L : List Bx}, (∀ x ∈ L, 0 ≤ g x) → 0 ≤ sm g L
 | [], _ => Int.le_refl _
 | x :: L, h => by
  have := sm_nonneg (L := L) fun y hy => h y (List.mem_cons_of_mem _ hy)
  have := h x List.mem_cons_self
  show 0 ≤ g x + sm g L
  omega
theorem sm_le {g : Bx → Int} {m : Int} : ∀ {L : List Bx}, (∀ x ∈ L, g x ≤ m) → sm g L ≤ m * L.length
 | [], _ => by show (0 : Int) ≤ m * 0; omega
 | x :: L, h => by
  have := sm_le (L := L) (m := m) fun y hy => h y (List.mem_cons_of_mem _ hy)
  have := h x List.mem_cons_self
  show g x + sm g L ≤ m * ((L.length + 1 : Nat) : Int)
  rw [Int.natCast_add, Int.mul_add]
  omega
theorem sm_one : ∀ L : List Bx, sm (fun _ => 1) L = L.length
 | [] => rfl
 | x :: L => by show 1 + sm (fun _ => 1) L = ((L.length + 1 : Nat) : Int); rw [sm_one L]; omega
def tw (g : Bx → Int) (ls : Nat → List Bx) : Nat → Int
 | 0 => 0
 | n + 1 => tw g ls n + sm g (ls n)
theorem tw_out {g : Bx → Int} {ls : Nat → List Bx} {k : Nat} {L : List Bx} : ∀ {n : Nat}, n ≤ k → tw g (upd ls k L) n = tw g ls n
 | 0, _ => rfl
 | n + 1, h => by unfold tw; rw [tw_out (by omega), upd_ne ls L (by omega)]
theorem tw_upd {g : Bx → Int} {ls : Nat → List Bx} {k : Nat} {L : List Bx} : ∀ {n : Nat}, k < n → tw g (upd ls k L) n = tw g ls n - sm g (ls k) + sm g L
 | 0, h => by omega
 | n + 1, h => by
  unfold tw
  by_cases e : k = n
  ·subst e; rw [tw_out (Nat.le_refl _), upd_self]; omega
  ·rw [tw_upd (by omega), upd_ne ls L (fun e2 => e e2.symm)]; omega
def wt (g : Bx → Int) (P : Pt) : Int := tw g P.ls 8 + sm g P.cr
def putD (room most : Int) (trim : Bool) (P : Pt) (x : Bx) : Int × Nat :=
 if x.f.kind = 11 then (if (P.cr.length : Int) < most then (1, 8) else (3, 9))
 else if tot P.ls 8 + szI (nb x) ≤ room then (1, (prI x).toNat)
 else if trim = true ∧ x.f.kind = 1 ∧ tot P.ls 8 + 26 ≤ room then (2, 7) else (3, 9)
def itF (r : Int) (x : Bx) : WrM.Frm := if r = 2 then (trX x).f else x.f
def addP (P : Pt) (k : Nat) (y : Bx) : Pt := if k < 8 then { P with ls := upd P.ls k (P.ls k ++ [y]) } else if k = 8 then { P with cr := P.cr ++ [y] } else P
theorem wt_add (g : Bx → Int) (P : Pt) (k : Nat) (y : Bx) : wt g (addP P k y) = wt g P + if k < 9 then g y else 0 := by
 unfold wt addP
 by_cases h : k < 8
 ·rw [if_pos h, if_pos (by omega)]
  dsimp only
  rw [tw_upd h, sm_append]
  show _ - _ + (_ + (g y + 0)) + _ = _
  omega
 ·rw [if_neg h]
  by_cases h2 : k = 8
  ·rw [if_pos h2, if_pos (by omega)]
   dsimp only
   rw [sm_append]
   show _ + (_ + (g y + 0)) = _
   omega
  ·rw [if_neg h2, if_neg (by omega)]; omega
theorem putD_in (room most : Int) (trim : Bool) (P : Pt) (x : Bx) : (putD room most trim P x).1 = 3 ∧ (putD room most trim P x).2 = 9 ∨ ((putD room most trim P x).1 = 1 ∨ (putD room most trim P x).1 = 2 ∧ x.f.kind = 1) ∧ (putD room most trim P x).2 < 9 := by
 unfold putD
 have := prI_bd x
 split
 ·split
  ·right; exact ⟨Or.inl rfl, by decide⟩
  ·left; exact ⟨rfl, rfl⟩
 ·split
  ·right; exact ⟨Or.inl rfl, by dsimp only; omega⟩
  ·split
   ·rename_i h; right; exact ⟨Or.inr ⟨rfl, h.2.1⟩, by decide⟩
   ·left; exact ⟨rfl, rfl⟩
def tkM (P : Pt) (t : Int) : Int := clampI t P.now 1125899906842624
def tkL (P : Pt) (t : Int) : Nat := if P.cr ≠ [] ∧ P.nxt ≤ tkM P t then 8 else (top P.ls 8).getD 9
def tkX (P : Pt) (t : Int) : Option Bx := if tkL P t < 8 then (P.ls (tkL P t)).head? else if tkL P t = 8 then P.cr.head? else none
def tkP (P : Pt) (t : Int) : Pt :=
 if tkL P t < 8 then { P with ls := upd P.ls (tkL P t) (P.ls (tkL P t)).tail, now := tkM P t }
 else if tkL P t = 8 then { P with cr := P.cr.tail, now := tkM P t, nxt := tkM P t + 4 }
 else { P with now := tkM P t }
theorem sm_tail (g : Bx → Int) {l : List Bx} {x : Bx} (h : l.head? = some x) : sm g l.tail = sm g l - g x := by
 cases l with
 | nil => simp at h
 | cons y l => simp at h; subst h; show sm g l = g y + sm g l - g y; omega
theorem wt_tk (g : Bx → Int) {P : Pt} {t : Int} {x : Bx} (h : tkX P t = some x) : wt g (tkP P t) = wt g P - g x := by
 unfold tkX at h
 unfold tkP wt
 by_cases h1 : tkL P t < 8
 ·rw [if_pos h1] at h ⊢
  dsimp only
  rw [tw_upd h1, sm_tail g h]; omega
 ·rw [if_neg h1] at h ⊢
  by_cases h2 : tkL P t = 8
  ·rw [if_pos h2] at h ⊢
   dsimp only
   rw [sm_tail g h]; omega
  ·rw [if_neg h2] at h; cases h
theorem tk_none {P : Pt} {t : Int} (h : tkX P t = none) : tkP P t = { P with now := tkM P t } ∧ top P.ls 8 = none ∧ (P.cr = [] ∨ tkM P t < P.nxt) := by
 unfold tkX at h
 unfold tkP
 by_cases h1 : tkL P t < 8
 ·rw [if_pos h1] at h
  exfalso
  unfold tkL at h h1
  by_cases hc : P.cr ≠ [] ∧ P.nxt ≤ tkM P t
  ·rw [if_pos hc] at h1; omega
  ·rw [if_neg hc] at h h1
   cases ht : top P.ls 8 with
   | none => rw [ht] at h1; simp at h1
   | some p =>
    rw [ht] at h
    exact (top_some ht).2.1 (by simpa using h)
 ·by_cases h2 : tkL P t = 8
  ·rw [if_neg h1, if_pos h2] at h
   exfalso
   unfold tkL at h2
   by_cases hc : P.cr ≠ [] ∧ P.nxt ≤ tkM P t
   ·exact hc.1 (by simpa using h)
   ·rw [if_neg hc] at h2
    cases ht : top P.ls 8 with
    | none => rw [ht] at h2; simp at h2
    | some p => rw [ht] at h2; have := (top_some ht).1; simp at h2; omega
  ·rw [if_neg h1, if_neg h2]
   refine ⟨rfl, ?_, ?_⟩
   ·cases ht : top P.ls 8 with
    | none => rfl
    | some p =>
     exfalso
     have hp := (top_some ht).1
     unfold tkL at h1 h2
     split at h1
     ·rename_i hc; rw [if_pos hc] at h2; exact h2 rfl
     ·rw [ht] at h1; simp at h1; omega
   ·by_cases hc : P.cr = []
    ·exact Or.inl hc
    ·refine Or.inr ?_
     rcases Int.lt_or_le (tkM P t) P.nxt with h3 | h3
     ·exact h3
     ·exfalso; apply h2; unfold tkL; rw [if_pos ⟨hc, h3⟩]
theorem tk_some {P : Pt} {t : Int} {x : Bx} (h : tkX P t = some x) :
  (∃ R, P.cr = x :: R ∧ P.nxt ≤ tkM P t ∧ tkP P t = { P with cr := R, now := tkM P t, nxt := tkM P t + 4 }) ∨
  ∃ p R, top P.ls 8 = some p ∧ P.ls p = x :: R ∧ (P.cr = [] ∨ tkM P t < P.nxt) ∧ tkP P t = { P with ls := upd P.ls p R, now := tkM P t } := by
 by_cases hc : P.cr ≠ [] ∧ P.nxt ≤ tkM P t
 ·have hL : tkL P t = 8 := by unfold tkL; rw [if_pos hc]
  unfold tkX at h
  rw [hL, if_neg (by decide), if_pos rfl] at h
  left
  cases hl : P.cr with
  | nil => rw [hl] at h; simp at h
  | cons y R =>
   rw [hl] at h
   simp at h; subst h
   refine ⟨R, rfl, hc.2, ?_⟩
   unfold tkP
   rw [hL, if_neg (by decide), if_pos rfl, hl]; rfl
 ·right
  have hL : tkL P t = (top P.ls 8).getD 9 := by unfold tkL; rw [if_neg hc]
  cases ht : top P.ls 8 with
  | none =>
   rw [ht] at hL
   unfold tkX at h
   rw [hL] at h
   simp at h
  | some p =>
   rw [ht] at hL
   have hp := top_some ht
   have hL : tkL P t = p := hL
   unfold tkX at h
   rw [hL, if_pos hp.1] at h
   cases hl : P.ls p with
   | nil => exact absurd hl hp.2.1
   | cons y R =>
    rw [hl] at h
    simp at h; subst h
    refine ⟨p, R, rfl, hl, ?_, ?_⟩
    ·by_cases h0 : P.cr = []
     ·exact Or.inl h0
     ·refine Or.inr ?_
      rcases Int.lt_or_le (tkM P t) P.nxt with h3 | h3
      ·exact h3
      ·exact absurd ⟨h0, h3⟩ hc
    ·unfold tkP
     rw [hL, if_pos hp.1, hl]; rfl
theorem in_tk {P : Pt} {t : Int} {y : Bx} (h : In (tkP P t).ls (tkP P t).cr y) : In P.ls P.cr y := by
 unfold tkP at h
 by_cases h1 : tkL P t < 8
 ·rw [if_pos h1] at h
  rcases h with ⟨k, hk, hy⟩ | hy
  ·by_cases e : k = tkL P t
   ·subst e
    dsimp only at hy
    rw [upd_self] at hy
    exact Or.inl ⟨_, hk, List.mem_of_mem_tail hy⟩
   ·dsimp only at hy
    rw [upd_ne _ _ e] at hy
    exact Or.inl ⟨_, hk, hy⟩
  ·exact Or.inr hy
 ·rw [if_neg h1] at h
  by_cases h2 : tkL P t = 8
  ·rw [if_pos h2] at h
   rcases h with h | hy
   ·exact Or.inl h
   ·exact Or.inr (List.mem_of_mem_tail hy)
  ·rw [if_neg h2] at h
   exact h
theorem in_tkX {P : Pt} {t : Int} {x : Bx} (h : tkX P t = some x) : In P.ls P.cr x := by
 rcases tk_some h with ⟨R, e, _⟩ | ⟨p, R, ht, e, _⟩
 ·exact Or.inr (by rw [e]; exact List.mem_cons_self)
 ·exact Or.inl ⟨p, (top_some ht).1, by rw [e]; exact List.mem_cons_self⟩
theorem in_add {P : Pt} {k : Nat} {y z : Bx} (h : In (addP P k y).ls (addP P k y).cr z) : In P.ls P.cr z ∨ k < 9 ∧ z = y := by
 unfold addP at h
 by_cases h1 : k < 8
 ·rw [if_pos h1] at h
  rcases h with ⟨j, hj, hy⟩ | hy
  ·by_cases e : j = k
   ·subst e
    dsimp only at hy
    rw [upd_self] at hy
    rcases List.mem_append.1 hy with hy | hy
    ·exact Or.inl (Or.inl ⟨_, hj, hy⟩)
    ·exact Or.inr ⟨by omega, List.mem_singleton.1 hy⟩
   ·dsimp only at hy
    rw [upd_ne _ _ e] at hy
    exact Or.inl (Or.inl ⟨_, hj, hy⟩)
  ·exact Or.inl (Or.inr hy)
 ·rw [if_neg h1] at h
  by_cases h2 : k = 8
  ·rw [if_pos h2] at h
   rcases h with h | hy
   ·exact Or.inl (Or.inl h)
   ·rcases List.mem_append.1 hy with hy | hy
    ·exact Or.inl (Or.inr hy)
    ·exact Or.inr ⟨by omega, List.mem_singleton.1 hy⟩
  ·rw [if_neg h2] at h
   exact Or.inl h
def drP (P : Pt) (i at_ : Nat) : Pt := { P with ls := lsE P.ls i at_, cr := crE P.cr i at_ }
theorem wt_dr (g : Bx → Int) {P : Pt} {i at_ : Nat} {x : Bx} (hi : i < 9) (h : (lnl P.ls P.cr i)[at_]? = some x) : wt g (drP P i at_) = wt g P - g x := by
 unfold wt drP lsE crE
 unfold lnl at h
 dsimp only
 by_cases h1 : i < 8
 ·rw [if_pos h1] at h ⊢
  rw [if_pos h1, tw_upd (by omega), sm_erase g h]; omega
 ·rw [if_neg h1] at h ⊢
  rw [if_neg h1, sm_erase g h]; omega
theorem in_dr {P : Pt} {i at_ : Nat} {z : Bx} (hi : i < 9) (h : In (drP P i at_).ls (drP P i at_).cr z) : In P.ls P.cr z := by
 unfold drP lsE crE at h
 dsimp only at h
 rcases h with ⟨j, hj, hy⟩ | hy
 ·split at hy
  ·by_cases e : j = 7 - i
   ·subst e
    rw [upd_self] at hy
    exact Or.inl ⟨_, hj, List.mem_of_mem_eraseIdx hy⟩
   ·rw [upd_ne _ _ e] at hy
    exact Or.inl ⟨_, hj, hy⟩
  ·exact Or.inl ⟨_, hj, hy⟩
 ·split at hy
  ·exact Or.inr hy
  ·exact Or.inr (List.mem_of_mem_eraseIdx hy)
theorem sm_acc (g : Bx → Int) (P : Pt) : sm g (accL P.ls P.cr 9) = wt g P := by
 show sm g (((((((((([] ++ lnl P.ls P.cr 0) ++ lnl P.ls P.cr 1) ++ lnl P.ls P.cr 2) ++ lnl P.ls P.cr 3) ++ lnl P.ls P.cr 4) ++ lnl P.ls P.cr 5) ++ lnl P.ls P.cr 6) ++ lnl P.ls P.cr 7) ++ lnl P.ls P.cr 8)) = _
 simp only [sm_append]
 show 0 + sm g (P.ls 7) + sm g (P.ls 6) + sm g (P.ls 5) + sm g (P.ls 4) + sm g (P.ls 3) + sm g (P.ls 2) + sm g (P.ls 1) + sm g (P.ls 0) + sm g P.cr = 0 + sm g (P.ls 0) + sm g (P.ls 1) + sm g (P.ls 2) + sm g (P.ls 3) + sm g (P.ls 4) + sm g (P.ls 5) + sm g (P.ls 6) + sm g (P.ls 7) + sm g P.cr
 omega
theorem in_acc {P : Pt} {x : Bx} (h : x ∈ accL P.ls P.cr 9) : In P.ls P.cr x := acc_mem (Nat.le_refl _) h
def Wt (g : Bx → Int) (M : Nat → Pt) : Nat → Int
 | 0 => 0
 | n + 1 => Wt g M n + wt g (M n)
theorem Wt_out {g : Bx → Int} {M : Nat → Pt} {k : Nat} {P : Pt} : ∀ {n : Nat}, n ≤ k → Wt g (upd M k P) n = Wt g M n
 | 0, _ => rfl
 | n + 1, h => by unfold Wt; rw [Wt_out (by omega), upd_ne M P (by omega)]
theorem Wt_upd {g : Bx → Int} {M : Nat → Pt} {k : Nat} {P : Pt} : ∀ {n : Nat}, k < n → Wt g (upd M k P) n = Wt g M n - wt g (M k) + wt g P
 | 0, h => by omega
 | n + 1, h => by
  unfold Wt
  by_cases e : k = n
  ·subst e; rw [Wt_out (Nat.le_refl _), upd_self]; omega
  ·rw [Wt_upd (by omega), upd_ne M P (fun e2 => e e2.symm)]; omega
theorem wt_nonneg {g : Bx → Int} {P : Pt} (h : ∀ x, In P.ls P.cr x → 0 ≤ g x) : 0 ≤ wt g P := by
 rw [← sm_acc]
 exact sm_nonneg fun x hx => h x (in_acc hx)
theorem Wt_nonneg {g : Bx → Int} {M : Nat → Pt} : ∀ {n : Nat}, (∀ p, p < n → ∀ x, In (M p).ls (M p).cr x → 0 ≤ g x) → 0 ≤ Wt g M n
 | 0, _ => Int.le_refl _
 | n + 1, h => by
  have := Wt_nonneg (n := n) fun p hp => h p (by omega)
  have := wt_nonneg (h n (by omega))
  show 0 ≤ Wt g M n + wt g (M n)
  omega
theorem wt_one (P : Pt) : wt (fun _ => 1) P = (accL P.ls P.cr 9).length := by rw [← sm_acc, sm_one]
theorem wt_le_Wt {g : Bx → Int} {M : Nat → Pt} {p : Nat} : ∀ {n : Nat}, p < n → (∀ q, q < n → ∀ x, In (M q).ls (M q).cr x → 0 ≤ g x) → wt g (M p) ≤ Wt g M n
 | 0, h, _ => by omega
 | n + 1, h, hg => by
  have h1 := Wt_nonneg (n := n) (M := M) fun q hq => hg q (by omega)
  have h2 := wt_nonneg (hg n (by omega))
  show wt g (M p) ≤ Wt g M n + wt g (M n)
  by_cases e : p = n
  ·subst e; omega
  ·have := wt_le_Wt (n := n) (M := M) (p := p) (by omega) fun q hq => hg q (by omega)
   omega
theorem Wt_le {g g' : Bx → Int} {M : Nat → Pt} : ∀ {n : Nat}, (∀ p, p < n → ∀ x, In (M p).ls (M p).cr x → g x ≤ g' x) → Wt g M n ≤ Wt g' M n
 | 0, _ => Int.le_refl _
 | n + 1, h => by
  have h1 := Wt_le (n := n) fun p hp => h p (by omega)
  have h2 : wt g (M n) ≤ wt g' (M n) := by
   rw [← sm_acc, ← sm_acc]
   have : ∀ L : List Bx, (∀ x ∈ L, g x ≤ g' x) → sm g L ≤ sm g' L := by
    intro L
    induction L with
    | nil => intro _; exact Int.le_refl _
    | cons x L ih =>
     intro h
     have := ih fun y hy => h y (List.mem_cons_of_mem _ hy)
     have := h x List.mem_cons_self
     show g x + sm g L ≤ g' x + sm g' L
     omega
   exact this _ fun x hx => h n (by omega) x (in_acc hx)
  show Wt g M n + wt g (M n) ≤ Wt g' M n + wt g' (M n)
  omega
def gB (h : Int) (x : Bx) : Int := if x.f.kind = 1 ∧ x.f.dst = h then x.f.len else 0
def okAt (H S p d : Int) : Prop := 0 ≤ p ∧ p < pts H S ∧ 0 ≤ d ∧ d < H ∧ ((kd H S p).1 = 2 → d = p - H) ∧ ((kd H S p).1 = 4 → (kd H S p).2.2 = d / 2)
def Fine (H S : Int) (p : Nat) (x : Bx) : Prop := okAt H S p x.f.dst ∧ 0 ≤ x.f.len ∧ x.f.len ≤ 1500
variable {H S : Int}
theorem okAt_up (n : Net H S) {p d : Int} (h0 : 0 ≤ p) (h1 : p < H) (d0 : 0 ≤ d) (d1 : d < H) : okAt H S p d := by
 have := mm_in n
 refine ⟨h0, by unfold pts; omega, d0, d1, ?_, ?_⟩ <;> rw [kd_up n h0 h1] <;> intro e <;> dsimp only at e <;> omega
theorem okAt_down (n : Net H S) {d : Int} (d0 : 0 ≤ d) (d1 : d < H) : okAt H S (H + d) d := by
 have := mm_in n
 have := n.h0
 refine ⟨by omega, by unfold pts; omega, d0, d1, fun _ => by omega, ?_⟩
 rw [kd_down n (by omega) (by omega)]; intro e; dsimp only at e; omega
theorem okAt_next (n : Net H S) {p d : Int} (h : okAt H S p d) (q : Int) : (nx H S p d q = (-1, true) ∧ p = H + d) ∨ ((nx H S p d q).2 = false ∧ okAt H S (nx H S p d q).1 d) := by
 obtain ⟨p0, p1, d0, d1, h2, h4⟩ := h
 have hl := lv_in n
 have hm := mm_in n
 have ⟨_, _, _, _⟩ := n
 rcases five n p with h | ⟨h, h1⟩ | ⟨h, h1⟩ | ⟨h, h1⟩ | ⟨h, h1⟩
 ·omega
 ·right
  rw [nx_up n d0 d1 h h1]
  split
  ·exact ⟨rfl, okAt_down n d0 d1⟩
  ·refine ⟨rfl, ?_⟩
   have hs := sp_in n q
   have hh := half n h h1
   have hm := mul_in (l := p / 2) (x := sp S q) (n := S) (L := lv H) hh.1 hh.2 hs.1 hs.2
   have e : lv H * S = mm H S := rfl
   dsimp only
   refine ⟨by omega, by unfold pts; omega, d0, d1, ?_, ?_⟩ <;> rw [kd_lup n (by omega) (by omega)] <;> intro e <;> dsimp only at e <;> omega
 ·left
  rw [nx_down n d0 d1 h h1]
  rw [kd_down n h h1] at h2
  have := h2 rfl
  exact ⟨rfl, by omega⟩
 ·right
  rw [nx_lup n d0 d1 h h1]
  refine ⟨rfl, ?_⟩
  have hd := half n d0 d1
  have e2 : S * lv H = mm H S := Int.mul_comm _ _
  have hk := div_in (k := p - 2 * H) (n := S) (L := lv H) (by omega) (by omega) (by show _ < mm H S; omega)
  have hm2 := mul_in (l := (p - 2 * H) % S) (x := d / 2) (n := lv H) (L := S) hk.2.2.1 hk.2.2.2.1 hd.1 hd.2
  have hdv := div_of (l := (p - 2 * H) % S) (x := d / 2) (n := lv H) hd.1 hd.2
  dsimp only
  refine ⟨by omega, by unfold pts; omega, d0, d1, ?_, ?_⟩
  ·rw [kd_sdn n (by omega) (by omega)]; intro e; dsimp only at e; omega
  ·rw [kd_sdn n (by omega) (by omega)]
   intro _
   dsimp only
   rw [show 2 * H + mm H S + ((p - 2 * H) % S * lv H + d / 2) - 2 * H - mm H S = (p - 2 * H) % S * lv H + d / 2 by omega]
   exact hdv.2
 ·right
  rw [nx_sdn n d0 d1 h h1]
  rw [kd_sdn n h h1] at h4
  have h4 := h4 rfl
  dsimp only at h4
  rw [if_pos h4]
  exact ⟨rfl, okAt_down n d0 d1⟩
end Go.Proofs.YtpogpibjkolioaaGreat.FbM

/- A port's Put, told so that what it writes is apart from the data. Conditions: each theorem's own. -/
namespace Go.Proofs.YtpogpibjkolioaaGreat.Fo
open Go.RowKit Hp QuM QuN Rw Qu NumM NumC Po
attribute [local go_sem ↓] Go.wp_at_zero Go.wp_at_succ
variable {w0 w w' : World} {b qf qc pb : Nat} {room most : Int} {trim : Bool} {ls : Nat → List Bx} {cr : List Bx} {now nxt : Int} {Ff Fc F : Nat → Prop}
def Fresh (w : World) (x : Bx) : Prop := ∀ g, xb x = some g → w.heap.size ≤ g
theorem ppush_cy (h : PO w0 b room most trim ls cr now nxt F w) {x : Bx} (hr : Rd w x) (hs : Sane x) (hk : x.f.kind = 11) (hc : (cr.length : Int) < most) (hl : cr.length < 100000) :
  Calls Tryz.prog 85 #[.pointer (some ⟨b, 0, none⟩), bv x] w fun e w' => e = .returned (.bool true) ∧ ∃ s c F', PO w0 b room most trim ls (cr ++ [⟨x.f, s, c, x.q⟩]) now nxt F' w' ∧ Qu.Next F w F' w' ∧ Fresh w ⟨x.f, s, c, x.q⟩ := by
 obtain ⟨qf, qc, pb, Ff, Fc, hp, rfl⟩ := h
 have h0 := hp.fr.1.size
 refine (push_of (q := qc) (p := 0) (Post := fun r w'' => r = 0 ∧ ∃ s c F', PO w0 b room most trim ls (cr ++ [⟨x.f, s, c, x.q⟩]) now nxt F' w'' ∧ Qu.Next (own b pb Ff Fc) w F' w'' ∧ Fresh w ⟨x.f, s, c, x.q⟩)
  (fun w' k => lineOf_credit (k.blk hp.blk (fun f => f)) hk) hr ?_ ?_).mono ?_
 ·intro w1 s c k hrow
  have hp1 := hp.old k
  refine (push_ok hp1.cq (p := 0) (K := 0) rfl (by decide) (x := ⟨x.f, s, c, x.q⟩) hs ?_ ?_).mono ?_
  ·have e : szI (nb (⟨x.f, s, c, x.q⟩ : Bx)) = 26 := nb_credit hk
   rw [tot_crl, sumB_credit hp.kinds, e]
   omega
  ·rw [show crl cr 0 = cr from upd_self _ _ _]; exact hl
  ·rintro e w2 ⟨rfl, Fc', hS, hN⟩
   rw [crl_push] at hS
   have hy : Gd w0 w2 (own b pb Ff Fc') ⟨x.f, s, c, x.q⟩ := gd_copy hs hr.2 h0 hrow hN.1 (fun i hi => (hp.cq.own i hi).2) (fun i hi => by
    rcases hi with e | e | e | e
    ·subst e; exact Or.inl hp.blk.lt
    ·subst e; exact Or.inl (Blk.lt hp.pace)
    ·exact Or.inl (hp.fr.own i e).2
    ·exact (hN.2 i e).imp (fun e => (hp.cq.own i e).2) id)
   have h2 := hp1.turnC hS hN (fun y hy => by
    rcases List.mem_append.1 hy with hy | hy
    ·exact hp.kinds y hy
    ·rw [List.mem_singleton] at hy; subst hy; exact hk) (fun y hy' => by
    rcases List.mem_append.1 hy' with hy' | hy'
    ·exact Or.inl hy'
    ·rw [List.mem_singleton] at hy'; subst hy'; exact Or.inr hy)
   refine ⟨0, rfl, ⟨rfl, s, c, _, ⟨qf, qc, pb, Ff, Fc', h2, rfl⟩, ⟨(k.mono (fun _ _ f => f.elim)).trans (hN.1.mono (fun i _ e => Or.inr (Or.inr (Or.inr e)))), fun i hi => ?_⟩, fun g hg => (hrow.lt g hg).1⟩, Fc, hN.1, fun i hi => (hp.cq.own i hi).2⟩
   refine own_step (fun i hi => Or.inl hi) (fun i hi => (hN.2 i hi).imp id (fun e => Nat.le_trans k.size e)) hi
 ·rintro r w' ⟨rfl, s, c, F', h1, h2, h3⟩
  exact ⟨rfl, s, c, F', h1.old (Kept.refl _ w').drew, ⟨h2.1.drew, h2.2⟩, h3⟩
 ·rintro e w' ⟨r, rfl, rfl, h⟩
  exact ⟨rfl, h⟩
theorem ppush_cn (h : PO w0 b room most trim ls cr now nxt F w) {x : Bx} (hr : Rd w x) (hs : Sane x) (hk : x.f.kind = 11) (hc : most ≤ (cr.length : Int)) :
  Calls Tryz.prog 85 #[.pointer (some ⟨b, 0, none⟩), bv x] w fun e w' => e = .returned (.bool false) ∧ Kept (fun _ => False) w w' := by
 obtain ⟨qf, qc, pb, Ff, Fc, hp, rfl⟩ := h
 refine (push_of (q := qc) (p := 0) (Post := fun r w'' => r = 4 ∧ Kept (fun _ => False) w w'') (fun w' k => lineOf_credit (k.blk hp.blk (fun f => f)) hk) hr ?_ ?_).mono ?_
 ·intro w1 s c k hrow
  refine (push_full (hp.old k).cq (p := 0) (by decide) (x := ⟨x.f, s, c, x.q⟩) hs ?_).mono ?_
  ·have e : szI (nb (⟨x.f, s, c, x.q⟩ : Bx)) = 26 := nb_credit hk
   rw [tot_crl, sumB_credit hp.kinds, e]
   omega
  ·rintro e w2 ⟨rfl, k2⟩
   exact ⟨4, rfl, ⟨rfl, k.trans k2⟩, fun _ => False, k2, fun _ f => f.elim⟩
 ·rintro r w' ⟨rfl, h⟩; exact ⟨rfl, h.drew⟩
 ·rintro e w' ⟨r, rfl, rfl, h⟩; exact ⟨rfl, h⟩
theorem ppush_fy (h : PO w0 b room most trim ls cr now nxt F w) {x : Bx} (hr : Rd w x) (hs : Sane x) (hk : x.f.kind ≠ 11) {p : Nat} (hp0 : prI x = (p : Nat)) (hc : tot ls 8 + szI (nb x) ≤ room) (hl : (ls p).length < 100000) :
  Calls Tryz.prog 85 #[.pointer (some ⟨b, 0, none⟩), bv x] w fun e w' => e = .returned (.bool true) ∧ ∃ s c F', PO w0 b room most trim (upd ls p (ls p ++ [⟨x.f, s, c, x.q⟩])) cr now nxt F' w' ∧ Qu.Next F w F' w' ∧ Fresh w ⟨x.f, s, c, x.q⟩ := by
 obtain ⟨qf, qc, pb, Ff, Fc, hp, rfl⟩ := h
 have h0 := hp.fr.1.size
 have hpb := prI_bd x
 have hp8 : p < 8 := by omega
 refine (push_of (q := qf) (p := prI x) (Post := fun r w'' => r = 0 ∧ ∃ s c F', PO w0 b room most trim (upd ls p (ls p ++ [⟨x.f, s, c, x.q⟩])) cr now nxt F' w'' ∧ Qu.Next (own b pb Ff Fc) w F' w'' ∧ Fresh w ⟨x.f, s, c, x.q⟩)
  (fun w' k => lineOf_else (k.blk hp.blk (fun f => f)) hk) hr ?_ ?_).mono ?_
 ·intro w1 s c k hrow
  have hp1 := hp.old k
  refine (push_ok hp1.fr (p := p) (K := prI x) hp0 hp8 (x := ⟨x.f, s, c, x.q⟩) hs hc hl).mono ?_
  rintro e w2 ⟨rfl, Ff', hS, hN⟩
  have hy : Gd w0 w2 (own b pb Ff' Fc) ⟨x.f, s, c, x.q⟩ := gd_copy hs hr.2 h0 hrow hN.1 (fun i hi => (hp.fr.own i hi).2) (fun i hi => by
   rcases hi with e | e | e | e
   ·subst e; exact Or.inl hp.blk.lt
   ·subst e; exact Or.inl (Blk.lt hp.pace)
   ·exact (hN.2 i e).imp (fun e => (hp.fr.own i e).2) id
   ·exact Or.inl (hp.cq.own i e).2)
  have hm : ∀ k y, k < 8 → y ∈ upd ls p (ls p ++ [⟨x.f, s, c, x.q⟩]) k → (∃ j, j < 8 ∧ y ∈ ls j) ∨ y = ⟨x.f, s, c, x.q⟩ := fun k y hk hy' =>
   mem_upd (P := fun y => y = ⟨x.f, s, c, x.q⟩) hp8 (fun z hz => (List.mem_append.1 hz).imp id (fun h => List.mem_singleton.1 h)) hk hy'
  have h2 := hp1.turnF hS hN (fun k y hk hy' => (hm k y hk hy').imp id (fun e => by subst e; exact hy))
  refine ⟨0, rfl, ⟨rfl, s, c, _, ⟨qf, qc, pb, Ff', Fc, h2, rfl⟩, ⟨(k.mono (fun _ _ f => f.elim)).trans (hN.1.mono (fun i _ e => Or.inr (Or.inr (Or.inl e)))), fun i hi => ?_⟩, fun g hg => (hrow.lt g hg).1⟩, Ff, hN.1, fun i hi => (hp.fr.own i hi).2⟩
  refine own_step (fun i hi => (hN.2 i hi).imp id (fun e => Nat.le_trans k.size e)) (fun i hi => Or.inl hi) hi
 ·rintro r w' ⟨rfl, s, c, F', h1, h2, h3⟩
  exact ⟨rfl, s, c, F', h1.old (Kept.refl _ w').drew, ⟨h2.1.drew, h2.2⟩, h3⟩
 ·rintro e w' ⟨r, rfl, rfl, h⟩
  exact ⟨rfl, h⟩
theorem ppush_fn (h : PO w0 b room most trim ls cr now nxt F w) {x : Bx} (hr : Rd w x) (hs : Sane x) (hk : x.f.kind ≠ 11) (hc : room < tot ls 8 + szI (nb x)) :
  Calls Tryz.prog 85 #[.pointer (some ⟨b, 0, none⟩), bv x] w fun e w' => e = .returned (.bool false) ∧ Kept (fun _ => False) w w' := by
 obtain ⟨qf, qc, pb, Ff, Fc, hp, rfl⟩ := h
 have hpb := prI_bd x
 refine (push_of (q := qf) (p := prI x) (Post := fun r w'' => r = 4 ∧ Kept (fun _ => False) w w'') (fun w' k => lineOf_else (k.blk hp.blk (fun f => f)) hk) hr ?_ ?_).mono ?_
 ·intro w1 s c k hrow
  refine (push_full (hp.old k).fr (p := prI x) (by omega) (x := ⟨x.f, s, c, x.q⟩) hs hc).mono ?_
  rintro e w2 ⟨rfl, k2⟩
  exact ⟨4, rfl, ⟨rfl, k.trans k2⟩, fun _ => False, k2, fun _ f => f.elim⟩
 ·rintro r w' ⟨rfl, h⟩; exact ⟨rfl, h.drew⟩
 ·rintro e w' ⟨r, rfl, rfl, h⟩; exact ⟨rfl, h⟩
theorem put_cy (h : PO w0 b room most trim ls cr now nxt F w) {x : Bx} (hr : Rd w x) (hs : Sane x) (hk : x.f.kind = 11) (hc : (cr.length : Int) < most) (hl : cr.length < 100000) :
  Calls Tryz.prog 62 #[.pointer (some ⟨b, 0, none⟩), bv x] w fun e w' => e = .returned (.int .i64 1) ∧ ∃ s c F', PO w0 b room most trim ls (cr ++ [⟨x.f, s, c, x.q⟩]) now nxt F' w' ∧ Qu.Next F w F' w' ∧ Fresh w ⟨x.f, s, c, x.q⟩ :=
 put_q fun w1 k => (ppush_cy (h.old k) (hr.old k) hs hk hc hl).mono fun e w2 ⟨e1, s, c, F', h1, h2, h3⟩ => ⟨e1, s, c, F', h1, next_in k h2, fun g hg => Nat.le_trans k.size (h3 g hg)⟩
theorem put_cn (h : PO w0 b room most trim ls cr now nxt F w) {x : Bx} (hr : Rd w x) (hs : Sane x) (hk : x.f.kind = 11) (hc : most ≤ (cr.length : Int)) :
  Calls Tryz.prog 62 #[.pointer (some ⟨b, 0, none⟩), bv x] w fun e w' => e = .returned (.int .i64 3) ∧ Kept (fun _ => False) w w' :=
 put_d h.cell0.1 (fun w1 k => ppush_cn (h.old k) (hr.old k) hs hk hc) h.cell0.2 (Or.inr (by rw [hk]; decide))
theorem put_fy (h : PO w0 b room most trim ls cr now nxt F w) {x : Bx} (hr : Rd w x) (hs : Sane x) (hk : x.f.kind ≠ 11) {p : Nat} (hp0 : prI x = (p : Nat)) (hc : tot ls 8 + szI (nb x) ≤ room) (hl : (ls p).length < 100000) :
  Calls Tryz.prog 62 #[.pointer (some ⟨b, 0, none⟩), bv x] w fun e w' => e = .returned (.int .i64 1) ∧ ∃ s c F', PO w0 b room most trim (upd ls p (ls p ++ [⟨x.f, s, c, x.q⟩])) cr now nxt F' w' ∧ Qu.Next F w F' w' ∧ Fresh w ⟨x.f, s, c, x.q⟩ :=
 put_q fun w1 k => (ppush_fy (h.old k) (hr.old k) hs hk hp0 hc hl).mono fun e w2 ⟨e1, s, c, F', h1, h2, h3⟩ => ⟨e1, s, c, F', h1, next_in k h2, fun g hg => Nat.le_trans k.size (h3 g hg)⟩
theorem put_fn (h : PO w0 b room most trim ls cr now nxt F w) {x : Bx} (hr : Rd w x) (hs : Sane x) (hk : x.f.kind ≠ 11) (hc : room < tot ls 8 + szI (nb x)) (ht : trim = false ∨ x.f.kind ≠ 1) :
  Calls Tryz.prog 62 #[.pointer (some ⟨b, 0, none⟩), bv x] w fun e w' => e = .returned (.int .i64 3) ∧ Kept (fun _ => False) w w' :=
 put_d h.cell0.1 (fun w1 k => ppush_fn (h.old k) (hr.old k) hs hk hc) h.cell0.2 ht
theorem put_ty (h : PO w0 b room most true ls cr now nxt F w) {x : Bx} (hr : Rd w x) (hs : Sane x) (hk : x.f.kind = 1) (hc : room < tot ls 8 + szI (nb x)) (hc2 : tot ls 8 + 26 ≤ room) (hl : (ls 7).length < 100000) :
  Calls Tryz.prog 62 #[.pointer (some ⟨b, 0, none⟩), bv x] w fun e w' => e = .returned (.int .i64 2) ∧ ∃ s c F', PO w0 b room most true (upd ls 7 (ls 7 ++ [⟨(trX x).f, s, c, x.q⟩])) cr now nxt F' w' ∧ Qu.Next F w F' w' ∧ Fresh w ⟨(trX x).f, s, c, x.q⟩ :=
 put_t (r := true) h.cell0.1 (fun w1 k => ppush_fn (h.old k) (hr.old k) hs (by rw [hk]; decide) hc)
  (fun w1 k => (ppush_fy (h.old k) (rd_tr w1 x) (sane_tr x) (show (7 : Int) ≠ 11 by decide) (p := 7) (prI_tr x) (by rw [nb_tr]; exact hc2) hl).mono fun e w2 ⟨e1, s, c, F', h1, h2, h3⟩ => ⟨e1, s, c, F', h1, next_in k h2, fun g hg => Nat.le_trans k.size (h3 g hg)⟩) h.cell0.2 hk
theorem put_tn (h : PO w0 b room most true ls cr now nxt F w) {x : Bx} (hr : Rd w x) (hs : Sane x) (hk : x.f.kind = 1) (hc : room < tot ls 8 + szI (nb x)) (hc2 : room < tot ls 8 + 26) :
  Calls Tryz.prog 62 #[.pointer (some ⟨b, 0, none⟩), bv x] w fun e w' => e = .returned (.int .i64 3) ∧ Kept (fun _ => False) w w' :=
 put_t (r := false) h.cell0.1 (fun w1 k => ppush_fn (h.old k) (hr.old k) hs (by rw [hk]; decide) hc)
  (fun w1 k => (ppush_fn (h.old k) (rd_tr w1 x) (sane_tr x) (show (7 : Int) ≠ 11 by decide) (by rw [nb_tr]; exact hc2)).mono fun e w2 ⟨e1, h2⟩ => ⟨e1, k.trans h2⟩) h.cell0.2 hk
end Go.Proofs.YtpogpibjkolioaaGreat.Fo

