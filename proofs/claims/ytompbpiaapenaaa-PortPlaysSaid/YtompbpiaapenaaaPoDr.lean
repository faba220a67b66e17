/- A port: Drop, Double. Conditions: each theorem's own. -/
import Derived.Test.YtompbpiaapenaaaPoFd
set_option linter.unusedVariables false
namespace Go.Proofs.Ytompbpiaapenaaa.Po
open Go.RowKit Hp QuM QuN Rw Qu NumM NumC
attribute [local go_sem ↓] Go.wp_at_zero Go.wp_at_succ
variable {w0 w w' : World} {b qf qc pb : Nat} {room most : Int} {trim : Bool} {ls : Nat → List Bx} {cr : List Bx} {now nxt : Int} {Ff Fc F : Nat → Prop}
/-- One is taken out of a line. -/
def lsE (ls : Nat → List Bx) (i at_ : Nat) : Nat → List Bx := if i < 8 then upd ls (7 - i) ((ls (7 - i)).eraseIdx at_) else ls
def crE (cr : List Bx) (i at_ : Nat) : List Bx := if i < 8 then cr else cr.eraseIdx at_
theorem acc_at {i at_ : Nat} (h : at_ < (lnl ls cr i).length) : ∀ {n : Nat}, i < n → (accL ls cr n)[(accL ls cr i).length + at_]? = (lnl ls cr i)[at_]?
  | 0, hn => by omega
  | n + 1, hn => by
    show (accL ls cr n ++ lnl ls cr n)[_]? = _
    by_cases e : i = n
    · subst e
      rw [List.getElem?_append_right (by omega), Nat.add_sub_cancel_left]
    · have h1 := acc_le (ls := ls) (cr := cr) (n := i + 1) (m := n) (by omega)
      rw [acc_succ] at h1
      rw [List.getElem?_append_left (by omega)]
      exact acc_at h (by omega)
theorem lnl_E {i at_ j : Nat} (hi : i < 9) (hj : j < 9) : lnl (lsE ls i at_) (crE cr i at_) j = if j = i then (lnl ls cr i).eraseIdx at_ else lnl ls cr j := by
  unfold lnl lsE crE
  by_cases hi8 : i < 8
  · by_cases hj8 : j < 8
    · by_cases e : j = i
      · subst e; simp [hi8, upd_self]
      · simp only [if_pos hi8, if_pos hj8, if_neg e]
        exact upd_ne _ _ (by omega)
    · have e : ¬ j = i := by omega
      simp [hi8, hj8, e]
  · by_cases hj8 : j < 8
    · have e : ¬ j = i := by omega
      simp [hi8, hj8, e]
    · have e : j = i := by omega
      subst e; simp [hi8]
theorem erase_app (a c : List Bx) (k : Nat) : (a ++ c).eraseIdx (a.length + k) = a ++ c.eraseIdx k := by
  rw [List.eraseIdx_append_of_length_le (by omega), Nat.add_sub_cancel_left]
theorem acc_E {i at_ : Nat} (hi : i < 9) (h : at_ < (lnl ls cr i).length) : ∀ {n : Nat}, n ≤ 9 → accL (lsE ls i at_) (crE cr i at_) n = if i < n then (accL ls cr n).eraseIdx ((accL ls cr i).length + at_) else accL ls cr n
  | 0, hn => by simp [accL]
  | n + 1, hn => by
    show accL _ _ n ++ lnl _ _ n = _
    rw [acc_E hi h (n := n) (by omega), lnl_E hi (by omega)]
    rcases Nat.lt_trichotomy i n with h1 | h1 | h1
    · have h2 := acc_le (ls := ls) (cr := cr) (n := i + 1) (m := n) (by omega)
      rw [acc_succ] at h2
      rw [if_pos h1, if_neg (by omega), if_pos (by omega)]
      show _ = (accL ls cr n ++ lnl ls cr n).eraseIdx _
      rw [List.eraseIdx_append_of_lt_length (by omega)]
    · subst h1
      rw [if_neg (by omega), if_pos rfl, if_pos (by omega)]
      show _ = (accL ls cr i ++ lnl ls cr i).eraseIdx _
      rw [erase_app]
    · rw [if_neg (by omega), if_neg (by omega), if_neg (by omega)]; rfl
/-- Behind a Drop of the k-th. -/
theorem acc_drop {i at_ k : Nat} (hi : i < 9) (h : at_ < (lnl ls cr i).length) (hk : (accL ls cr i).length + at_ = k) : accL (lsE ls i at_) (crE cr i at_) 9 = (accL ls cr 9).eraseIdx k := by
  rw [acc_E hi h (Nat.le_refl 9), if_pos hi, hk]
theorem lnl_mem {i : Nat} (hi : i < 9) {x : Bx} (hx : x ∈ lnl ls cr i) : (i < 8 ∧ x ∈ ls (7 - i)) ∨ (i = 8 ∧ x ∈ cr) := by
  unfold lnl at hx
  split at hx
  · exact Or.inl ⟨by assumption, hx⟩
  · exact Or.inr ⟨by omega, hx⟩
theorem gd_of (hp : Prt w0 b qf qc pb room most trim ls cr now nxt Ff Fc w) {i : Nat} (hi : i < 9) {x : Bx} (hx : x ∈ lnl ls cr i) : Gd w0 w (own b pb Ff Fc) x := by
  rcases lnl_mem hi hx with ⟨h, hx⟩ | ⟨h, hx⟩
  · exact hp.gf _ x (by omega) hx
  · exact hp.gc x hx
/-- What Remove leaves. -/
def RmP (w0 : World) (b qf qc pb : Nat) (room most : Int) (trim : Bool) (ls : Nat → List Bx) (cr : List Bx) (now nxt : Int) (Ff Fc : Nat → Prop) (w : World) (i at_ : Nat) (w' : World) : Prop :=
  ∃ Ff' Fc' : Nat → Prop, Prt w0 b qf qc pb room most trim (lsE ls i at_) (crE cr i at_) now nxt Ff' Fc' w' ∧ (∀ j, Ff' j → Ff j ∨ w.heap.size ≤ j) ∧ (∀ j, Fc' j → Fc j ∨ w.heap.size ≤ j) ∧ Kept (fun j => Ff j ∨ Fc j) w w'
theorem rem_of (hp : Prt w0 b qf qc pb room most trim ls cr now nxt Ff Fc w) {i at_ : Nat} (hi : i < 9) {x : Bx} (hx : (lnl ls cr i)[at_]? = some x) (hl : (lnl ls cr i).length ≤ 100000) :
    Calls Try.prog 53 #[.pointer (some ⟨(lq qf qc i).1, 0, none⟩), .int .i64 ((lq qf qc i).2 : Nat), .int .i64 (at_ : Nat)] w fun e w' => e = .returned (.tuple #[bv x, .bool true]) ∧ RmP w0 b qf qc pb room most trim ls cr now nxt Ff Fc w i at_ w' := by
  unfold RmP lsE crE
  unfold lnl at hx hl
  unfold lq
  by_cases h8 : i < 8
  · simp only [if_pos h8] at hx hl ⊢
    refine (remove_yes hp.fr (p := 7 - i) (k := at_) rfl rfl (by omega) hx hl).mono ?_
    rintro e w' ⟨rfl, Ff', hS, hN⟩
    exact ⟨rfl, Ff', Fc, hp.turnF hS hN (fun k y hk hy => (mem_upd (ls := ls) (P := fun _ => False) (by omega) (fun z hz => Or.inl (List.mem_of_mem_eraseIdx hz)) hk hy).imp id (fun f => f.elim)), hN.2, fun j f => Or.inl f, hN.1.mono (fun _ _ f => Or.inl f)⟩
  · simp only [if_neg h8] at hx hl ⊢
    have e0 : crl cr 0 = cr := upd_self _ _ _
    refine (remove_yes hp.cq (p := 0) (k := at_) rfl rfl (by decide) (by rw [e0]; exact hx) (by rw [e0]; exact hl)).mono ?_
    rintro e w' ⟨rfl, Fc', hS, hN⟩
    rw [e0, show upd (crl cr) 0 (cr.eraseIdx at_) = crl (cr.eraseIdx at_) from upd_upd _ _ _ _] at hS
    exact ⟨rfl, Ff, Fc', hp.turnC hS hN (fun y hy => hp.kinds y (List.mem_of_mem_eraseIdx hy)) (fun y hy => Or.inl (List.mem_of_mem_eraseIdx hy)), fun j f => Or.inl f, hN.2, hN.1.mono (fun _ _ f => Or.inr f)⟩
theorem at_of (hp : Prt w0 b qf qc pb room most trim ls cr now nxt Ff Fc w) {i at_ : Nat} (hi : i < 9) {x : Bx} (hx : (lnl ls cr i)[at_]? = some x) (hl : (lnl ls cr i).length ≤ 100000) :
    Calls Try.prog 84 #[.pointer (some ⟨(lq qf qc i).1, 0, none⟩), .int .i64 ((lq qf qc i).2 : Nat), .int .i64 (at_ : Nat)] w fun e w' => e = .returned (.tuple #[bv x, .bool true]) ∧ Kept (fun _ => False) w w' := by
  unfold lnl at hx hl
  unfold lq
  by_cases h8 : i < 8
  · simp only [if_pos h8] at hx hl ⊢
    exact qat_any hp.fr (p := 7 - i) (k := at_) rfl rfl (by omega) hx hl
  · simp only [if_neg h8] at hx hl ⊢
    have e0 : crl cr 0 = cr := upd_self _ _ _
    exact qat_any hp.cq (p := 0) (k := at_) rfl rfl (by decide) (by rw [e0]; exact hx) (by rw [e0]; exact hl)
end Go.Proofs.Ytompbpiaapenaaa.Po
