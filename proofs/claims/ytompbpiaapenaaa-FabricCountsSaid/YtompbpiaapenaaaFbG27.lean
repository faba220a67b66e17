/- One frame alone in a fabric: where it is, behind each call. Conditions: each theorem's own. -/
import Derived.Test.YtompbpiaapenaaaFbG26
import Derived.Test.YtompbpiaapenaaaFbG1
import Derived.Deep.DrawnRows
import Derived.Test.YtompbpiaapenaaaFbG17
import Derived.Test.YtompbpiaapenaaaFbG7
set_option linter.unusedVariables false
set_option linter.unusedSimpArgs false
namespace Go.Proofs.Ytompbpiaapenaaa.Fb
open Go.RowKit Hp QuM QuN Rw Qu NumM NumC Po Fo FbM TpM Tp
theorem any_cell {W : World} {b : Nat} {C : Array Value} {T : TypeId} {m : Nat × Nat} {o : Nat} {v : Value} (hb : W.heap[b]? = some (.cells C T m)) (h : C[o]? = some v) : W.cell? ⟨b, o, none⟩ = some v := by
  simp [World.cell?, hb, h]
theorem mark_cell {w : World} {C : Array Value} {T : TypeId} {m : Nat × Nat} {o : Nat} {v : Value} (h : C[o]? = some v) : (w.alloc (.cells C T m)).cell? ⟨w.heap.size, o, none⟩ = some v :=
  any_cell (T := T) (m := m) (by simp only [World.alloc, Array.getElem?_push, if_pos]) h
/-- The frame. -/
abbrev fd : WrM.Frm := ⟨1, 0, 3, 0, 0, 0, 2, 2, 0, [104, 105]⟩
/-- A port with it alone. -/
abbrev oneP (x : Bx) : Pt := ⟨upd (fun _ => []) 0 [x], [], 0, 0⟩
/-- It waits at port p. -/
abbrev S1 (p : Nat) (x : Bx) : Mo := ⟨upd (fun _ => eP) p (oneP x), fun _ => [], upd (fun _ => 0) 3 2, 0⟩
theorem S1_P (p : Nat) (x : Bx) : (S1 p x).P p = oneP x := upd_self (fun _ => eP) p (oneP x)
theorem S1_Q {p q : Nat} (x : Bx) (h : q ≠ p) : (S1 p x).P q = eP := upd_ne (fun _ => eP) (oneP x) h
abbrev KS (S : Int) (n : Nat) : Cf := ⟨4, S, 4, n, 1000, 2, false⟩
theorem upd_same {β : Type} (f : Nat → β) (k : Nat) : upd f k (f k) = f := by
  funext j
  by_cases e : j = k
  · subst e; rw [upd_self]
  · rw [upd_ne _ _ e]
theorem upd_nil (p : Nat) (P : Pt) : upd (upd (fun _ => eP) p P) p eP = fun _ => eP := by
  rw [upd_upd]; exact upd_same (fun _ => eP) p
theorem upd_nil2 (v : Int) : upd (upd (fun _ => (0 : Int)) 3 v) 3 0 = fun _ => 0 := by
  rw [upd_upd]; exact upd_same (fun _ => (0 : Int)) 3
theorem tk_one (x : Bx) : tkX (oneP x) 0 = some x := by kernel_rfl
theorem tkP_one (x : Bx) : tkP (oneP x) 0 = eP := by
  have h : tkP (oneP x) 0 = ⟨upd (upd (fun _ => []) 0 [x]) 0 [], [], 0, 0⟩ := by kernel_rfl
  rw [h, upd_upd, show upd (fun _ => ([] : List Bx)) 0 [] = fun _ => [] from upd_same (fun _ => ([] : List Bx)) 0]
theorem dD_one (S : Int) (n p : Nat) (s : Option Addr) (c : Nat) (q : Int) : dD (KS S n) M0 p ⟨fd, s, c, q⟩ = (1, 0) := by kernel_rfl
theorem put_M0 (S : Int) (n p : Nat) (s0 : Option Addr) (c0 : Nat) (s : Option Addr) (c : Nat) (q : Int) : putM (KS S n) M0 p ⟨fd, s0, c0, q⟩ s c = S1 p ⟨fd, s, c, q⟩ := by
  rw [putM_1 (by rw [dD_one])]
  have h1 : puP (KS S n) (M0.P p) ⟨fd, s0, c0, q⟩ s c = oneP ⟨fd, s, c, q⟩ := by kernel_rfl
  rw [h1]
  have h2 : cB M0.B ⟨fd, s0, c0, q⟩ 1 = upd (fun _ => 0) 3 2 := by kernel_rfl
  rw [h2]
theorem srv1_S1 (p : Nat) (s : Option Addr) (c : Nat) (q : Int) : srv1 (S1 p ⟨fd, s, c, q⟩) p 0 ⟨fd, s, c, q⟩ = M0 := by
  unfold srv1
  have h1 : (S1 p ⟨fd, s, c, q⟩).P p = oneP ⟨fd, s, c, q⟩ := S1_P _ _
  rw [h1, tkP_one]
  have h2 : cB (S1 p ⟨fd, s, c, q⟩).B ⟨fd, s, c, q⟩ (-1) = upd (upd (fun _ => 0) 3 2) 3 0 := by kernel_rfl
  rw [h2, upd_nil2]
  dsimp only
  rw [upd_nil]
/-- It has arrived. -/
abbrev S2 (x : Bx) : Mo := ⟨fun _ => eP, upd (fun _ => []) 3 [x], fun _ => 0, 0⟩
theorem srv2_S1 (p : Nat) (s : Option Addr) (c : Nat) (q : Int) : srv2 (S1 p ⟨fd, s, c, q⟩) p 0 ⟨fd, s, c, q⟩ 3 = S2 ⟨fd, s, c, q⟩ := by
  have h := srv1_S1 p s c q
  unfold srv1 at h
  unfold srv2
  have hP := congrArg Mo.P h
  have hB := congrArg Mo.B h
  dsimp only at hP hB
  rw [hP, hB]
  rfl
theorem tk_S1 (p : Nat) (x : Bx) : tkX ((S1 p x).P p) 0 = some x := by
  have h1 : (S1 p x).P p = oneP x := S1_P _ _
  rw [h1]; exact tk_one x
theorem acc_one (x : Bx) : accL (oneP x).ls (oneP x).cr 9 = [x] := by kernel_rfl
theorem acc_S1 (p : Nat) (x : Bx) : accL ((S1 p x).P p).ls ((S1 p x).P p).cr 9 = [x] := by
  have h1 : (S1 p x).P p = oneP x := S1_P _ _
  rw [h1]; exact acc_one x
theorem acc_S1' {p q : Nat} (x : Bx) (h : q ≠ p) : accL ((S1 p x).P q).ls ((S1 p x).P q).cr 9 = [] := by
  have h1 : (S1 p x).P q = eP := S1_Q x h
  rw [h1]; rfl
/-- It was lost. -/
abbrev S3 : Mo := ⟨fun _ => eP, fun _ => [], fun _ => 0, 1⟩
theorem dr_S1 {p i at_ : Nat} {s : Option Addr} {c : Nat} {q : Int} (hi : i < 9) (h1 : (lnl ((S1 p ⟨fd, s, c, q⟩).P p).ls ((S1 p ⟨fd, s, c, q⟩).P p).cr i)[at_]? = some ⟨fd, s, c, q⟩) : drM (S1 p ⟨fd, s, c, q⟩) p i at_ ⟨fd, s, c, q⟩ = S3 := by
  have h2 : (S1 p ⟨fd, s, c, q⟩).P p = oneP ⟨fd, s, c, q⟩ := S1_P _ _
  rw [h2] at h1
  have h3 : i = 7 ∧ at_ = 0 := by
    unfold lnl at h1
    by_cases h8 : i < 8
    · rw [if_pos h8] at h1
      by_cases h7 : 7 - i = 0
      · rw [h7] at h1
        change ([⟨fd, s, c, q⟩] : List Bx)[at_]? = _ at h1
        have := (List.getElem?_eq_some_iff.1 h1).1
        exact ⟨by omega, by simpa using this⟩
      · have : (oneP ⟨fd, s, c, q⟩).ls (7 - i) = [] := upd_ne (fun _ => ([] : List Bx)) [⟨fd, s, c, q⟩] h7
        rw [this] at h1
        simp at h1
    · rw [if_neg h8] at h1
      simp at h1
  obtain ⟨rfl, rfl⟩ := h3
  unfold drM
  rw [h2]
  have h4 : drP (oneP ⟨fd, s, c, q⟩) 7 0 = ⟨upd (upd (fun _ => []) 0 [⟨fd, s, c, q⟩]) 0 [], [], 0, 0⟩ := by kernel_rfl
  have h6 : upd (upd (fun _ => []) 0 [(⟨fd, s, c, q⟩ : Bx)]) 0 [] = fun _ => [] := by rw [upd_upd]; exact upd_same (fun _ => ([] : List Bx)) 0
  rw [h4, h6]
  have h5 : cB (S1 p ⟨fd, s, c, q⟩).B ⟨fd, s, c, q⟩ (-1) = upd (upd (fun _ => 0) 3 2) 3 0 := by kernel_rfl
  rw [h5, upd_nil2]
  dsimp only
  rw [upd_nil]
  rfl
theorem none_M0 (K : Cf) : None_ K M0 := ⟨fun p hp => rfl, fun j hj => rfl⟩
theorem none_S3 (K : Cf) : None_ K S3 := ⟨fun p hp => rfl, fun j hj => rfl⟩
theorem okd : WrM.Ok fd := by
  refine ⟨by unfold WrM.Fit; decide, fun h => by decide, by unfold WrM.Dat; decide⟩
variable {S : Int}
theorem ks_ok (h0 : 1 ≤ S) (h1 : S ≤ 4) : (KS S (8 + 4 * S.toNat)).Ok := by
  refine ⟨⟨by show (2 : Int) ≤ 4; decide, by show (4 : Int) ≤ 8; decide, h0, h1⟩, rfl, ?_⟩
  show ((8 + 4 * S.toNat : Nat) : Int) = pts 4 S
  unfold pts mm TpM.lv
  have e : S = 1 ∨ S = 2 ∨ S = 3 ∨ S = 4 := by omega
  rcases e with rfl | rfl | rfl | rfl <;> rfl
theorem ks_nx1 (h0 : 1 ≤ S) (h1 : S ≤ 4) (q : Int) : nx 4 S (0 : Nat) 3 q = (8 + sp S q, false) := by
  have n : Net 4 S := ⟨by decide, by decide, h0, h1⟩
  rw [nx_up n (by decide) (by decide) (by decide) (by decide), if_neg (by decide)]
  show (2 * 4 + ((0 : Int) / 2 * S + sp S q), false) = _
  rw [show (0 : Int) / 2 = 0 from rfl, Int.zero_mul, Int.zero_add]
  rfl
theorem ks_mm (h0 : 1 ≤ S) (h1 : S ≤ 4) : mm 4 S = 2 * S := by unfold mm TpM.lv; rfl
theorem ks_nx2 (h0 : 1 ≤ S) (h1 : S ≤ 4) {s : Nat} (hs : (s : Int) < S) (q : Int) : nx 4 S ((8 + s : Nat) : Int) 3 q = (8 + 2 * S + 2 * s + 1, false) := by
  have n : Net 4 S := ⟨by decide, by decide, h0, h1⟩
  have hm := ks_mm h0 h1
  rw [nx_lup n (by decide) (by decide) (by omega) (by omega), hm]
  have e1 : (((8 + s : Nat) : Int) - 2 * 4) % S = s := by
    rw [show ((8 + s : Nat) : Int) - 2 * 4 = (s : Int) by omega]
    exact Int.emod_eq_of_lt (by omega) hs
  rw [e1]
  have e2 : TpM.lv 4 = 2 := rfl
  rw [e2]
  show (2 * 4 + 2 * S + ((s : Int) * 2 + 1), false) = _
  congr 1
  omega
theorem ks_nx3 (h0 : 1 ≤ S) (h1 : S ≤ 4) {s : Nat} (hs : (s : Int) < S) (q : Int) : nx 4 S (8 + 2 * S + 2 * s + 1) 3 q = (7, false) := by
  have n : Net 4 S := ⟨by decide, by decide, h0, h1⟩
  have hm := ks_mm h0 h1
  have e2 : TpM.lv 4 = 2 := rfl
  rw [nx_sdn n (by decide) (by decide) (by omega) (by omega), hm, e2, if_pos (by omega)]
  rfl
theorem ks_nx4 (h0 : 1 ≤ S) (h1 : S ≤ 4) (q : Int) : nx 4 S (7 : Nat) 3 q = (-1, true) := by
  have n : Net 4 S := ⟨by decide, by decide, h0, h1⟩
  exact nx_down n (by decide) (by decide) (by decide) (by decide)
end Go.Proofs.Ytompbpiaapenaaa.Fb

/- Round of a positive number. Conditions: the theorem's own. -/
namespace Go.Proofs.Ytompbpiaapenaaa.Rnd
open Go.RowKit Hp
attribute [local go_sem ↓] Go.wp_at_zero Go.wp_at_succ
theorem tmod_emod (k n : Int) (hn : 0 < n) : k % n = if k.tmod n < 0 then k.tmod n + n else k.tmod n := by
  have e : k % n = (k.tmod n) % n := by
    have h : k = k.tmod n + n * k.tdiv n := by rw [Int.tmod_def]; omega
    have h2 : (k.tmod n + n * k.tdiv n) % n = (k.tmod n) % n := Int.add_mul_emod_self_left _ _ _
    rw [← h] at h2
    exact h2
  have t1 := Int.tmod_lt_of_pos k hn
  have t2 : -n < k.tmod n := by
    have := Int.tmod_lt_of_pos (-k) hn
    rw [Int.neg_tmod] at this
    omega
  rw [e]
  split
  · rw [← Int.add_emod_right, Int.emod_eq_of_lt (by omega) (by omega)]
  · exact Int.emod_eq_of_lt (by omega) t1
theorem round_pos {k n : Int} (hn : 0 < n) (hn2 : n ≤ 1000000) (h0 : -9223372036854775808 ≤ k) (h1 : k ≤ 9223372036854775807) (w : World) :
    Calls Try.prog 23 #[.int .i64 k, .int .i64 n] w fun e w' => e = .returned (.int .i64 (k % n)) ∧ w = w' := by
  have hne : ¬ n = 0 := by omega
  have hne2 : (n == 0) = false := by rw [beq_eq_false_iff_ne]; exact hne
  have he := tmod_emod k n hn
  by_cases hk : 0 ≤ k
  · have t3 := Int.emod_nonneg k hne
    clear he
    go_enter Try.func23, Try.ntmps23
    go_wp2_with fail
    go_ret
    exact ⟨rfl, rfl⟩
  · have t1 := Int.tmod_lt_of_pos k hn
    have t2 : -n < k.tmod n := by
      have := Int.tmod_lt_of_pos (-k) hn
      rw [Int.neg_tmod] at this
      omega
    by_cases hr : k.tmod n < 0
    · rw [if_pos hr] at he
      rw [he]
      clear he
      go_enter Try.func23, Try.ntmps23
      go_wp2_with fail
      go_ret
      exact ⟨rfl, rfl⟩
    · rw [if_neg hr] at he
      rw [he]
      clear he
      go_enter Try.func23, Try.ntmps23
      go_wp2_with fail
      go_ret
      exact ⟨rfl, rfl⟩
end Go.Proofs.Ytompbpiaapenaaa.Rnd

/- How many frames there are, all in all, behind any call. Conditions: each theorem's own. -/
namespace Go.Proofs.Ytompbpiaapenaaa.Fb
open Go.RowKit Hp QuM QuN Rw Qu NumM NumC Po Fo FbM TpM Tp
def FE (w0 : World) (K : Cf) (c : Int) (fb : Nat) (w : World) : Prop := ∃ M, FV w0 K M c fb w
variable {w0 w w' : World} {K : Cf} {c : Int} {fb : Nat}
theorem FE.old (h : FE w0 K c fb w) (k : Kept (fun _ => False) w w') : FE w0 K c fb w' := by
  obtain ⟨M, h⟩ := h
  exact ⟨M, h.old k⟩
theorem FE.since (h : FE w0 K c fb w) : Kept (fun _ => False) w0 w := by
  obtain ⟨M, h⟩ := h
  exact h.since
theorem FV.nonneg {M : Mo} (h : FV w0 K M c fb w) : 0 ≤ c := by
  have h1 := h.1.ones
  have h2 := li_nonneg M.I K.hn
  have h3 := h.1.lost
  have h4 := h.1.cnt
  unfold al at h4
  omega
/-- What a call that may add one leaves. -/
def Up (w0 : World) (K : Cf) (c : Int) (fb : Nat) (no g : Int) (w' : World) : Prop := (g = 0 ∧ FE w0 K (c + 1) fb w') ∨ (g = no ∧ FE w0 K c fb w')
theorem fe_send (h : FE w0 K c fb w) (hc : c ≤ 20000) {J q : Int} {x : Bx} (hr : Rd w x) :
    Calls Try.prog 24 #[ptr fb, .int .i64 J, fv x, .int .i64 q] w fun e w' => ∃ d g : Int, e = .returned (.tuple #[.int .i64 d, .int .i64 g]) ∧ Up w0 K c fb 1 g w' := by
  obtain ⟨M, h⟩ := h
  rcases send_or K J x.f with hn | hy
  · refine (fv_send_no h hn).mono ?_
    rintro e w' ⟨rfl, h2⟩
    exact ⟨0, 1, rfl, Or.inr ⟨rfl, M, h2⟩⟩
  · refine (fv_send_yes h (by omega) hr hy).mono ?_
    rintro e w' ⟨rfl, s, cc, h2⟩
    exact ⟨_, 0, rfl, Or.inl ⟨rfl, _, h2⟩⟩
theorem fe_serve (h : FE w0 K c fb w) (hc : c ≤ 20000) (J t : Int) :
    Calls Try.prog 26 #[ptr fb, .int .i64 J, .int .i64 t] w fun e w' => ∃ (b : Bool) (g : Int), e = .returned (.tuple #[.bool b, .int .i64 g]) ∧ FE w0 K c fb w' := by
  obtain ⟨M, h⟩ := h
  by_cases hj : J < 0 ∨ (K.n : Int) ≤ J
  · refine (fv_serve_no h hj).mono ?_
    rintro e w' ⟨rfl, h2⟩
    exact ⟨false, 5, rfl, M, h2⟩
  · obtain ⟨p, rfl⟩ := Int.eq_ofNat_of_zero_le (show 0 ≤ J by omega)
    have hp : p < K.n := by omega
    cases hx : tkX (M.P p) t with
    | none =>
      refine (fv_serve_none h (by omega) hp hx).mono ?_
      rintro e w' ⟨rfl, h2⟩
      exact ⟨false, 0, rfl, _, h2⟩
    | some x =>
      refine (fv_serve_some h (by omega) hp hx).mono ?_
      rintro e w' ⟨rfl, M', _, h2⟩
      exact ⟨true, 0, rfl, _, h2⟩
theorem fe_take (h : FE w0 K c fb w) (hc : c ≤ 20000) (J : Int) :
    Calls Try.prog 27 #[ptr fb, .int .i64 J] w fun e w' => ∃ (y : Bx) (ok : Bool), e = .returned (.tuple #[fv y, .bool ok]) ∧ ((ok = true ∧ FE w0 K (c - 1) fb w') ∨ (ok = false ∧ FE w0 K c fb w')) := by
  obtain ⟨M, h⟩ := h
  by_cases hj : J < 0 ∨ (K.hn : Int) ≤ J
  · refine (fv_take_off h hj).mono ?_
    rintro e w' ⟨rfl, h2⟩
    exact ⟨zF, false, rfl, Or.inr ⟨rfl, M, h2⟩⟩
  · obtain ⟨p, rfl⟩ := Int.eq_ofNat_of_zero_le (show 0 ≤ J by omega)
    have hp : p < K.hn := by omega
    cases hI : M.I p with
    | nil =>
      refine (fv_take_none h hp hI).mono ?_
      rintro e w' ⟨rfl, h2⟩
      exact ⟨zF, false, rfl, Or.inr ⟨rfl, M, h2⟩⟩
    | cons x L =>
      refine (fv_take_some h (by omega) hp hI).mono ?_
      rintro e w' ⟨rfl, _, h2⟩
      exact ⟨x, true, rfl, Or.inl ⟨rfl, _, h2⟩⟩
theorem which {M : Mo} {J k : Int} : ((J < 0 ∨ (K.n : Int) ≤ J) ∨ ∃ p : Nat, J = p ∧ p < K.n ∧ (k < 0 ∨ ((accL (M.P p).ls (M.P p).cr 9).length : Int) ≤ k)) ∨ ∃ (p j : Nat) (x : Bx), J = p ∧ p < K.n ∧ k = j ∧ (accL (M.P p).ls (M.P p).cr 9)[j]? = some x := by
  by_cases hj : J < 0 ∨ (K.n : Int) ≤ J
  · exact Or.inl (Or.inl hj)
  · obtain ⟨p, rfl⟩ := Int.eq_ofNat_of_zero_le (show 0 ≤ J by omega)
    by_cases hk : k < 0 ∨ ((accL (M.P p).ls (M.P p).cr 9).length : Int) ≤ k
    · exact Or.inl (Or.inr ⟨p, rfl, by omega, hk⟩)
    · obtain ⟨j, rfl⟩ := Int.eq_ofNat_of_zero_le (show 0 ≤ k by omega)
      exact Or.inr ⟨p, j, _, rfl, by omega, rfl, List.getElem?_eq_getElem (by omega)⟩
theorem fe_drop (h : FE w0 K c fb w) (hc : c ≤ 20000) (J : Int) {k : Int} (hk : k ≤ 9223372036854775807) :
    Calls Try.prog 31 #[ptr fb, .int .i64 J, .int .i64 k] w fun e w' => ∃ g : Int, e = .returned (.int .i64 g) ∧ FE w0 K c fb w' := by
  obtain ⟨M, h⟩ := h
  rcases which (K := K) (M := M) (J := J) (k := k) with hn | ⟨p, j, x, rfl, hp, rfl, hx⟩
  · refine (fv_drop_no h (by omega) hn hk).mono ?_
    rintro e w' ⟨rfl, h2⟩
    exact ⟨5, rfl, M, h2⟩
  · refine (fv_drop_yes h (by omega) hp hx).mono ?_
    rintro e w' ⟨rfl, i, at_, _, _, _, h2⟩
    exact ⟨0, rfl, _, h2⟩
theorem fe_double (h : FE w0 K c fb w) (hc : c ≤ 20000) (J : Int) {k : Int} (hk : k ≤ 9223372036854775807) :
    Calls Try.prog 32 #[ptr fb, .int .i64 J, .int .i64 k] w fun e w' => ∃ g : Int, e = .returned (.int .i64 g) ∧ Up w0 K c fb 5 g w' := by
  obtain ⟨M, h⟩ := h
  rcases which (K := K) (M := M) (J := J) (k := k) with hn | ⟨p, j, x, rfl, hp, rfl, hx⟩
  · refine (fv_double_no h (by omega) hn hk).mono ?_
    rintro e w' ⟨rfl, h2⟩
    exact ⟨5, rfl, Or.inr ⟨rfl, M, h2⟩⟩
  · refine (fv_double_yes h (by omega) hp hx).mono ?_
    rintro e w' ⟨rfl, s1, c1, s, cc, h2⟩
    exact ⟨0, rfl, Or.inl ⟨rfl, _, h2⟩⟩
theorem up_c {no g : Int} (hno : no ≠ 0) (h : Up w0 K c fb no g w') : (g == 0) = true ∧ FE w0 K (c + 1) fb w' ∨ (g == 0) = false ∧ FE w0 K c fb w' := by
  rcases h with ⟨rfl, h⟩ | ⟨rfl, h⟩
  · exact Or.inl ⟨rfl, h⟩
  · exact Or.inr ⟨by rw [beq_eq_false_iff_ne]; exact hno, h⟩
/-- What nothing answers. -/
theorem send_nil {J q : Int} {x : Bx} (w : World) :
    Calls Try.prog 24 #[.pointer none, .int .i64 J, fv x, .int .i64 q] w fun e w' => e = .returned (.tuple #[.int .i64 0, .int .i64 1]) ∧ Kept (fun _ => False) w w' := by
  have HA := Lib.hid fun w => host_nil J w
  obtain ⟨⟨x1, x2, x3, x4, x5, x6, x7, x8, x9, xd⟩, xa, xc, xq⟩ := x
  go_enter Try.func24, Try.ntmps24
  go_upto_region 1 with fail
  have hkk := (Kept.refl (fun _ => False) w).alloc (.cells [.int .i64 x1, .int .i64 x2, .int .i64 x3, .int .i64 x4, .int .u64 (x5 : Int), .int .i64 x6, .int .i64 x7, .int .i64 x8, .int .i64 x9, .slice xa xd.length xc].toArray 35)
  dsimp only [List.toArray] at hkk
  have HK := Lib.hid hkk
  generalize w.alloc (.cells #[.int .i64 x1, .int .i64 x2, .int .i64 x3, .int .i64 x4, .int .u64 (x5 : Int), .int .i64 x6, .int .i64 x7, .int .i64 x8, .int .i64 x9, .slice xa xd.length xc] 35) = w1 at *
  clear hkk
  go_wp2_with fail
  with_reducible refine Calls.mono (HA.out _) ?_
  rintro e w3 ⟨rfl, rfl⟩
  go_wp2_with fail
  exact bodyPost_ret (v := .tuple #[.int .i64 0, .int .i64 1]) (by simp [results, Try.results24, go_sem]) rfl ⟨rfl, HK.out⟩
abbrev K4 (room : Int) : Cf := ⟨4, 2, 4, 16, room, 2, true⟩
theorem k4_ok (room : Int) : (K4 room).Ok := ⟨⟨by show (2 : Int) ≤ 4; decide, by show (4 : Int) ≤ 8; decide, by show (1 : Int) ≤ 2; decide, by show (2 : Int) ≤ 4; decide⟩, rfl, by show (16 : Int) = pts 4 2; decide⟩
/-- The first p ports, and what was lost. -/
theorem Wt_succ (P : Nat → Pt) (p : Nat) : Wt (fun _ => 1) P (p + 1) = Wt (fun _ => 1) P p + ((accL (P p).ls (P p).cr 9).length : Nat) := by
  show Wt (fun _ => 1) P p + wt (fun _ => 1) (P p) = _
  rw [wt_one]
theorem Wt_mono (P : Nat → Pt) {p n : Nat} (h : p ≤ n) : Wt (fun _ => 1) P p ≤ Wt (fun _ => 1) P n := by
  induction n with
  | zero => obtain rfl : p = 0 := by omega
            exact Int.le_refl _
  | succ n ih =>
    by_cases e : p = n + 1
    · subst e; exact Int.le_refl _
    · have := ih (by omega)
      rw [Wt_succ]; omega
theorem li_mono (I : Nat → List Bx) {p n : Nat} (h : p ≤ n) : li I p ≤ li I n := by
  induction n with
  | zero => obtain rfl : p = 0 := by omega
            exact Int.le_refl _
  | succ n ih =>
    by_cases e : p = n + 1
    · subst e; exact Int.le_refl _
    · have := ih (by omega)
      have : li I (n + 1) = li I n + (I n).length := rfl
      omega
end Go.Proofs.Ytompbpiaapenaaa.Fb

/- Arguments that are slices of structs of numbers and strings: opened, read. Conditions: each theorem's own. -/
namespace Go.Proofs.Ytompbpiaapenaaa.Opn
open Go.ChangeShapes Go.WideShapes Go.RowKit Go.Deep Hp Go.Proofs.Ytompbpiaapenaaa.End
/-- What a cell may hold: a number of some kind, or a string. -/
def Fit : Option IntKind → Value → Prop
  | some k, v => ∃ n, v = .int k n ∧ (Lit.int k n).wf = true
  | none, v => ∃ s : ByteArray, v = .string s ∧ s.size ≤ maxLen
def ofKind : Option IntKind → TypeDesc
  | some k => .int k
  | none => .string
/-- A slice of structs of such cells that was there at the call. -/
def Mixed (w : World) (s : Option Addr) (cap : Nat) (Q : List (Option IntKind)) (zs : List (List Value)) : Prop :=
  zs.length ≤ cap ∧ (∀ r ∈ zs, r.length = Q.length ∧ ∀ (j : Nat) q v, Q[j]? = some q → r[j]? = some v → Fit q v) ∧
  (zs = [] ∨ ∃ b off, s = some ⟨b, off, none⟩ ∧ b < w.heap.size ∧ ∀ i, i < zs.length → ∀ (j : Nat) v, (zs.getD i [])[j]? = some v → w.cell? ⟨b, off + i * Q.length + j, none⟩ = some v)
theorem Mixed.row {w : World} {s : Option Addr} {cap : Nat} {Q : List (Option IntKind)} {zs : List (List Value)} (h : Mixed w s cap Q zs) {i : Nat} (hi : i < zs.length) :
    ∃ r b off, zs[i]? = some r ∧ r.length = Q.length ∧ (∀ (j : Nat) q v, Q[j]? = some q → r[j]? = some v → Fit q v) ∧ s = some ⟨b, off, none⟩ ∧ b < w.heap.size ∧
      ∀ w', Old w w' → ∀ (j : Nat) v, r[j]? = some v → w'.cell? ⟨b, off + i * Q.length + j, none⟩ = some v := by
  rcases h.2.2 with rfl | ⟨b, off, rfl, hb, hc⟩
  · simp at hi
  · obtain ⟨h1, h2⟩ := h.2.1 zs[i] (List.getElem_mem hi)
    refine ⟨zs[i], b, off, List.getElem?_eq_getElem hi, h1, h2, rfl, hb, fun w' k j v hv => ?_⟩
    rw [keptCell k hb (fun h => h)]
    refine hc i hi j v ?_
    rw [show zs.getD i [] = zs[i] by simp [List.getD, List.getElem?_eq_getElem hi]]
    exact hv
theorem struct_mixed {H : Type} {enc : TypeId × Value → H} {W : World} {base fuel : Nat} {sp : Nat → Bool} {held : Bool} {e : TypeId} {fs : Array Field} {cs : List Value} {x : DataW H × List MemPlace} {Q : List (Option IntKind)} (he : Try.prog.underlying e = some (.struct fs)) (hone : oneCellFields Try.prog fs = true) (hC : Try.prog.cellsOf e = fs.size) (hQ : Q.length = fs.size)
    (hkind : ∀ (j : Nat) (f : Field), fs[j]? = some f → ∃ q, Q[j]? = some q ∧ Try.prog.underlying f.type = some (ofKind q)) (h : DataW.trod enc Try.prog W base sp held fuel e cs = some x) (hcs : cs.length = fs.size) :
    ∀ (j : Nat) q v, Q[j]? = some q → cs[j]? = some v → Fit q v := by
  obtain ⟨ys, n', _, _, hlen, hyl, hf⟩ := DataW.trod_struct he h
  intro j q v hq hv
  have hj : j < fs.size := by have := (List.getElem?_eq_some_iff.1 hq).1; omega
  have hfj : fs[j]? = some fs[j] := Array.getElem?_eq_getElem hj
  obtain ⟨q', hq', hu⟩ := hkind j _ hfj
  obtain rfl : q = q' := Option.some.inj (hq.symm.trans hq')
  obtain ⟨ho, hk⟩ := hone_of hone j _ hfj
  have h1 := hf j _ hfj
  rw [ho, hk, List.getElem?_eq_getElem (show j < ys.length by omega)] at h1
  have hone1 : ∀ u, (cs.drop j).take 1 = [u] → v = u := fun u e1 => by
    have := congrArg (fun l : List Value => l[0]?) e1
    have h2 : cs[j]? = some u := by simpa [List.getElem?_take, List.getElem?_drop] using this
    exact Option.some.inj (hv.symm.trans h2)
  cases q with
  | some k =>
    obtain ⟨n, e1, _, e3⟩ := DataW.trod_int hu h1
    exact ⟨n, hone1 _ e1, e3⟩
  | none =>
    obtain ⟨s, e1, _, e3⟩ := DataW.trod_string hu h1
    exact ⟨s, hone1 _ e1, e3⟩
set_option maxRecDepth 100000 in
theorem mixed_of {H : Type} {enc : TypeId × Value → H} {W : World} {base : Nat} {t e : TypeId} {fs : Array Field} {v : Value} {d : DataW H} {p : List MemPlace} (Q : List (Option IntKind)) (ht : Try.prog.underlying t = some (.slice e)) (he : Try.prog.underlying e = some (.struct fs)) (hone : oneCellFields Try.prog fs = true) (hC : Try.prog.cellsOf e = fs.size) (hQ : Q.length = fs.size) (h0 : 0 < fs.size)
    (hkind : ∀ (j : Nat) (f : Field), fs[j]? = some f → ∃ q, Q[j]? = some q ∧ Try.prog.underlying f.type = some (ofKind q))
    (hv : Value.okWide Try.prog W .any base t v) (h : DataW.Trod enc Try.prog W 0 (fun _ => true) true t v d p) : ∃ s cap zs, v = .slice s (List.length zs) cap ∧ Mixed W s cap Q zs := by
  obtain ⟨a, len, cap, rfl⟩ := okWide_slice ht hv
  obtain ⟨_, hf⟩ := h
  rcases open_slice ht hf with ⟨hcs, hx⟩ | ⟨a', len', cap', m, n, D, Pl, hcs, _, hl, _, hm, _, hi⟩
  · simp [Value.cells] at hcs
    obtain ⟨rfl, rfl, rfl⟩ := hcs
    exact ⟨none, 0, [], rfl, Nat.le_refl _, by simp, Or.inl rfl⟩
  · simp [Value.cells] at hcs
    obtain ⟨rfl, rfl, rfl⟩ := hcs
    simp only [if_true] at hm
    have each : ∀ i, i < len → ∃ r : List Value, r.length = Q.length ∧ (∀ (j : Nat) q v, Q[j]? = some q → r[j]? = some v → Fit q v) ∧ ∀ (j : Nat) v, r[j]? = some v → W.cell? ((a'.add (i * fs.size)).add j) = some v := by
      intro i hil
      obtain ⟨cs', hc, ht'⟩ := hi i (by omega)
      rw [hC] at hc
      obtain ⟨_, hcl, hat⟩ := World.cells?_some hc
      refine ⟨cs', by omega, struct_mixed he hone hC hQ hkind ht' hcl, fun j v hj => ?_⟩
      rw [hat j (by have := (List.getElem?_eq_some_iff.1 hj).1; omega), hj]
    have ex : ∃ Z : Nat → List Value, ∀ i, i < len → (Z i).length = Q.length ∧ (∀ (j : Nat) q v, Q[j]? = some q → (Z i)[j]? = some v → Fit q v) ∧ ∀ (j : Nat) v, (Z i)[j]? = some v → W.cell? ((a'.add (i * fs.size)).add j) = some v := by
      classical
      exact ⟨fun i => if h : i < len then (each i h).choose else [], fun i h => by simp only [dif_pos h]; exact (each i h).choose_spec⟩
    obtain ⟨Z, hZ⟩ := ex
    have hlen : ((List.range len).map Z).length = len := by simp
    have hget : ∀ i, i < len → ((List.range len).map Z).getD i [] = Z i := fun i hi => by simp [List.getD, hi]
    refine ⟨some a', cap, (List.range len).map Z, by rw [hlen], by omega, ?_, ?_⟩
    · intro r hr
      obtain ⟨i, hi, rfl⟩ := List.mem_map.1 hr
      have := hZ i (List.mem_range.1 hi)
      exact ⟨this.1, this.2.1⟩
    · by_cases hz : len = 0
      · left; rw [hz]; rfl
      · right
        have hp : 0 < len := by omega
        obtain ⟨u0, hu0⟩ : ∃ u, (Z 0)[0]? = some u := ⟨(Z 0)[0]'(by have := (hZ 0 hp).1; omega), List.getElem?_eq_getElem _⟩
        have c0 := (hZ 0 hp).2.2 0 u0 hu0
        obtain ⟨b, off, rfl⟩ : ∃ b off, a' = ⟨b, off, none⟩ := by
          obtain ⟨b, off, mm⟩ := a'
          have hspot : mm = none := by simpa [Addr.add] using World.cell?_spot c0
          subst hspot
          exact ⟨b, off, rfl⟩
        refine ⟨b, off, rfl, ?_, fun i hi j v hv => ?_⟩
        · rw [Go.WideShapes.add_plain, Go.WideShapes.add_plain] at c0
          exact World.block_lt_of_cell? W _ c0
        · rw [hlen] at hi
          rw [hget i hi] at hv
          have := (hZ i hi).2.2 j v hv
          rw [Go.WideShapes.add_plain, Go.WideShapes.add_plain] at this
          rw [hQ]
          exact this
end Go.Proofs.Ytompbpiaapenaaa.Opn

/- An argument of steps: opened, read. Conditions: each theorem's own. -/
namespace Go.Proofs.Ytompbpiaapenaaa.Opn
open Go.ChangeShapes Go.WideShapes Go.RowKit Go.Deep Hp Go.Proofs.Ytompbpiaapenaaa.End Byt WrM Qu Po QuM Fb
set_option maxRecDepth 100000 in
theorem bytes_cell {H : Type} {enc : TypeId × Value → H} {W : World} {n : Nat} {v : Value} {y : DataW H × List MemPlace}
    (hf : DataW.trod enc Try.prog W 0 (fun _ => true) true n 33 [v] = some y) : ∃ s cap l, v = .slice s (List.length l) cap ∧ Byts W s cap l := by
  rcases open_ints Try.underlying33 Try.underlying5 (by kernel_rfl) hf with ⟨hcs, hx⟩ | ⟨a', len', cap', zs, hcs, _, hl, hm, hz, hx, hcell, hwz⟩
  · simp at hcs
    subst hcs
    exact ⟨none, 0, [], rfl, ⟨none, 0, rfl, Nat.le_refl _, Or.inl rfl, fun _ => rfl⟩, by omega⟩
  · simp at hcs
    subst hcs
    simp only [if_true] at hz
    unfold maxLen at hm
    have hlen : ((zs.take len').map fun n => UInt8.ofNat n.toNat).length = len' := by rw [List.length_map, List.length_take]; omega
    refine ⟨some a', cap', (zs.take len').map fun n => UInt8.ofNat n.toNat, by rw [hlen], ⟨_, _, rfl, by omega, ?_, fun h => by cases h⟩, by omega⟩
    by_cases h0 : len' = 0
    · left; rw [h0]; rfl
    · right
      obtain ⟨b, off, rfl, hc⟩ := ints_at hcell (by omega)
      refine ⟨b, off, rfl, World.block_lt_of_cell? W _ (hc 0 (by omega)), fun j hj => ?_⟩
      rw [hlen] at hj
      rw [hc j (by omega)]
      have hb := range_u8 hwz j
      have e : zs.getD j 0 = zs[j]'(by omega) := by simp [List.getD, List.getElem?_eq_getElem (show j < zs.length by omega)]
      rw [e]
      rw [List.getD_eq_getElem?_getD] at e
      rw [e] at hb
      unfold Byt.bv
      simp only [List.getElem_map, List.getElem_take, UInt8.toNat_ofNat']
      congr 2
      omega
theorem take_one {cs : List Value} {j : Nat} {c : Value} (hj : cs[j]? = some c) : (cs.drop j).take 1 = [c] := by
  obtain ⟨h, rfl⟩ := List.getElem?_eq_some_iff.1 hj
  rw [List.drop_eq_getElem_cons h, List.take_succ_cons, List.take_zero]
theorem bytes_at {H : Type} {enc : TypeId × Value → H} {W : World} {n o j : Nat} {cs : List Value} {ys : List (DataW H × List MemPlace)} {c : Value}
    (hj : cs[o]? = some c) (hy : j < ys.length) (h : DataW.trod enc Try.prog W 0 (fun _ => true) true n 33 ((cs.drop o).take (Try.prog.cellsOf 33)) = ys[j]?) : ∃ s cap l, c = .slice s (List.length l) cap ∧ Byts W s cap l := by
  rw [show Try.prog.cellsOf 33 = 1 by kernel_rfl, take_one hj, List.getElem?_eq_getElem hy] at h
  exact bytes_cell h
theorem int_cell {H : Type} {enc : TypeId × Value → H} {W : World} {n o j : Nat} {k : IntKind} {T : TypeId} {cs : List Value} {ys : List (DataW H × List MemPlace)} {c : Value} (ht : Try.prog.underlying T = some (.int k)) (hc : Try.prog.cellsOf T = 1)
    (hj : cs[o]? = some c) (hy : j < ys.length) (h : DataW.trod enc Try.prog W 0 (fun _ => true) true n T ((cs.drop o).take (Try.prog.cellsOf T)) = ys[j]?) : ∃ m, c = .int k m ∧ (Lit.int k m).wf = true := by
  rw [hc, take_one hj, List.getElem?_eq_getElem hy] at h
  obtain ⟨m, e1, _, e3⟩ := DataW.trod_int ht h
  exact ⟨m, by simpa using e1, e3⟩
/-- A step's cells. -/
def scs (z : Int × Int × Bx) : List Value := .int .i64 z.1 :: .int .i64 z.2.1 :: .int .i64 z.2.2.q :: fT.enc z.2.2
theorem scs_len (z : Int × Int × Bx) : (scs z).length = 13 := rfl
/-- A step's bytes, its numbers. -/
def SOk (w : World) (z : Int × Int × Bx) : Prop := Byts w z.2.2.s z.2.2.c z.2.2.f.data ∧ (Lit.int .i64 z.2.2.q).wf = true
/-- A slice of steps that was there at the call. -/
def StIn (w : World) (s : Option Addr) (cap : Nat) (l : List (Int × Int × Bx)) : Prop :=
  l.length ≤ cap ∧ cap ≤ 9223372036854775807 ∧ (∀ z ∈ l, SOk w z) ∧
  (l = [] ∨ ∃ b off, s = some ⟨b, off, none⟩ ∧ b < w.heap.size ∧ ∀ i z, l[i]? = some z → ∀ (j : Nat) v, (scs z)[j]? = some v → w.cell? ⟨b, off + i * 13 + j, none⟩ = some v)
set_option maxRecDepth 100000 in
set_option maxHeartbeats 4000000 in
theorem step_of {H : Type} {enc : TypeId × Value → H} {W : World} {n : Nat} {cs : List Value} {y : DataW H × List MemPlace} (hl : cs.length = 13)
    (h : DataW.trod enc Try.prog W 0 (fun _ => true) true n 70 cs = some y) : ∃ z, cs = scs z ∧ SOk W z := by
  obtain ⟨c0, c1, c2, c3, c4, c5, c6, c7, c8, c9, c10, c11, c12, rfl⟩ : ∃ c0 c1 c2 c3 c4 c5 c6 c7 c8 c9 c10 c11 c12, cs = [c0, c1, c2, c3, c4, c5, c6, c7, c8, c9, c10, c11, c12] := by
    rcases cs with _ | ⟨c0, _ | ⟨c1, _ | ⟨c2, _ | ⟨c3, _ | ⟨c4, _ | ⟨c5, _ | ⟨c6, _ | ⟨c7, _ | ⟨c8, _ | ⟨c9, _ | ⟨c10, _ | ⟨c11, _ | ⟨c12, _ | ⟨c13, l⟩⟩⟩⟩⟩⟩⟩⟩⟩⟩⟩⟩⟩⟩ <;> first | exact ⟨_, _, _, _, _, _, _, _, _, _, _, _, _, rfl⟩ | (simp at hl)
  obtain ⟨ys, n', _, _, hlen, hyl, hf⟩ := DataW.trod_struct Try.underlying70 h
  have hy3 : ys.length = 4 := by simpa using hyl
  obtain ⟨k0, rfl, b0⟩ := int_cell Try.underlying3 (by kernel_rfl) (o := 0) (j := 0) rfl (by omega) (hf 0 _ rfl)
  obtain ⟨k1, rfl, b1⟩ := int_cell Try.underlying3 (by kernel_rfl) (o := 1) (j := 1) rfl (by omega) (hf 1 _ rfl)
  obtain ⟨k2, rfl, b2⟩ := int_cell Try.underlying3 (by kernel_rfl) (o := 2) (j := 2) rfl (by omega) (hf 2 _ rfl)
  have hF := hf 3 _ rfl
  rw [List.getElem?_eq_getElem (show 3 < ys.length by omega)] at hF
  have hF2 : DataW.trod enc Try.prog W 0 (fun _ => true) true n' 35 [c3, c4, c5, c6, c7, c8, c9, c10, c11, c12] = some ys[3] := hF
  obtain ⟨zs, n'', _, _, hlen2, hzl, hg⟩ := DataW.trod_struct Try.underlying35 hF2
  have hz10 : zs.length = 10 := by simpa using hzl
  obtain ⟨m0, rfl, d0⟩ := int_cell Try.underlying3 (by kernel_rfl) (o := 0) (j := 0) rfl (by omega) (hg 0 _ rfl)
  obtain ⟨m1, rfl, d1⟩ := int_cell Try.underlying3 (by kernel_rfl) (o := 1) (j := 1) rfl (by omega) (hg 1 _ rfl)
  obtain ⟨m2, rfl, d2⟩ := int_cell Try.underlying3 (by kernel_rfl) (o := 2) (j := 2) rfl (by omega) (hg 2 _ rfl)
  obtain ⟨m3, rfl, d3⟩ := int_cell Try.underlying3 (by kernel_rfl) (o := 3) (j := 3) rfl (by omega) (hg 3 _ rfl)
  obtain ⟨m4, rfl, d4⟩ := int_cell Try.underlying32 (by kernel_rfl) (o := 4) (j := 4) rfl (by omega) (hg 4 _ rfl)
  obtain ⟨m5, rfl, d5⟩ := int_cell Try.underlying3 (by kernel_rfl) (o := 5) (j := 5) rfl (by omega) (hg 5 _ rfl)
  obtain ⟨m6, rfl, d6⟩ := int_cell Try.underlying3 (by kernel_rfl) (o := 6) (j := 6) rfl (by omega) (hg 6 _ rfl)
  obtain ⟨m7, rfl, d7⟩ := int_cell Try.underlying3 (by kernel_rfl) (o := 7) (j := 7) rfl (by omega) (hg 7 _ rfl)
  obtain ⟨m8, rfl, d8⟩ := int_cell Try.underlying3 (by kernel_rfl) (o := 8) (j := 8) rfl (by omega) (hg 8 _ rfl)
  obtain ⟨s, cap, l, rfl, hB⟩ := bytes_at (o := 9) (j := 9) rfl (by omega) (hg 9 _ rfl)
  have b4' := bounds_u64 d4
  obtain ⟨q, rfl⟩ : ∃ q : Nat, m4 = q := ⟨m4.toNat, by omega⟩
  exact ⟨(k0, k1, ⟨⟨m0, m1, m2, m3, q, m5, m6, m7, m8, l⟩, s, cap, k2⟩), rfl, hB, b2⟩
set_option maxRecDepth 100000 in
set_option maxHeartbeats 4000000 in
theorem steps_of {H : Type} {enc : TypeId × Value → H} {W : World} {base : Nat} {v : Value} {d : DataW H} {p : List MemPlace}
    (hv : Value.okWide Try.prog W .any base 67 v) (h : DataW.Trod enc Try.prog W 0 (fun _ => true) true 67 v d p) : ∃ s cap l, v = .slice s (List.length l) cap ∧ StIn W s cap l := by
  obtain ⟨a, len, cap, rfl⟩ := okWide_slice Try.underlying67 hv
  obtain ⟨_, hf⟩ := h
  have hC : Try.prog.cellsOf 70 = 13 := by kernel_rfl
  rcases open_slice Try.underlying67 hf with ⟨hcs, hx⟩ | ⟨a', len', cap', m, n, D, Pl, hcs, _, hl, _, hm, hm2, hi⟩
  · simp [Value.cells] at hcs
    obtain ⟨rfl, rfl, rfl⟩ := hcs
    exact ⟨none, 0, [], rfl, Nat.le_refl _, by omega, by simp, Or.inl rfl⟩
  · simp [Value.cells] at hcs
    obtain ⟨rfl, rfl, rfl⟩ := hcs
    simp only [if_true] at hm
    have each : ∀ i, i < len → ∃ z : Int × Int × Bx, SOk W z ∧ ∀ (j : Nat) v, (scs z)[j]? = some v → W.cell? ((a'.add (i * 13)).add j) = some v := by
      intro i hil
      obtain ⟨cs', hc, ht'⟩ := hi i (by omega)
      rw [hC] at hc
      obtain ⟨_, hcl, hat⟩ := World.cells?_some hc
      obtain ⟨z, rfl, hz⟩ := step_of (by omega) ht'
      refine ⟨z, hz, fun j v hj => ?_⟩
      rw [hat j (by have := (List.getElem?_eq_some_iff.1 hj).1; rw [scs_len] at this; exact this), hj]
    have ex : ∃ Z : Nat → Int × Int × Bx, ∀ i, i < len → SOk W (Z i) ∧ ∀ (j : Nat) v, (scs (Z i))[j]? = some v → W.cell? ((a'.add (i * 13)).add j) = some v := by
      classical
      exact ⟨fun i => if h : i < len then (each i h).choose else (0, 0, zB), fun i h => by simp only [dif_pos h]; exact (each i h).choose_spec⟩
    obtain ⟨Z, hZ⟩ := ex
    have hlen : ((List.range len).map Z).length = len := by simp
    refine ⟨some a', cap, (List.range len).map Z, by rw [hlen], by omega, ?_, ?_, ?_⟩
    · unfold maxLen at *; omega
    · intro r hr
      obtain ⟨i, hi, rfl⟩ := List.mem_map.1 hr
      exact (hZ i (List.mem_range.1 hi)).1
    · by_cases hz : len = 0
      · left; rw [hz]; rfl
      · right
        have hp : 0 < len := by omega
        have c0 := (hZ 0 hp).2 0 _ rfl
        obtain ⟨b, off, rfl⟩ : ∃ b off, a' = ⟨b, off, none⟩ := by
          obtain ⟨b, off, mm⟩ := a'
          have hspot : mm = none := by simpa [Addr.add] using World.cell?_spot c0
          subst hspot
          exact ⟨b, off, rfl⟩
        refine ⟨b, off, rfl, ?_, fun i z hiz j v hv => ?_⟩
        · rw [Go.WideShapes.add_plain, Go.WideShapes.add_plain] at c0
          exact World.block_lt_of_cell? W _ c0
        · have hil : i < len := by have := (List.getElem?_eq_some_iff.1 hiz).1; rwa [hlen] at this
          rw [List.getElem?_map, List.getElem?_range hil] at hiz
          obtain rfl : Z i = z := Option.some.inj hiz
          have := (hZ i hil).2 j v hv
          rw [Go.WideShapes.add_plain, Go.WideShapes.add_plain] at this
          exact this
end Go.Proofs.Ytompbpiaapenaaa.Opn

