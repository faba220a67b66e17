/- Acks in eight lines, as lists: their order. Conditions: each theorem's own. -/
import Derived.Test.YtompbpiaapenaaaPoWa
set_option linter.unusedVariables false
namespace Go.Proofs.Ytompbpiaapenaaa.Po
open Go.RowKit Hp QuM Qu
/-- An ack; a credit. -/
abbrev qF (p i : Int) : WrM.Frm := ⟨5, 0, 1, p, 0, 0, 0, 0, i, []⟩
abbrev kF (i : Int) : WrM.Frm := ⟨11, 0, 1, 0, 0, 0, 0, 0, i, []⟩
def krF (k m : Nat) : List WrM.Frm := (List.range' k m).map fun (j : Nat) => kF (j : Int)
theorem krF_cons (k m : Nat) : krF k (m + 1) = kF (k : Int) :: krF (k + 1) m := by unfold krF; rw [List.range'_succ, List.map_cons]
theorem krF_snoc (k m : Nat) : krF k (m + 1) = krF k m ++ [kF ((k + m : Nat) : Int)] := by unfold krF; rw [List.range'_concat, List.map_append, Nat.one_mul]; rfl
theorem krF_len (k m : Nat) : (krF k m).length = m := by unfold krF; rw [List.length_map, List.length_range']
theorem sane_ne {x : Bx} (h : x.f.kind ≠ 1) : Sane x := by
  unfold Sane Wr.dl
  rw [if_neg h]
  decide
theorem nb_ne {x : Bx} (h : x.f.kind ≠ 1) : szI (nb x) = 26 := by
  unfold nb szI
  rw [if_neg h]
  decide
theorem sumB_ne : ∀ {L : List Bx}, (∀ x ∈ L, x.f.kind ≠ 1) → sumB L = 26 * (L.length : Int)
  | [], _ => rfl
  | x :: L, h => by
    have h1 := sumB_ne (L := L) (fun y hy => h y (List.mem_cons_of_mem _ hy))
    have h2 := nb_ne (h x List.mem_cons_self)
    show szI (nb x) + sumB L = _
    rw [h1, h2, List.length_cons]
    omega
theorem tot_ne {ls : Nat → List Bx} : ∀ {n : Nat}, (∀ k x, k < n → x ∈ ls k → x.f.kind ≠ 1) → tot ls n = 26 * (cnt ls n : Int)
  | 0, _ => rfl
  | n + 1, h => by
    have h1 := tot_ne (ls := ls) (n := n) (fun k x hk hx => h k x (by omega) hx)
    have h2 := sumB_ne (L := ls n) (fun x hx => h n x (by omega) hx)
    show tot ls n + sumB (ls n) = 26 * ((cnt ls n + (ls n).length : Nat) : Int)
    rw [h1, h2]
    omega
structure Hs (ls : Nat → List Bx) (n : Nat) : Prop where
  mem : ∀ k x, k < 8 → x ∈ ls k → x.f.kind = 5 ∧ x.f.prio = (k : Int) ∧ 0 ≤ x.f.num ∧ x.f.num < n
  srt : ∀ k, k < 8 → (ls k).Pairwise (fun a c => a.f.num < c.f.num)
theorem Hs.tot {ls : Nat → List Bx} {n : Nat} (h : Hs ls n) : tot ls 8 = 26 * (cnt ls 8 : Int) := tot_ne fun k x hk hx => by rw [(h.mem k x hk hx).1]; decide
theorem Hs.push {ls : Nat → List Bx} {n p : Nat} (h : Hs ls n) (hp : p < 8) {y : Bx} (hy : y.f = qF p n) : Hs (upd ls p (ls p ++ [y])) (n + 1) := by
  constructor
  · intro k x hk hx
    by_cases e : k = p
    · subst e
      rw [upd_self] at hx
      rcases List.mem_append.1 hx with hx | hx
      · obtain ⟨h1, h2, h3, h4⟩ := h.mem k x hk hx
        exact ⟨h1, h2, h3, by omega⟩
      · rw [List.mem_singleton] at hx
        subst hx
        rw [hy]
        exact ⟨rfl, rfl, by show (0 : Int) ≤ (n : Int); omega, by show (n : Int) < _; omega⟩
    · rw [upd_ne _ _ e] at hx
      obtain ⟨h1, h2, h3, h4⟩ := h.mem k x hk hx
      exact ⟨h1, h2, h3, by omega⟩
  · intro k hk
    by_cases e : k = p
    · subst e
      rw [upd_self]
      refine List.pairwise_append.2 ⟨h.srt k hk, List.pairwise_singleton _ _, fun a ha c hc => ?_⟩
      rw [List.mem_singleton] at hc
      subst hc
      have := (h.mem k a hk ha).2.2.2
      rw [hy]
      exact this
    · rw [upd_ne _ _ e]; exact h.srt k hk
theorem cnt_push {ls : Nat → List Bx} {p : Nat} (hp : p < 8) (y : Bx) : cnt (upd ls p (ls p ++ [y])) 8 = cnt ls 8 + 1 := by
  have := cnt_upd (ls := ls) (L := ls p ++ [y]) (n := 8) hp
  rw [List.length_append, List.length_singleton] at this
  omega
/-- Those that are there come behind. -/
def Od (ls : Nat → List Bx) (last at_ : Int) : Prop := ∀ k x, k < 8 → x ∈ ls k → (k : Int) < last ∨ ((k : Int) = last ∧ at_ < x.f.num)
theorem pop_ok {ls : Nat → List Bx} {n p : Nat} {x : Bx} {R : List Bx} {last at_ : Int} (h : Hs ls n) (hO : Od ls last at_) (ht : top ls 8 = some p) (hx : ls p = x :: R) :
    p < 8 ∧ x.f.kind = 5 ∧ x.f.prio = (p : Int) ∧ ((p : Int) < last ∨ ((p : Int) = last ∧ at_ < x.f.num)) ∧ Hs (upd ls p R) n ∧ Od (upd ls p R) p x.f.num ∧ cnt (upd ls p R) 8 + 1 = cnt ls 8 := by
  obtain ⟨hp, _, hup⟩ := top_some ht
  have hmem : x ∈ ls p := by rw [hx]; exact List.mem_cons_self
  have hsub : ∀ y, y ∈ R → y ∈ ls p := fun y hy => by rw [hx]; exact List.mem_cons_of_mem _ hy
  obtain ⟨h1, h2, _, _⟩ := h.mem p x hp hmem
  have hs := h.srt p hp
  rw [hx] at hs
  obtain ⟨hs1, hs2⟩ := List.pairwise_cons.1 hs
  refine ⟨hp, h1, h2, hO p x hp hmem, ⟨fun k y hk hy => ?_, fun k hk => ?_⟩, fun k y hk hy => ?_, ?_⟩
  · by_cases e : k = p
    · subst e; rw [upd_self] at hy; exact h.mem k y hk (hsub y hy)
    · rw [upd_ne _ _ e] at hy; exact h.mem k y hk hy
  · by_cases e : k = p
    · subst e; rw [upd_self]; exact hs2
    · rw [upd_ne _ _ e]; exact h.srt k hk
  · by_cases e : k = p
    · subst e; rw [upd_self] at hy; exact Or.inr ⟨rfl, hs1 y hy⟩
    · rw [upd_ne _ _ e] at hy
      left
      rcases Nat.lt_or_ge p k with hlt | hge
      · rw [hup k hlt hk] at hy; cases hy
      · omega
  · have := cnt_upd (ls := ls) (L := R) (n := 8) hp
    rw [hx, List.length_cons] at this
    omega
theorem cnt_zero {ls : Nat → List Bx} (h : cnt ls 8 = 0) {k : Nat} (hk : k < 8) : ls k = [] := by
  have := len_le_cnt (ls := ls) hk
  exact List.length_eq_zero_iff.1 (by omega)
theorem acc_zero {ls : Nat → List Bx} (h : cnt ls 8 = 0) : ∀ n, accL ls [] n = []
  | 0 => rfl
  | n + 1 => by
    show accL ls [] n ++ lnl ls [] n = []
    rw [acc_zero h n]
    unfold lnl
    split
    · rw [cnt_zero h (by omega)]; rfl
    · rfl
theorem top_cnt {ls : Nat → List Bx} (h : cnt ls 8 ≠ 0) : ∃ p x R, top ls 8 = some p ∧ ls p = x :: R := by
  cases ht : top ls 8 with
  | none =>
    exfalso
    have := top_none ht
    apply h
    have : ∀ n, n ≤ 8 → cnt ls n = 0 := fun n => by
      induction n with
      | zero => intro _; rfl
      | succ n ih => intro hn; show cnt ls n + (ls n).length = 0; rw [ih (by omega), this n (by omega)]; rfl
    exact this 8 (Nat.le_refl _)
  | some p =>
    obtain ⟨_, h2, _⟩ := top_some ht
    cases e : ls p with
    | nil => exact absurd e h2
    | cons x R => exact ⟨p, x, R, rfl, e⟩
end Go.Proofs.Ytompbpiaapenaaa.Po
