/- Data and heads in eight lines, as lists. Conditions: each theorem's own. -/
import Derived.Test.YtlgcbggffhlhmaaPoBl
set_option linter.unusedVariables false
namespace Go.Proofs.Ytlgcbggffhlhmaa.Po
open Go.RowKit Hp QuM Qu
/-- Data of so many bytes. -/
abbrev dF (i n : Nat) (l : List UInt8) : WrM.Frm := ⟨1, 0, 1, 0, i, 0, (n : Int), (n : Int), 0, l⟩
/-- A head. -/
def Hd (n : Nat) (f : WrM.Frm) : Prop := f.kind = 7 ∧ f.prio = 7 ∧ f.data = [] ∧ f.len = n
def Ts (ls : Nat → List Bx) (n : Nat) : Prop := ∀ k x, k < 8 → x ∈ ls k → (k = 0 ∧ x.f.kind = 1) ∨ (k = 7 ∧ Hd n x.f)
theorem ts_push {ls : Nat → List Bx} {n p : Nat} (h : Ts ls n) {y : Bx} (hy : (p = 0 ∧ y.f.kind = 1) ∨ (p = 7 ∧ Hd n y.f)) : Ts (upd ls p (ls p ++ [y])) n := by
  intro k x hk hx
  by_cases e : k = p
  · subst e
    rw [upd_self] at hx
    rcases List.mem_append.1 hx with hx | hx
    · exact h k x hk hx
    · rw [List.mem_singleton] at hx; subst hx; exact hy
  · rw [upd_ne _ _ e] at hx; exact h k x hk hx
theorem ts_nil {ls : Nat → List Bx} {n k : Nat} (h : Ts ls n) (h0 : 0 < k) (h7 : k < 7) : ls k = [] := by
  cases e : ls k with
  | nil => rfl
  | cons x R =>
    rcases h k x (by omega) (by rw [e]; exact List.mem_cons_self) with ⟨h1, _⟩ | ⟨h1, _⟩ <;> omega
theorem ts_acc {ls : Nat → List Bx} {n : Nat} (h : Ts ls n) : accL ls [] 9 = ls 7 ++ ls 0 := by
  simp [accL, lnl, ts_nil h (k := 1) (by decide) (by decide), ts_nil h (k := 2) (by decide) (by decide), ts_nil h (k := 3) (by decide) (by decide), ts_nil h (k := 4) (by decide) (by decide), ts_nil h (k := 5) (by decide) (by decide), ts_nil h (k := 6) (by decide) (by decide)]
theorem ts_len {ls : Nat → List Bx} : (ls 7).length + (ls 0).length ≤ cnt ls 8 := by
  simp only [cnt]; omega
/-- What Waiting tells of them. -/
theorem ts_at {ls : Nat → List Bx} {n : Nat} (h : Ts ls n) {W : List Bx} (hW : W.map ky = (ls 7 ++ ls 0).map ky) {j : Nat} {y : Bx} (hy : W[j]? = some y) : (j < (ls 7).length ∧ Hd n y.f) ∨ ((ls 7).length ≤ j ∧ y.f.kind = 1) := by
  have h1 : (W.map ky)[j]? = some (ky y) := by rw [List.getElem?_map, hy]; rfl
  rw [hW, List.getElem?_map] at h1
  obtain ⟨x, hx, hk⟩ := Option.map_eq_some_iff.1 h1
  have hf : x.f = y.f := congrArg Prod.fst hk
  rcases Nat.lt_or_ge j (ls 7).length with hj | hj
  · rw [List.getElem?_append_left hj] at hx
    rcases h 7 x (by decide) (List.mem_of_getElem? hx) with ⟨h1, _⟩ | ⟨_, h2⟩
    · omega
    · exact Or.inl ⟨hj, hf ▸ h2⟩
  · rw [List.getElem?_append_right hj] at hx
    rcases h 0 x (by decide) (List.mem_of_getElem? hx) with ⟨_, h2⟩ | ⟨h1, _⟩
    · exact Or.inr ⟨hj, hf ▸ h2⟩
    · omega
theorem nb_d (i n : Nat) (l : List UInt8) (s : Option Addr) (c : Nat) (q : Int) (hn : n ≤ 1000) : szI (nb ⟨dF i n l, s, c, q⟩) = 26 + (n : Int) := by
  show min (max (26 + (if (1 : Int) = 1 then (n : Int) else 0)) 0) 1073741824 = _
  rw [if_pos rfl]
  omega
theorem sane_d (i n : Nat) (l : List UInt8) (s : Option Addr) (c : Nat) (q : Int) (hn : n ≤ 1000) : Sane ⟨dF i n l, s, c, q⟩ := by
  show 0 ≤ (if (1 : Int) = 1 then (n : Int) else 0) ∧ (if (1 : Int) = 1 then (n : Int) else 0) ≤ 1000000
  rw [if_pos rfl]
  omega
theorem tot_push {ls : Nat → List Bx} {p : Nat} (hp : p < 8) (y : Bx) : tot (upd ls p (ls p ++ [y])) 8 = tot ls 8 + szI (nb y) := by
  rw [tot_upd hp, sumB_append]
  show tot ls 8 - sumB (ls p) + (sumB (ls p) + (szI (nb y) + 0)) = _
  omega
end Go.Proofs.Ytlgcbggffhlhmaa.Po
