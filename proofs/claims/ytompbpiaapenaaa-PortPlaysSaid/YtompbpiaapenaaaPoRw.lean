/- A row of items: one read, one set. Conditions: each theorem's own. -/
import Derived.Test.YtompbpiaapenaaaPoLs
set_option linter.unusedVariables false
namespace Go.Proofs.Ytompbpiaapenaaa.Po
open Go.RowKit Hp QuM QuN Rw Qu
/-- One of a row is set. -/
theorem lies_set {α : Type} {t : Rw.Ty α} {w : World} {g cap : Nat} {cur : List Value} {l : List α} (h : Lies t w g cap cur l) {i : Nat} (hi : i < l.length) (x : α) : Lies t (setW w g (i * t.k) (t.enc x)) g cap (setsL cur (i * t.k) (t.enc x)) (l.set i x) := by
  have hk := t.hk x
  have h1 : (i + 1) * t.k ≤ l.length * t.k := Nat.mul_le_mul_right _ hi
  have h2 : l.length * t.k ≤ cap * t.k := Nat.mul_le_mul_right _ h.le
  rw [Nat.add_mul, Nat.one_mul] at h1
  have hc := h.len
  refine ⟨setW_blk _ _ h.blk, by rw [List.length_set]; exact h.le, h.most, by rw [setsL_len]; exact hc, ?_⟩
  rw [List.length_set]
  apply List.ext_getElem?
  intro j
  by_cases hj : j < l.length * t.k
  · rw [List.getElem?_take, if_pos hj]
    obtain ⟨q, r, hr, hq, rfl⟩ : ∃ q r, r < t.k ∧ q < l.length ∧ j = q * t.k + r := ⟨j / t.k, j % t.k, Nat.mod_lt _ t.k0, Nat.div_lt_of_lt_mul (by rw [Nat.mul_comm]; exact hj), by rw [Nat.mul_comm]; exact (Nat.div_add_mod j t.k).symm⟩
    by_cases e : i = q
    · subst e
      rw [setsL_in _ _ _ _ (by omega) (by omega), flat_at t (x := x) (by rw [List.getElem?_set_self hi]) hr]
    · have hout : q * t.k + r < i * t.k ∨ i * t.k + (t.enc x).length ≤ q * t.k + r := by
        rcases Nat.lt_or_ge q i with h | h
        · have := Nat.mul_le_mul_right t.k (show q + 1 ≤ i from h); rw [Nat.add_mul, Nat.one_mul] at this; omega
        · have := Nat.mul_le_mul_right t.k (show i + 1 ≤ q by omega); rw [Nat.add_mul, Nat.one_mul] at this; omega
      rw [setsL_out _ _ _ _ hout, h.cur_at hj, flat_at t (x := l[q]) (List.getElem?_eq_getElem hq) hr, flat_at t (x := l[q]) (by rw [List.getElem?_set_ne e, List.getElem?_eq_getElem hq]) hr]
  · rw [List.getElem?_eq_none (by rw [List.length_take, setsL_len]; omega), List.getElem?_eq_none (by rw [flat_len, List.length_set]; omega)]
/-- The world with one of a row of items set. -/
abbrev setB (w : World) (g p : Nat) (x : Bx) : World := ((((((((((w.setCell ⟨g, p * 11, none⟩ (.int .i64 x.f.kind)).setCell ⟨g, p * 11 + 1, none⟩ (.int .i64 x.f.src)).setCell ⟨g, p * 11 + 2, none⟩ (.int .i64 x.f.dst)).setCell ⟨g, p * 11 + 3, none⟩ (.int .i64 x.f.prio)).setCell ⟨g, p * 11 + 4, none⟩ (.int .u64 (x.f.msg : Int))).setCell ⟨g, p * 11 + 5, none⟩ (.int .i64 x.f.off)).setCell ⟨g, p * 11 + 6, none⟩ (.int .i64 x.f.len)).setCell ⟨g, p * 11 + 7, none⟩ (.int .i64 x.f.total)).setCell ⟨g, p * 11 + 8, none⟩ (.int .i64 x.f.num)).setCell ⟨g, p * 11 + 9, none⟩ (.slice x.s x.f.data.length x.c)).setCell ⟨g, p * 11 + 10, none⟩ (.int .i64 x.q)
theorem setB_eq (w : World) (g p : Nat) (x : Bx) : setB w g p x = setW w g (p * 11) (bT.enc x) := by
  show _ = setW w g (p * 11) [.int .i64 x.f.kind, .int .i64 x.f.src, .int .i64 x.f.dst, .int .i64 x.f.prio, .int .u64 (x.f.msg : Int), .int .i64 x.f.off, .int .i64 x.f.len, .int .i64 x.f.total, .int .i64 x.f.num, .slice x.s x.f.data.length x.c, .int .i64 x.q]
  simp only [setW, Nat.add_assoc, Nat.reduceAdd]
theorem setB_lies {w : World} {g cap : Nat} {cur : List Value} {l : List Bx} (h : Lies bT w g cap cur l) {i : Nat} (hi : i < l.length) (x : Bx) : Lies bT (setB w g i x) g cap (setsL cur (i * 11) (bT.enc x)) (l.set i x) := by
  rw [setB_eq]; exact lies_set h hi x
theorem setB_kept (w : World) (g p : Nat) (x : Bx) : Kept (fun i => i = g) w (setB w g p x) := by
  rw [setB_eq]; exact setW_kept _ w _
theorem bx_cells {w : World} {g cap : Nat} {cur : List Value} {l : List Bx} (h : Lies bT w g cap cur l) {i : Nat} {x : Bx} (hi : l[i]? = some x) :
    w.cell? ⟨g, i * 11, none⟩ = some (.int .i64 x.f.kind) ∧ w.cell? ⟨g, i * 11 + 1, none⟩ = some (.int .i64 x.f.src) ∧ w.cell? ⟨g, i * 11 + 2, none⟩ = some (.int .i64 x.f.dst) ∧ w.cell? ⟨g, i * 11 + 3, none⟩ = some (.int .i64 x.f.prio) ∧ w.cell? ⟨g, i * 11 + 4, none⟩ = some (.int .u64 (x.f.msg : Int)) ∧ w.cell? ⟨g, i * 11 + 5, none⟩ = some (.int .i64 x.f.off) ∧ w.cell? ⟨g, i * 11 + 6, none⟩ = some (.int .i64 x.f.len) ∧ w.cell? ⟨g, i * 11 + 7, none⟩ = some (.int .i64 x.f.total) ∧ w.cell? ⟨g, i * 11 + 8, none⟩ = some (.int .i64 x.f.num) ∧ w.cell? ⟨g, i * 11 + 9, none⟩ = some (.slice x.s x.f.data.length x.c) ∧ w.cell? ⟨g, i * 11 + 10, none⟩ = some (.int .i64 x.q) :=
  ⟨by have := h.cell (t := bT) hi (j := 0) (u := .int .i64 x.f.kind) rfl; simpa using this, by have := h.cell (t := bT) hi (j := 1) (u := .int .i64 x.f.src) rfl; simpa using this, by have := h.cell (t := bT) hi (j := 2) (u := .int .i64 x.f.dst) rfl; simpa using this, by have := h.cell (t := bT) hi (j := 3) (u := .int .i64 x.f.prio) rfl; simpa using this, by have := h.cell (t := bT) hi (j := 4) (u := .int .u64 (x.f.msg : Int)) rfl; simpa using this, by have := h.cell (t := bT) hi (j := 5) (u := .int .i64 x.f.off) rfl; simpa using this, by have := h.cell (t := bT) hi (j := 6) (u := .int .i64 x.f.len) rfl; simpa using this, by have := h.cell (t := bT) hi (j := 7) (u := .int .i64 x.f.total) rfl; simpa using this, by have := h.cell (t := bT) hi (j := 8) (u := .int .i64 x.f.num) rfl; simpa using this, by have := h.cell (t := bT) hi (j := 9) (u := .slice x.s x.f.data.length x.c) rfl; simpa using this, by have := h.cell (t := bT) hi (j := 10) (u := .int .i64 x.q) rfl; simpa using this⟩
theorem ln_cells {w : World} {g cap : Nat} {cur : List Value} {l : List Ln} (h : Lies lT w g cap cur l) {i : Nat} {x : Ln} (hi : l[i]? = some x) :
    w.cell? ⟨g, i * 2, none⟩ = some (.pointer (some ⟨x.1, 0, none⟩)) ∧ w.cell? ⟨g, i * 2 + 1, none⟩ = some (.int .i64 (x.2 : Nat)) :=
  ⟨by have := h.cell (t := lT) hi (j := 0) (u := .pointer (some ⟨x.1, 0, none⟩)) rfl; simpa using this, by have := h.cell (t := lT) hi (j := 1) (u := .int .i64 (x.2 : Nat)) rfl; simpa using this⟩
/-- A row as a source. -/
theorem row_src {α : Type} {t : Rw.Ty α} {w : World} {base : Nat} {v : Value} {l : List α} (h : Row t w base v l) : Rw.Src t w v l := by
  rcases h.form with ⟨rfl, rfl⟩ | ⟨g, cap, cur, rfl, h1, h2⟩
  · exact Or.inl ⟨rfl, rfl⟩
  · have := h2.src 0 l.length cap (by omega)
    rw [Nat.zero_mul, List.drop_zero, List.take_length] at this
    exact this
end Go.Proofs.Ytompbpiaapenaaa.Po
