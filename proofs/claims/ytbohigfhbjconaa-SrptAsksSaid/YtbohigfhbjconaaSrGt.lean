/- Grants in rows; a round of grants in memory; the line of a place. Conditions: each theorem's own. -/
import Derived.Test.YtbohigfhbjconaaSrIdx
set_option linter.unusedVariables false
set_option linter.unusedSimpArgs false
namespace Go.Proofs.Ytbohigfhbjconaa.Sr
open Go.RowKit Hp Go.Proofs.Ytbohigfhbjconaa.End Opn SrM So SoM NumM NumC
abbrev G4 := Int × Int × Int × Int
/-- Grants, as elements of rows. -/
@[reducible] def gT : Rw.Ty G4 where
  E := 35
  L := 26
  k := 4
  bz := 32
  enc := fun x => [.int .i64 x.1, .int .u64 x.2.1, .int .i64 x.2.2.1, .int .i64 x.2.2.2]
  z := .agg #[.int .i64 0, .int .u64 0, .int .i64 0, .int .i64 0]
  hL := Try.underlying26
  hI := by kernel_rfl
  hz := rfl
  hk := fun x => rfl
  h1 := fun x v hv => by
    simp only [List.mem_cons, List.not_mem_nil, or_false] at hv
    rcases hv with rfl | rfl | rfl | rfl <;> rfl
  k0 := by decide
  hb := by decide
/-- One cell of one element turned. -/
theorem flat_set {α : Type} (t : Rw.Ty α) {q : Nat} (hq : q < t.k) (v : Value) : ∀ (L : List α) (j : Nat) (x x' : α), L[j]? = some x → t.enc x' = (t.enc x).set q v → Rw.flat t (L.set j x') = (Rw.flat t L).set (j * t.k + q) v
  | [], j, x, x', h, _ => by simp at h
  | y :: L, 0, x, x', h, he => by
    obtain rfl : y = x := by simpa using h
    unfold Rw.flat
    rw [List.set_cons_zero, List.flatMap_cons, List.flatMap_cons, he, List.set_append_left _ _ (by rw [t.hk]; omega)]
    simp
  | y :: L, j + 1, x, x', h, he => by
    have ih := flat_set t hq v L j x x' (by simpa using h) he
    unfold Rw.flat at ih ⊢
    rw [List.set_cons_succ, List.flatMap_cons, List.flatMap_cons, ih, List.set_append_right _ _ (by rw [t.hk, Nat.add_mul]; omega)]
    congr 2
    rw [t.hk, Nat.add_mul]; omega
theorem lies_set {α : Type} {t : Rw.Ty α} {w : World} {g cap : Nat} {cur : List Value} {L : List α} (h : Rw.Lies t w g cap cur L) {j q : Nat} (hq : q < t.k) {x x' : α} {v : Value} (hj : L[j]? = some x) (he : t.enc x' = (t.enc x).set q v) :
    Rw.Lies t (w.setCell ⟨g, j * t.k + q, none⟩ v) g cap (cur.set (j * t.k + q) v) (L.set j x') :=
  ⟨h.blk.set _ _, by rw [List.length_set]; exact h.le, h.most, by rw [List.length_set]; exact h.len, by rw [List.length_set, List.take_set, h.head, flat_set t hq v L j x x' hj he]⟩
/-- A round in memory: behind the mark that wp is. -/
structure RoV (wp : World) (lv fv : Value) (l : List M) (fst : List Int) (rb : Nat) (s : Int × Got) (w : World) : Prop where
  kp : Kept (fun i => wp.heap.size ≤ i) wp w
  lo : wp.heap.size ≤ rb
  ex : ∃ pv gv, Blk w rb [lv, fv, .int .i64 s.1, pv, gv] 54 ∧ Rw.Row nT w wp.heap.size pv (keys s.2) ∧ Rw.Row gT w wp.heap.size gv (s.2.map (tell l fst))
theorem ne_blk {w : World} {a b : Nat} {c d : List Value} {T U : TypeId} (h : Blk w a c T) (k : Blk w b d U) (e : T ≠ U) : a ≠ b := by
  rintro rfl
  exact e (h.inj k).2
theorem prio_any {w : World} {rb : Nat} {lv fv pv gv : Value} {room : Int} {fst : List Int} (h : Blk w rb [lv, fv, .int .i64 room, pv, gv] 54) (hf : RdN w fv fst) (hl : fst.length ≤ 1000) (p : Int) :
    Calls Try.prog 36 #[.pointer (some ⟨rb, 0, none⟩), .int .i64 p] w fun e w' => e = .returned (.int .i64 (prio fst p)) ∧ Kept (fun _ => False) w w' := by
  have c1 := h.cell (o := 1) rfl
  have IX := Lib.hid (index_any hf hl p)
  have HP : Hid (prio fst p = if ixI p fst < 0 then 0 else max (6 - ixI p fst) 0) := rfl
  have hlo : -1 ≤ ixI p fst ∧ ixI p fst ≤ 1000 := by
    unfold ixI
    cases hx : ixn p fst with
    | none => simp only; omega
    | some j => have := (List.getElem?_eq_some_iff.1 (ixn_some.1 hx).1).1; simp only; omega
  obtain ⟨a, c, rfl, _⟩ := hf
  generalize prio fst p = r at HP ⊢
  generalize ixI p fst = i at HP IX hlo
  clear h
  obtain ⟨hlo, hhi⟩ := hlo
  by_cases hi : i < 0
  · have HR : Hid (r = 0) := by show _ = _; rw [HP.out, if_pos hi]
    clear HP
    go_enter Try.func36, Try.ntmps36
    go_wp2_with fail
    with_reducible refine Calls.mono IX.out ?_
    rintro e w2 ⟨rfl, rfl⟩
    go_wp2_with fail
    go_ret
    exact ⟨congrArg (fun z => Ending.returned (Value.int .i64 z)) HR.out.symm, Kept.refl _ _⟩
  · have HR : Hid (r = max (6 - i) 0) := by show _ = _; rw [HP.out, if_neg hi]
    clear HP
    have MX := Lib.hid fun (b : Nat) (w' : World) hc => IvN.max1 (6 - i) 0 r b w' (by rw [HR.out]; exact IvN.max_if _ _) hc
    go_enter Try.func36, Try.ntmps36
    go_wp2_with fail
    with_reducible refine Calls.mono IX.out ?_
    rintro e w2 ⟨rfl, rfl⟩
    have hB := Blk.new w [.int .i64 0] 3
    dsimp only [List.toArray] at hB
    go_wp2_with fail
    refine Calls.mono (MX.out _ _ (hB.cell rfl)) ?_
    rintro e w3 ⟨rfl, rfl⟩
    go_wp2_with fail
    go_ret
    exact ⟨rfl, new_kept _ _⟩
end Go.Proofs.Ytbohigfhbjconaa.Sr
