/- Arguments that are slices of structs of numbers and strings: opened, read. Conditions: each theorem's own. -/
import Derived.Test.YtbohigfhbjconaaInts
set_option linter.unusedVariables false
namespace Go.Proofs.Ytbohigfhbjconaa.Opn
open Go.ChangeShapes Go.WideShapes Go.RowKit Go.Deep Hp Go.Proofs.Ytbohigfhbjconaa.End
/-- What a cell may hold: a number of some kind, or a string. -/
def Fit : Option IntKind → Value → Prop
  | some k, v => ∃ n, v = .int k n ∧ (Lit.int k n).wf = true
  | none, v => ∃ s : ByteArray, v = .string s ∧ s.size ≤ maxLen
def ofKind : Option IntKind → TypeDesc
  | some k => .int k
  | none => .string
/-- A slice of structs of such cells that was there at the call. -/
def Mixed (w : World) (s : Option Addr) (cap : Nat) (Q : List (Option IntKind)) (zs : List (List Value)) : Prop :=
  zs.length ≤ cap ∧ (∀ r ∈ zs, r.length = Q.length ∧ ∀ (j : Nat) q v, Q[j]? = some q → r[j]? = some v → Fit q v) ∧
  (zs = [] ∨ ∃ b off, s = some ⟨b, off, none⟩ ∧ b < w.heap.size ∧ ∀ i, i < zs.length → ∀ (j : Nat) v, (zs.getD i [])[j]? = some v → w.cell? ⟨b, off + i * Q.length + j, none⟩ = some v)
theorem Mixed.row {w : World} {s : Option Addr} {cap : Nat} {Q : List (Option IntKind)} {zs : List (List Value)} (h : Mixed w s cap Q zs) {i : Nat} (hi : i < zs.length) :
    ∃ r b off, zs[i]? = some r ∧ r.length = Q.length ∧ (∀ (j : Nat) q v, Q[j]? = some q → r[j]? = some v → Fit q v) ∧ s = some ⟨b, off, none⟩ ∧ b < w.heap.size ∧
      ∀ w', Old w w' → ∀ (j : Nat) v, r[j]? = some v → w'.cell? ⟨b, off + i * Q.length + j, none⟩ = some v := by
  rcases h.2.2 with rfl | ⟨b, off, rfl, hb, hc⟩
  · simp at hi
  · obtain ⟨h1, h2⟩ := h.2.1 zs[i] (List.getElem_mem hi)
    refine ⟨zs[i], b, off, List.getElem?_eq_getElem hi, h1, h2, rfl, hb, fun w' k j v hv => ?_⟩
    rw [keptCell k hb (fun h => h)]
    refine hc i hi j v ?_
    rw [show zs.getD i [] = zs[i] by simp [List.getD, List.getElem?_eq_getElem hi]]
    exact hv
theorem struct_mixed {H : Type} {enc : TypeId × Value → H} {W : World} {base fuel : Nat} {sp : Nat → Bool} {held : Bool} {e : TypeId} {fs : Array Field} {cs : List Value} {x : DataW H × List MemPlace} {Q : List (Option IntKind)} (he : Try.prog.underlying e = some (.struct fs)) (hone : oneCellFields Try.prog fs = true) (hC : Try.prog.cellsOf e = fs.size) (hQ : Q.length = fs.size)
    (hkind : ∀ (j : Nat) (f : Field), fs[j]? = some f → ∃ q, Q[j]? = some q ∧ Try.prog.underlying f.type = some (ofKind q)) (h : DataW.trod enc Try.prog W base sp held fuel e cs = some x) (hcs : cs.length = fs.size) :
    ∀ (j : Nat) q v, Q[j]? = some q → cs[j]? = some v → Fit q v := by
  obtain ⟨ys, n', _, _, hlen, hyl, hf⟩ := DataW.trod_struct he h
  intro j q v hq hv
  have hj : j < fs.size := by have := (List.getElem?_eq_some_iff.1 hq).1; omega
  have hfj : fs[j]? = some fs[j] := Array.getElem?_eq_getElem hj
  obtain ⟨q', hq', hu⟩ := hkind j _ hfj
  obtain rfl : q = q' := Option.some.inj (hq.symm.trans hq')
  obtain ⟨ho, hk⟩ := hone_of hone j _ hfj
  have h1 := hf j _ hfj
  rw [ho, hk, List.getElem?_eq_getElem (show j < ys.length by omega)] at h1
  have hone1 : ∀ u, (cs.drop j).take 1 = [u] → v = u := fun u e1 => by
    have := congrArg (fun l : List Value => l[0]?) e1
    have h2 : cs[j]? = some u := by simpa [List.getElem?_take, List.getElem?_drop] using this
    exact Option.some.inj (hv.symm.trans h2)
  cases q with
  | some k =>
    obtain ⟨n, e1, _, e3⟩ := DataW.trod_int hu h1
    exact ⟨n, hone1 _ e1, e3⟩
  | none =>
    obtain ⟨s, e1, _, e3⟩ := DataW.trod_string hu h1
    exact ⟨s, hone1 _ e1, e3⟩
set_option maxRecDepth 100000 in
theorem mixed_of {H : Type} {enc : TypeId × Value → H} {W : World} {base : Nat} {t e : TypeId} {fs : Array Field} {v : Value} {d : DataW H} {p : List MemPlace} (Q : List (Option IntKind)) (ht : Try.prog.underlying t = some (.slice e)) (he : Try.prog.underlying e = some (.struct fs)) (hone : oneCellFields Try.prog fs = true) (hC : Try.prog.cellsOf e = fs.size) (hQ : Q.length = fs.size) (h0 : 0 < fs.size)
    (hkind : ∀ (j : Nat) (f : Field), fs[j]? = some f → ∃ q, Q[j]? = some q ∧ Try.prog.underlying f.type = some (ofKind q))
    (hv : Value.okWide Try.prog W .any base t v) (h : DataW.Trod enc Try.prog W 0 (fun _ => true) true t v d p) : ∃ s cap zs, v = .slice s (List.length zs) cap ∧ Mixed W s cap Q zs := by
  obtain ⟨a, len, cap, rfl⟩ := okWide_slice ht hv
  obtain ⟨_, hf⟩ := h
  rcases open_slice ht hf with ⟨hcs, hx⟩ | ⟨a', len', cap', m, n, D, Pl, hcs, _, hl, _, hm, _, hi⟩
  · simp [Value.cells] at hcs
    obtain ⟨rfl, rfl, rfl⟩ := hcs
    exact ⟨none, 0, [], rfl, Nat.le_refl _, by simp, Or.inl rfl⟩
  · simp [Value.cells] at hcs
    obtain ⟨rfl, rfl, rfl⟩ := hcs
    simp only [if_true] at hm
    have each : ∀ i, i < len → ∃ r : List Value, r.length = Q.length ∧ (∀ (j : Nat) q v, Q[j]? = some q → r[j]? = some v → Fit q v) ∧ ∀ (j : Nat) v, r[j]? = some v → W.cell? ((a'.add (i * fs.size)).add j) = some v := by
      intro i hil
      obtain ⟨cs', hc, ht'⟩ := hi i (by omega)
      rw [hC] at hc
      obtain ⟨_, hcl, hat⟩ := World.cells?_some hc
      refine ⟨cs', by omega, struct_mixed he hone hC hQ hkind ht' hcl, fun j v hj => ?_⟩
      rw [hat j (by have := (List.getElem?_eq_some_iff.1 hj).1; omega), hj]
    have ex : ∃ Z : Nat → List Value, ∀ i, i < len → (Z i).length = Q.length ∧ (∀ (j : Nat) q v, Q[j]? = some q → (Z i)[j]? = some v → Fit q v) ∧ ∀ (j : Nat) v, (Z i)[j]? = some v → W.cell? ((a'.add (i * fs.size)).add j) = some v := by
      classical
      exact ⟨fun i => if h : i < len then (each i h).choose else [], fun i h => by simp only [dif_pos h]; exact (each i h).choose_spec⟩
    obtain ⟨Z, hZ⟩ := ex
    have hlen : ((List.range len).map Z).length = len := by simp
    have hget : ∀ i, i < len → ((List.range len).map Z).getD i [] = Z i := fun i hi => by simp [List.getD, hi]
    refine ⟨some a', cap, (List.range len).map Z, by rw [hlen], by omega, ?_, ?_⟩
    · intro r hr
      obtain ⟨i, hi, rfl⟩ := List.mem_map.1 hr
      have := hZ i (List.mem_range.1 hi)
      exact ⟨this.1, this.2.1⟩
    · by_cases hz : len = 0
      · left; rw [hz]; rfl
      · right
        have hp : 0 < len := by omega
        obtain ⟨u0, hu0⟩ : ∃ u, (Z 0)[0]? = some u := ⟨(Z 0)[0]'(by have := (hZ 0 hp).1; omega), List.getElem?_eq_getElem _⟩
        have c0 := (hZ 0 hp).2.2 0 u0 hu0
        obtain ⟨b, off, rfl⟩ : ∃ b off, a' = ⟨b, off, none⟩ := by
          obtain ⟨b, off, mm⟩ := a'
          have hspot : mm = none := by simpa [Addr.add] using World.cell?_spot c0
          subst hspot
          exact ⟨b, off, rfl⟩
        refine ⟨b, off, rfl, ?_, fun i hi j v hv => ?_⟩
        · rw [Go.WideShapes.add_plain, Go.WideShapes.add_plain] at c0
          exact World.block_lt_of_cell? W _ c0
        · rw [hlen] at hi
          rw [hget i hi] at hv
          have := (hZ i hi).2.2 j v hv
          rw [Go.WideShapes.add_plain, Go.WideShapes.add_plain] at this
          rw [hQ]
          exact this
end Go.Proofs.Ytbohigfhbjconaa.Opn
