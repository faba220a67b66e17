/- Arguments that are slices of numbers, or of structs of numbers: opened, read, handed back. Conditions: each theorem's own. -/
import Derived.Test.YtaflhkhfkifefaaEnd
import Derived.OpenShut
import Derived.Carry
import Derived.Deep.Slices
import Derived.Deep.Fields
set_option linter.unusedVariables false
namespace Go.Proofs.Ytaflhkhfkifefaa.Opn
open Go.ChangeShapes Go.WideShapes Go.RowKit Go.Deep Hp Go.Proofs.Ytaflhkhfkifefaa.End
theorem keptCell {F : Nat → Prop} {w w' : World} (h : Kept F w w') {k : Nat} (hk : k < w.heap.size) (hF : ¬ F k) (o : Nat) : w'.cell? ⟨k, o, none⟩ = w.cell? ⟨k, o, none⟩ := by
  simp [World.cell?, h.block k hk hF]
/-- A slice of numbers that was there at the call. -/
def Ints (w : World) (s : Option Addr) (cap : Nat) (zs : List Int) : Prop :=
  zs.length ≤ cap ∧ (∀ n ∈ zs, (Lit.int .i64 n).wf = true) ∧ (zs = [] ∨ ∃ b off, s = some ⟨b, off, none⟩ ∧ b < w.heap.size ∧ ∀ j, j < zs.length → w.cell? ⟨b, off + j, none⟩ = some (.int .i64 (zs.getD j 0)))
theorem Ints.at {w w' : World} {s : Option Addr} {cap : Nat} {zs : List Int} (h : Ints w s cap zs) (k : Old w w') {j : Nat} (hj : j < zs.length) :
    ∃ b off, s = some ⟨b, off, none⟩ ∧ b < w.heap.size ∧ w'.cell? ⟨b, off + j, none⟩ = some (.int .i64 zs[j]) := by
  rcases h.2.2 with rfl | ⟨b, off, rfl, hb, hc⟩
  · simp at hj
  · refine ⟨b, off, rfl, hb, ?_⟩
    rw [keptCell k hb (fun h => h) (off + j), hc j hj]
    simp [List.getD, List.getElem?_eq_getElem hj]
theorem Ints.wf {w : World} {s : Option Addr} {cap : Nat} {zs : List Int} (h : Ints w s cap zs) {j : Nat} (hj : j < zs.length) : -9223372036854775808 ≤ zs[j] ∧ zs[j] ≤ 9223372036854775807 :=
  bounds_i64 (h.2.1 _ (List.getElem_mem hj))
/-- A slice of structs of m numbers that was there at the call. -/
def Structs (w : World) (s : Option Addr) (cap m : Nat) (zs : List (List Int)) : Prop :=
  zs.length ≤ cap ∧ (∀ r ∈ zs, r.length = m ∧ ∀ n ∈ r, (Lit.int .i64 n).wf = true) ∧
  (zs = [] ∨ ∃ b off, s = some ⟨b, off, none⟩ ∧ b < w.heap.size ∧ ∀ i, i < zs.length → ∀ j, j < m → w.cell? ⟨b, off + i * m + j, none⟩ = some (.int .i64 ((zs.getD i []).getD j 0)))
theorem Structs.cell {w w' : World} {s : Option Addr} {cap m : Nat} {zs : List (List Int)} (h : Structs w s cap m zs) (k : Old w w') {i j : Nat} (hi : i < zs.length) (hj : j < m) :
    ∃ b off, s = some ⟨b, off, none⟩ ∧ b < w.heap.size ∧ w'.cell? ⟨b, off + i * m + j, none⟩ = some (.int .i64 ((zs.getD i []).getD j 0)) := by
  rcases h.2.2 with rfl | ⟨b, off, rfl, hb, hc⟩
  · simp at hi
  · exact ⟨b, off, rfl, hb, by rw [keptCell k hb (fun h => h), hc i hi j hj]⟩
theorem Structs.wf {w : World} {s : Option Addr} {cap m : Nat} {zs : List (List Int)} (h : Structs w s cap m zs) {i j : Nat} (hi : i < zs.length) (hj : j < m) :
    -9223372036854775808 ≤ (zs.getD i []).getD j 0 ∧ (zs.getD i []).getD j 0 ≤ 9223372036854775807 := by
  have e : zs.getD i [] = zs[i] := by simp [List.getD, List.getElem?_eq_getElem hi]
  obtain ⟨hl, hn⟩ := h.2.1 zs[i] (List.getElem_mem hi)
  have hj' : j < zs[i].length := by omega
  have e2 : zs[i].getD j 0 = zs[i][j] := by simp [List.getD, List.getElem?_eq_getElem hj']
  rw [e, e2]
  exact bounds_i64 (hn _ (List.getElem_mem hj'))
theorem laidOut : laidOutB Try.prog = true := by kernel_rfl
theorem back {H : Type} {enc : TypeId × Value → H} {W W' : World} {t : TypeId} {v : Value} {d : DataW H} {p : List MemPlace} {sp : Nat → Bool} (h1 : Try.prog.readableRec t = true) (h2 : t < Try.prog.types.size)
    (h : DataW.Trod enc Try.prog W 0 (fun _ => true) true t v d p)
    (hb : Old W W') (hlt : ∀ x ∈ p, x.block < W.heap.size) (hs : ∀ x ∈ p, sp x.block = true) : DataW.Trod enc Try.prog W' 0 sp true t v d p :=
  WideElems.Trod_stays laidOut h1 h2 h (fun x hx => hb.below.same (hlt x hx)) (fun x hx => hs x hx)
set_option maxRecDepth 100000 in
theorem ints_of {H : Type} {enc : TypeId × Value → H} {W : World} {base : Nat} {t e : TypeId} {v : Value} {d : DataW H} {p : List MemPlace} (ht : Try.prog.underlying t = some (.slice e)) (he : Try.prog.underlying e = some (.int .i64)) (hC : Try.prog.cellsOf e = 1)
    (hv : Value.okWide Try.prog W .any base t v) (h : DataW.Trod enc Try.prog W 0 (fun _ => true) true t v d p) : ∃ s cap zs, v = .slice s (List.length zs) cap ∧ Ints W s cap zs := by
  obtain ⟨a, len, cap, rfl⟩ := okWide_slice ht hv
  obtain ⟨_, hf⟩ := h
  rcases open_ints ht he hC hf with ⟨hcs, hx⟩ | ⟨a', len', cap', zs, hcs, _, hl, hm, hz, hx, hcell, hwz⟩
  · simp [Value.cells] at hcs
    obtain ⟨rfl, rfl, rfl⟩ := hcs
    exact ⟨none, 0, [], rfl, Nat.le_refl _, by simp, Or.inl rfl⟩
  · simp [Value.cells] at hcs
    obtain ⟨rfl, rfl, rfl⟩ := hcs
    simp only [if_true] at hz
    have hlen : (zs.take len).length = len := by rw [List.length_take]; omega
    refine ⟨some a', cap, zs.take len, by rw [hlen], by omega, fun n hn => hwz n (List.mem_of_mem_take hn), ?_⟩
    by_cases h0 : len = 0
    · left; rw [h0]; rfl
    · right
      obtain ⟨b, off, rfl, hc⟩ := ints_at hcell (by omega)
      refine ⟨b, off, rfl, ?_, fun j hj => ?_⟩
      · exact World.block_lt_of_cell? W _ (hc 0 (by omega))
      · rw [hc j (by omega)]
        have : j < len := by omega
        simp [List.getD, this]
/-- The cells of one struct of numbers are numbers. -/
theorem struct_ints {H : Type} {enc : TypeId × Value → H} {W : World} {base fuel : Nat} {sp : Nat → Bool} {held : Bool} {e : TypeId} {fs : Array Field} {cs : List Value} {x : DataW H × List MemPlace} (he : Try.prog.underlying e = some (.struct fs)) (hone : oneCellFields Try.prog fs = true) (hC : Try.prog.cellsOf e = fs.size)
    (hint : ∀ (j : Nat) (f : Field), fs[j]? = some f → Try.prog.underlying f.type = some (.int .i64)) (h : DataW.trod enc Try.prog W base sp held fuel e cs = some x) :
    ∃ r : List Int, r.length = fs.size ∧ (∀ n ∈ r, (Lit.int .i64 n).wf = true) ∧ ∀ j, j < fs.size → cs[j]? = some (.int .i64 (r.getD j 0)) := by
  obtain ⟨ys, n', _, _, hlen, hyl, hf⟩ := DataW.trod_struct he h
  have each : ∀ j, j < fs.size → ∃ n : Int, cs[j]? = some (.int .i64 n) ∧ (Lit.int .i64 n).wf = true := by
    intro j hj
    have hfj : fs[j]? = some fs[j] := Array.getElem?_eq_getElem hj
    obtain ⟨ho, hk⟩ := hone_of hone j _ hfj
    have h1 := hf j _ hfj
    rw [ho, hk, List.getElem?_eq_getElem (show j < ys.length by omega)] at h1
    obtain ⟨n, e1, _, e3⟩ := DataW.trod_int (hint j _ hfj) h1
    refine ⟨n, ?_, e3⟩
    have := congrArg (fun l : List Value => l[0]?) e1
    simpa [List.getElem?_take, List.getElem?_drop] using this
  refine ⟨(List.range fs.size).map fun j => intOf (cs.getD j (.bool false)), by simp, ?_, ?_⟩
  · intro n hn
    obtain ⟨j, hj, rfl⟩ := List.mem_map.1 hn
    obtain ⟨m, e1, e2⟩ := each j (List.mem_range.1 hj)
    simpa [List.getD, e1, intOf] using e2
  · intro j hj
    obtain ⟨m, e1, e2⟩ := each j hj
    rw [e1]
    simp [List.getD, hj, e1, intOf]
set_option maxRecDepth 100000 in
theorem structs_of {H : Type} {enc : TypeId × Value → H} {W : World} {base : Nat} {t e : TypeId} {fs : Array Field} {v : Value} {d : DataW H} {p : List MemPlace} (ht : Try.prog.underlying t = some (.slice e)) (he : Try.prog.underlying e = some (.struct fs)) (hone : oneCellFields Try.prog fs = true) (hC : Try.prog.cellsOf e = fs.size) (h0 : 0 < fs.size)
    (hint : ∀ (j : Nat) (f : Field), fs[j]? = some f → Try.prog.underlying f.type = some (.int .i64))
    (hv : Value.okWide Try.prog W .any base t v) (h : DataW.Trod enc Try.prog W 0 (fun _ => true) true t v d p) : ∃ s cap zs, v = .slice s (List.length zs) cap ∧ Structs W s cap fs.size zs := by
  obtain ⟨a, len, cap, rfl⟩ := okWide_slice ht hv
  obtain ⟨_, hf⟩ := h
  rcases open_slice ht hf with ⟨hcs, hx⟩ | ⟨a', len', cap', m, n, D, Pl, hcs, _, hl, _, hm, _, hi⟩
  · simp [Value.cells] at hcs
    obtain ⟨rfl, rfl, rfl⟩ := hcs
    exact ⟨none, 0, [], rfl, Nat.le_refl _, by simp, Or.inl rfl⟩
  · simp [Value.cells] at hcs
    obtain ⟨rfl, rfl, rfl⟩ := hcs
    simp only [if_true] at hm
    have each : ∀ i, i < len → ∃ r : List Int, r.length = fs.size ∧ (∀ n ∈ r, (Lit.int .i64 n).wf = true) ∧ ∀ j, j < fs.size → W.cell? ((a'.add (i * fs.size)).add j) = some (.int .i64 (r.getD j 0)) := by
      intro i hil
      obtain ⟨cs', hc, ht'⟩ := hi i (by omega)
      rw [hC] at hc
      obtain ⟨_, hcl, hat⟩ := World.cells?_some hc
      obtain ⟨r, r1, r2, r3⟩ := struct_ints he hone hC hint ht'
      exact ⟨r, r1, r2, fun j hj => by rw [hat j hj, r3 j hj]⟩
    have ex : ∃ Z : Nat → List Int, ∀ i, i < len → (Z i).length = fs.size ∧ (∀ n ∈ Z i, (Lit.int .i64 n).wf = true) ∧ ∀ j, j < fs.size → W.cell? ((a'.add (i * fs.size)).add j) = some (.int .i64 ((Z i).getD j 0)) := by
      classical
      exact ⟨fun i => if h : i < len then (each i h).choose else [], fun i h => by simp only [dif_pos h]; exact (each i h).choose_spec⟩
    obtain ⟨Z, hZ⟩ := ex
    have hlen : ((List.range len).map Z).length = len := by simp
    have hget : ∀ i, i < len → ((List.range len).map Z).getD i [] = Z i := fun i hi => by simp [List.getD, hi]
    refine ⟨some a', cap, (List.range len).map Z, by rw [hlen], by omega, ?_, ?_⟩
    · intro r hr
      obtain ⟨i, hi, rfl⟩ := List.mem_map.1 hr
      have := hZ i (List.mem_range.1 hi)
      exact ⟨this.1, this.2.1⟩
    · by_cases hz : len = 0
      · left; rw [hz]; rfl
      · right
        have hp : 0 < len := by omega
        have first : ∀ j, j < [(Z 0).getD 0 0].length → W.cell? (a'.add j) = some (.int .i64 ([(Z 0).getD 0 0].getD j 0)) := fun j hj => by
          obtain rfl : j = 0 := by simp at hj; omega
          have := (hZ 0 hp).2.2 0 h0
          simpa [Addr.add] using this
        obtain ⟨b, off, rfl, hc⟩ := ints_at first (by simp)
        refine ⟨b, off, rfl, World.block_lt_of_cell? W _ (hc 0 (by simp)), fun i hi j hj => ?_⟩
        rw [hlen] at hi
        rw [hget i hi]
        have := (hZ i hi).2.2 j hj
        rw [Go.WideShapes.add_plain, Go.WideShapes.add_plain] at this
        exact this
end Go.Proofs.Ytaflhkhfkifefaa.Opn
