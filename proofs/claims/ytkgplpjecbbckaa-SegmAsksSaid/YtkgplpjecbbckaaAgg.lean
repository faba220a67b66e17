/- Arguments that are structs of numbers by value: opened. Conditions: each theorem's own. -/
import Derived.Test.YtkgplpjecbbckaaInts
set_option linter.unusedVariables false
namespace Go.Proofs.Ytkgplpjecbbckaa.Opn
open Go.ChangeShapes Go.WideShapes Go.RowKit Go.Deep Hp Go.Proofs.Ytkgplpjecbbckaa.End
theorem agg_of {H : Type} {enc : TypeId × Value → H} {W : World} {base : Nat} {t : TypeId} {fs : Array Field} {v : Value} {d : DataW H} {p : List MemPlace} (ht : Try.prog.underlying t = some (.struct fs)) (hone : oneCellFields Try.prog fs = true) (hC : Try.prog.cellsOf t = fs.size)
    (hint : ∀ (j : Nat) (f : Field), fs[j]? = some f → Try.prog.underlying f.type = some (.int .i64))
    (hv : Value.okWide Try.prog W .any base t v) (h : DataW.Trod enc Try.prog W 0 (fun _ => true) true t v d p) :
    ∃ r : List Int, r.length = fs.size ∧ (∀ n ∈ r, (Lit.int .i64 n).wf = true) ∧ v = .agg (r.map (.int .i64)).toArray := by
  obtain ⟨cs, rfl, hsz⟩ := okWide_struct ht hv
  obtain ⟨fuel, hf⟩ := h
  have hcs : (Value.agg cs).cells.toList = cs.toList := by simp [Value.cells]
  obtain ⟨r, r1, r2, r3⟩ := struct_ints ht hone hC hint hf
  refine ⟨r, r1, r2, ?_⟩
  congr 1
  apply Array.ext'
  apply List.ext_getElem?
  intro j
  rcases Nat.lt_or_ge j fs.size with hj | hj
  · have := r3 j hj
    rw [hcs] at this
    rw [this]
    simp [List.getElem?_eq_getElem (show j < r.length by omega)]
  · rw [List.getElem?_eq_none (by rw [Array.length_toList, hsz, hC]; exact hj), List.getElem?_eq_none (by simp; omega)]
end Go.Proofs.Ytkgplpjecbbckaa.Opn
