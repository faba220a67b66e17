/- What the row's condition on the table of math/bits gives the walks: each of its cells. Conditions: each theorem's own. -/
import Derived.Test.YtjmlglibmlfjaaaDoorWheel
import Derived.ProofKit
import Derived.LaidMore
import Derived.OpenShut
import Derived.Stop.Joined
namespace Go.Proofs.YtjmlglibmlfjaaaDoor.TabL
open Go.ChangeShapes Go.WideShapes Go.ChangeAt Go.RowKit BitsC Wh
theorem gTab : Tryd.prog.globalNamed "math/bits.deBruijn32tab" = some 0 := by kernel_rfl
theorem tTab : (Tryd.prog.globals[(0 : Nat)]?).map (·.type) = some 104 := by kernel_rfl
theorem laid_list : (Rows.laid_math_bits_deBruijn32tab : DataW Unit) = .agg (Lib.deBruijn32tab.map fun k : Nat => .lit (.int .u8 (k : Int))) := rfl
theorem tab_of_laid {W : World} (h : laidMetH Tryd.prog [("math/bits.deBruijn32tab", Rows.laid_math_bits_deBruijn32tab)] W) : Tab W := by
  rw [MakeChecks.laidMetH_plain _ _ _ (by kernel_rfl)] at h
  obtain ⟨ps, ⟨g0, t0, cs0, f0, p0, q0, hg0, ht0, hv0, hd0, _⟩, _, _⟩ := h
  obtain rfl := Option.some.inj (gTab.symm.trans hg0)
  obtain rfl := Option.some.inj (tTab.symm.trans ht0)
  obtain ⟨xs, m1, rfl, hx1, hlen, hn3, hel⟩ := DataW.trod_array Tryd.underlying104 hd0
  have c5 : Tryd.prog.cellsOf 5 = 1 := by kernel_rfl
  rw [laid_list] at hx1
  simp only [Prod.mk.injEq, DataW.agg.injEq] at hx1
  intro j hj
  have hj32 : j < 32 := hj
  have h0 := hel j hj32
  have hxj : j < xs.length := by omega
  rw [List.getElem?_eq_getElem hxj, c5] at h0
  obtain ⟨n, e1, e2, _⟩ := DataW.trod_int Tryd.underlying5 h0
  have e3 : (xs.map (·.1))[j]? = some (.lit (.int .u8 n)) := by simp [hxj, e2]
  rw [← hx1.1] at e3
  have e4 : n = ((Lib.deBruijn32tab.getD j 0 : Nat) : Int) := by
    have hjl : j < Lib.deBruijn32tab.length := hj
    simp only [List.getElem?_map, List.getElem?_eq_getElem hjl, Option.map_some, Option.some.injEq, DataW.lit.injEq, Lit.int.injEq, true_and] at e3
    rw [← e3]; simp [List.getD, List.getElem?_eq_getElem hjl]
  have := World.var?_cell gTab hv0 j
  rw [this, ← e4]
  have e5 : cs0.toList[j]? = some (.int .u8 n) := by
    have := congrArg (fun l : List Value => l[0]?) e1
    simpa [List.getElem?_take, List.getElem?_drop] using this
  simpa using e5
end Go.Proofs.YtjmlglibmlfjaaaDoor.TabL
