/- Boxes held against each other; a row beside a queue. Conditions: each theorem's own. -/
import Derived.Test.YtlgcbggffhlhmaaQuSize
import Derived.Laws.StructEq
set_option linter.unusedVariables false
namespace Go.Proofs.Ytlgcbggffhlhmaa.Qu
open Go.RowKit Hp QuM QuN Rw
attribute [local go_sem ↓] Go.wp_at_zero Go.wp_at_succ
theorem box_struct : Try.prog.underlying 67 = some (.struct (Try.prog.fieldsOf 67)) := by kernel_rfl
theorem neq_box (a b : Int) (w : World) : (binOp .neq 67 (.agg #[.int .i64 a, .int .i64 b]) (.agg #[.int .i64 a, .int .i64 b])).run Try.prog w = .ok (.bool false) w := by
  have hp : Try.prog.stoodInHeld 67 = false := by kernel_rfl
  rw [run_neq_struct, show (10000 : Nat) = 9999 + 1 from rfl, run_equalIn_agg w 9999 67 _ _ box_struct hp]
  simp only [Program.fieldsOf, Try.underlying67]
  have u3 := Try.underlying3
  have a3 := Try.isAgg3
  have z3 := Try.sizeOf3
  go_simp
/-- A row that is none of the queue's. -/
def RowF (F : Nat → Prop) (w : World) (base : Nat) (v : Value) (l : List Bx) : Prop := Row bT w base v l ∧ ∀ g, v.ownBlock = some g → ¬ F g
theorem RowF.next {F F' : Nat → Prop} {w w' : World} {base : Nat} {v : Value} {l : List Bx} (h : RowF F w base v l) (n : Next F w F' w') : RowF F' w' base v l :=
  ⟨h.1.kept n.1 h.2, fun g hg e => (n.2 g e).elim (h.2 g hg) (fun h2 => by have := (h.1.lt g hg).2; omega)⟩
theorem RowF.old {F : Nat → Prop} {w w' : World} {base : Nat} {v : Value} {l : List Bx} (h : RowF F w base v l) (k : Kept (fun _ => False) w w') : RowF F w' base v l := ⟨h.1.old k, h.2⟩
theorem St.row {w0 w w' : World} {b : Nat} {room : Int} {ls : Nat → List Bx} {F : Nat → Prop} (h : St w0 b room ls F w) {v : Value} {l : List Bx} (hr : Row bT w' w.heap.size v l) : RowF F w' w.heap.size v l :=
  ⟨hr, fun g hg e => by have := (h.own g e).2; have := (hr.lt g hg).1; omega⟩
/-- What stands at i. -/
theorem RowF.cells {F : Nat → Prop} {w : World} {base : Nat} {v : Value} {l : List Bx} (h : RowF F w base v l) {i : Nat} {x : Bx} (hx : l[i]? = some x) :
    ∃ g c, v = .slice (some ⟨g, 0, none⟩) l.length c ∧ l.length ≤ c ∧ w.cell? ⟨g, i * 2, none⟩ = some (.int .i64 x.1) ∧ w.cell? ⟨g, i * 2 + 1, none⟩ = some (.int .i64 x.2) := by
  rcases h.1.form with ⟨rfl, rfl⟩ | ⟨g, cap, cur, rfl, _, h2⟩
  · simp at hx
  · exact ⟨g, cap, rfl, h2.le, h2.cell hx (j := 0) rfl, h2.cell hx (j := 1) rfl⟩
end Go.Proofs.Ytlgcbggffhlhmaa.Qu
