/- Both nets beside each other: what each call answers and leaves. Conditions: each theorem's own. -/
import Derived.Test.YtoieogembfdmfaaDoorTpDc
set_option linter.unusedVariables false
namespace Go.Proofs.YtoieogembfdmfaaDoor.Tp
open Go.RowKit Hp TpM Go.Proofs.YtoieogembfdmfaaDoor.End
/-- The program's net, the reference's, and all that was there as it was. -/
structure DS (w0 : World) (b m : Nat) (H S : Int) (w : World) : Prop where
  old : Old w0 w
  net : NV w b H S
  ref : MV w m H S
variable {w0 w : World} {b m : Nat} {H S : Int}
theorem DS.next {w' : World} (h : DS w0 b m H S w) (k : Kept (fun _ => False) w w') : DS w0 b m H S w' := ⟨h.old.trans k, k.blk h.net (fun f => f), k.blk h.ref (fun f => f)⟩
theorem DS.drewN (h : DS w0 b m H S w) (k : Nat) : DS w0 b m H S (w.drewN k) := h.next ((Kept.refl _ w).drewN k)
theorem DS.drew (h : DS w0 b m H S w) : DS w0 b m H S w.drew := h.next (Kept.refl _ w).drew
theorem DS.leaves (h : DS w0 b m H S w) : w.cell? ⟨m, 1, none⟩ = some (.int .i64 (lv H)) := h.ref.cell (o := 1) rfl
/-- A call that leaves all as it was. -/
abbrev Ans (w0 : World) (b m : Nat) (H S : Int) (f : Nat) (args : Array Value) (v : Value) : Prop :=
  ∀ w, DS w0 b m H S w → Calls Tryd.prog f args w fun e w' => e = .returned v ∧ DS w0 b m H S w'
theorem ans_kept {f : Nat} {args : Array Value} {v : Value} (c : ∀ w, DS w0 b m H S w → Calls Tryd.prog f args w fun e w' => e = .returned v ∧ Kept (fun _ => False) w w') : Ans w0 b m H S f args v :=
  fun w h => (c w h).mono fun _ _ ⟨h1, h2⟩ => ⟨h1, h.next h2⟩
theorem ans_drew {f : Nat} {args : Array Value} {v : Value} (c : ∀ w, DS w0 b m H S w → Calls Tryd.prog f args w fun e w' => e = .returned v ∧ ∃ k, w' = w.drewN k) : Ans w0 b m H S f args v :=
  fun w h => (c w h).mono fun _ _ ⟨h1, k, h2⟩ => ⟨h1, h2 ▸ h.drewN k⟩
theorem ans_same {f : Nat} {args : Array Value} {v : Value} (c : ∀ w, DS w0 b m H S w → Calls Tryd.prog f args w fun e w' => e = .returned v ∧ w = w') : Ans w0 b m H S f args v :=
  fun w h => (c w h).mono fun _ _ ⟨h1, h2⟩ => ⟨h1, h2 ▸ h⟩
end Go.Proofs.YtoieogembfdmfaaDoor.Tp
