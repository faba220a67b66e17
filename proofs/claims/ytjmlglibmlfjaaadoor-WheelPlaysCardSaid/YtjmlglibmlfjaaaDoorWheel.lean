/- The wheel: what is there, and what each call leaves. Conditions: each theorem's own. -/
import Derived.Test.YtjmlglibmlfjaaaDoorWhUnl
import Derived.Test.YtjmlglibmlfjaaaDoorNum1
import Derived.Test.YtjmlglibmlfjaaaDoorIMap
import Derived.Deep.RegionHeld3
import Derived.Carry
set_option linter.unusedVariables false
namespace Go.Proofs.YtjmlglibmlfjaaaDoor.Wheel
open Go.RowKit Hp BitsM BitsC Tree Wh Num1 Im
def TW : TypeId := 61
def ents (T : Tr) : List Tm := T.lvs.flatMap (·.ts)
/-- What a wheel is made of; g the block of the table. -/
def WF0 (b mb : Nat) (T : Tr) (k : Nat) : Prop := k = b ∨ k = mb ∨ T.F k
structure Whl (w : World) (b mb most now last : Nat) (T : Tr) (M : List (Nat × Value)) : Prop where
  hb : Blk w b [.int .i64 most, .int .i64 now, .int .i64 last, .map (some mb), T.ptr] TW
  hm : IMap w mb M
  rep : Rep Y w T
  wf : WF T
  full : ∀ p ∈ T.lvs, p.ts ≠ []
  perm : M.Perm ((ents T).map fun t => (t.id, tptr t))
  ids : ∀ t ∈ ents T, 1 ≤ t.id ∧ t.id ≤ last
  nodup : ((ents T).map (·.id)).Nodup
  sep : b ≠ mb ∧ ¬ T.F b ∧ ¬ T.F mb
  off : ¬ WF0 b mb T (0)
  now1 : now ≤ 1125899906842624
theorem WF0.lt {w : World} {b mb most now last : Nat} {T : Tr} {M : List (Nat × Value)} (h : Whl w b mb most now last T M) {k : Nat} (hk : WF0 b mb T k) : k < w.heap.size := by
  rcases hk with rfl | rfl | hk
  · exact h.hb.lt
  · exact h.hm.lt
  · exact h.rep.lt k hk
theorem Whl.kept {w w' : World} {b mb most now last : Nat} {T : Tr} {M : List (Nat × Value)} (h : Whl w b mb most now last T M) {F : Nat → Prop} (k : Kept F w w') (hF : ∀ i, WF0 b mb T i → ¬ F i) : Whl w' b mb most now last T M :=
  ⟨k.blk h.hb (hF _ (Or.inl rfl)), h.hm.kept k (hF _ (Or.inr (Or.inl rfl))), h.rep.kept k (fun i hi => hF i (Or.inr (Or.inr hi))), h.wf, h.full, h.perm, h.ids, h.nodup, h.sep, h.off, h.now1⟩
theorem new_no (most : Int) (h : most < 1 ∨ 100000 < most) (w : World) :
    Calls Tryd.prog 5 #[.int .i64 most] w fun e w' => e = .returned (.tuple #[.pointer none, .int .i64 1]) ∧ w = w' := by
  rcases h with h | h
  · go_enter Tryd.func5, Tryd.ntmps5
    go_wp2
    go_ret2
    exact ⟨rfl, rfl⟩
  · have h' : ¬ most < 1 := by omega
    go_enter Tryd.func5, Tryd.ntmps5
    go_wp2
    go_ret2
    exact ⟨rfl, rfl⟩
def New (most : Nat) (w : World) (e : Ending) (w' : World) : Prop := e = .returned (.tuple #[.pointer (some ⟨w.heap.size + 1, 0, none⟩), .int .i64 0]) ∧ Whl w' (w.heap.size + 1) w.heap.size most 0 0 .nil [] ∧ Kept (fun _ => False) w w'
theorem new_yes (most : Nat) (h1 : 1 ≤ most) (h2 : most ≤ 100000) (w : World) (hT : Tab w) :
    Calls Tryd.prog 5 #[.int .i64 most] w (New most w) := by
  have hmm := @run_makeMap Tryd.prog
  have hg := World.block_lt_of_cell? w _ (hT 0 (by decide))
  simp only at hg
  go_enter Tryd.func5, Tryd.ntmps5
  go_wp2
  go_ret2
  have hb := Blk.new (w.alloc (.map #[] 0)) [.int .i64 most, .int .i64 0, .int .i64 0, .map (some w.heap.size), .pointer none] TW
  rw [World.size_alloc] at hb
  refine ⟨rfl, ⟨hb, (IMap.new w).kept ((Kept.refl (fun _ => False) _).alloc _) (fun h => h), trivial, trivial, by simp [Tr.lvs], List.Perm.refl _, by simp [ents, Tr.lvs], by simp [ents, Tr.lvs], ⟨by omega, fun h => h, fun h => h⟩, ?_, Nat.zero_le _⟩, ((Kept.refl _ w).alloc _).alloc _⟩
  rintro (h | h | h)
  · omega
  · omega
  · exact h
end Go.Proofs.YtjmlglibmlfjaaaDoor.Wheel
