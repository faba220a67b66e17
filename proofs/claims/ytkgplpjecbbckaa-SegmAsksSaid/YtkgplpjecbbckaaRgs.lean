/- Rows of ranges held beside each other: mizzenalike.Ranges. Conditions: each theorem's own. -/
import Derived.Test.YtkgplpjecbbckaaIvRow
import Derived.WalkKit
import Derived.ProofKit
import Derived.Deep.LoopGhost
import Derived.Deep.CutBlock
import Derived.Deep.DeepCutAuto
import Derived.Deep.DrawnRows
import Derived.WalkLawsBesides
import Derived.BigQuiet
import Derived.Deep.QuietTactic
set_option linter.unusedVariables false
namespace Go.Proofs.Ytkgplpjecbbckaa.Rgs
open Go.RowKit Hp IvM IvR
attribute [local go_sem ↓] Go.wp_at_zero Go.wp_at_succ
theorem getD_at {l : List Rg} {i : Nat} (h : i < l.length) : l.getD i (0, 0) = l[i] := by simp [List.getD, List.getElem?_eq_getElem h]
theorem keptCell {F : Nat → Prop} {w w' : World} (h : Kept F w w') {k : Nat} (hk : k < w.heap.size) (hF : ¬ F k) (o : Nat) : w'.cell? ⟨k, o, none⟩ = w.cell? ⟨k, o, none⟩ := by
  simp [World.cell?, h.block k hk hF]
/-- A part of a row, to be read. -/
def Part (w : World) (s : Option Addr) (J : List Rg) : Prop :=
  J = [] ∨ ∃ g o, s = some ⟨g, o, none⟩ ∧ g < w.heap.size ∧ ∀ i, i < J.length → w.cell? ⟨g, o + i * 2, none⟩ = some (.int .i64 (J.getD i (0, 0)).1) ∧ w.cell? ⟨g, o + i * 2 + 1, none⟩ = some (.int .i64 (J.getD i (0, 0)).2)
theorem row_part {w : World} {base : Nat} {s : Option Addr} {m cap : Nat} {l : List Rg} (h : Row w base (.slice s m cap) l) : m = l.length ∧ Part w s l ∧ l.length ≤ cap ∧ cap ≤ 9223372036854775807 := by
  rcases h.form with ⟨e, rfl⟩ | ⟨g, c, cur, e, h1, h2⟩
  · cases e; exact ⟨rfl, Or.inl rfl, by simp, by omega⟩
  · cases e
    have hm := h2.most
    unfold maxLen at hm
    refine ⟨rfl, Or.inr ⟨g, 0, rfl, h2.blk.lt, fun i hi => ?_⟩, h2.le, by omega⟩
    rw [getD_at hi, Nat.zero_add]
    exact h2.at hi
theorem Part.kept {w w' : World} {s : Option Addr} {l : List Rg} (h : Part w s l) (k : Kept (fun _ => False) w w') : Part w' s l := by
  rcases h with e | ⟨g, o, e, hg, hc⟩
  · exact Or.inl e
  · exact Or.inr ⟨g, o, e, Nat.lt_of_lt_of_le hg k.size, fun i hi => ⟨(keptCell k hg (fun f => f) _).trans (hc i hi).1, (keptCell k hg (fun f => f) _).trans (hc i hi).2⟩⟩
set_option maxHeartbeats 4000000 in
/-- Two rows of the same ranges are told the same. -/
theorem alike_same {w : World} {s s2 : Option Addr} {c c2 : Nat} {l : List Rg} (h : Part w s l) (h2 : Part w s2 l) (hsm : l.length ≤ 900000) :
    Calls Try.prog 15 #[.slice s l.length c, .slice s2 l.length c2] w fun e w' => e = .returned (.bool true) ∧ Kept (fun _ => False) w w' := by
  have H := Lib.hid h
  have H2 := Lib.hid h2
  clear h h2
  go_enter Try.func15, Try.ntmps15
  go_wp2_with fail
  go_loopg [5] l.length (fun m s5 wr => ∃ (i : Nat), Hid (m = l.length - i) ∧ i ≤ l.length ∧ s5 = .int .i64 ((i : Nat) : Int) ∧ Kept (fun _ => False) w wr)
  case atStart => exact ⟨0, rfl, by omega, rfl, Kept.refl _ w⟩
  case round =>
    obtain ⟨i, hm, hi, rfl, hk⟩ := hrel
    by_cases hlt : i < l.length
    · obtain ⟨g, o, rfl, hg, hc⟩ := H.out.resolve_left (fun e => by rw [e] at hlt; simp at hlt)
      obtain ⟨g2, o2, rfl, hg2, hc2⟩ := H2.out.resolve_left (fun e => by rw [e] at hlt; simp at hlt)
      have e0 := (keptCell hk hg (fun f => f) _).trans (hc i hlt).1
      have e1 := (keptCell hk hg (fun f => f) _).trans (hc i hlt).2
      have f0 := (keptCell hk hg2 (fun f => f) _).trans (hc2 i hlt).1
      have f1 := (keptCell hk hg2 (fun f => f) _).trans (hc2 i hlt).2
      have hlt2 : (i : Int) < (l.length : Int) := by omega
      generalize l.getD i (0, 0) = p at *
      obtain ⟨a, b⟩ := p
      dsimp only at e0 e1 f0 f1
      clear hc hc2
      go_wp2_with fail
      go_quiet (fail)
      go_wp2_with fail
      go_roundg (l.length - (i + 1))
      case measure => have := hm.out; omega
      case rel => exact ⟨i + 1, rfl, by omega, by simp, hk.drewN _⟩
    · go_wp2_with fail
      go_ret
      exact ⟨rfl, hk⟩
end Go.Proofs.Ytkgplpjecbbckaa.Rgs
