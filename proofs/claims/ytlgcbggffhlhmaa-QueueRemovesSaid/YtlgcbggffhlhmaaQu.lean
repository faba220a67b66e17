/- A ring in memory: its places, where the k-th one stands. Conditions: each theorem's own. -/
import Derived.Test.YtlgcbggffhlhmaaTbRw
import Derived.Test.YtlgcbggffhlhmaaQuMath
import Derived.Test.YtlgcbggffhlhmaaQuNum
import Derived.Deep.RegionWith
import Derived.Deep.RegionHeld3
import Derived.Deep.DeepCutAuto
import Derived.Deep.CutBlock
import Derived.WalkLawsBesides
import Derived.StillTailTactics
import Derived.Deep.DrawnRows
set_option linter.unusedVariables false
namespace Go.Proofs.Ytlgcbggffhlhmaa.Qu
open Go.RowKit Hp QuM QuN Rw
attribute [local go_sem ↓] Go.wp_at_zero Go.wp_at_succ
/-- One that stands in a line: its two numbers, and what it counts. -/
abbrev It := Int × Int × Int
@[reducible] def iT : Rw.Ty It where
  E := 124
  L := 114
  k := 3
  bz := 24
  enc x := [.int .i64 x.1, .int .i64 x.2.1, .int .i64 x.2.2]
  z := .agg #[.int .i64 0, .int .i64 0, .int .i64 0]
  hL := Try.underlying114
  hI := by kernel_rfl
  hz := rfl
  hk _ := rfl
  h1 x v hv := by simp at hv; rcases hv with rfl | rfl | rfl <;> rfl
  k0 := by decide
  hb := by decide
abbrev Bx := Int × Int
@[reducible] def bT : Rw.Ty Bx where
  E := 67
  L := 69
  k := 2
  bz := 16
  enc x := [.int .i64 x.1, .int .i64 x.2]
  z := .agg #[.int .i64 0, .int .i64 0]
  hL := Try.underlying69
  hI := by kernel_rfl
  hz := rfl
  hk _ := rfl
  h1 x v hv := by simp at hv; rcases hv with rfl | rfl <;> rfl
  k0 := by decide
  hb := by decide
abbrev iv (x : It) : Value := .agg #[.int .i64 x.1, .int .i64 x.2.1, .int .i64 x.2.2]
theorem place_any {w : World} {b o g f n k : Nat} {K : Int} (h0 : w.cell? ⟨b, o, none⟩ = some (.slice (some ⟨g, 0, none⟩) n n)) (h1 : w.cell? ⟨b, o + 1, none⟩ = some (.int .i64 (f : Nat))) (hp : Pow n) (hf : f < n) (hk : k < n) (hK : K = (k : Nat)) :
    Calls Try.prog 71 #[.pointer (some ⟨b, o, none⟩), .int .i64 K] w fun e w' => e = .returned (.pointer (some ⟨g, ((f + k) % n) * 3, none⟩)) ∧ Kept (fun _ => False) w w' := by
  have hl := hp.le
  have hm : (f + k) % n < n := Nat.mod_lt _ hp.pos
  have E : bits .and .i64 ((f : Int) + K) ((n : Int) - 1) = (((f + k) % n : Nat) : Int) := by rw [and_i64 hp, hK, Int.natCast_emod, Int.natCast_add]
  have e1 : IntKind.i64.wrap ((f : Int) + K) = (f : Int) + K := by rw [IntKind.wrap_i64]; omega
  have e2 : IntKind.i64.wrap ((n : Int) - 1) = (n : Int) - 1 := by rw [IntKind.wrap_i64]; omega
  generalize (f + k) % n = p at *
  have hb : (0 : Int) ≤ K ∧ K < (n : Int) := by omega
  clear hK hp hk
  go_enter Try.func71, Try.ntmps71
  go_upto_region 1 with fail
  go_quiet (fail)
  go_wp2_with fail
  go_ret
  exact ⟨rfl, (Kept.refl _ w).drewN _⟩
/-- Three cells of a place are set. -/
theorem flat_set {P : List It} {i : Nat} (hi : i < P.length) (x : It) :
    flat iT (P.set i x) = (((flat iT P).set (i * 3) (.int .i64 x.1)).set (i * 3 + 1) (.int .i64 x.2.1)).set (i * 3 + 2) (.int .i64 x.2.2) := by
  have hl : (flat iT P).length = P.length * 3 := flat_len iT P
  apply List.ext_getElem?
  intro t
  by_cases ht : t < P.length * 3
  · obtain ⟨q, r, hr, rfl⟩ : ∃ q r, r < 3 ∧ t = q * 3 + r := ⟨t / 3, t % 3, by omega, by omega⟩
    have hq : q < P.length := by omega
    by_cases e : i = q
    · subst e
      rw [flat_at iT (x := x) (by rw [List.getElem?_set_self hi]) hr]
      have h4 : r = 0 ∨ r = 1 ∨ r = 2 := by omega
      rcases h4 with rfl | rfl | rfl <;> simp [List.getElem?_set, hl] <;> omega
    · rw [flat_at iT (x := P[q]) (by rw [List.getElem?_set_ne e, List.getElem?_eq_getElem hq]) hr]
      rw [List.getElem?_set_ne (by omega), List.getElem?_set_ne (by omega), List.getElem?_set_ne (by omega)]
      rw [flat_at iT (x := P[q]) (List.getElem?_eq_getElem hq) hr]
  · rw [List.getElem?_eq_none (by have : (flat iT (P.set i x)).length = (P.set i x).length * 3 := flat_len iT (P.set i x); rw [List.length_set] at this; omega), List.getElem?_eq_none (by simp [hl]; omega)]
/-- The world with a place set. -/
abbrev setIt (w : World) (g p : Nat) (x : It) : World := ((w.setCell ⟨g, p * 3, none⟩ (.int .i64 x.1)).setCell ⟨g, p * 3 + 1, none⟩ (.int .i64 x.2.1)).setCell ⟨g, p * 3 + 2, none⟩ (.int .i64 x.2.2)
theorem setIt_blk {w : World} {g : Nat} {P : List It} {T : TypeId} (h : Blk w g (flat iT P) T) {p : Nat} (hp : p < P.length) (x : It) : Blk (setIt w g p x) g (flat iT (P.set p x)) T := by
  rw [flat_set hp]
  exact (((h.set _ _).set _ _).set _ _)
theorem setIt_kept (w : World) (g p : Nat) (x : It) : Kept (fun i => i = g) w (setIt w g p x) :=
  (((Kept.refl (fun i => i = g) w).set (b := g) (fun _ => rfl) _ _).set (b := g) (fun _ => rfl) _ _).set (b := g) (fun _ => rfl) _ _
theorem it_cells {w : World} {g : Nat} {P : List It} {T : TypeId} (h : Blk w g (flat iT P) T) {p : Nat} {x : It} (hx : P[p]? = some x) :
    w.cell? ⟨g, p * 3, none⟩ = some (.int .i64 x.1) ∧ w.cell? ⟨g, p * 3 + 1, none⟩ = some (.int .i64 x.2.1) ∧ w.cell? ⟨g, p * 3 + 2, none⟩ = some (.int .i64 x.2.2) :=
  ⟨h.cell (by have := flat_at iT hx (j := 0) (by decide); simpa using this), h.cell (by have := flat_at iT hx (j := 1) (by decide); simpa using this), h.cell (by have := flat_at iT hx (j := 2) (by decide); simpa using this)⟩
/-- A line's ring. -/
inductive RingV (w : World) : Value → Nat → List It → Prop
  | nil : RingV w (.slice none 0 0) 0 []
  | lies (g : Nat) (P : List It) (f : Nat) (L : List It) (blk : Blk w g (flat iT P) iT.E) (pow : Pow P.length) (four : 4 ≤ P.length) (ring : Ring P f L) : RingV w (.slice (some ⟨g, 0, none⟩) P.length P.length) f L
theorem RingV.kept {w w' : World} {F : Nat → Prop} {v : Value} {f : Nat} {L : List It} (h : RingV w v f L) (k : Kept F w w') (hF : ∀ g, v.ownBlock = some g → ¬ F g) : RingV w' v f L := by
  cases h with
  | nil => exact .nil
  | lies g P f L blk pow four ring => exact .lies g P f L (k.blk blk (hF g rfl)) pow four ring
theorem RingV.old {w w' : World} {v : Value} {f : Nat} {L : List It} (h : RingV w v f L) (k : Kept (fun _ => False) w w') : RingV w' v f L := h.kept k (fun _ _ f => f)
theorem RingV.lt {w : World} {v : Value} {f : Nat} {L : List It} (h : RingV w v f L) : ∀ g, v.ownBlock = some g → g < w.heap.size ∧ ∃ c, Blk w g c iT.E := by
  cases h with
  | nil => intro g e; cases e
  | lies g P f L blk pow four ring => intro g' e; cases e; exact ⟨blk.lt, _, blk⟩
end Go.Proofs.Ytlgcbggffhlhmaa.Qu
