/- A ring in memory: its places, where the k-th one stands. Conditions: each theorem's own. -/
import Derived.Test.YtiffnlcpemfmoaaTbRw
import Derived.Test.YtiffnlcpemfmoaaPqMath
import Derived.Test.YtiffnlcpemfmoaaPqSum
import Derived.Test.YtiffnlcpemfmoaaPqNum
import Derived.Deep.RegionWith
import Derived.Deep.RegionHeld3
import Derived.Deep.DeepCutAuto
import Derived.Deep.CutBlock
import Derived.WalkLawsBesides
import Derived.StillTailTactics
import Derived.Deep.DrawnRows
set_option linter.unusedVariables false
namespace Go.Proofs.Ytiffnlcpemfmoaa.Qu
open Go.RowKit Hp QuM QuN Rw
attribute [local go_sem ↓] Go.wp_at_zero Go.wp_at_succ
/-- One that stands in a line, and what it counts. -/
abbrev It := Bx × Int
@[reducible] def iT : Rw.Ty It where
  E := 80
  L := 57
  k := 12
  bz := 112
  enc x := [.int .i64 x.1.f.kind, .int .i64 x.1.f.src, .int .i64 x.1.f.dst, .int .i64 x.1.f.prio, .int .u64 (x.1.f.msg : Int), .int .i64 x.1.f.off, .int .i64 x.1.f.len, .int .i64 x.1.f.total, .int .i64 x.1.f.num, .slice x.1.s x.1.f.data.length x.1.c, .int .i64 x.1.q, .int .i64 x.2]
  z := .agg #[.int .i64 0, .int .i64 0, .int .i64 0, .int .i64 0, .int .u64 0, .int .i64 0, .int .i64 0, .int .i64 0, .int .i64 0, .slice none 0 0, .int .i64 0, .int .i64 0]
  hL := Try.underlying57
  hI := by kernel_rfl
  hz := rfl
  hk _ := rfl
  h1 x v hv := by simp at hv; rcases hv with rfl | rfl | rfl | rfl | rfl | rfl | rfl | rfl | rfl | rfl | rfl | rfl <;> rfl
  k0 := by decide
  hb := by decide
@[reducible] def bT : Rw.Ty Bx where
  E := 28
  L := 33
  k := 11
  bz := 104
  enc x := [.int .i64 x.f.kind, .int .i64 x.f.src, .int .i64 x.f.dst, .int .i64 x.f.prio, .int .u64 (x.f.msg : Int), .int .i64 x.f.off, .int .i64 x.f.len, .int .i64 x.f.total, .int .i64 x.f.num, .slice x.s x.f.data.length x.c, .int .i64 x.q]
  z := .agg #[.int .i64 0, .int .i64 0, .int .i64 0, .int .i64 0, .int .u64 0, .int .i64 0, .int .i64 0, .int .i64 0, .int .i64 0, .slice none 0 0, .int .i64 0]
  hL := Try.underlying33
  hI := by kernel_rfl
  hz := rfl
  hk _ := rfl
  h1 x v hv := by simp at hv; rcases hv with rfl | rfl | rfl | rfl | rfl | rfl | rfl | rfl | rfl | rfl | rfl <;> rfl
  k0 := by decide
  hb := by decide
abbrev iv (x : It) : Value := .agg #[.int .i64 x.1.f.kind, .int .i64 x.1.f.src, .int .i64 x.1.f.dst, .int .i64 x.1.f.prio, .int .u64 (x.1.f.msg : Int), .int .i64 x.1.f.off, .int .i64 x.1.f.len, .int .i64 x.1.f.total, .int .i64 x.1.f.num, .slice x.1.s x.1.f.data.length x.1.c, .int .i64 x.1.q, .int .i64 x.2]
theorem place_any {w : World} {b o g f n k : Nat} {K : Int} (h0 : w.cell? ⟨b, o, none⟩ = some (.slice (some ⟨g, 0, none⟩) n n)) (h1 : w.cell? ⟨b, o + 1, none⟩ = some (.int .i64 (f : Nat))) (hp : Pow n) (hf : f < n) (hk : k < n) (hK : K = (k : Nat)) :
    Calls Try.prog 44 #[.pointer (some ⟨b, o, none⟩), .int .i64 K] w fun e w' => e = .returned (.pointer (some ⟨g, ((f + k) % n) * 12, none⟩)) ∧ Kept (fun _ => False) w w' := by
  have hl := hp.le
  have hm : (f + k) % n < n := Nat.mod_lt _ hp.pos
  have E : bits .and .i64 ((f : Int) + K) ((n : Int) - 1) = (((f + k) % n : Nat) : Int) := by rw [and_i64 hp, hK, Int.natCast_emod, Int.natCast_add]
  have e1 : IntKind.i64.wrap ((f : Int) + K) = (f : Int) + K := by rw [IntKind.wrap_i64]; omega
  have e2 : IntKind.i64.wrap ((n : Int) - 1) = (n : Int) - 1 := by rw [IntKind.wrap_i64]; omega
  generalize (f + k) % n = p at *
  have hb : (0 : Int) ≤ K ∧ K < (n : Int) := by omega
  clear hK hp hk
  go_enter Try.func44, Try.ntmps44
  go_upto_region 1 with fail
  go_quiet (fail)
  go_wp2_with fail
  go_ret
  exact ⟨rfl, (Kept.refl _ w).drewN _⟩
/-- Cells set, one behind the other. -/
def setsL (c : List Value) (o : Nat) : List Value → List Value
  | [] => c
  | v :: vs => setsL (c.set o v) (o + 1) vs
theorem setsL_len : ∀ (vs c : List Value) (o : Nat), (setsL c o vs).length = c.length
  | [], c, o => rfl
  | v :: vs, c, o => by show (setsL (c.set o v) (o + 1) vs).length = _; rw [setsL_len vs, List.length_set]
theorem setsL_out : ∀ (vs c : List Value) (o j : Nat), (j < o ∨ o + vs.length ≤ j) → (setsL c o vs)[j]? = c[j]?
  | [], c, o, j, h => rfl
  | v :: vs, c, o, j, h => by
    rw [List.length_cons] at h
    show (setsL (c.set o v) (o + 1) vs)[j]? = _
    rw [setsL_out vs _ _ _ (by omega), List.getElem?_set_ne (by omega)]
theorem setsL_in : ∀ (vs c : List Value) (o j : Nat), j < vs.length → o + j < c.length → (setsL c o vs)[o + j]? = vs[j]?
  | [], c, o, j, h, _ => by simp at h
  | v :: vs, c, o, 0, h, hc => by
    show (setsL (c.set o v) (o + 1) vs)[o + 0]? = _
    rw [setsL_out vs _ _ _ (by omega), Nat.add_zero, List.getElem?_set_self (by omega)]; rfl
  | v :: vs, c, o, j + 1, h, hc => by
    show (setsL (c.set o v) (o + 1) vs)[o + (j + 1)]? = _
    rw [List.length_cons] at h
    rw [show o + (j + 1) = (o + 1) + j by omega, setsL_in vs _ _ _ (by omega) (by rw [List.length_set]; omega)]; rfl
def setW (w : World) (g o : Nat) : List Value → World
  | [] => w
  | v :: vs => setW (w.setCell ⟨g, o, none⟩ v) g (o + 1) vs
theorem setW_blk {g : Nat} {T : TypeId} : ∀ (vs : List Value) {w : World} {c : List Value} (o : Nat) (h : Blk w g c T), Blk (setW w g o vs) g (setsL c o vs) T
  | [], w, c, o, h => h
  | v :: vs, w, c, o, h => setW_blk vs (o + 1) (h.set o v)
theorem setW_kept {g : Nat} : ∀ (vs : List Value) (w : World) (o : Nat), Kept (fun i => i = g) w (setW w g o vs)
  | [], w, o => Kept.refl _ w
  | v :: vs, w, o => (Kept.one w g o v).trans (setW_kept vs _ (o + 1))
/-- The cells of a place are set. -/
theorem flat_set {P : List It} {i : Nat} (hi : i < P.length) (x : It) : flat iT (P.set i x) = setsL (flat iT P) (i * 12) (iT.enc x) := by
  have hl : (flat iT P).length = P.length * 12 := flat_len iT P
  apply List.ext_getElem?
  intro t
  by_cases ht : t < P.length * 12
  · obtain ⟨q, r, hr, rfl⟩ : ∃ q r, r < 12 ∧ t = q * 12 + r := ⟨t / 12, t % 12, by omega, by omega⟩
    have hq : q < P.length := by omega
    by_cases e : i = q
    · subst e
      rw [flat_at iT (x := x) (by rw [List.getElem?_set_self hi]) hr, setsL_in _ _ _ _ (by rw [iT.hk]; exact hr) (by omega)]
    · rw [flat_at iT (x := P[q]) (by rw [List.getElem?_set_ne e, List.getElem?_eq_getElem hq]) hr]
      rw [setsL_out _ _ _ _ (by rw [iT.hk]; show _ ∨ i * 12 + 12 ≤ _; omega)]
      rw [flat_at iT (x := P[q]) (List.getElem?_eq_getElem hq) hr]
  · rw [List.getElem?_eq_none (by have : (flat iT (P.set i x)).length = (P.set i x).length * 12 := flat_len iT (P.set i x); rw [List.length_set] at this; omega), List.getElem?_eq_none (by rw [setsL_len]; omega)]
/-- The world with a place set. -/
abbrev setIt (w : World) (g p : Nat) (x : It) : World := (((((((((((w.setCell ⟨g, p * 12, none⟩ (.int .i64 x.1.f.kind)).setCell ⟨g, p * 12 + 1, none⟩ (.int .i64 x.1.f.src)).setCell ⟨g, p * 12 + 2, none⟩ (.int .i64 x.1.f.dst)).setCell ⟨g, p * 12 + 3, none⟩ (.int .i64 x.1.f.prio)).setCell ⟨g, p * 12 + 4, none⟩ (.int .u64 (x.1.f.msg : Int))).setCell ⟨g, p * 12 + 5, none⟩ (.int .i64 x.1.f.off)).setCell ⟨g, p * 12 + 6, none⟩ (.int .i64 x.1.f.len)).setCell ⟨g, p * 12 + 7, none⟩ (.int .i64 x.1.f.total)).setCell ⟨g, p * 12 + 8, none⟩ (.int .i64 x.1.f.num)).setCell ⟨g, p * 12 + 9, none⟩ (.slice x.1.s x.1.f.data.length x.1.c)).setCell ⟨g, p * 12 + 10, none⟩ (.int .i64 x.1.q)).setCell ⟨g, p * 12 + 11, none⟩ (.int .i64 x.2)
theorem setIt_eq (w : World) (g p : Nat) (x : It) : setIt w g p x = setW w g (p * 12) (iT.enc x) := by
  show _ = setW w g (p * 12) [.int .i64 x.1.f.kind, .int .i64 x.1.f.src, .int .i64 x.1.f.dst, .int .i64 x.1.f.prio, .int .u64 (x.1.f.msg : Int), .int .i64 x.1.f.off, .int .i64 x.1.f.len, .int .i64 x.1.f.total, .int .i64 x.1.f.num, .slice x.1.s x.1.f.data.length x.1.c, .int .i64 x.1.q, .int .i64 x.2]
  simp only [setW, Nat.add_assoc, Nat.reduceAdd]
theorem setIt_blk {w : World} {g : Nat} {P : List It} {T : TypeId} (h : Blk w g (flat iT P) T) {p : Nat} (hp : p < P.length) (x : It) : Blk (setIt w g p x) g (flat iT (P.set p x)) T := by
  rw [flat_set hp, setIt_eq]
  exact setW_blk (iT.enc x) (p * 12) h
theorem setIt_kept (w : World) (g p : Nat) (x : It) : Kept (fun i => i = g) w (setIt w g p x) := by
  rw [setIt_eq]
  exact setW_kept (iT.enc x) w (p * 12)
/-- A block is set whole. -/
theorem set_all {w : World} {g : Nat} {T : TypeId} {c : List Value} (h : Blk w g c T) (vs : List Value) (hc : c.length = vs.length) : Blk (setW w g 0 vs) g vs T := by
  have h2 := setW_blk vs 0 h
  have e : setsL c 0 vs = vs := by
    apply List.ext_getElem?
    intro j
    by_cases hj : j < vs.length
    · have := setsL_in vs c 0 j hj (by omega); rwa [Nat.zero_add] at this
    · rw [List.getElem?_eq_none (by rw [setsL_len]; omega), List.getElem?_eq_none (by omega)]
  rw [e] at h2
  exact h2
theorem it_cells {w : World} {g : Nat} {P : List It} {T : TypeId} (h : Blk w g (flat iT P) T) {p : Nat} {x : It} (hx : P[p]? = some x) :
    w.cell? ⟨g, p * 12, none⟩ = some (.int .i64 x.1.f.kind) ∧ w.cell? ⟨g, p * 12 + 1, none⟩ = some (.int .i64 x.1.f.src) ∧ w.cell? ⟨g, p * 12 + 2, none⟩ = some (.int .i64 x.1.f.dst) ∧ w.cell? ⟨g, p * 12 + 3, none⟩ = some (.int .i64 x.1.f.prio) ∧ w.cell? ⟨g, p * 12 + 4, none⟩ = some (.int .u64 (x.1.f.msg : Int)) ∧ w.cell? ⟨g, p * 12 + 5, none⟩ = some (.int .i64 x.1.f.off) ∧ w.cell? ⟨g, p * 12 + 6, none⟩ = some (.int .i64 x.1.f.len) ∧ w.cell? ⟨g, p * 12 + 7, none⟩ = some (.int .i64 x.1.f.total) ∧ w.cell? ⟨g, p * 12 + 8, none⟩ = some (.int .i64 x.1.f.num) ∧ w.cell? ⟨g, p * 12 + 9, none⟩ = some (.slice x.1.s x.1.f.data.length x.1.c) ∧ w.cell? ⟨g, p * 12 + 10, none⟩ = some (.int .i64 x.1.q) ∧ w.cell? ⟨g, p * 12 + 11, none⟩ = some (.int .i64 x.2) :=
  ⟨h.cell (by have := flat_at iT hx (j := 0) (by decide); simpa using this), h.cell (by have := flat_at iT hx (j := 1) (by decide); simpa using this), h.cell (by have := flat_at iT hx (j := 2) (by decide); simpa using this), h.cell (by have := flat_at iT hx (j := 3) (by decide); simpa using this), h.cell (by have := flat_at iT hx (j := 4) (by decide); simpa using this), h.cell (by have := flat_at iT hx (j := 5) (by decide); simpa using this), h.cell (by have := flat_at iT hx (j := 6) (by decide); simpa using this), h.cell (by have := flat_at iT hx (j := 7) (by decide); simpa using this), h.cell (by have := flat_at iT hx (j := 8) (by decide); simpa using this), h.cell (by have := flat_at iT hx (j := 9) (by decide); simpa using this), h.cell (by have := flat_at iT hx (j := 10) (by decide); simpa using this), h.cell (by have := flat_at iT hx (j := 11) (by decide); simpa using this)⟩
/-- A line's ring. -/
inductive RingV (w : World) : Value → Nat → List It → Prop
  | nil : RingV w (.slice none 0 0) 0 []
  | lies (g : Nat) (P : List It) (f : Nat) (L : List It) (blk : Blk w g (flat iT P) iT.E) (pow : Pow P.length) (four : 4 ≤ P.length) (ring : Ring P f L) : RingV w (.slice (some ⟨g, 0, none⟩) P.length P.length) f L
theorem RingV.kept {w w' : World} {F : Nat → Prop} {v : Value} {f : Nat} {L : List It} (h : RingV w v f L) (k : Kept F w w') (hF : ∀ g, v.ownBlock = some g → ¬ F g) : RingV w' v f L := by
  cases h with
  | nil => exact .nil
  | lies g P f L blk pow four ring => exact .lies g P f L (k.blk blk (hF g rfl)) pow four ring
theorem RingV.old {w w' : World} {v : Value} {f : Nat} {L : List It} (h : RingV w v f L) (k : Kept (fun _ => False) w w') : RingV w' v f L := h.kept k (fun _ _ f => f)
theorem RingV.lt {w : World} {v : Value} {f : Nat} {L : List It} (h : RingV w v f L) : ∀ g, v.ownBlock = some g → g < w.heap.size ∧ ∃ c, Blk w g c iT.E := by
  cases h with
  | nil => intro g e; cases e
  | lies g P f L blk pow four ring => intro g' e; cases e; exact ⟨blk.lt, _, blk⟩
end Go.Proofs.Ytiffnlcpemfmoaa.Qu
