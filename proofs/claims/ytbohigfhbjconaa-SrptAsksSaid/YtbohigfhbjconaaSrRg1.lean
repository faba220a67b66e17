/- The reference's Grants: what lies in memory, and the numbers of it. Conditions: each theorem's own. -/
import Derived.Test.YtbohigfhbjconaaSrRd
import Derived.Test.YtbohigfhbjconaaSrGts
set_option linter.unusedVariables false
set_option linter.unusedSimpArgs false
namespace Go.Proofs.Ytbohigfhbjconaa.SrM
open SoM
theorem ixn_app1 {q p : Int} {a : List Int} (hp : p ∉ a) : ixn q (a ++ [p]) = if q = p then some a.length else ixn q a := by
  by_cases e : q = p
  · subst e
    rw [if_pos rfl]
    refine ixn_some.2 ⟨by simp, fun k hk h => ?_⟩
    rw [List.getElem?_append_left hk] at h
    exact hp (List.mem_of_getElem? h)
  · rw [if_neg e]
    cases hx : ixn q a with
    | none =>
      refine ixn_none.2 (fun h => ?_)
      rcases List.mem_append.1 h with h | h
      · exact ixn_none.1 hx h
      · exact e (List.mem_singleton.1 h)
    | some j =>
      obtain ⟨h1, h2⟩ := ixn_some.1 hx
      have hj := (List.getElem?_eq_some_iff.1 h1).1
      refine ixn_some.2 ⟨by rw [List.getElem?_append_left hj]; exact h1, fun k hk => by rw [List.getElem?_append_left (by omega)]; exact h2 k hk⟩
theorem cur_put (l : List M) (got : Got) (p u q : Int) : cur l (putG got p u) q = if q = p then u else cur l got q := by
  have hk := putG_keys got p u
  unfold cur
  rw [hk]
  unfold putG
  cases hx : ixn p (keys got) with
  | none =>
    have hn := ixn_none.1 hx
    rw [if_neg hn, ixn_app1 hn]
    by_cases e : q = p
    · rw [if_pos e, if_pos e]
      simp [keys]
    · rw [if_neg e, if_neg e]
      cases hq : ixn q (keys got) with
      | none => rfl
      | some j =>
        have hj := (List.getElem?_eq_some_iff.1 (ixn_some.1 hq).1).1
        unfold keys at hj
        rw [List.length_map] at hj
        dsimp only
        rw [List.getElem?_append_left hj]
  | some j =>
    obtain ⟨h1, h2⟩ := ixn_some.1 hx
    rw [if_pos (List.mem_of_getElem? h1)]
    have hj := (List.getElem?_eq_some_iff.1 h1).1
    have hj' : j < got.length := by unfold keys at hj; rwa [List.length_map] at hj
    by_cases e : q = p
    · rw [if_pos e, e, hx]
      dsimp only
      rw [List.getElem?_set, if_pos rfl, if_pos hj']; rfl
    · rw [if_neg e]
      cases hq : ixn q (keys got) with
      | none => rfl
      | some k =>
        have hk1 := (ixn_some.1 hq).1
        dsimp only
        rw [List.getElem?_set, if_neg (fun e2 => by subst e2; exact e (Option.some.inj (hk1.symm.trans h1)))]
theorem prio_app {fst : List Int} {p : Int} (hp : p ∉ fst) (q : Int) : prio (fst ++ [p]) q = if q = p then max (6 - (fst.length : Int)) 0 else prio fst q := by
  unfold prio ixI
  rw [ixn_app1 hp]
  by_cases e : q = p
  · rw [if_pos e, if_pos e]
    dsimp only
    rw [if_neg (by omega)]
  · rw [if_neg e, if_neg e]
theorem cur_new {l : List M} {got : Got} {p : Int} (h : p ∉ keys got) : cur l got p = (at' l p).g := by unfold cur; rw [ixn_none.2 h]
theorem cur_old {l : List M} {s : Int × Got} (h : GB l s) {p : Int} (hp : p ∈ keys s.2) : (at' l p).g < cur l s.2 p := by
  cases hx : ixn p (keys s.2) with
  | none => exact absurd hp (ixn_none.1 hx)
  | some j =>
    obtain ⟨u, hu⟩ := keys_at (ixn_some.1 hx).1
    unfold cur
    rw [hx]
    simp only [hu, Option.getD_some]
    exact (h.in' (p, u) (List.mem_of_getElem? hu)).2.1
theorem cur_at {l : List M} {got : Got} (hn : (keys got).Nodup) {j : Nat} {p u : Int} (h : got[j]? = some (p, u)) : cur l got p = u := by
  have hk : (keys got)[j]? = some p := by unfold keys; rw [List.getElem?_map, h]; rfl
  have hj := (List.getElem?_eq_some_iff.1 hk).1
  have hx : ixn p (keys got) = some j := ixn_some.2 ⟨hk, fun k hkj e => by
    obtain ⟨a1, a2⟩ := List.getElem?_eq_some_iff.1 e
    obtain ⟨b1, b2⟩ := List.getElem?_eq_some_iff.1 hk
    have := (List.nodup_iff_pairwise_ne.1 hn)
    exact List.pairwise_iff_getElem.1 this k j a1 b1 hkj (a2.trans b2.symm)⟩
  unfold cur
  rw [hx]
  simp only [h, Option.getD_some]
/-- How far each may send, by place; which line. -/
def uF (l : List M) (got : Got) (n : Nat) : List Int := (List.range n).map fun (p : Nat) => cur l got (p : Int)
def pF (fst : List Int) (n : Nat) : List Int := (List.range n).map fun (p : Nat) => prio fst (p : Int)
theorem uF_len (l : List M) (got : Got) (n : Nat) : (uF l got n).length = n := by simp [uF]
theorem pF_len (fst : List Int) (n : Nat) : (pF fst n).length = n := by simp [pF]
theorem uF_at (l : List M) (got : Got) {n p : Nat} (h : p < n) : (uF l got n)[p]? = some (cur l got (p : Int)) := by unfold uF; simp [h]
theorem pF_at (fst : List Int) {n p : Nat} (h : p < n) : (pF fst n)[p]? = some (prio fst (p : Int)) := by unfold pF; simp [h]
theorem map_put (f g : Int → Int) (p u : Int) (h : ∀ q, g q = if q = p then u else f q) {k n : Nat} (hk : p = (k : Int)) : (List.range n).map (fun (q : Nat) => g (q : Int)) = ((List.range n).map (fun (q : Nat) => f (q : Int))).set k u := by
  apply List.ext_getElem?
  intro j
  rw [List.getElem?_set, List.getElem?_map]
  by_cases hj : j < n
  · rw [List.getElem?_range hj]
    by_cases e : k = j
    · rw [if_pos e, if_pos (by rw [List.length_map, List.length_range]; omega)]
      simp only [Option.map_some]
      rw [h, if_pos (by omega)]
    · rw [if_neg e, List.getElem?_map, List.getElem?_range hj]
      simp only [Option.map_some]
      rw [h, if_neg (by omega)]
  · rw [List.getElem?_eq_none (by simpa using hj)]
    by_cases e : k = j
    · rw [if_pos e, if_neg (by rw [List.length_map, List.length_range]; omega)]; rfl
    · rw [if_neg e, List.getElem?_map, List.getElem?_eq_none (by simpa using hj)]; rfl
theorem uF_put (l : List M) (got : Got) (p u : Int) {k : Nat} (n : Nat) (hk : p = (k : Int)) : uF l (putG got p u) n = (uF l got n).set k u := map_put _ _ p u (cur_put l got p u) hk
theorem pF_put {fst : List Int} {p : Int} (hp : p ∉ fst) {k : Nat} (n : Nat) (hk : p = (k : Int)) : pF (fst ++ [p]) n = (pF fst n).set k (max (6 - (fst.length : Int)) 0) := map_put _ _ p _ (prio_app hp) hk
theorem pF_nil (n : Nat) : pF [] n = List.replicate n 0 := by
  apply List.ext_getElem
  · simp [pF]
  · intro j h1 h2
    simp [pF, prio, ixI, ixn]
end Go.Proofs.Ytbohigfhbjconaa.SrM
namespace Go.Proofs.Ytbohigfhbjconaa.Sr
open Go.RowKit Hp Go.Proofs.Ytbohigfhbjconaa.End Opn SrM So SoM NumM NumC Go.Proofs.Ytbohigfhbjconaa.Sx
/-- The two rows by place and the one of places in their order. -/
structure GR (w0 : World) (ub pb n : Nat) (v : Value) (U P W : List Int) (w : World) : Prop where
  kept : Kept (fun i => w0.heap.size ≤ i) w0 w
  bu : Blk w ub (U.map I) 3
  bp : Blk w pb (P.map I) 3
  lu : U.length = n
  lp : P.length = n
  ww : Ro.Row nT w v W
  ne : ub ≠ pb
  own : ∀ g, v.ownBlock = some g → w0.heap.size ≤ g ∧ g ≠ ub ∧ g ≠ pb
  hu : w0.heap.size ≤ ub
  hp : w0.heap.size ≤ pb
variable {w0 w : World} {ub pb n : Nat} {v : Value} {U P W : List Int}
theorem GR.old (h : GR w0 ub pb n v U P W w) {w' : World} (k : Kept (fun _ => False) w w') : GR w0 ub pb n v U P W w' :=
  ⟨h.kept.trans' k (fun _ _ f => f.elim), k.blk h.bu (fun f => f), k.blk h.bp (fun f => f), h.lu, h.lp, h.ww.old k, h.ne, h.own, h.hu, h.hp⟩
theorem GR.low (h : GR w0 ub pb n v U P W w) : Kept (fun _ => False) w0 w := of_past h.kept
theorem GR.cu (h : GR w0 ub pb n v U P W w) {p : Nat} {x : Int} (e : U[p]? = some x) : w.cell? ⟨ub, p, none⟩ = some (.int .i64 x) := h.bu.cell (by rw [List.getElem?_map, e]; rfl)
theorem GR.cp (h : GR w0 ub pb n v U P W w) {p : Nat} {x : Int} (e : P[p]? = some x) : w.cell? ⟨pb, p, none⟩ = some (.int .i64 x) := h.bp.cell (by rw [List.getElem?_map, e]; rfl)
theorem GR.setU (h : GR w0 ub pb n v U P W w) (p : Nat) (x : Int) : GR w0 ub pb n v (U.set p x) P W (w.setCell ⟨ub, p, none⟩ (.int .i64 x)) := by
  refine ⟨h.kept.set (b := ub) (fun _ => h.hu) _ _, ?_, h.bp.far h.ne _ _, by rw [List.length_set]; exact h.lu, h.lp, h.ww.kept (Kept.one w ub p (.int .i64 x)) (fun g hg e => (h.own g hg).2.1 e), h.ne, h.own, h.hu, h.hp⟩
  have := h.bu.set p (.int .i64 x)
  rwa [show (U.map I).set p (.int .i64 x) = (U.set p x).map I from (List.map_set ..).symm] at this
theorem GR.setP (h : GR w0 ub pb n v U P W w) (p : Nat) (x : Int) : GR w0 ub pb n v U (P.set p x) W (w.setCell ⟨pb, p, none⟩ (.int .i64 x)) := by
  refine ⟨h.kept.set (b := pb) (fun _ => h.hp) _ _, h.bu.far (fun e => h.ne e.symm) _ _, ?_, h.lu, by rw [List.length_set]; exact h.lp, h.ww.kept (Kept.one w pb p (.int .i64 x)) (fun g hg e => (h.own g hg).2.2 e), h.ne, h.own, h.hu, h.hp⟩
  have := h.bp.set p (.int .i64 x)
  rwa [show (P.map I).set p (.int .i64 x) = (P.set p x).map I from (List.map_set ..).symm] at this
theorem GR.app (h : GR w0 ub pb n v U P W w) {w' : World} {v' : Value} {x : Int} (a : Ro.Apd nT w v (W ++ [x]) v' w') : GR w0 ub pb n v' U P (W ++ [x]) w' := by
  refine ⟨h.kept.trans (a.kept.mono (fun i _ e => (h.own i e).1)), a.kept.blk h.bu (fun e => (h.own ub e).2.1 rfl), a.kept.blk h.bp (fun e => (h.own pb e).2.2 rfl), h.lu, h.lp, a.row, h.ne, fun g hg => ?_, h.hu, h.hp⟩
  rcases a.lies g hg with e | e
  · exact h.own g e
  · have h1 := h.kept.size
    have h2 := h.bu.lt
    have h3 := h.bp.lt
    omega
/-- The same, and what lay there before the granting began. -/
structure G2 (w0 wb : World) (ub pb n : Nat) (v : Value) (U P W : List Int) (w : World) : Prop where
  g : GR w0 ub pb n v U P W w
  kb : Kept (fun i => i = ub ∨ i = pb ∨ wb.heap.size ≤ i) wb w
  ob : ∀ g, v.ownBlock = some g → wb.heap.size ≤ g
variable {wb : World}
theorem G2.start (h : GR w0 ub pb n (.slice none 0 0) U P W wb) : G2 w0 wb ub pb n (.slice none 0 0) U P W wb := ⟨h, Kept.refl _ _, fun g hg => by cases hg⟩
theorem G2.old (h : G2 w0 wb ub pb n v U P W w) {w' : World} (k : Kept (fun _ => False) w w') : G2 w0 wb ub pb n v U P W w' := ⟨h.g.old k, h.kb.trans' k (fun _ _ f => f.elim), h.ob⟩
theorem G2.setU (h : G2 w0 wb ub pb n v U P W w) (p : Nat) (x : Int) : G2 w0 wb ub pb n v (U.set p x) P W (w.setCell ⟨ub, p, none⟩ (.int .i64 x)) := ⟨h.g.setU p x, h.kb.set (b := ub) (fun _ => Or.inl rfl) _ _, h.ob⟩
theorem G2.setP (h : G2 w0 wb ub pb n v U P W w) (p : Nat) (x : Int) : G2 w0 wb ub pb n v U (P.set p x) W (w.setCell ⟨pb, p, none⟩ (.int .i64 x)) := ⟨h.g.setP p x, h.kb.set (b := pb) (fun _ => Or.inr (Or.inl rfl)) _ _, h.ob⟩
theorem G2.app (h : G2 w0 wb ub pb n v U P W w) {w' : World} {v' : Value} {x : Int} (a : Ro.Apd nT w v (W ++ [x]) v' w') : G2 w0 wb ub pb n v' U P (W ++ [x]) w' := by
  refine ⟨h.g.app a, h.kb.trans (a.kept.mono (fun i _ e => Or.inr (Or.inr (h.ob i e)))), fun g hg => ?_⟩
  rcases a.lies g hg with e | e
  · exact h.ob g e
  · have := h.kb.size; omega
set_option maxRecDepth 100000 in
theorem grantsR_bad {k budget share : Int} (a : Option Addr) (n c : Nat) (h : ¬ Fine k budget share) (w : World) :
    Calls Try.prog 10 #[.slice a n c, .int .i64 k, .int .i64 budget, .int .i64 share] w fun e w' => e = .returned (.tuple #[.slice none 0 0, .int .i64 1]) ∧ w = w' := by
  have hc : k < 1 ∨ (decide (k < 1) = false ∧ 8 < k) ∨ (decide (k < 1) = false ∧ decide (8 < k) = false ∧ budget < 0) ∨ (decide (k < 1) = false ∧ decide (8 < k) = false ∧ decide (budget < 0) = false ∧ 1099511627776 < budget) ∨
      (decide (k < 1) = false ∧ decide (8 < k) = false ∧ decide (budget < 0) = false ∧ decide (1099511627776 < budget) = false ∧ share < 0) ∨ (decide (k < 1) = false ∧ decide (8 < k) = false ∧ decide (budget < 0) = false ∧ decide (1099511627776 < budget) = false ∧ decide (share < 0) = false ∧ budget < share) := by
    unfold Fine at h
    simp only [decide_eq_false_iff_not]; omega
  clear h
  rcases hc with h1 | ⟨h1, h2⟩ | ⟨h1, h2, h3⟩ | ⟨h1, h2, h3, h4⟩ | ⟨h1, h2, h3, h4, h5⟩ | ⟨h1, h2, h3, h4, h5, h6⟩
  all_goals
    go_enter Try.func10, Try.ntmps10
    go_wp2_with fail
    go_ret2
    exact ⟨rfl, rfl⟩
end Go.Proofs.Ytbohigfhbjconaa.Sr
