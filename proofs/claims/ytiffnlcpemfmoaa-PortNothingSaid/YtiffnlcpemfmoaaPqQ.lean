/- A queue in memory: eight lines. Conditions: each theorem's own. -/
import Derived.Test.YtiffnlcpemfmoaaPqList
import Derived.Test.YtiffnlcpemfmoaaPqSum
import Derived.Test.YtiffnlcpemfmoaaPqBytes
set_option linter.unusedVariables false
namespace Go.Proofs.Ytiffnlcpemfmoaa.Qu
open Go.RowKit Hp QuM QuN Rw
attribute [local go_sem ↓] Go.wp_at_zero Go.wp_at_succ
abbrev tQ : TypeId := 62
theorem tQ_ne : tQ ≠ iT.E := by decide
/-- As it stands in a line, with what it counts. -/
def it (x : Bx) : It := (x, szI (nb x))
theorem bx_it (x : Bx) : bx (it x) = x := rfl
theorem map_bx (L : List Bx) : (L.map it).map bx = L := by rw [List.map_map]; exact List.map_id'' (fun x => rfl) L
/-- Eight lines, as they lie. -/
structure QuV (w : World) (b : Nat) (room used : Int) (c : List Value) (vs : Nat → Value) (fs : Nat → Nat) (ls : Nat → List Bx) : Prop where
  blk : Blk w b c tQ
  c0 : c[0]? = some (.int .i64 room)
  c1 : c[1]? = some (.int .i64 used)
  cv : ∀ k, k < 8 → c[2 + k * 3]? = some (vs k)
  cf : ∀ k, k < 8 → c[2 + k * 3 + 1]? = some (.int .i64 (fs k : Nat))
  cn : ∀ k, k < 8 → c[2 + k * 3 + 2]? = some (.int .i64 ((ls k).length : Nat))
  ring : ∀ k, k < 8 → RingV w (vs k) (fs k) ((ls k).map it)
  apart : ∀ j k g, j < 8 → k < 8 → (vs j).ownBlock = some g → (vs k).ownBlock = some g → j = k
variable {w w' : World} {b : Nat} {room used : Int} {c : List Value} {vs : Nat → Value} {fs : Nat → Nat} {ls : Nat → List Bx}
theorem QuV.notb (h : QuV w b room used c vs fs ls) {k g : Nat} (hk : k < 8) (hg : (vs k).ownBlock = some g) : g ≠ b := by
  intro e
  obtain ⟨_, c', h2⟩ := (h.ring k hk).lt g hg
  subst e
  exact tQ_ne (h.blk.inj h2).2
theorem QuV.kept {F : Nat → Prop} (h : QuV w b room used c vs fs ls) (K : Kept F w w') (hb : ¬ F b) (hv : ∀ k g, k < 8 → (vs k).ownBlock = some g → ¬ F g) : QuV w' b room used c vs fs ls :=
  ⟨K.blk h.blk hb, h.c0, h.c1, h.cv, h.cf, h.cn, fun k hk => (h.ring k hk).kept K (fun g hg => hv k g hk hg), h.apart⟩
theorem QuV.old (h : QuV w b room used c vs fs ls) (K : Kept (fun _ => False) w w') : QuV w' b room used c vs fs ls := h.kept K (fun f => f) (fun _ _ _ _ f => f)
/-- One line is another one. -/
theorem QuV.turn (h : QuV w b room used c vs fs ls) {k : Nat} (hk : k < 8) {v' : Value} {f' n : Nat} {L' : List Bx} (hB : Blk w' b (put3 c (2 + k * 3) v' f' n) tQ) (hn : n = L'.length) (hR : RingV w' v' f' (L'.map it))
    (ho : ∀ g, v'.ownBlock = some g → (vs k).ownBlock = some g ∨ w.heap.size ≤ g) (K : Kept (fun i => i = b ∨ (vs k).ownBlock = some i) w w') :
    QuV w' b room used (put3 c (2 + k * 3) v' f' n) (upd vs k v') (upd fs k f') (upd ls k L') := by
  have hlen : 2 + k * 3 + 2 < c.length := (List.getElem?_eq_some_iff.1 (h.cn k hk)).1
  have far : ∀ i, i ≠ 2 + k * 3 → i ≠ 2 + k * 3 + 1 → i ≠ 2 + k * 3 + 2 → (put3 c (2 + k * 3) v' f' n)[i]? = c[i]? := by
    intro i h1 h2 h3
    unfold put3
    rw [List.getElem?_set_ne (Ne.symm h3), List.getElem?_set_ne (Ne.symm h2), List.getElem?_set_ne (Ne.symm h1)]
  refine ⟨hB, by rw [far _ (by omega) (by omega) (by omega)]; exact h.c0, by rw [far _ (by omega) (by omega) (by omega)]; exact h.c1, fun j hj => ?_, fun j hj => ?_, fun j hj => ?_, fun j hj => ?_, ?_⟩
  · by_cases e : j = k
    · subst e
      rw [upd_self]
      unfold put3
      rw [List.getElem?_set_ne (by omega), List.getElem?_set_ne (by omega), List.getElem?_set_self (by omega)]
    · rw [upd_ne vs v' e, far _ (by omega) (by omega) (by omega)]; exact h.cv j hj
  · by_cases e : j = k
    · subst e
      rw [upd_self]
      unfold put3
      rw [List.getElem?_set_ne (by omega), List.getElem?_set_self (by rw [List.length_set]; omega)]
    · rw [upd_ne fs f' e, far _ (by omega) (by omega) (by omega)]; exact h.cf j hj
  · by_cases e : j = k
    · subst e
      rw [upd_self, ← hn]
      unfold put3
      rw [List.getElem?_set_self (by rw [List.length_set, List.length_set]; omega)]
    · rw [upd_ne ls L' e, far _ (by omega) (by omega) (by omega)]; exact h.cn j hj
  · by_cases e : j = k
    · subst e; rw [upd_self, upd_self, upd_self]; exact hR
    · rw [upd_ne vs v' e, upd_ne fs f' e, upd_ne ls L' e]
      exact (h.ring j hj).kept K (fun g hg e2 => e2.elim (fun e2 => h.notb hj hg e2) (fun e2 => e (h.apart j k g hj hk hg e2)))
  · have key : ∀ j g, j < 8 → j ≠ k → (vs j).ownBlock = some g → v'.ownBlock = some g → False := by
      intro j g hj e h1 h2
      rcases ho g h2 with h3 | h3
      · exact e (h.apart j k g hj hk h1 h3)
      · have := ((h.ring j hj).lt g h1).1; omega
    intro i j g hi hj h1 h2
    by_cases e1 : i = k
    · by_cases e2 : j = k
      · omega
      · subst e1
        rw [upd_self] at h1
        rw [upd_ne vs v' e2] at h2
        exact (key j g hj e2 h2 h1).elim
    · rw [upd_ne vs v' e1] at h1
      by_cases e2 : j = k
      · subst e2
        rw [upd_self] at h2
        exact (key i g hi e1 h1 h2).elim
      · rw [upd_ne vs v' e2] at h2
        exact h.apart i j g hi hj h1 h2
/-- Other bytes are used. -/
theorem QuV.use (h : QuV w b room used c vs fs ls) (u : Int) : QuV (w.setCell ⟨b, 1, none⟩ (.int .i64 u)) b room u (c.set 1 (.int .i64 u)) vs fs ls := by
  have K := Kept.one w b 1 (.int .i64 u)
  have hl : 1 < c.length := (List.getElem?_eq_some_iff.1 h.c1).1
  exact ⟨h.blk.set 1 _, by rw [List.getElem?_set_ne (by omega)]; exact h.c0, List.getElem?_set_self hl, fun k hk => by rw [List.getElem?_set_ne (by omega)]; exact h.cv k hk, fun k hk => by rw [List.getElem?_set_ne (by omega)]; exact h.cf k hk,
    fun k hk => by rw [List.getElem?_set_ne (by omega)]; exact h.cn k hk, fun k hk => (h.ring k hk).kept K (fun g hg e => h.notb hk hg e), h.apart⟩
/-- A queue made since w0, its blocks are F; all of w0 is as it was. -/
def St (w0 : World) (b : Nat) (room : Int) (ls : Nat → List Bx) (F : Nat → Prop) (w : World) : Prop :=
  Kept (fun _ => False) w0 w ∧ (0 ≤ room ∧ room ≤ 1099511627776 ∧ tot ls 8 ≤ room) ∧ ∃ c vs fs, QuV w b room (tot ls 8) c vs fs ls ∧ F b ∧ (∀ k g, k < 8 → (vs k).ownBlock = some g → F g) ∧ ∀ i, F i → w0.heap.size ≤ i ∧ i < w.heap.size
/-- What a call that turns the queue leaves of all else. -/
def Next (F : Nat → Prop) (w : World) (F' : Nat → Prop) (w' : World) : Prop := Kept F w w' ∧ ∀ i, F' i → F i ∨ w.heap.size ≤ i
theorem St.old {w0 : World} {F : Nat → Prop} (h : St w0 b room ls F w) (k : Kept (fun _ => False) w w') : St w0 b room ls F w' := by
  obtain ⟨h0, hr, c, vs, fs, h1, h2, h3, h4⟩ := h
  exact ⟨h0.trans k, hr, c, vs, fs, h1.old k, h2, h3, fun i hi => ⟨(h4 i hi).1, Nat.lt_of_lt_of_le (h4 i hi).2 k.size⟩⟩
/-- Another thing's call leaves it as it is. -/
theorem St.far {w0 : World} {F G : Nat → Prop} (h : St w0 b room ls F w) (k : Kept G w w') (hG : ∀ i, G i → F i → False) (hw : ∀ i, G i → w0.heap.size ≤ i) : St w0 b room ls F w' := by
  obtain ⟨h0, hr, c, vs, fs, h1, h2, h3, h4⟩ := h
  exact ⟨h0.trans' k (fun i hi g => by have := hw i g; omega), hr, c, vs, fs, h1.kept k (fun g => hG _ g h2) (fun j g hj hg e => hG _ e (h3 j g hj hg)), h2, h3, fun i hi => ⟨(h4 i hi).1, Nat.lt_of_lt_of_le (h4 i hi).2 k.size⟩⟩
theorem St.own {w0 : World} {F : Nat → Prop} (h : St w0 b room ls F w) : ∀ i, F i → w0.heap.size ≤ i ∧ i < w.heap.size := by obtain ⟨h0, hr, c, vs, fs, h1, h2, h3, h4⟩ := h; exact h4
/-- Behind a turn. -/
theorem St.nx {w0 : World} {F : Nat → Prop} {ls' : Nat → List Bx} {c' : List Value} {vs' : Nat → Value} {fs' : Nat → Nat} (h : St w0 b room ls F w) (hK : Kept F w w') (hr : tot ls' 8 ≤ room) (hQ : QuV w' b room (tot ls' 8) c' vs' fs' ls')
    (ho : ∀ k g, k < 8 → (vs' k).ownBlock = some g → F g ∨ w.heap.size ≤ g) : ∃ F', St w0 b room ls' F' w' ∧ Next F w F' w' := by
  obtain ⟨h0, hr0, c, vs, fs, h1, h2, h3, h4⟩ := h
  have hs0 := h0.size
  refine ⟨fun i => i = b ∨ ∃ k, k < 8 ∧ (vs' k).ownBlock = some i, ⟨h0.trans' hK (fun i hi e => by have := (h4 i e).1; omega), ⟨hr0.1, hr0.2.1, hr⟩, c', vs', fs', hQ, Or.inl rfl, fun k g hk hg => Or.inr ⟨k, hk, hg⟩, ?_⟩, hK, ?_⟩
  · rintro i (rfl | ⟨k, hk, hg⟩)
    · exact ⟨(h4 i h2).1, hQ.blk.lt⟩
    · have := ((hQ.ring k hk).lt i hg).1
      rcases ho k i hk hg with e | e
      · exact ⟨(h4 i e).1, this⟩
      · exact ⟨by omega, this⟩
  · rintro i (rfl | ⟨k, hk, hg⟩)
    · exact Or.inl h2
    · exact ho k i hk hg
end Go.Proofs.Ytiffnlcpemfmoaa.Qu
