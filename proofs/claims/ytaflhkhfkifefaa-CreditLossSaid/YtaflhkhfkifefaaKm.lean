/- Maps from ints to nothing, known as the list of their keys: store, look-up, delete. Conditions: each theorem's own. -/
import Derived.Test.YtaflhkhfkifefaaHeap
import Derived.Maps.OwnSet
namespace Go.Proofs.Ytaflhkhfkifefaa.Km
open Go.RowKit Hp
open Go.ChangeMaps (setBlock heap_setBlock_same heap_setBlock_other)
def ent (x : Int) : Value × Value := (.int .i64 x, .agg #[])
/-- Block b is a map whose keys are M. -/
def KMap (w : World) (b : Nat) (M : List Int) : Prop :=
  ∃ es clock, w.heap[b]? = some (.map es clock) ∧ es.toList.map (fun e => (e.key, e.val)) = M.map ent
theorem KMap.heap {w w' : World} {b : Nat} {M : List Int} (h : KMap w b M) (e : w'.heap[b]? = w.heap[b]?) : KMap w' b M := by
  obtain ⟨es, c, h1, h2⟩ := h
  exact ⟨es, c, e.trans h1, h2⟩
theorem KMap.lt {w : World} {b : Nat} {M : List Int} (h : KMap w b M) : b < w.heap.size := by
  obtain ⟨es, c, h1, h2⟩ := h
  exact (Array.getElem?_eq_some_iff.1 h1).1
theorem KMap.kept {F : Nat → Prop} {w w' : World} {b : Nat} {M : List Int} (h : KMap w b M) (k : Kept F w w') (hF : ¬ F b) : KMap w' b M := h.heap (k.block b h.lt hF)
theorem KMap.new (w : World) : KMap (w.alloc (.map #[] 0)) w.heap.size [] := ⟨#[], 0, by simp only [World.alloc, Array.getElem?_push, if_pos], rfl⟩
theorem KMap.not_blk {w : World} {b : Nat} {M : List Int} {c : List Value} {T : TypeId} (h : KMap w b M) (h' : Blk w b c T) : False := by
  obtain ⟨es, c, h1, h2⟩ := h
  unfold Blk at h'
  rw [h1] at h'
  cases h'
theorem kept_setBlock {w : World} {b : Nat} {es : Array MapEntry} {c : Nat} (hb : w.heap[b]? = some (.map es c)) (o : Obj) : Kept (fun k => k = b) w (setBlock w b o) :=
  ⟨rfl, rfl, rfl, by simp [setBlock], fun _ _ hi => heap_setBlock_other hb o hi⟩
theorem find_miss (x : Int) : ∀ (es : List MapEntry) (M : List Int), es.map (fun e => (e.key, e.val)) = M.map ent → x ∉ M → ∀ i, Instr.findNow (.int .i64) (.int .i64 x) es i = some none
  | [], [], _, _, _ => rfl
  | [], _ :: _, h, _, _ => by simp at h
  | _ :: _, [], h, _, _ => by simp at h
  | e :: es, p :: M, h, hx, i => by
    simp only [List.map_cons, List.cons.injEq, ent, Prod.mk.injEq] at h
    obtain ⟨⟨h1, _⟩, h3⟩ := h
    have hp : x ≠ p := fun e => hx (by rw [e]; simp)
    have hne : (x == p) = false := beq_false_of_ne hp
    unfold Instr.findNow
    rw [h1]
    simp only [Instr.sameNow, if_true, hne]
    exact find_miss x es M h3 (fun q => hx (by simp [q])) (i + 1)
theorem find_hit (x : Int) (B : List Int) : ∀ (es : List MapEntry) (A : List Int), es.map (fun e => (e.key, e.val)) = (A ++ x :: B).map ent → x ∉ A →
    ∀ i, Instr.findNow (.int .i64) (.int .i64 x) es i = some (some (i + A.length, .agg #[]))
  | [], [], h, _, _ => by simp at h
  | [], _ :: _, h, _, _ => by simp at h
  | e :: es, [], h, _, i => by
    simp only [List.nil_append, List.map_cons, List.cons.injEq, ent, Prod.mk.injEq] at h
    obtain ⟨⟨h1, h2⟩, _⟩ := h
    unfold Instr.findNow
    rw [h1]
    simp [Instr.sameNow, h2]
  | e :: es, p :: A, h, hx, i => by
    simp only [List.cons_append, List.map_cons, List.cons.injEq, ent, Prod.mk.injEq] at h
    obtain ⟨⟨h1, _⟩, h3⟩ := h
    have hp : x ≠ p := fun e => hx (by rw [e]; simp)
    have hne : (x == p) = false := beq_false_of_ne hp
    unfold Instr.findNow
    rw [h1]
    simp only [Instr.sameNow, if_true, hne]
    rw [find_hit x B es A h3 (fun q => hx (by simp [q])) (i + 1)]
    simp; omega
theorem split_mem {x : Int} : ∀ {M : List Int}, x ∈ M → ∃ A B, M = A ++ x :: B ∧ x ∉ A
  | [], h => by simp at h
  | y :: M, h => by
    by_cases e : x = y
    · exact ⟨[], M, by rw [e]; rfl, by simp⟩
    · obtain ⟨A, B, h1, h2⟩ := split_mem (M := M) (by simpa [e] using h)
      exact ⟨y :: A, B, by rw [h1]; rfl, by simp [e, h2]⟩
/-- The keys with one more. -/
def ins (M : List Int) (x : Int) : List Int := if x ∈ M then M else M ++ [x]
section
variable {P : Program} {t k e : TypeId} {w : World} {b : Nat} {M A B : List Int} {x : Int}
theorem run_check (hk : P.underlying k = some (.int .i64)) (em : Bool) (w : World) : (Instr.checkKey em 10000 k (.int .i64 x)).run P w = .ok () w := MapKept.run_checkKey hk (by simp [MapKept.IsKey]) em 9999
theorem run_find_miss (hk : P.underlying k = some (.int .i64)) {es : List MapEntry} (h : es.map (fun e => (e.key, e.val)) = M.map ent) (hx : x ∉ M) (w : World) :
    (Instr.findKey k (.int .i64 x) es).run P w = .ok none w := by
  simp [Instr.findKey, run_underlying hk, find_miss x es M h hx, Result.andThen]
theorem run_find_hit (hk : P.underlying k = some (.int .i64)) {es : List MapEntry} (h : es.map (fun e => (e.key, e.val)) = (A ++ x :: B).map ent) (hx : x ∉ A) (w : World) :
    (Instr.findKey k (.int .i64 x) es).run P w = .ok (some (A.length, .agg #[])) w := by
  simp [Instr.findKey, run_underlying hk, find_hit x B es A h hx, Result.andThen]
theorem KMap.look (h : KMap w b M) (ht : P.underlying t = some (.map k e)) (hk : P.underlying k = some (.int .i64)) (hz : (zeroValue e).run P w = .ok (.agg #[]) w) :
    (Instr.lookup t (.map (some b)) (.int .i64 x) true).run P w = .ok (.tuple #[.agg #[], .bool (decide (x ∈ M))]) w := by
  obtain ⟨es, c, hb, h2⟩ := h
  by_cases hx : x ∈ M
  · obtain ⟨A, B, rfl, hA⟩ := split_mem hx
    simp [Instr.lookup, run_underlying ht, MapKept.run_getObj_map hb, run_check hk, run_find_hit hk h2 hA, Result.andThen]
  · simp [Instr.lookup, run_underlying ht, MapKept.run_getObj_map hb, run_check hk, run_find_miss hk h2 hx, hz, Result.andThen, hx]
theorem look_nil (ht : P.underlying t = some (.map k e)) (hk : P.underlying k = some (.int .i64)) (hz : (zeroValue e).run P w = .ok (.agg #[]) w) :
    (Instr.lookup t (.map none) (.int .i64 x) true).run P w = .ok (.tuple #[.agg #[], .bool false]) w := by
  simp [Instr.lookup, run_underlying ht, run_check hk, Instr.findKey, run_underlying hk, Instr.findNow, hz, Result.andThen]
theorem KMap.put (h : KMap w b M) (ht : P.underlying t = some (.map k e)) (hk : P.underlying k = some (.int .i64)) (x : Int) :
    ∃ w', (Instr.mapUpdate t (.map (some b)) (.int .i64 x) (.agg #[])).run P w = .ok () w' ∧ KMap w' b (ins M x) ∧ Kept (fun k => k = b) w w' := by
  obtain ⟨es, c, hb, h2⟩ := h
  by_cases hx : x ∈ M
  · obtain ⟨A, B, rfl, hA⟩ := split_mem hx
    have hl : A.length < es.size := by have := congrArg List.length h2; simp at this; omega
    have hkey : es[A.length].key = .int .i64 x ∧ es[A.length].val = .agg #[] := by
      have := congrArg (fun l => l[A.length]?) h2
      simp [ent, hl] at this
      exact this
    refine ⟨setBlock w b (.map (es.modify A.length fun e => { e with key := .int .i64 x, val := .agg #[] }) c), ?_, ⟨_, _, heap_setBlock_same hb _, ?_⟩, kept_setBlock hb _⟩
    · simp [Instr.mapUpdate, run_underlying ht, MapKept.run_getObj_map hb, run_check hk, run_find_hit hk h2 hA, Instr.keyThatStays, hl, hkey.1, Instr.sameBits, MapKept.run_setObj_map _ hb, Result.andThen, setBlock]
    · unfold ins
      rw [if_pos hx, ← h2]
      apply List.ext_getElem
      · simp
      · intro i h3 h4
        simp only [List.getElem_map, Array.getElem_toList, Array.getElem_modify]
        split
        · rename_i e; subst e; rw [hkey.1, hkey.2]
        · rfl
  · refine ⟨setBlock w b (.map (es.push ⟨.int .i64 x, .agg #[], c⟩) (c + 1)), ?_, ⟨_, _, heap_setBlock_same hb _, by simp [h2, ins, hx, ent]⟩, kept_setBlock hb _⟩
    simp [Instr.mapUpdate, run_underlying ht, MapKept.run_getObj_map hb, run_check hk, run_find_miss hk h2 hx, MapKept.run_setObj_map _ hb, Result.andThen, setBlock]
theorem KMap.del (h : KMap w b M) (ht : P.underlying t = some (.map k e)) (hk : P.underlying k = some (.int .i64)) (hx : x ∈ M) (ty : TypeId) :
    ∃ w', (Builtin.delete_ #[t, k] ty #[.map (some b), .int .i64 x]).run P w = .ok (.tuple #[]) w' ∧ KMap w' b (M.erase x) ∧ Kept (fun k => k = b) w w' := by
  obtain ⟨es, c, hb, h2⟩ := h
  obtain ⟨A, B, rfl, hA⟩ := split_mem hx
  have hl : A.length < es.size := by have := congrArg List.length h2; simp at this; omega
  refine ⟨setBlock w b (.map (es.eraseIdxIfInBounds A.length) c), ?_, ⟨_, _, heap_setBlock_same hb _, ?_⟩, kept_setBlock hb _⟩
  · simp [Builtin.delete_, run_underlying ht, MapKept.run_getObj_map hb, run_check hk, run_find_hit hk h2 hA, MapKept.run_setObj_map _ hb, Result.andThen, setBlock]
  · have e1 : (es.eraseIdxIfInBounds A.length).toList = es.toList.eraseIdx A.length := by
      unfold Array.eraseIdxIfInBounds
      rw [dif_pos hl]; simp
    rw [e1, ChangeMaps.map_eraseIdx, h2, ← ChangeMaps.map_eraseIdx]
    congr 1
    rw [List.eraseIdx_append_of_length_le (Nat.le_refl _), List.erase_append_right _ hA]
    simp
end
section
variable {P : Program} {w : World} {ops : Array Oper} {rest : List Oper} {o : Oper} {a : Act} {Q : Exit → Act → World → Prop} {b : Nat} {M : List Int} {x : Int}
theorem wp_put (hw : Region.wanted o (yielded ops a.tmps) = true) (m y u : Operand) (t : TypeId) (hop : o.op = Op.mapUpdate t m y u) (k e : TypeId) (ht : P.underlying t = some (.map k e)) (hk : P.underlying k = some (.int .i64))
    (h : KMap w b M) (hm : a.eval m = .map (some b)) (hy : a.eval y = .int .i64 x) (hu : a.eval u = .agg #[])
    (hK : ∀ w', KMap w' b (ins M x) → Kept (fun k => k = b) w w' → wpList P ops Q rest (a.put o.dst undef) w') : wpList P ops Q (o :: rest) a w := by
  refine wpList_step fun K' hK' => ?_
  rw [if_pos hw]
  obtain ⟨w', hrun, r1, r2⟩ := h.put ht hk x
  unfold Oper.wp
  simp [execOp, hop, hm, hy, hu, hrun, Result.andThen]
  exact hK' _ _ (hK w' r1 r2)
theorem wp_del (hw : Region.wanted o (yielded ops a.tmps) = true) (m y : Operand) (t k : TypeId) (hop : o.op = Op.call { callee := Callee.builtin Builtin.delete, args := #[m, y], argTypes := #[t, k] }) (e : TypeId) (ht : P.underlying t = some (.map k e)) (hk : P.underlying k = some (.int .i64))
    (h : KMap w b M) (hm : a.eval m = .map (some b)) (hy : a.eval y = .int .i64 x) (hx : x ∈ M)
    (hK : ∀ w', KMap w' b (M.erase x) → Kept (fun k => k = b) w w' → wpList P ops Q rest (a.put o.dst (.tuple #[])) w') : wpList P ops Q (o :: rest) a w := by
  refine wpList_step fun K' hK' => ?_
  rw [if_pos hw]
  obtain ⟨w', hrun, r1, r2⟩ := h.del ht hk hx o.type
  unfold Oper.wp
  simp [execOp, hop, resolve, invoke, builtin, hm, hy, hrun, Result.andThen]
  exact hK' _ _ (hK w' r1 r2)
theorem wp_look (hw : Region.wanted o (yielded ops a.tmps) = true) (m y : Operand) (t : TypeId) (hop : o.op = Op.lookup t m y true) (k e : TypeId) (ht : P.underlying t = some (.map k e)) (hk : P.underlying k = some (.int .i64)) (hz : (zeroValue e).run P w = .ok (.agg #[]) w)
    (h : KMap w b M) (hm : a.eval m = .map (some b)) (hy : a.eval y = .int .i64 x)
    (hK : wpList P ops Q rest (a.put o.dst (.tuple #[.agg #[], .bool (decide (x ∈ M))])) w) : wpList P ops Q (o :: rest) a w := by
  refine wpList_step fun K' hK' => ?_
  rw [if_pos hw]
  unfold Oper.wp
  simp [execOp, hop, hm, hy, h.look ht hk hz, Result.andThen]
  exact hK' _ _ hK
theorem wp_look_nil (hw : Region.wanted o (yielded ops a.tmps) = true) (m y : Operand) (t : TypeId) (hop : o.op = Op.lookup t m y true) (k e : TypeId) (ht : P.underlying t = some (.map k e)) (hk : P.underlying k = some (.int .i64)) (hz : (zeroValue e).run P w = .ok (.agg #[]) w)
    (hm : a.eval m = .map none) (hy : a.eval y = .int .i64 x)
    (hK : wpList P ops Q rest (a.put o.dst (.tuple #[.agg #[], .bool false])) w) : wpList P ops Q (o :: rest) a w := by
  refine wpList_step fun K' hK' => ?_
  rw [if_pos hw]
  unfold Oper.wp
  simp [execOp, hop, hm, hy, look_nil ht hk hz, Result.andThen]
  exact hK' _ _ hK
end
end Go.Proofs.Ytaflhkhfkifefaa.Km
