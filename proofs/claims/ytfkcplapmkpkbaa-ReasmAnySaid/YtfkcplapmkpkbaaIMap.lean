/- Maps keyed by ints, known as the list of their entries in the order in which they came: what a look-up, a store of a new key, a delete and len do. Conditions: each theorem's own. -/
import Derived.Test.YtfkcplapmkpkbaaHeap
import Derived.Maps.OwnSet
namespace Go.Proofs.Ytfkcplapmkpkbaa.Im
open Go.RowKit Hp
open Go.ChangeMaps (setBlock heap_setBlock_same heap_setBlock_other)
/-- Block b is a map whose entries are M. -/
def IMap (w : World) (b : Nat) (M : List (Nat × Value)) : Prop :=
  ∃ es clock, w.heap[b]? = some (.map es clock) ∧ es.toList.map (fun e => (e.key, e.val)) = M.map (fun p => (Value.int .i64 (p.1 : Int), p.2))
theorem IMap.heap {w w' : World} {b : Nat} {M : List (Nat × Value)} (h : IMap w b M) (e : w'.heap[b]? = w.heap[b]?) : IMap w' b M := by
  obtain ⟨es, c, h1, h2⟩ := h
  exact ⟨es, c, e.trans h1, h2⟩
theorem IMap.lt {w : World} {b : Nat} {M : List (Nat × Value)} (h : IMap w b M) : b < w.heap.size := by
  obtain ⟨es, c, h1, h2⟩ := h
  exact (Array.getElem?_eq_some_iff.1 h1).1
theorem IMap.kept {F : Nat → Prop} {w w' : World} {b : Nat} {M : List (Nat × Value)} (h : IMap w b M) (k : Kept F w w') (hF : ¬ F b) : IMap w' b M := h.heap (k.block b h.lt hF)
theorem IMap.new (w : World) : IMap (w.alloc (.map #[] 0)) w.heap.size [] := ⟨#[], 0, by simp only [World.alloc, Array.getElem?_push, if_pos], rfl⟩
theorem IMap.not_blk {w : World} {b : Nat} {M : List (Nat × Value)} {c : List Value} {T : TypeId} (h : IMap w b M) (h' : Blk w b c T) : False := by
  obtain ⟨es, c, h1, h2⟩ := h
  unfold Blk at h'
  rw [h1] at h'
  cases h'
theorem kept_setBlock {w : World} {b : Nat} {es : Array MapEntry} {c : Nat} (hb : w.heap[b]? = some (.map es c)) (o : Obj) : Kept (fun k => k = b) w (setBlock w b o) :=
  ⟨rfl, rfl, rfl, by simp [setBlock], fun _ _ hi => heap_setBlock_other hb o hi⟩
theorem find_miss (x : Nat) : ∀ (es : List MapEntry) (M : List (Nat × Value)), es.map (fun e => (e.key, e.val)) = M.map (fun p => (Value.int .i64 (p.1 : Int), p.2)) → (∀ p ∈ M, p.1 ≠ x) → ∀ i, Instr.findNow (.int .i64) (.int .i64 (x : Int)) es i = some none
  | [], [], _, _, _ => rfl
  | [], _ :: _, h, _, _ => by simp at h
  | _ :: _, [], h, _, _ => by simp at h
  | e :: es, p :: M, h, hx, i => by
    simp only [List.map_cons, List.cons.injEq, Prod.mk.injEq] at h
    obtain ⟨⟨h1, _⟩, h3⟩ := h
    have hp := hx p (by simp)
    have hne : ((x : Int) == (p.1 : Int)) = false := beq_false_of_ne (by omega)
    unfold Instr.findNow
    rw [h1]
    simp only [Instr.sameNow, if_true, hne]
    exact find_miss x es M h3 (fun q hq => hx q (by simp [hq])) (i + 1)
theorem find_hit (x : Nat) (v : Value) (B : List (Nat × Value)) : ∀ (es : List MapEntry) (A : List (Nat × Value)), es.map (fun e => (e.key, e.val)) = (A ++ (x, v) :: B).map (fun p => (Value.int .i64 (p.1 : Int), p.2)) → (∀ p ∈ A, p.1 ≠ x) →
    ∀ i, Instr.findNow (.int .i64) (.int .i64 (x : Int)) es i = some (some (i + A.length, v))
  | [], [], h, _, _ => by simp at h
  | [], _ :: _, h, _, _ => by simp at h
  | e :: es, [], h, _, i => by
    simp only [List.nil_append, List.map_cons, List.cons.injEq, Prod.mk.injEq] at h
    obtain ⟨⟨h1, h2⟩, _⟩ := h
    unfold Instr.findNow
    rw [h1]
    simp [Instr.sameNow, h2]
  | e :: es, p :: A, h, hx, i => by
    simp only [List.cons_append, List.map_cons, List.cons.injEq, Prod.mk.injEq] at h
    obtain ⟨⟨h1, _⟩, h3⟩ := h
    have hp := hx p (by simp)
    have hne : ((x : Int) == (p.1 : Int)) = false := beq_false_of_ne (by omega)
    unfold Instr.findNow
    rw [h1]
    simp only [Instr.sameNow, if_true, hne]
    rw [find_hit x v B es A h3 (fun q hq => hx q (by simp [hq])) (i + 1)]
    simp; omega
section
variable {P : Program} {t k e : TypeId} {w : World} {b : Nat} {M A B : List (Nat × Value)} {x : Nat} {v : Value}
theorem run_check (hk : P.underlying k = some (.int .i64)) (em : Bool) (w : World) : (Instr.checkKey em 10000 k (.int .i64 (x : Int))).run P w = .ok () w := MapKept.run_checkKey hk (by simp [MapKept.IsKey]) em 9999
theorem run_find_miss (hk : P.underlying k = some (.int .i64)) {es : List MapEntry} (h : es.map (fun e => (e.key, e.val)) = M.map (fun p => (Value.int .i64 (p.1 : Int), p.2))) (hx : ∀ p ∈ M, p.1 ≠ x) (w : World) :
    (Instr.findKey k (.int .i64 (x : Int)) es).run P w = .ok none w := by
  simp [Instr.findKey, run_underlying hk, find_miss x es M h hx, Result.andThen]
theorem run_find_hit (hk : P.underlying k = some (.int .i64)) {es : List MapEntry} (h : es.map (fun e => (e.key, e.val)) = (A ++ (x, v) :: B).map (fun p => (Value.int .i64 (p.1 : Int), p.2))) (hx : ∀ p ∈ A, p.1 ≠ x) (w : World) :
    (Instr.findKey k (.int .i64 (x : Int)) es).run P w = .ok (some (A.length, v)) w := by
  simp [Instr.findKey, run_underlying hk, find_hit x v B es A h hx, Result.andThen]
theorem IMap.look_hit (h : IMap w b (A ++ (x, v) :: B)) (ht : P.underlying t = some (.map k e)) (hk : P.underlying k = some (.int .i64)) (hx : ∀ p ∈ A, p.1 ≠ x) :
    (Instr.lookup t (.map (some b)) (.int .i64 (x : Int)) false).run P w = .ok v w := by
  obtain ⟨es, c, hb, h2⟩ := h
  simp [Instr.lookup, run_underlying ht, MapKept.run_getObj_map hb, run_check hk, run_find_hit hk h2 hx, Result.andThen]
theorem IMap.look_miss (h : IMap w b M) (ht : P.underlying t = some (.map k e)) (hk : P.underlying k = some (.int .i64)) (hx : ∀ p ∈ M, p.1 ≠ x) {z : Value} (hz : (zeroValue e).run P w = .ok z w) :
    (Instr.lookup t (.map (some b)) (.int .i64 (x : Int)) false).run P w = .ok z w := by
  obtain ⟨es, c, hb, h2⟩ := h
  simp [Instr.lookup, run_underlying ht, MapKept.run_getObj_map hb, run_check hk, run_find_miss hk h2 hx, hz, Result.andThen]
theorem IMap.len (h : IMap w b M) (ht : P.underlying t = some (.map k e)) (ty : TypeId) : (Builtin.len_ #[t] ty #[.map (some b)]).run P w = .ok (.int .i64 (M.length : Int)) w := by
  obtain ⟨es, c, hb, h2⟩ := h
  have e1 : es.size = M.length := by have := congrArg List.length h2; simpa using this
  simp [Builtin.len_, run_underlying ht, MapKept.run_getObj_map hb, goInt, Result.andThen, e1]
theorem IMap.put_new (h : IMap w b M) (ht : P.underlying t = some (.map k e)) (hk : P.underlying k = some (.int .i64)) (hx : ∀ p ∈ M, p.1 ≠ x) (v : Value) :
    ∃ w', (Instr.mapUpdate t (.map (some b)) (.int .i64 (x : Int)) v).run P w = .ok () w' ∧ IMap w' b (M ++ [(x, v)]) ∧ Kept (fun k => k = b) w w' := by
  obtain ⟨es, c, hb, h2⟩ := h
  refine ⟨setBlock w b (.map (es.push ⟨.int .i64 (x : Int), v, c⟩) (c + 1)), ?_, ⟨_, _, heap_setBlock_same hb _, by simp [h2]⟩, kept_setBlock hb _⟩
  simp [Instr.mapUpdate, run_underlying ht, MapKept.run_getObj_map hb, run_check hk, run_find_miss hk h2 hx, MapKept.run_setObj_map _ hb, Result.andThen, setBlock]
theorem IMap.del_hit (h : IMap w b (A ++ (x, v) :: B)) (ht : P.underlying t = some (.map k e)) (hk : P.underlying k = some (.int .i64)) (hx : ∀ p ∈ A, p.1 ≠ x) (ty : TypeId) :
    ∃ w', (Builtin.delete_ #[t, k] ty #[.map (some b), .int .i64 (x : Int)]).run P w = .ok (.tuple #[]) w' ∧ IMap w' b (A ++ B) ∧ Kept (fun k => k = b) w w' := by
  obtain ⟨es, c, hb, h2⟩ := h
  have hl : A.length < es.size := by have := congrArg List.length h2; simp at this; omega
  refine ⟨setBlock w b (.map (es.eraseIdxIfInBounds A.length) c), ?_, ⟨_, _, heap_setBlock_same hb _, ?_⟩, kept_setBlock hb _⟩
  · simp [Builtin.delete_, run_underlying ht, MapKept.run_getObj_map hb, run_check hk, run_find_hit hk h2 hx, MapKept.run_setObj_map _ hb, Result.andThen, setBlock]
  · have e1 : (es.eraseIdxIfInBounds A.length).toList = es.toList.eraseIdx A.length := by
      unfold Array.eraseIdxIfInBounds
      rw [dif_pos hl]; simp
    rw [e1, ChangeMaps.map_eraseIdx, h2, ← ChangeMaps.map_eraseIdx]
    congr 1
    rw [List.eraseIdx_append_of_length_le (Nat.le_refl _)]
    simp
end
section
variable {P : Program} {w : World} {ops : Array Oper} {rest : List Oper} {o : Oper} {a : Act} {Q : Exit → Act → World → Prop} {b : Nat} {M A B : List (Nat × Value)} {x : Nat} {v : Value}
theorem wp_put_new (hw : Region.wanted o (yielded ops a.tmps) = true) (m y u : Operand) (t : TypeId) (hop : o.op = Op.mapUpdate t m y u) (k e : TypeId) (ht : P.underlying t = some (.map k e)) (hk : P.underlying k = some (.int .i64))
    (h : IMap w b M) (hm : a.eval m = .map (some b)) (hy : a.eval y = .int .i64 (x : Int)) (hu : a.eval u = v) (hx : ∀ p ∈ M, p.1 ≠ x)
    (hK : ∀ w', IMap w' b (M ++ [(x, v)]) → Kept (fun k => k = b) w w' → wpList P ops Q rest (a.put o.dst undef) w') : wpList P ops Q (o :: rest) a w := by
  refine wpList_step fun K' hK' => ?_
  rw [if_pos hw]
  obtain ⟨w', hrun, r1, r2⟩ := h.put_new ht hk hx v
  unfold Oper.wp
  simp [execOp, hop, hm, hy, hu, hrun, Result.andThen]
  exact hK' _ _ (hK w' r1 r2)
theorem wp_del_hit (hw : Region.wanted o (yielded ops a.tmps) = true) (m y : Operand) (t k : TypeId) (hop : o.op = Op.call { callee := Callee.builtin Builtin.delete, args := #[m, y], argTypes := #[t, k] }) (e : TypeId) (ht : P.underlying t = some (.map k e)) (hk : P.underlying k = some (.int .i64))
    (h : IMap w b (A ++ (x, v) :: B)) (hm : a.eval m = .map (some b)) (hy : a.eval y = .int .i64 (x : Int)) (hx : ∀ p ∈ A, p.1 ≠ x)
    (hK : ∀ w', IMap w' b (A ++ B) → Kept (fun k => k = b) w w' → wpList P ops Q rest (a.put o.dst (.tuple #[])) w') : wpList P ops Q (o :: rest) a w := by
  refine wpList_step fun K' hK' => ?_
  rw [if_pos hw]
  obtain ⟨w', hrun, r1, r2⟩ := h.del_hit ht hk hx o.type
  unfold Oper.wp
  simp [execOp, hop, resolve, invoke, builtin, hm, hy, hrun, Result.andThen]
  exact hK' _ _ (hK w' r1 r2)
theorem wp_look_hit (hw : Region.wanted o (yielded ops a.tmps) = true) (m y : Operand) (t : TypeId) (hop : o.op = Op.lookup t m y false) (k e : TypeId) (ht : P.underlying t = some (.map k e)) (hk : P.underlying k = some (.int .i64))
    (h : IMap w b (A ++ (x, v) :: B)) (hm : a.eval m = .map (some b)) (hy : a.eval y = .int .i64 (x : Int)) (hx : ∀ p ∈ A, p.1 ≠ x)
    (hK : wpList P ops Q rest (a.put o.dst v) w) : wpList P ops Q (o :: rest) a w := by
  refine wpList_step fun K' hK' => ?_
  rw [if_pos hw]
  unfold Oper.wp
  simp [execOp, hop, hm, hy, h.look_hit ht hk hx, Result.andThen]
  exact hK' _ _ hK
theorem wp_len (hw : Region.wanted o (yielded ops a.tmps) = true) (m : Operand) (t : TypeId) (hop : o.op = Op.call { callee := Callee.builtin Builtin.len, args := #[m], argTypes := #[t] }) (k e : TypeId) (ht : P.underlying t = some (.map k e))
    (h : IMap w b M) (hm : a.eval m = .map (some b)) (hK : wpList P ops Q rest (a.put o.dst (.int .i64 (M.length : Int))) w) : wpList P ops Q (o :: rest) a w := by
  refine wpList_step fun K' hK' => ?_
  rw [if_pos hw]
  unfold Oper.wp
  simp [execOp, hop, resolve, invoke, builtin, hm, h.len ht o.type, Result.andThen]
  exact hK' _ _ hK
end
open Go.BigFrame in
/-- len in a region that only reads. -/
theorem quiet_len {P : Program} {w : World} {ops : Array Oper} {rest : List Oper} {o : Oper} {a : Act} {Q : Act → Prop} {b : Nat} {M : List (Nat × Value)} (m : Operand) (t : TypeId)
    (hop : o.op = Op.call { callee := Callee.builtin Builtin.len, args := #[m], argTypes := #[t] }) (k e : TypeId) (ht : P.underlying t = some (.map k e))
    (h : IMap w b M) (hw : Region.wanted o (yielded ops a.tmps) = true) (hm : a.eval m = .map (some b)) (hK : wpQuiet P ops (fun w' => ∃ n, w' = w.drewN n) Q rest (a.put o.dst (.int .i64 (M.length : Int)))) :
    wpQuiet P ops (fun w' => ∃ n, w' = w.drewN n) Q (o :: rest) a := by
  refine wpQuiet_want hw fun K hK' => ⟨.int .i64 (M.length : Int), fun w' hw' => ?_, hK' _ hK⟩
  obtain ⟨n, rfl⟩ := hw'
  have h' : IMap (w.drewN n) b M := h
  unfold Oper.quietAt
  simp [execOp, hop, resolve, invoke, builtin, hm, h'.len ht o.type, Result.andThen]
  exact ⟨rfl, rfl⟩
theorem find_missI (x : Int) : ∀ (es : List MapEntry) (M : List (Nat × Value)), es.map (fun e => (e.key, e.val)) = M.map (fun p => (Value.int .i64 (p.1 : Int), p.2)) → (∀ p ∈ M, (p.1 : Int) ≠ x) → ∀ i, Instr.findNow (.int .i64) (.int .i64 x) es i = some none
  | [], [], _, _, _ => rfl
  | [], _ :: _, h, _, _ => by simp at h
  | _ :: _, [], h, _, _ => by simp at h
  | e :: es, p :: M, h, hx, i => by
    simp only [List.map_cons, List.cons.injEq, Prod.mk.injEq] at h
    obtain ⟨⟨h1, _⟩, h3⟩ := h
    have hp := hx p (by simp)
    have hne : (x == (p.1 : Int)) = false := beq_false_of_ne (by omega)
    unfold Instr.findNow
    rw [h1]
    simp only [Instr.sameNow, if_true, hne]
    exact find_missI x es M h3 (fun q hq => hx q (by simp [hq])) (i + 1)
theorem IMap.look_missI {P : Program} {t k e : TypeId} {w : World} {b : Nat} {M : List (Nat × Value)} {x : Int} (h : IMap w b M) (ht : P.underlying t = some (.map k e)) (hk : P.underlying k = some (.int .i64)) (hx : ∀ p ∈ M, (p.1 : Int) ≠ x) {z : Value} (hz : (zeroValue e).run P w = .ok z w) :
    (Instr.lookup t (.map (some b)) (.int .i64 x) false).run P w = .ok z w := by
  obtain ⟨es, c, hb, h2⟩ := h
  have hc : (Instr.checkKey es.isEmpty 10000 k (.int .i64 x)).run P w = .ok () w := MapKept.run_checkKey hk (by simp [MapKept.IsKey]) _ 9999
  have hf : (Instr.findKey k (.int .i64 x) es.toList).run P w = .ok none w := by simp [Instr.findKey, run_underlying hk, find_missI x es.toList M h2 hx, Result.andThen]
  simp [Instr.lookup, run_underlying ht, MapKept.run_getObj_map hb, hc, hf, hz, Result.andThen]
theorem wp_look_miss {P : Program} {w : World} {ops : Array Oper} {rest : List Oper} {o : Oper} {a : Act} {Q : Exit → Act → World → Prop} {b : Nat} {M : List (Nat × Value)} {x : Int} {z : Value} (hw : Region.wanted o (yielded ops a.tmps) = true) (m y : Operand) (t : TypeId) (hop : o.op = Op.lookup t m y false) (k e : TypeId) (ht : P.underlying t = some (.map k e)) (hk : P.underlying k = some (.int .i64))
    (h : IMap w b M) (hm : a.eval m = .map (some b)) (hy : a.eval y = .int .i64 x) (hx : ∀ p ∈ M, (p.1 : Int) ≠ x) (hz : (zeroValue e).run P w = .ok z w)
    (hK : wpList P ops Q rest (a.put o.dst z) w) : wpList P ops Q (o :: rest) a w := by
  refine wpList_step fun K' hK' => ?_
  rw [if_pos hw]
  unfold Oper.wp
  simp [execOp, hop, hm, hy, h.look_missI ht hk hx hz, Result.andThen]
  exact hK' _ _ hK
end Go.Proofs.Ytfkcplapmkpkbaa.Im
