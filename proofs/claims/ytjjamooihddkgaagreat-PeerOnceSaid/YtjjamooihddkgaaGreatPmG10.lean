/- Bytes: a slice of them as an argument, as a row of one's own, as a source; append, as a string. Conditions: each theorem's own. -/
import Derived.Test.YtjjamooihddkgaaGreatPmG9
import Derived.Laws.AppendOwn
import Derived.Laws.AppendOwnNone
import Derived.Laws.BytesArg
import Derived.Laws.IdiomStrings
import Derived.Maps.AppendAt
import Derived.Carry
import Derived.Test.YtjjamooihddkgaaGreatPmG2
import Derived.Maps.OwnSet
import Derived.Test.YtjjamooihddkgaaGreatPmG1
import Derived.StillTailTactics
import Derived.OwnWalk
import Derived.Laws.MakeOwn
import Derived.Laws.OwnMore
set_option linter.unusedVariables false
set_option linter.unusedSimpArgs false
namespace Go.Proofs.YtjjamooihddkgaaGreat.Byt
open Go.ChangeShapes Go.WideShapes Go.RowKit Go.Deep Hp Go.Proofs.YtjjamooihddkgaaGreat.End
theorem infoB : (Tryz.prog.info? 5).map (fun i => (i.zero, i.size, i.bytes)) = some (some (.int .u8 0), 1, 1) := by kernel_rfl
theorem keptAt {F : Nat → Prop} {w w' : World} (h : Kept F w w') {k : Nat} (hk : k < w.heap.size) (hF : ¬ F k) (o : Nat) : w'.cell? ⟨k, o, none⟩ = w.cell? ⟨k, o, none⟩ := by
  simp [World.cell?, h.block k hk hF]
/-- A byte's cell. -/
def bv (x : UInt8) : Value := .int .u8 (x.toNat : Int)
def bvs (l : List UInt8) : List Value := l.map bv
theorem bvs_len (l : List UInt8) : (bvs l).length = l.length * 1 := by simp [bvs]
theorem bvs_append (a b : List UInt8) : bvs (a ++ b) = bvs a ++ bvs b := by simp [bvs]
theorem bvs_at {l : List UInt8} {j : Nat} (hj : j < l.length) : (bvs l)[j]? = some (bv l[j]) := by simp [bvs, List.getElem?_eq_getElem hj]
theorem bvs_one {l : List UInt8} : ∀ u ∈ bvs l, u.oneCell' = true := by
  intro u hu
  obtain ⟨k, _, rfl⟩ := List.mem_map.1 hu
  rfl
/-- Bytes that may be read. -/
def Src (w : World) (v : Value) (l : List UInt8) : Prop :=
  ∃ s c, v = .slice s l.length c ∧ l.length ≤ c ∧ (l = [] ∨ ∃ b o, s = some ⟨b, o, none⟩ ∧ b < w.heap.size ∧ ∀ j (hj : j < l.length), w.cell? ⟨b, o + j, none⟩ = some (bv l[j])) ∧ (s = none → c = 0)
theorem Src.kept {w w' : World} {v : Value} {l : List UInt8} (h : Src w v l) (k : Kept (fun _ => False) w w') : Src w' v l := by
  obtain ⟨s, c, rfl, hc, h, hn⟩ := h
  refine ⟨s, c, rfl, hc, ?_, hn⟩
  rcases h with h | ⟨b, o, rfl, hb, hc⟩
  · exact Or.inl h
  · exact Or.inr ⟨b, o, rfl, Nat.lt_of_lt_of_le hb k.size, fun j hj => (keptAt k hb (fun f => f) _).trans (hc j hj)⟩
/-- A row of bytes of one's own. -/
def Row (w : World) (base : Nat) (v : Value) (l : List UInt8) : Prop := w.ownsRow base 5 1 v l.length (bvs l)
theorem row_nil (w : World) (b : Nat) : Row w b (.slice none 0 0) [] := ⟨rfl, Or.inl ⟨rfl, rfl⟩⟩
theorem Row.form {w : World} {base : Nat} {v : Value} {l : List UInt8} (h : Row w base v l) :
    (v = .slice none 0 0 ∧ l = []) ∨ ∃ g cap cur, v = .slice (some ⟨g, 0, none⟩) l.length cap ∧ base ≤ g ∧ Blk w g cur 5 ∧ l.length ≤ cap ∧ cap ≤ maxLen ∧ cur.length = cap ∧ cur.take l.length = bvs l := by
  rcases h.2 with ⟨rfl, h0⟩ | ⟨g, cap, cur, rfl, h1, h2, h3, h4, h5, h6⟩
  · exact Or.inl ⟨rfl, List.length_eq_zero_iff.1 h0⟩
  · exact Or.inr ⟨g, cap, cur.toList, rfl, h1, by unfold Blk; simpa using h2, h3, h4, by simpa using h5, by simpa using h6⟩
theorem Row.src {w : World} {base : Nat} {v : Value} {l : List UInt8} (h : Row w base v l) : Src w v l := by
  rcases h.form with ⟨rfl, rfl⟩ | ⟨g, cap, cur, rfl, h1, h2, h3, h4, h5, h6⟩
  · exact ⟨none, 0, rfl, Nat.le_refl _, Or.inl rfl, fun _ => rfl⟩
  · refine ⟨_, cap, rfl, h3, Or.inr ⟨g, 0, rfl, h2.lt, fun j hj => ?_⟩, fun h => by cases h⟩
    rw [Nat.zero_add]
    refine h2.cell ?_
    have := bvs_at hj
    rw [← h6, List.getElem?_take, if_pos hj] at this
    exact this
theorem Row.base {w : World} {b b' : Nat} {v : Value} {l : List UInt8} (h : Row w b v l) (hb : ∀ g, v.ownBlock = some g → b' ≤ g) : Row w b' v l := by
  rcases h.2 with ⟨rfl, h0⟩ | ⟨g, cap, cur, rfl, h1, h2, h3, h4, h5, h6⟩
  · exact ⟨h.1, Or.inl ⟨rfl, h0⟩⟩
  · exact ⟨h.1, Or.inr ⟨g, cap, cur, rfl, hb g rfl, h2, h3, h4, h5, h6⟩⟩
theorem Row.kept {w w' : World} {F : Nat → Prop} {base : Nat} {v : Value} {l : List UInt8} (h : Row w base v l) (k : Kept F w w') (hF : ∀ g, v.ownBlock = some g → ¬ F g) : Row w' base v l := by
  rcases h.2 with ⟨rfl, h0⟩ | ⟨g, cap, cur, rfl, h1, h2, h3, h4, h5, h6⟩
  · exact ⟨h.1, Or.inl ⟨rfl, h0⟩⟩
  · have hb : Blk w g cur.toList 5 := by unfold Blk; simpa using h2
    have := k.blk hb (hF g rfl)
    exact ⟨h.1, Or.inr ⟨g, cap, cur, rfl, h1, by unfold Blk at this; simpa using this, h3, h4, h5, h6⟩⟩
theorem Row.lt {w : World} {base : Nat} {v : Value} {l : List UInt8} (h : Row w base v l) : ∀ g, v.ownBlock = some g → base ≤ g ∧ g < w.heap.size := fun g hg => World.ownsRow.lt h g hg
theorem Row.slice {w : World} {base : Nat} {v : Value} {l : List UInt8} (h : Row w base v l) : ∃ s c, v = .slice s l.length c ∧ l.length ≤ c := by
  rcases h.form with ⟨rfl, rfl⟩ | ⟨g, cap, cur, rfl, _, _, h3, _⟩
  · exact ⟨_, _, rfl, Nat.le_refl _⟩
  · exact ⟨_, _, rfl, h3⟩
theorem row_new (w : World) : Row (w.alloc (.cells #[] 5)) w.heap.size (.slice (some ⟨w.heap.size, 0, none⟩) 0 0) [] :=
  ⟨rfl, Or.inr ⟨w.heap.size, 0, #[], rfl, Nat.le_refl _, heap_alloc_new w _, Nat.le_refl _, by unfold maxLen; omega, rfl, rfl⟩⟩
/-- What an append leaves. -/
structure Apd (w : World) (base : Nat) (v : Value) (l : List UInt8) (v' : Value) (w' : World) : Prop where
  row : Row w' base v' l
  kept : Kept (fun k => v.ownBlock = some k) w w'
  lies : ∀ g, v'.ownBlock = some g → v.ownBlock = some g ∨ w.heap.size ≤ g
theorem grown_kept {w w' : World} {row : Option Nat} (h : w.grownBy w' row) : Kept (fun k => row = some k) w w' := ⟨h.os, h.tape, h.output, h.size, fun k hk hr => h.block k hk (fun e => hr e.symm)⟩
theorem run_app {w : World} (base : Nat) {v v2 : Value} {K K2 : List UInt8} (ty : TypeId) (h1 : Row w base v K) (h2 : Src w v2 K2) (hsm : K.length + K2.length ≤ 1000000000) (hbase : base ≤ w.heap.size) :
    ∃ v' w', (Builtin.append_ #[25, 25] ty #[v, v2]).run Tryz.prog w = .ok v' w' ∧ Apd w base v (K ++ K2) v' w' := by
  obtain ⟨ti, hti, hz0, hz1, hz2⟩ := info_parts infoB
  obtain ⟨s, c, rfl, hcap, hs, hn⟩ := h2
  cases s with
  | none =>
    obtain rfl := hn rfl
    obtain rfl : K2 = [] := List.length_eq_zero_iff.1 (by omega)
    have hr := run_append_owned_none (P := Tryz.prog) w base 25 ty 5 ti 1 Tryz.underlying25 hti v _ _ h1
    exact ⟨v, w, hr, ⟨by rw [List.append_nil]; exact h1, Kept.refl _ w, fun g hg => Or.inl hg⟩⟩
  | some a =>
    have hc : ∀ j u, (bvs K2)[j]? = some u → w.cell? (a.add j) = some u := fun j u hj => by
      have hj2 : j < K2.length := by have := (List.getElem?_eq_some_iff.1 hj).1; rw [bvs_len] at this; omega
      obtain ⟨b, o, e, _, hcell⟩ := hs.resolve_left (fun e => by rw [e] at hj2; simp at hj2)
      cases e
      rw [Go.WideShapes.add_plain, hcell j hj2, ← hj, bvs_at hj2]
    obtain ⟨v', w', hr, r2, r3, _, r5⟩ := run_append_own_at (P := Tryz.prog) w base 25 ty 5 ti _ 1 1 Tryz.underlying25 hti hz0 hz1 hz2 rfl (by decide) v _ _ h1 a K2.length c _ (bvs_len K2) hc bvs_one (by unfold maxLen; omega) (by omega) hbase
    refine ⟨v', w', hr, ⟨?_, grown_kept r3, fun g hg => ?_⟩⟩
    · unfold Row
      rw [List.length_append, bvs_append]
      exact r2
    · rcases r5 with r5 | r5
      · left; rw [← r5]; exact hg
      · right
        rw [r5] at hg
        cases hg
        exact Nat.le_refl _
theorem wp_app {w : World} {o : Oper} {a : Act} {K0 : Act → World → Prop} {Q : Exit → Act → World → Prop} (s x : Operand)
    (ho : o.op = .call { callee := .builtin .append, args := #[s, x], argTypes := #[25, 25] })
    (base : Nat) {v v2 : Value} {K K2 : List UInt8} (hs : a.eval s = v) (h1 : Row w base v K) (hx : a.eval x = v2) (h2 : Src w v2 K2) (hsm : K.length + K2.length ≤ 1000000000) (hbase : base ≤ w.heap.size)
    (h : ∀ v' w', Apd w base v (K ++ K2) v' w' → K0 (a.put o.dst v') w') : o.wp Tryz.prog a w K0 Q := by
  obtain ⟨v', w', hr, hA⟩ := run_app base o.type h1 h2 hsm hbase
  unfold Oper.wp execOp
  simp only [ho, resolve, invoke, builtin, Sem.run_bind, Sem.run_pure, Result.andThen_ok, List.map_toArray, List.map_cons, List.map_nil, hs, hx, hr]
  exact h v' w' hA
theorem wpList_app {w : World} {ops : Array Oper} {rest : List Oper} {o : Oper} {a : Act} {Q : Exit → Act → World → Prop} (hgd : o.guard = none) (s x : Operand)
    (ho : o.op = .call { callee := .builtin .append, args := #[s, x], argTypes := #[25, 25] })
    (base : Nat) {v v2 : Value} {K K2 : List UInt8} (hs : a.eval s = v) (h1 : Row w base v K) (hx : a.eval x = v2) (h2 : Src w v2 K2) (hsm : K.length + K2.length ≤ 1000000000) (hbase : base ≤ w.heap.size)
    (h : ∀ v' w', Apd w base v (K ++ K2) v' w' → wpList Tryz.prog ops Q rest (a.put o.dst v') w') : wpList Tryz.prog ops Q (o :: rest) a w :=
  wpList_plain hgd fun _ hK => wp_app s x ho base hs h1 hx h2 hsm hbase fun v' w' hA => hK _ _ (h v' w' hA)
/-- As a string. -/
theorem run_str {w : World} {v : Value} {l : List UInt8} (h : Src w v l) : (convert 25 9 v).run Tryz.prog w = .ok (.string ⟨l.toArray⟩) w := by
  obtain ⟨s, c, rfl, hcap, hs, hn⟩ := h
  cases s with
  | none =>
    obtain rfl := hn rfl
    obtain rfl : l = [] := List.length_eq_zero_iff.1 (by omega)
    exact run_convert_bytes_nil (P := Tryz.prog) w 25 5 Tryz.underlying25 Tryz.underlying5 0 0 9 Tryz.underlying9
  | some a =>
    refine run_convert_bytes_back (P := Tryz.prog) w 25 9 5 a c l Tryz.underlying25 Tryz.underlying5 Tryz.underlying9 (fun j hj => ?_)
    obtain ⟨b, o, e, _, hcell⟩ := hs.resolve_left (fun e => by rw [e] at hj; simp at hj)
    cases e
    rw [Go.WideShapes.add_plain]
    exact hcell j hj
end Go.Proofs.YtjjamooihddkgaaGreat.Byt
namespace Go.Proofs.YtjjamooihddkgaaGreat.Opn
open Go.ChangeShapes Go.WideShapes Go.RowKit Go.Deep Hp Go.Proofs.YtjjamooihddkgaaGreat.End Byt
/-- A slice of bytes that was there at the call. -/
def Byts (w : World) (s : Option Addr) (cap : Nat) (l : List UInt8) : Prop := Src w (.slice s l.length cap) l ∧ cap ≤ 9223372036854775807
set_option maxRecDepth 100000 in
theorem bytes_of {H : Type} {enc : TypeId × Value → H} {W : World} {base : Nat} {v : Value} {d : DataW H} {p : List MemPlace}
    (hv : Value.okWide Tryz.prog W .any base 25 v) (h : DataW.Trod enc Tryz.prog W 0 (fun _ => true) true 25 v d p) : ∃ s cap l, v = .slice s (List.length l) cap ∧ Byts W s cap l := by
  obtain ⟨a, len, cap, rfl⟩ := okWide_slice Tryz.underlying25 hv
  obtain ⟨_, hf⟩ := h
  rcases open_ints Tryz.underlying25 Tryz.underlying5 (by kernel_rfl) hf with ⟨hcs, hx⟩ | ⟨a', len', cap', zs, hcs, _, hl, hm, hz, hx, hcell, hwz⟩
  · simp [Value.cells] at hcs
    obtain ⟨rfl, rfl, rfl⟩ := hcs
    exact ⟨none, 0, [], rfl, ⟨none, 0, rfl, Nat.le_refl _, Or.inl rfl, fun _ => rfl⟩, by omega⟩
  · simp [Value.cells] at hcs
    obtain ⟨rfl, rfl, rfl⟩ := hcs
    simp only [if_true] at hz
    unfold maxLen at hm
    have hlen : ((zs.take len).map fun n => UInt8.ofNat n.toNat).length = len := by rw [List.length_map, List.length_take]; omega
    refine ⟨some a', cap, (zs.take len).map fun n => UInt8.ofNat n.toNat, by rw [hlen], ⟨_, _, rfl, by omega, ?_, fun h => by cases h⟩, by omega⟩
    by_cases h0 : len = 0
    · left; rw [h0]; rfl
    · right
      obtain ⟨b, off, rfl, hc⟩ := ints_at hcell (by omega)
      refine ⟨b, off, rfl, World.block_lt_of_cell? W _ (hc 0 (by omega)), fun j hj => ?_⟩
      rw [hlen] at hj
      rw [hc j (by omega)]
      have hb := range_u8 hwz j
      have e : zs.getD j 0 = zs[j]'(by omega) := by simp [List.getD, List.getElem?_eq_getElem (show j < zs.length by omega)]
      rw [e]
      rw [List.getD_eq_getElem?_getD] at e
      rw [e] at hb
      unfold bv
      simp only [List.getElem_map, List.getElem_take, UInt8.toNat_ofNat']
      congr 2
      omega
end Go.Proofs.YtjjamooihddkgaaGreat.Opn

/- Maps keyed by ints, known as the list of their entries in the order in which they came: what a look-up, a store of a new key, a delete and len do. Conditions: each theorem's own. -/
namespace Go.Proofs.YtjjamooihddkgaaGreat.Im
open Go.RowKit Hp
open Go.ChangeMaps (setBlock heap_setBlock_same heap_setBlock_other)
/-- Block b is a map whose entries are M. -/
def IMap (w : World) (b : Nat) (M : List (Nat × Value)) : Prop :=
  ∃ es clock, w.heap[b]? = some (.map es clock) ∧ es.toList.map (fun e => (e.key, e.val)) = M.map (fun p => (Value.int .i64 (p.1 : Int), p.2))
theorem IMap.heap {w w' : World} {b : Nat} {M : List (Nat × Value)} (h : IMap w b M) (e : w'.heap[b]? = w.heap[b]?) : IMap w' b M := by
  obtain ⟨es, c, h1, h2⟩ := h
  exact ⟨es, c, e.trans h1, h2⟩
theorem IMap.lt {w : World} {b : Nat} {M : List (Nat × Value)} (h : IMap w b M) : b < w.heap.size := by
  obtain ⟨es, c, h1, h2⟩ := h
  exact (Array.getElem?_eq_some_iff.1 h1).1
theorem IMap.kept {F : Nat → Prop} {w w' : World} {b : Nat} {M : List (Nat × Value)} (h : IMap w b M) (k : Kept F w w') (hF : ¬ F b) : IMap w' b M := h.heap (k.block b h.lt hF)
theorem IMap.new (w : World) : IMap (w.alloc (.map #[] 0)) w.heap.size [] := ⟨#[], 0, by simp only [World.alloc, Array.getElem?_push, if_pos], rfl⟩
theorem IMap.not_blk {w : World} {b : Nat} {M : List (Nat × Value)} {c : List Value} {T : TypeId} (h : IMap w b M) (h' : Blk w b c T) : False := by
  obtain ⟨es, c, h1, h2⟩ := h
  unfold Blk at h'
  rw [h1] at h'
  cases h'
theorem kept_setBlock {w : World} {b : Nat} {es : Array MapEntry} {c : Nat} (hb : w.heap[b]? = some (.map es c)) (o : Obj) : Kept (fun k => k = b) w (setBlock w b o) :=
  ⟨rfl, rfl, rfl, by simp [setBlock], fun _ _ hi => heap_setBlock_other hb o hi⟩
theorem find_miss (x : Nat) : ∀ (es : List MapEntry) (M : List (Nat × Value)), es.map (fun e => (e.key, e.val)) = M.map (fun p => (Value.int .i64 (p.1 : Int), p.2)) → (∀ p ∈ M, p.1 ≠ x) → ∀ i, Instr.findNow (.int .i64) (.int .i64 (x : Int)) es i = some none
  | [], [], _, _, _ => rfl
  | [], _ :: _, h, _, _ => by simp at h
  | _ :: _, [], h, _, _ => by simp at h
  | e :: es, p :: M, h, hx, i => by
    simp only [List.map_cons, List.cons.injEq, Prod.mk.injEq] at h
    obtain ⟨⟨h1, _⟩, h3⟩ := h
    have hp := hx p (by simp)
    have hne : ((x : Int) == (p.1 : Int)) = false := beq_false_of_ne (by omega)
    unfold Instr.findNow
    rw [h1]
    simp only [Instr.sameNow, if_true, hne]
    exact find_miss x es M h3 (fun q hq => hx q (by simp [hq])) (i + 1)
theorem find_hit (x : Nat) (v : Value) (B : List (Nat × Value)) : ∀ (es : List MapEntry) (A : List (Nat × Value)), es.map (fun e => (e.key, e.val)) = (A ++ (x, v) :: B).map (fun p => (Value.int .i64 (p.1 : Int), p.2)) → (∀ p ∈ A, p.1 ≠ x) →
    ∀ i, Instr.findNow (.int .i64) (.int .i64 (x : Int)) es i = some (some (i + A.length, v))
  | [], [], h, _, _ => by simp at h
  | [], _ :: _, h, _, _ => by simp at h
  | e :: es, [], h, _, i => by
    simp only [List.nil_append, List.map_cons, List.cons.injEq, Prod.mk.injEq] at h
    obtain ⟨⟨h1, h2⟩, _⟩ := h
    unfold Instr.findNow
    rw [h1]
    simp [Instr.sameNow, h2]
  | e :: es, p :: A, h, hx, i => by
    simp only [List.cons_append, List.map_cons, List.cons.injEq, Prod.mk.injEq] at h
    obtain ⟨⟨h1, _⟩, h3⟩ := h
    have hp := hx p (by simp)
    have hne : ((x : Int) == (p.1 : Int)) = false := beq_false_of_ne (by omega)
    unfold Instr.findNow
    rw [h1]
    simp only [Instr.sameNow, if_true, hne]
    rw [find_hit x v B es A h3 (fun q hq => hx q (by simp [hq])) (i + 1)]
    simp; omega
section
variable {P : Program} {t k e : TypeId} {w : World} {b : Nat} {M A B : List (Nat × Value)} {x : Nat} {v : Value}
theorem run_check (hk : P.underlying k = some (.int .i64)) (em : Bool) (w : World) : (Instr.checkKey em 10000 k (.int .i64 (x : Int))).run P w = .ok () w := MapKept.run_checkKey hk (by simp [MapKept.IsKey]) em 9999
theorem run_find_miss (hk : P.underlying k = some (.int .i64)) {es : List MapEntry} (h : es.map (fun e => (e.key, e.val)) = M.map (fun p => (Value.int .i64 (p.1 : Int), p.2))) (hx : ∀ p ∈ M, p.1 ≠ x) (w : World) :
    (Instr.findKey k (.int .i64 (x : Int)) es).run P w = .ok none w := by
  simp [Instr.findKey, run_underlying hk, find_miss x es M h hx, Result.andThen]
theorem run_find_hit (hk : P.underlying k = some (.int .i64)) {es : List MapEntry} (h : es.map (fun e => (e.key, e.val)) = (A ++ (x, v) :: B).map (fun p => (Value.int .i64 (p.1 : Int), p.2))) (hx : ∀ p ∈ A, p.1 ≠ x) (w : World) :
    (Instr.findKey k (.int .i64 (x : Int)) es).run P w = .ok (some (A.length, v)) w := by
  simp [Instr.findKey, run_underlying hk, find_hit x v B es A h hx, Result.andThen]
theorem IMap.look_hit (h : IMap w b (A ++ (x, v) :: B)) (ht : P.underlying t = some (.map k e)) (hk : P.underlying k = some (.int .i64)) (hx : ∀ p ∈ A, p.1 ≠ x) :
    (Instr.lookup t (.map (some b)) (.int .i64 (x : Int)) false).run P w = .ok v w := by
  obtain ⟨es, c, hb, h2⟩ := h
  simp [Instr.lookup, run_underlying ht, MapKept.run_getObj_map hb, run_check hk, run_find_hit hk h2 hx, Result.andThen]
theorem IMap.look_miss (h : IMap w b M) (ht : P.underlying t = some (.map k e)) (hk : P.underlying k = some (.int .i64)) (hx : ∀ p ∈ M, p.1 ≠ x) {z : Value} (hz : (zeroValue e).run P w = .ok z w) :
    (Instr.lookup t (.map (some b)) (.int .i64 (x : Int)) false).run P w = .ok z w := by
  obtain ⟨es, c, hb, h2⟩ := h
  simp [Instr.lookup, run_underlying ht, MapKept.run_getObj_map hb, run_check hk, run_find_miss hk h2 hx, hz, Result.andThen]
theorem IMap.len (h : IMap w b M) (ht : P.underlying t = some (.map k e)) (ty : TypeId) : (Builtin.len_ #[t] ty #[.map (some b)]).run P w = .ok (.int .i64 (M.length : Int)) w := by
  obtain ⟨es, c, hb, h2⟩ := h
  have e1 : es.size = M.length := by have := congrArg List.length h2; simpa using this
  simp [Builtin.len_, run_underlying ht, MapKept.run_getObj_map hb, goInt, Result.andThen, e1]
theorem IMap.put_new (h : IMap w b M) (ht : P.underlying t = some (.map k e)) (hk : P.underlying k = some (.int .i64)) (hx : ∀ p ∈ M, p.1 ≠ x) (v : Value) :
    ∃ w', (Instr.mapUpdate t (.map (some b)) (.int .i64 (x : Int)) v).run P w = .ok () w' ∧ IMap w' b (M ++ [(x, v)]) ∧ Kept (fun k => k = b) w w' := by
  obtain ⟨es, c, hb, h2⟩ := h
  refine ⟨setBlock w b (.map (es.push ⟨.int .i64 (x : Int), v, c⟩) (c + 1)), ?_, ⟨_, _, heap_setBlock_same hb _, by simp [h2]⟩, kept_setBlock hb _⟩
  simp [Instr.mapUpdate, run_underlying ht, MapKept.run_getObj_map hb, run_check hk, run_find_miss hk h2 hx, MapKept.run_setObj_map _ hb, Result.andThen, setBlock]
theorem IMap.del_hit (h : IMap w b (A ++ (x, v) :: B)) (ht : P.underlying t = some (.map k e)) (hk : P.underlying k = some (.int .i64)) (hx : ∀ p ∈ A, p.1 ≠ x) (ty : TypeId) :
    ∃ w', (Builtin.delete_ #[t, k] ty #[.map (some b), .int .i64 (x : Int)]).run P w = .ok (.tuple #[]) w' ∧ IMap w' b (A ++ B) ∧ Kept (fun k => k = b) w w' := by
  obtain ⟨es, c, hb, h2⟩ := h
  have hl : A.length < es.size := by have := congrArg List.length h2; simp at this; omega
  refine ⟨setBlock w b (.map (es.eraseIdxIfInBounds A.length) c), ?_, ⟨_, _, heap_setBlock_same hb _, ?_⟩, kept_setBlock hb _⟩
  · simp [Builtin.delete_, run_underlying ht, MapKept.run_getObj_map hb, run_check hk, run_find_hit hk h2 hx, MapKept.run_setObj_map _ hb, Result.andThen, setBlock]
  · have e1 : (es.eraseIdxIfInBounds A.length).toList = es.toList.eraseIdx A.length := by
      unfold Array.eraseIdxIfInBounds
      rw [dif_pos hl]; simp
    rw [e1, ChangeMaps.map_eraseIdx, h2, ← ChangeMaps.map_eraseIdx]
    congr 1
    rw [List.eraseIdx_append_of_length_le (Nat.le_refl _)]
    simp
end
section
variable {P : Program} {w : World} {ops : Array Oper} {rest : List Oper} {o : Oper} {a : Act} {Q : Exit → Act → World → Prop} {b : Nat} {M A B : List (Nat × Value)} {x : Nat} {v : Value}
theorem wp_put_new (hw : Region.wanted o (yielded ops a.tmps) = true) (m y u : Operand) (t : TypeId) (hop : o.op = Op.mapUpdate t m y u) (k e : TypeId) (ht : P.underlying t = some (.map k e)) (hk : P.underlying k = some (.int .i64))
    (h : IMap w b M) (hm : a.eval m = .map (some b)) (hy : a.eval y = .int .i64 (x : Int)) (hu : a.eval u = v) (hx : ∀ p ∈ M, p.1 ≠ x)
    (hK : ∀ w', IMap w' b (M ++ [(x, v)]) → Kept (fun k => k = b) w w' → wpList P ops Q rest (a.put o.dst undef) w') : wpList P ops Q (o :: rest) a w := by
  refine wpList_step fun K' hK' => ?_
  rw [if_pos hw]
  obtain ⟨w', hrun, r1, r2⟩ := h.put_new ht hk hx v
  unfold Oper.wp
  simp [execOp, hop, hm, hy, hu, hrun, Result.andThen]
  exact hK' _ _ (hK w' r1 r2)
theorem wp_del_hit (hw : Region.wanted o (yielded ops a.tmps) = true) (m y : Operand) (t k : TypeId) (hop : o.op = Op.call { callee := Callee.builtin Builtin.delete, args := #[m, y], argTypes := #[t, k] }) (e : TypeId) (ht : P.underlying t = some (.map k e)) (hk : P.underlying k = some (.int .i64))
    (h : IMap w b (A ++ (x, v) :: B)) (hm : a.eval m = .map (some b)) (hy : a.eval y = .int .i64 (x : Int)) (hx : ∀ p ∈ A, p.1 ≠ x)
    (hK : ∀ w', IMap w' b (A ++ B) → Kept (fun k => k = b) w w' → wpList P ops Q rest (a.put o.dst (.tuple #[])) w') : wpList P ops Q (o :: rest) a w := by
  refine wpList_step fun K' hK' => ?_
  rw [if_pos hw]
  obtain ⟨w', hrun, r1, r2⟩ := h.del_hit ht hk hx o.type
  unfold Oper.wp
  simp [execOp, hop, resolve, invoke, builtin, hm, hy, hrun, Result.andThen]
  exact hK' _ _ (hK w' r1 r2)
theorem wp_look_hit (hw : Region.wanted o (yielded ops a.tmps) = true) (m y : Operand) (t : TypeId) (hop : o.op = Op.lookup t m y false) (k e : TypeId) (ht : P.underlying t = some (.map k e)) (hk : P.underlying k = some (.int .i64))
    (h : IMap w b (A ++ (x, v) :: B)) (hm : a.eval m = .map (some b)) (hy : a.eval y = .int .i64 (x : Int)) (hx : ∀ p ∈ A, p.1 ≠ x)
    (hK : wpList P ops Q rest (a.put o.dst v) w) : wpList P ops Q (o :: rest) a w := by
  refine wpList_step fun K' hK' => ?_
  rw [if_pos hw]
  unfold Oper.wp
  simp [execOp, hop, hm, hy, h.look_hit ht hk hx, Result.andThen]
  exact hK' _ _ hK
theorem wp_len (hw : Region.wanted o (yielded ops a.tmps) = true) (m : Operand) (t : TypeId) (hop : o.op = Op.call { callee := Callee.builtin Builtin.len, args := #[m], argTypes := #[t] }) (k e : TypeId) (ht : P.underlying t = some (.map k e))
    (h : IMap w b M) (hm : a.eval m = .map (some b)) (hK : wpList P ops Q rest (a.put o.dst (.int .i64 (M.length : Int))) w) : wpList P ops Q (o :: rest) a w := by
  refine wpList_step fun K' hK' => ?_
  rw [if_pos hw]
  unfold Oper.wp
  simp [execOp, hop, resolve, invoke, builtin, hm, h.len ht o.type, Result.andThen]
  exact hK' _ _ hK
end
open Go.BigFrame in
/-- len in a region that only reads. -/
theorem quiet_len {P : Program} {w : World} {ops : Array Oper} {rest : List Oper} {o : Oper} {a : Act} {Q : Act → Prop} {b : Nat} {M : List (Nat × Value)} (m : Operand) (t : TypeId)
    (hop : o.op = Op.call { callee := Callee.builtin Builtin.len, args := #[m], argTypes := #[t] }) (k e : TypeId) (ht : P.underlying t = some (.map k e))
    (h : IMap w b M) (hw : Region.wanted o (yielded ops a.tmps) = true) (hm : a.eval m = .map (some b)) (hK : wpQuiet P ops (fun w' => ∃ n, w' = w.drewN n) Q rest (a.put o.dst (.int .i64 (M.length : Int)))) :
    wpQuiet P ops (fun w' => ∃ n, w' = w.drewN n) Q (o :: rest) a := by
  refine wpQuiet_want hw fun K hK' => ⟨.int .i64 (M.length : Int), fun w' hw' => ?_, hK' _ hK⟩
  obtain ⟨n, rfl⟩ := hw'
  have h' : IMap (w.drewN n) b M := h
  unfold Oper.quietAt
  simp [execOp, hop, resolve, invoke, builtin, hm, h'.len ht o.type, Result.andThen]
  exact ⟨rfl, rfl⟩
theorem find_missI (x : Int) : ∀ (es : List MapEntry) (M : List (Nat × Value)), es.map (fun e => (e.key, e.val)) = M.map (fun p => (Value.int .i64 (p.1 : Int), p.2)) → (∀ p ∈ M, (p.1 : Int) ≠ x) → ∀ i, Instr.findNow (.int .i64) (.int .i64 x) es i = some none
  | [], [], _, _, _ => rfl
  | [], _ :: _, h, _, _ => by simp at h
  | _ :: _, [], h, _, _ => by simp at h
  | e :: es, p :: M, h, hx, i => by
    simp only [List.map_cons, List.cons.injEq, Prod.mk.injEq] at h
    obtain ⟨⟨h1, _⟩, h3⟩ := h
    have hp := hx p (by simp)
    have hne : (x == (p.1 : Int)) = false := beq_false_of_ne (by omega)
    unfold Instr.findNow
    rw [h1]
    simp only [Instr.sameNow, if_true, hne]
    exact find_missI x es M h3 (fun q hq => hx q (by simp [hq])) (i + 1)
theorem IMap.look_missI {P : Program} {t k e : TypeId} {w : World} {b : Nat} {M : List (Nat × Value)} {x : Int} (h : IMap w b M) (ht : P.underlying t = some (.map k e)) (hk : P.underlying k = some (.int .i64)) (hx : ∀ p ∈ M, (p.1 : Int) ≠ x) {z : Value} (hz : (zeroValue e).run P w = .ok z w) :
    (Instr.lookup t (.map (some b)) (.int .i64 x) false).run P w = .ok z w := by
  obtain ⟨es, c, hb, h2⟩ := h
  have hc : (Instr.checkKey es.isEmpty 10000 k (.int .i64 x)).run P w = .ok () w := MapKept.run_checkKey hk (by simp [MapKept.IsKey]) _ 9999
  have hf : (Instr.findKey k (.int .i64 x) es.toList).run P w = .ok none w := by simp [Instr.findKey, run_underlying hk, find_missI x es.toList M h2 hx, Result.andThen]
  simp [Instr.lookup, run_underlying ht, MapKept.run_getObj_map hb, hc, hf, hz, Result.andThen]
theorem wp_look_miss {P : Program} {w : World} {ops : Array Oper} {rest : List Oper} {o : Oper} {a : Act} {Q : Exit → Act → World → Prop} {b : Nat} {M : List (Nat × Value)} {x : Int} {z : Value} (hw : Region.wanted o (yielded ops a.tmps) = true) (m y : Operand) (t : TypeId) (hop : o.op = Op.lookup t m y false) (k e : TypeId) (ht : P.underlying t = some (.map k e)) (hk : P.underlying k = some (.int .i64))
    (h : IMap w b M) (hm : a.eval m = .map (some b)) (hy : a.eval y = .int .i64 x) (hx : ∀ p ∈ M, (p.1 : Int) ≠ x) (hz : (zeroValue e).run P w = .ok z w)
    (hK : wpList P ops Q rest (a.put o.dst z) w) : wpList P ops Q (o :: rest) a w := by
  refine wpList_step fun K' hK' => ?_
  rw [if_pos hw]
  unfold Oper.wp
  simp [execOp, hop, hm, hy, h.look_missI ht hk hx hz, Result.andThen]
  exact hK' _ _ hK
end Go.Proofs.YtjjamooihddkgaaGreat.Im

/- Messages put together: how they lie in memory; New; a page of one. Conditions: each theorem's own. -/
namespace Go.Proofs.YtjjamooihddkgaaGreat.Rm
open Go.RowKit Go.Deep Hp IvM RmM
attribute [local go_sem ↓] Go.wp_at_zero Go.wp_at_succ
theorem row_blk {w : World} {base : Nat} {v : Value} {l : List Rg} (h : IvR.Row w base v l) {g : Nat} (hg : v.ownBlock = some g) : ∃ cur, Blk w g cur 196 := by
  rcases h.form with ⟨rfl, rfl⟩ | ⟨g', cap, cur, rfl, h1, h2⟩
  · cases hg
  · cases hg
    exact ⟨cur, h2.blk⟩
/-- Ranges within n have no more runs than n. -/
theorem len_size {n : Int} : ∀ {l : List Rg}, IvM.Good n l → (l.length : Int) ≤ size l
  | [], _ => by simp [size]
  | p :: l, h => by
    have h1 := h.each p (by simp)
    have h2 := len_size h.tail
    rw [List.length_cons, size]; omega
theorem good_few {n : Int} {l : List Rg} (h : IvM.Good n l) (h0 : 0 ≤ n) (hn : n ≤ 1000) : l.length ≤ 1000 := by
  have h1 := len_size h
  have h2 := size_le (x := 0) h (fun p hp => (h.each p hp).1) h0
  omega
/-- One that comes, but for its pages; F: what is its own. -/
structure Bare (w : World) (base : Nat) (F : Nat → Prop) (b n : Nat) (l : List Rg) (s m : Nat) (v : Value) : Prop where
  blk : Blk w b [.int .i64 (n : Int), .pointer (some ⟨s, 0, none⟩), .map (some m)] 157
  set : Iv.SetV w base s v (n : Int) l
  fb : F b
  fs : F s
  fm : F m
  fv : ∀ g, v.ownBlock = some g → F g
  own : ∀ k, F k → base ≤ k ∧ k < w.heap.size
  n0 : 1 ≤ n
  n1 : n ≤ 1000
/-- One whose page is there. -/
structure There (w : World) (base : Nat) (F : Nat → Prop) (b n : Nat) (l : List Rg) (D : List UInt8) (s m g : Nat) (v : Value) : Prop where
  bare : Bare w base F b n l s m v
  map : Im.IMap w m [(0, .slice (some ⟨g, 0, none⟩) n n)]
  page : Blk w g (Byt.bvs D) 5
  fg : F g
  len : D.length = n
/-- One of which nothing came yet. -/
structure Empty (w : World) (base : Nat) (F : Nat → Prop) (b n : Nat) (s m : Nat) (v : Value) : Prop where
  bare : Bare w base F b n [] s m v
  map : Im.IMap w m []
def BufV (w : World) (base : Nat) (F : Nat → Prop) (b n : Nat) (l : List Rg) (D : List UInt8) : Prop :=
  (∃ s m g v, There w base F b n l D s m g v) ∨ (∃ s m v, Empty w base F b n s m v ∧ l = [] ∧ D = List.replicate n 0)
theorem Bare.sep {w : World} {base : Nat} {F : Nat → Prop} {b n : Nat} {l : List Rg} {s m : Nat} {v : Value} (h : Bare w base F b n l s m v) {M : List (Nat × Value)} (hm : Im.IMap w m M) :
    b ≠ s ∧ v.ownBlock ≠ some b ∧ m ≠ s ∧ v.ownBlock ≠ some m ∧ b ≠ m := by
  refine ⟨fun e => ?_, fun e => ?_, fun e => ?_, fun e => ?_, fun e => ?_⟩
  · have h1 := h.blk; rw [e] at h1; exact absurd (h1.inj h.set.blk).2 (by decide)
  · obtain ⟨cur, h1⟩ := row_blk h.set.row e; exact absurd (h1.inj h.blk).2 (by decide)
  · rw [e] at hm; exact hm.not_blk h.set.blk
  · obtain ⟨cur, h1⟩ := row_blk h.set.row e; exact hm.not_blk h1
  · have h1 := h.blk; rw [e] at h1; exact hm.not_blk h1
theorem There.apart {w : World} {base : Nat} {F : Nat → Prop} {b n : Nat} {l : List Rg} {D : List UInt8} {s m g : Nat} {v : Value} (h : There w base F b n l D s m g v) :
    g ≠ b ∧ g ≠ s ∧ v.ownBlock ≠ some g ∧ g ≠ m := by
  refine ⟨fun e => ?_, fun e => ?_, fun e => ?_, fun e => ?_⟩
  · have h1 := h.page; rw [e] at h1; exact absurd (h1.inj h.bare.blk).2 (by decide)
  · have h1 := h.page; rw [e] at h1; exact absurd (h1.inj h.bare.set.blk).2 (by decide)
  · obtain ⟨cur, h1⟩ := row_blk h.bare.set.row e; exact absurd (h1.inj h.page).2 (by decide)
  · have h1 := h.page; rw [e] at h1; exact h.map.not_blk h1
theorem Bare.kept {w w' : World} {base : Nat} {F G : Nat → Prop} {b n : Nat} {l : List Rg} {s m : Nat} {v : Value} (h : Bare w base F b n l s m v) (k : Kept G w w') (hb : ¬ G b) (hs : ¬ G s) (hv : ∀ g, v.ownBlock = some g → ¬ G g) : Bare w' base F b n l s m v :=
  ⟨k.blk h.blk hb, h.set.kept k hs hv, h.fb, h.fs, h.fm, h.fv, fun i hi => ⟨(h.own i hi).1, Nat.lt_of_lt_of_le (h.own i hi).2 k.size⟩, h.n0, h.n1⟩
/-- What is its own, and what is new. -/
def More (F : Nat → Prop) (w w' : World) (k : Nat) : Prop := F k ∨ (w.heap.size ≤ k ∧ k < w'.heap.size)
theorem Bare.more {w' : World} {base : Nat} {F : Nat → Prop} {b n : Nat} {l : List Rg} {s m : Nat} {v : Value} (h : Bare w' base F b n l s m v) (w0 : World) (hb : base ≤ w0.heap.size) : Bare w' base (More F w0 w') b n l s m v :=
  ⟨h.blk, h.set, Or.inl h.fb, Or.inl h.fs, Or.inl h.fm, fun g hg => Or.inl (h.fv g hg), fun k hk => hk.elim (h.own k) (fun h => ⟨by omega, h.2⟩), h.n0, h.n1⟩
theorem There.more {w' : World} {base : Nat} {F : Nat → Prop} {b n : Nat} {l : List Rg} {D : List UInt8} {s m g : Nat} {v : Value} (h : There w' base F b n l D s m g v) (w0 : World) (hb : base ≤ w0.heap.size) : There w' base (More F w0 w') b n l D s m g v :=
  ⟨h.bare.more w0 hb, h.map, h.page, Or.inl h.fg, h.len⟩
theorem There.old {w w' : World} {base : Nat} {F : Nat → Prop} {b n : Nat} {l : List Rg} {D : List UInt8} {s m g : Nat} {v : Value} (h : There w base F b n l D s m g v) (k : Kept (fun _ => False) w w') : There w' base F b n l D s m g v :=
  ⟨h.bare.kept k (fun f => f) (fun f => f) (fun _ _ f => f), h.map.kept k (fun f => f), k.blk h.page (fun f => f), h.fg, h.len⟩
theorem Empty.old {w w' : World} {base : Nat} {F : Nat → Prop} {b n s m : Nat} {v : Value} (h : Empty w base F b n s m v) (k : Kept (fun _ => False) w w') : Empty w' base F b n s m v :=
  ⟨h.bare.kept k (fun f => f) (fun f => f) (fun _ _ f => f), h.map.kept k (fun f => f)⟩
/-- What else is written does not touch it. -/
theorem BufV.kept {w w' : World} {base : Nat} {F G : Nat → Prop} {b n : Nat} {l : List Rg} {D : List UInt8} (h : BufV w base F b n l D) (k : Kept G w w') (hG : ∀ i, F i → ¬ G i) : BufV w' base F b n l D := by
  rcases h with ⟨s, m, g, v, h⟩ | ⟨s, m, v, h, e⟩
  · exact Or.inl ⟨s, m, g, v, h.bare.kept k (hG _ h.bare.fb) (hG _ h.bare.fs) (fun i hi => hG _ (h.bare.fv i hi)), h.map.kept k (hG _ h.bare.fm), k.blk h.page (hG _ h.fg), h.fg, h.len⟩
  · exact Or.inr ⟨s, m, v, ⟨h.bare.kept k (hG _ h.bare.fb) (hG _ h.bare.fs) (fun i hi => hG _ (h.bare.fv i hi)), h.map.kept k (hG _ h.bare.fm)⟩, e⟩
theorem BufV.old {w w' : World} {base : Nat} {F : Nat → Prop} {b n : Nat} {l : List Rg} {D : List UInt8} (h : BufV w base F b n l D) (k : Kept (fun _ => False) w w') : BufV w' base F b n l D := h.kept k (fun _ _ f => f)
theorem BufV.bare {w : World} {base : Nat} {F : Nat → Prop} {b n : Nat} {l : List Rg} {D : List UInt8} (h : BufV w base F b n l D) : ∃ s m v, Bare w base F b n l s m v := by
  rcases h with ⟨s, m, g, v, h⟩ | ⟨s, m, v, h, e, _⟩
  · exact ⟨s, m, v, h.bare⟩
  · exact ⟨s, m, v, by rw [e]; exact h.bare⟩
theorem BufV.len {w : World} {base : Nat} {F : Nat → Prop} {b n : Nat} {l : List Rg} {D : List UInt8} (h : BufV w base F b n l D) : D.length = n := by
  rcases h with ⟨s, m, g, v, h⟩ | ⟨s, m, v, h, _, e⟩
  · exact h.len
  · rw [e, List.length_replicate]
/-- What New leaves: nothing came, all its memory is new. -/
def NewP (w : World) (n : Nat) (e : Ending) (w' : World) : Prop :=
  ∃ b F, e = .returned (.tuple #[.pointer (some ⟨b, 0, none⟩), .int .i64 0]) ∧ BufV w' w.heap.size F b n [] (List.replicate n 0) ∧ Kept (fun _ => False) w w'
set_option maxHeartbeats 2000000 in
theorem new_yes {n : Nat} {most : Int} (h0 : 1 ≤ n) (h1 : n ≤ 1000) (h2 : (n : Int) ≤ most) (h3 : most ≤ 1073741824) (w : World) : Calls Tryz.prog 85 #[.int .i64 n, .int .i64 most] w (NewP w n) := by
  have N := Lib.hid fun w => Iv.new_yes (n := (n : Int)) (by omega) (by omega) w
  have g1 : ¬ most < 0 := by omega
  have g2 : decide (1073741824 < most) = false := by rw [decide_eq_false_iff_not]; omega
  have g3 : ¬ most < (n : Int) := by omega
  have hmm := @run_makeMap Tryz.prog
  go_enter Tryz.func85, Tryz.ntmps85
  go_wp2_with fail
  with_reducible refine Calls.mono (N.out _) ?_
  rintro e w1 ⟨s, rfl, hS, hk⟩
  go_wp2_with fail
  go_ret2
  have hM : Im.IMap (w1.alloc (.map #[] 0)) w1.heap.size [] := Im.IMap.new w1
  have hB := Blk.new (w1.alloc (.map #[] 0)) [.int .i64 (n : Int), .pointer (some ⟨s, 0, none⟩), .map (some w1.heap.size)] 157
  have k2 : Kept (fun _ => False) w1 ((w1.alloc (.map #[] 0)).alloc (.cells [.int .i64 (n : Int), .pointer (some ⟨s, 0, none⟩), .map (some w1.heap.size)].toArray 157)) := ((Kept.refl _ w1).alloc _).alloc _
  have k3 := (Kept.refl (fun _ => False) (w1.alloc (.map #[] 0))).alloc (.cells [.int .i64 (n : Int), .pointer (some ⟨s, 0, none⟩), .map (some w1.heap.size)].toArray 157)
  rw [World.size_alloc] at hB
  have hs1 := hk.size
  refine ⟨_, fun k => w.heap.size ≤ k ∧ k < w1.heap.size + 2, rfl, Or.inr ⟨s, w1.heap.size, .slice none 0 0, ⟨⟨hB, hS.old k2, ?_, ?_, ?_, ?_, ?_, h0, h1⟩, hM.kept k3 (fun f => f)⟩, rfl, rfl⟩, hk.trans k2⟩
  · omega
  · exact ⟨hS.low, by have := hS.blk.lt; omega⟩
  · omega
  · intro g hg; cases hg
  · intro k hk; rw [World.size_alloc, World.size_alloc]; omega
theorem new_big {n most : Int} (h0 : 0 ≤ n) (h1 : n ≤ 1073741824) (h2 : 0 ≤ most) (h3 : most < n) (w : World) : Calls Tryz.prog 85 #[.int .i64 n, .int .i64 most] w fun e w' => e = .returned (.tuple #[.pointer none, .int .i64 3]) ∧ Kept (fun _ => False) w w' := by
  have N := Lib.hid fun w => Iv.new_yes (n := n) h0 h1 w
  have g1 : ¬ most < 0 := by omega
  have g2 : decide (1073741824 < most) = false := by rw [decide_eq_false_iff_not]; omega
  go_enter Tryz.func85, Tryz.ntmps85
  go_wp2_with fail
  with_reducible refine Calls.mono (N.out _) ?_
  rintro e w1 ⟨s, rfl, hS, hk⟩
  go_wp2_with fail
  go_ret2
  exact ⟨rfl, hk⟩
end Go.Proofs.YtjjamooihddkgaaGreat.Rm

/- Messages put together: a page. Conditions: each theorem's own. -/
namespace Go.Proofs.YtjjamooihddkgaaGreat.Rm
open Go.RowKit Go.Deep Hp IvM RmM
attribute [local go_sem ↓] Go.wp_at_zero Go.wp_at_succ
theorem at_zero {n off : Nat} (h0 : 1 ≤ n) (h1 : n ≤ 1000) (h : off < n) (w : World) : Calls Tryz.prog 136 #[.int .i64 n, .int .i64 1024, .int .i64 off] w fun e w' => e = .returned (.int .i64 0) ∧ Kept (fun _ => False) w w' := by
  have e : SgM.at' n 1024 off = 0 := by
    rw [SgM.at_yes ⟨by omega, by omega, by omega, by omega⟩ (by omega) (by omega)]
    omega
  have := Sg.at_any n 1024 off w
  rw [e] at this
  exact this
theorem piece_zero {n : Nat} (h0 : 1 ≤ n) (h1 : n ≤ 1000) (w : World) : Calls Tryz.prog 137 #[.int .i64 n, .int .i64 1024, .int .i64 0] w fun e w' => e = .returned (.tuple #[.agg #[.int .i64 0, .int .i64 n], .int .i64 0]) ∧ Kept (fun _ => False) w w' := by
  have hM : SgM.May n 1024 := ⟨by omega, by omega, by omega, by omega⟩
  have hc := SgM.cnt_pos hM
  have e : Sg.rv (SgM.pc n 1024 0) = .agg #[.int .i64 0, .int .i64 n] := by
    have : SgM.pc n 1024 0 = (0, (n : Int)) := by unfold SgM.pc; refine Prod.ext ?_ ?_ <;> simp <;> omega
    rw [this]; rfl
  have := Sg.Piece_yes (k := 0) hM (by omega) (by omega) w
  rw [e] at this
  exact this
open Go.BigFrame in
/-- A look-up in a region that only reads. -/
theorem quiet_look {P : Program} {w : World} {ops : Array Oper} {rest : List Oper} {o : Oper} {a : Act} {Q : Act → Prop} {b : Nat} {A B : List (Nat × Value)} {x : Nat} {v : Value} (m y : Operand) (t : TypeId)
    (hop : o.op = Op.lookup t m y false) (k e : TypeId) (ht : P.underlying t = some (.map k e)) (hk : P.underlying k = some (.int .i64))
    (h : Im.IMap w b (A ++ (x, v) :: B)) (hx : ∀ p ∈ A, p.1 ≠ x) (hw : Region.wanted o (yielded ops a.tmps) = true) (hm : a.eval m = .map (some b)) (hy : a.eval y = .int .i64 (x : Int)) (hK : wpQuiet P ops (fun w' => ∃ n, w' = w.drewN n) Q rest (a.put o.dst v)) :
    wpQuiet P ops (fun w' => ∃ n, w' = w.drewN n) Q (o :: rest) a := by
  refine wpQuiet_want hw fun K hK' => ⟨v, fun w' hw' => ?_, hK' _ hK⟩
  obtain ⟨n, rfl⟩ := hw'
  have h' : Im.IMap (w.drewN n) b (A ++ (x, v) :: B) := h
  unfold Oper.quietAt
  simp [execOp, hop, hm, hy, h'.look_hit ht hk hx, Result.andThen]
  exact ⟨rfl, rfl⟩
set_option maxHeartbeats 4000000 in
set_option maxRecDepth 100000 in
theorem page_is {w : World} {base : Nat} {F : Nat → Prop} {b n : Nat} {l : List Rg} {D : List UInt8} {s m g : Nat} {v : Value} (h : There w base F b n l D s m g v) {off : Nat} (ho : off < n) :
    Calls Tryz.prog 91 #[.pointer (some ⟨b, 0, none⟩), .int .i64 off] w fun e w' => e = .returned (.slice (some ⟨g, off, none⟩) (n - off) (n - off)) ∧ Kept (fun _ => False) w w' := by
  have AT := Lib.hid fun w => at_zero h.bare.n0 h.bare.n1 ho w
  have PC := Lib.hid fun w => piece_zero h.bare.n0 h.bare.n1 w
  have n1 := h.bare.n1
  have hb := h.bare.blk
  have c0 := hb.cell (o := 0) rfl
  go_enter Tryz.func91, Tryz.ntmps91
  go_wp2_with fail
  with_reducible refine Calls.mono (AT.out _) ?_
  rintro e w1 ⟨rfl, k1⟩
  have hb1 := k1.blk hb (fun f => f)
  have c0 := hb1.cell (o := 0) rfl
  go_wp2_with fail
  with_reducible refine Calls.mono (PC.out _) ?_
  rintro e w2 ⟨rfl, k2⟩
  have k02 := k1.trans k2
  have hR := Blk.new w2 [.int .i64 0, .int .i64 (n : Int)] 196
  have k03 := k02.alloc (.cells #[.int .i64 0, .int .i64 (n : Int)] 196)
  dsimp only [List.toArray] at hR
  go_upto_region 3 with fail
  have hnil := fun (w : World) => Lib.run_eql_slice_nil (P := Tryz.prog) w 25 5 (some ⟨g, 0, none⟩) n n 0 0 Tryz.underlying25
  have hb3 := k03.blk hb (fun f => f)
  have hm3 := h.map.kept k03 (fun f => f)
  have K03 := Lib.hid k03
  generalize w2.alloc (.cells #[.int .i64 0, .int .i64 (n : Int)] 196) = w3 at *
  generalize w2.heap.size = rb at *
  have HM := Lib.hid hm3
  have c2 := hb3.cell (o := 2) rfl
  have r0 := hR.cell (o := 0) rfl
  clear k1 k2 k02 k03 hb1 hb hm3 h AT PC
  go_upto_region 5 with (at_lookup; refine Im.wp_look_hit rfl (.tmp 26) (.tmp 27) 155 rfl 3 25 Tryz.underlying155 Tryz.underlying3 (A := []) (B := []) (x := 0) HM.out rfl rfl (by simp) ?_)
  have hne : ¬ (n = off) := by omega
  have hoz : (off : Int) ≤ (n : Int) := by omega
  refine wp_region_quiet_lit (by kernel_rfl) (by kernel_rfl) ?_
  repeat (go_big_quiet_step (fail))
  refine quiet_look (.tmp 44) (.tmp 45) 155 rfl 3 25 Tryz.underlying155 Tryz.underlying3 (A := []) (B := []) (x := 0) HM.out (by simp) (by rfl) rfl rfl ?_
  simp only [Act.put, List.setIfInBounds_toArray, List.set_cons_succ, List.set_cons_zero]
  repeat (go_big_quiet_step (fail))
  refine wpQuiet_nil ?_
  intro _ hw'
  obtain ⟨nq, hw''⟩ := hw'
  subst hw''
  go_wp2_with fail
  go_ret
  exact ⟨rfl, K03.out.drewN nq⟩
theorem zeroB (w : World) : (zeroValue 25).run Tryz.prog w = .ok (.slice none 0 0) w := by kernel_rfl
set_option maxHeartbeats 4000000 in
set_option maxRecDepth 100000 in
theorem page_new {w : World} {base : Nat} {F : Nat → Prop} {b n : Nat} {s m : Nat} {v : Value} (h : Empty w base F b n s m v) (hbase : base ≤ w.heap.size) {off : Nat} (ho : off < n) :
    Calls Tryz.prog 91 #[.pointer (some ⟨b, 0, none⟩), .int .i64 off] w fun e w' => ∃ g, e = .returned (.slice (some ⟨g, off, none⟩) (n - off) (n - off)) ∧ There w' base (More F w w') b n [] (List.replicate n 0) s m g v ∧ Kept F w w' ∧ w.heap.size ≤ g := by
  have AT := Lib.hid fun w => at_zero h.bare.n0 h.bare.n1 ho w
  have PC := Lib.hid fun w => piece_zero h.bare.n0 h.bare.n1 w
  have n1 := h.bare.n1
  have hb := h.bare.blk
  have c0 := hb.cell (o := 0) rfl
  go_enter Tryz.func91, Tryz.ntmps91
  go_wp2_with fail
  with_reducible refine Calls.mono (AT.out _) ?_
  rintro e w1 ⟨rfl, k1⟩
  have hb1 := k1.blk hb (fun f => f)
  have c0 := hb1.cell (o := 0) rfl
  go_wp2_with fail
  with_reducible refine Calls.mono (PC.out _) ?_
  rintro e w2 ⟨rfl, k2⟩
  have k02 := k1.trans k2
  have hR := Blk.new w2 [.int .i64 0, .int .i64 (n : Int)] 196
  have k03 := k02.alloc (.cells #[.int .i64 0, .int .i64 (n : Int)] 196)
  dsimp only [List.toArray] at hR
  go_upto_region 3 with fail
  have hnil := fun (w : World) => Lib.run_eql_slice_nil (P := Tryz.prog) w 25 5 none 0 0 0 0 Tryz.underlying25
  have hE3 := h.old k03
  have hrb : w.heap.size ≤ w2.heap.size := k02.size
  generalize w2.alloc (.cells #[.int .i64 0, .int .i64 (n : Int)] 196) = w3 at *
  generalize w2.heap.size = rb at *
  have HE := Lib.hid hE3
  have hb3 := hE3.bare.blk
  have c2 := hb3.cell (o := 2) rfl
  have r0 := hR.cell (o := 0) rfl
  have r1 := hR.cell (o := 1) rfl
  have K03 := Lib.hid k03
  clear k1 k2 k02 k03 hb1 hb h AT PC hE3
  go_upto_region 4 with (at_lookup; refine Im.wp_look_miss rfl (.tmp 26) (.tmp 27) 155 rfl 3 25 Tryz.underlying155 Tryz.underlying3 (x := 0) HE.out.map rfl rfl (by simp) (zeroB _) ?_)
  have hmk : ∃ Z : List Value, Z = Byt.bvs (List.replicate n 0) ∧ ∀ w : World, (Instr.makeSlice 25 (.int .i64 (n : Int)) (.int .i64 (n : Int))).run Tryz.prog w = .ok (.slice (some ⟨w.heap.size, 0, none⟩) n n) (w.alloc (.cells Z.toArray 5)) := by
    obtain ⟨ti, hti, hz0, hz1, hz2⟩ := info_parts Byt.infoB
    refine ⟨_, rfl, fun w => ?_⟩
    have := run_make (P := Tryz.prog) (w := w) 25 5 ti (.int .u8 0) Tryz.underlying25 hti hz0 .i64 .i64 (n : Int) (n : Int) (by omega) (by omega) (by rw [hz2]; omega) (by omega)
    rw [Int.toNat_natCast, hz1, Nat.mul_one] at this
    rw [this]
    have e : madeCells (Value.int .u8 0).cells n = (Byt.bvs (List.replicate n 0)).toArray := by
      apply Array.toList_inj.1
      have := toList_madeCells_one (.int .u8 0) n
      rw [show (Value.int .u8 0).cells = #[.int .u8 0] from rfl, this]
      simp [Byt.bvs, Byt.bv]
    rw [e]
  have hwn : IntKind.i64.wrap (n : Int) = (n : Int) := by rw [IntKind.wrap_i64]; omega
  obtain ⟨Z, hZ, hmk⟩ := hmk
  have hk4 : Kept (fun _ => False) w3 (w3.alloc (.cells Z.toArray 5)).drew := ((Kept.refl _ w3).alloc _).drew
  have hg4 : Blk (w3.alloc (.cells Z.toArray 5)).drew w3.heap.size Z 5 := (Blk.new w3 Z _).drew
  obtain ⟨w5, hrun, hM5, hk5⟩ := (HE.out.old hk4).map.put_new (P := Tryz.prog) (t := 155) (k := 3) (e := 25) (x := 0) Tryz.underlying155 Tryz.underlying3 (by simp) (.slice (some ⟨w3.heap.size, 0, none⟩) n n)
  have hrun : (Instr.mapUpdate 155 (.map (some m)) (.int .i64 0) (.slice (some ⟨w3.heap.size, 0, none⟩) n n)).run Tryz.prog (w3.alloc (.cells Z.toArray 5)).drew = .ok () w5 := hrun
  have HM5 := Lib.hid hM5
  have HK5 := Lib.hid hk5
  have HK4 := Lib.hid hk4
  have HG4 := Lib.hid hg4
  have hsep := HE.out.bare.sep HE.out.map
  have hrm : rb ≠ m := fun e => by have h1 := hR; rw [e] at h1; exact HE.out.map.not_blk h1
  have HK35 : Hid (Kept (fun k => k = m) w3 w5) := Lib.hid ((hk4.mono (fun _ _ f => f.elim)).trans hk5)
  have KS : Hid (∀ (w' : World), Kept (fun k => k = m) w3 w' → w'.cell? ⟨b, 2, none⟩ = some (.map (some m)) ∧ w'.cell? ⟨rb, 0, none⟩ = some (.int .i64 0) ∧ w'.cell? ⟨rb, 1, none⟩ = some (.int .i64 (n : Int))) :=
    fun w' k => ⟨(k.blk hb3 hsep.2.2.2.2).cell (o := 2) rfl, (k.blk hR hrm).cell (o := 0) rfl, (k.blk hR hrm).cell (o := 1) rfl⟩
  have E0 := Lib.hid (Kept.refl (fun k => k = m) w3)
  have HZ := Lib.hid hZ
  have HSEP := Lib.hid hsep
  clear hM5 hk5 hk4 hg4 hZ hsep hrm
  go_wp2_with fail
  go_region_held3 (fun w' => w'.cell? ⟨b, 2, none⟩ = some (.map (some m)) ∧ w'.cell? ⟨rb, 0, none⟩ = some (.int .i64 0) ∧ w'.cell? ⟨rb, 1, none⟩ = some (.int .i64 (n : Int))) ((refine KS.out _ ?_; first | exact HK35.out | (repeat (first | exact E0.out | (with_reducible refine Kept.drew ?_) | (with_reducible refine Kept.alloc ?_ _))))) (first | fail)
  have hne : ¬ (n = off) := by omega
  have hoz : (off : Int) ≤ (n : Int) := by omega
  obtain ⟨c2', r0', r1'⟩ := KS.out w5 HK35.out
  clear c2 r0 r1 hrun hmk hwn
  go_upto_region 5 with fail
  refine wp_region_quiet_lit (by kernel_rfl) (by kernel_rfl) ?_
  repeat (go_big_quiet_step (fail))
  refine quiet_look (.tmp 44) (.tmp 45) 155 rfl 3 25 Tryz.underlying155 Tryz.underlying3 (A := []) (B := []) (x := 0) HM5.out (by simp) (by rfl) rfl rfl ?_
  simp only [Act.put, List.setIfInBounds_toArray, List.set_cons_succ, List.set_cons_zero]
  repeat (go_big_quiet_step (fail))
  refine wpQuiet_nil ?_
  intro _ hw'
  obtain ⟨nq, hw''⟩ := hw'
  subst hw''
  go_wp2_with fail
  go_ret
  have k3 := K03.out
  have hz3 := k3.size
  have k5 := HK35.out
  have hB5 := HE.out.bare.kept k5 HSEP.out.2.2.2.2 (fun e => HSEP.out.2.2.1 e.symm) (fun i hi e => HSEP.out.2.2.2.1 (e ▸ hi))
  have hg5 : Blk w5 w3.heap.size Z 5 := HK5.out.blk HG4.out (fun e => by have := HE.out.map.lt; omega)
  have hlt5 := hg5.lt
  have hT : There w5 base (More F w w5) b n [] (List.replicate n 0) s m w3.heap.size v :=
    ⟨hB5.more w hbase, HM5.out, by rw [← HZ.out]; exact hg5, Or.inr ⟨hz3, hlt5⟩, List.length_replicate⟩
  refine ⟨w3.heap.size, rfl, ?_, ((k3.mono (fun _ _ f => f.elim)).trans' k5 (fun i hi e => e ▸ HE.out.bare.fm)).drewN nq, hz3⟩
  have hT2 := hT.old ((Kept.refl _ w5).drewN nq)
  exact hT2
end Go.Proofs.YtjjamooihddkgaaGreat.Rm

/- Messages put together: do bytes stand there? Conditions: each theorem's own. -/
namespace Go.Proofs.YtjjamooihddkgaaGreat.Rm
open Go.RowKit Go.Deep Hp IvM RmM
attribute [local go_sem ↓] Go.wp_at_zero Go.wp_at_succ
set_option maxHeartbeats 1000000 in
theorem eq_any {w : World} {v v2 : Value} {l l2 : List UInt8} (h : Byt.Src w v l) (h2 : Byt.Src w v2 l2) : Calls Tryz.prog 152 #[v, v2] w fun e w' => e = .returned (.bool (l == l2)) ∧ w = w' := by
  have s1 := Byt.run_str h
  have s2 := Byt.run_str h2
  clear h h2
  go_enter Tryz.func152, Tryz.ntmps152
  go_wp2_with fail
  go_ret
  exact ⟨rfl, rfl⟩
/-- Bytes of a page. -/
theorem page_src {w : World} {base : Nat} {F : Nat → Prop} {b n : Nat} {l : List Rg} {D : List UInt8} {s m g : Nat} {v : Value} (h : There w base F b n l D s m g v) {off k c : Nat} (hk : off + k ≤ n) (hc : k ≤ c) :
    Byt.Src w (.slice (some ⟨g, off, none⟩) k c) ((D.drop off).take k) := by
  have hl : ((D.drop off).take k).length = k := by rw [List.length_take, List.length_drop, h.len]; omega
  refine ⟨_, c, by rw [hl], by omega, Or.inr ⟨g, off, rfl, h.page.lt, fun j hj => ?_⟩, fun e => by cases e⟩
  rw [hl] at hj
  have hj2 : off + j < D.length := by rw [h.len]; omega
  rw [h.page.cell (Byt.bvs_at hj2)]
  congr 2
  simp
theorem min_len {k q : Nat} (h : k ≤ q) : (if k < q then (k : Int) else (q : Int)) = (k : Int) := by split <;> omega
set_option maxHeartbeats 4000000 in
set_option maxRecDepth 100000 in
theorem same_any {w : World} {base : Nat} {F : Nat → Prop} {b n : Nat} {l : List Rg} {D : List UInt8} {s m g : Nat} {v : Value} (h : There w base F b n l D s m g v) {a : Option Addr} {c off : Nat} {K : List UInt8} (hK : Byt.Src w (.slice a K.length c) K) (h0 : 0 < K.length) (ho : off + K.length ≤ n) :
    Calls Tryz.prog 128 #[.pointer (some ⟨b, 0, none⟩), .int .i64 off, .slice a K.length c] w fun e w' => e = .returned (.bool ((D.drop off).take K.length == K)) ∧ Kept (fun _ => False) w w' := by
  have n1 := h.bare.n1
  have PG := Lib.hid fun (w' : World) (k : Kept (fun _ => False) w w') => page_is (h.old k) (off := off) (by omega)
  have EQ := Lib.hid fun (w' : World) (k : Kept (fun _ => False) w w') => eq_any (page_src (h.old k) (c := n - off) ho (by omega)) (hK.kept k)
  have hkc : K.length ≤ c := by obtain ⟨_, _, e, hc, _⟩ := hK; cases e; exact hc
  have HA : Hid (∃ b2 o2, a = some ⟨b2, o2, none⟩) := Lib.hid (by
    obtain ⟨_, _, e, _, hs, _⟩ := hK
    cases e
    obtain ⟨b2, o2, e2, _⟩ := hs.resolve_left (fun e => by rw [e] at h0; simp at h0)
    exact ⟨b2, o2, e2⟩)
  generalize ((D.drop off).take K.length == K) = r at *
  generalize K.length = k at *
  obtain ⟨q, hq⟩ : ∃ q, n - off = q := ⟨_, rfl⟩
  rw [hq] at PG EQ
  have hqk : k ≤ q := by omega
  have hmn := min_len hqk
  have hof : off ≤ 1000 := by omega
  have hk1000 : k ≤ 1000 := by omega
  clear hq h hK
  go_enter Tryz.func128, Tryz.ntmps128
  go_wp2_with fail
  go_loopg [1, 2] 1 (fun mm s1 s2 wr => (Hid (mm = 1) ∧ s1 = .int .i64 off ∧ s2 = .slice a k c ∧ w = wr) ∨ (∃ (x : Int) (a2 : Option Addr) (c2 : Nat), Hid (mm = 0) ∧ s1 = .int .i64 x ∧ s2 = .slice a2 0 c2 ∧ r = true ∧ Kept (fun _ => False) w wr))
  case atStart => exact Or.inl ⟨rfl, rfl, rfl, rfl⟩
  case round =>
    rcases hrel with ⟨hm, rfl, rfl, rfl⟩ | ⟨x, a2, c2, hm, rfl, rfl, rfl, hk⟩
    · have hz : (0 : Int) < (k : Int) := by omega
      go_wp2_with fail
      with_reducible refine Calls.mono (PG.out _ (Kept.refl _ w)) ?_
      rintro e w1 ⟨rfl, k1⟩
      have EQ1 := Lib.hid fun (i : Nat) => EQ.out (w1.drewN i) (k1.drewN i)
      have hzk : (0 : Int) ≤ (k : Int) := by omega
      have hzq : (k : Int) ≤ (q : Int) := by omega
      have hzc : (k : Int) ≤ (c : Int) := by omega
      go_upto_region 4 with fail
      go_quiet ((go_at_call 152; exact Calls.quiet_of_same ((EQ1.out _).mono fun _ _ ⟨e1, e2⟩ => ⟨e1, e2.symm⟩)))
      cases r with
      | false =>
        go_wp2_with fail
        go_ret
        exact ⟨rfl, k1.drewN _⟩
      | true =>
        have k2 : Kept (fun _ => False) w (w1.drewN nq) := k1.drewN nq
        generalize w1.drewN nq = w2 at *
        have hkk : k - k = 0 := Nat.sub_self k
        have hw1 : IntKind.i64.wrap ((off : Int) + (k : Int)) = (off : Int) + (k : Int) := by rw [IntKind.wrap_i64]; omega
        clear k1 EQ1 hmn PG EQ
        by_cases hck : c = k
        · subst hck
          go_wp2_with fail
          go_quiet (fail)
          go_wp2_with fail
          go_roundg 0
          case measure => have := hm.out; omega
          case rel => exact Or.inr ⟨_, _, _, rfl, rfl, rfl, trivial, k2.drewN _⟩
        · obtain ⟨b2, o2, rfl⟩ : ∃ b2 o2, a = some ⟨b2, o2, none⟩ := HA.out
          go_wp2_with fail
          go_quiet (fail)
          go_wp2_with fail
          go_roundg 0
          case measure => have := hm.out; omega
          case rel => exact Or.inr ⟨_, some ⟨b2, o2 + k, none⟩, c - k, rfl, rfl, by simp, trivial, k2.drewN _⟩
    · go_wp2_with fail
      go_ret
      exact ⟨rfl, hk⟩
end Go.Proofs.YtjjamooihddkgaaGreat.Rm

