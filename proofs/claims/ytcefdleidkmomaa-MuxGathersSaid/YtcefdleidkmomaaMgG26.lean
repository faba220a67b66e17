/- Arguments that are slices of numbers, or of structs of numbers: opened, read, handed back. Conditions: each theorem's own. -/
import Derived.Test.YtcefdleidkmomaaMgG24
import Derived.OpenShut
import Derived.Carry
import Derived.Deep.Slices
import Derived.Deep.Fields
import Derived.Test.YtcefdleidkmomaaMgG25
import Derived.Deep.RegionHeld3
import Derived.Handy
set_option linter.unusedVariables false
set_option linter.unusedSimpArgs false
namespace Go.Proofs.Ytcefdleidkmomaa.Opn
open Go.ChangeShapes Go.WideShapes Go.RowKit Go.Deep Hp Go.Proofs.Ytcefdleidkmomaa.End
theorem keptCell {F : Nat → Prop} {w w' : World} (h : Kept F w w') {k : Nat} (hk : k < w.heap.size) (hF : ¬ F k) (o : Nat) : w'.cell? ⟨k, o, none⟩ = w.cell? ⟨k, o, none⟩ := by
  simp [World.cell?, h.block k hk hF]
/-- A slice of numbers that was there at the call. -/
def Ints (w : World) (s : Option Addr) (cap : Nat) (zs : List Int) : Prop :=
  zs.length ≤ cap ∧ (∀ n ∈ zs, (Lit.int .i64 n).wf = true) ∧ (zs = [] ∨ ∃ b off, s = some ⟨b, off, none⟩ ∧ b < w.heap.size ∧ ∀ j, j < zs.length → w.cell? ⟨b, off + j, none⟩ = some (.int .i64 (zs.getD j 0)))
theorem Ints.at {w w' : World} {s : Option Addr} {cap : Nat} {zs : List Int} (h : Ints w s cap zs) (k : Old w w') {j : Nat} (hj : j < zs.length) :
    ∃ b off, s = some ⟨b, off, none⟩ ∧ b < w.heap.size ∧ w'.cell? ⟨b, off + j, none⟩ = some (.int .i64 zs[j]) := by
  rcases h.2.2 with rfl | ⟨b, off, rfl, hb, hc⟩
  · simp at hj
  · refine ⟨b, off, rfl, hb, ?_⟩
    rw [keptCell k hb (fun h => h) (off + j), hc j hj]
    simp [List.getD, List.getElem?_eq_getElem hj]
theorem Ints.wf {w : World} {s : Option Addr} {cap : Nat} {zs : List Int} (h : Ints w s cap zs) {j : Nat} (hj : j < zs.length) : -9223372036854775808 ≤ zs[j] ∧ zs[j] ≤ 9223372036854775807 :=
  bounds_i64 (h.2.1 _ (List.getElem_mem hj))
/-- A slice of structs of m numbers that was there at the call. -/
def Structs (w : World) (s : Option Addr) (cap m : Nat) (zs : List (List Int)) : Prop :=
  zs.length ≤ cap ∧ (∀ r ∈ zs, r.length = m ∧ ∀ n ∈ r, (Lit.int .i64 n).wf = true) ∧
  (zs = [] ∨ ∃ b off, s = some ⟨b, off, none⟩ ∧ b < w.heap.size ∧ ∀ i, i < zs.length → ∀ j, j < m → w.cell? ⟨b, off + i * m + j, none⟩ = some (.int .i64 ((zs.getD i []).getD j 0)))
theorem Structs.cell {w w' : World} {s : Option Addr} {cap m : Nat} {zs : List (List Int)} (h : Structs w s cap m zs) (k : Old w w') {i j : Nat} (hi : i < zs.length) (hj : j < m) :
    ∃ b off, s = some ⟨b, off, none⟩ ∧ b < w.heap.size ∧ w'.cell? ⟨b, off + i * m + j, none⟩ = some (.int .i64 ((zs.getD i []).getD j 0)) := by
  rcases h.2.2 with rfl | ⟨b, off, rfl, hb, hc⟩
  · simp at hi
  · exact ⟨b, off, rfl, hb, by rw [keptCell k hb (fun h => h), hc i hi j hj]⟩
theorem Structs.wf {w : World} {s : Option Addr} {cap m : Nat} {zs : List (List Int)} (h : Structs w s cap m zs) {i j : Nat} (hi : i < zs.length) (hj : j < m) :
    -9223372036854775808 ≤ (zs.getD i []).getD j 0 ∧ (zs.getD i []).getD j 0 ≤ 9223372036854775807 := by
  have e : zs.getD i [] = zs[i] := by simp [List.getD, List.getElem?_eq_getElem hi]
  obtain ⟨hl, hn⟩ := h.2.1 zs[i] (List.getElem_mem hi)
  have hj' : j < zs[i].length := by omega
  have e2 : zs[i].getD j 0 = zs[i][j] := by simp [List.getD, List.getElem?_eq_getElem hj']
  rw [e, e2]
  exact bounds_i64 (hn _ (List.getElem_mem hj'))
theorem laidOut : laidOutB Try.prog = true := by kernel_rfl
theorem back {H : Type} {enc : TypeId × Value → H} {W W' : World} {t : TypeId} {v : Value} {d : DataW H} {p : List MemPlace} {sp : Nat → Bool} (h1 : Try.prog.readableRec t = true) (h2 : t < Try.prog.types.size)
    (h : DataW.Trod enc Try.prog W 0 (fun _ => true) true t v d p)
    (hb : Old W W') (hlt : ∀ x ∈ p, x.block < W.heap.size) (hs : ∀ x ∈ p, sp x.block = true) : DataW.Trod enc Try.prog W' 0 sp true t v d p :=
  WideElems.Trod_stays laidOut h1 h2 h (fun x hx => hb.below.same (hlt x hx)) (fun x hx => hs x hx)
set_option maxRecDepth 100000 in
theorem ints_of {H : Type} {enc : TypeId × Value → H} {W : World} {base : Nat} {t e : TypeId} {v : Value} {d : DataW H} {p : List MemPlace} (ht : Try.prog.underlying t = some (.slice e)) (he : Try.prog.underlying e = some (.int .i64)) (hC : Try.prog.cellsOf e = 1)
    (hv : Value.okWide Try.prog W .any base t v) (h : DataW.Trod enc Try.prog W 0 (fun _ => true) true t v d p) : ∃ s cap zs, v = .slice s (List.length zs) cap ∧ Ints W s cap zs := by
  obtain ⟨a, len, cap, rfl⟩ := okWide_slice ht hv
  obtain ⟨_, hf⟩ := h
  rcases open_ints ht he hC hf with ⟨hcs, hx⟩ | ⟨a', len', cap', zs, hcs, _, hl, hm, hz, hx, hcell, hwz⟩
  · simp [Value.cells] at hcs
    obtain ⟨rfl, rfl, rfl⟩ := hcs
    exact ⟨none, 0, [], rfl, Nat.le_refl _, by simp, Or.inl rfl⟩
  · simp [Value.cells] at hcs
    obtain ⟨rfl, rfl, rfl⟩ := hcs
    simp only [if_true] at hz
    have hlen : (zs.take len).length = len := by rw [List.length_take]; omega
    refine ⟨some a', cap, zs.take len, by rw [hlen], by omega, fun n hn => hwz n (List.mem_of_mem_take hn), ?_⟩
    by_cases h0 : len = 0
    · left; rw [h0]; rfl
    · right
      obtain ⟨b, off, rfl, hc⟩ := ints_at hcell (by omega)
      refine ⟨b, off, rfl, ?_, fun j hj => ?_⟩
      · exact World.block_lt_of_cell? W _ (hc 0 (by omega))
      · rw [hc j (by omega)]
        have : j < len := by omega
        simp [List.getD, this]
/-- The cells of one struct of numbers are numbers. -/
theorem struct_ints {H : Type} {enc : TypeId × Value → H} {W : World} {base fuel : Nat} {sp : Nat → Bool} {held : Bool} {e : TypeId} {fs : Array Field} {cs : List Value} {x : DataW H × List MemPlace} (he : Try.prog.underlying e = some (.struct fs)) (hone : oneCellFields Try.prog fs = true) (hC : Try.prog.cellsOf e = fs.size)
    (hint : ∀ (j : Nat) (f : Field), fs[j]? = some f → Try.prog.underlying f.type = some (.int .i64)) (h : DataW.trod enc Try.prog W base sp held fuel e cs = some x) :
    ∃ r : List Int, r.length = fs.size ∧ (∀ n ∈ r, (Lit.int .i64 n).wf = true) ∧ ∀ j, j < fs.size → cs[j]? = some (.int .i64 (r.getD j 0)) := by
  obtain ⟨ys, n', _, _, hlen, hyl, hf⟩ := DataW.trod_struct he h
  have each : ∀ j, j < fs.size → ∃ n : Int, cs[j]? = some (.int .i64 n) ∧ (Lit.int .i64 n).wf = true := by
    intro j hj
    have hfj : fs[j]? = some fs[j] := Array.getElem?_eq_getElem hj
    obtain ⟨ho, hk⟩ := hone_of hone j _ hfj
    have h1 := hf j _ hfj
    rw [ho, hk, List.getElem?_eq_getElem (show j < ys.length by omega)] at h1
    obtain ⟨n, e1, _, e3⟩ := DataW.trod_int (hint j _ hfj) h1
    refine ⟨n, ?_, e3⟩
    have := congrArg (fun l : List Value => l[0]?) e1
    simpa [List.getElem?_take, List.getElem?_drop] using this
  refine ⟨(List.range fs.size).map fun j => intOf (cs.getD j (.bool false)), by simp, ?_, ?_⟩
  · intro n hn
    obtain ⟨j, hj, rfl⟩ := List.mem_map.1 hn
    obtain ⟨m, e1, e2⟩ := each j (List.mem_range.1 hj)
    simpa [List.getD, e1, intOf] using e2
  · intro j hj
    obtain ⟨m, e1, e2⟩ := each j hj
    rw [e1]
    simp [List.getD, hj, e1, intOf]
set_option maxRecDepth 100000 in
theorem structs_of {H : Type} {enc : TypeId × Value → H} {W : World} {base : Nat} {t e : TypeId} {fs : Array Field} {v : Value} {d : DataW H} {p : List MemPlace} (ht : Try.prog.underlying t = some (.slice e)) (he : Try.prog.underlying e = some (.struct fs)) (hone : oneCellFields Try.prog fs = true) (hC : Try.prog.cellsOf e = fs.size) (h0 : 0 < fs.size)
    (hint : ∀ (j : Nat) (f : Field), fs[j]? = some f → Try.prog.underlying f.type = some (.int .i64))
    (hv : Value.okWide Try.prog W .any base t v) (h : DataW.Trod enc Try.prog W 0 (fun _ => true) true t v d p) : ∃ s cap zs, v = .slice s (List.length zs) cap ∧ Structs W s cap fs.size zs := by
  obtain ⟨a, len, cap, rfl⟩ := okWide_slice ht hv
  obtain ⟨_, hf⟩ := h
  rcases open_slice ht hf with ⟨hcs, hx⟩ | ⟨a', len', cap', m, n, D, Pl, hcs, _, hl, _, hm, _, hi⟩
  · simp [Value.cells] at hcs
    obtain ⟨rfl, rfl, rfl⟩ := hcs
    exact ⟨none, 0, [], rfl, Nat.le_refl _, by simp, Or.inl rfl⟩
  · simp [Value.cells] at hcs
    obtain ⟨rfl, rfl, rfl⟩ := hcs
    simp only [if_true] at hm
    have each : ∀ i, i < len → ∃ r : List Int, r.length = fs.size ∧ (∀ n ∈ r, (Lit.int .i64 n).wf = true) ∧ ∀ j, j < fs.size → W.cell? ((a'.add (i * fs.size)).add j) = some (.int .i64 (r.getD j 0)) := by
      intro i hil
      obtain ⟨cs', hc, ht'⟩ := hi i (by omega)
      rw [hC] at hc
      obtain ⟨_, hcl, hat⟩ := World.cells?_some hc
      obtain ⟨r, r1, r2, r3⟩ := struct_ints he hone hC hint ht'
      exact ⟨r, r1, r2, fun j hj => by rw [hat j hj, r3 j hj]⟩
    have ex : ∃ Z : Nat → List Int, ∀ i, i < len → (Z i).length = fs.size ∧ (∀ n ∈ Z i, (Lit.int .i64 n).wf = true) ∧ ∀ j, j < fs.size → W.cell? ((a'.add (i * fs.size)).add j) = some (.int .i64 ((Z i).getD j 0)) := by
      classical
      exact ⟨fun i => if h : i < len then (each i h).choose else [], fun i h => by simp only [dif_pos h]; exact (each i h).choose_spec⟩
    obtain ⟨Z, hZ⟩ := ex
    have hlen : ((List.range len).map Z).length = len := by simp
    have hget : ∀ i, i < len → ((List.range len).map Z).getD i [] = Z i := fun i hi => by simp [List.getD, hi]
    refine ⟨some a', cap, (List.range len).map Z, by rw [hlen], by omega, ?_, ?_⟩
    · intro r hr
      obtain ⟨i, hi, rfl⟩ := List.mem_map.1 hr
      have := hZ i (List.mem_range.1 hi)
      exact ⟨this.1, this.2.1⟩
    · by_cases hz : len = 0
      · left; rw [hz]; rfl
      · right
        have hp : 0 < len := by omega
        have first : ∀ j, j < [(Z 0).getD 0 0].length → W.cell? (a'.add j) = some (.int .i64 ([(Z 0).getD 0 0].getD j 0)) := fun j hj => by
          obtain rfl : j = 0 := by simp at hj; omega
          have := (hZ 0 hp).2.2 0 h0
          simpa [Addr.add] using this
        obtain ⟨b, off, rfl, hc⟩ := ints_at first (by simp)
        refine ⟨b, off, rfl, World.block_lt_of_cell? W _ (hc 0 (by simp)), fun i hi j hj => ?_⟩
        rw [hlen] at hi
        rw [hget i hi]
        have := (hZ i hi).2.2 j hj
        rw [Go.WideShapes.add_plain, Go.WideShapes.add_plain] at this
        exact this
end Go.Proofs.Ytcefdleidkmomaa.Opn

/- MuxGathers' comparison: both answers are what the lists say. Conditions: each theorem's own. -/
namespace Go.Proofs.Ytcefdleidkmomaa.Mx
open Go.Conc Go.Conc.Lib Br Go.RowKit Hp Rw Ro So
noncomputable def lwB : Code := Try.f3.body.getD .skip
def lwR : Code → Code
  | .seq _ (.seq _ (.seq _ (.seq _ r))) => r
  | c => c
/-- The law's slots behind Fan. -/
inductive FL (xb T ca cb : Nat) (oa ob : Option Addr) : Array Value → Prop
  | mk (u0 u5 u6 u7 u8 u9 u10 u11 u12 u13 u14 u15 u16 u17 u18 u19 u20 u21 u22 u23 u24 u25 u26 u27 u28 u29 u30 u31 u32 u33 u34 u35 u36 u37 u38 u39 u40 u41 u42 u43 u44 u45 u46 u47 u48 u49 u50 u51 u52 u53 u54 u55 u56 u57 u58 u59 u60 u61 u62 u63 u64 u65 u66 u67 u68 u69 u70 u71 u72 u73 u74 u75 u76 u77 u78 u79 u80 u81 u82 u83 u84 u85 u86 u87 u88 u89 u90 u91 u92 u93 u94 u95 u96 u97 u98 u99 u100 u101 : Value) : FL xb T ca cb oa ob #[u0, .pointer (some ⟨xb, 0, none⟩), .bool false, .slice oa T ca, .slice ob T cb, u5, u6, u7, u8, u9, u10, u11, u12, u13, u14, u15, u16, u17, u18, u19, u20, u21, u22, u23, u24, u25, u26, u27, u28, u29, u30, u31, u32, u33, u34, u35, u36, u37, u38, u39, u40, u41, u42, u43, u44, u45, u46, u47, u48, u49, u50, u51, u52, u53, u54, u55, u56, u57, u58, u59, u60, u61, u62, u63, u64, u65, u66, u67, u68, u69, u70, u71, u72, u73, u74, u75, u76, u77, u78, u79, u80, u81, u82, u83, u84, u85, u86, u87, u88, u89, u90, u91, u92, u93, u94, u95, u96, u97, u98, u99, u100, u101]
theorem lw_ok : okCut Try.prog [] 8 (lwR lwB) = true := by kernel_rfl
/-- The first place of list i. -/
def offN (vals : Nat → List Int) : Nat → Nat
  | 0 => 0
  | i + 1 => offN vals i + (vals i).length
/-- What the walk sees: the box, the lists, both answers. -/
structure Seen (v : World) (xb n cl T ca cb : Nat) (s oa ob : Option Addr) (vals : Nat → List Int) : Prop where
  n5 : n ≤ 500
  T9 : T ≤ 250000
  l5 : ∀ i, (vals i).length ≤ 500
  box : Blk v xb [.slice s n cl] 22
  tot : offN vals n = T
  row : ∀ i, i < n → ∃ lb lo g c, s = some ⟨lb, lo, none⟩ ∧ v.cell? ⟨lb, lo + i, none⟩ = some (.slice g (vals i).length c) ∧ ∀ k x, (vals i)[k]? = some x → ∃ b o, g = some ⟨b, o, none⟩ ∧ v.cell? ⟨b, o + k, none⟩ = some (.int .i64 x)
  ans : ∀ i k x, i < n → (vals i)[k]? = some x → ∃ ga gb, oa = some ⟨ga, 0, none⟩ ∧ ob = some ⟨gb, 0, none⟩ ∧
    v.cell? ⟨ga, (offN vals i + k) * 3, none⟩ = some (.int .i64 (i : Nat)) ∧ v.cell? ⟨ga, (offN vals i + k) * 3 + 1, none⟩ = some (.int .i64 (k : Nat)) ∧ v.cell? ⟨ga, (offN vals i + k) * 3 + 2, none⟩ = some (.int .i64 x) ∧
    v.cell? ⟨gb, (offN vals i + k) * 3, none⟩ = some (.int .i64 (i : Nat)) ∧ v.cell? ⟨gb, (offN vals i + k) * 3 + 1, none⟩ = some (.int .i64 (k : Nat)) ∧ v.cell? ⟨gb, (offN vals i + k) * 3 + 2, none⟩ = some (.int .i64 x)
theorem offN_mono (vals : Nat → List Int) : ∀ {i n : Nat}, i ≤ n → offN vals i ≤ offN vals n := by
  intro i n h
  induction n with
  | zero => obtain rfl : i = 0 := by omega
            exact Nat.le_refl _
  | succ n ih =>
    rcases Nat.lt_or_ge i (n + 1) with h1 | h1
    · exact Nat.le_trans (ih (by omega)) (Nat.le_add_right _ _)
    · obtain rfl : i = n + 1 := by omega
      exact Nat.le_refl _
/-- What the law's walk leaves behind: at its return, or at its gate. -/
def RL (v : World) (t : Array Value) (v' : World) : Prop := t.size = 102 ∧ t.getD 2 undef = .bool true ∧ t.getD 99 undef = .bool true ∧ t.getD 100 undef = .bool true ∧ v'.heap = v.heap
section
variable {v : World} {xb n cl T ca cb : Nat} {s oa ob : Option Addr} {vals : Nat → List Int}
set_option maxRecDepth 100000 in
set_option maxHeartbeats 16000000 in
theorem loops_wp (hS : Seen v xb n cl T ca cb s oa ob vals) {t : Array Value} (ht : FL xb T ca cb oa ob t) {c : Code} (hc : lwR lwB = c) :
    (cutCode 8 c).wp Try.prog (fun e a' w' => (e = .ret ∨ e = .normal) ∧ RL v a'.tmps w') ⟨t, []⟩ v := by
  obtain ⟨u0, u5, u6, u7, u8, u9, u10, u11, u12, u13, u14, u15, u16, u17, u18, u19, u20, u21, u22, u23, u24, u25, u26, u27, u28, u29, u30, u31, u32, u33, u34, u35, u36, u37, u38, u39, u40, u41, u42, u43, u44, u45, u46, u47, u48, u49, u50, u51, u52, u53, u54, u55, u56, u57, u58, u59, u60, u61, u62, u63, u64, u65, u66, u67, u68, u69, u70, u71, u72, u73, u74, u75, u76, u77, u78, u79, u80, u81, u82, u83, u84, u85, u86, u87, u88, u89, u90, u91, u92, u93, u94, u95, u96, u97, u98, u99, u100, u101⟩ := ht
  conv at hc => lhs; whnf
  subst hc
  have HS := Lib.hid hS
  have hn5 := hS.n5
  have hT9 := hS.T9
  have hbx := hS.box.cell (o := 0) rfl
  have hfz := hS.box.frozen 0
  clear hS
  simp only [cutCode, gateOf, callsF, List.findIdx?, List.findIdx?.go, cutOps, Nat.reduceBEq, beq_self_eq_true, ↓reduceIte, Bool.false_eq_true, Nat.reduceAdd]
  simp only [List.take_succ_cons, List.take_zero, List.drop_succ_cons, List.drop_zero, List.map_cons, List.map_nil, List.nil_append, List.cons_append, idle]
  go_wp2_with fail
  go_loopg [5, 6] (n + 1) (fun kx s5 s6 wr => ∃ (i : Nat), Hid (n - i ≤ kx) ∧ i ≤ n ∧ s5 = .int .i64 (offN vals i : Nat) ∧ s6 = .int .i64 (i : Nat) ∧ wr.heap = v.heap)
  case atStart => exact ⟨0, Lib.hid (by omega), by omega, rfl, rfl, rfl⟩
  case round =>
    obtain ⟨i, hm, hi, rfl, rfl, hw⟩ := hrel
    have hbx' : wr.cell? ⟨xb, 0, none⟩ = some (.slice s n cl) := by rw [cell_eq hw]; exact hbx
    rcases Nat.lt_or_ge i n with hlt | hge
    · obtain ⟨lb, lo, g, c, rfl, hrow, hcells⟩ := HS.out.row i hlt
      have hrow' : wr.cell? ⟨lb, lo + i, none⟩ = some (.slice g (vals i).length c) := by rw [cell_eq hw]; exact hrow
      obtain ⟨m, hm9⟩ : ∃ m, (vals i).length = m := ⟨_, rfl⟩
      rw [hm9] at hrow'
      have hm5 : m ≤ 500 := by have := HS.out.l5 i; omega
      have HM := Lib.hid hm9
      have HC := Lib.hid hcells
      have HRW : Hid (v.cell? ⟨lb, lo + i, none⟩ = some (.slice g m c)) := Lib.hid (by rw [← hm9]; exact hrow)
      have hoT : offN vals i + m ≤ T := by
        have := offN_mono vals (i := i + 1) (n := n) (by omega)
        have e : offN vals (i + 1) = offN vals i + (vals i).length := rfl
        rw [HS.out.tot] at this
        omega
      obtain ⟨of, hof⟩ : ∃ of, offN vals i = of := ⟨_, rfl⟩
      rw [hof] at hoT ⊢
      have HO := Lib.hid hof
      clear hm9 hcells hrow hof
      go_wp2_with fail
      go_loopg [5, 7] (m + 1) (fun kx s5 s7 wq => ∃ (k : Nat), Hid (m - k ≤ kx) ∧ k ≤ m ∧ s5 = .int .i64 (of + k : Nat) ∧ s7 = .int .i64 (k : Nat) ∧ wq.heap = v.heap)
      case atStart => exact ⟨0, Lib.hid (by omega), by omega, rfl, rfl, hw⟩
      case round =>
        obtain ⟨k, hmk, hk, rfl, rfl, hwq⟩ := hrel
        have hcel : ∀ a u, v.cell? a = some u → wr.cell? a = some u := fun a u h => by rw [cell_eq hwq]; exact h
        have hbx2 := hcel _ _ hbx
        have hrow2 := hcel _ _ HRW.out
        clear hbx' hrow' hw
        rcases Nat.lt_or_ge k m with hkm | hkm
        · obtain ⟨x, hx⟩ : ∃ x, (vals i)[k]? = some x := ⟨_, List.getElem?_eq_getElem (by rw [HM.out]; exact hkm)⟩
          obtain ⟨lb2, o2, rfl, hcb⟩ := HC.out k x hx
          obtain ⟨ga, gb, rfl, rfl, a0, a1, a2, b0, b1, b2⟩ := HS.out.ans i k x hlt hx
          rw [HO.out] at a0 a1 a2 b0 b1 b2
          have hcb' := hcel _ _ hcb
          have a0' := hcel _ _ a0
          have a1' := hcel _ _ a1
          have a2' := hcel _ _ a2
          have b0' := hcel _ _ b0
          have b1' := hcel _ _ b1
          have b2' := hcel _ _ b2
          have hat : of + k < T := by omega
          have g1 : decide ((T : Int) ≤ (of : Int) + (k : Int)) = false := decide_eq_false (by omega)
          clear hcel hx hcb a0 a1 a2 b0 b1 b2
          go_wp2_with fail
          go_quiet (fail)
          go_wp2_with fail
          go_roundg (m - (k + 1))
          case measure => have := hmk.out; omega
          case rel => exact ⟨k + 1, Lib.hid (Nat.le_refl _), by omega, by go_num, by go_num, hwq⟩
        · obtain rfl : m = k := by omega
          clear hkm hk
          go_wp2_with fail
          have eof : offN vals (i + 1) = of + m := by rw [← HO.out, ← HM.out]; rfl
          go_roundg (n - (i + 1))
          case measure => have := hm.out; omega
          case rel => exact ⟨i + 1, Lib.hid (Nat.le_refl _), by omega, by rw [eof], by go_num, hwq⟩
    · obtain rfl : n = i := by omega
      have eT : offN vals n = T := HS.out.tot
      rw [eT]
      clear hge hi
      go_wp2_with fail
      exact ⟨rfl, rfl, rfl, rfl, hw⟩
end
end Go.Proofs.Ytcefdleidkmomaa.Mx

/- total: how many numbers, or more than 500. Conditions: each theorem's own. -/
namespace Go.Proofs.Ytcefdleidkmomaa.Mx
open Go.Conc Go.Conc.Lib Br Go.RowKit Hp Rw Ro So
/-- What Sum tells of a number, a length and one more. -/
def SumR (a b : Nat) (r : Int) : Prop := (a + b + 1 ≤ 500 ∧ r = ((a + b + 1 : Nat) : Int)) ∨ (500 < a + b + 1 ∧ 500 < r ∧ r ≤ 1099511627776)
set_option maxRecDepth 100000 in
set_option maxHeartbeats 4000000 in
theorem sum_ok {w : World} {a b g : Nat} (ha : a ≤ 500) (hb : b ≤ 9223372036854775807) (hB : Blk w g [.int .i64 (b : Nat), .int .i64 1] 3) :
    Calls Try.prog 22 #[.int .i64 (a : Nat), .slice (some ⟨g, 0, none⟩) 2 2] w fun e w' => ∃ r, e = .returned (.int .i64 r) ∧ SumR a b r ∧ w' = w := by
  go_enter Try.func22, Try.ntmps22
  have c0 := hB.cell (o := 0) rfl
  have c1 := hB.cell (o := 1) rfl
  clear hB
  go_wp2_with fail
  go_loopg [0, 5] 3 (fun kx s0 s5 wr => wr = w ∧ ((kx = 3 ∧ s0 = .int .i64 (a : Nat) ∧ s5 = .int .i64 0) ∨ (kx = 2 ∧ a + b ≤ 1099511627776 ∧ s0 = .int .i64 (a + b : Nat) ∧ s5 = .int .i64 1) ∨ (kx = 1 ∧ a + b + 1 ≤ 1099511627776 ∧ s0 = .int .i64 (a + b + 1 : Nat) ∧ s5 = .int .i64 2)))
  case atStart => exact ⟨rfl, .inl ⟨rfl, rfl, rfl⟩⟩
  case round =>
    obtain ⟨rfl, ⟨rfl, rfl, rfl⟩ | ⟨rfl, hab, rfl, rfl⟩ | ⟨rfl, hab, rfl, rfl⟩⟩ := hrel
    · rcases Nat.lt_or_ge 1099511627776 (a + b) with h | h
      · have h1 : ¬ (1099511627776 : Int) < (a : Int) := by omega
        have h2 : (1099511627776 : Int) - (a : Int) < (b : Int) := by omega
        go_wp2_with fail
        go_ret
        exact ⟨_, rfl, .inr ⟨by omega, by omega, by omega⟩, rfl⟩
      · have h1 : ¬ (1099511627776 : Int) < (a : Int) := by omega
        have h2 : ¬ (1099511627776 : Int) - (a : Int) < (b : Int) := by omega
        go_wp2_with fail
        go_roundg 2
        case measure => omega
        case rel => exact ⟨rfl, .inr (.inl ⟨rfl, h, by go_num, by go_num⟩)⟩
    · rcases Nat.lt_or_ge 1099511627775 (a + b) with h | h
      · have h1 : ¬ (1099511627776 : Int) < ((a : Int) + (b : Int)) := by omega
        have h2 : (1099511627776 : Int) - ((a : Int) + (b : Int)) < 1 := by omega
        go_wp2_with fail
        go_ret
        exact ⟨_, rfl, .inr ⟨by omega, by omega, by omega⟩, rfl⟩
      · have h1 : ¬ (1099511627776 : Int) < ((a : Int) + (b : Int)) := by omega
        have h2 : ¬ (1099511627776 : Int) - ((a : Int) + (b : Int)) < 1 := by omega
        go_wp2_with fail
        go_roundg 1
        case measure => omega
        case rel => exact ⟨rfl, .inr (.inr ⟨rfl, by omega, by go_num, by go_num⟩)⟩
    · go_wp2_with fail
      go_ret
      refine ⟨_, rfl, ?_, rfl⟩
      rcases Nat.lt_or_ge 500 (a + b + 1) with h | h
      · exact .inr ⟨h, by omega, by omega⟩
      · exact .inl ⟨h, by omega⟩
noncomputable def ttB : Code := Try.f7.body.getD .skip
theorem tt_ok : okCode Try.prog FsT ttB = true := by kernel_rfl
/-- The lists' lengths, as they are told. -/
structure Lens (v : World) (n : Nat) (s : Option Addr) (vals : Nat → List Int) : Prop where
  n7 : n ≤ 9223372036854775807
  row : ∀ i, i < n → (vals i).length ≤ 9223372036854775807 ∧ ∃ lb lo g c, s = some ⟨lb, lo, none⟩ ∧ v.cell? ⟨lb, lo + i, none⟩ = some (.slice g (vals i).length c)
theorem kept_cell {v w : World} (h : Kept (fun _ => False) v w) {a : Addr} {u : Value} (hc : v.cell? a = some u) : w.cell? a = some u := cell_hk (HK.of rfl h) hc
set_option maxRecDepth 100000 in
set_option maxHeartbeats 4000000 in
theorem total_wp {v : World} {n cl : Nat} {s : Option Addr} {vals : Nat → List Int} (hL : Lens v n s vals) {cB : Code} (hcB : ttB = cB) :
    cB.wp Try.prog (fun e a' w' => (e = .ret ∨ e = .normal) ∧ (∃ r : Int, a'.tmps.getD 2 undef = .int .i64 r ∧ (500 < r ∨ (r ≤ 500 ∧ offN vals n + n ≤ 500))) ∧ Kept (fun _ => False) v w') { tmps := #[.slice s n cl] ++ Array.replicate 23 undef, defers := [] } v := by
  conv at hcB => lhs; whnf
  subst hcB
  have e0 : (#[.slice s n cl] ++ Array.replicate 23 undef : Array Value) = #[.slice s n cl, undef, undef, undef, undef, undef, undef, undef, undef, undef, undef, undef, undef, undef, undef, undef, undef, undef, undef, undef, undef, undef, undef, undef] := by kernel_rfl
  rw [e0]
  have hn7 := hL.n7
  have HL := Lib.hid hL
  clear hL
  go_wp2_with fail
  go_loopg [3, 4] (n + 1) (fun kx s3 s4 wr => ∃ (i : Nat) (r : Int), Hid (n - i < kx) ∧ i ≤ n ∧ s3 = .int .i64 r ∧ s4 = .int .i64 (i : Nat) ∧ Hid (Kept (fun _ => False) v wr) ∧ Hid (r ≤ 1099511627776) ∧ Hid ((offN vals i + i ≤ 500 ∧ r = ((offN vals i + i : Nat) : Int)) ∨ 500 < r))
  case atStart => exact ⟨0, 0, Lib.hid (by omega), by omega, rfl, rfl, Lib.hid (Kept.refl _ v), Lib.hid (by omega), Lib.hid (.inl ⟨by simp [offN], by simp [offN]⟩)⟩
  case round =>
    obtain ⟨i, r, hm, hi, rfl, rfl, hK, hr9, hr⟩ := hrel
    rcases hr.out with ⟨ha, rfl⟩ | hbig
    · rcases Nat.lt_or_ge i n with hlt | hge
      · obtain ⟨hl7, lb, lo, g, c, rfl, hc⟩ := HL.out.row i hlt
        have hc' := kept_cell hK.out hc
        obtain ⟨m, hm9⟩ : ∃ m, (vals i).length = m := ⟨_, rfl⟩
        rw [hm9] at hc' hl7
        obtain ⟨q, hq⟩ : ∃ q, offN vals i + i = q := ⟨_, rfl⟩
        have HQ : Hid (offN vals i + i = q ∧ (vals i).length = m) := Lib.hid ⟨hq, hm9⟩
        rw [hq] at ha ⊢
        have C1 := Lib.hid (sum_ok (w := wr.alloc (.cells #[.int .i64 (m : Nat), .int .i64 1] 3)) ha hl7 (Blk.new wr [.int .i64 (m : Nat), .int .i64 1] 3))
        clear hc hm9 hq hr hr9
        go_wp2_with fail
        with_reducible refine Calls.mono C1.out ?_
        rintro e w3 ⟨r, rfl, hR, rfl⟩
        have HR := Lib.hid hR
        have HK3 := Lib.hid (hK.out.alloc (.cells #[.int .i64 (m : Nat), .int .i64 1] 3))
        clear hR C1
        go_wp2_with fail
        go_roundg (n - i)
        case measure => have := hm.out; omega
        case rel =>
          refine ⟨i + 1, r, Lib.hid (by omega), by omega, rfl, by go_num, HK3, Lib.hid ?_, Lib.hid ?_⟩
          · rcases HR.out with ⟨h1, h2⟩ | ⟨h1, h2, h3⟩ <;> omega
          · obtain ⟨h3, h4⟩ := HQ.out
            have e : offN vals (i + 1) = offN vals i + (vals i).length := rfl
            rcases HR.out with ⟨h1, h2⟩ | ⟨h1, h2, _⟩
            · exact .inl ⟨by omega, by omega⟩
            · exact .inr h2
      · obtain rfl : n = i := by omega
        clear hge
        go_wp2_with fail
        exact ⟨by omega, hK.out⟩
    · have h1 : ¬ r ≤ 500 := by omega
      clear hr
      rcases Nat.lt_or_ge i n with hlt | hge
      · go_wp2_with fail
        exact hK.out
      · go_wp2_with fail
        exact hK.out
end Go.Proofs.Ytcefdleidkmomaa.Mx

/- MuxGathers: awake on the way to the run's end; the run's end; the comparison's goroutine. Conditions: each theorem's own. -/
namespace Go.Proofs.Ytcefdleidkmomaa.Mx
open Go.Conc Go.Conc.Lib Br Go.RowKit Hp Rw Ro So
def callA : Op := .call { callee := .value (.func 8), args := #[], argTypes := #[] }
/-- What the law leaves. -/
def PostM (w : World) (v : Value) (w' : World) : Prop := v = .bool true ∧ w'.os = w.os ∧ w'.output = w.output ∧ w.heap.size ≤ w'.heap.size ∧ ∀ b, b < w.heap.size → w'.heap[b]? = w.heap[b]?
section
variable {S : Sh} {Shun : Loc → Prop} {Post : Value → World → Prop} {w v w0 : World} {b : Frame} {a : Act} {ops : Array Oper} {i : Nat} {rest : List Nat} {kk : List Item} {cs : List Frame}
theorem awake_ends (hX : ShunIn S Shun) (hl : Like S w v) {o : Oper} (ho : ops[i]? = some o) (hw : Region.wanted o (yielded ops a.tmps) = true) (hb : b.kind = .normal) (hop : o.op = callA)
    (k : ∀ S' Shun' w' v', Mor S S' Shun' v v' → Like S' w' v' → Ends Post Shun' (G (b.at (a.put ((ops[i]?).bind (·.dst)) (.bool true)) (.inRegion ops rest :: kk)) cs) w') :
    Ends Post Shun (G (b.at a (.inRegion ops (i :: rest) :: kk)) cs) w := by
  refine Walks.ends (Walks.sg hX (m := 0 + 1) (St := fun g w' => g = G ((base 8).at { tmps := #[] ++ Array.replicate 79 undef, defers := [] } [.code awB]) (b.at a (.inRegion ops (i :: rest) :: kk) :: cs) ∧ Like S w' v) ?_) ?_
  · refine SG.call' (f := 8) (vals := #[]) ho hw hb hop Try.func8 (by kernel_rfl) rfl (by simp) ?_
    exact SG.stop fun w₁ hr => ⟨rfl, (like_atR hr hl).1⟩
  rintro g w1 ⟨rfl, hl1⟩
  refine Walks.ends (Shun' := fun l => Shun l ∨ OfG (v.heap.size + 3) l) (St := AtRet (DN (v.heap.size + 3) 3 S) (fun v' => v.heap.size + 20 ≤ v'.heap.size ∧ ∀ c, c < v.heap.size → v'.heap[c]? = v.heap[c]?) (b.at a (.inRegion ops (i :: rest) :: kk) :: cs)) (fun gs sl t q h0 hL hP => awakeLandsN hX (like_lt hl1) hl1 h0 hL hP) ?_
  rintro g w2 ⟨fa, v2, rfl, a1, a2, a3, a4, a5, a6, hl2, hK2, hK3⟩
  have hm : Mor S (DN (v.heap.size + 3) 3 S) (fun l => Shun l ∨ OfG (v.heap.size + 3) l) v v2 := ⟨shunN hX, rfl, rfl, fun c hc => by
    rcases hc with h | h | ⟨j, _, h, _⟩
    · exact .inl h
    · exact .inr (by omega)
    · exact .inr (by omega), ⟨by omega, hK3⟩⟩
  refine Walks.ends (Walks.sg hm.shun (m := 0 + 1) (St := fun g w' => g = G (b.at (a.put ((ops[i]?).bind (·.dst)) (.bool true)) (.inRegion ops rest :: kk)) cs ∧ Like (DN (v.heap.size + 3) 3 S) w' v2) ?_) ?_
  · rw [fr_retG a1 a3 a4]
    refine SG.leave1 (t := 0) a2 rfl (by rw [a5]; exact Try.func8) rfl ?_
    rw [a6]
    exact SG.stop fun w₁ hr => ⟨rfl, (like_atR hr hl2).1⟩
  rintro g w3 ⟨rfl, hl3⟩
  exact k _ _ w3 v2 hm hl3
theorem end_stepM {t : Array Value} {k : List Item} (hb : b.kind = .normal) (hf : b.fn = 3) (w : World) : stepG Try.prog true (G { b.at ⟨t, []⟩ k with mode := .returning } []) w = .ended (.done (t.getD 2 undef)) w #[] := by
  simp [G, stepG, unwind, doReturn, results, Frame.at, hb, hf, Try.func3, Try.f3, seen, GStep.after]
/-- From the law's return to the end of the run. -/
theorem law_end (hO : S.os = w0.os) (hU : S.out = w0.output) {t : Array Value} {k : List Item} (hb : b.kind = .normal) (hf : b.fn = 3) (h2 : t.getD 2 undef = .bool true) (hl : Like S w v) (hz : w0.heap.size ≤ v.heap.size) (ho : ∀ c, c < w0.heap.size → ¬ S c ∧ v.heap[c]? = w0.heap[c]?) :
    Ends (PostM w0) Shun (G { b.at ⟨t, []⟩ k with mode := .returning } []) w := by
  intro gs sl tr q h0 hL hP
  refine beside_ends (D := fun _ _ _ => False) (n := 0) (fun _ _ _ h => h.elim) h0 hL hP ?_
  refine Goes.stop fun w₁ hr => ⟨rfl, _, _, end_stepM hb hf w₁, by simp, h2, ?_, ?_, ?_, fun c hc => ?_⟩
  · obtain ⟨d, rfl⟩ := hr
    exact hl.osx.trans hO
  · obtain ⟨d, rfl⟩ := hr
    exact hl.outx.trans hU
  · obtain ⟨d, rfl⟩ := hr
    show _ ≤ w.heap.size
    rw [← hl.size]
    exact hz
  · obtain ⟨d, rfl⟩ := hr
    show w.heap[c]? = _
    obtain ⟨h1, h2⟩ := ho c hc
    rw [← hl.off c h1]
    exact h2
end
theorem Seen.heap {v v1 : World} {xb n cl T ca cb : Nat} {s oa ob : Option Addr} {vals : Nat → List Int} (h : Seen v xb n cl T ca cb s oa ob vals) (e : v1.heap = v.heap) : Seen v1 xb n cl T ca cb s oa ob vals := by
  refine ⟨h.n5, h.T9, h.l5, h.box.heap (by rw [e]), h.tot, fun i hi => ?_, fun i k x hi hx => ?_⟩
  · obtain ⟨lb, lo, g, c, h1, h2, h3⟩ := h.row i hi
    exact ⟨lb, lo, g, c, h1, by rw [cell_eq e]; exact h2, fun k x hx => by
      obtain ⟨b, o, h4, h5⟩ := h3 k x hx
      exact ⟨b, o, h4, by rw [cell_eq e]; exact h5⟩⟩
  · obtain ⟨ga, gb, h1, h2, h3, h4, h5, h6, h7, h8⟩ := h.ans i k x hi hx
    refine ⟨ga, gb, h1, h2, ?_, ?_, ?_, ?_, ?_, ?_⟩ <;> (rw [cell_eq e]; assumption)
/-- The law's gate. -/
noncomputable def gM : Array Oper := ((gatesOf 8 (lwR lwB)).getD 0 (#[], 0)).1
theorem gatesM : gatesOf 8 (lwR lwB) = [(gM, 11)] := by kernel_rfl
theorem gM_size : gM.size = 14 := by kernel_rfl
def core (o : Oper) : Option Nat × Op × Option (Nat × Bool) := (o.dst, o.op, o.guard)
theorem gM_10 : (gM[10]?).map (·.dst) = some (some 99) := by kernel_rfl
theorem gM_11 : (gM[11]?).map core = some (some 100, callA, some (10, true)) := by kernel_rfl
theorem gM_12 : (gM[12]?).map core = some (some 101, .pick (.tmp 99) (.tmp 100) (.const (.bool false)), none) := by kernel_rfl
theorem gM_13 : (gM[13]?).map core = some (some 2, .assign (.tmp 101), none) := by kernel_rfl
theorem dstM : (gM.toList.drop 11).map (·.dst) = [some 100, some 101, some 2] := by kernel_rfl
theorem core_of {x : Option Oper} {d : Option Nat} {p : Op} {g : Option (Nat × Bool)} (h : x.map core = some (d, p, g)) : ∃ o, x = some o ∧ o.dst = d ∧ o.op = p ∧ o.guard = g := by
  obtain ⟨o, h1, h2⟩ := Option.map_eq_some_iff.1 h
  simp only [core, Prod.mk.injEq] at h2
  exact ⟨o, h1, h2.1, h2.2.1, h2.2.2⟩
theorem run_assign {ρ : Operand → Value} {o : Oper} {x : Operand} (h : o.op = .assign x) (w : World) : (execOp ρ o).runT Try.prog w #[] = (.ok (.value (ρ x)) w, #[]) := by
  unfold execOp
  rw [h]
  rfl
theorem run_pick {ρ : Operand → Value} {o : Oper} {c a b : Operand} (h : o.op = .pick c a b) (hc : ρ c = .bool true) (w : World) : (execOp ρ o).runT Try.prog w #[] = (.ok (.value (ρ a)) w, #[]) := by
  unfold execOp
  rw [h]
  simp only [hc]
  rfl
theorem wanted_none {o : Oper} {y : Nat → Option Bool} (h : o.guard = none) : Region.wanted o y = true := by simp [Region.wanted, h]
theorem getD_set (t : Array Value) (i j : Nat) (x : Value) (hi : i < t.size) : (t.setIfInBounds i x).getD j undef = if i = j then x else t.getD j undef := by
  simp only [Array.getD_eq_getD_getElem?, Array.getElem?_setIfInBounds]
  split
  · simp [hi]
  · rfl
theorem marks_map (l : List Oper) (t : Array Value) : marks l t = (l.map (·.dst)).foldl (fun t d => match d with | some d => t.setIfInBounds d (.bool true) | none => t) t := by
  unfold marks
  rw [List.foldl_map]
  rfl
theorem fr_run {fr : Frame} {k : List Item} (h1 : fr.defers = []) (h2 : fr.roundOf = none) (h3 : fr.mode = .run) (h4 : fr.todo = k) : fr = fr.at ⟨fr.tmps, []⟩ k := by
  cases fr
  simp only at h1 h2 h3 h4
  subst h1 h2 h3 h4
  rfl
section
variable {S : Sh} {Shun : Loc → Prop} {w v w0 : World}
set_option maxHeartbeats 1000000 in
/-- From the comparison to the end of the run. -/
theorem loops_ends (hX : ShunIn S Shun) (hl : Like S w v) (hO : S.os = w0.os) (hU : S.out = w0.output) (hz : w0.heap.size ≤ v.heap.size) (ho : ∀ c, c < w0.heap.size → ¬ S c ∧ v.heap[c]? = w0.heap[c]?)
    {xb n cl T ca cb : Nat} {s oa ob : Option Addr} {vals : Nat → List Int} (hS : Seen v xb n cl T ca cb s oa ob vals) {t : Array Value} (ht : FL xb T ca cb oa ob t) :
    Ends (PostM w0) Shun (G ((base 3).at ⟨t, []⟩ [.code (lwR lwB)]) []) w := by
  have hev : Ev Try.prog S [] (StopG Try.prog (gatesOf 8 (lwR lwB)) S (fun f t v' => f = 3 ∧ ∃ v1, v1.heap = v.heap ∧ RL v1 t v')) ⟨(base 3).at ⟨t, []⟩ [.code (lwR lwB)], [], w⟩ := by
    refine ev_gates Mo.noEarly funs0 (br := (base 3).at ⟨t, []⟩ [.code (lwR lwB)]) (bg := (base 3).at ⟨t, []⟩ [.code (cutCode 8 (lwR lwB))]) ?_ hl ?_
    · exact ⟨rfl, rfl, rfl, rfl, rfl, rfl, rfl, rfl, rfl, .code (crel_of lw_ok fun _ h => h) .nil⟩
    · intro v1 h1
      have e1 := like_same hl h1
      obtain ⟨N, fr, v', h1, h2, h3⟩ := lone_of_wp (b := base 3) (R := fun f t v' => f = 3 ∧ RL v1 t v') (Code.wp_mono (fun e a' w' h => ⟨h.1, rfl, h.2⟩) (loops_wp (hS.heap e1) ht rfl))
      exact ⟨N, fr, v', h1, h2, h3.1, v1, e1, h3.2⟩
  intro gs sl tr q h0 hL hP
  obtain ⟨N, gs', y, sl', t', q', hr, hs, h0', hSt, hL', hP'⟩ := ev_beside hX (fun x d h => stopG_at x d h) hev _ gs w sl tr q ⟨w.drawn, rfl⟩ (Nat.le_refl _) h0 hL hP
  obtain ⟨s1, s2, s3, s4, s5⟩ := hSt
  rw [s1] at h0'
  have fin : Ends (PostM w0) Shun (G y.fr []) y.w := by
    rcases s5 with ⟨s5, v', hl', hf, v1, e1, r1, r2, r3, r4, r5⟩ | ⟨s5, ops, i, k, hm, hlt, htodo, v', hl', hf, v1, e1, r1, r2, r3, r4, r5⟩
    · have e : v'.heap = v.heap := r5.trans e1
      have hfr := fr_retG s2 s4 s5
      rw [hfr]
      exact law_end hO hU s3 hf r2 hl' (by rw [e]; exact hz) (fun c hc => by rw [e]; exact ho c hc)
    · have e : v'.heap = v.heap := r5.trans e1
      rw [gatesM] at hm
      simp only [List.mem_singleton, Prod.mk.injEq] at hm
      obtain ⟨rfl, rfl⟩ := hm
      rw [gM_size, show (List.range 14).drop 11 = [11, 12, 13] by rfl] at htodo
      have hfr := fr_run s2 s4 s5 htodo
      rw [marks_map, dstM] at r1 r3
      simp only [List.foldl_cons, List.foldl_nil, Array.size_setIfInBounds] at r1 r3
      have h99 : y.fr.tmps.getD 99 undef = .bool true := by
        rw [getD_set _ _ _ _ (by simp [r1]), if_neg (by decide), getD_set _ _ _ _ (by simp [r1]), if_neg (by decide), getD_set _ _ _ _ (by simp [r1]), if_neg (by decide)] at r3
        exact r3
      obtain ⟨o11, e11, d11, p11, g11⟩ := core_of gM_11
      obtain ⟨o12, e12, d12, p12, g12⟩ := core_of gM_12
      obtain ⟨o13, e13, d13, p13, g13⟩ := core_of gM_13
      obtain ⟨o10, e10, d10⟩ := Option.map_eq_some_iff.1 gM_10
      have hw11 : Region.wanted o11 (yielded gM y.fr.tmps) = true := by
        have hy : yielded gM y.fr.tmps 10 = some true := by
          have h' : y.fr.tmps[99]? = some (.bool true) := by
            have hlt : 99 < y.fr.tmps.size := by omega
            rw [Array.getD_eq_getD_getElem?, Array.getElem?_eq_getElem hlt] at h99
            rw [Array.getElem?_eq_getElem hlt]
            simpa using h99
          simp [yielded, e10, d10, h']
        simp [Region.wanted, g11, hy]
      rw [hfr]
      refine awake_ends (a := ⟨y.fr.tmps, []⟩) hX hl' e11 hw11 s3 p11 fun S' Shun' w5 v5 hm hl5 => ?_
      rw [e11]
      simp only [Option.bind_some, d11]
      refine Walks.ends (Walks.sg hm.shun (m := 0 + 1 + 1 + 1 + 1) (St := fun g w' => ∃ t k, g = G { y.fr.at ⟨t, []⟩ k with mode := .returning } [] ∧ t.getD 2 undef = .bool true ∧ Like S' w' v5) ?_) ?_
      · refine SG.pure e12 (wanted_none g12) s3 (run_pick p12 ?_) ?_
        · simp only [Act.put, Act.eval]
          rw [getD_set _ _ _ _ (by simp [r1]), if_neg (by decide)]
          exact h99
        rw [d12]
        simp only [Act.put, Act.eval]
        refine SG.pure e13 (wanted_none g13) s3 (run_assign p13) ?_
        rw [d13]
        simp only [Act.put, Act.eval]
        refine SG.regEnd ?_
        refine SG.ret ?_
        refine SG.stop fun w₁ hr => ⟨_, _, rfl, ?_, (like_atR hr hl5).1⟩
        rw [getD_set _ _ _ _ (by simp [r1]), if_pos rfl, getD_set _ _ _ _ (by simp [r1]), if_pos rfl, getD_set _ _ _ _ (by simp [r1]), if_pos rfl]
      rintro g w6 ⟨t6, k6, rfl, h6, hl6⟩
      exact law_end (hm.os.trans hO) (hm.out.trans hU) s3 hf h6 hl6 (Nat.le_trans (by rw [e]; exact hz) hm.hk.size) fun c hc => by
        obtain ⟨h1, h2⟩ := ho c hc
        have hcv : c < v'.heap.size := by rw [e]; omega
        refine ⟨fun hs => ?_, ?_⟩
        · rcases hm.sub c hs with h | h
          · exact h1 h
          · omega
        · rw [hm.hk.same c hcv, e, h2]
  obtain ⟨N2, last, o, w2, t2, z1, z2, z3, z4⟩ := fin gs' sl' t' q' h0' hL' hP'
  refine ⟨N + N2, last, o, w2, t2, ?_, ?_, z3, z4⟩
  · rw [Nat.add_assoc, runNT_add, hr]; exact z1
  · rw [runN_add, ← runNT_fst Try.prog _ _ tr, hr]; exact z2
end
end Go.Proofs.Ytcefdleidkmomaa.Mx

/- MuxGathers: the argument, what each call sees of it. Conditions: each theorem's own. -/
namespace Go.Proofs.Ytcefdleidkmomaa.Mx
open Go.Conc Go.Conc.Lib Br Go.RowKit Hp Rw Ro So
section
variable {vals : Nat → List Int}
def itF (n : Nat) (vals : Nat → List Int) (k : Nat) : List It := itemsOf (if k < n then (k : Int) else 0) (vals k) (vals k).length
theorem itF_len (n k : Nat) : (itF n vals k).length = (vals k).length := by
  unfold itF itemsOf
  simp
theorem flat_len' (n : Nat) : ∀ m, ((List.range m).flatMap (itF n vals)).length = offN vals m := by
  intro m
  induction m with
  | zero => rfl
  | succ m ih =>
    rw [List.range_succ, List.flatMap_append, List.length_append, ih]
    show _ = offN vals m + (vals m).length
    rw [← itF_len (vals := vals) n m]
    simp
theorem flat_at' (n : Nat) : ∀ (m : Nat) {i k : Nat}, i < m → k < (vals i).length → ((List.range m).flatMap (itF n vals))[offN vals i + k]? = (itF n vals i)[k]? := by
  intro m
  induction m with
  | zero => intro i k hi; omega
  | succ m ih =>
    intro i k hi hk
    rw [List.range_succ, List.flatMap_append]
    rcases Nat.lt_or_ge i m with h | h
    · have hlt : offN vals i + k < offN vals m := by
        have := offN_mono vals (i := i + 1) (n := m) (by omega)
        have e : offN vals (i + 1) = offN vals i + (vals i).length := rfl
        omega
      rw [List.getElem?_append_left (by rw [flat_len']; exact hlt)]
      exact ih h hk
    · obtain rfl : i = m := by omega
      rw [List.getElem?_append_right (by rw [flat_len']; omega), flat_len', Nat.add_sub_cancel_left]
      simp
theorem allN_at {n i k : Nat} {x : Int} (hi : i < n) (hx : (vals i)[k]? = some x) : (allN n vals)[offN vals i + k]? = some ((i : Int), (k : Int), x) := by
  have hk := (List.getElem?_eq_some_iff.1 hx).1
  have := flat_at' (vals := vals) n (n + n % 2) (i := i) (k := k) (by omega) hk
  show ((List.range (n + n % 2)).flatMap (itF n vals))[offN vals i + k]? = _
  rw [this]
  unfold itF itemsOf
  rw [if_pos hi]
  simp [hk, (List.getElem?_eq_some_iff.1 hx).2, List.getD, List.getElem?_eq_getElem hk]
theorem allN_len {n : Nat} (hoff : ∀ k, n ≤ k → vals k = []) : (allN n vals).length = offN vals n := by
  show ((List.range (n + n % 2)).flatMap (itF n vals)).length = _
  rw [flat_len']
  rcases Nat.mod_two_eq_zero_or_one n with h | h
  · rw [h]; rfl
  · rw [h]
    show offN vals n + (vals n).length = _
    rw [hoff n (Nat.le_refl _)]
    rfl
end
/-- The argument. -/
structure MatA (w : World) (s : Option Addr) (n cl : Nat) (vals : Nat → List Int) (A : Nat → Option Addr) (C : Nat → Nat) : Prop where
  n7 : n ≤ 9223372036854775807
  ncl : n ≤ cl
  off : ∀ k, n ≤ k → vals k = []
  row : ∀ i, i < n → (vals i).length ≤ 9223372036854775807 ∧ (A i = none → (vals i).length = 0 ∧ C i = 0) ∧ ∃ lb lo, s = some ⟨lb, lo, none⟩ ∧ w.cell? ⟨lb, lo + i, none⟩ = some (.slice (A i) (vals i).length (C i)) ∧
    ∀ k x, (vals i)[k]? = some x → ∃ b o, A i = some ⟨b, o, none⟩ ∧ w.cell? ⟨b, o + k, none⟩ = some (.int .i64 x)
section
variable {w v : World} {s : Option Addr} {n cl : Nat} {vals : Nat → List Int} {A : Nat → Option Addr} {C : Nat → Nat}
theorem MatA.hk (h : MatA w s n cl vals A C) (k : HK w v) : MatA v s n cl vals A C := by
  refine ⟨h.n7, h.ncl, h.off, fun i hi => ?_⟩
  obtain ⟨h1, h2, lb, lo, h3, h4, h5⟩ := h.row i hi
  refine ⟨h1, h2, lb, lo, h3, cell_hk k h4, fun j x hx => ?_⟩
  obtain ⟨b, o, h6, h7⟩ := h5 j x hx
  exact ⟨b, o, h6, cell_hk k h7⟩
theorem MatA.lens (h : MatA w s n cl vals A C) : Lens w n s vals := ⟨h.n7, fun i hi => by
  obtain ⟨h1, _, lb, lo, h3, h4, _⟩ := h.row i hi
  exact ⟨h1, lb, lo, _, _, h3, h4⟩⟩
/-- So many are few. -/
theorem MatA.few (h : MatA w s n cl vals A C) (ht : offN vals n + n ≤ 500) : n ≤ 500 ∧ ∀ i, (vals i).length ≤ 500 := by
  refine ⟨by omega, fun i => ?_⟩
  rcases Nat.lt_or_ge i n with hi | hi
  · have := offN_mono vals (i := i + 1) (n := n) (by omega)
    have e : offN vals (i + 1) = offN vals i + (vals i).length := rfl
    omega
  · rw [h.off i hi]; simp
theorem cell_lt {w : World} {a : Addr} {u : Value} (h : w.cell? a = some u) : a.block < w.heap.size := by
  unfold World.cell? at h
  cases hb : w.heap[a.block]? with
  | none => rw [hb] at h; cases h
  | some ob => exact (Array.getElem?_eq_some_iff.1 hb).1
theorem MatA.ll (h : MatA w s n cl vals A C) (n1 : 1 ≤ n) (n5 : n ≤ 500) (l5 : ∀ i, (vals i).length ≤ 500) : ∃ lb lo, s = some ⟨lb, lo, none⟩ ∧ LL w.heap.size n lb lo (fun i => if i < n then A i else none) (fun i => (vals i).length) C vals w := by
  obtain ⟨_, _, lb, lo, h3, h4, _⟩ := h.row 0 (by omega)
  refine ⟨lb, lo, h3, n1, n5, l5, fun k _ => rfl, h.off, fun k hk => ?_, cell_lt h4, fun k hk => ?_, fun k i x hk hx => ?_⟩
  · by_cases hkn : k < n
    · rw [if_pos hkn] at hk
      exact ((h.row k hkn).2.1 hk).1
    · show (vals k).length = 0
      rw [h.off k (by omega)]
      rfl
  · obtain ⟨_, _, lb', lo', h5, h6, _⟩ := h.row k hk
    rw [h3] at h5
    cases h5
    rw [if_pos hk]
    exact h6
  · obtain ⟨_, _, lb', lo', h5, h6, h7⟩ := h.row k hk
    obtain ⟨b, o, h8, h9⟩ := h7 i x hx
    have hi := (List.getElem?_eq_some_iff.1 hx).1
    refine ⟨⟨b, o + i, none⟩, ?_, cell_lt h9, h9⟩
    rw [if_pos hk, h8]
    simp [Grp.elems, Addr.add, hi]
theorem MatA.fan (h : MatA w s n cl vals A C) {xb : Nat} (hx : Blk w xb [.slice s n cl] 22) (n5 : n ≤ 500) (l5 : ∀ i, (vals i).length ≤ 500) : ∃ lb lo, FanA w xb n lb lo cl A (fun i => (vals i).length) C vals := by
  rcases Nat.eq_zero_or_pos n with rfl | n1
  · exact ⟨0, 0, n5, fun h => by omega, fun k hk => by omega, fun k hk => by omega, l5⟩
  obtain ⟨_, _, lb, lo, h3, h4, _⟩ := h.row 0 (by omega)
  subst h3
  refine ⟨lb, lo, n5, fun _ => hx, fun k hk => ?_, fun k hk => ?_, l5⟩
  · obtain ⟨_, _, lb', lo', h5, h6, _⟩ := h.row k hk
    cases h5
    exact h6
  · obtain ⟨_, h2, lb', lo', h5, h6, h7⟩ := h.row k hk
    cases ha : A k with
    | none =>
      obtain ⟨e1, e2⟩ := h2 ha
      refine .inl ⟨List.length_eq_zero_iff.1 e1, ?_⟩
      rw [e1, e2]
    | some a =>
      refine .inr ⟨a, C k, rfl, fun j u hj => ?_⟩
      have hfl : Rw.flat Mo.dT (vals k) = (vals k).map (Value.int .i64) := by
        unfold Rw.flat
        generalize vals k = L
        induction L with
        | nil => rfl
        | cons y L ih => rw [List.flatMap_cons, ih]; rfl
      rw [hfl, List.getElem?_map] at hj
      obtain ⟨x, hx, rfl⟩ := Option.map_eq_some_iff.1 hj
      obtain ⟨b, o, h8, h9⟩ := h7 j x hx
      rw [ha] at h8
      cases h8
      rw [Go.WideShapes.add_plain]
      exact h9
theorem MatA.seen (h : MatA w s n cl vals A C) {xb : Nat} (hx : Blk w xb [.slice s n cl] 22) (n5 : n ≤ 500) (l5 : ∀ i, (vals i).length ≤ 500) {al bl : Value} {b1 b2 : Nat} (ha : Rw.Row iT w b1 al (allN n vals)) (hb : Rw.Row iT w b2 bl (allN n vals)) :
    ∃ T ca cb oa ob, al = .slice oa T ca ∧ bl = .slice ob T cb ∧ Seen w xb n cl T ca cb s oa ob vals := by
  obtain ⟨oa, ca, ea, _⟩ := ha.slice
  obtain ⟨ob, cb, eb, _⟩ := hb.slice
  have hT := allN_len h.off
  have hT9 : offN vals n ≤ 250000 := by
    have key : ∀ m, offN vals m ≤ 500 * m := by
      intro m
      induction m with
      | zero => exact Nat.le_refl _
      | succ m ih =>
        show offN vals m + (vals m).length ≤ _
        have := l5 m
        omega
    have := key n
    omega
  rw [hT] at ea eb
  refine ⟨offN vals n, ca, cb, oa, ob, ea, eb, n5, hT9, l5, hx, rfl, fun i hi => ?_, fun i k x hi hk => ?_⟩
  · obtain ⟨_, _, lb, lo, h3, h4, h5⟩ := h.row i hi
    exact ⟨lb, lo, _, _, h3, h4, h5⟩
  · have hat := allN_at (vals := vals) hi hk
    have hpos := (List.getElem?_eq_some_iff.1 hat).1
    have cells : ∀ {bb : Nat} {y : Value} {o : Option Addr} {c T : Nat}, Rw.Row iT w bb y (allN n vals) → y = .slice o T c → ∃ g, o = some ⟨g, 0, none⟩ ∧ w.cell? ⟨g, (offN vals i + k) * 3, none⟩ = some (.int .i64 (i : Nat)) ∧ w.cell? ⟨g, (offN vals i + k) * 3 + 1, none⟩ = some (.int .i64 (k : Nat)) ∧ w.cell? ⟨g, (offN vals i + k) * 3 + 2, none⟩ = some (.int .i64 x) := by
      intro bb y o c T hr hy
      rcases hr.form with ⟨_, e⟩ | ⟨g, cap, cur, e, _, hl⟩
      · rw [e] at hpos; simp at hpos
      · rw [hy] at e
        injection e with e1 e2 e3
        exact ⟨g, e1, hl.cell (t := iT) hat (j := 0) rfl, hl.cell (t := iT) hat (j := 1) rfl, hl.cell (t := iT) hat (j := 2) rfl⟩
    obtain ⟨ga, e1, a0, a1, a2⟩ := cells ha ea
    obtain ⟨gb, e2, b0, b1, b2⟩ := cells hb eb
    exact ⟨ga, gb, e1, e2, a0, a1, a2, b0, b1, b2⟩
end
end Go.Proofs.Ytcefdleidkmomaa.Mx

