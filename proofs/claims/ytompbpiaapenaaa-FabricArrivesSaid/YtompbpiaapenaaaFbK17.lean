/- What came to a host: an inbox in memory; how many, put, take, close up, list. Conditions: each theorem's own. -/
import Derived.Test.YtompbpiaapenaaaFbK13
import Derived.Test.YtompbpiaapenaaaFbK16
import Derived.Deep.RegionLaw
import Derived.Test.YtompbpiaapenaaaFbK1
import Derived.WalkKit
import Derived.Outline
import Derived.ProofKit
import Derived.Deep.CutBlock
import Derived.Deep.RegionWith
import Derived.Deep.DeepCutAuto
import Derived.Deep.DrawnRows
import Derived.Deep.LoopGhost
import Derived.WalkLawsBesides
import Derived.BigQuiet
import Derived.Deep.QuietTactic
set_option linter.unusedVariables false
set_option linter.unusedSimpArgs false
namespace Go.Proofs.Ytompbpiaapenaaa.Fb
open Go.RowKit Hp QuM QuN Rw Qu NumM NumC Po
attribute [local go_sem ↓] Go.wp_at_zero Go.wp_at_succ
@[reducible] def fT : Rw.Ty Bx where
  E := 35
  L := 73
  k := 10
  bz := 96
  enc x := [.int .i64 x.f.kind, .int .i64 x.f.src, .int .i64 x.f.dst, .int .i64 x.f.prio, .int .u64 (x.f.msg : Int), .int .i64 x.f.off, .int .i64 x.f.len, .int .i64 x.f.total, .int .i64 x.f.num, .slice x.s x.f.data.length x.c]
  z := .agg #[.int .i64 0, .int .i64 0, .int .i64 0, .int .i64 0, .int .u64 0, .int .i64 0, .int .i64 0, .int .i64 0, .int .i64 0, .slice none 0 0]
  hL := Try.underlying73
  hI := by kernel_rfl
  hz := rfl
  hk _ := rfl
  h1 x v hv := by simp at hv; rcases hv with rfl | rfl | rfl | rfl | rfl | rfl | rfl | rfl | rfl | rfl <;> rfl
  k0 := by decide
  hb := by decide
/-- A frame as a value. -/
abbrev fv (x : Bx) : Value := .agg #[.int .i64 x.f.kind, .int .i64 x.f.src, .int .i64 x.f.dst, .int .i64 x.f.prio, .int .u64 (x.f.msg : Int), .int .i64 x.f.off, .int .i64 x.f.len, .int .i64 x.f.total, .int .i64 x.f.num, .slice x.s x.f.data.length x.c]
/-- How many. -/
theorem ict_any {w : World} {b o n z c : Nat} {a : Option Addr} (h0 : w.cell? ⟨b, o, none⟩ = some (.slice a n c)) (h1 : w.cell? ⟨b, o + 1, none⟩ = some (.int .i64 (z : Nat))) (hz : z ≤ n) (hn : n ≤ 1000000) :
    Calls Try.prog 71 #[.pointer (some ⟨b, o, none⟩)] w fun e w' => e = .returned (.int .i64 ((n : Int) - (z : Nat))) ∧ ∃ m, w' = w.drewN m := by
  have hw : IntKind.i64.wrap ((n : Int) - (z : Nat)) = (n : Int) - (z : Nat) := by rw [IntKind.wrap_i64]; omega
  clear hz hn
  go_enter Try.func71, Try.ntmps71
  go_upto_region 1 with fail
  go_quiet (fail)
  go_wp2_with fail
  go_ret
  exact ⟨rfl, _, rfl⟩
/-- The world with one of a row of frames set. -/
abbrev setF (w : World) (g p : Nat) (x : Bx) : World := (((((((((w.setCell ⟨g, p * 10, none⟩ (.int .i64 x.f.kind)).setCell ⟨g, p * 10 + 1, none⟩ (.int .i64 x.f.src)).setCell ⟨g, p * 10 + 2, none⟩ (.int .i64 x.f.dst)).setCell ⟨g, p * 10 + 3, none⟩ (.int .i64 x.f.prio)).setCell ⟨g, p * 10 + 4, none⟩ (.int .u64 (x.f.msg : Int))).setCell ⟨g, p * 10 + 5, none⟩ (.int .i64 x.f.off)).setCell ⟨g, p * 10 + 6, none⟩ (.int .i64 x.f.len)).setCell ⟨g, p * 10 + 7, none⟩ (.int .i64 x.f.total)).setCell ⟨g, p * 10 + 8, none⟩ (.int .i64 x.f.num)).setCell ⟨g, p * 10 + 9, none⟩ (.slice x.s x.f.data.length x.c)
theorem setF_eq (w : World) (g p : Nat) (x : Bx) : setF w g p x = setW w g (p * 10) (fT.enc x) := by
  show _ = setW w g (p * 10) [.int .i64 x.f.kind, .int .i64 x.f.src, .int .i64 x.f.dst, .int .i64 x.f.prio, .int .u64 (x.f.msg : Int), .int .i64 x.f.off, .int .i64 x.f.len, .int .i64 x.f.total, .int .i64 x.f.num, .slice x.s x.f.data.length x.c]
  simp only [setW, Nat.add_assoc, Nat.reduceAdd]
theorem setF_lies {w : World} {g cap : Nat} {cur : List Value} {l : List Bx} (h : Lies fT w g cap cur l) {i : Nat} (hi : i < l.length) (x : Bx) : Lies fT (setF w g i x) g cap (setsL cur (i * 10) (fT.enc x)) (l.set i x) := by
  rw [setF_eq]; exact lies_set h hi x
theorem setF_kept (w : World) (g p : Nat) (x : Bx) : Kept (fun i => i = g) w (setF w g p x) := by
  rw [setF_eq]; exact setW_kept _ w _
theorem fr_cells {w : World} {g cap : Nat} {cur : List Value} {l : List Bx} (h : Lies fT w g cap cur l) {i : Nat} {x : Bx} (hi : l[i]? = some x) :
    w.cell? ⟨g, i * 10, none⟩ = some (.int .i64 x.f.kind) ∧ w.cell? ⟨g, i * 10 + 1, none⟩ = some (.int .i64 x.f.src) ∧ w.cell? ⟨g, i * 10 + 2, none⟩ = some (.int .i64 x.f.dst) ∧ w.cell? ⟨g, i * 10 + 3, none⟩ = some (.int .i64 x.f.prio) ∧ w.cell? ⟨g, i * 10 + 4, none⟩ = some (.int .u64 (x.f.msg : Int)) ∧ w.cell? ⟨g, i * 10 + 5, none⟩ = some (.int .i64 x.f.off) ∧ w.cell? ⟨g, i * 10 + 6, none⟩ = some (.int .i64 x.f.len) ∧ w.cell? ⟨g, i * 10 + 7, none⟩ = some (.int .i64 x.f.total) ∧ w.cell? ⟨g, i * 10 + 8, none⟩ = some (.int .i64 x.f.num) ∧ w.cell? ⟨g, i * 10 + 9, none⟩ = some (.slice x.s x.f.data.length x.c) :=
  ⟨by have := h.cell (t := fT) hi (j := 0) (u := .int .i64 x.f.kind) rfl; simpa using this, by have := h.cell (t := fT) hi (j := 1) (u := .int .i64 x.f.src) rfl; simpa using this, by have := h.cell (t := fT) hi (j := 2) (u := .int .i64 x.f.dst) rfl; simpa using this, by have := h.cell (t := fT) hi (j := 3) (u := .int .i64 x.f.prio) rfl; simpa using this, by have := h.cell (t := fT) hi (j := 4) (u := .int .u64 (x.f.msg : Int)) rfl; simpa using this, by have := h.cell (t := fT) hi (j := 5) (u := .int .i64 x.f.off) rfl; simpa using this, by have := h.cell (t := fT) hi (j := 6) (u := .int .i64 x.f.len) rfl; simpa using this, by have := h.cell (t := fT) hi (j := 7) (u := .int .i64 x.f.total) rfl; simpa using this, by have := h.cell (t := fT) hi (j := 8) (u := .int .i64 x.f.num) rfl; simpa using this, by have := h.cell (t := fT) hi (j := 9) (u := .slice x.s x.f.data.length x.c) rfl; simpa using this⟩
/-- One is put behind the others. -/
theorem iput_any {w : World} {b o base : Nat} {T : TypeId} {cc : List Value} {v : Value} {K : List Bx} {x : Bx} (hB : Blk w b cc T) (h0 : cc[o]? = some v) (hR : Rw.Row fT w base v K) (hT : ∀ j, v.ownBlock = some j → j = b → False) (hK : K.length ≤ 100000) (hbase : base ≤ w.heap.size) :
    Calls Try.prog 68 #[.pointer (some ⟨b, o, none⟩), fv x] w fun e w' => e = .returned (.tuple #[]) ∧
      ∃ v', Blk w' b (cc.set o v') T ∧ Rw.Row fT w' base v' (K ++ [x]) ∧ Kept (fun i => i = b ∨ v.ownBlock = some i) w w' ∧ ∀ g, v'.ownBlock = some g → v.ownBlock = some g ∨ w.heap.size ≤ g := by
  obtain ⟨⟨x1, x2, x3, x4, x5, x6, x7, x8, x9, xd⟩, xa, xc, xq⟩ := x
  obtain ⟨av, cv, rfl, _⟩ := hR.slice
  go_enter Try.func68, Try.ntmps68
  go_upto_region 1 with fail
  have hO := Blk.new w [.int .i64 x1, .int .i64 x2, .int .i64 x3, .int .i64 x4, .int .u64 (x5 : Int), .int .i64 x6, .int .i64 x7, .int .i64 x8, .int .i64 x9, .slice xa xd.length xc] 35
  have hkk := (Kept.refl (fun _ => False) w).alloc (.cells [.int .i64 x1, .int .i64 x2, .int .i64 x3, .int .i64 x4, .int .u64 (x5 : Int), .int .i64 x6, .int .i64 x7, .int .i64 x8, .int .i64 x9, .slice xa xd.length xc].toArray 35)
  dsimp only [List.toArray] at hO hkk
  have HB1 := Lib.hid (hkk.blk hB (fun f => f))
  have HR1 := Lib.hid (hR.old hkk)
  have HKK := Lib.hid hkk
  have hsz : (w.alloc (.cells #[.int .i64 x1, .int .i64 x2, .int .i64 x3, .int .i64 x4, .int .u64 (x5 : Int), .int .i64 x6, .int .i64 x7, .int .i64 x8, .int .i64 x9, .slice xa xd.length xc] 35)).heap.size = w.heap.size + 1 := by simp
  have hblt := hB.lt
  generalize w.alloc (.cells #[.int .i64 x1, .int .i64 x2, .int .i64 x3, .int .i64 x4, .int .u64 (x5 : Int), .int .i64 x6, .int .i64 x7, .int .i64 x8, .int .i64 x9, .slice xa xd.length xc] 35) = w1 at *
  obtain ⟨ob, hob⟩ : ∃ ob, w.heap.size = ob := ⟨_, rfl⟩
  rw [hob] at hO hsz hblt hbase
  simp only [hob]
  have HOB := Lib.hid hob
  clear hob hkk hB hR
  have b0 := HB1.out.cell h0
  have e0 := hO.cell (o := 0) rfl
  have e1 := hO.cell (o := 1) rfl
  have e2 := hO.cell (o := 2) rfl
  have e3 := hO.cell (o := 3) rfl
  have e4 := hO.cell (o := 4) rfl
  have e5 := hO.cell (o := 5) rfl
  have e6 := hO.cell (o := 6) rfl
  have e7 := hO.cell (o := 7) rfl
  have e8 := hO.cell (o := 8) rfl
  have e9 := hO.cell (o := 9) rfl
  have k2 := (Kept.refl (fun _ => False) w1).alloc (.cells #[.int .i64 x1, .int .i64 x2, .int .i64 x3, .int .i64 x4, .int .u64 (x5 : Int), .int .i64 x6, .int .i64 x7, .int .i64 x8, .int .i64 x9, .slice xa xd.length xc] 35)
  have HR2 : Hid (Rw.Row fT (w1.alloc (.cells #[.int .i64 x1, .int .i64 x2, .int .i64 x3, .int .i64 x4, .int .u64 (x5 : Int), .int .i64 x6, .int .i64 x7, .int .i64 x8, .int .i64 x9, .slice xa xd.length xc] 35)).drew base (.slice av K.length cv) K) := Lib.hid (HR1.out.old k2.drew)
  have HB2 : Hid (Blk (w1.alloc (.cells #[.int .i64 x1, .int .i64 x2, .int .i64 x3, .int .i64 x4, .int .u64 (x5 : Int), .int .i64 x6, .int .i64 x7, .int .i64 x8, .int .i64 x9, .slice xa xd.length xc] 35)).drew b cc T) := Lib.hid ((k2.blk HB1.out (fun f => f)).drew)
  have HK2 : Hid (Kept (fun _ => False) w (w1.alloc (.cells #[.int .i64 x1, .int .i64 x2, .int .i64 x3, .int .i64 x4, .int .u64 (x5 : Int), .int .i64 x6, .int .i64 x7, .int .i64 x8, .int .i64 x9, .slice xa xd.length xc] 35)).drew) := Lib.hid (HKK.out.trans k2.drew)
  have HS2 : Hid (Rw.Src fT (w1.alloc (.cells #[.int .i64 x1, .int .i64 x2, .int .i64 x3, .int .i64 x4, .int .u64 (x5 : Int), .int .i64 x6, .int .i64 x7, .int .i64 x8, .int .i64 x9, .slice xa xd.length xc] 35)).drew (.slice (some ⟨ob + 1, 0, none⟩) 1 1) [⟨⟨x1, x2, x3, x4, x5, x6, x7, x8, x9, xd⟩, xa, xc, xq⟩]) := by
    have h1 := Blk.new w1 [.int .i64 x1, .int .i64 x2, .int .i64 x3, .int .i64 x4, .int .u64 (x5 : Int), .int .i64 x6, .int .i64 x7, .int .i64 x8, .int .i64 x9, .slice xa xd.length xc] 35
    rw [hsz] at h1
    exact Lib.hid (Rw.src_blk (t := fT) (K := [⟨⟨x1, x2, x3, x4, x5, x6, x7, x8, x9, xd⟩, xa, xc, xq⟩]) 1 (Blk.drew h1))
  have hbs : Hid (base ≤ (w1.alloc (.cells #[.int .i64 x1, .int .i64 x2, .int .i64 x3, .int .i64 x4, .int .u64 (x5 : Int), .int .i64 x6, .int .i64 x7, .int .i64 x8, .int .i64 x9, .slice xa xd.length xc] 35)).drew.heap.size) := Lib.hid (Nat.le_trans hbase (by have := HK2.out.size; have := HOB.out; omega))
  have hsm : K.length + [(⟨⟨x1, x2, x3, x4, x5, x6, x7, x8, x9, xd⟩, xa, xc, xq⟩ : Bx)].length ≤ 1000000 := by rw [List.length_singleton]; omega
  have HSZ := Lib.hid hsz
  clear k2 hO HR1 HKK
  refine wp_region_noPanic ?_
  go_region_law (first | (refine Rw.step_app fT (by rfl) (.tmp 8) (.tmp 10) (by rfl) base (by rfl) (by exact HR2.out) (by rfl) (by exact HS2.out) (by exact hsm) (by exact hbs.out) ?_; intro v' w' hA; have HA := Lib.hid hA; obtain ⟨a', c', rfl, _⟩ := hA.row.slice; have hB4 := Blk.heap HB2.out (hA.kept.block b HB2.out.lt (fun e => hT b e rfl)); have tt := hB4.cell h0; have tf := hB4.frozen o; clear hA))
  all_goals
    refine NoPanic.normal ?_
    have HA' := HA.out
    rw [List.length_append, List.length_singleton] at HA'
    have k3 : Kept (fun i => i = b ∨ (Value.slice av K.length cv).ownBlock = some i) w w' := (HK2.out.mono (fun _ _ f => f.elim)).trans (HA'.kept.mono (fun i _ e => Or.inr e))
    have k4 := k3.set (b := b) (fun _ => Or.inl rfl) o (.slice a' (K.length + 1) c')
    have hB5 := hB4.set o (.slice a' (K.length + 1) c')
    have hR5 : Rw.Row fT (w'.setCell ⟨b, o, none⟩ (.slice a' (K.length + 1) c')) base (.slice a' (K.length + 1) c') (K ++ [⟨⟨x1, x2, x3, x4, x5, x6, x7, x8, x9, xd⟩, xa, xc, xq⟩]) := HA'.row.kept (Kept.one w' b o _) (fun j e1 e2 => by
      subst e2
      rcases HA'.lies j e1 with h | h
      · exact hT j h rfl
      · have h2 := HK2.out.size; have h3 := HB2.out.lt; have h4 := HOB.out; have h5 := hblt; have h6 := HSZ.out; omega)
    have hL5 : ∀ g, (Value.slice a' (K.length + 1) c').ownBlock = some g → (Value.slice av K.length cv).ownBlock = some g ∨ w.heap.size ≤ g := fun g e => (HA'.lies g e).imp id (fun h => by have := HK2.out.size; omega)
    have FIN := Lib.hid (And.intro hB5 (And.intro hR5 (And.intro k4 hL5)))
    clear HA' k4 hB5 hR5 hL5 tt tf hB4 b0 e0 e1 e2 e3 e4 e5 e6 e7 e8 e9 HA HR2 HB2 HK2 HS2 k3
    go_wp2_with fail
    go_end0
    exact ⟨rfl, _, FIN.out⟩
/-- A row behind a place, as a source. -/
theorem src_cut {w : World} {base n c : Nat} {a : Option Addr} {Z L : List Bx} (h : Rw.Row fT w base (.slice a n c) (Z ++ L)) : Rw.Src fT w (.slice (if c = Z.length then a else Option.map (fun x => x.add (Z.length * 10)) a) (n - Z.length) (c - Z.length)) L := by
  rcases h.form with ⟨e, h0⟩ | ⟨g, cap, cur, e, h1, h2⟩
  · cases e
    obtain ⟨rfl, rfl⟩ := List.append_eq_nil_iff.1 h0
    exact Or.inl ⟨rfl, rfl⟩
  · cases e
    have hl := h2.le
    rw [List.length_append] at hl
    have key := h2.src Z.length L.length (c - Z.length) (by rw [List.length_append]; omega)
    rw [List.drop_left, List.take_length] at key
    have e1 : (Z ++ L).length - Z.length = L.length := by rw [List.length_append]; omega
    rw [e1]
    by_cases hc : c = Z.length
    · have hL : L = [] := List.length_eq_zero_iff.1 (by omega)
      subst hL
      rw [if_pos hc]
      exact Or.inr ⟨_, _, rfl, fun j u hj => by simp [Rw.flat] at hj⟩
    · rw [if_neg hc]
      have e2 : Option.map (fun x => Addr.add x (Z.length * 10)) (some (⟨g, 0, none⟩ : Addr)) = some ⟨g, Z.length * 10, none⟩ := by
        rw [Option.map_some, Go.WideShapes.add_plain, Nat.zero_add]
      rw [e2]
      exact key
/-- The others move to the front. -/
theorem iclose_any {w : World} {b o base : Nat} {T : TypeId} {cc : List Value} {v : Value} {Z L : List Bx} (hB : Blk w b cc T) (h0 : cc[o]? = some v) (h1 : cc[o + 1]? = some (.int .i64 (Z.length : Nat))) (hR : Rw.Row fT w base v (Z ++ L)) (hK : (Z ++ L).length ≤ 100000) (hbase : base ≤ w.heap.size) :
    Calls Try.prog 98 #[.pointer (some ⟨b, o, none⟩)] w fun e w' => e = .returned (.tuple #[]) ∧
      ∃ v', Blk w' b ((cc.set o v').set (o + 1) (.int .i64 0)) T ∧ Rw.Row fT w' base v' L ∧ Kept (fun i => i = b) w w' ∧ ∀ g, v'.ownBlock = some g → w.heap.size ≤ g := by
  have hlt := hB.lt
  obtain ⟨av, cv, rfl, hc1, hc2⟩ : ∃ a c, v = .slice a (Z ++ L).length c ∧ (Z ++ L).length ≤ c ∧ c ≤ maxLen := hR.slice
  have b0 := hB.cell h0
  have b1 := hB.cell h1
  have fb0 := hB.frozen o
  have fb1 := hB.frozen (o + 1)
  have HS := Lib.hid (src_cut hR)
  have HS' := Lib.hid (src_cut (hR.old (Kept.refl (fun _ => False) w).drew))
  have HN := Lib.hid (Rw.Row.none fT w w.heap.size)
  have HN' := Lib.hid (Rw.Row.none fT w.drew w.heap.size)
  have hbs : Hid (w.heap.size ≤ w.heap.size) := Lib.hid (Nat.le_refl _)
  have hbs' : Hid (w.heap.size ≤ w.drew.heap.size) := Lib.hid (Nat.le_refl _)
  have hsm : ([] : List Bx).length + L.length ≤ 1000000 := by rw [List.length_append] at hK; rw [List.length_nil]; omega
  have hZ : Z.length ≤ (Z ++ L).length := by rw [List.length_append]; omega
  have HB := Lib.hid hB
  clear hB hR
  generalize hn : (Z ++ L).length = n at *
  generalize hz : Z.length = z at *
  go_enter Try.func98, Try.ntmps98
  go_upto_region 0 with fail
  refine wp_region_noPanic ?_
  go_region_law (refine Rw.step_app fT (by rfl) (.const (.slice none 0 0)) (.tmp 11) (by rfl) w.heap.size (by rfl) (by first | exact HN.out | exact HN'.out) (by rfl) (by first | exact HS.out | exact HS'.out) (by exact hsm) (by first | exact hbs.out | exact hbs'.out) ?_; intro v' w' hA; have HA := Lib.hid hA; obtain ⟨a', c', rfl, _⟩ := hA.row.slice; have hB4 := Blk.heap HB.out (hA.kept.block b HB.out.lt (fun e => by cases e)); have tt := hB4.cell h0; have tf := hB4.frozen o; clear hA)
  all_goals
    refine NoPanic.normal ?_
    rw [List.nil_append] at HA
    have HR' : Rw.Row fT w' w.heap.size (.slice a' L.length c') L := HA.out.row
    have HKk : Kept (fun _ => False) w w' := HA.out.kept.mono (fun _ _ e => by cases e) |> fun k => ⟨k.os, k.tape, k.output, k.size, k.block⟩
    have hlies : ∀ g, (Value.slice a' L.length c').ownBlock = some g → w.heap.size ≤ g := fun g e => (HR'.lt g e).1
    have k4 := ((HKk.mono (G := fun i => i = b) (fun _ _ f => f.elim)).set (b := b) (fun _ => rfl) o (.slice a' L.length c')).set (b := b) (fun _ => rfl) (o + 1) (.int .i64 0)
    have hB5 := (hB4.set o (.slice a' L.length c')).set (o + 1) (.int .i64 0)
    have hR5 := (HR'.kept (Kept.one w' b o (.slice a' L.length c')) (fun j e1 e2 => by have := hlies j e1; omega)).kept (Kept.one _ b (o + 1) (.int .i64 0)) (fun j e1 e2 => by have := hlies j e1; omega)
    have FIN := Lib.hid (And.intro hB5 (And.intro (hR5.base (b' := base) (fun g e => Nat.le_trans hbase (hlies g e))) (And.intro k4 hlies)))
    have tt1 := hB4.frozen (o + 1)
    have tt2 := hB4.cell h1
    clear HR' HKk hlies k4 hB5 hR5 tt tf hB4 b0 b1 HA HS HS' HN HN' hbs hbs' hsm fb0 fb1
    generalize (if cv = z then av else Option.map (fun x => x.add (z * 10)) av) = sa at *
    go_wp2_with fail
    go_end0
    exact ⟨rfl, _, FIN.out⟩
end Go.Proofs.Ytompbpiaapenaaa.Fb

/- A net in memory; its readers: has, leafOf, Leaf, Leaves, Ports, Up, Hops, spineOf, the numbers of ports. Conditions: each theorem's own. -/
namespace Go.Proofs.Ytompbpiaapenaaa.Tp
open Go.RowKit Hp TpM
attribute [local go_sem ↓] Go.wp_at_zero Go.wp_at_succ
/-- A net of the program's. -/
abbrev NV (w : World) (b : Nat) (H S : Int) : Prop := Blk w b [.int .i64 H, .int .i64 S] 145
abbrev ptr (b : Nat) : Value := .pointer (some ⟨b, 0, none⟩)
variable {w : World} {b : Nat} {H S : Int}
theorem ret_int {k : IntKind} {a b : Int} (h : a = b) : Ending.returned (.int k a) = .returned (.int k b) := by rw [h]
theorem has_yes (hB : NV w b H S) {x : Int} (h0 : 0 ≤ x) (h1 : x < H) : Calls Try.prog 91 #[ptr b, .int .i64 x] w fun e w' => e = .returned (.bool true) ∧ w = w' := by
  have c0 := hB.cell (o := 0) rfl
  go_enter Try.func91, Try.ntmps91
  go_wp2_with fail
  go_ret
  exact ⟨rfl, rfl⟩
theorem has_no (hB : NV w b H S) {x : Int} (h : x < 0 ∨ H ≤ x) : Calls Try.prog 91 #[ptr b, .int .i64 x] w fun e w' => e = .returned (.bool false) ∧ w = w' := by
  have c0 := hB.cell (o := 0) rfl
  rcases (show ¬ 0 ≤ x ∨ (0 ≤ x ∧ ¬ x < H) by omega) with h1 | ⟨h1, h2⟩
  all_goals
    go_enter Try.func91, Try.ntmps91
    go_wp2_with fail
    go_ret
    exact ⟨rfl, rfl⟩
theorem has_nil (x : Int) (w : World) : Calls Try.prog 91 #[.pointer none, .int .i64 x] w fun e w' => e = .returned (.bool false) ∧ w = w' := by
  go_enter Try.func91, Try.ntmps91
  go_wp2_with fail
  go_ret
  exact ⟨rfl, rfl⟩
theorem leafOf_any {x : Int} (h0 : 0 ≤ x) (h1 : x < 1000) (w : World) : Calls Try.prog 94 #[.int .i64 x] w fun e w' => e = .returned (.int .i64 (x / 2)) ∧ w = w' := by
  go_enter Try.func94, Try.ntmps94
  go_wp2_with fail
  go_ret
  exact ⟨rfl, rfl⟩
theorem up1_any (x : Int) (w : World) : Calls Try.prog 92 #[.int .i64 x] w fun e w' => e = .returned (.int .i64 x) ∧ w = w' := by
  go_enter Try.func92, Try.ntmps92
  go_wp2_with fail
  go_ret
  exact ⟨rfl, rfl⟩
theorem leaves_any (hB : NV w b H S) (n : Net H S) : Calls Try.prog 107 #[ptr b] w fun e w' => e = .returned (.int .i64 (lv H)) ∧ w = w' := by
  have c0 := hB.cell (o := 0) rfl
  have h0 := n.h0
  have h1 := n.h1
  go_enter Try.func107, Try.ntmps107
  go_wp2_with fail
  go_ret
  exact ⟨ret_int (by unfold lv; omega), rfl⟩
theorem leaves_nil (w : World) : Calls Try.prog 107 #[.pointer none] w fun e w' => e = .returned (.int .i64 0) ∧ w = w' := by
  go_enter Try.func107, Try.ntmps107
  go_wp2_with fail
  go_ret
  exact ⟨rfl, rfl⟩
theorem ports_nil (w : World) : Calls Try.prog 60 #[.pointer none] w fun e w' => e = .returned (.int .i64 0) ∧ w = w' := by
  go_enter Try.func60, Try.ntmps60
  go_wp2_with fail
  go_ret
  exact ⟨rfl, rfl⟩
theorem l2h_any (hB : NV w b H S) (n : Net H S) {x : Int} (h0 : 0 ≤ x) (h1 : x ≤ 8) : Calls Try.prog 97 #[ptr b, .int .i64 x] w fun e w' => e = .returned (.int .i64 (H + x)) ∧ w = w' := by
  have c0 := hB.cell (o := 0) rfl
  have h2 := n.h0
  have h3 := n.h1
  go_enter Try.func97, Try.ntmps97
  go_wp2_with fail
  go_ret
  exact ⟨rfl, rfl⟩
/-- A product of small numbers is none too great. -/
theorem mul_small {l n : Int} (h0 : 0 ≤ l) (h1 : l ≤ 4) (h2 : 0 ≤ n) (h3 : n ≤ 4) : 0 ≤ l * n ∧ l * n ≤ 16 := by
  have e : l = 0 ∨ l = 1 ∨ l = 2 ∨ l = 3 ∨ l = 4 := by omega
  rcases e with rfl | rfl | rfl | rfl | rfl <;> omega
theorem l2s_any (hB : NV w b H S) (n : Net H S) {l x : Int} (h0 : 0 ≤ l) (h1 : l ≤ 4) (h2 : 0 ≤ x) (h3 : x ≤ 4) : Calls Try.prog 95 #[ptr b, .int .i64 l, .int .i64 x] w fun e w' => e = .returned (.int .i64 (2 * H + (l * S + x))) ∧ ∃ m, w' = w.drewN m := by
  have c0 := hB.cell (o := 0) rfl
  have c1 := hB.cell (o := 1) rfl
  have C := Lib.hid fun k => l2h_any (hB.drewN k) n (x := H) (by have := n.h0; omega) n.h1
  have ⟨m0, m1⟩ := mul_small h0 h1 (n := S) (by have := n.s0; omega) n.s1
  have g0 := n.h0
  have g1 := n.h1
  obtain ⟨p, hp⟩ : ∃ p, p = l * S := ⟨_, rfl⟩
  rw [← hp] at m0 m1 ⊢
  have hw : IntKind.i64.wrap (l * S) = p := by rw [← hp, IntKind.wrap_i64]; omega
  clear hp
  go_enter Try.func95, Try.ntmps95
  go_upto_region 1 with fail
  go_quiet ((go_at_call 97; exact Calls.quiet_of_same ((C.out _).mono fun _ _ ⟨e1, e2⟩ => ⟨e1, e2.symm⟩)))
  go_wp2_with fail
  go_ret
  exact ⟨ret_int (by omega), _, rfl⟩
theorem s2l_any (hB : NV w b H S) (n : Net H S) {x l : Int} (h0 : 0 ≤ x) (h1 : x ≤ 4) (h2 : 0 ≤ l) (h3 : l ≤ 4) : Calls Try.prog 87 #[ptr b, .int .i64 x, .int .i64 l] w fun e w' => e = .returned (.int .i64 (2 * H + mm H S + (x * lv H + l))) ∧ ∃ m, w' = w.drewN m := by
  have hl := lv_in n
  have L := Lib.hid fun k => leaves_any (hB.drewN k) n
  have C := Lib.hid (l2s_any hB n (l := lv H) (x := 0) (by omega) hl.2.1 (by omega) (by omega))
  have ⟨m0, m1⟩ := mul_small h0 h1 (n := lv H) (by omega) hl.2.1
  have ⟨m2, m3⟩ := mm_in n
  have L0 := Lib.hid (leaves_any hB n)
  have g0 := n.h0
  have g1 := n.h1
  have e : lv H * S = mm H S := rfl
  rw [e] at C
  clear e
  generalize mm H S = M at *
  generalize lv H = q at *
  obtain ⟨p, hp⟩ : ∃ p, p = x * q := ⟨_, rfl⟩
  rw [← hp] at m0 m1 ⊢
  have hw : IntKind.i64.wrap (x * q) = p := by rw [← hp, IntKind.wrap_i64]; omega
  clear hp
  go_enter Try.func87, Try.ntmps87
  go_wp2_with fail
  with_reducible refine Calls.mono L0.out ?_
  rintro e w' ⟨rfl, rfl⟩
  go_wp2_with fail
  with_reducible refine Calls.mono C.out ?_
  rintro e w' ⟨rfl, k, rfl⟩
  go_wp2_with fail
  with_reducible refine Calls.mono (L.out k) ?_
  rintro e w' ⟨rfl, rfl⟩
  go_wp2_with fail
  go_ret
  exact ⟨ret_int (by omega), _, rfl⟩
theorem ports_any (hB : NV w b H S) (n : Net H S) : Calls Try.prog 60 #[ptr b] w fun e w' => e = .returned (.int .i64 (pts H S)) ∧ ∃ m, w' = w.drewN m := by
  have c1 := hB.cell (o := 1) rfl
  have C := Lib.hid (s2l_any hB n (x := S) (l := 0) (by have := n.s0; omega) n.s1 (by omega) (by omega))
  have e : 2 * H + mm H S + (S * lv H + 0) = pts H S := by have : S * lv H = mm H S := Int.mul_comm _ _; unfold pts; omega
  rw [e] at C
  clear e
  go_enter Try.func60, Try.ntmps60
  go_wp2_with fail
  with_reducible refine Calls.mono C.out ?_
  rintro e w' ⟨rfl, k, rfl⟩
  go_wp2_with fail
  go_ret
  exact ⟨rfl, _, rfl⟩
theorem spine_any (hB : NV w b H S) (n : Net H S) {q : Int} : Calls Try.prog 96 #[ptr b, .int .i64 q] w fun e w' => e = .returned (.int .i64 (sp S q)) ∧ w = w' := by
  have c1 := hB.cell (o := 1) rfl
  have hs := sp_in n q
  have g0 := n.s0
  have g1 := n.s1
  have hne : ¬ S = 0 := by omega
  have hne2 : (S == 0) = false := by rw [beq_eq_false_iff_ne]; exact hne
  have h1 : q.tmod S < S := Int.tmod_lt_of_pos q (by omega)
  unfold sp at hs ⊢
  obtain ⟨r, hr⟩ : ∃ r, q.tmod S = r := ⟨_, rfl⟩
  rw [hr] at hs h1 ⊢
  by_cases h : r < 0
  · rw [if_pos h] at hs ⊢
    go_enter Try.func96, Try.ntmps96
    go_wp2_with fail
    go_ret
    exact ⟨rfl, rfl⟩
  · rw [if_neg h] at hs ⊢
    go_enter Try.func96, Try.ntmps96
    go_wp2_with fail
    go_ret
    exact ⟨rfl, rfl⟩
/-- A host's leaf; -1. -/
def lf (H x : Int) : Int := if x < 0 ∨ H ≤ x then -1 else x / 2
theorem up_yes (hB : NV w b H S) {x : Int} (h0 : 0 ≤ x) (h1 : x < H) : Calls Try.prog 64 #[ptr b, .int .i64 x] w fun e w' => e = .returned (.int .i64 x) ∧ w = w' := by
  have C := Lib.hid (has_yes hB h0 h1)
  have D := Lib.hid fun w => up1_any x w
  go_enter Try.func64, Try.ntmps64
  go_wp2_with fail
  with_reducible refine Calls.mono C.out ?_
  rintro e w' ⟨rfl, rfl⟩
  go_wp2_with fail
  with_reducible refine Calls.mono (D.out _) ?_
  rintro e w' ⟨rfl, rfl⟩
  go_wp2_with fail
  go_ret
  exact ⟨rfl, rfl⟩
theorem up_off {p : Value} {x : Int} (C : Hid (Calls Try.prog 91 #[p, .int .i64 x] w fun e w' => e = .returned (.bool false) ∧ w = w')) : Calls Try.prog 64 #[p, .int .i64 x] w fun e w' => e = .returned (.int .i64 (-1)) ∧ w = w' := by
  go_enter Try.func64, Try.ntmps64
  go_wp2_with fail
  with_reducible refine Calls.mono C.out ?_
  rintro e w' ⟨rfl, rfl⟩
  go_wp2_with fail
  go_ret
  exact ⟨rfl, rfl⟩
/-- A host's way up; -1. -/
def upn (H x : Int) : Int := if x < 0 ∨ H ≤ x then -1 else x
theorem up_any (hB : NV w b H S) (x : Int) : Calls Try.prog 64 #[ptr b, .int .i64 x] w fun e w' => e = .returned (.int .i64 (upn H x)) ∧ w = w' := by
  unfold upn
  split
  · rename_i h
    exact up_off (Lib.hid (has_no hB h))
  · rename_i h
    exact up_yes hB (by omega) (by omega)
end Go.Proofs.Ytompbpiaapenaaa.Tp

/- A port by its number: way, Next. Conditions: each theorem's own. -/
namespace Go.Proofs.Ytompbpiaapenaaa.Tp
open Go.RowKit Hp TpM
attribute [local go_sem ↓] Go.wp_at_zero Go.wp_at_succ
abbrev tW : TypeId := 149
/-- A way as a value. -/
def wv (t : Int × Int × Int) : Value := .agg #[.int .i64 t.1, .int .i64 t.2.1, .int .i64 t.2.2]
variable {w : World} {b : Nat} {H S : Int}
theorem set3 {w : World} {r : Nat} {a b c : Value} (hO : Blk w r [a, b, c] tW) (x y z : Value) :
    Blk (((w.setCell ⟨r, 0, none⟩ x).setCell ⟨r, 1, none⟩ y).setCell ⟨r, 2, none⟩ z) r [x, y, z] tW := ((hO.set 0 x).set 1 y).set 2 z
theorem kept3 {w0 w : World} {r : Nat} (hk : Kept (fun _ => False) w0 w) (hr : w0.heap.size = r) (x y z : Value) :
    Kept (fun _ => False) w0 (((w.setCell ⟨r, 0, none⟩ x).setCell ⟨r, 1, none⟩ y).setCell ⟨r, 2, none⟩ z) :=
  ((hk.set (b := r) (fun h => by omega) _ _).set (b := r) (fun h => by omega) _ _).set (b := r) (fun h => by omega) _ _
theorem way_none {p : Value} {x : Int} (h : (x < 0) ∨ ∃ P : Int, ¬ x < 0 ∧ P ≤ x ∧ Hid (∀ w', Kept (fun _ => False) w w' → Calls Try.prog 60 #[p] w' fun e w'' => e = .returned (.int .i64 P) ∧ ∃ m, w'' = w'.drewN m)) :
    Calls Try.prog 93 #[p, .int .i64 x] w fun e w' => e = .returned (wv (0, 0, 0)) ∧ Kept (fun _ => False) w w' := by
  go_enter Try.func93, Try.ntmps93
  go_upto_region 1 with fail
  have hO := Blk.new w [.int .i64 0, .int .i64 0, .int .i64 0] tW
  have hk := (Kept.refl (fun _ => False) w).alloc (.cells [.int .i64 0, .int .i64 0, .int .i64 0].toArray tW)
  dsimp only [List.toArray] at hO hk
  generalize w.alloc (.cells #[.int .i64 0, .int .i64 0, .int .i64 0] tW) = w1 at *
  obtain ⟨rb, hrb⟩ : ∃ rb, w.heap.size = rb := ⟨_, rfl⟩
  rw [hrb] at hO
  simp only [hrb]
  have HR := Lib.hid hrb
  clear hrb
  have f0 := hO.frozen 0
  have f1 := hO.frozen 1
  have f2 := hO.frozen 2
  have q0 := hO.cell (o := 0) rfl
  have q1 := hO.cell (o := 1) rfl
  have q2 := hO.cell (o := 2) rfl
  have hO2 := set3 hO (.int .i64 0) (.int .i64 0) (.int .i64 0)
  have HK := Lib.hid (kept3 hk HR.out (.int .i64 0) (.int .i64 0) (.int .i64 0))
  have HK1 := Lib.hid hk
  have HO := Lib.hid hO
  have z0 := hO2.cell (o := 0) rfl
  have z1 := hO2.cell (o := 1) rfl
  have z2 := hO2.cell (o := 2) rfl
  clear hO hO2 hk
  rcases h with h | ⟨P, h, h2, C⟩
  · go_wp2_with fail
    exact bodyPost_ret (v := wv (0, 0, 0)) (by simp [results, Try.results93, go_sem, z0, z1, z2, wv]) rfl ⟨rfl, HK.out⟩
  · go_wp2_with fail
    with_reducible refine Calls.mono (C.out _ HK1.out) ?_
    rintro e w2 ⟨rfl, m, rfl⟩
    have y0 := (set3 (HO.out.drewN m) (.int .i64 0) (.int .i64 0) (.int .i64 0)).cell (o := 0) rfl
    have y1 := (set3 (HO.out.drewN m) (.int .i64 0) (.int .i64 0) (.int .i64 0)).cell (o := 1) rfl
    have y2 := (set3 (HO.out.drewN m) (.int .i64 0) (.int .i64 0) (.int .i64 0)).cell (o := 2) rfl
    have HK2 := Lib.hid (kept3 (HK1.out.drewN m) HR.out (.int .i64 0) (.int .i64 0) (.int .i64 0))
    go_wp2_with fail
    exact bodyPost_ret (v := wv (0, 0, 0)) (by simp [results, Try.results93, go_sem, y0, y1, y2, wv]) rfl ⟨rfl, HK2.out⟩
theorem way_nil (x : Int) (w : World) : Calls Try.prog 93 #[.pointer none, .int .i64 x] w fun e w' => e = .returned (wv (0, 0, 0)) ∧ Kept (fun _ => False) w w' := by
  refine way_none ?_
  by_cases h : x < 0
  · exact Or.inl h
  · exact Or.inr ⟨0, h, by omega, Lib.hid fun w' _ => (ports_nil w').mono fun e w'' ⟨h1, h2⟩ => ⟨h1, 0, h2 ▸ rfl⟩⟩
end Go.Proofs.Ytompbpiaapenaaa.Tp

