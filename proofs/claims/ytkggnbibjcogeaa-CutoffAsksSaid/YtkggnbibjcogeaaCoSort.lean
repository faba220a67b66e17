/- A slice's numbers in rising order, by the library. Conditions: each theorem's own. -/
import Derived.Test.YtkggnbibjcogeaaCoIt
import Derived.Test.YtkggnbibjcogeaaCoMath
import Derived.Test.YtkggnbibjcogeaaRo
import Derived.Shelf.SortM.Plain
import Derived.Shelf.SortM.SortNone
import Derived.Lib.SlKeysI
import Derived.WalkKit
import Derived.Outline
import Derived.ProofKit
import Derived.Deep.QuietTactic
import Derived.WalkLawsBesides
set_option linter.unusedVariables false
namespace Go.Proofs.Ytkggnbibjcogeaa.CoS
open Go.RowKit Hp CoM
def sortInts_ren : Go.Shelf.Ren := ⟨fun | 5 => 63 | 8 => 83 | 7 => 82 | 19 => 102 | 20 => 103 | 10 => 94 | 11 => 95 | 12 => 96 | 13 => 97 | 14 => 98 | 15 => 99 | 16 => 66 | 17 => 100 | 18 => 101 | 30 => 108 | 31 => 109 | 32 => 110 | 33 => 111 | 34 => 112 | 35 => 84 | 40 => 113 | n => n, fun | 23 => 22 | 25 => 3 | 3 => 3 | 32 => 109 | 22 => 22 | 0 => 0 | 44 => 146 | 46 => 48 | 4 => 4 | 36 => 140 | 35 => 139 | 41 => 76 | 5 => 5 | 9 => 9 | 53 => 149 | 57 => 153 | 63 => 155 | 64 => 107 | n => n, fun | n => n⟩
theorem sortInts : Go.Proofs.SlLaysM.n5 Try.prog sortInts_ren := {
  mixed := by kernel_rfl
  f5 := ⟨Try.f63.name, by decide, Try.func63.trans (congrArg some (by kernel_rfl))⟩
  f7 := ⟨Try.f82.name, by decide, Try.func82.trans (congrArg some (by kernel_rfl))⟩
  f8 := Try.func83.trans (congrArg some (by kernel_rfl))
  f10 := ⟨Try.f94.name, by decide, Try.func94.trans (congrArg some (by kernel_rfl))⟩
  f11 := ⟨Try.f95.name, by decide, Try.func95.trans (congrArg some (by kernel_rfl))⟩
  f12 := ⟨Try.f96.name, by decide, Try.func96.trans (congrArg some (by kernel_rfl))⟩
  f13 := ⟨Try.f97.name, by decide, Try.func97.trans (congrArg some (by kernel_rfl))⟩
  f14 := ⟨Try.f98.name, by decide, Try.func98.trans (congrArg some (by kernel_rfl))⟩
  f15 := ⟨Try.f99.name, by decide, Try.func99.trans (congrArg some (by kernel_rfl))⟩
  f16 := ⟨Try.f66.name, by decide, Try.func66.trans (congrArg some (by kernel_rfl))⟩
  f17 := ⟨Try.f100.name, by decide, Try.func100.trans (congrArg some (by kernel_rfl))⟩
  f18 := ⟨Try.f101.name, by decide, Try.func101.trans (congrArg some (by kernel_rfl))⟩
  f19 := Try.func102.trans (congrArg some (by kernel_rfl))
  f20 := Try.func103.trans (congrArg some (by kernel_rfl))
  f30 := ⟨Try.f108.name, by decide, Try.func108.trans (congrArg some (by kernel_rfl))⟩
  f31 := Try.func109.trans (congrArg some (by kernel_rfl))
  f32 := Try.func110.trans (congrArg some (by kernel_rfl))
  f33 := ⟨Try.f111.name, by decide, Try.func111.trans (congrArg some (by kernel_rfl))⟩
  f34 := ⟨Try.f112.name, by decide, Try.func112.trans (congrArg some (by kernel_rfl))⟩
  f35 := ⟨Try.f84.name, by decide, Try.func84.trans (congrArg some (by kernel_rfl))⟩
  f40 := ⟨Try.f113.name, by decide, Try.func113.trans (congrArg some (by kernel_rfl))⟩
  t0 := Try.underlying0
  a0 := Try.isAgg0
  z0 := Try.sizeOf0
  v0 := Try.zeroValue0
  t3 := Try.underlying3
  a3 := Try.isAgg3
  z3 := Try.sizeOf3
  v3 := Try.zeroValue3
  t4 := Try.underlying4
  a4 := Try.isAgg4
  z4 := Try.sizeOf4
  v4 := Try.zeroValue4
  t5 := Try.underlying5
  a5 := Try.isAgg5
  z5 := Try.sizeOf5
  v5 := Try.zeroValue5
  t9 := Try.underlying9
  a9 := Try.isAgg9
  z9 := Try.sizeOf9
  v9 := Try.zeroValue9
  t22 := Try.underlying22
  a22 := Try.isAgg22
  z22 := Try.sizeOf22
  v22 := Try.zeroValue22
  t23 := Try.underlying22
  a23 := Try.isAgg22
  z23 := Try.sizeOf22
  v23 := Try.zeroValue22
  t25 := Try.underlying3
  a25 := Try.isAgg3
  z25 := Try.sizeOf3
  v25 := Try.zeroValue3
  t32 := Try.underlying109
  a32 := Try.isAgg109
  z32 := Try.sizeOf109
  v32 := Try.zeroValue109
  t35 := Try.underlying139
  a35 := Try.isAgg139
  z35 := Try.sizeOf139
  v35 := Try.zeroValue139
  t36 := Try.underlying140
  a36 := Try.isAgg140
  z36 := Try.sizeOf140
  v36 := Try.zeroValue140
  t41 := Try.underlying76
  a41 := Try.isAgg76
  z41 := Try.sizeOf76
  v41 := Try.zeroValue76
  t44 := Try.underlying146
  a44 := Try.isAgg146
  z44 := Try.sizeOf146
  v44 := Try.zeroValue146
  t46 := Try.underlying48
  a46 := Try.isAgg48
  z46 := Try.sizeOf48
  v46 := Try.zeroValue48
  t53 := Try.underlying149
  a53 := Try.isAgg149
  z53 := Try.sizeOf149
  v53 := Try.zeroValue149
  t57 := Try.underlying153
  a57 := Try.isAgg153
  z57 := Try.sizeOf153
  v57 := Try.zeroValue153
  t63 := Try.underlying155
  a63 := Try.isAgg155
  z63 := Try.sizeOf155
  v63 := Try.zeroValue155
  t64 := Try.underlying107
  a64 := Try.isAgg107
  z64 := Try.sizeOf107
  v64 := Try.zeroValue107 }
/-- One number's cell. -/
@[reducible] def nT : Rw.Ty Int where
  E := 3
  L := 22
  k := 1
  bz := 8
  enc := fun x => [.int .i64 x]
  z := .int .i64 0
  hL := Try.underlying22
  hI := by kernel_rfl
  hz := rfl
  hk := fun x => rfl
  h1 := fun x v hv => by
    simp only [List.mem_cons, List.not_mem_nil, or_false] at hv
    subst hv; rfl
  k0 := by decide
  hb := by decide
theorem flat_n : ∀ l : List Int, Rw.flat nT l = l.map (Value.int .i64)
  | [] => rfl
  | x :: l => by
    have := flat_n l
    unfold Rw.flat at this ⊢
    rw [List.flatMap_cons, this]; rfl
theorem kept_of {W W' : World} (h : Below W.heap.size W W') : Kept (fun _ => False) W W' := ⟨h.os, h.tape, h.output, h.size, fun k hk _ => h.block k hk⟩
theorem values_any (v : Value) (hv : ∃ a n c, v = .slice a n c) (w : World) :
    Calls Try.prog 37 #[v] w fun e w' => e = .returned (.func (.func 64) #[] #[.pointer (some ⟨w.heap.size, 0, none⟩)]) ∧ Blk w' w.heap.size [v] 22 ∧ Kept (fun _ => False) w w' := by
  obtain ⟨a, n, c, rfl⟩ := hv
  refine Calls.mono ((callsIn_wide (n := 6)).1 (CoI.values_in Fence.wide 6 trivial rfl a n c w)) ?_
  rintro e w' ⟨rfl, rfl⟩
  exact ⟨rfl, Blk.new w [.slice a n c] _, (Kept.refl _ w).alloc _⟩
theorem collect_any {w : World} {Bs : Nat} {v : Value} {l : List Int} (hl : l.length ≤ 1000000) (hB : Blk w Bs [v] 22) (hI : CoI.Nums w.heap.size w v l) :
    Calls Try.prog 62 #[.func (.func 64) #[] #[.pointer (some ⟨Bs, 0, none⟩)]] w fun e w' => ∃ v', e = .returned v' ∧ Rw.Row nT w' w.heap.size v' l ∧ Kept (fun _ => False) w w' := by
  refine Calls.mono ((callsIn_wide (n := 6)).1 (CoI.collect_in Fence.wide 6 trivial trivial trivial rfl (by omega) Bs v l hl w hB.lt (hB.cell rfl) hI)) ?_
  rintro e w' ⟨v', rfl, hrow, hb⟩
  refine ⟨v', rfl, ?_, kept_of hb⟩
  unfold Rw.Row
  rw [flat_n]
  exact hrow
theorem grown_sort {w w' : World} {g : Nat} (h : w.grownBy w' (some g)) : Kept (fun j => j = g) w w' := (Rw.grown_kept h).mono fun i _ e => (Option.some.inj e).symm
/-- The library's sort. -/
theorem sort_any {w : World} {base : Nat} {v : Value} {l : List Int} (hl : l.length ≤ 1000000) (h : Rw.Row nT w base v l) :
    Calls Try.prog 63 #[v] w fun e w' => e = .returned (.tuple #[]) ∧ Rw.Row nT w' base v (srt l) ∧ Kept (fun j => v.ownBlock = some j) w w' := by
  rcases h.2 with ⟨rfl, h0⟩ | ⟨g, cap, cur, rfl, h1, h2, h3, h4, h5, h6⟩
  · obtain rfl := List.length_eq_zero_iff.1 h0
    refine Calls.mono (Go.Proofs.AnyM.slices_Sort_int_none sortInts none 0 w) ?_
    rintro e w' ⟨rfl, rfl⟩
    exact ⟨rfl, by rw [List.eq_nil_of_length_eq_zero (srt_len [])]; exact h, Kept.refl _ _⟩
  · rw [flat_n, Nat.mul_one] at h6
    have hH := holds_of_block_i h2 h6
    refine Calls.mono (Go.Proofs.AnyM.slices_Sort_int sortInts g 0 cap l w hH (Array.getElem?_eq_some_iff.1 h2).1 (by omega)) ?_
    rintro e w' ⟨rfl, n, os, rfl⟩
    refine ⟨rfl, ?_, (grown_sort (grownBy_sorted_i _)).mono fun i _ e => by rw [e]; rfl⟩
    unfold Rw.Row
    rw [flat_n, srt_len]
    exact ownsRow_sorted_i (srt_len l) h1 h2 h3 h4 h5
set_option maxHeartbeats 1000000 in
theorem sorted_any {w : World} {Bs : Nat} {v : Value} {l : List Int} (hl : l.length ≤ 1000000) (hB : Blk w Bs [v] 22) (hI : CoI.Nums w.heap.size w v l) :
    Calls Try.prog 36 #[.func (.func 64) #[] #[.pointer (some ⟨Bs, 0, none⟩)]] w fun e w' => ∃ v', e = .returned v' ∧ Rw.Row nT w' w.heap.size v' (srt l) ∧ Kept (fun _ => False) w w' := by
  have C := Lib.hid (collect_any hl hB hI)
  have HL := Lib.hid hl
  clear hB hI hl
  go_enter Try.func36, Try.ntmps36
  go_wp2_with fail
  with_reducible refine Calls.mono C.out ?_
  rintro e w1 ⟨v1, rfl, hR, hk⟩
  have S := Lib.hid (sort_any HL.out hR)
  have HK := Lib.hid hk
  have HR := Lib.hid hR
  clear hR hk
  go_wp2_with fail
  with_reducible refine Calls.mono S.out ?_
  rintro e w2 ⟨rfl, hR2, hk2⟩
  go_wp2_with fail
  go_ret
  exact ⟨v1, rfl, hR2, HK.out.trans' hk2 (fun i hi e => by have := (HR.out.lt i e).1; omega)⟩
/-- A row's numbers. -/
theorem nums_of {w : World} {v : Value} {l : List Int} (h : Ro.Row nT w v l) : CoI.Nums w.heap.size w v l := by
  rcases h with ⟨rfl, rfl⟩ | ⟨g, o, cap, cur, rfl, h2⟩
  · exact Or.inl ⟨rfl, rfl⟩
  · refine Or.inr ⟨g, o, cap, rfl, h2.blk.lt, fun j hj => ?_⟩
    have := h2.cell (List.getElem?_eq_getElem hj) (j := 0) (u := .int .i64 l[j]) rfl
    rw [Nat.add_zero, Nat.mul_one] at this
    simpa [hj] using this
end Go.Proofs.Ytkggnbibjcogeaa.CoS
