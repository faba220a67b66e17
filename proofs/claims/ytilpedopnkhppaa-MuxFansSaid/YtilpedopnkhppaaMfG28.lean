/- MuxFans' comparison: what was gathered, and who was asked. Conditions: each theorem's own. -/
import Derived.Test.YtilpedopnkhppaaMfG27
set_option linter.unusedVariables false
set_option linter.unusedSimpArgs false
namespace Go.Proofs.Ytilpedopnkhppaa.MxS
open Go.Conc Go.Conc.Lib Br Go.RowKit Hp Rw Ro So Go.Proofs.Ytilpedopnkhppaa.Mx
noncomputable def lwB : Code := Try.f6.body.getD .skip
def lwR : Code → Code
 | .seq _ (.seq _ (.seq _ (.seq _ r))) => r
 | c => c
inductive FL (N : Int) (ab sb T ca : Nat) (oa : Option Addr) : Array Value → Prop
 | mk (u1 u2 u7 u8 u9 u10 u11 u12 u13 u14 u15 u16 u17 u18 u19 u20 u21 u22 u23 u24 u25 u26 u27 u28 u29 u30 u31 u32 u33 u34 u35 u36 u37 u38 u39 u40 u41 u42 u43 u44 u45 u46 u47 u48 u49 u50 u51 u52 u53 u54 u55 u56 u57 u58 u59 u60 u61 u62 u63 u64 u65 u66 u67 u68 u69 u70 u71 u72 u73 u74 u75 u76 u77 u78 u79 u80 u81 u82 u83 u84 u85 u86 u87 u88 u89 u90 u91 u92 u93 u94 u95 u96 u97 u98 u99 u100 u101 u102 u103 u104 : Value) : FL N ab sb T ca oa #[.int .i64 N, u1, u2, .pointer (some ⟨sb, 0, none⟩), .bool false, .pointer (some ⟨ab, 0, none⟩), .slice oa T ca, u7, u8, u9, u10, u11, u12, u13, u14, u15, u16, u17, u18, u19, u20, u21, u22, u23, u24, u25, u26, u27, u28, u29, u30, u31, u32, u33, u34, u35, u36, u37, u38, u39, u40, u41, u42, u43, u44, u45, u46, u47, u48, u49, u50, u51, u52, u53, u54, u55, u56, u57, u58, u59, u60, u61, u62, u63, u64, u65, u66, u67, u68, u69, u70, u71, u72, u73, u74, u75, u76, u77, u78, u79, u80, u81, u82, u83, u84, u85, u86, u87, u88, u89, u90, u91, u92, u93, u94, u95, u96, u97, u98, u99, u100, u101, u102, u103, u104]
theorem lw_ok : okCut Try.prog [] 10 (lwR lwB) = true := by kernel_rfl
structure Seen (v : World) (N : Int) (n size ab sb T ca : Nat) (oa : Option Addr) : Prop where
 hN : (n : Int) = N ∨ (N < 0 ∧ n = 0)
 n6 : n ≤ 60
 z5 : size ≤ 5
 tot : n * size = T
 box : Blk v sb [.int .i64 (size : Nat)] 3
 ask : ∃ aa cc, Blk v ab [.slice aa n cc] 28 ∧ ∀ i, i < n → ∃ g, aa = some ⟨g, 0, none⟩ ∧ v.cell? ⟨g, i, none⟩ = some (.int .i64 (i : Nat))
 ans : ∀ j, j < T → ∃ g, oa = some ⟨g, 0, none⟩ ∧ v.cell? ⟨g, j * 3, none⟩ = some (.int .i64 (j / size : Nat)) ∧ v.cell? ⟨g, j * 3 + 1, none⟩ = some (.int .i64 (j % size : Nat)) ∧ v.cell? ⟨g, j * 3 + 2, none⟩ = some (.string (ltr (j % size)))
def RL (v : World) (t : Array Value) (v' : World) : Prop := t.size = 105 ∧ t.getD 4 undef = .bool true ∧ v.heap.size ≤ v'.heap.size ∧ (∀ b, b < v.heap.size → v'.heap[b]? = v.heap[b]?)
theorem wpAnyH_more {P : Program} {md : Region.Mode} {ops : Array Oper} {Q : Exit → Act → World → Prop} {S S' : World → Prop} (h : ∀ w, S' w → S w) : ∀ (fuel : Nat) (listed : Array Bool) (a : Act) (w : World), wpAnyH P md ops Q S' fuel listed a w → wpAnyH P md ops Q S fuel listed a w
 | 0, _, _, _, H => H
 | fuel + 1, _, _, _, H => ⟨H.1, fun i hi => wpOp_mono (fun _ _ h' => ⟨h _ h'.1, wpAnyH_more h fuel _ _ _ h'.2⟩) (H.2 i hi)⟩
section
variable {v : World} {N : Int} {n size ab sb T ca : Nat} {oa : Option Addr}
set_option maxRecDepth 100000 in
set_option maxHeartbeats 16000000 in
theorem loops_wp (hS : Seen v N n size ab sb T ca oa) {t : Array Value} (ht : FL N ab sb T ca oa t) {c : Code} (hc : lwR lwB = c) :
  (cutCode 10 c).wp Try.prog (fun e a' w' => (e = .ret ∨ e = .normal) ∧ RL v a'.tmps w') ⟨t, []⟩ v := by
 obtain ⟨u1, u2, u7, u8, u9, u10, u11, u12, u13, u14, u15, u16, u17, u18, u19, u20, u21, u22, u23, u24, u25, u26, u27, u28, u29, u30, u31, u32, u33, u34, u35, u36, u37, u38, u39, u40, u41, u42, u43, u44, u45, u46, u47, u48, u49, u50, u51, u52, u53, u54, u55, u56, u57, u58, u59, u60, u61, u62, u63, u64, u65, u66, u67, u68, u69, u70, u71, u72, u73, u74, u75, u76, u77, u78, u79, u80, u81, u82, u83, u84, u85, u86, u87, u88, u89, u90, u91, u92, u93, u94, u95, u96, u97, u98, u99, u100, u101, u102, u103, u104⟩ := ht
 conv at hc => lhs; whnf
 subst hc
 have HS := Lib.hid hS
 have hn6 := hS.n6
 have hz5 := hS.z5
 have hbx := hS.box.cell (o := 0) rfl
 obtain ⟨aa, cc, hak, hac⟩ := hS.ask
 have hax := hak.cell (o := 0) rfl
 have HAC := Lib.hid hac
 have hmx : ∀ (ts : Array TypeId) (ty : TypeId) (w : World), (Builtin.max_ ts ty #[.int .i64 N, .int .i64 0]).run Try.prog w = .ok (.int .i64 (n : Nat)) w := fun ts ty w => by
  rw [run_max_int2]
  congr 2
  have := hS.hN
  split <;> omega
 have hT := hS.tot
 have hTb : T ≤ 300 := by
  have : n * size ≤ 60 * 5 := Nat.mul_le_mul hn6 hz5
  omega
 have hmul : IntKind.i64.wrap ((n : Int) * (size : Int)) = (T : Int) := by
  rw [← Int.natCast_mul, hT, IntKind.wrap_i64]; omega
 have HT := Lib.hid hT
 clear hS hak hac hT
 simp only [cutCode, gateOf, callsF, List.findIdx?, List.findIdx?.go, cutOps, Nat.reduceBEq, beq_self_eq_true, ↓reduceIte, Bool.false_eq_true, Nat.reduceAdd]
 simp only [List.take_succ_cons, List.take_zero, List.drop_succ_cons, List.drop_zero, List.map_cons, List.map_nil, List.nil_append, List.cons_append, idle]
 go_wp2_with fail
 go_loopg [8] (T + 1) (fun kx s8 wr => ∃ (j : Nat), Hid (T - j ≤ kx) ∧ j ≤ T ∧ s8 = .int .i64 (j : Nat) ∧ Hid (HK v wr))
 case atStart => exact ⟨0, Lib.hid (by omega), by omega, rfl, Lib.hid (HK.refl v)⟩
 case round =>
  obtain ⟨j, hm, hj, rfl, hw⟩ := hrel
  have hcel : ∀ a u, v.cell? a = some u → wr.cell? a = some u := fun a u h => cell_hk hw.out h
  have hbx2 := hcel _ _ hbx
  rcases Nat.lt_or_ge j T with hlt | hge
  ·obtain ⟨g, rfl, q0, q1, q2⟩ := HS.out.ans j hlt
   have hsz : 0 < size := by
    rcases Nat.eq_zero_or_pos size with h | h
    ·have := HT.out; rw [h] at this; omega
    ·exact h
   have hd1 : (j : Int).tdiv (size : Int) = ((j / size : Nat) : Int) := by rw [Int.tdiv_eq_ediv_of_nonneg (by omega)]; rfl
   have hd2 : (j : Int).tmod (size : Int) = ((j % size : Nat) : Int) := by rw [Int.tmod_eq_emod_of_nonneg (by omega)]; rfl
   have hd3 : (j : Int) / (size : Int) = ((j / size : Nat) : Int) := rfl
   have hd4 : (j : Int) % (size : Int) = ((j % size : Nat) : Int) := rfl
   have hr5 : j % size < 5 := by have := Nat.mod_lt j hsz; omega
   have hf5 : j / size ≤ 300 := Nat.le_trans (Nat.div_le_self j size) (by omega)
   have q0' := hcel _ _ q0
   have q1' := hcel _ _ q1
   have q2' := hcel _ _ q2
   obtain ⟨f, hf⟩ : ∃ f, j / size = f := ⟨_, rfl⟩
   obtain ⟨r, hr⟩ : ∃ r, j % size = r := ⟨_, rfl⟩
   rw [hf] at hd1 hd3 hf5 q0'
   rw [hr] at hd2 hd4 hr5 q1' q2'
   have hw1 : IntKind.i64.wrap (f : Int) = (f : Int) := by rw [IntKind.wrap_i64]; omega
   have hw2 : IntKind.i64.wrap (r : Int) = (r : Int) := by rw [IntKind.wrap_i64]; omega
   have hw8 : IntKind.u8.wrap (97 + (r : Int)) = 97 + (r : Int) := by rw [IntKind.wrap_u8]; omega
   have hz0 : ¬ (size : Int) = 0 := by omega
   have hz1 : ((size : Int) == 0) = false := by rw [beq_eq_false_iff_ne]; omega
   have KS := Lib.hid fun (w' : World) (k : ∀ a u, wr.cell? a = some u → w'.cell? a = some u) => (⟨k _ _ q0', k _ _ q1', k _ _ q2', k _ _ hbx2⟩ : w'.cell? ⟨g, j * 3, none⟩ = some (.int .i64 (f : Nat)) ∧ w'.cell? ⟨g, j * 3 + 1, none⟩ = some (.int .i64 (r : Nat)) ∧ w'.cell? ⟨g, j * 3 + 2, none⟩ = some (.string (ltr r)) ∧ w'.cell? ⟨sb, 0, none⟩ = some (.int .i64 (size : Nat)))
   have hw97 : IntKind.i64.wrap (97 + (r : Int)) = 97 + (r : Int) := by rw [IntKind.wrap_i64]; omega
   have hz2 : ¬ size = 0 := by omega
   have t1 : (convert 54 9 (.slice (some ⟨wr.heap.size, 0, none⟩) 1 1)).run Try.prog (wr.alloc (.cells #[.int .u8 (97 + (r : Int))] 5)).drew = .ok (.string (ltr r)) (wr.alloc (.cells #[.int .u8 (97 + (r : Int))] 5)).drew := Byt.run_str (ltr_src (by omega) (Blk.new wr [.int .u8 (97 + (r : Int))] 5).drew)
   have hw9 : Hid (HK v (wr.alloc (.cells #[.int .u8 (97 + (r : Int))] 5)).drew) := Lib.hid (hw.out.trans (HK.of (v1 := wr) rfl ((Kept.refl (fun _ => False) wr).alloc _).drew))
   clear hcel q0 q1 q2 hf hr
   go_upto_region 11 with (fail)
   refine wp_region_noPanic ?_
   refine wp_region_held_drew (S := fun w' => w'.cell? ⟨g, j * 3, none⟩ = some (.int .i64 (f : Nat)) ∧ w'.cell? ⟨g, j * 3 + 1, none⟩ = some (.int .i64 (r : Nat)) ∧ w'.cell? ⟨g, j * 3 + 2, none⟩ = some (.string (ltr r)) ∧ w'.cell? ⟨sb, 0, none⟩ = some (.int .i64 (size : Nat))) (by kernel_rfl) (KS.out _ (fun a u h => h)) (fun hHeld => ?_)
   refine tk 0 ⟨some 48, .move (.tmp 6), 51, "law.go:188", #[], none⟩ (v := ?_) rfl ?_ ?_
   rotate_left 1
   focus (intro w h; (try dsimp only at h); go_simp; try with_reducible rfl)
   try simp only [Act.put, ppA, ppB, ppC]
   refine tk 1 ⟨some 49, .move (.tmp 8), 3, "law.go:188", #[], none⟩ (v := ?_) rfl ?_ ?_
   rotate_left 1
   focus (intro w h; (try dsimp only at h); go_simp; try with_reducible rfl)
   try simp only [Act.put, ppA, ppB, ppC]
   refine tk 2 ⟨some 50, .indexAddr 51 (.tmp 48) (.tmp 49), 0, "law.go:188", #[⟨0, .data⟩, ⟨1, .data⟩], none⟩ (v := ?_) rfl ?_ ?_
   rotate_left 1
   focus (intro w h; (try dsimp only at h); go_simp; try with_reducible rfl)
   try simp only [Act.put, ppA, ppB, ppC]
   refine tk 3 ⟨some 51, .fieldAddr 57 (.tmp 50) 0, 0, "law.go:188", #[⟨2, .data⟩], none⟩ (v := ?_) rfl ?_ ?_
   rotate_left 1
   focus (intro w h; (try dsimp only at h); go_simp; try with_reducible rfl)
   try simp only [Act.put, ppA, ppB, ppC]
   refine tk 4 ⟨some 52, .load 3 (.tmp 51), 3, "law.go:188", #[⟨3, .data⟩], none⟩ (v := ?_) rfl ?_ ?_
   rotate_left 1
   focus (intro w h; (try dsimp only at h); go_simp; try with_reducible rfl)
   try simp only [Act.put, ppA, ppB, ppC]
   refine tk 5 ⟨some 53, .move (.tmp 8), 3, "law.go:188", #[], none⟩ (v := ?_) rfl ?_ ?_
   rotate_left 1
   focus (intro w h; (try dsimp only at h); go_simp; try with_reducible rfl)
   try simp only [Act.put, ppA, ppB, ppC]
   refine tk 6 ⟨some 54, .load 3 (.tmp 3), 3, "law.go:188", #[], none⟩ (v := ?_) rfl ?_ ?_
   rotate_left 1
   focus (intro w h; (try dsimp only at h); go_simp; try with_reducible rfl)
   try simp only [Act.put, ppA, ppB, ppC]
   refine tk 7 ⟨some 55, .binOp .quo 3 (.tmp 53) (.tmp 54) 3, 3, "law.go:188", #[⟨5, .data⟩, ⟨6, .data⟩], none⟩ (v := ?_) rfl ?_ ?_
   rotate_left 1
   focus (intro w h; (try dsimp only at h); go_simp; try with_reducible rfl)
   try simp only [Act.put, ppA, ppB, ppC]
   refine tk 8 ⟨some 56, .binOp .neq 3 (.tmp 52) (.tmp 55) 3, 4, "law.go:188", #[⟨4, .data⟩, ⟨7, .data⟩], none⟩ (v := ?_) rfl ?_ ?_
   rotate_left 1
   focus (intro w h; (try dsimp only at h); go_simp; try with_reducible rfl)
   try simp only [Act.put, ppA, ppB, ppC]
   refine tk 9 ⟨some 57, .move (.tmp 56), 4, "law.go:188", #[⟨8, .data⟩], none⟩ (v := ?_) rfl ?_ ?_
   rotate_left 1
   focus (intro w h; (try dsimp only at h); go_simp; try with_reducible rfl)
   try simp only [Act.put, ppA, ppB, ppC]
   refine tk 10 ⟨some 58, .move (.tmp 6), 51, "law.go:188", #[⟨9, .guard⟩], some (9, false)⟩ (v := ?_) rfl ?_ ?_
   rotate_left 1
   focus (intro w h; (try dsimp only at h); go_simp; try with_reducible rfl)
   try simp only [Act.put, ppA, ppB, ppC]
   refine tk 11 ⟨some 59, .move (.tmp 8), 3, "law.go:188", #[⟨9, .guard⟩], some (9, false)⟩ (v := ?_) rfl ?_ ?_
   rotate_left 1
   focus (intro w h; (try dsimp only at h); go_simp; try with_reducible rfl)
   try simp only [Act.put, ppA, ppB, ppC]
   refine tk 12 ⟨some 60, .indexAddr 51 (.tmp 58) (.tmp 59), 0, "law.go:188", #[⟨10, .data⟩, ⟨11, .data⟩, ⟨9, .guard⟩], some (9, false)⟩ (v := ?_) rfl ?_ ?_
   rotate_left 1
   focus (intro w h; (try dsimp only at h); go_simp; try with_reducible rfl)
   try simp only [Act.put, ppA, ppB, ppC]
   refine tk 13 ⟨some 61, .fieldAddr 57 (.tmp 60) 1, 0, "law.go:188", #[⟨12, .data⟩, ⟨9, .guard⟩], some (9, false)⟩ (v := ?_) rfl ?_ ?_
   rotate_left 1
   focus (intro w h; (try dsimp only at h); go_simp; try with_reducible rfl)
   try simp only [Act.put, ppA, ppB, ppC]
   refine tk 14 ⟨some 62, .load 3 (.tmp 61), 3, "law.go:188", #[⟨13, .data⟩, ⟨9, .guard⟩], some (9, false)⟩ (v := ?_) rfl ?_ ?_
   rotate_left 1
   focus (intro w h; (try dsimp only at h); go_simp; try with_reducible rfl)
   try simp only [Act.put, ppA, ppB, ppC]
   refine tk 15 ⟨some 63, .move (.tmp 8), 3, "law.go:188", #[⟨9, .guard⟩], some (9, false)⟩ (v := ?_) rfl ?_ ?_
   rotate_left 1
   focus (intro w h; (try dsimp only at h); go_simp; try with_reducible rfl)
   try simp only [Act.put, ppA, ppB, ppC]
   refine tk 16 ⟨some 64, .load 3 (.tmp 3), 3, "law.go:188", #[⟨9, .guard⟩], some (9, false)⟩ (v := ?_) rfl ?_ ?_
   rotate_left 1
   focus (intro w h; (try dsimp only at h); go_simp; try with_reducible rfl)
   try simp only [Act.put, ppA, ppB, ppC]
   refine tk 17 ⟨some 65, .binOp .rem 3 (.tmp 63) (.tmp 64) 3, 3, "law.go:188", #[⟨15, .data⟩, ⟨16, .data⟩, ⟨9, .guard⟩], some (9, false)⟩ (v := ?_) rfl ?_ ?_
   rotate_left 1
   focus (intro w h; (try dsimp only at h); go_simp; try with_reducible rfl)
   try simp only [Act.put, ppA, ppB, ppC]
   refine tk 18 ⟨some 66, .binOp .neq 3 (.tmp 62) (.tmp 65) 3, 4, "law.go:188", #[⟨14, .data⟩, ⟨17, .data⟩, ⟨9, .guard⟩], some (9, false)⟩ (v := ?_) rfl ?_ ?_
   rotate_left 1
   focus (intro w h; (try dsimp only at h); go_simp; try with_reducible rfl)
   try simp only [Act.put, ppA, ppB, ppC]
   refine tk 19 ⟨some 67, .pick (.tmp 57) (.const (.bool true)) (.tmp 66), 4, "law.go:188", #[⟨9, .data⟩, ⟨18, .data⟩], none⟩ (v := ?_) rfl ?_ ?_
   rotate_left 1
   focus (intro w h; (try dsimp only at h); go_simp; try with_reducible rfl)
   try simp only [Act.put, ppA, ppB, ppC]
   refine tk 20 ⟨some 68, .move (.tmp 67), 4, "law.go:188", #[⟨19, .data⟩, ⟨9, .chain⟩], none⟩ (v := ?_) rfl ?_ ?_
   rotate_left 1
   focus (intro w h; (try dsimp only at h); go_simp; try with_reducible rfl)
   try simp only [Act.put, ppA, ppB, ppC]
   refine tk 21 ⟨some 69, .move (.tmp 6), 51, "law.go:188", #[⟨20, .guard⟩], some (20, false)⟩ (v := ?_) rfl ?_ ?_
   rotate_left 1
   focus (intro w h; (try dsimp only at h); go_simp; try with_reducible rfl)
   try simp only [Act.put, ppA, ppB, ppC]
   refine tk 22 ⟨some 70, .move (.tmp 8), 3, "law.go:188", #[⟨20, .guard⟩], some (20, false)⟩ (v := ?_) rfl ?_ ?_
   rotate_left 1
   focus (intro w h; (try dsimp only at h); go_simp; try with_reducible rfl)
   try simp only [Act.put, ppA, ppB, ppC]
   refine tk 23 ⟨some 71, .indexAddr 51 (.tmp 69) (.tmp 70), 0, "law.go:188", #[⟨21, .data⟩, ⟨22, .data⟩, ⟨20, .guard⟩], some (20, false)⟩ (v := ?_) rfl ?_ ?_
   rotate_left 1
   focus (intro w h; (try dsimp only at h); go_simp; try with_reducible rfl)
   try simp only [Act.put, ppA, ppB, ppC]
   refine tk 24 ⟨some 72, .fieldAddr 57 (.tmp 71) 2, 0, "law.go:188", #[⟨23, .data⟩, ⟨20, .guard⟩], some (20, false)⟩ (v := ?_) rfl ?_ ?_
   rotate_left 1
   focus (intro w h; (try dsimp only at h); go_simp; try with_reducible rfl)
   try simp only [Act.put, ppA, ppB, ppC]
   refine tk 25 ⟨some 73, .load 9 (.tmp 72), 9, "law.go:188", #[⟨24, .data⟩, ⟨20, .guard⟩], some (20, false)⟩ (v := ?_) rfl ?_ ?_
   rotate_left 1
   focus (intro w h; (try dsimp only at h); go_simp; try with_reducible rfl)
   try simp only [Act.put, ppA, ppB, ppC]
   refine tk 26 ⟨some 74, .move (.tmp 8), 3, "law.go:188", #[⟨20, .guard⟩], some (20, false)⟩ (v := ?_) rfl ?_ ?_
   rotate_left 1
   focus (intro w h; (try dsimp only at h); go_simp; try with_reducible rfl)
   try simp only [Act.put, ppA, ppB, ppC]
   refine tk 27 ⟨some 75, .load 3 (.tmp 3), 3, "law.go:188", #[⟨20, .guard⟩], some (20, false)⟩ (v := ?_) rfl ?_ ?_
   rotate_left 1
   focus (intro w h; (try dsimp only at h); go_simp; try with_reducible rfl)
   try simp only [Act.put, ppA, ppB, ppC]
   refine tk 28 ⟨some 76, .binOp .rem 3 (.tmp 74) (.tmp 75) 3, 3, "law.go:188", #[⟨26, .data⟩, ⟨27, .data⟩, ⟨20, .guard⟩], some (20, false)⟩ (v := ?_) rfl ?_ ?_
   rotate_left 1
   focus (intro w h; (try dsimp only at h); go_simp; try with_reducible rfl)
   try simp only [Act.put, ppA, ppB, ppC]
   refine tk 29 ⟨some 77, .binOp .add 3 (.const (.int .i64 97)) (.tmp 76) 3, 3, "law.go:188", #[⟨28, .data⟩, ⟨20, .guard⟩], some (20, false)⟩ (v := ?_) rfl ?_ ?_
   rotate_left 1
   focus (intro w h; (try dsimp only at h); go_simp; try with_reducible rfl)
   try simp only [Act.put, ppA, ppB, ppC]
   refine tk 30 ⟨some 78, .convert 3 5 (.tmp 77), 5, "law.go:188", #[⟨29, .data⟩, ⟨20, .guard⟩], some (20, false)⟩ (v := ?_) rfl ?_ ?_
   rotate_left 1
   focus (intro w h; (try dsimp only at h); go_simp; try with_reducible rfl)
   try simp only [Act.put, ppA, ppB, ppC]
   refine wpAnyH_ready (rs := [31]) (by kernel_rfl) (by simp) ?_
   refine AllReadyH.cons (o := ⟨some 79, .buildSlice 54 1 #[(0, .tmp 78)], 54, "law.go:188", #[⟨30, .data⟩, ⟨20, .guard⟩], some (20, false)⟩) rfl (fun K hK => ?_) AllReadyH.nil
   go_simp
   refine hK.out _ _ (KS.out _ (fun a u h => cell_alloc h _)) (fun hHeld => ?_)
   clear hK K
   refine wpAnyH_more (S' := fun w' => (w'.cell? ⟨g, j * 3, none⟩ = some (.int .i64 (f : Nat)) ∧ w'.cell? ⟨g, j * 3 + 1, none⟩ = some (.int .i64 (r : Nat)) ∧ w'.cell? ⟨g, j * 3 + 2, none⟩ = some (.string (ltr r)) ∧ w'.cell? ⟨sb, 0, none⟩ = some (.int .i64 (size : Nat))) ∧ (convert 54 9 (.slice (some ⟨wr.heap.size, 0, none⟩) 1 1)).run Try.prog w' = .ok (.string (ltr r)) w') (fun _ h => h.1) _ _ _ _ ?_
   have hHeld := And.intro (KS.out (wr.alloc (.cells #[.int .u8 (97 + (r : Int))] 5)).drew (fun a u h => cell_alloc h (.cells #[.int .u8 (97 + (r : Int))] 5))) t1
   refine tk 32 ⟨some 80, .convert 54 9 (.tmp 79), 9, "law.go:188", #[⟨31, .data⟩, ⟨20, .guard⟩], some (20, false)⟩ (v := ?_) rfl ?_ ?_
   rotate_left 1
   focus (intro w h; (try dsimp only at h); go_simp; try with_reducible rfl)
   try simp only [Act.put, ppA, ppB, ppC]
   refine tk 33 ⟨some 81, .binOp .neq 9 (.tmp 73) (.tmp 80) 9, 4, "law.go:188", #[⟨25, .data⟩, ⟨32, .data⟩, ⟨20, .guard⟩], some (20, false)⟩ (v := ?_) rfl ?_ ?_
   rotate_left 1
   focus (intro w h; (try dsimp only at h); go_simp; try with_reducible rfl)
   try simp only [Act.put, ppA, ppB, ppC]
   refine tk 34 ⟨some 82, .pick (.tmp 68) (.const (.bool true)) (.tmp 81), 4, "law.go:188", #[⟨20, .data⟩, ⟨33, .data⟩], none⟩ (v := ?_) rfl ?_ ?_
   rotate_left 1
   focus (intro w h; (try dsimp only at h); go_simp; try with_reducible rfl)
   try simp only [Act.put, ppA, ppB, ppC]
   refine wpAnyH_done (by kernel_rfl) ?_ _
   refine NoPanic.normal ?_
   go_wp2_with fail
   go_roundg (T - (j + 1))
   case measure => have := hm.out; omega
   case rel => exact ⟨j + 1, Lib.hid (Nat.le_refl _), by omega, by go_num, hw9⟩
  ·obtain rfl : j = T := by omega
   clear hge hj hcel
   go_wp2_with fail
   go_loopg [9] (n + 1) (fun kx s9 wq => ∃ (i : Nat), Hid (n - i ≤ kx) ∧ i ≤ n ∧ s9 = .int .i64 (i : Nat) ∧ Hid (HK v wq))
   case atStart => exact ⟨0, Lib.hid (by omega), by omega, rfl, hw⟩
   case round =>
    obtain ⟨i, hmi, hi, rfl, hwq⟩ := hrel
    clear hbx2
    have hax2 := cell_hk hwq.out hax
    rcases Nat.lt_or_ge i n with hlt | hge
    ·obtain ⟨g, rfl, hc⟩ := HAC.out i hlt
     have hc2 := cell_hk hwq.out hc
     clear hc
     go_wp2_with fail
     go_roundg (n - (i + 1))
     case measure => have := hmi.out; omega
     case rel => exact ⟨i + 1, Lib.hid (Nat.le_refl _), by omega, by go_num, hwq⟩
    ·obtain rfl : i = n := by omega
     clear hge hi
     go_wp2_with fail
     exact ⟨rfl, rfl, hwq.out.size, hwq.out.same⟩
end
end Go.Proofs.Ytilpedopnkhppaa.MxS

/- Fan of nothing; what stands behind MuxFans' comparison; its run's end. Conditions: each theorem's own. -/
namespace Go.Proofs.Ytilpedopnkhppaa.MxS
open Go.Conc Go.Conc.Lib Br Go.RowKit Hp Rw Ro So Go.Proofs.Ytilpedopnkhppaa.Mx
section
variable {S : Sh} {St : Goroutine → World → Prop} {m : Nat} {w v : World} {cs : List Frame} {cb : Frame} {ac : Act} {opsc : Array Oper} {ic : Nat} {restc : List Nat} {kc : List Item}
set_option maxRecDepth 100000 in
set_option maxHeartbeats 4000000 in
theorem fanNil (hl : Like S w v) {cB : Code} (hcB : Mx.fnB = cB)
  (hk : ∀ w' v', Like S w' v' → v'.heap = v.heap → SG S St m (G (cb.at (ac.put ((opsc[ic]?).bind (·.dst)) nilS) (.inRegion opsc restc :: kc)) cs) w') :
  SG S St (m + 40) (G ((base 10).at { tmps := #[.int .i64 3, .nilFunc] ++ Array.replicate 21 undef, defers := [] } [.code cB]) (cb.at ac (.inRegion opsc (ic :: restc) :: kc) :: cs)) w := by
 conv at hcB => lhs; whnf
 subst hcB
 have e0 : (#[.int .i64 3, .nilFunc] ++ Array.replicate 21 undef : Array Value) = #[.int .i64 3, .nilFunc, undef, undef, undef, undef, undef, undef, undef, undef, undef, undef, undef, undef, undef, undef, undef, undef, undef, undef, undef, undef, undef] := by kernel_rfl
 rw [e0]
 refine SG.le (m := 1 + 2 + (2 + 2 + (1 + 2 + (m + 1 + 1) + 1 + 1) + 1 + 1) + 1) ?_ (by omega)
 refine SG.seq ?_
 refine SG.region (m := 2 + 2 + (1 + 2 + (m + 1 + 1) + 1 + 1) + 1 + 1) (R := fun t v' => t = #[.int .i64 3, .nilFunc, undef, undef, nilS, undef, undef, undef, undef, undef, undef, undef, undef, undef, undef, undef, undef, undef, undef, undef, undef, undef, undef] ∧ v'.heap = v.heap)
  rfl (by kernel_rfl) rfl hl (fun v1 h1 => ?_) (fun a4 w4 v4 hd hl4 hR4 => ?_)
 ·have hh := Lib.hid (like_same hl h1)
  clear hl hk
  go_wp2
  exact hh.out
 obtain ⟨t4, d4⟩ := a4
 obtain rfl : d4 = [] := hd
 obtain ⟨ht, e4⟩ := hR4
 have ht1 : t4 = #[.int .i64 3, .nilFunc, undef, undef, nilS, undef, undef, undef, undef, undef, undef, undef, undef, undef, undef, undef, undef, undef, undef, undef, undef, undef, undef] := ht
 subst ht1
 clear ht
 refine SG.seq ?_
 refine SG.seq ?_
 refine SG.region (m := 1 + 2 + (m + 1 + 1) + 1 + 1) (R := fun t v' => t = #[.int .i64 3, .nilFunc, undef, undef, nilS, undef, undef, .nilFunc, .bool true, undef, undef, undef, undef, undef, undef, undef, undef, undef, undef, undef, undef, undef, undef] ∧ v'.heap = v.heap)
  rfl (by kernel_rfl) rfl hl4 (fun v1 h1 => ?_) (fun a5 w5 v5 hd hl5 hR5 => ?_)
 ·have hh := Lib.hid ((like_same hl4 h1).trans e4)
  have hE : ∀ w : World, (binOp .eql 29 .nilFunc .nilFunc).run Try.prog w = .ok (.bool true) w := fun w => by kernel_rfl
  have hG : ∀ w : World, (eqGuard .eql 29 (.tmp 7) (.const .nilFunc) .nilFunc .nilFunc).run Try.prog w = .ok () w := fun w => by kernel_rfl
  clear hl hl4 hk
  go_wp2
  exact hh.out
 obtain ⟨t5, d5⟩ := a5
 obtain rfl : d5 = [] := hd
 obtain ⟨ht, e5⟩ := hR5
 have ht1 : t5 = #[.int .i64 3, .nilFunc, undef, undef, nilS, undef, undef, .nilFunc, .bool true, undef, undef, undef, undef, undef, undef, undef, undef, undef, undef, undef, undef, undef, undef] := ht
 subst ht1
 clear ht
 refine SG.condT rfl ?_
 refine SG.seq ?_
 refine SG.region (m := m + 1 + 1) (R := fun t v' => t.getD 4 undef = nilS ∧ v'.heap = v.heap)
  rfl (by kernel_rfl) rfl hl5 (fun v1 h1 => ?_) (fun a6 w6 v6 hd hl6 hR6 => ?_)
 ·have hh := Lib.hid ((like_same hl5 h1).trans e5)
  clear hl hl4 hl5 hk
  go_wp2
  exact hh.out
 obtain ⟨h3, e6⟩ := hR6
 refine SG.ret ?_
 refine SG.leave1 (t := 4) rfl hd Try.func10 rfl ?_
 rw [h3]
 exact hk _ _ hl6 e6
end
def gM : Array Oper := #[
 { dst := some 94, op := Go.Op.call { callee := Go.Callee.value (Go.Operand.func 10), args := #[Go.Operand.const (Go.Value.int Go.IntKind.i64 3), Go.Operand.const Go.Value.nilFunc], argTypes := #[3, 29] }, type := 25, pos := "law.go:197", after := #[], guard := none },
 { dst := some 95, op := Go.Op.call { callee := Go.Callee.builtin Go.Builtin.len, args := #[Go.Operand.tmp 94], argTypes := #[25] }, type := 3, pos := "law.go:197", after := #[{ on := 0, ground := Go.Ground.data }], guard := none },
 { dst := some 96, op := Go.Op.binOp Go.BinOp.eql 3 (Go.Operand.tmp 95) (Go.Operand.const (Go.Value.int Go.IntKind.i64 0)) 3, type := 4, pos := "law.go:197", after := #[{ on := 1, ground := Go.Ground.data }], guard := none },
 { dst := some 97, op := Go.Op.move (Go.Operand.tmp 96), type := 4, pos := "law.go:197", after := #[{ on := 2, ground := Go.Ground.data }, { on := 0, ground := Go.Ground.chain }], guard := none },
 { dst := some 98, op := Go.Op.call { callee := Go.Callee.value (Go.Operand.func 9), args := #[Go.Operand.const (Go.Value.slice none 0 0)], argTypes := #[22] }, type := 25, pos := "law.go:197", after := #[{ on := 3, ground := Go.Ground.chain }, { on := 3, ground := Go.Ground.guard }], guard := some (3, true) },
 { dst := some 99, op := Go.Op.call { callee := Go.Callee.builtin Go.Builtin.len, args := #[Go.Operand.tmp 98], argTypes := #[25] }, type := 3, pos := "law.go:197", after := #[{ on := 4, ground := Go.Ground.data }, { on := 3, ground := Go.Ground.guard }], guard := some (3, true) },
 { dst := some 100, op := Go.Op.binOp Go.BinOp.eql 3 (Go.Operand.tmp 99) (Go.Operand.const (Go.Value.int Go.IntKind.i64 0)) 3, type := 4, pos := "law.go:197", after := #[{ on := 5, ground := Go.Ground.data }, { on := 3, ground := Go.Ground.guard }], guard := some (3, true) },
 { dst := some 101, op := Go.Op.pick (Go.Operand.tmp 97) (Go.Operand.tmp 100) (Go.Operand.const (Go.Value.bool false)), type := 4, pos := "law.go:197", after := #[{ on := 3, ground := Go.Ground.data }, { on := 6, ground := Go.Ground.data }], guard := none },
 { dst := some 102, op := Go.Op.move (Go.Operand.tmp 101), type := 4, pos := "law.go:197", after := #[{ on := 7, ground := Go.Ground.data }, { on := 4, ground := Go.Ground.chain }], guard := none },
 { dst := some 103, op := Go.Op.call { callee := Go.Callee.value (Go.Operand.func 8), args := #[], argTypes := #[] }, type := 4, pos := "law.go:197", after := #[{ on := 8, ground := Go.Ground.chain }, { on := 8, ground := Go.Ground.guard }], guard := some (8, true) },
 { dst := some 104, op := Go.Op.pick (Go.Operand.tmp 102) (Go.Operand.tmp 103) (Go.Operand.const (Go.Value.bool false)), type := 4, pos := "law.go:197", after := #[{ on := 8, ground := Go.Ground.data }, { on := 9, ground := Go.Ground.data }], guard := none },
 { dst := some 4, op := Go.Op.assign (Go.Operand.tmp 104), type := 4, pos := "law.go:197", after := #[{ on := 10, ground := Go.Ground.data }, { on := 9, ground := Go.Ground.chain }, { on := 0, ground := Go.Ground.phase }, { on := 1, ground := Go.Ground.phase }, { on := 2, ground := Go.Ground.phase }, { on := 3, ground := Go.Ground.phase }, { on := 4, ground := Go.Ground.phase }, { on := 5, ground := Go.Ground.phase }, { on := 6, ground := Go.Ground.phase }, { on := 7, ground := Go.Ground.phase }, { on := 8, ground := Go.Ground.phase }, { on := 9, ground := Go.Ground.phase }, { on := 10, ground := Go.Ground.phase }], guard := none }]
theorem gatesM : gatesOf 10 (lwR lwB) = [(gM, 0)] := by kernel_rfl
theorem list_get : ∀ {n : Nat} {l : List Value}, l.length = n → l = (List.range n).map fun i => l.getD i undef := by
 intro n l h
 apply List.ext_getElem
 ·simp [h]
 ·intro i h1 h2
  simp [List.getD, List.getElem?_eq_getElem h1]
theorem slots {t : Array Value} (h : t.size = 105) : ∃ u0 u1 u2 u3 u4 u5 u6 u7 u8 u9 u10 u11 u12 u13 u14 u15 u16 u17 u18 u19 u20 u21 u22 u23 u24 u25 u26 u27 u28 u29 u30 u31 u32 u33 u34 u35 u36 u37 u38 u39 u40 u41 u42 u43 u44 u45 u46 u47 u48 u49 u50 u51 u52 u53 u54 u55 u56 u57 u58 u59 u60 u61 u62 u63 u64 u65 u66 u67 u68 u69 u70 u71 u72 u73 u74 u75 u76 u77 u78 u79 u80 u81 u82 u83 u84 u85 u86 u87 u88 u89 u90 u91 u92 u93 u94 u95 u96 u97 u98 u99 u100 u101 u102 u103 u104, t = #[u0, u1, u2, u3, u4, u5, u6, u7, u8, u9, u10, u11, u12, u13, u14, u15, u16, u17, u18, u19, u20, u21, u22, u23, u24, u25, u26, u27, u28, u29, u30, u31, u32, u33, u34, u35, u36, u37, u38, u39, u40, u41, u42, u43, u44, u45, u46, u47, u48, u49, u50, u51, u52, u53, u54, u55, u56, u57, u58, u59, u60, u61, u62, u63, u64, u65, u66, u67, u68, u69, u70, u71, u72, u73, u74, u75, u76, u77, u78, u79, u80, u81, u82, u83, u84, u85, u86, u87, u88, u89, u90, u91, u92, u93, u94, u95, u96, u97, u98, u99, u100, u101, u102, u103, u104] := by
 obtain ⟨l⟩ := t
 have hl : l.length = 105 := by simpa using h
 have e := list_get hl
 exact ⟨l.getD 0 undef, l.getD 1 undef, l.getD 2 undef, l.getD 3 undef, l.getD 4 undef, l.getD 5 undef, l.getD 6 undef, l.getD 7 undef, l.getD 8 undef, l.getD 9 undef, l.getD 10 undef, l.getD 11 undef, l.getD 12 undef, l.getD 13 undef, l.getD 14 undef, l.getD 15 undef, l.getD 16 undef, l.getD 17 undef, l.getD 18 undef, l.getD 19 undef, l.getD 20 undef, l.getD 21 undef, l.getD 22 undef, l.getD 23 undef, l.getD 24 undef, l.getD 25 undef, l.getD 26 undef, l.getD 27 undef, l.getD 28 undef, l.getD 29 undef, l.getD 30 undef, l.getD 31 undef, l.getD 32 undef, l.getD 33 undef, l.getD 34 undef, l.getD 35 undef, l.getD 36 undef, l.getD 37 undef, l.getD 38 undef, l.getD 39 undef, l.getD 40 undef, l.getD 41 undef, l.getD 42 undef, l.getD 43 undef, l.getD 44 undef, l.getD 45 undef, l.getD 46 undef, l.getD 47 undef, l.getD 48 undef, l.getD 49 undef, l.getD 50 undef, l.getD 51 undef, l.getD 52 undef, l.getD 53 undef, l.getD 54 undef, l.getD 55 undef, l.getD 56 undef, l.getD 57 undef, l.getD 58 undef, l.getD 59 undef, l.getD 60 undef, l.getD 61 undef, l.getD 62 undef, l.getD 63 undef, l.getD 64 undef, l.getD 65 undef, l.getD 66 undef, l.getD 67 undef, l.getD 68 undef, l.getD 69 undef, l.getD 70 undef, l.getD 71 undef, l.getD 72 undef, l.getD 73 undef, l.getD 74 undef, l.getD 75 undef, l.getD 76 undef, l.getD 77 undef, l.getD 78 undef, l.getD 79 undef, l.getD 80 undef, l.getD 81 undef, l.getD 82 undef, l.getD 83 undef, l.getD 84 undef, l.getD 85 undef, l.getD 86 undef, l.getD 87 undef, l.getD 88 undef, l.getD 89 undef, l.getD 90 undef, l.getD 91 undef, l.getD 92 undef, l.getD 93 undef, l.getD 94 undef, l.getD 95 undef, l.getD 96 undef, l.getD 97 undef, l.getD 98 undef, l.getD 99 undef, l.getD 100 undef, l.getD 101 undef, l.getD 102 undef, l.getD 103 undef, l.getD 104 undef, congrArg List.toArray e⟩
section
variable {S : Sh} {Shun : Loc → Prop} {St : Goroutine → World → Prop} {m : Nat} {w v : World} {b : Frame} {k : List Item} {cs : List Frame} {u0 u1 u2 u3 u4 u5 u6 u7 u8 u9 u10 u11 u12 u13 u14 u15 u16 u17 u18 u19 u20 u21 u22 u23 u24 u25 u26 u27 u28 u29 u30 u31 u32 u33 u34 u35 u36 u37 u38 u39 u40 u41 u42 u43 u44 u45 u46 u47 u48 u49 u50 u51 u52 u53 u54 u55 u56 u57 u58 u59 u60 u61 u62 u63 u64 u65 u66 u67 u68 u69 u70 u71 u72 u73 u74 u75 u76 u77 u78 u79 u80 u81 u82 u83 u84 u85 u86 u87 u88 u89 u90 u91 u92 u93 u94 u95 u96 u97 u98 u99 u100 u101 u102 u103 u104 : Value} {oa : Option Addr} {ca : Nat}
set_option maxRecDepth 100000 in
set_option maxHeartbeats 4000000 in
theorem gate1 (hb : b.kind = .normal) (hl : Like S w v)
  (hnext : ∀ w' v', Like S w' v' → v'.heap = v.heap → SG S St m (G ((base 9).at { tmps := #[.slice none 0 0] ++ Array.replicate 22 undef, defers := [] } [.code Mx.gaB]) (b.at ⟨#[u0, u1, u2, u3, u4, u5, u6, u7, u8, u9, u10, u11, u12, u13, u14, u15, u16, u17, u18, u19, u20, u21, u22, u23, u24, u25, u26, u27, u28, u29, u30, u31, u32, u33, u34, u35, u36, u37, u38, u39, u40, u41, u42, u43, u44, u45, u46, u47, u48, u49, u50, u51, u52, u53, u54, u55, u56, u57, u58, u59, u60, u61, u62, u63, u64, u65, u66, u67, u68, u69, u70, u71, u72, u73, u74, u75, u76, u77, u78, u79, u80, u81, u82, u83, u84, u85, u86, u87, u88, u89, u90, u91, u92, u93, nilS, .int .i64 0, .bool true, .bool true, u98, u99, u100, u101, u102, u103, u104], []⟩ (.inRegion gM [4, 5, 6, 7, 8, 9, 10, 11] :: .code .ret :: k) :: cs)) w') :
  SG S St (m + 60) (G (b.at ⟨#[u0, u1, u2, u3, u4, u5, u6, u7, u8, u9, u10, u11, u12, u13, u14, u15, u16, u17, u18, u19, u20, u21, u22, u23, u24, u25, u26, u27, u28, u29, u30, u31, u32, u33, u34, u35, u36, u37, u38, u39, u40, u41, u42, u43, u44, u45, u46, u47, u48, u49, u50, u51, u52, u53, u54, u55, u56, u57, u58, u59, u60, u61, u62, u63, u64, u65, u66, u67, u68, u69, u70, u71, u72, u73, u74, u75, u76, u77, u78, u79, u80, u81, u82, u83, u84, u85, u86, u87, u88, u89, u90, u91, u92, u93, u94, u95, u96, u97, u98, u99, u100, u101, u102, u103, u104], []⟩ (.inRegion gM [0, 1, 2, 3, 4, 5, 6, 7, 8, 9, 10, 11] :: .code .ret :: k)) cs) w := by
 refine SG.le (m := (m + 1 + 1 + 1 + 1) + 40 + 1) ?_ (by omega)
 refine SG.call' (f := 10) (vals := #[.int .i64 3, .nilFunc]) rfl rfl hb rfl Try.func10 (by kernel_rfl) rfl (by dsimp only; simp [Act.eval]) ?_
 refine fanNil hl rfl fun w1 v1 hl1 e1 => ?_
 show SG S St _ (G (b.at ⟨#[u0, u1, u2, u3, u4, u5, u6, u7, u8, u9, u10, u11, u12, u13, u14, u15, u16, u17, u18, u19, u20, u21, u22, u23, u24, u25, u26, u27, u28, u29, u30, u31, u32, u33, u34, u35, u36, u37, u38, u39, u40, u41, u42, u43, u44, u45, u46, u47, u48, u49, u50, u51, u52, u53, u54, u55, u56, u57, u58, u59, u60, u61, u62, u63, u64, u65, u66, u67, u68, u69, u70, u71, u72, u73, u74, u75, u76, u77, u78, u79, u80, u81, u82, u83, u84, u85, u86, u87, u88, u89, u90, u91, u92, u93, nilS, u95, u96, u97, u98, u99, u100, u101, u102, u103, u104], []⟩ (.inRegion gM [1, 2, 3, 4, 5, 6, 7, 8, 9, 10, 11] :: .code .ret :: k)) cs) w1
 refine SG.pure (y := .int .i64 0) rfl rfl hb (fun w => by kernel_rfl) ?_
 show SG S St _ (G (b.at ⟨#[u0, u1, u2, u3, u4, u5, u6, u7, u8, u9, u10, u11, u12, u13, u14, u15, u16, u17, u18, u19, u20, u21, u22, u23, u24, u25, u26, u27, u28, u29, u30, u31, u32, u33, u34, u35, u36, u37, u38, u39, u40, u41, u42, u43, u44, u45, u46, u47, u48, u49, u50, u51, u52, u53, u54, u55, u56, u57, u58, u59, u60, u61, u62, u63, u64, u65, u66, u67, u68, u69, u70, u71, u72, u73, u74, u75, u76, u77, u78, u79, u80, u81, u82, u83, u84, u85, u86, u87, u88, u89, u90, u91, u92, u93, nilS, .int .i64 0, u96, u97, u98, u99, u100, u101, u102, u103, u104], []⟩ (.inRegion gM [2, 3, 4, 5, 6, 7, 8, 9, 10, 11] :: .code .ret :: k)) cs) w1
 refine SG.pure (y := .bool true) rfl rfl hb (fun w => by kernel_rfl) ?_
 show SG S St _ (G (b.at ⟨#[u0, u1, u2, u3, u4, u5, u6, u7, u8, u9, u10, u11, u12, u13, u14, u15, u16, u17, u18, u19, u20, u21, u22, u23, u24, u25, u26, u27, u28, u29, u30, u31, u32, u33, u34, u35, u36, u37, u38, u39, u40, u41, u42, u43, u44, u45, u46, u47, u48, u49, u50, u51, u52, u53, u54, u55, u56, u57, u58, u59, u60, u61, u62, u63, u64, u65, u66, u67, u68, u69, u70, u71, u72, u73, u74, u75, u76, u77, u78, u79, u80, u81, u82, u83, u84, u85, u86, u87, u88, u89, u90, u91, u92, u93, nilS, .int .i64 0, .bool true, u97, u98, u99, u100, u101, u102, u103, u104], []⟩ (.inRegion gM [3, 4, 5, 6, 7, 8, 9, 10, 11] :: .code .ret :: k)) cs) w1
 refine SG.pure (y := .bool true) rfl rfl hb (fun w => by kernel_rfl) ?_
 show SG S St _ (G (b.at ⟨#[u0, u1, u2, u3, u4, u5, u6, u7, u8, u9, u10, u11, u12, u13, u14, u15, u16, u17, u18, u19, u20, u21, u22, u23, u24, u25, u26, u27, u28, u29, u30, u31, u32, u33, u34, u35, u36, u37, u38, u39, u40, u41, u42, u43, u44, u45, u46, u47, u48, u49, u50, u51, u52, u53, u54, u55, u56, u57, u58, u59, u60, u61, u62, u63, u64, u65, u66, u67, u68, u69, u70, u71, u72, u73, u74, u75, u76, u77, u78, u79, u80, u81, u82, u83, u84, u85, u86, u87, u88, u89, u90, u91, u92, u93, nilS, .int .i64 0, .bool true, .bool true, u98, u99, u100, u101, u102, u103, u104], []⟩ (.inRegion gM [4, 5, 6, 7, 8, 9, 10, 11] :: .code .ret :: k)) cs) w1
 refine SG.call' (f := 9) (vals := #[.slice none 0 0]) rfl (by kernel_rfl) hb rfl Try.func9 (by kernel_rfl) rfl (by dsimp only; simp [Act.eval]) ?_
 exact hnext w1 v1 hl1 e1
set_option maxRecDepth 100000 in
set_option maxHeartbeats 4000000 in
theorem gate2 (hb : b.kind = .normal) (hk : SG S St m (G (b.at ⟨#[u0, u1, u2, u3, u4, u5, u6, u7, u8, u9, u10, u11, u12, u13, u14, u15, u16, u17, u18, u19, u20, u21, u22, u23, u24, u25, u26, u27, u28, u29, u30, u31, u32, u33, u34, u35, u36, u37, u38, u39, u40, u41, u42, u43, u44, u45, u46, u47, u48, u49, u50, u51, u52, u53, u54, u55, u56, u57, u58, u59, u60, u61, u62, u63, u64, u65, u66, u67, u68, u69, u70, u71, u72, u73, u74, u75, u76, u77, u78, u79, u80, u81, u82, u83, u84, u85, u86, u87, u88, u89, u90, u91, u92, u93, nilS, .int .i64 0, .bool true, .bool true, .slice oa 0 ca, .int .i64 0, .bool true, .bool true, .bool true, u103, u104], []⟩ (.inRegion gM [9, 10, 11] :: .code .ret :: k)) cs) w) :
  SG S St (m + 10) (G (b.at (Act.put ⟨#[u0, u1, u2, u3, u4, u5, u6, u7, u8, u9, u10, u11, u12, u13, u14, u15, u16, u17, u18, u19, u20, u21, u22, u23, u24, u25, u26, u27, u28, u29, u30, u31, u32, u33, u34, u35, u36, u37, u38, u39, u40, u41, u42, u43, u44, u45, u46, u47, u48, u49, u50, u51, u52, u53, u54, u55, u56, u57, u58, u59, u60, u61, u62, u63, u64, u65, u66, u67, u68, u69, u70, u71, u72, u73, u74, u75, u76, u77, u78, u79, u80, u81, u82, u83, u84, u85, u86, u87, u88, u89, u90, u91, u92, u93, nilS, .int .i64 0, .bool true, .bool true, u98, u99, u100, u101, u102, u103, u104], []⟩ ((gM[4]?).bind (·.dst)) (.slice oa 0 ca)) (.inRegion gM [5, 6, 7, 8, 9, 10, 11] :: .code .ret :: k)) cs) w := by
 refine SG.le (m := m + 1 + 1 + 1 + 1) ?_ (by omega)
 show SG S St _ (G (b.at ⟨#[u0, u1, u2, u3, u4, u5, u6, u7, u8, u9, u10, u11, u12, u13, u14, u15, u16, u17, u18, u19, u20, u21, u22, u23, u24, u25, u26, u27, u28, u29, u30, u31, u32, u33, u34, u35, u36, u37, u38, u39, u40, u41, u42, u43, u44, u45, u46, u47, u48, u49, u50, u51, u52, u53, u54, u55, u56, u57, u58, u59, u60, u61, u62, u63, u64, u65, u66, u67, u68, u69, u70, u71, u72, u73, u74, u75, u76, u77, u78, u79, u80, u81, u82, u83, u84, u85, u86, u87, u88, u89, u90, u91, u92, u93, nilS, .int .i64 0, .bool true, .bool true, .slice oa 0 ca, u99, u100, u101, u102, u103, u104], []⟩ (.inRegion gM [5, 6, 7, 8, 9, 10, 11] :: .code .ret :: k)) cs) w
 refine SG.pure (y := .int .i64 0) rfl (by kernel_rfl) hb (fun w => by kernel_rfl) ?_
 show SG S St _ (G (b.at ⟨#[u0, u1, u2, u3, u4, u5, u6, u7, u8, u9, u10, u11, u12, u13, u14, u15, u16, u17, u18, u19, u20, u21, u22, u23, u24, u25, u26, u27, u28, u29, u30, u31, u32, u33, u34, u35, u36, u37, u38, u39, u40, u41, u42, u43, u44, u45, u46, u47, u48, u49, u50, u51, u52, u53, u54, u55, u56, u57, u58, u59, u60, u61, u62, u63, u64, u65, u66, u67, u68, u69, u70, u71, u72, u73, u74, u75, u76, u77, u78, u79, u80, u81, u82, u83, u84, u85, u86, u87, u88, u89, u90, u91, u92, u93, nilS, .int .i64 0, .bool true, .bool true, .slice oa 0 ca, .int .i64 0, u100, u101, u102, u103, u104], []⟩ (.inRegion gM [6, 7, 8, 9, 10, 11] :: .code .ret :: k)) cs) w
 refine SG.pure (y := .bool true) rfl (by kernel_rfl) hb (fun w => by kernel_rfl) ?_
 show SG S St _ (G (b.at ⟨#[u0, u1, u2, u3, u4, u5, u6, u7, u8, u9, u10, u11, u12, u13, u14, u15, u16, u17, u18, u19, u20, u21, u22, u23, u24, u25, u26, u27, u28, u29, u30, u31, u32, u33, u34, u35, u36, u37, u38, u39, u40, u41, u42, u43, u44, u45, u46, u47, u48, u49, u50, u51, u52, u53, u54, u55, u56, u57, u58, u59, u60, u61, u62, u63, u64, u65, u66, u67, u68, u69, u70, u71, u72, u73, u74, u75, u76, u77, u78, u79, u80, u81, u82, u83, u84, u85, u86, u87, u88, u89, u90, u91, u92, u93, nilS, .int .i64 0, .bool true, .bool true, .slice oa 0 ca, .int .i64 0, .bool true, u101, u102, u103, u104], []⟩ (.inRegion gM [7, 8, 9, 10, 11] :: .code .ret :: k)) cs) w
 refine SG.pure (y := .bool true) rfl rfl hb (fun w => by kernel_rfl) ?_
 show SG S St _ (G (b.at ⟨#[u0, u1, u2, u3, u4, u5, u6, u7, u8, u9, u10, u11, u12, u13, u14, u15, u16, u17, u18, u19, u20, u21, u22, u23, u24, u25, u26, u27, u28, u29, u30, u31, u32, u33, u34, u35, u36, u37, u38, u39, u40, u41, u42, u43, u44, u45, u46, u47, u48, u49, u50, u51, u52, u53, u54, u55, u56, u57, u58, u59, u60, u61, u62, u63, u64, u65, u66, u67, u68, u69, u70, u71, u72, u73, u74, u75, u76, u77, u78, u79, u80, u81, u82, u83, u84, u85, u86, u87, u88, u89, u90, u91, u92, u93, nilS, .int .i64 0, .bool true, .bool true, .slice oa 0 ca, .int .i64 0, .bool true, .bool true, u102, u103, u104], []⟩ (.inRegion gM [8, 9, 10, 11] :: .code .ret :: k)) cs) w
 refine SG.pure (y := .bool true) rfl rfl hb (fun w => by kernel_rfl) ?_
 exact hk
set_option maxRecDepth 100000 in
set_option maxHeartbeats 4000000 in
theorem gate3 (hb : b.kind = .normal) (hk : SG S St m (G { b.at ⟨#[u0, u1, u2, u3, .bool true, u5, u6, u7, u8, u9, u10, u11, u12, u13, u14, u15, u16, u17, u18, u19, u20, u21, u22, u23, u24, u25, u26, u27, u28, u29, u30, u31, u32, u33, u34, u35, u36, u37, u38, u39, u40, u41, u42, u43, u44, u45, u46, u47, u48, u49, u50, u51, u52, u53, u54, u55, u56, u57, u58, u59, u60, u61, u62, u63, u64, u65, u66, u67, u68, u69, u70, u71, u72, u73, u74, u75, u76, u77, u78, u79, u80, u81, u82, u83, u84, u85, u86, u87, u88, u89, u90, u91, u92, u93, nilS, .int .i64 0, .bool true, .bool true, .slice oa 0 ca, .int .i64 0, .bool true, .bool true, .bool true, .bool true, .bool true], []⟩ (.code .ret :: k) with mode := .returning } cs) w) :
  SG S St (m + 10) (G (b.at (Act.put ⟨#[u0, u1, u2, u3, u4, u5, u6, u7, u8, u9, u10, u11, u12, u13, u14, u15, u16, u17, u18, u19, u20, u21, u22, u23, u24, u25, u26, u27, u28, u29, u30, u31, u32, u33, u34, u35, u36, u37, u38, u39, u40, u41, u42, u43, u44, u45, u46, u47, u48, u49, u50, u51, u52, u53, u54, u55, u56, u57, u58, u59, u60, u61, u62, u63, u64, u65, u66, u67, u68, u69, u70, u71, u72, u73, u74, u75, u76, u77, u78, u79, u80, u81, u82, u83, u84, u85, u86, u87, u88, u89, u90, u91, u92, u93, nilS, .int .i64 0, .bool true, .bool true, .slice oa 0 ca, .int .i64 0, .bool true, .bool true, .bool true, u103, u104], []⟩ ((gM[9]?).bind (·.dst)) (.bool true)) (.inRegion gM [10, 11] :: .code .ret :: k)) cs) w := by
 refine SG.le (m := m + 1 + 1 + 1 + 1) ?_ (by omega)
 show SG S St _ (G (b.at ⟨#[u0, u1, u2, u3, u4, u5, u6, u7, u8, u9, u10, u11, u12, u13, u14, u15, u16, u17, u18, u19, u20, u21, u22, u23, u24, u25, u26, u27, u28, u29, u30, u31, u32, u33, u34, u35, u36, u37, u38, u39, u40, u41, u42, u43, u44, u45, u46, u47, u48, u49, u50, u51, u52, u53, u54, u55, u56, u57, u58, u59, u60, u61, u62, u63, u64, u65, u66, u67, u68, u69, u70, u71, u72, u73, u74, u75, u76, u77, u78, u79, u80, u81, u82, u83, u84, u85, u86, u87, u88, u89, u90, u91, u92, u93, nilS, .int .i64 0, .bool true, .bool true, .slice oa 0 ca, .int .i64 0, .bool true, .bool true, .bool true, .bool true, u104], []⟩ (.inRegion gM [10, 11] :: .code .ret :: k)) cs) w
 refine SG.pure (y := .bool true) rfl rfl hb (fun w => by kernel_rfl) ?_
 show SG S St _ (G (b.at ⟨#[u0, u1, u2, u3, u4, u5, u6, u7, u8, u9, u10, u11, u12, u13, u14, u15, u16, u17, u18, u19, u20, u21, u22, u23, u24, u25, u26, u27, u28, u29, u30, u31, u32, u33, u34, u35, u36, u37, u38, u39, u40, u41, u42, u43, u44, u45, u46, u47, u48, u49, u50, u51, u52, u53, u54, u55, u56, u57, u58, u59, u60, u61, u62, u63, u64, u65, u66, u67, u68, u69, u70, u71, u72, u73, u74, u75, u76, u77, u78, u79, u80, u81, u82, u83, u84, u85, u86, u87, u88, u89, u90, u91, u92, u93, nilS, .int .i64 0, .bool true, .bool true, .slice oa 0 ca, .int .i64 0, .bool true, .bool true, .bool true, .bool true, .bool true], []⟩ (.inRegion gM [11] :: .code .ret :: k)) cs) w
 refine SG.pure (y := .bool true) rfl rfl hb (fun w => by kernel_rfl) ?_
 show SG S St _ (G (b.at ⟨#[u0, u1, u2, u3, .bool true, u5, u6, u7, u8, u9, u10, u11, u12, u13, u14, u15, u16, u17, u18, u19, u20, u21, u22, u23, u24, u25, u26, u27, u28, u29, u30, u31, u32, u33, u34, u35, u36, u37, u38, u39, u40, u41, u42, u43, u44, u45, u46, u47, u48, u49, u50, u51, u52, u53, u54, u55, u56, u57, u58, u59, u60, u61, u62, u63, u64, u65, u66, u67, u68, u69, u70, u71, u72, u73, u74, u75, u76, u77, u78, u79, u80, u81, u82, u83, u84, u85, u86, u87, u88, u89, u90, u91, u92, u93, nilS, .int .i64 0, .bool true, .bool true, .slice oa 0 ca, .int .i64 0, .bool true, .bool true, .bool true, .bool true, .bool true], []⟩ (.inRegion gM [] :: .code .ret :: k)) cs) w
 refine SG.regEnd ?_
 refine SG.ret ?_
 exact hk
end
end Go.Proofs.Ytilpedopnkhppaa.MxS

/- MuxFans: from the comparison to the run's end. Conditions: each theorem's own. -/
namespace Go.Proofs.Ytilpedopnkhppaa.MxS
open Go.Conc Go.Conc.Lib Br Go.RowKit Hp Rw Ro So Go.Proofs.Ytilpedopnkhppaa.Mx
section
variable {S : Sh} {Shun : Loc → Prop} {w v w0 : World} {b : Frame}
theorem end_stepF {t : Array Value} {k : List Item} (hb : b.kind = .normal) (hf : b.fn = 6) (w : World) : stepG Try.prog true (G { b.at ⟨t, []⟩ k with mode := .returning } []) w = .ended (.done (t.getD 4 undef)) w #[] := by
 simp [G, stepG, unwind, doReturn, results, Frame.at, hb, hf, Try.func6, Try.f6, seen, GStep.after]
theorem law_end (hO : S.os = w0.os) (hU : S.out = w0.output) {t : Array Value} {k : List Item} (hb : b.kind = .normal) (hf : b.fn = 6) (h2 : t.getD 4 undef = .bool true) (hl : Like S w v) (hz : w0.heap.size ≤ v.heap.size) (ho : ∀ c, c < w0.heap.size → ¬ S c ∧ v.heap[c]? = w0.heap[c]?) :
  Mx.Ends (PostM w0) Shun (G { b.at ⟨t, []⟩ k with mode := .returning } []) w := by
 intro gs sl tr q h0 hL hP
 refine beside_ends (D := fun _ _ _ => False) (n := 0) (fun _ _ _ h => h.elim) h0 hL hP ?_
 refine Goes.stop fun w₁ hr => ⟨rfl, _, _, end_stepF hb hf w₁, by simp, h2, ?_, ?_, ?_, fun c hc => ?_⟩
 ·obtain ⟨d, rfl⟩ := hr
  exact hl.osx.trans hO
 ·obtain ⟨d, rfl⟩ := hr
  exact hl.outx.trans hU
 ·obtain ⟨d, rfl⟩ := hr
  show _ ≤ w.heap.size
  rw [← hl.size]
  exact hz
 ·obtain ⟨d, rfl⟩ := hr
  show w.heap[c]? = _
  obtain ⟨h1, h2⟩ := ho c hc
  rw [← hl.off c h1]
  exact h2
theorem Seen.heap {v v1 : World} {N : Int} {n size ab sb T ca : Nat} {oa : Option Addr} (h : Seen v N n size ab sb T ca oa) (e : v1.heap = v.heap) : Seen v1 N n size ab sb T ca oa := by
 refine ⟨h.hN, h.n6, h.z5, h.tot, h.box.heap (by rw [e]), ?_, fun j hj => ?_⟩
 ·obtain ⟨aa, cc, h1, h2⟩ := h.ask
  exact ⟨aa, cc, h1.heap (by rw [e]), fun i hi => by
   obtain ⟨g, h3, h4⟩ := h2 i hi
   exact ⟨g, h3, by rw [cell_eq e]; exact h4⟩⟩
 ·obtain ⟨g, h1, h2, h3, h4⟩ := h.ans j hj
  refine ⟨g, h1, ?_, ?_, ?_⟩ <;> (rw [cell_eq e]; assumption)
theorem gM_size : gM.size = 12 := by kernel_rfl
theorem dstM : (gM.toList.drop 0).map (·.dst) = [some 94, some 95, some 96, some 97, some 98, some 99, some 100, some 101, some 102, some 103, some 104, some 4] := by kernel_rfl
theorem gM_9 : (gM[9]?).map Mx.core = some (some 103, callA, some (8, true)) := by kernel_rfl
theorem allN_none (vals : Nat → List Int) : Mx.allN 0 vals = [] := rfl
set_option maxRecDepth 100000 in
set_option maxHeartbeats 4000000 in
theorem loops_ends (hX : ShunIn S Shun) (hl : Like S w v) (hO : S.os = w0.os) (hU : S.out = w0.output) (hz : w0.heap.size ≤ v.heap.size) (ho : ∀ c, c < w0.heap.size → ¬ S c ∧ v.heap[c]? = w0.heap[c]?)
  {N : Int} {n size ab sb T ca : Nat} {oa : Option Addr} (hS : Seen v N n size ab sb T ca oa) {t : Array Value} (ht : FL N ab sb T ca oa t) :
  Mx.Ends (PostM w0) Shun (G ((base 6).at ⟨t, []⟩ [.code (lwR lwB)]) []) w := by
 have hev : Ev Try.prog S [] (StopG Try.prog (gatesOf 10 (lwR lwB)) S (fun f t v' => f = 6 ∧ ∃ v1, v1.heap = v.heap ∧ RL v1 t v')) ⟨(base 6).at ⟨t, []⟩ [.code (lwR lwB)], [], w⟩ := by
  refine ev_gates Mo.noEarly funs0 (br := (base 6).at ⟨t, []⟩ [.code (lwR lwB)]) (bg := (base 6).at ⟨t, []⟩ [.code (cutCode 10 (lwR lwB))]) ?_ hl ?_
  ·exact ⟨rfl, rfl, rfl, rfl, rfl, rfl, rfl, rfl, rfl, .code (crel_of lw_ok fun _ h => h) .nil⟩
  ·intro v1 h1
   have e1 := like_same hl h1
   obtain ⟨N, fr, v', h1, h2, h3⟩ := lone_of_wp (b := base 6) (R := fun f t v' => f = 6 ∧ RL v1 t v') (Code.wp_mono (fun e a' w' h => ⟨h.1, rfl, h.2⟩) (loops_wp (hS.heap e1) ht rfl))
   exact ⟨N, fr, v', h1, h2, h3.1, v1, e1, h3.2⟩
 intro gs sl tr q h0 hL hP
 obtain ⟨N, gs', y, sl', t', q', hr, hs, h0', hSt, hL', hP'⟩ := ev_beside hX (fun x d h => stopG_at x d h) hev _ gs w sl tr q ⟨w.drawn, rfl⟩ (Nat.le_refl _) h0 hL hP
 obtain ⟨s1, s2, s3, s4, s5⟩ := hSt
 rw [s1] at h0'
 have fin : Mx.Ends (PostM w0) Shun (G y.fr []) y.w := by
  rcases s5 with ⟨s5, v', hl', hf, v1, e1, r1, r2, r3, r4⟩ | ⟨s5, ops, i, k, hm, hlt, htodo, v', hl', hf, v1, e1, r1, r2, r3, r4⟩
  ·have hfr := fr_retG s2 s4 s5
   rw [hfr]
   exact law_end hO hU s3 hf r2 hl' (by rw [e1] at r3; omega) (fun c hc => ⟨(ho c hc).1, by rw [r4 c (by rw [e1]; omega), e1]; exact (ho c hc).2⟩)
  ·rw [e1] at r3 r4
   rw [gatesM] at hm
   simp only [List.mem_singleton, Prod.mk.injEq] at hm
   obtain ⟨rfl, rfl⟩ := hm
   rw [gM_size, show (List.range 12).drop 0 = [0, 1, 2, 3, 4, 5, 6, 7, 8, 9, 10, 11] by rfl] at htodo
   have hfr := fr_run s2 s4 s5 htodo
   rw [marks_map, dstM] at r1
   simp only [List.foldl_cons, List.foldl_nil, Array.size_setIfInBounds] at r1
   obtain ⟨u0, u1, u2, u3, u4, u5, u6, u7, u8, u9, u10, u11, u12, u13, u14, u15, u16, u17, u18, u19, u20, u21, u22, u23, u24, u25, u26, u27, u28, u29, u30, u31, u32, u33, u34, u35, u36, u37, u38, u39, u40, u41, u42, u43, u44, u45, u46, u47, u48, u49, u50, u51, u52, u53, u54, u55, u56, u57, u58, u59, u60, u61, u62, u63, u64, u65, u66, u67, u68, u69, u70, u71, u72, u73, u74, u75, u76, u77, u78, u79, u80, u81, u82, u83, u84, u85, u86, u87, u88, u89, u90, u91, u92, u93, u94, u95, u96, u97, u98, u99, u100, u101, u102, u103, u104, hu⟩ := slots r1
   rw [hfr, hu]
   generalize y.fr = b at *
   have hzv : w0.heap.size ≤ v'.heap.size := by omega
   have hov : ∀ c, c < w0.heap.size → ¬ S c ∧ v'.heap[c]? = w0.heap[c]? := fun c hc => ⟨(ho c hc).1, by rw [r4 c (by omega)]; exact (ho c hc).2⟩
   refine Walks.ends (Walks.sg hX (gate1 (m := 0) (St := fun g w' => ∃ v2, g = G ((base 9).at { tmps := #[.slice none 0 0] ++ Array.replicate 22 undef, defers := [] } [.code Mx.gaB]) (b.at ⟨#[u0, u1, u2, u3, u4, u5, u6, u7, u8, u9, u10, u11, u12, u13, u14, u15, u16, u17, u18, u19, u20, u21, u22, u23, u24, u25, u26, u27, u28, u29, u30, u31, u32, u33, u34, u35, u36, u37, u38, u39, u40, u41, u42, u43, u44, u45, u46, u47, u48, u49, u50, u51, u52, u53, u54, u55, u56, u57, u58, u59, u60, u61, u62, u63, u64, u65, u66, u67, u68, u69, u70, u71, u72, u73, u74, u75, u76, u77, u78, u79, u80, u81, u82, u83, u84, u85, u86, u87, u88, u89, u90, u91, u92, u93, nilS, .int .i64 0, .bool true, .bool true, u98, u99, u100, u101, u102, u103, u104], []⟩ (.inRegion gM [4, 5, 6, 7, 8, 9, 10, 11] :: .code .ret :: k) :: []) ∧ Like S w' v2 ∧ v2.heap = v'.heap) s3 hl' (fun w' v2 h1 h2 => SG.stop fun w₁ hr => ⟨v2, rfl, (like_atR hr h1).1, h2⟩))) ?_
   rintro g w3 ⟨v3, rfl, hl3, e3⟩
   refine Mx.gather_ends (vals := fun _ => []) (n := 0) hX hl3 (Or.inl rfl) fun S' Shun' al w4 v4 hm4 hl4 hR4 => ?_
   obtain ⟨oa4, ca4, rfl, _, _⟩ := hR4.slice
   rw [allN_none]
   refine Walks.ends (Walks.sg hm4.shun (gate2 (m := 0) (St := fun g w' => g = G (b.at ⟨#[u0, u1, u2, u3, u4, u5, u6, u7, u8, u9, u10, u11, u12, u13, u14, u15, u16, u17, u18, u19, u20, u21, u22, u23, u24, u25, u26, u27, u28, u29, u30, u31, u32, u33, u34, u35, u36, u37, u38, u39, u40, u41, u42, u43, u44, u45, u46, u47, u48, u49, u50, u51, u52, u53, u54, u55, u56, u57, u58, u59, u60, u61, u62, u63, u64, u65, u66, u67, u68, u69, u70, u71, u72, u73, u74, u75, u76, u77, u78, u79, u80, u81, u82, u83, u84, u85, u86, u87, u88, u89, u90, u91, u92, u93, nilS, .int .i64 0, .bool true, .bool true, .slice oa4 0 ca4, .int .i64 0, .bool true, .bool true, .bool true, u103, u104], []⟩ (.inRegion gM [9, 10, 11] :: .code .ret :: k)) [] ∧ Like S' w' v4) s3 (SG.stop fun w₁ hr => ⟨rfl, (like_atR hr hl4).1⟩))) ?_
   rintro g w5 ⟨rfl, hl5⟩
   obtain ⟨o9, e9, d9, p9, g9⟩ := core_of gM_9
   refine awake_ends (a := ⟨#[u0, u1, u2, u3, u4, u5, u6, u7, u8, u9, u10, u11, u12, u13, u14, u15, u16, u17, u18, u19, u20, u21, u22, u23, u24, u25, u26, u27, u28, u29, u30, u31, u32, u33, u34, u35, u36, u37, u38, u39, u40, u41, u42, u43, u44, u45, u46, u47, u48, u49, u50, u51, u52, u53, u54, u55, u56, u57, u58, u59, u60, u61, u62, u63, u64, u65, u66, u67, u68, u69, u70, u71, u72, u73, u74, u75, u76, u77, u78, u79, u80, u81, u82, u83, u84, u85, u86, u87, u88, u89, u90, u91, u92, u93, nilS, .int .i64 0, .bool true, .bool true, .slice oa4 0 ca4, .int .i64 0, .bool true, .bool true, .bool true, u103, u104], []⟩) hm4.shun hl5 e9 ?_ s3 p9 fun S'' Shun'' w6 v6 hm6 hl6 => ?_
   ·rw [show o9 = (gM[9]?).getD o9 by rw [e9]; rfl]
    kernel_rfl
   refine Walks.ends (Walks.sg hm6.shun (gate3 (m := 0) (St := fun g w' => ∃ t k, g = G { b.at ⟨t, []⟩ k with mode := .returning } [] ∧ t.getD 4 undef = .bool true ∧ Like S'' w' v6) s3 (SG.stop fun w₁ hr => ⟨_, _, rfl, rfl, (like_atR hr hl6).1⟩))) ?_
   rintro g w7 ⟨t7, k7, rfl, h7, hl7⟩
   have hm := hm4.trans hm6
   have hz3 : v3.heap.size = v'.heap.size := by rw [e3]
   exact law_end (hm.os.trans hO) (hm.out.trans hU) s3 hf h7 hl7 (by have := hm.hk.size; omega) fun c hc => by
    obtain ⟨h1, h2⟩ := hov c hc
    refine ⟨fun hs => ?_, ?_⟩
    ·rcases hm.sub c hs with h | h
     ·exact h1 h
     ·omega
    ·rw [hm.hk.same c (by omega), e3, h2]
 obtain ⟨N2, last, o, w2, t2, z1, z2, z3, z4⟩ := fin gs' sl' t' q' h0' hL' hP'
 refine ⟨N + N2, last, o, w2, t2, ?_, ?_, z3, z4⟩
 ·rw [Nat.add_assoc, runNT_add, hr]; exact z1
 ·rw [runN_add, ← runNT_fst Try.prog _ _ tr, hr]; exact z2
end
end Go.Proofs.Ytilpedopnkhppaa.MxS

/- MuxGathers: the argument, what each call sees of it. Conditions: each theorem's own. -/
namespace Go.Proofs.Ytilpedopnkhppaa.Mx
open Go.Conc Go.Conc.Lib Br Go.RowKit Hp Rw Ro So
section
variable {vals : Nat → List Int}
def itF (n : Nat) (vals : Nat → List Int) (k : Nat) : List It := itemsOf (if k < n then (k : Int) else 0) (vals k) (vals k).length
end
section
variable {w v : World} {s : Option Addr} {n cl : Nat} {vals : Nat → List Int} {A : Nat → Option Addr} {C : Nat → Nat}
end
end Go.Proofs.Ytilpedopnkhppaa.Mx

/- MuxGathers from its entry to the run's end. Conditions: each theorem's own. -/
namespace Go.Proofs.Ytilpedopnkhppaa.Mx
open Go.Conc Go.Conc.Lib Br Go.RowKit Hp Rw Ro So
def lo2 : Code → Array Oper
 | .seq _ (.seq (.seq _ (.cond _ (.seq (.region _ ops _) _) _)) _) => ops
 | _ => #[]
def lo4 : Code → Array Oper
 | .seq _ (.seq _ (.seq _ (.seq (.region _ ops _) _))) => ops
 | _ => #[]
def lc : Code → Code
 | .seq _ (.seq (.seq _ c) _) => c
 | c => c
theorem like0G (w : World) : Like (sh0 w) w w := ⟨rfl, rfl, rfl, rfl, rfl, fun _ _ => rfl, fun _ h => h.elim, fun _ h => h.elim⟩
section
variable {S : Sh} {Shun : Loc → Prop} {St : Goroutine → World → Prop} {m : Nat} {w v w0 : World} {s : Option Addr} {n cl xb : Nat} {r : Int} {al bl : Value}
end
end Go.Proofs.Ytilpedopnkhppaa.Mx

