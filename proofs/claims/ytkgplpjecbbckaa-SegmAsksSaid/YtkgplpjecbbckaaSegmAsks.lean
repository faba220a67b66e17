/- SegmAsks (mizzenlaw6): for every four ints, every range and every slice of bytes the law returns true and its arguments read as before. Conditions: none. -/
import Derived.Test.YtkgplpjecbbckaaRows
import Derived.Test.YtkgplpjecbbckaaAgg
import Derived.Test.YtkgplpjecbbckaaByt
import Derived.Test.YtkgplpjecbbckaaEnd
import Derived.Test.YtkgplpjecbbckaaInts
import Derived.WalkKit
import Derived.ProofKit
import Derived.OpenShut
import Derived.Test.YtkgplpjecbbckaaSgByt
import Derived.Test.YtkgplpjecbbckaaSgCutR
import Derived.Test.YtkgplpjecbbckaaSgAwake
import Derived.Test.YtkgplpjecbbckaaRgs
set_option linter.unusedVariables false
namespace Go.Proofs.Ytkgplpjecbbckaa.segmAsks
open Go.ChangeShapes Go.WideShapes Go.ChangeAt Go.RowKit Go.Proofs.Ytkgplpjecbbckaa.Hp Go.Proofs.Ytkgplpjecbbckaa.End
open Opn IvN SgM Sg
theorem own : ownKnob Try.prog.godebug = none := by kernel_rfl
attribute [local go_sem ↓] Go.wp_at_zero Go.wp_at_succ
set_option maxRecDepth 100000 in
set_option maxHeartbeats 2000000 in
theorem early (t m k off f u : Int) (l : List UInt8) (s : Option Addr) (cap : Nat) (w : World) (h : (10000 < t ∧ t ≤ 1073741824 ∧ m < 1000) ∨ 1000 < l.length) :
    Calls Try.prog 3 #[.int .i64 t, .int .i64 m, .int .i64 k, .int .i64 off, rv (f, u), .slice s l.length cap] w fun e w' => e = .returned (.bool true) ∧ Old w w' := by
  have HC := Lib.hid fun w => awake_any w
  have hc : (10000 < t ∧ t ≤ 1073741824 ∧ m < 1000) ∨ (¬ 10000 < t ∧ 1000 < l.length) ∨ (10000 < t ∧ ¬ t ≤ 1073741824 ∧ 1000 < l.length) ∨ (10000 < t ∧ t ≤ 1073741824 ∧ ¬ m < 1000 ∧ 1000 < l.length) := by omega
  clear h
  unfold rv
  rcases hc with ⟨h1, h2, h3⟩ | ⟨h1, h2⟩ | ⟨h1, h2, h3⟩ | ⟨h1, h2, h3, h4⟩
  all_goals
    go_enter Try.func3, Try.ntmps3
    go_wp2_with (go_at_call 6; refine (HC.out _).mono ?_; rintro e w' ⟨rfl, ho⟩)
    go_ret
    exact ⟨rfl, ((Kept.refl (fun _ => False) w).alloc _).trans ho⟩
/-- More may be held from some step on. -/
theorem wpAnyH_more {P : Program} {md : Region.Mode} {ops : Array Oper} {Q : Exit → Act → World → Prop} {S S' : World → Prop} (h : ∀ w, S' w → S w) : ∀ (fuel : Nat) (listed : Array Bool) (a : Act) (w : World), wpAnyH P md ops Q S' fuel listed a w → wpAnyH P md ops Q S fuel listed a w
  | 0, _, _, _, H => H
  | fuel + 1, _, _, _, H => ⟨H.1, fun i hi => wpOp_mono (fun _ _ h' => ⟨h _ h'.1, wpAnyH_more h fuel _ _ _ h'.2⟩) (H.2 i hi)⟩
theorem piece_form (t m k : Int) : ∃ (px py e : Int), pieceV t m k = .tuple #[.agg #[.int .i64 px, .int .i64 py], .int .i64 e] := by
  unfold pieceV
  split
  · exact ⟨_, _, _, rfl⟩
  · exact ⟨_, _, _, rfl⟩
theorem cut_few {f u t m : Int} (h : t ≤ 10000) : (cut f u t m).length ≤ 900000 := by
  have := cut_len (f := f) (u := u) (t := t) (m := m)
  omega
set_option maxRecDepth 100000 in
set_option maxHeartbeats 16000000 in
theorem late (t m k off f u : Int) (l : List UInt8) (s : Option Addr) (cap : Nat) (w : World) (hB : Byts w s cap l) (hl : l.length ≤ 1000) (ht : ¬ (10000 < t ∧ t ≤ 1073741824 ∧ m < 1000)) :
    Calls Try.prog 3 #[.int .i64 t, .int .i64 m, .int .i64 k, .int .i64 off, rv (f, u), .slice s l.length cap] w fun e w' => e = .returned (.bool true) ∧ Old w w' := by
  have HC := Lib.hid fun w => awake_any w
  have HB := Lib.hid hB
  obtain ⟨px, py, er, hp⟩ := piece_form t m k
  have p1 := fun w => Piece_any t m k w
  have p2 := fun w => PieceR_any t m k w
  rw [hp] at p1 p2
  have P1 := Lib.hid p1
  have P2 := Lib.hid p2
  clear p1 p2 hp hB
  have C1 := Lib.hid fun w => count_any t m w
  have C2 := Lib.hid fun w => countR_any t m w
  have A1 := Lib.hid fun w => at_any t m off w
  have A2 := Lib.hid fun w => atR_any t m off w
  generalize cnt t m = n at *
  generalize at' t m off = ao at *
  have hlb : decide (1000 < (l.length : Int)) = false := by rw [decide_eq_false_iff_not]; omega
  have hlb2 : decide (1000 < l.length) = false := by rw [decide_eq_false_iff_not]; omega
  unfold rv
  have hc : decide (10000 < t) = false ∨ (decide (10000 < t) = true ∧ decide (t ≤ 1073741824) = false) ∨ (decide (10000 < t) = true ∧ decide (t ≤ 1073741824) = true ∧ decide (m < 1000) = false) := by
    simp only [decide_eq_false_iff_not, decide_eq_true_eq]; omega
  have hcut := fun (w : World) (h : t ≤ 10000) => cut_any f u t m (by omega) w
  have hcutr := fun (w : World) (h : t ≤ 10000) => cutR_any f u t m (by omega) w
  unfold rv at hcut hcutr
  have HCUT := Lib.hid hcut
  have HCUTR := Lib.hid hcutr
  clear hcut hcutr
  have HFEW := Lib.hid fun (h : t ≤ 10000) => cut_few (f := f) (u := u) (m := m) h
  generalize cut f u t m = L at *
  clear ht
  go_enter Try.func3, Try.ntmps3
  go_upto_region 1 with fail
  have HCC := Lib.hid hc
  clear hc
  go_cut [31] from 17 to 31 (fun c wx => c = .bool false ∧ wx = w.alloc (.cells #[.int .i64 f, .int .i64 u] 23))
  case first =>
    rcases HCC.out with g1 | ⟨g1, g2⟩ | ⟨g1, g2, g3⟩
    all_goals
      clear HCC
      go_wp2_with fail
      go_meet
      exact ⟨rfl, rfl⟩
  case rest =>
  obtain ⟨rfl, rfl⟩ := hcut
  go_upto_region 3 with fail
  have hBr := Blk.new w [.int .i64 f, .int .i64 u] 23
  dsimp only [List.toArray] at hBr
  have hk1 : Kept (fun _ => False) w (w.alloc (.cells #[.int .i64 f, .int .i64 u] 23)) := (Kept.refl _ w).alloc _
  generalize w.alloc (.cells #[.int .i64 f, .int .i64 u] 23) = w1 at *
  generalize w.heap.size = rb at *
  go_wp2_with fail
  with_reducible refine Calls.mono (P1.out _) ?_
  rintro e w2 ⟨rfl, k2⟩
  have hBp := Blk.new w2 [.int .i64 px, .int .i64 py] 23
  have hBr2 := (k2.blk hBr (fun f => f)).old (.cells #[.int .i64 px, .int .i64 py] 23)
  have hk2 := (hk1.trans k2).alloc (.cells #[.int .i64 px, .int .i64 py] 23)
  dsimp only [List.toArray] at hBp
  clear hBr hk1 k2
  go_upto_region 4 with fail
  generalize w2.alloc (.cells #[.int .i64 px, .int .i64 py] 23) = w3 at *
  generalize w2.heap.size = pb at *
  go_wp2_with fail
  with_reducible refine Calls.mono (P2.out _) ?_
  rintro e w4 ⟨rfl, k4⟩
  have hBq := Blk.new w4 [.int .i64 px, .int .i64 py] 23
  have hBr4 := (k4.blk hBr2 (fun f => f)).old (.cells #[.int .i64 px, .int .i64 py] 23)
  have hBp4 := (k4.blk hBp (fun f => f)).old (.cells #[.int .i64 px, .int .i64 py] 23)
  have hk4 := (hk2.trans k4).alloc (.cells #[.int .i64 px, .int .i64 py] 23)
  dsimp only [List.toArray] at hBq
  clear hBr2 hBp hk2 k4
  go_upto_region 5 with fail
  generalize w4.alloc (.cells #[.int .i64 px, .int .i64 py] 23) = w5 at *
  generalize w4.heap.size = qb at *
  have KS := Lib.hid fun (w' : World) (k : Kept (fun _ => False) w5 w') =>
    And.intro (And.intro ((k.blk hBr4 (fun f => f)).cell (o := 0) rfl) ((k.blk hBr4 (fun f => f)).cell (o := 1) rfl)) (And.intro (And.intro ((k.blk hBp4 (fun f => f)).cell (o := 0) rfl) ((k.blk hBp4 (fun f => f)).cell (o := 1) rfl))
      (And.intro ((k.blk hBq (fun f => f)).cell (o := 0) rfl) ((k.blk hBq (fun f => f)).cell (o := 1) rfl)))
  have E0 : Kept (fun _ => False) w5 w5 := Kept.refl _ w5
  have hsrc := HB.out.1.kept hk4
  have BY := Lib.hid fun (w' : World) (k : Kept (fun _ => False) w5 w') => bytes_any (hsrc.kept k) (by omega) f u HB.out.2
  have BR := Lib.hid fun (w' : World) (k : Kept (fun _ => False) w5 w') => bytesR_any (hsrc.kept k) f u HB.out.2
  have HBR := Lib.hid hBr4
  have HK4 := Lib.hid hk4
  clear hBr4 hBp4 hBq hsrc hk4
  generalize sub l f u = lb at *
  -- the drawn region, by hand
  refine wp_region_held_drew (S := fun w' => (w'.cell? ⟨rb, 0, none⟩ = some (.int .i64 f) ∧ w'.cell? ⟨rb, 1, none⟩ = some (.int .i64 u)) ∧ (w'.cell? ⟨pb, 0, none⟩ = some (.int .i64 px) ∧ w'.cell? ⟨pb, 1, none⟩ = some (.int .i64 py)) ∧ (w'.cell? ⟨qb, 0, none⟩ = some (.int .i64 px) ∧ w'.cell? ⟨qb, 1, none⟩ = some (.int .i64 py))) (by kernel_rfl) (KS.out _ E0.drew) (fun hHeld => ?_)
  have HK0 := Lib.hid E0.drew
  refine wpAnyH_take (i := 0) (oi := { dst := some 47, op := Op.move (Operand.tmp 0), type := 3, pos := "law.go:25", after := #[], guard := none }) (v := ?_) rfl (by kernel_rfl) (by kernel_rfl) (by kernel_rfl) (fun _ _ _ h => h) (Or.inl ⟨by rfl, ?_⟩) (by assumption) ?_
  rotate_left 1
  focus (intro w hSw; (try dsimp only at hSw); go_simp; try with_reducible rfl)
  try simp only [Act.put, List.setIfInBounds_toArray, List.set_cons_zero, List.set_cons_succ]
  refine wpAnyH_take (i := 1) (oi := { dst := some 48, op := Op.move (Operand.tmp 1), type := 3, pos := "law.go:25", after := #[], guard := none }) (v := ?_) rfl (by kernel_rfl) (by kernel_rfl) (by kernel_rfl) (fun _ _ _ h => h) (Or.inl ⟨by rfl, ?_⟩) (by assumption) ?_
  rotate_left 1
  focus (intro w hSw; (try dsimp only at hSw); go_simp; try with_reducible rfl)
  try simp only [Act.put, List.setIfInBounds_toArray, List.set_cons_zero, List.set_cons_succ]
  refine wpAnyH_take (i := 3) (oi := { dst := some 50, op := Op.move (Operand.tmp 0), type := 3, pos := "law.go:25", after := #[], guard := none }) (v := ?_) rfl (by kernel_rfl) (by kernel_rfl) (by kernel_rfl) (fun _ _ _ h => h) (Or.inl ⟨by rfl, ?_⟩) (by assumption) ?_
  rotate_left 1
  focus (intro w hSw; (try dsimp only at hSw); go_simp; try with_reducible rfl)
  try simp only [Act.put, List.setIfInBounds_toArray, List.set_cons_zero, List.set_cons_succ]
  refine wpAnyH_take (i := 4) (oi := { dst := some 51, op := Op.move (Operand.tmp 1), type := 3, pos := "law.go:25", after := #[], guard := none }) (v := ?_) rfl (by kernel_rfl) (by kernel_rfl) (by kernel_rfl) (fun _ _ _ h => h) (Or.inl ⟨by rfl, ?_⟩) (by assumption) ?_
  rotate_left 1
  focus (intro w hSw; (try dsimp only at hSw); go_simp; try with_reducible rfl)
  try simp only [Act.put, List.setIfInBounds_toArray, List.set_cons_zero, List.set_cons_succ]
  refine wpAnyH_ready (rs := [2]) (by kernel_rfl) (by simp) ?_
  refine AllReadyH.cons (o := { dst := some 49, op := Op.call { callee := Callee.value (Operand.func 9), args := #[Operand.tmp 47, Operand.tmp 48], argTypes := #[3, 3] }, type := 3, pos := "law.go:25", after := #[{ on := 0, ground := Ground.data }, { on := 1, ground := Ground.data }], guard := none }) rfl (fun K hK => ?_) AllReadyH.nil
  go_simp
  with_reducible refine Calls.mono (C1.out _) ?_
  rintro e x1 ⟨rfl, k1⟩
  have K1 := Lib.hid (HK0.out.trans k1)
  clear k1
  refine hK.out _ _ (KS.out _ K1.out) (fun hHeld => ?_)
  clear hK K
  try simp only [Act.put, List.setIfInBounds_toArray, List.set_cons_zero, List.set_cons_succ]
  refine wpAnyH_ready (rs := [5]) (by kernel_rfl) (by simp) ?_
  refine AllReadyH.cons (o := { dst := some 52, op := Op.call { callee := Callee.value (Operand.func 10), args := #[Operand.tmp 50, Operand.tmp 51], argTypes := #[3, 3] }, type := 3, pos := "law.go:25", after := #[{ on := 3, ground := Ground.data }, { on := 4, ground := Ground.data }, { on := 2, ground := Ground.chain }], guard := none }) rfl (fun K hK => ?_) AllReadyH.nil
  go_simp
  with_reducible refine Calls.mono (C2.out _) ?_
  rintro e x2 ⟨rfl, rfl⟩
  refine hK.out _ _ (KS.out _ K1.out) (fun hHeld => ?_)
  clear hK K
  try simp only [Act.put, List.setIfInBounds_toArray, List.set_cons_zero, List.set_cons_succ]
  refine wpAnyH_take (i := 6) (oi := { dst := some 53, op := Op.binOp BinOp.neq 3 (Operand.tmp 49) (Operand.tmp 52) 3, type := 4, pos := "law.go:25", after := #[{ on := 2, ground := Ground.data }, { on := 5, ground := Ground.data }], guard := none }) (v := ?_) rfl (by kernel_rfl) (by kernel_rfl) (by kernel_rfl) (fun _ _ _ h => h) (Or.inl ⟨by rfl, ?_⟩) (by assumption) ?_
  rotate_left 1
  focus (intro w hSw; (try dsimp only at hSw); go_simp; try with_reducible rfl)
  try simp only [Act.put, List.setIfInBounds_toArray, List.set_cons_zero, List.set_cons_succ]
  refine wpAnyH_take (i := 7) (oi := { dst := some 54, op := Op.move (Operand.tmp 53), type := 4, pos := "law.go:25", after := #[{ on := 6, ground := Ground.data }, { on := 5, ground := Ground.chain }], guard := none }) (v := ?_) rfl (by kernel_rfl) (by kernel_rfl) (by kernel_rfl) (fun _ _ _ h => h) (Or.inl ⟨by rfl, ?_⟩) (by assumption) ?_
  rotate_left 1
  focus (intro w hSw; (try dsimp only at hSw); go_simp; try with_reducible rfl)
  try simp only [Act.put, List.setIfInBounds_toArray, List.set_cons_zero, List.set_cons_succ]
  refine wpAnyH_take (i := 8) (oi := { dst := some 55, op := Op.load 23 (Operand.tmp 13), type := 23, pos := "law.go:25", after := #[{ on := 7, ground := Ground.guard }], guard := some (7, false) }) (v := ?_) rfl (by kernel_rfl) (by kernel_rfl) (by kernel_rfl) (fun _ _ _ h => h) (Or.inl ⟨by rfl, ?_⟩) (by assumption) ?_
  rotate_left 1
  focus (intro w hSw; (try dsimp only at hSw); go_simp; try with_reducible rfl)
  try simp only [Act.put, List.setIfInBounds_toArray, List.set_cons_zero, List.set_cons_succ]
  refine wpAnyH_take (i := 9) (oi := { dst := some 56, op := Op.load 23 (Operand.tmp 15), type := 23, pos := "law.go:25", after := #[{ on := 7, ground := Ground.guard }], guard := some (7, false) }) (v := ?_) rfl (by kernel_rfl) (by kernel_rfl) (by kernel_rfl) (fun _ _ _ h => h) (Or.inl ⟨by rfl, ?_⟩) (by assumption) ?_
  rotate_left 1
  focus (intro w hSw; (try dsimp only at hSw); go_simp; try with_reducible rfl)
  try simp only [Act.put, List.setIfInBounds_toArray, List.set_cons_zero, List.set_cons_succ]
  refine wpAnyH_take (i := 10) (oi := { dst := some 57, op := Op.binOp BinOp.neq 23 (Operand.tmp 55) (Operand.tmp 56) 23, type := 4, pos := "law.go:25", after := #[{ on := 8, ground := Ground.data }, { on := 9, ground := Ground.data }, { on := 7, ground := Ground.guard }], guard := some (7, false) }) (v := ?_) rfl (by kernel_rfl) (by kernel_rfl) (by kernel_rfl) (fun _ _ _ h => h) (Or.inl ⟨by rfl, ?_⟩) (by assumption) ?_
  rotate_left 1
  focus (intro w hSw; (try dsimp only at hSw); go_simp; try with_reducible rfl)
  try simp only [Act.put, List.setIfInBounds_toArray, List.set_cons_zero, List.set_cons_succ]
  refine wpAnyH_take (i := 11) (oi := { dst := some 58, op := Op.pick (Operand.tmp 54) (Operand.const (Value.bool true)) (Operand.tmp 57), type := 4, pos := "law.go:25", after := #[{ on := 7, ground := Ground.data }, { on := 10, ground := Ground.data }], guard := none }) (v := ?_) rfl (by kernel_rfl) (by kernel_rfl) (by kernel_rfl) (fun _ _ _ h => h) (Or.inl ⟨by rfl, ?_⟩) (by assumption) ?_
  rotate_left 1
  focus (intro w hSw; (try dsimp only at hSw); go_simp; try with_reducible rfl)
  try simp only [Act.put, List.setIfInBounds_toArray, List.set_cons_zero, List.set_cons_succ]
  refine wpAnyH_take (i := 12) (oi := { dst := some 59, op := Op.move (Operand.tmp 58), type := 4, pos := "law.go:25", after := #[{ on := 11, ground := Ground.data }, { on := 7, ground := Ground.chain }], guard := none }) (v := ?_) rfl (by kernel_rfl) (by kernel_rfl) (by kernel_rfl) (fun _ _ _ h => h) (Or.inl ⟨by rfl, ?_⟩) (by assumption) ?_
  rotate_left 1
  focus (intro w hSw; (try dsimp only at hSw); go_simp; try with_reducible rfl)
  try simp only [Act.put, List.setIfInBounds_toArray, List.set_cons_zero, List.set_cons_succ]
  refine wpAnyH_take (i := 13) (oi := { dst := some 60, op := Op.move (Operand.tmp 14), type := 26, pos := "law.go:25", after := #[{ on := 12, ground := Ground.guard }], guard := some (12, false) }) (v := ?_) rfl (by kernel_rfl) (by kernel_rfl) (by kernel_rfl) (fun _ _ _ h => h) (Or.inl ⟨by rfl, ?_⟩) (by assumption) ?_
  rotate_left 1
  focus (intro w hSw; (try dsimp only at hSw); go_simp; try with_reducible rfl)
  try simp only [Act.put, List.setIfInBounds_toArray, List.set_cons_zero, List.set_cons_succ]
  refine wpAnyH_take (i := 14) (oi := { dst := some 61, op := Op.move (Operand.tmp 16), type := 3, pos := "law.go:25", after := #[{ on := 12, ground := Ground.guard }], guard := some (12, false) }) (v := ?_) rfl (by kernel_rfl) (by kernel_rfl) (by kernel_rfl) (fun _ _ _ h => h) (Or.inl ⟨by rfl, ?_⟩) (by assumption) ?_
  rotate_left 1
  focus (intro w hSw; (try dsimp only at hSw); go_simp; try with_reducible rfl)
  try simp only [Act.put, List.setIfInBounds_toArray, List.set_cons_zero, List.set_cons_succ]
  refine wpAnyH_take (i := 15) (oi := { dst := some 62, op := Op.binOp BinOp.neq 3 (Operand.tmp 60) (Operand.tmp 61) 3, type := 4, pos := "law.go:25", after := #[{ on := 13, ground := Ground.data }, { on := 14, ground := Ground.data }, { on := 12, ground := Ground.guard }], guard := some (12, false) }) (v := ?_) rfl (by kernel_rfl) (by kernel_rfl) (by kernel_rfl) (fun _ _ _ h => h) (Or.inl ⟨by rfl, ?_⟩) (by assumption) ?_
  rotate_left 1
  focus (intro w hSw; (try dsimp only at hSw); go_simp; try with_reducible rfl)
  try simp only [Act.put, List.setIfInBounds_toArray, List.set_cons_zero, List.set_cons_succ]
  refine wpAnyH_take (i := 16) (oi := { dst := some 63, op := Op.pick (Operand.tmp 59) (Operand.const (Value.bool true)) (Operand.tmp 62), type := 4, pos := "law.go:25", after := #[{ on := 12, ground := Ground.data }, { on := 15, ground := Ground.data }], guard := none }) (v := ?_) rfl (by kernel_rfl) (by kernel_rfl) (by kernel_rfl) (fun _ _ _ h => h) (Or.inl ⟨by rfl, ?_⟩) (by assumption) ?_
  rotate_left 1
  focus (intro w hSw; (try dsimp only at hSw); go_simp; try with_reducible rfl)
  try simp only [Act.put, List.setIfInBounds_toArray, List.set_cons_zero, List.set_cons_succ]
  refine wpAnyH_take (i := 17) (oi := { dst := some 64, op := Op.move (Operand.tmp 63), type := 4, pos := "law.go:25", after := #[{ on := 16, ground := Ground.data }, { on := 12, ground := Ground.chain }], guard := none }) (v := ?_) rfl (by kernel_rfl) (by kernel_rfl) (by kernel_rfl) (fun _ _ _ h => h) (Or.inl ⟨by rfl, ?_⟩) (by assumption) ?_
  rotate_left 1
  focus (intro w hSw; (try dsimp only at hSw); go_simp; try with_reducible rfl)
  try simp only [Act.put, List.setIfInBounds_toArray, List.set_cons_zero, List.set_cons_succ]
  refine wpAnyH_take (i := 18) (oi := { dst := some 65, op := Op.move (Operand.tmp 0), type := 3, pos := "law.go:25", after := #[{ on := 17, ground := Ground.guard }], guard := some (17, false) }) (v := ?_) rfl (by kernel_rfl) (by kernel_rfl) (by kernel_rfl) (fun _ _ _ h => h) (Or.inl ⟨by rfl, ?_⟩) (by assumption) ?_
  rotate_left 1
  focus (intro w hSw; (try dsimp only at hSw); go_simp; try with_reducible rfl)
  try simp only [Act.put, List.setIfInBounds_toArray, List.set_cons_zero, List.set_cons_succ]
  refine wpAnyH_take (i := 19) (oi := { dst := some 66, op := Op.move (Operand.tmp 1), type := 3, pos := "law.go:25", after := #[{ on := 17, ground := Ground.guard }], guard := some (17, false) }) (v := ?_) rfl (by kernel_rfl) (by kernel_rfl) (by kernel_rfl) (fun _ _ _ h => h) (Or.inl ⟨by rfl, ?_⟩) (by assumption) ?_
  rotate_left 1
  focus (intro w hSw; (try dsimp only at hSw); go_simp; try with_reducible rfl)
  try simp only [Act.put, List.setIfInBounds_toArray, List.set_cons_zero, List.set_cons_succ]
  refine wpAnyH_take (i := 20) (oi := { dst := some 67, op := Op.move (Operand.tmp 3), type := 3, pos := "law.go:25", after := #[{ on := 17, ground := Ground.guard }], guard := some (17, false) }) (v := ?_) rfl (by kernel_rfl) (by kernel_rfl) (by kernel_rfl) (fun _ _ _ h => h) (Or.inl ⟨by rfl, ?_⟩) (by assumption) ?_
  rotate_left 1
  focus (intro w hSw; (try dsimp only at hSw); go_simp; try with_reducible rfl)
  try simp only [Act.put, List.setIfInBounds_toArray, List.set_cons_zero, List.set_cons_succ]
  refine wpAnyH_take (i := 22) (oi := { dst := some 69, op := Op.move (Operand.tmp 0), type := 3, pos := "law.go:25", after := #[{ on := 17, ground := Ground.guard }], guard := some (17, false) }) (v := ?_) rfl (by kernel_rfl) (by kernel_rfl) (by kernel_rfl) (fun _ _ _ h => h) (Or.inl ⟨by rfl, ?_⟩) (by assumption) ?_
  rotate_left 1
  focus (intro w hSw; (try dsimp only at hSw); go_simp; try with_reducible rfl)
  try simp only [Act.put, List.setIfInBounds_toArray, List.set_cons_zero, List.set_cons_succ]
  refine wpAnyH_take (i := 23) (oi := { dst := some 70, op := Op.move (Operand.tmp 1), type := 3, pos := "law.go:25", after := #[{ on := 17, ground := Ground.guard }], guard := some (17, false) }) (v := ?_) rfl (by kernel_rfl) (by kernel_rfl) (by kernel_rfl) (fun _ _ _ h => h) (Or.inl ⟨by rfl, ?_⟩) (by assumption) ?_
  rotate_left 1
  focus (intro w hSw; (try dsimp only at hSw); go_simp; try with_reducible rfl)
  try simp only [Act.put, List.setIfInBounds_toArray, List.set_cons_zero, List.set_cons_succ]
  refine wpAnyH_take (i := 24) (oi := { dst := some 71, op := Op.move (Operand.tmp 3), type := 3, pos := "law.go:25", after := #[{ on := 17, ground := Ground.guard }], guard := some (17, false) }) (v := ?_) rfl (by kernel_rfl) (by kernel_rfl) (by kernel_rfl) (fun _ _ _ h => h) (Or.inl ⟨by rfl, ?_⟩) (by assumption) ?_
  rotate_left 1
  focus (intro w hSw; (try dsimp only at hSw); go_simp; try with_reducible rfl)
  try simp only [Act.put, List.setIfInBounds_toArray, List.set_cons_zero, List.set_cons_succ]
  refine wpAnyH_ready (rs := [21]) (by kernel_rfl) (by simp) ?_
  refine AllReadyH.cons (o := { dst := some 68, op := Op.call { callee := Callee.value (Operand.func 11), args := #[Operand.tmp 65, Operand.tmp 66, Operand.tmp 67], argTypes := #[3, 3, 3] }, type := 3, pos := "law.go:25", after := #[{ on := 18, ground := Ground.data }, { on := 19, ground := Ground.data }, { on := 20, ground := Ground.data }, { on := 17, ground := Ground.chain }, { on := 17, ground := Ground.guard }], guard := some (17, false) }) rfl (fun K hK => ?_) AllReadyH.nil
  go_simp
  with_reducible refine Calls.mono (A1.out _) ?_
  rintro e x3 ⟨rfl, k3⟩
  have K3 := Lib.hid (K1.out.trans k3)
  clear k3
  refine hK.out _ _ (KS.out _ K3.out) (fun hHeld => ?_)
  clear hK K
  try simp only [Act.put, List.setIfInBounds_toArray, List.set_cons_zero, List.set_cons_succ]
  refine wpAnyH_ready (rs := [25]) (by kernel_rfl) (by simp) ?_
  refine AllReadyH.cons (o := { dst := some 72, op := Op.call { callee := Callee.value (Operand.func 12), args := #[Operand.tmp 69, Operand.tmp 70, Operand.tmp 71], argTypes := #[3, 3, 3] }, type := 3, pos := "law.go:25", after := #[{ on := 22, ground := Ground.data }, { on := 23, ground := Ground.data }, { on := 24, ground := Ground.data }, { on := 21, ground := Ground.chain }, { on := 17, ground := Ground.guard }], guard := some (17, false) }) rfl (fun K hK => ?_) AllReadyH.nil
  go_simp
  with_reducible refine Calls.mono (A2.out _) ?_
  rintro e x4 ⟨rfl, rfl⟩
  refine hK.out _ _ (KS.out _ K3.out) (fun hHeld => ?_)
  clear hK K
  try simp only [Act.put, List.setIfInBounds_toArray, List.set_cons_zero, List.set_cons_succ]
  refine wpAnyH_take (i := 26) (oi := { dst := some 73, op := Op.binOp BinOp.neq 3 (Operand.tmp 68) (Operand.tmp 72) 3, type := 4, pos := "law.go:25", after := #[{ on := 21, ground := Ground.data }, { on := 25, ground := Ground.data }, { on := 17, ground := Ground.guard }], guard := some (17, false) }) (v := ?_) rfl (by kernel_rfl) (by kernel_rfl) (by kernel_rfl) (fun _ _ _ h => h) (Or.inl ⟨by rfl, ?_⟩) (by assumption) ?_
  rotate_left 1
  focus (intro w hSw; (try dsimp only at hSw); go_simp; try with_reducible rfl)
  try simp only [Act.put, List.setIfInBounds_toArray, List.set_cons_zero, List.set_cons_succ]
  refine wpAnyH_take (i := 27) (oi := { dst := some 74, op := Op.pick (Operand.tmp 64) (Operand.const (Value.bool true)) (Operand.tmp 73), type := 4, pos := "law.go:25", after := #[{ on := 17, ground := Ground.data }, { on := 26, ground := Ground.data }], guard := none }) (v := ?_) rfl (by kernel_rfl) (by kernel_rfl) (by kernel_rfl) (fun _ _ _ h => h) (Or.inl ⟨by rfl, ?_⟩) (by assumption) ?_
  rotate_left 1
  focus (intro w hSw; (try dsimp only at hSw); go_simp; try with_reducible rfl)
  try simp only [Act.put, List.setIfInBounds_toArray, List.set_cons_zero, List.set_cons_succ]
  refine wpAnyH_take (i := 28) (oi := { dst := some 75, op := Op.move (Operand.tmp 74), type := 4, pos := "law.go:25", after := #[{ on := 27, ground := Ground.data }, { on := 25, ground := Ground.chain }], guard := none }) (v := ?_) rfl (by kernel_rfl) (by kernel_rfl) (by kernel_rfl) (fun _ _ _ h => h) (Or.inl ⟨by rfl, ?_⟩) (by assumption) ?_
  rotate_left 1
  focus (intro w hSw; (try dsimp only at hSw); go_simp; try with_reducible rfl)
  try simp only [Act.put, List.setIfInBounds_toArray, List.set_cons_zero, List.set_cons_succ]
  refine wpAnyH_take (i := 29) (oi := { dst := some 76, op := Op.move (Operand.tmp 5), type := 24, pos := "law.go:25", after := #[{ on := 28, ground := Ground.guard }], guard := some (28, false) }) (v := ?_) rfl (by kernel_rfl) (by kernel_rfl) (by kernel_rfl) (fun _ _ _ h => h) (Or.inl ⟨by rfl, ?_⟩) (by assumption) ?_
  rotate_left 1
  focus (intro w hSw; (try dsimp only at hSw); go_simp; try with_reducible rfl)
  try simp only [Act.put, List.setIfInBounds_toArray, List.set_cons_zero, List.set_cons_succ]
  refine wpAnyH_take (i := 30) (oi := { dst := some 77, op := Op.load 23 (Operand.tmp 10), type := 23, pos := "law.go:25", after := #[{ on := 28, ground := Ground.guard }], guard := some (28, false) }) (v := ?_) rfl (by kernel_rfl) (by kernel_rfl) (by kernel_rfl) (fun _ _ _ h => h) (Or.inl ⟨by rfl, ?_⟩) (by assumption) ?_
  rotate_left 1
  focus (intro w hSw; (try dsimp only at hSw); go_simp; try with_reducible rfl)
  try simp only [Act.put, List.setIfInBounds_toArray, List.set_cons_zero, List.set_cons_succ]
  refine wpAnyH_take (i := 33) (oi := { dst := some 80, op := Op.move (Operand.tmp 5), type := 24, pos := "law.go:25", after := #[{ on := 28, ground := Ground.guard }], guard := some (28, false) }) (v := ?_) rfl (by kernel_rfl) (by kernel_rfl) (by kernel_rfl) (fun _ _ _ h => h) (Or.inl ⟨by rfl, ?_⟩) (by assumption) ?_
  rotate_left 1
  focus (intro w hSw; (try dsimp only at hSw); go_simp; try with_reducible rfl)
  try simp only [Act.put, List.setIfInBounds_toArray, List.set_cons_zero, List.set_cons_succ]
  refine wpAnyH_take (i := 34) (oi := { dst := some 81, op := Op.load 23 (Operand.tmp 10), type := 23, pos := "law.go:25", after := #[{ on := 28, ground := Ground.guard }], guard := some (28, false) }) (v := ?_) rfl (by kernel_rfl) (by kernel_rfl) (by kernel_rfl) (fun _ _ _ h => h) (Or.inl ⟨by rfl, ?_⟩) (by assumption) ?_
  rotate_left 1
  focus (intro w hSw; (try dsimp only at hSw); go_simp; try with_reducible rfl)
  try simp only [Act.put, List.setIfInBounds_toArray, List.set_cons_zero, List.set_cons_succ]
  refine wpAnyH_ready (rs := [31]) (by kernel_rfl) (by simp) ?_
  refine AllReadyH.cons (o := { dst := some 78, op := Op.call { callee := Callee.value (Operand.func 13), args := #[Operand.tmp 76, Operand.tmp 77], argTypes := #[24, 23] }, type := 24, pos := "law.go:25", after := #[{ on := 29, ground := Ground.data }, { on := 30, ground := Ground.data }, { on := 28, ground := Ground.chain }, { on := 28, ground := Ground.guard }], guard := some (28, false) }) rfl (fun K hK => ?_) AllReadyH.nil
  go_simp
  with_reducible refine Calls.mono (BY.out _ K3.out) ?_
  rintro e x5 ⟨v1, rfl, hR1, k5⟩
  have HS1 := Lib.hid hR1.src
  have K5 := Lib.hid (K3.out.trans k5)
  clear hR1 k5
  refine hK.out _ _ (KS.out _ K5.out) (fun hHeld => ?_)
  clear hK K
  try simp only [Act.put, List.setIfInBounds_toArray, List.set_cons_zero, List.set_cons_succ]
  refine wpAnyH_more (S' := fun w' => ((w'.cell? ⟨rb, 0, none⟩ = some (.int .i64 f) ∧ w'.cell? ⟨rb, 1, none⟩ = some (.int .i64 u)) ∧ (w'.cell? ⟨pb, 0, none⟩ = some (.int .i64 px) ∧ w'.cell? ⟨pb, 1, none⟩ = some (.int .i64 py)) ∧ (w'.cell? ⟨qb, 0, none⟩ = some (.int .i64 px) ∧ w'.cell? ⟨qb, 1, none⟩ = some (.int .i64 py))) ∧ (convert 24 9 v1).run Try.prog w' = .ok (.string ⟨lb.toArray⟩) w') (fun _ h => h.1) _ _ _ _ ?_
  have hHeld := And.intro hHeld (Byt.run_str HS1.out)
  refine wpAnyH_take (i := 32) (oi := { dst := some 79, op := Op.convert 24 9 (Operand.tmp 78), type := 9, pos := "law.go:25", after := #[{ on := 31, ground := Ground.data }, { on := 28, ground := Ground.guard }], guard := some (28, false) }) (v := ?_) rfl (by kernel_rfl) (by kernel_rfl) (by kernel_rfl) (fun _ _ _ h => h) (Or.inl ⟨by rfl, ?_⟩) (by assumption) ?_
  rotate_left 1
  focus (intro w hSw; (try dsimp only at hSw); go_simp; try with_reducible rfl)
  try simp only [Act.put, List.setIfInBounds_toArray, List.set_cons_zero, List.set_cons_succ]
  refine wpAnyH_ready (rs := [35]) (by kernel_rfl) (by simp) ?_
  refine AllReadyH.cons (o := { dst := some 82, op := Op.call { callee := Callee.value (Operand.func 14), args := #[Operand.tmp 80, Operand.tmp 81], argTypes := #[24, 23] }, type := 24, pos := "law.go:25", after := #[{ on := 33, ground := Ground.data }, { on := 34, ground := Ground.data }, { on := 31, ground := Ground.chain }, { on := 28, ground := Ground.guard }], guard := some (28, false) }) rfl (fun K hK => ?_) AllReadyH.nil
  go_simp
  with_reducible refine Calls.mono (BR.out _ K5.out) ?_
  rintro e x6 ⟨v2, rfl, hS2, k6⟩
  have HS2 := Lib.hid hS2
  have HS1' := Lib.hid (HS1.out.kept k6)
  have K6 := Lib.hid (K5.out.trans k6)
  clear hS2 k6
  refine hK.out _ _ (And.intro (KS.out _ K6.out) (Byt.run_str HS1'.out)) (fun hHeld => ?_)
  clear hK K
  try simp only [Act.put, List.setIfInBounds_toArray, List.set_cons_zero, List.set_cons_succ]
  refine wpAnyH_more (S' := fun w' => (((w'.cell? ⟨rb, 0, none⟩ = some (.int .i64 f) ∧ w'.cell? ⟨rb, 1, none⟩ = some (.int .i64 u)) ∧ (w'.cell? ⟨pb, 0, none⟩ = some (.int .i64 px) ∧ w'.cell? ⟨pb, 1, none⟩ = some (.int .i64 py)) ∧ (w'.cell? ⟨qb, 0, none⟩ = some (.int .i64 px) ∧ w'.cell? ⟨qb, 1, none⟩ = some (.int .i64 py))) ∧ (convert 24 9 v1).run Try.prog w' = .ok (.string ⟨lb.toArray⟩) w') ∧ (convert 24 9 v2).run Try.prog w' = .ok (.string ⟨lb.toArray⟩) w') (fun _ h => h.1) _ _ _ _ ?_
  have hHeld := And.intro hHeld (Byt.run_str HS2.out)
  refine wpAnyH_take (i := 36) (oi := { dst := some 83, op := Op.convert 24 9 (Operand.tmp 82), type := 9, pos := "law.go:25", after := #[{ on := 35, ground := Ground.data }, { on := 28, ground := Ground.guard }], guard := some (28, false) }) (v := ?_) rfl (by kernel_rfl) (by kernel_rfl) (by kernel_rfl) (fun _ _ _ h => h) (Or.inl ⟨by rfl, ?_⟩) (by assumption) ?_
  rotate_left 1
  focus (intro w hSw; (try dsimp only at hSw); go_simp; try with_reducible rfl)
  try simp only [Act.put, List.setIfInBounds_toArray, List.set_cons_zero, List.set_cons_succ]
  refine wpAnyH_take (i := 37) (oi := { dst := some 84, op := Op.binOp BinOp.neq 9 (Operand.tmp 79) (Operand.tmp 83) 9, type := 4, pos := "law.go:25", after := #[{ on := 32, ground := Ground.data }, { on := 36, ground := Ground.data }, { on := 28, ground := Ground.guard }], guard := some (28, false) }) (v := ?_) rfl (by kernel_rfl) (by kernel_rfl) (by kernel_rfl) (fun _ _ _ h => h) (Or.inl ⟨by rfl, ?_⟩) (by assumption) ?_
  rotate_left 1
  focus (intro w hSw; (try dsimp only at hSw); go_simp; try with_reducible rfl)
  try simp only [Act.put, List.setIfInBounds_toArray, List.set_cons_zero, List.set_cons_succ]
  refine wpAnyH_take (i := 38) (oi := { dst := some 85, op := Op.pick (Operand.tmp 75) (Operand.const (Value.bool true)) (Operand.tmp 84), type := 4, pos := "law.go:25", after := #[{ on := 28, ground := Ground.data }, { on := 37, ground := Ground.data }], guard := none }) (v := ?_) rfl (by kernel_rfl) (by kernel_rfl) (by kernel_rfl) (fun _ _ _ h => h) (Or.inl ⟨by rfl, ?_⟩) (by assumption) ?_
  rotate_left 1
  focus (intro w hSw; (try dsimp only at hSw); go_simp; try with_reducible rfl)
  try simp only [Act.put, List.setIfInBounds_toArray, List.set_cons_zero, List.set_cons_succ]
  refine wpAnyH_done (by kernel_rfl) ?_ _
  -- behind it
  have hO : Old w x6 := HK4.out.trans K6.out
  have r0 := (KS.out _ K6.out).1.1
  have r1 := (KS.out _ K6.out).1.2
  have HO := Lib.hid hO
  have E1 : Kept (fun _ => False) x6 x6 := Kept.refl _ x6
  have KR := Lib.hid fun (w' : World) (k : Kept (fun _ => False) x6 w') => And.intro ((K6.out.trans k).blk HBR.out (fun f => f) |>.cell (o := 0) rfl) ((K6.out.trans k).blk HBR.out (fun f => f) |>.cell (o := 1) rfl)
  clear hO hHeld KS BY BR HS1 HS1' HS2 K1 K3 K5
  by_cases ht2 : 10000 < t
  · have hd : decide (10000 < t) = true := decide_eq_true ht2
    go_wp2_with fail
    with_reducible refine Calls.mono (HC.out _) ?_
    rintro e w8 ⟨rfl, hk8⟩
    go_wp2_with fail
    go_ret
    exact ⟨rfl, HO.out.trans hk8⟩
  · have hd : decide (10000 < t) = false := by rw [decide_eq_false_iff_not]; exact ht2
    have ht3 : t ≤ 10000 := by omega
    have CA := Lib.hid fun (w : World) => HCUT.out w ht3
    have CB := Lib.hid fun (w : World) => HCUTR.out w ht3
    have hfw := HFEW.out ht3
    clear HCUT HCUTR HFEW
    go_upto_region 9 with fail
    go_region_held3 (fun w' => w'.cell? ⟨rb, 0, none⟩ = some (.int .i64 f) ∧ w'.cell? ⟨rb, 1, none⟩ = some (.int .i64 u))
      ((exact KR.out _ (by first | assumption | exact Kept.drew (by assumption))))
      (first
        | (go_at_call 16; refine Calls.mono (CA.out _) ?_; rintro e w' ⟨v1, rfl, hR1, hk⟩; obtain ⟨s1, c1, rfl⟩ := form2 hR1; have hk2 := Kept.trans (show Kept (fun _ => False) x6 _ by first | assumption | exact Kept.drew (by assumption)) hk; clear hk)
        | (go_at_call 17; refine Calls.mono (CB.out _) ?_; rintro e w' ⟨v2, rfl, hR2, hk⟩; have hR1' := hR1.kept hk (fun _ _ f => f); obtain ⟨s2, c2, rfl⟩ := form2 hR2; have hk3 := Kept.trans hk2 hk; clear hk)
        | (go_at_call 15; refine Calls.mono (Rgs.alike_same (Rgs.row_part hR1').2.1 (Rgs.row_part hR2).2.1 hfw) ?_; rintro e w' ⟨rfl, hk⟩; have hk4 := Kept.trans hk3 hk; clear hk)
        | (go_at_call 6; refine Calls.mono (HC.out _) ?_; rintro e w' ⟨rfl, hk⟩; have hk5 := Kept.trans hk4 hk; clear hk))
    all_goals
      go_wp2_with fail
      go_ret
      exact ⟨rfl, HO.out.trans (by assumption)⟩
theorem walk (t m k off f u : Int) (l : List UInt8) (s : Option Addr) (cap : Nat) (w : World) (w0 : (Lit.int .i64 t).wf = true) (w1 : (Lit.int .i64 m).wf = true) (w2 : (Lit.int .i64 k).wf = true) (w3 : (Lit.int .i64 off).wf = true)
    (w4 : (Lit.int .i64 f).wf = true) (w5 : (Lit.int .i64 u).wf = true) (w6 : Byts w s cap l) :
    Calls Try.prog 3 #[.int .i64 t, .int .i64 m, .int .i64 k, .int .i64 off, rv (f, u), .slice s l.length cap] w fun e w' => e = .returned (.bool true) ∧ Old w w' := by
  by_cases h : (10000 < t ∧ t ≤ 1073741824 ∧ m < 1000) ∨ 1000 < l.length
  · exact early t m k off f u l s cap w h
  · exact late t m k off f u l s cap w w6 (by omega) (by omega)
set_option maxRecDepth 100000 in
set_option maxHeartbeats 1000000 in
theorem lifted (os : Os) (started : os.Started) (H : Type) (enc : TypeId × Value → H) :
    ReturnsInHanded {} Try.checked os 3 .any (Rows.segmAsksSpec.pre6 enc Try.prog Try.f3 Rows.segmAsksRow.domain false) (Rows.segmAsksSpec.post enc Try.prog Try.f3 false true false false) := by
  refine returnsInHanded_of_change (C := Try.checked) own started (by kernel_rfl) Try.func3
    (ChangeSpec.witness6 (enc := enc) (C := Try.checked) false ⟨#[], #[.int .i64 0, .int .i64 0, .int .i64 0, .int .i64 0, .agg #[.int .i64 0, .int .i64 0], .slice none 0 0], []⟩ 8 (by kernel_rfl) (by kernel_rfl) (by kernel_rfl) (by kernel_rfl)) ?_
  intro W base args ds gs before hval0 hW hcnd _
  have hval : ∀ (j : Nat) t v, Try.f3.params[j]? = some t → args[j]? = some v → Value.okWide Try.prog W .any base t v := hval0
  have hW' := hW
  obtain ⟨p, q, hA0, hV, rfl, hfz, hnd⟩ := hW
  have hA : DataW.TrodAll enc Try.prog W 0 (fun _ => true) true Try.f3.params.toList args.toList ds p := hA0
  rw [Try.params3] at hA hval
  obtain ⟨v0, vs0, d0, ds0, p0, q0, hargs, rfl, rfl, h0, r0⟩ := trodAll_cons hA
  obtain ⟨v1, vs1, d1, ds1, p1, q1, rfl, rfl, rfl, h1, r1⟩ := trodAll_cons r0
  obtain ⟨v2, vs2, d2, ds2, p2, q2, rfl, rfl, rfl, h2, r2⟩ := trodAll_cons r1
  obtain ⟨v3, vs3, d3, ds3, p3, q3, rfl, rfl, rfl, h3, r3⟩ := trodAll_cons r2
  obtain ⟨v4, vs4, d4, ds4, p4, q4, rfl, rfl, rfl, h4, r4⟩ := trodAll_cons r3
  obtain ⟨v5, vs5, d5, ds5, p5, q5, rfl, rfl, rfl, h5, r5⟩ := trodAll_cons r4
  obtain ⟨rfl, rfl, rfl⟩ := trodAll_nil r5
  obtain rfl : args = #[v0, v1, v2, v3, v4, v5] := by cases args; simp_all
  obtain ⟨rfl, rfl⟩ := trodVars_none hV
  obtain ⟨a0, rfl, rfl, rfl, w0⟩ := open_int Try.underlying3 (hval 0 3 v0 rfl rfl) h0
  obtain ⟨a1, rfl, rfl, rfl, w1⟩ := open_int Try.underlying3 (hval 1 3 v1 rfl rfl) h1
  obtain ⟨a2, rfl, rfl, rfl, w2⟩ := open_int Try.underlying3 (hval 2 3 v2 rfl rfl) h2
  obtain ⟨a3, rfl, rfl, rfl, w3⟩ := open_int Try.underlying3 (hval 3 3 v3 rfl rfl) h3
  obtain ⟨r4_, l4_, u4_, rfl⟩ := Opn.agg_of Try.underlying23 (by kernel_rfl) (by kernel_rfl) (by intro j f hf; rcases j with _ | _ | j <;> simp at hf <;> (try subst hf) <;> exact Try.underlying3) (hval 4 23 v4 rfl rfl) h4
  obtain ⟨x4_0, x4_1, rfl⟩ : ∃ x4_0 x4_1, r4_ = [x4_0, x4_1] := by
    rcases r4_ with _ | ⟨x4_0, _ | ⟨x4_1, _ | ⟨_, _⟩⟩⟩ <;> first | exact ⟨_, _, rfl⟩ | (simp at l4_)
  have w4_0 := u4_ x4_0 (by simp)
  have w4_1 := u4_ x4_1 (by simp)
  obtain ⟨s5, cap5, a5, rfl, w5⟩ := Opn.bytes_of (hval 5 24 v5 rfl rfl) h5
  clear hA0 hval0
  refine (walk a0 a1 a2 a3 x4_0 x4_1 a5 s5 cap5 W w0 w1 w2 w3 w4_0 w4_1 w5).mono fun e W' ⟨he, hg⟩ => ?_
  subst he
  exact ⟨_, rfl, post_of_old hW' (fun _ _ _ => (trodAll_cons_mk (shut_bool Try.underlying4 _) trodAll_mk0)) (fun sp hsp => (trodAll_cons_mk (shut_int Try.underlying3 w0) (trodAll_cons_mk (shut_int Try.underlying3 w1) (trodAll_cons_mk (shut_int Try.underlying3 w2) (trodAll_cons_mk (shut_int Try.underlying3 w3) (trodAll_cons_mk (Opn.back (by kernel_rfl) (of_decide_eq_true (by kernel_rfl)) h4 hg (fun x hx => hW'.lt x (by simp [hx])) (fun x hx => hsp x (by simp [hx]))) (trodAll_cons_mk (Opn.back (by kernel_rfl) (of_decide_eq_true (by kernel_rfl)) h5 hg (fun x hx => hW'.lt x (by simp [hx])) (fun x hx => hsp x (by simp [hx]))) trodAll_mk0))))))) (fun _ _ => rfl)
    hg (ok_one (by kernel_rfl) rfl (okWide_bool_mk Try.underlying4 _))⟩
theorem over : Rows.segmAsksRow.holds Try.pinned (OpenSpec.ofChange Rows.segmAsksSpec) :=
  OpenClaim.holds_of_wide 3 Try.f3 rfl rfl rfl rfl rfl rfl rfl ⟨rfl, rfl, rfl, rfl, rfl⟩ rfl rfl rfl rfl rfl (by kernel_rfl) Try.func3 (by kernel_rfl)
    (of_decide_eq_true (by kernel_rfl)) (by unfold Func.isWrapper; first | (rw [if_pos (by decide +kernel)]; kernel_rfl) | (rw [if_neg (by decide +kernel)]; exact ⟨rfl, rfl⟩))
    (fun os started H enc _ => lifted os started H enc)
theorem proved : Rows.SegmAsksSaid :=
  over
#print axioms proved
end Go.Proofs.Ytkgplpjecbbckaa.segmAsks
