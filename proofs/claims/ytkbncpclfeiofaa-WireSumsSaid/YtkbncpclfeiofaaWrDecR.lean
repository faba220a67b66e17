/- Frames: the reference's Decode. Conditions: each theorem's own. -/
import Derived.Test.YtkbncpclfeiofaaWrDec
import Derived.Test.YtkbncpclfeiofaaWrEncR
set_option linter.unusedVariables false
namespace Go.Proofs.Ytkbncpclfeiofaa.Wr
open Go.RowKit Hp WrM Byt
attribute [local go_sem ↓] Go.wp_at_zero Go.wp_at_succ
theorem and_15 {x : Nat} (hx : x < 256) : bits BinOp.and IntKind.u8 (x : Int) 15 = ((x % 16 : Nat) : Int) := by
  have h1 : (BitVec.ofInt 8 (x : Int)).toNat = x := by
    rw [BitVec.ofInt_natCast, BitVec.toNat_ofNat]; exact Nat.mod_eq_of_lt (by omega)
  have h2 : (BitVec.ofInt 8 (15 : Int)).toNat = 15 := by decide
  have h3 := Nat.and_two_pow_sub_one_eq_mod x 4
  rw [show 2 ^ 4 - 1 = 15 from rfl, show 2 ^ 4 = 16 from rfl] at h3
  show IntKind.u8.wrap ((BitVec.ofInt 8 (x : Int) &&& BitVec.ofInt 8 (15 : Int)).toNat : Int) = _
  rw [BitVec.toNat_and, h1, h2, h3]
  simp [IntKind.wrap, IntKind.bits, IntKind.signed]
  omega
/-- A part of the bytes. -/
theorem src_mid {w : World} {b o c n i k : Nat} {l : List UInt8} (h : Byt.Src w (.slice (some ⟨b, o, none⟩) n c) l) (hn : n = l.length) (hk : i + k ≤ l.length) :
    Byt.Src w (.slice (some ⟨b, o + i, none⟩) k (c - i)) ((l.drop i).take k) :=
  src_pre (src_rest h hn (by omega)) (by rw [List.length_drop, hn]) (by rw [List.length_drop]; omega)
set_option maxHeartbeats 4000000 in
set_option maxRecDepth 100000 in
theorem decR_short {w : World} {s : Option Addr} {c : Nat} {l : List UInt8} (h : l.length < 26) :
    Calls Try.prog 18 #[.slice s l.length c] w (Ans w (.tuple #[fv zf none 0, .int .i64 2])) := by
  unfold fv fcs zf
  dsimp only [List.length_nil]
  go_enter Try.func18, Try.ntmps18
  go_upto_region 1 with fail
  have hA : Blk (w.alloc (.cells #[.int .i64 0, .int .i64 0, .int .i64 0, .int .i64 0, .int .u64 0, .int .i64 0, .int .i64 0, .int .i64 0, .int .i64 0, .slice none 0 0] 25)) w.heap.size [.int .i64 0, .int .i64 0, .int .i64 0, .int .i64 0, .int .u64 0, .int .i64 0, .int .i64 0, .int .i64 0, .int .i64 0, .slice none 0 0] 25 := Blk.new w _ _
  have kA : Kept (fun _ => False) w (w.alloc (.cells #[.int .i64 0, .int .i64 0, .int .i64 0, .int .i64 0, .int .u64 0, .int .i64 0, .int .i64 0, .int .i64 0, .int .i64 0, .slice none 0 0] 25)) := (Kept.refl _ w).alloc _
  have sA : (w.alloc (.cells #[.int .i64 0, .int .i64 0, .int .i64 0, .int .i64 0, .int .u64 0, .int .i64 0, .int .i64 0, .int .i64 0, .int .i64 0, .slice none 0 0] 25)).heap.size = w.heap.size + 1 := by simp
  generalize w.alloc (.cells #[.int .i64 0, .int .i64 0, .int .i64 0, .int .i64 0, .int .u64 0, .int .i64 0, .int .i64 0, .int .i64 0, .int .i64 0, .slice none 0 0] 25) = wa at *
  generalize hra : w.heap.size = ra at *
  have HRA := Lib.hid hra
  have HA := Lib.hid hA
  have HK := Lib.hid kA
  have HSA := Lib.hid sA
  have HAZ := HA
  have HKZ := HK
  have u0 := hA.cell (o := 0) rfl
  have v0 := hA.frozen 0
  have u1 := hA.cell (o := 1) rfl
  have v1 := hA.frozen 1
  have u2 := hA.cell (o := 2) rfl
  have v2 := hA.frozen 2
  have u3 := hA.cell (o := 3) rfl
  have v3 := hA.frozen 3
  have u4 := hA.cell (o := 4) rfl
  have v4 := hA.frozen 4
  have u5 := hA.cell (o := 5) rfl
  have v5 := hA.frozen 5
  have u6 := hA.cell (o := 6) rfl
  have v6 := hA.frozen 6
  have u7 := hA.cell (o := 7) rfl
  have v7 := hA.frozen 7
  have u8 := hA.cell (o := 8) rfl
  have v8 := hA.frozen 8
  have u9 := hA.cell (o := 9) rfl
  have v9 := hA.frozen 9
  clear hA kA sA hra
  have h26 : (l.length : Int) < 26 := by omega
  go_wp2_with fail
  have hZ := blk10 HAZ.out (.int .i64 0) (.int .i64 0) (.int .i64 0) (.int .i64 0) (.int .u64 0) (.int .i64 0) (.int .i64 0) (.int .i64 0) (.int .i64 0) (.slice none 0 0)
  have kZ := kept10 wa ra (.int .i64 0) (.int .i64 0) (.int .i64 0) (.int .i64 0) (.int .u64 0) (.int .i64 0) (.int .i64 0) (.int .i64 0) (.int .i64 0) (.slice none 0 0)
  unfold set10 at hZ kZ
  have hKK := HKZ.out.trans' kZ (fun i hi e => by have := HRA.out; omega)
  generalize (((((((((wa.setCell ⟨ra, 0, none⟩ (.int .i64 0)).setCell ⟨ra, 1, none⟩ (.int .i64 0)).setCell ⟨ra, 2, none⟩ (.int .i64 0)).setCell ⟨ra, 3, none⟩ (.int .i64 0)).setCell ⟨ra, 4, none⟩ (.int .u64 0)).setCell ⟨ra, 5, none⟩ (.int .i64 0)).setCell ⟨ra, 6, none⟩ (.int .i64 0)).setCell ⟨ra, 7, none⟩ (.int .i64 0)).setCell ⟨ra, 8, none⟩ (.int .i64 0)).setCell ⟨ra, 9, none⟩ (.slice none 0 0) = z9 at *
  (try simp only [Exit.inBlock, Exit.then])
  refine bodyPost_ret (results_frame2 rfl _ _ ra rfl hZ) rfl ?_
  exact ⟨rfl, hKK⟩
set_option maxHeartbeats 8000000 in
set_option maxRecDepth 100000 in
theorem decR_long {w : World} {s : Option Addr} {c : Nat} {l : List UInt8} (h : Byt.Src w (.slice s l.length c) l) (hc : c ≤ 9223372036854775807) (hl : l.length ≤ 1000000) (h26 : 26 ≤ l.length) :
    Calls Try.prog 18 #[.slice s l.length c] w (DecP w l) := by
  have hgood := good_iff (b := l)
  have HSR := Lib.hid h
  have hlc : l.length ≤ c := by obtain ⟨_, _, e, hc, _⟩ := h; cases e; exact hc
  obtain ⟨gb, go, rfl, hgb, _, hcell⟩ := src_addr h (by omega)
  have hb (j : Nat) (hj : j < l.length) : w.cell? ⟨gb, go + j, none⟩ = some (.int .u8 ((l.getD j 0).toNat : Int)) := by
    rw [hcell j hj]
    simp [List.getD, List.getElem?_eq_getElem hj]
  have b0 := hb 0 (by omega)
  have b1 := hb 1 (by omega)
  have b2 := hb 2 (by omega)
  have hF : flds l = { kind := ((l.getD 0 0).toNat : Int), src := (((l.getD 1 0).toNat / 16 : Nat) : Int), dst := (((l.getD 1 0).toNat % 16 : Nat) : Int), prio := ((l.getD 2 0).toNat : Int), msg := val ((l.drop 4).take 8), off := (val ((l.drop 12).take 4) : Int), total := (val ((l.drop 16).take 4) : Int), len := (val ((l.drop 20).take 2) : Int), num := (val ((l.drop 22).take 4) : Int), data := l.drop 26 } := rfl
  have G1 := fun (w' : World) (k : Kept (fun _ => False) w w') => get_any (by rw [show ((l.drop 4).take 8).length = 8 by rw [List.length_take, List.length_drop]; omega]; exact src_mid (h.kept k) rfl (show 4 + 8 ≤ l.length by omega)) (by rw [List.length_take]; omega)
  rw [show ((l.drop 4).take 8).length = 8 by rw [List.length_take, List.length_drop]; omega] at G1
  have N1 := val_lt ((l.drop 4).take 8)
  rw [show ((l.drop 4).take 8).length = 8 by rw [List.length_take, List.length_drop]; omega, show (256 : Nat) ^ 8 = 18446744073709551616 from rfl] at N1
  generalize val ((l.drop 4).take 8) = n1 at *
  have G2 := fun (w' : World) (k : Kept (fun _ => False) w w') => get_any (by rw [show ((l.drop 12).take 4).length = 4 by rw [List.length_take, List.length_drop]; omega]; exact src_mid (h.kept k) rfl (show 12 + 4 ≤ l.length by omega)) (by rw [List.length_take]; omega)
  rw [show ((l.drop 12).take 4).length = 4 by rw [List.length_take, List.length_drop]; omega] at G2
  have N2 := val_lt ((l.drop 12).take 4)
  rw [show ((l.drop 12).take 4).length = 4 by rw [List.length_take, List.length_drop]; omega, show (256 : Nat) ^ 4 = 4294967296 from rfl] at N2
  generalize val ((l.drop 12).take 4) = n2 at *
  have G3 := fun (w' : World) (k : Kept (fun _ => False) w w') => get_any (by rw [show ((l.drop 16).take 4).length = 4 by rw [List.length_take, List.length_drop]; omega]; exact src_mid (h.kept k) rfl (show 16 + 4 ≤ l.length by omega)) (by rw [List.length_take]; omega)
  rw [show ((l.drop 16).take 4).length = 4 by rw [List.length_take, List.length_drop]; omega] at G3
  have N3 := val_lt ((l.drop 16).take 4)
  rw [show ((l.drop 16).take 4).length = 4 by rw [List.length_take, List.length_drop]; omega, show (256 : Nat) ^ 4 = 4294967296 from rfl] at N3
  generalize val ((l.drop 16).take 4) = n3 at *
  have G4 := fun (w' : World) (k : Kept (fun _ => False) w w') => get_any (by rw [show ((l.drop 20).take 2).length = 2 by rw [List.length_take, List.length_drop]; omega]; exact src_mid (h.kept k) rfl (show 20 + 2 ≤ l.length by omega)) (by rw [List.length_take]; omega)
  rw [show ((l.drop 20).take 2).length = 2 by rw [List.length_take, List.length_drop]; omega] at G4
  have N4 := val_lt ((l.drop 20).take 2)
  rw [show ((l.drop 20).take 2).length = 2 by rw [List.length_take, List.length_drop]; omega, show (256 : Nat) ^ 2 = 65536 from rfl] at N4
  generalize val ((l.drop 20).take 2) = n4 at *
  have G5 := fun (w' : World) (k : Kept (fun _ => False) w w') => get_any (by rw [show ((l.drop 22).take 4).length = 4 by rw [List.length_take, List.length_drop]; omega]; exact src_mid (h.kept k) rfl (show 22 + 4 ≤ l.length by omega)) (by rw [List.length_take]; omega)
  rw [show ((l.drop 22).take 4).length = 4 by rw [List.length_take, List.length_drop]; omega] at G5
  have N5 := val_lt ((l.drop 22).take 4)
  rw [show ((l.drop 22).take 4).length = 4 by rw [List.length_take, List.length_drop]; omega, show (256 : Nat) ^ 4 = 4294967296 from rfl] at N5
  generalize val ((l.drop 22).take 4) = n5 at *
  have X0 := (l.getD 0 0).toNat_lt
  have X1 := (l.getD 1 0).toNat_lt
  have X2 := (l.getD 2 0).toNat_lt
  generalize (l.getD 0 0).toNat = x0 at *
  generalize (l.getD 1 0).toNat = x1 at *
  generalize (l.getD 2 0).toNat = x2 at *
  have A15 := and_15 (show x1 < 256 by omega)
  have HB0 := Lib.hid b0
  have HB1 := Lib.hid b1
  have HB2 := Lib.hid b2
  have HFF := Lib.hid hF
  have HGOOD := Lib.hid hgood
  have HG1 := Lib.hid G1
  clear G1
  have HG2 := Lib.hid G2
  clear G2
  have HG3 := Lib.hid G3
  clear G3
  have HG4 := Lib.hid G4
  clear G4
  have HG5 := Lib.hid G5
  clear G5
  have hz1 : ¬ (l.length : Int) < 26 := by omega
  have hz2 : ¬ l.length < 26 := by omega
  have hi0 : (0 : Int) < (l.length : Int) := by omega
  have hj0 : 0 < l.length := by omega
  have hi1 : (1 : Int) < (l.length : Int) := by omega
  have hj1 : 1 < l.length := by omega
  have hi2 : (2 : Int) < (l.length : Int) := by omega
  have hj2 : 2 < l.length := by omega
  have hs4 : (4 : Int) ≤ (c : Int) := by omega
  have ht4 : 4 ≤ c := by omega
  have hs12 : (12 : Int) ≤ (c : Int) := by omega
  have ht12 : 12 ≤ c := by omega
  have hs16 : (16 : Int) ≤ (c : Int) := by omega
  have ht16 : 16 ≤ c := by omega
  have hs20 : (20 : Int) ≤ (c : Int) := by omega
  have ht20 : 20 ≤ c := by omega
  have hs22 : (22 : Int) ≤ (c : Int) := by omega
  have ht22 : 22 ≤ c := by omega
  have hs26 : (26 : Int) ≤ (c : Int) := by omega
  have ht26 : 26 ≤ c := by omega
  have hu4 : ¬ c = 4 := by omega
  have hu12 : ¬ c = 12 := by omega
  have hu16 : ¬ c = 16 := by omega
  have hu20 : ¬ c = 20 := by omega
  have hu22 : ¬ c = 22 := by omega
  clear h hb hcell b0 b1 b2 hF hgood
  go_enter Try.func18, Try.ntmps18
  go_upto_region 1 with fail
  have hA : Blk (w.alloc (.cells #[.int .i64 0, .int .i64 0, .int .i64 0, .int .i64 0, .int .u64 0, .int .i64 0, .int .i64 0, .int .i64 0, .int .i64 0, .slice none 0 0] 25)) w.heap.size [.int .i64 0, .int .i64 0, .int .i64 0, .int .i64 0, .int .u64 0, .int .i64 0, .int .i64 0, .int .i64 0, .int .i64 0, .slice none 0 0] 25 := Blk.new w _ _
  have kA : Kept (fun _ => False) w (w.alloc (.cells #[.int .i64 0, .int .i64 0, .int .i64 0, .int .i64 0, .int .u64 0, .int .i64 0, .int .i64 0, .int .i64 0, .int .i64 0, .slice none 0 0] 25)) := (Kept.refl _ w).alloc _
  have sA : (w.alloc (.cells #[.int .i64 0, .int .i64 0, .int .i64 0, .int .i64 0, .int .u64 0, .int .i64 0, .int .i64 0, .int .i64 0, .int .i64 0, .slice none 0 0] 25)).heap.size = w.heap.size + 1 := by simp
  generalize w.alloc (.cells #[.int .i64 0, .int .i64 0, .int .i64 0, .int .i64 0, .int .u64 0, .int .i64 0, .int .i64 0, .int .i64 0, .int .i64 0, .slice none 0 0] 25) = wa at *
  generalize hra : w.heap.size = ra at *
  have HRA := Lib.hid hra
  have HA := Lib.hid hA
  have HK := Lib.hid kA
  have HSA := Lib.hid sA
  clear hA sA hra
  go_upto_region 3 with fail
  have hgb' : gb < w.heap.size := by have := HRA.out; omega
  have c0 : wa.cell? ⟨gb, go, none⟩ = some (.int .u8 (x0 : Int)) := (keptAt kA hgb' (fun f => f) _).trans HB0.out
  have c1 : wa.cell? ⟨gb, go + 1, none⟩ = some (.int .u8 (x1 : Int)) := (keptAt kA hgb' (fun f => f) _).trans HB1.out
  have c2 : wa.cell? ⟨gb, go + 2, none⟩ = some (.int .u8 (x2 : Int)) := (keptAt kA hgb' (fun f => f) _).trans HB2.out
  have E0 := Lib.hid kA
  have KS := Lib.hid fun (w' : World) (k : Kept (fun _ => False) w w') => (show w'.cell? ⟨gb, go, none⟩ = some (.int .u8 (x0 : Int)) ∧ w'.cell? ⟨gb, go + 1, none⟩ = some (.int .u8 (x1 : Int)) ∧ w'.cell? ⟨gb, go + 2, none⟩ = some (.int .u8 (x2 : Int)) from ⟨(keptAt k hgb' (fun f => f) _).trans HB0.out, (keptAt k hgb' (fun f => f) _).trans HB1.out, (keptAt k hgb' (fun f => f) _).trans HB2.out⟩)
  clear kA hgb'
  go_cut [4] from 11 to 48 (fun s4 wx => s4 = .pointer (some ⟨ra + 1, 0, none⟩) ∧ Blk wx (ra + 1) [.int .i64 (IntKind.i64.wrap (x0 : Int)), .int .i64 (IntKind.i64.wrap ((x1 : Int) / 16)), .int .i64 (IntKind.i64.wrap ((x1 : Int) % 16)), .int .i64 (IntKind.i64.wrap (x2 : Int)), .int .u64 (n1 : Int), .int .i64 (IntKind.i64.wrap (n2 : Int)), .int .i64 (IntKind.i64.wrap (n4 : Int)), .int .i64 (IntKind.i64.wrap (n3 : Int)), .int .i64 (IntKind.i64.wrap (n5 : Int)), .slice none 0 0] 25 ∧ Blk wx ra [.int .i64 0, .int .i64 0, .int .i64 0, .int .i64 0, .int .u64 0, .int .i64 0, .int .i64 0, .int .i64 0, .int .i64 0, .slice none 0 0] 25 ∧ Kept (fun _ => False) w wx)
  case first =>
    refine wp_region_held_drew (S := fun w' => w'.cell? ⟨gb, go, none⟩ = some (.int .u8 (x0 : Int)) ∧ w'.cell? ⟨gb, go + 1, none⟩ = some (.int .u8 (x1 : Int)) ∧ w'.cell? ⟨gb, go + 2, none⟩ = some (.int .u8 (x2 : Int))) (by kernel_rfl) (KS.out _ E0.out.drew) (fun hHeld => ?_)
    have K0 := Lib.hid E0.out.drew
    refine wpAnyH_take (i := 0) (oi := { dst := some 11, op := Go.Op.move (Go.Operand.tmp 0), type := 23, pos := "base.go:540", after := #[], guard := none }) (v := ?_) rfl (by kernel_rfl) (by kernel_rfl) (by kernel_rfl) (fun _ _ _ h => h) (Or.inl ⟨by rfl, ?_⟩) (by assumption) ?_
    rotate_left 1
    focus (intro w hSw; (try dsimp only at hSw); go_simp; try with_reducible rfl)
    try simp only [Act.put, List.setIfInBounds_toArray, List.set_cons_zero, List.set_cons_succ]
    refine wpAnyH_take (i := 1) (oi := { dst := some 12, op := Go.Op.indexAddr 23 (Go.Operand.tmp 11) (Go.Operand.const (Go.Value.int Go.IntKind.i64 0)), type := 0, pos := "base.go:540", after := #[{ on := 0, ground := Go.Ground.data }], guard := none }) (v := ?_) rfl (by kernel_rfl) (by kernel_rfl) (by kernel_rfl) (fun _ _ _ h => h) (Or.inl ⟨by rfl, ?_⟩) (by assumption) ?_
    rotate_left 1
    focus (intro w hSw; (try dsimp only at hSw); go_simp; try with_reducible rfl)
    try simp only [Act.put, List.setIfInBounds_toArray, List.set_cons_zero, List.set_cons_succ]
    refine wpAnyH_take (i := 2) (oi := { dst := some 13, op := Go.Op.load 5 (Go.Operand.tmp 12), type := 5, pos := "base.go:540", after := #[{ on := 1, ground := Go.Ground.data }], guard := none }) (v := ?_) rfl (by kernel_rfl) (by kernel_rfl) (by kernel_rfl) (fun _ _ _ h => h) (Or.inl ⟨by rfl, ?_⟩) (by assumption) ?_
    rotate_left 1
    focus (intro w hSw; (try dsimp only at hSw); go_simp; try with_reducible rfl)
    try simp only [Act.put, List.setIfInBounds_toArray, List.set_cons_zero, List.set_cons_succ]
    refine wpAnyH_take (i := 3) (oi := { dst := some 14, op := Go.Op.convert 5 3 (Go.Operand.tmp 13), type := 3, pos := "base.go:540", after := #[{ on := 2, ground := Go.Ground.data }], guard := none }) (v := ?_) rfl (by kernel_rfl) (by kernel_rfl) (by kernel_rfl) (fun _ _ _ h => h) (Or.inl ⟨by rfl, ?_⟩) (by assumption) ?_
    rotate_left 1
    focus (intro w hSw; (try dsimp only at hSw); go_simp; try with_reducible rfl)
    try simp only [Act.put, List.setIfInBounds_toArray, List.set_cons_zero, List.set_cons_succ]
    refine wpAnyH_take (i := 4) (oi := { dst := some 15, op := Go.Op.move (Go.Operand.tmp 0), type := 23, pos := "base.go:540", after := #[], guard := none }) (v := ?_) rfl (by kernel_rfl) (by kernel_rfl) (by kernel_rfl) (fun _ _ _ h => h) (Or.inl ⟨by rfl, ?_⟩) (by assumption) ?_
    rotate_left 1
    focus (intro w hSw; (try dsimp only at hSw); go_simp; try with_reducible rfl)
    try simp only [Act.put, List.setIfInBounds_toArray, List.set_cons_zero, List.set_cons_succ]
    refine wpAnyH_take (i := 5) (oi := { dst := some 16, op := Go.Op.indexAddr 23 (Go.Operand.tmp 15) (Go.Operand.const (Go.Value.int Go.IntKind.i64 1)), type := 0, pos := "base.go:540", after := #[{ on := 4, ground := Go.Ground.data }], guard := none }) (v := ?_) rfl (by kernel_rfl) (by kernel_rfl) (by kernel_rfl) (fun _ _ _ h => h) (Or.inl ⟨by rfl, ?_⟩) (by assumption) ?_
    rotate_left 1
    focus (intro w hSw; (try dsimp only at hSw); go_simp; try with_reducible rfl)
    try simp only [Act.put, List.setIfInBounds_toArray, List.set_cons_zero, List.set_cons_succ]
    refine wpAnyH_take (i := 6) (oi := { dst := some 17, op := Go.Op.load 5 (Go.Operand.tmp 16), type := 5, pos := "base.go:540", after := #[{ on := 5, ground := Go.Ground.data }], guard := none }) (v := ?_) rfl (by kernel_rfl) (by kernel_rfl) (by kernel_rfl) (fun _ _ _ h => h) (Or.inl ⟨by rfl, ?_⟩) (by assumption) ?_
    rotate_left 1
    focus (intro w hSw; (try dsimp only at hSw); go_simp; try with_reducible rfl)
    try simp only [Act.put, List.setIfInBounds_toArray, List.set_cons_zero, List.set_cons_succ]
    refine wpAnyH_take (i := 7) (oi := { dst := some 18, op := Go.Op.binOp Go.BinOp.shr 5 (Go.Operand.tmp 17) (Go.Operand.const (Go.Value.int Go.IntKind.u64 4)) 53, type := 5, pos := "base.go:540", after := #[{ on := 6, ground := Go.Ground.data }], guard := none }) (v := ?_) rfl (by kernel_rfl) (by kernel_rfl) (by kernel_rfl) (fun _ _ _ h => h) (Or.inl ⟨by rfl, ?_⟩) (by assumption) ?_
    rotate_left 1
    focus (intro w hSw; (try dsimp only at hSw); go_simp; try with_reducible rfl)
    try simp only [Act.put, List.setIfInBounds_toArray, List.set_cons_zero, List.set_cons_succ]
    refine wpAnyH_take (i := 8) (oi := { dst := some 19, op := Go.Op.convert 5 3 (Go.Operand.tmp 18), type := 3, pos := "base.go:540", after := #[{ on := 7, ground := Go.Ground.data }], guard := none }) (v := ?_) rfl (by kernel_rfl) (by kernel_rfl) (by kernel_rfl) (fun _ _ _ h => h) (Or.inl ⟨by rfl, ?_⟩) (by assumption) ?_
    rotate_left 1
    focus (intro w hSw; (try dsimp only at hSw); go_simp; try with_reducible rfl)
    try simp only [Act.put, List.setIfInBounds_toArray, List.set_cons_zero, List.set_cons_succ]
    refine wpAnyH_take (i := 9) (oi := { dst := some 20, op := Go.Op.move (Go.Operand.tmp 0), type := 23, pos := "base.go:540", after := #[], guard := none }) (v := ?_) rfl (by kernel_rfl) (by kernel_rfl) (by kernel_rfl) (fun _ _ _ h => h) (Or.inl ⟨by rfl, ?_⟩) (by assumption) ?_
    rotate_left 1
    focus (intro w hSw; (try dsimp only at hSw); go_simp; try with_reducible rfl)
    try simp only [Act.put, List.setIfInBounds_toArray, List.set_cons_zero, List.set_cons_succ]
    refine wpAnyH_take (i := 10) (oi := { dst := some 21, op := Go.Op.indexAddr 23 (Go.Operand.tmp 20) (Go.Operand.const (Go.Value.int Go.IntKind.i64 1)), type := 0, pos := "base.go:540", after := #[{ on := 9, ground := Go.Ground.data }], guard := none }) (v := ?_) rfl (by kernel_rfl) (by kernel_rfl) (by kernel_rfl) (fun _ _ _ h => h) (Or.inl ⟨by rfl, ?_⟩) (by assumption) ?_
    rotate_left 1
    focus (intro w hSw; (try dsimp only at hSw); go_simp; try with_reducible rfl)
    try simp only [Act.put, List.setIfInBounds_toArray, List.set_cons_zero, List.set_cons_succ]
    refine wpAnyH_take (i := 11) (oi := { dst := some 22, op := Go.Op.load 5 (Go.Operand.tmp 21), type := 5, pos := "base.go:540", after := #[{ on := 10, ground := Go.Ground.data }], guard := none }) (v := ?_) rfl (by kernel_rfl) (by kernel_rfl) (by kernel_rfl) (fun _ _ _ h => h) (Or.inl ⟨by rfl, ?_⟩) (by assumption) ?_
    rotate_left 1
    focus (intro w hSw; (try dsimp only at hSw); go_simp; try with_reducible rfl)
    try simp only [Act.put, List.setIfInBounds_toArray, List.set_cons_zero, List.set_cons_succ]
    refine wpAnyH_take (i := 12) (oi := { dst := some 23, op := Go.Op.binOp Go.BinOp.and 5 (Go.Operand.tmp 22) (Go.Operand.const (Go.Value.int Go.IntKind.u8 15)) 5, type := 5, pos := "base.go:540", after := #[{ on := 11, ground := Go.Ground.data }], guard := none }) (v := ?_) rfl (by kernel_rfl) (by kernel_rfl) (by kernel_rfl) (fun _ _ _ h => h) (Or.inl ⟨by rfl, ?_⟩) (by assumption) ?_
    rotate_left 1
    focus (intro w hSw; (try dsimp only at hSw); go_simp; try with_reducible rfl)
    try simp only [Act.put, List.setIfInBounds_toArray, List.set_cons_zero, List.set_cons_succ]
    refine wpAnyH_take (i := 13) (oi := { dst := some 24, op := Go.Op.convert 5 3 (Go.Operand.tmp 23), type := 3, pos := "base.go:540", after := #[{ on := 12, ground := Go.Ground.data }], guard := none }) (v := ?_) rfl (by kernel_rfl) (by kernel_rfl) (by kernel_rfl) (fun _ _ _ h => h) (Or.inl ⟨by rfl, ?_⟩) (by assumption) ?_
    rotate_left 1
    focus (intro w hSw; (try dsimp only at hSw); go_simp; try with_reducible rfl)
    try simp only [Act.put, List.setIfInBounds_toArray, List.set_cons_zero, List.set_cons_succ]
    refine wpAnyH_take (i := 14) (oi := { dst := some 25, op := Go.Op.move (Go.Operand.tmp 0), type := 23, pos := "base.go:540", after := #[], guard := none }) (v := ?_) rfl (by kernel_rfl) (by kernel_rfl) (by kernel_rfl) (fun _ _ _ h => h) (Or.inl ⟨by rfl, ?_⟩) (by assumption) ?_
    rotate_left 1
    focus (intro w hSw; (try dsimp only at hSw); go_simp; try with_reducible rfl)
    try simp only [Act.put, List.setIfInBounds_toArray, List.set_cons_zero, List.set_cons_succ]
    refine wpAnyH_take (i := 15) (oi := { dst := some 26, op := Go.Op.indexAddr 23 (Go.Operand.tmp 25) (Go.Operand.const (Go.Value.int Go.IntKind.i64 2)), type := 0, pos := "base.go:540", after := #[{ on := 14, ground := Go.Ground.data }], guard := none }) (v := ?_) rfl (by kernel_rfl) (by kernel_rfl) (by kernel_rfl) (fun _ _ _ h => h) (Or.inl ⟨by rfl, ?_⟩) (by assumption) ?_
    rotate_left 1
    focus (intro w hSw; (try dsimp only at hSw); go_simp; try with_reducible rfl)
    try simp only [Act.put, List.setIfInBounds_toArray, List.set_cons_zero, List.set_cons_succ]
    refine wpAnyH_take (i := 16) (oi := { dst := some 27, op := Go.Op.load 5 (Go.Operand.tmp 26), type := 5, pos := "base.go:540", after := #[{ on := 15, ground := Go.Ground.data }], guard := none }) (v := ?_) rfl (by kernel_rfl) (by kernel_rfl) (by kernel_rfl) (fun _ _ _ h => h) (Or.inl ⟨by rfl, ?_⟩) (by assumption) ?_
    rotate_left 1
    focus (intro w hSw; (try dsimp only at hSw); go_simp; try with_reducible rfl)
    try simp only [Act.put, List.setIfInBounds_toArray, List.set_cons_zero, List.set_cons_succ]
    refine wpAnyH_take (i := 17) (oi := { dst := some 28, op := Go.Op.convert 5 3 (Go.Operand.tmp 27), type := 3, pos := "base.go:540", after := #[{ on := 16, ground := Go.Ground.data }], guard := none }) (v := ?_) rfl (by kernel_rfl) (by kernel_rfl) (by kernel_rfl) (fun _ _ _ h => h) (Or.inl ⟨by rfl, ?_⟩) (by assumption) ?_
    rotate_left 1
    focus (intro w hSw; (try dsimp only at hSw); go_simp; try with_reducible rfl)
    try simp only [Act.put, List.setIfInBounds_toArray, List.set_cons_zero, List.set_cons_succ]
    refine wpAnyH_take (i := 18) (oi := { dst := some 29, op := Go.Op.move (Go.Operand.tmp 0), type := 23, pos := "base.go:540", after := #[], guard := none }) (v := ?_) rfl (by kernel_rfl) (by kernel_rfl) (by kernel_rfl) (fun _ _ _ h => h) (Or.inl ⟨by rfl, ?_⟩) (by assumption) ?_
    rotate_left 1
    focus (intro w hSw; (try dsimp only at hSw); go_simp; try with_reducible rfl)
    try simp only [Act.put, List.setIfInBounds_toArray, List.set_cons_zero, List.set_cons_succ]
    refine wpAnyH_take (i := 19) (oi := { dst := some 30, op := Go.Op.slice 23 (Go.Operand.tmp 29) (some (Go.Operand.const (Go.Value.int Go.IntKind.i64 4))) (some (Go.Operand.const (Go.Value.int Go.IntKind.i64 12))) none, type := 23, pos := "base.go:540", after := #[{ on := 18, ground := Go.Ground.data }], guard := none }) (v := ?_) rfl (by kernel_rfl) (by kernel_rfl) (by kernel_rfl) (fun _ _ _ h => h) (Or.inl ⟨by rfl, ?_⟩) (by assumption) ?_
    rotate_left 1
    focus (intro w hSw; (try dsimp only at hSw); go_simp; try with_reducible rfl)
    try simp only [Act.put, List.setIfInBounds_toArray, List.set_cons_zero, List.set_cons_succ]
    refine wpAnyH_take (i := 21) (oi := { dst := some 32, op := Go.Op.move (Go.Operand.tmp 0), type := 23, pos := "base.go:540", after := #[], guard := none }) (v := ?_) rfl (by kernel_rfl) (by kernel_rfl) (by kernel_rfl) (fun _ _ _ h => h) (Or.inl ⟨by rfl, ?_⟩) (by assumption) ?_
    rotate_left 1
    focus (intro w hSw; (try dsimp only at hSw); go_simp; try with_reducible rfl)
    try simp only [Act.put, List.setIfInBounds_toArray, List.set_cons_zero, List.set_cons_succ]
    refine wpAnyH_take (i := 22) (oi := { dst := some 33, op := Go.Op.slice 23 (Go.Operand.tmp 32) (some (Go.Operand.const (Go.Value.int Go.IntKind.i64 12))) (some (Go.Operand.const (Go.Value.int Go.IntKind.i64 16))) none, type := 23, pos := "base.go:540", after := #[{ on := 21, ground := Go.Ground.data }], guard := none }) (v := ?_) rfl (by kernel_rfl) (by kernel_rfl) (by kernel_rfl) (fun _ _ _ h => h) (Or.inl ⟨by rfl, ?_⟩) (by assumption) ?_
    rotate_left 1
    focus (intro w hSw; (try dsimp only at hSw); go_simp; try with_reducible rfl)
    try simp only [Act.put, List.setIfInBounds_toArray, List.set_cons_zero, List.set_cons_succ]
    refine wpAnyH_take (i := 25) (oi := { dst := some 36, op := Go.Op.move (Go.Operand.tmp 0), type := 23, pos := "base.go:540", after := #[], guard := none }) (v := ?_) rfl (by kernel_rfl) (by kernel_rfl) (by kernel_rfl) (fun _ _ _ h => h) (Or.inl ⟨by rfl, ?_⟩) (by assumption) ?_
    rotate_left 1
    focus (intro w hSw; (try dsimp only at hSw); go_simp; try with_reducible rfl)
    try simp only [Act.put, List.setIfInBounds_toArray, List.set_cons_zero, List.set_cons_succ]
    refine wpAnyH_take (i := 26) (oi := { dst := some 37, op := Go.Op.slice 23 (Go.Operand.tmp 36) (some (Go.Operand.const (Go.Value.int Go.IntKind.i64 16))) (some (Go.Operand.const (Go.Value.int Go.IntKind.i64 20))) none, type := 23, pos := "base.go:540", after := #[{ on := 25, ground := Go.Ground.data }], guard := none }) (v := ?_) rfl (by kernel_rfl) (by kernel_rfl) (by kernel_rfl) (fun _ _ _ h => h) (Or.inl ⟨by rfl, ?_⟩) (by assumption) ?_
    rotate_left 1
    focus (intro w hSw; (try dsimp only at hSw); go_simp; try with_reducible rfl)
    try simp only [Act.put, List.setIfInBounds_toArray, List.set_cons_zero, List.set_cons_succ]
    refine wpAnyH_take (i := 29) (oi := { dst := some 40, op := Go.Op.move (Go.Operand.tmp 0), type := 23, pos := "base.go:540", after := #[], guard := none }) (v := ?_) rfl (by kernel_rfl) (by kernel_rfl) (by kernel_rfl) (fun _ _ _ h => h) (Or.inl ⟨by rfl, ?_⟩) (by assumption) ?_
    rotate_left 1
    focus (intro w hSw; (try dsimp only at hSw); go_simp; try with_reducible rfl)
    try simp only [Act.put, List.setIfInBounds_toArray, List.set_cons_zero, List.set_cons_succ]
    refine wpAnyH_take (i := 30) (oi := { dst := some 41, op := Go.Op.slice 23 (Go.Operand.tmp 40) (some (Go.Operand.const (Go.Value.int Go.IntKind.i64 20))) (some (Go.Operand.const (Go.Value.int Go.IntKind.i64 22))) none, type := 23, pos := "base.go:540", after := #[{ on := 29, ground := Go.Ground.data }], guard := none }) (v := ?_) rfl (by kernel_rfl) (by kernel_rfl) (by kernel_rfl) (fun _ _ _ h => h) (Or.inl ⟨by rfl, ?_⟩) (by assumption) ?_
    rotate_left 1
    focus (intro w hSw; (try dsimp only at hSw); go_simp; try with_reducible rfl)
    try simp only [Act.put, List.setIfInBounds_toArray, List.set_cons_zero, List.set_cons_succ]
    refine wpAnyH_take (i := 33) (oi := { dst := some 44, op := Go.Op.move (Go.Operand.tmp 0), type := 23, pos := "base.go:540", after := #[], guard := none }) (v := ?_) rfl (by kernel_rfl) (by kernel_rfl) (by kernel_rfl) (fun _ _ _ h => h) (Or.inl ⟨by rfl, ?_⟩) (by assumption) ?_
    rotate_left 1
    focus (intro w hSw; (try dsimp only at hSw); go_simp; try with_reducible rfl)
    try simp only [Act.put, List.setIfInBounds_toArray, List.set_cons_zero, List.set_cons_succ]
    refine wpAnyH_take (i := 34) (oi := { dst := some 45, op := Go.Op.slice 23 (Go.Operand.tmp 44) (some (Go.Operand.const (Go.Value.int Go.IntKind.i64 22))) (some (Go.Operand.const (Go.Value.int Go.IntKind.i64 26))) none, type := 23, pos := "base.go:540", after := #[{ on := 33, ground := Go.Ground.data }], guard := none }) (v := ?_) rfl (by kernel_rfl) (by kernel_rfl) (by kernel_rfl) (fun _ _ _ h => h) (Or.inl ⟨by rfl, ?_⟩) (by assumption) ?_
    rotate_left 1
    focus (intro w hSw; (try dsimp only at hSw); go_simp; try with_reducible rfl)
    try simp only [Act.put, List.setIfInBounds_toArray, List.set_cons_zero, List.set_cons_succ]
    have K1 := Lib.hid (E0.out.alloc (.cells #[.int .i64 0, .int .i64 0, .int .i64 0, .int .i64 0, .int .u64 0, .int .i64 0, .int .i64 0, .int .i64 0, .int .i64 0, .slice none 0 0] 25)).drew
    have KZ := Lib.hid (E0.out.alloc (.cells #[.int .i64 (IntKind.i64.wrap (x0 : Int)), .int .i64 (IntKind.i64.wrap ((x1 : Int) / 16)), .int .i64 (IntKind.i64.wrap ((x1 : Int) % 16)), .int .i64 (IntKind.i64.wrap (x2 : Int)), .int .u64 (n1 : Int), .int .i64 (IntKind.i64.wrap (n2 : Int)), .int .i64 (IntKind.i64.wrap (n4 : Int)), .int .i64 (IntKind.i64.wrap (n3 : Int)), .int .i64 (IntKind.i64.wrap (n5 : Int)), .slice none 0 0] 25)).drew
    have HFZ := Lib.hid (Blk.new wa [.int .i64 (IntKind.i64.wrap (x0 : Int)), .int .i64 (IntKind.i64.wrap ((x1 : Int) / 16)), .int .i64 (IntKind.i64.wrap ((x1 : Int) % 16)), .int .i64 (IntKind.i64.wrap (x2 : Int)), .int .u64 (n1 : Int), .int .i64 (IntKind.i64.wrap (n2 : Int)), .int .i64 (IntKind.i64.wrap (n4 : Int)), .int .i64 (IntKind.i64.wrap (n3 : Int)), .int .i64 (IntKind.i64.wrap (n5 : Int)), .slice none 0 0] 25).drew
    have HAZ := Lib.hid (HA.out.old (.cells #[.int .i64 (IntKind.i64.wrap (x0 : Int)), .int .i64 (IntKind.i64.wrap ((x1 : Int) / 16)), .int .i64 (IntKind.i64.wrap ((x1 : Int) % 16)), .int .i64 (IntKind.i64.wrap (x2 : Int)), .int .u64 (n1 : Int), .int .i64 (IntKind.i64.wrap (n2 : Int)), .int .i64 (IntKind.i64.wrap (n4 : Int)), .int .i64 (IntKind.i64.wrap (n3 : Int)), .int .i64 (IntKind.i64.wrap (n5 : Int)), .slice none 0 0] 25)).drew
    refine wpAnyH_ready (rs := [20, 38]) (by kernel_rfl) (by simp) ?_
    refine AllReadyH.cons (o := { dst := some 31, op := Go.Op.call { callee := Go.Callee.value (Go.Operand.func 33), args := #[Go.Operand.tmp 30], argTypes := #[23] }, type := 22, pos := "base.go:540", after := #[{ on := 19, ground := Go.Ground.data }], guard := none }) rfl (fun K hK => ?_) (AllReadyH.cons (o := { dst := some 4, op := Go.Op.alloc 25, type := 0, pos := "base.go:540", after := #[], guard := none }) rfl (fun K hK => ?_) AllReadyH.nil)
    · go_simp
      with_reducible refine Calls.mono (HG1.out _ K0.out) ?_
      rintro e y1 ⟨rfl, rfl⟩
      refine hK.out _ _ (KS.out _ K0.out) (fun hHeld => ?_)
      clear hK K
      try simp only [Act.put, List.setIfInBounds_toArray, List.set_cons_zero, List.set_cons_succ]
      refine wpAnyH_ready (rs := [23, 38]) (by kernel_rfl) (by simp) ?_
      refine AllReadyH.cons (o := { dst := some 34, op := Go.Op.call { callee := Go.Callee.value (Go.Operand.func 33), args := #[Go.Operand.tmp 33], argTypes := #[23] }, type := 22, pos := "base.go:540", after := #[{ on := 22, ground := Go.Ground.data }, { on := 20, ground := Go.Ground.chain }], guard := none }) rfl (fun K hK => ?_) (AllReadyH.cons (o := { dst := some 4, op := Go.Op.alloc 25, type := 0, pos := "base.go:540", after := #[], guard := none }) rfl (fun K hK => ?_) AllReadyH.nil)
      · go_simp
        with_reducible refine Calls.mono (HG2.out _ K0.out) ?_
        rintro e y2 ⟨rfl, rfl⟩
        refine hK.out _ _ (KS.out _ K0.out) (fun hHeld => ?_)
        clear hK K
        try simp only [Act.put, List.setIfInBounds_toArray, List.set_cons_zero, List.set_cons_succ]
        refine wpAnyH_take (i := 24) (oi := { dst := some 35, op := Go.Op.convert 22 3 (Go.Operand.tmp 34), type := 3, pos := "base.go:540", after := #[{ on := 23, ground := Go.Ground.data }], guard := none }) (v := ?_) rfl (by kernel_rfl) (by kernel_rfl) (by kernel_rfl) (fun _ _ _ h => h) (Or.inl ⟨by rfl, ?_⟩) (by assumption) ?_
        rotate_left 1
        focus (intro w hSw; (try dsimp only at hSw); go_simp; try with_reducible rfl)
        try simp only [Act.put, List.setIfInBounds_toArray, List.set_cons_zero, List.set_cons_succ]
        refine wpAnyH_ready (rs := [27, 38]) (by kernel_rfl) (by simp) ?_
        refine AllReadyH.cons (o := { dst := some 38, op := Go.Op.call { callee := Go.Callee.value (Go.Operand.func 33), args := #[Go.Operand.tmp 37], argTypes := #[23] }, type := 22, pos := "base.go:540", after := #[{ on := 26, ground := Go.Ground.data }, { on := 23, ground := Go.Ground.chain }], guard := none }) rfl (fun K hK => ?_) (AllReadyH.cons (o := { dst := some 4, op := Go.Op.alloc 25, type := 0, pos := "base.go:540", after := #[], guard := none }) rfl (fun K hK => ?_) AllReadyH.nil)
        · go_simp
          with_reducible refine Calls.mono (HG3.out _ K0.out) ?_
          rintro e y3 ⟨rfl, rfl⟩
          refine hK.out _ _ (KS.out _ K0.out) (fun hHeld => ?_)
          clear hK K
          try simp only [Act.put, List.setIfInBounds_toArray, List.set_cons_zero, List.set_cons_succ]
          refine wpAnyH_take (i := 28) (oi := { dst := some 39, op := Go.Op.convert 22 3 (Go.Operand.tmp 38), type := 3, pos := "base.go:540", after := #[{ on := 27, ground := Go.Ground.data }], guard := none }) (v := ?_) rfl (by kernel_rfl) (by kernel_rfl) (by kernel_rfl) (fun _ _ _ h => h) (Or.inl ⟨by rfl, ?_⟩) (by assumption) ?_
          rotate_left 1
          focus (intro w hSw; (try dsimp only at hSw); go_simp; try with_reducible rfl)
          try simp only [Act.put, List.setIfInBounds_toArray, List.set_cons_zero, List.set_cons_succ]
          refine wpAnyH_ready (rs := [31, 38]) (by kernel_rfl) (by simp) ?_
          refine AllReadyH.cons (o := { dst := some 42, op := Go.Op.call { callee := Go.Callee.value (Go.Operand.func 33), args := #[Go.Operand.tmp 41], argTypes := #[23] }, type := 22, pos := "base.go:540", after := #[{ on := 30, ground := Go.Ground.data }, { on := 27, ground := Go.Ground.chain }], guard := none }) rfl (fun K hK => ?_) (AllReadyH.cons (o := { dst := some 4, op := Go.Op.alloc 25, type := 0, pos := "base.go:540", after := #[], guard := none }) rfl (fun K hK => ?_) AllReadyH.nil)
          · go_simp
            with_reducible refine Calls.mono (HG4.out _ K0.out) ?_
            rintro e y4 ⟨rfl, rfl⟩
            refine hK.out _ _ (KS.out _ K0.out) (fun hHeld => ?_)
            clear hK K
            try simp only [Act.put, List.setIfInBounds_toArray, List.set_cons_zero, List.set_cons_succ]
            refine wpAnyH_take (i := 32) (oi := { dst := some 43, op := Go.Op.convert 22 3 (Go.Operand.tmp 42), type := 3, pos := "base.go:540", after := #[{ on := 31, ground := Go.Ground.data }], guard := none }) (v := ?_) rfl (by kernel_rfl) (by kernel_rfl) (by kernel_rfl) (fun _ _ _ h => h) (Or.inl ⟨by rfl, ?_⟩) (by assumption) ?_
            rotate_left 1
            focus (intro w hSw; (try dsimp only at hSw); go_simp; try with_reducible rfl)
            try simp only [Act.put, List.setIfInBounds_toArray, List.set_cons_zero, List.set_cons_succ]
            refine wpAnyH_ready (rs := [35, 38]) (by kernel_rfl) (by simp) ?_
            refine AllReadyH.cons (o := { dst := some 46, op := Go.Op.call { callee := Go.Callee.value (Go.Operand.func 33), args := #[Go.Operand.tmp 45], argTypes := #[23] }, type := 22, pos := "base.go:540", after := #[{ on := 34, ground := Go.Ground.data }, { on := 31, ground := Go.Ground.chain }], guard := none }) rfl (fun K hK => ?_) (AllReadyH.cons (o := { dst := some 4, op := Go.Op.alloc 25, type := 0, pos := "base.go:540", after := #[], guard := none }) rfl (fun K hK => ?_) AllReadyH.nil)
            · go_simp
              with_reducible refine Calls.mono (HG5.out _ K0.out) ?_
              rintro e y5 ⟨rfl, rfl⟩
              refine hK.out _ _ (KS.out _ K0.out) (fun hHeld => ?_)
              clear hK K
              try simp only [Act.put, List.setIfInBounds_toArray, List.set_cons_zero, List.set_cons_succ]
              refine wpAnyH_take (i := 36) (oi := { dst := some 47, op := Go.Op.convert 22 3 (Go.Operand.tmp 46), type := 3, pos := "base.go:540", after := #[{ on := 35, ground := Go.Ground.data }], guard := none }) (v := ?_) rfl (by kernel_rfl) (by kernel_rfl) (by kernel_rfl) (fun _ _ _ h => h) (Or.inl ⟨by rfl, ?_⟩) (by assumption) ?_
              rotate_left 1
              focus (intro w hSw; (try dsimp only at hSw); go_simp; try with_reducible rfl)
              try simp only [Act.put, List.setIfInBounds_toArray, List.set_cons_zero, List.set_cons_succ]
              refine wpAnyH_take (i := 37) (oi := { dst := some 48, op := Go.Op.build 25 #[(0, Go.Operand.tmp 14), (1, Go.Operand.tmp 19), (2, Go.Operand.tmp 24), (3, Go.Operand.tmp 28), (4, Go.Operand.tmp 31), (5, Go.Operand.tmp 35), (7, Go.Operand.tmp 39), (6, Go.Operand.tmp 43), (8, Go.Operand.tmp 47)], type := 25, pos := "base.go:540", after := #[{ on := 3, ground := Go.Ground.data }, { on := 8, ground := Go.Ground.data }, { on := 13, ground := Go.Ground.data }, { on := 17, ground := Go.Ground.data }, { on := 20, ground := Go.Ground.data }, { on := 24, ground := Go.Ground.data }, { on := 28, ground := Go.Ground.data }, { on := 32, ground := Go.Ground.data }, { on := 36, ground := Go.Ground.data }], guard := none }) (v := ?_) rfl (by kernel_rfl) (by kernel_rfl) (by kernel_rfl) (fun _ _ _ h => h) (Or.inl ⟨by rfl, ?_⟩) (by assumption) ?_
              rotate_left 1
              focus (intro w hSw; (try dsimp only at hSw); go_simp; try with_reducible rfl)
              try simp only [Act.put, List.setIfInBounds_toArray, List.set_cons_zero, List.set_cons_succ]
              refine wpAnyH_ready (rs := [38]) (by kernel_rfl) (by simp) ?_
              refine AllReadyH.cons (o := { dst := some 4, op := Go.Op.alloc 25, type := 0, pos := "base.go:540", after := #[], guard := none }) rfl (fun K hK => ?_) AllReadyH.nil
              go_simp
              refine hK.out _ _ (KS.out _ K1.out) (fun hHeld => ?_)
              clear hK K
              try simp only [Act.put, List.setIfInBounds_toArray, List.set_cons_zero, List.set_cons_succ]
              replace K0 := K1
              refine wpAnyH_ready (rs := [39]) (by kernel_rfl) (by simp) ?_
              refine AllReadyH.cons (o := { dst := none, op := Go.Op.store 25 (Go.Operand.tmp 4) (Go.Operand.tmp 48), type := 0, pos := "base.go:540", after := #[{ on := 38, ground := Go.Ground.data }, { on := 37, ground := Go.Ground.data }, { on := 35, ground := Go.Ground.chain }, { on := 0, ground := Go.Ground.phase }, { on := 1, ground := Go.Ground.phase }, { on := 2, ground := Go.Ground.phase }, { on := 3, ground := Go.Ground.phase }, { on := 4, ground := Go.Ground.phase }, { on := 5, ground := Go.Ground.phase }, { on := 6, ground := Go.Ground.phase }, { on := 7, ground := Go.Ground.phase }, { on := 8, ground := Go.Ground.phase }, { on := 9, ground := Go.Ground.phase }, { on := 10, ground := Go.Ground.phase }, { on := 11, ground := Go.Ground.phase }, { on := 12, ground := Go.Ground.phase }, { on := 13, ground := Go.Ground.phase }, { on := 14, ground := Go.Ground.phase }, { on := 15, ground := Go.Ground.phase }, { on := 16, ground := Go.Ground.phase }, { on := 17, ground := Go.Ground.phase }, { on := 18, ground := Go.Ground.phase }, { on := 19, ground := Go.Ground.phase }, { on := 20, ground := Go.Ground.phase }, { on := 21, ground := Go.Ground.phase }, { on := 22, ground := Go.Ground.phase }, { on := 23, ground := Go.Ground.phase }, { on := 24, ground := Go.Ground.phase }, { on := 25, ground := Go.Ground.phase }, { on := 26, ground := Go.Ground.phase }, { on := 27, ground := Go.Ground.phase }, { on := 28, ground := Go.Ground.phase }, { on := 29, ground := Go.Ground.phase }, { on := 30, ground := Go.Ground.phase }, { on := 31, ground := Go.Ground.phase }, { on := 32, ground := Go.Ground.phase }, { on := 33, ground := Go.Ground.phase }, { on := 34, ground := Go.Ground.phase }, { on := 35, ground := Go.Ground.phase }, { on := 36, ground := Go.Ground.phase }, { on := 37, ground := Go.Ground.phase }, { on := 38, ground := Go.Ground.phase }], guard := none }) rfl (fun K hK => ?_) AllReadyH.nil
              go_simp
              refine hK.out _ _ (KS.out _ KZ.out) (fun hHeld => ?_)
              clear hK K
              try simp only [Act.put, List.setIfInBounds_toArray, List.set_cons_zero, List.set_cons_succ]
              refine wpAnyH_done (by kernel_rfl) ?_ _
              go_wp2_with fail
              go_meet
              exact ⟨by rw [HSA.out], by rw [← HSA.out]; exact HFZ.out, HAZ.out, KZ.out⟩
            · go_simp
              refine hK.out _ _ (KS.out _ K1.out) (fun hHeld => ?_)
              clear hK K
              try simp only [Act.put, List.setIfInBounds_toArray, List.set_cons_zero, List.set_cons_succ]
              replace K0 := K1
              refine wpAnyH_ready (rs := [35]) (by kernel_rfl) (by simp) ?_
              refine AllReadyH.cons (o := { dst := some 46, op := Go.Op.call { callee := Go.Callee.value (Go.Operand.func 33), args := #[Go.Operand.tmp 45], argTypes := #[23] }, type := 22, pos := "base.go:540", after := #[{ on := 34, ground := Go.Ground.data }, { on := 31, ground := Go.Ground.chain }], guard := none }) rfl (fun K hK => ?_) AllReadyH.nil
              go_simp
              with_reducible refine Calls.mono (HG5.out _ K0.out) ?_
              rintro e y5 ⟨rfl, rfl⟩
              refine hK.out _ _ (KS.out _ K0.out) (fun hHeld => ?_)
              clear hK K
              try simp only [Act.put, List.setIfInBounds_toArray, List.set_cons_zero, List.set_cons_succ]
              refine wpAnyH_take (i := 36) (oi := { dst := some 47, op := Go.Op.convert 22 3 (Go.Operand.tmp 46), type := 3, pos := "base.go:540", after := #[{ on := 35, ground := Go.Ground.data }], guard := none }) (v := ?_) rfl (by kernel_rfl) (by kernel_rfl) (by kernel_rfl) (fun _ _ _ h => h) (Or.inl ⟨by rfl, ?_⟩) (by assumption) ?_
              rotate_left 1
              focus (intro w hSw; (try dsimp only at hSw); go_simp; try with_reducible rfl)
              try simp only [Act.put, List.setIfInBounds_toArray, List.set_cons_zero, List.set_cons_succ]
              refine wpAnyH_take (i := 37) (oi := { dst := some 48, op := Go.Op.build 25 #[(0, Go.Operand.tmp 14), (1, Go.Operand.tmp 19), (2, Go.Operand.tmp 24), (3, Go.Operand.tmp 28), (4, Go.Operand.tmp 31), (5, Go.Operand.tmp 35), (7, Go.Operand.tmp 39), (6, Go.Operand.tmp 43), (8, Go.Operand.tmp 47)], type := 25, pos := "base.go:540", after := #[{ on := 3, ground := Go.Ground.data }, { on := 8, ground := Go.Ground.data }, { on := 13, ground := Go.Ground.data }, { on := 17, ground := Go.Ground.data }, { on := 20, ground := Go.Ground.data }, { on := 24, ground := Go.Ground.data }, { on := 28, ground := Go.Ground.data }, { on := 32, ground := Go.Ground.data }, { on := 36, ground := Go.Ground.data }], guard := none }) (v := ?_) rfl (by kernel_rfl) (by kernel_rfl) (by kernel_rfl) (fun _ _ _ h => h) (Or.inl ⟨by rfl, ?_⟩) (by assumption) ?_
              rotate_left 1
              focus (intro w hSw; (try dsimp only at hSw); go_simp; try with_reducible rfl)
              try simp only [Act.put, List.setIfInBounds_toArray, List.set_cons_zero, List.set_cons_succ]
              refine wpAnyH_ready (rs := [39]) (by kernel_rfl) (by simp) ?_
              refine AllReadyH.cons (o := { dst := none, op := Go.Op.store 25 (Go.Operand.tmp 4) (Go.Operand.tmp 48), type := 0, pos := "base.go:540", after := #[{ on := 38, ground := Go.Ground.data }, { on := 37, ground := Go.Ground.data }, { on := 35, ground := Go.Ground.chain }, { on := 0, ground := Go.Ground.phase }, { on := 1, ground := Go.Ground.phase }, { on := 2, ground := Go.Ground.phase }, { on := 3, ground := Go.Ground.phase }, { on := 4, ground := Go.Ground.phase }, { on := 5, ground := Go.Ground.phase }, { on := 6, ground := Go.Ground.phase }, { on := 7, ground := Go.Ground.phase }, { on := 8, ground := Go.Ground.phase }, { on := 9, ground := Go.Ground.phase }, { on := 10, ground := Go.Ground.phase }, { on := 11, ground := Go.Ground.phase }, { on := 12, ground := Go.Ground.phase }, { on := 13, ground := Go.Ground.phase }, { on := 14, ground := Go.Ground.phase }, { on := 15, ground := Go.Ground.phase }, { on := 16, ground := Go.Ground.phase }, { on := 17, ground := Go.Ground.phase }, { on := 18, ground := Go.Ground.phase }, { on := 19, ground := Go.Ground.phase }, { on := 20, ground := Go.Ground.phase }, { on := 21, ground := Go.Ground.phase }, { on := 22, ground := Go.Ground.phase }, { on := 23, ground := Go.Ground.phase }, { on := 24, ground := Go.Ground.phase }, { on := 25, ground := Go.Ground.phase }, { on := 26, ground := Go.Ground.phase }, { on := 27, ground := Go.Ground.phase }, { on := 28, ground := Go.Ground.phase }, { on := 29, ground := Go.Ground.phase }, { on := 30, ground := Go.Ground.phase }, { on := 31, ground := Go.Ground.phase }, { on := 32, ground := Go.Ground.phase }, { on := 33, ground := Go.Ground.phase }, { on := 34, ground := Go.Ground.phase }, { on := 35, ground := Go.Ground.phase }, { on := 36, ground := Go.Ground.phase }, { on := 37, ground := Go.Ground.phase }, { on := 38, ground := Go.Ground.phase }], guard := none }) rfl (fun K hK => ?_) AllReadyH.nil
              go_simp
              refine hK.out _ _ (KS.out _ KZ.out) (fun hHeld => ?_)
              clear hK K
              try simp only [Act.put, List.setIfInBounds_toArray, List.set_cons_zero, List.set_cons_succ]
              refine wpAnyH_done (by kernel_rfl) ?_ _
              go_wp2_with fail
              go_meet
              exact ⟨by rw [HSA.out], by rw [← HSA.out]; exact HFZ.out, HAZ.out, KZ.out⟩
          · go_simp
            refine hK.out _ _ (KS.out _ K1.out) (fun hHeld => ?_)
            clear hK K
            try simp only [Act.put, List.setIfInBounds_toArray, List.set_cons_zero, List.set_cons_succ]
            replace K0 := K1
            refine wpAnyH_ready (rs := [31]) (by kernel_rfl) (by simp) ?_
            refine AllReadyH.cons (o := { dst := some 42, op := Go.Op.call { callee := Go.Callee.value (Go.Operand.func 33), args := #[Go.Operand.tmp 41], argTypes := #[23] }, type := 22, pos := "base.go:540", after := #[{ on := 30, ground := Go.Ground.data }, { on := 27, ground := Go.Ground.chain }], guard := none }) rfl (fun K hK => ?_) AllReadyH.nil
            go_simp
            with_reducible refine Calls.mono (HG4.out _ K0.out) ?_
            rintro e y4 ⟨rfl, rfl⟩
            refine hK.out _ _ (KS.out _ K0.out) (fun hHeld => ?_)
            clear hK K
            try simp only [Act.put, List.setIfInBounds_toArray, List.set_cons_zero, List.set_cons_succ]
            refine wpAnyH_take (i := 32) (oi := { dst := some 43, op := Go.Op.convert 22 3 (Go.Operand.tmp 42), type := 3, pos := "base.go:540", after := #[{ on := 31, ground := Go.Ground.data }], guard := none }) (v := ?_) rfl (by kernel_rfl) (by kernel_rfl) (by kernel_rfl) (fun _ _ _ h => h) (Or.inl ⟨by rfl, ?_⟩) (by assumption) ?_
            rotate_left 1
            focus (intro w hSw; (try dsimp only at hSw); go_simp; try with_reducible rfl)
            try simp only [Act.put, List.setIfInBounds_toArray, List.set_cons_zero, List.set_cons_succ]
            refine wpAnyH_ready (rs := [35]) (by kernel_rfl) (by simp) ?_
            refine AllReadyH.cons (o := { dst := some 46, op := Go.Op.call { callee := Go.Callee.value (Go.Operand.func 33), args := #[Go.Operand.tmp 45], argTypes := #[23] }, type := 22, pos := "base.go:540", after := #[{ on := 34, ground := Go.Ground.data }, { on := 31, ground := Go.Ground.chain }], guard := none }) rfl (fun K hK => ?_) AllReadyH.nil
            go_simp
            with_reducible refine Calls.mono (HG5.out _ K0.out) ?_
            rintro e y5 ⟨rfl, rfl⟩
            refine hK.out _ _ (KS.out _ K0.out) (fun hHeld => ?_)
            clear hK K
            try simp only [Act.put, List.setIfInBounds_toArray, List.set_cons_zero, List.set_cons_succ]
            refine wpAnyH_take (i := 36) (oi := { dst := some 47, op := Go.Op.convert 22 3 (Go.Operand.tmp 46), type := 3, pos := "base.go:540", after := #[{ on := 35, ground := Go.Ground.data }], guard := none }) (v := ?_) rfl (by kernel_rfl) (by kernel_rfl) (by kernel_rfl) (fun _ _ _ h => h) (Or.inl ⟨by rfl, ?_⟩) (by assumption) ?_
            rotate_left 1
            focus (intro w hSw; (try dsimp only at hSw); go_simp; try with_reducible rfl)
            try simp only [Act.put, List.setIfInBounds_toArray, List.set_cons_zero, List.set_cons_succ]
            refine wpAnyH_take (i := 37) (oi := { dst := some 48, op := Go.Op.build 25 #[(0, Go.Operand.tmp 14), (1, Go.Operand.tmp 19), (2, Go.Operand.tmp 24), (3, Go.Operand.tmp 28), (4, Go.Operand.tmp 31), (5, Go.Operand.tmp 35), (7, Go.Operand.tmp 39), (6, Go.Operand.tmp 43), (8, Go.Operand.tmp 47)], type := 25, pos := "base.go:540", after := #[{ on := 3, ground := Go.Ground.data }, { on := 8, ground := Go.Ground.data }, { on := 13, ground := Go.Ground.data }, { on := 17, ground := Go.Ground.data }, { on := 20, ground := Go.Ground.data }, { on := 24, ground := Go.Ground.data }, { on := 28, ground := Go.Ground.data }, { on := 32, ground := Go.Ground.data }, { on := 36, ground := Go.Ground.data }], guard := none }) (v := ?_) rfl (by kernel_rfl) (by kernel_rfl) (by kernel_rfl) (fun _ _ _ h => h) (Or.inl ⟨by rfl, ?_⟩) (by assumption) ?_
            rotate_left 1
            focus (intro w hSw; (try dsimp only at hSw); go_simp; try with_reducible rfl)
            try simp only [Act.put, List.setIfInBounds_toArray, List.set_cons_zero, List.set_cons_succ]
            refine wpAnyH_ready (rs := [39]) (by kernel_rfl) (by simp) ?_
            refine AllReadyH.cons (o := { dst := none, op := Go.Op.store 25 (Go.Operand.tmp 4) (Go.Operand.tmp 48), type := 0, pos := "base.go:540", after := #[{ on := 38, ground := Go.Ground.data }, { on := 37, ground := Go.Ground.data }, { on := 35, ground := Go.Ground.chain }, { on := 0, ground := Go.Ground.phase }, { on := 1, ground := Go.Ground.phase }, { on := 2, ground := Go.Ground.phase }, { on := 3, ground := Go.Ground.phase }, { on := 4, ground := Go.Ground.phase }, { on := 5, ground := Go.Ground.phase }, { on := 6, ground := Go.Ground.phase }, { on := 7, ground := Go.Ground.phase }, { on := 8, ground := Go.Ground.phase }, { on := 9, ground := Go.Ground.phase }, { on := 10, ground := Go.Ground.phase }, { on := 11, ground := Go.Ground.phase }, { on := 12, ground := Go.Ground.phase }, { on := 13, ground := Go.Ground.phase }, { on := 14, ground := Go.Ground.phase }, { on := 15, ground := Go.Ground.phase }, { on := 16, ground := Go.Ground.phase }, { on := 17, ground := Go.Ground.phase }, { on := 18, ground := Go.Ground.phase }, { on := 19, ground := Go.Ground.phase }, { on := 20, ground := Go.Ground.phase }, { on := 21, ground := Go.Ground.phase }, { on := 22, ground := Go.Ground.phase }, { on := 23, ground := Go.Ground.phase }, { on := 24, ground := Go.Ground.phase }, { on := 25, ground := Go.Ground.phase }, { on := 26, ground := Go.Ground.phase }, { on := 27, ground := Go.Ground.phase }, { on := 28, ground := Go.Ground.phase }, { on := 29, ground := Go.Ground.phase }, { on := 30, ground := Go.Ground.phase }, { on := 31, ground := Go.Ground.phase }, { on := 32, ground := Go.Ground.phase }, { on := 33, ground := Go.Ground.phase }, { on := 34, ground := Go.Ground.phase }, { on := 35, ground := Go.Ground.phase }, { on := 36, ground := Go.Ground.phase }, { on := 37, ground := Go.Ground.phase }, { on := 38, ground := Go.Ground.phase }], guard := none }) rfl (fun K hK => ?_) AllReadyH.nil
            go_simp
            refine hK.out _ _ (KS.out _ KZ.out) (fun hHeld => ?_)
            clear hK K
            try simp only [Act.put, List.setIfInBounds_toArray, List.set_cons_zero, List.set_cons_succ]
            refine wpAnyH_done (by kernel_rfl) ?_ _
            go_wp2_with fail
            go_meet
            exact ⟨by rw [HSA.out], by rw [← HSA.out]; exact HFZ.out, HAZ.out, KZ.out⟩
        · go_simp
          refine hK.out _ _ (KS.out _ K1.out) (fun hHeld => ?_)
          clear hK K
          try simp only [Act.put, List.setIfInBounds_toArray, List.set_cons_zero, List.set_cons_succ]
          replace K0 := K1
          refine wpAnyH_ready (rs := [27]) (by kernel_rfl) (by simp) ?_
          refine AllReadyH.cons (o := { dst := some 38, op := Go.Op.call { callee := Go.Callee.value (Go.Operand.func 33), args := #[Go.Operand.tmp 37], argTypes := #[23] }, type := 22, pos := "base.go:540", after := #[{ on := 26, ground := Go.Ground.data }, { on := 23, ground := Go.Ground.chain }], guard := none }) rfl (fun K hK => ?_) AllReadyH.nil
          go_simp
          with_reducible refine Calls.mono (HG3.out _ K0.out) ?_
          rintro e y3 ⟨rfl, rfl⟩
          refine hK.out _ _ (KS.out _ K0.out) (fun hHeld => ?_)
          clear hK K
          try simp only [Act.put, List.setIfInBounds_toArray, List.set_cons_zero, List.set_cons_succ]
          refine wpAnyH_take (i := 28) (oi := { dst := some 39, op := Go.Op.convert 22 3 (Go.Operand.tmp 38), type := 3, pos := "base.go:540", after := #[{ on := 27, ground := Go.Ground.data }], guard := none }) (v := ?_) rfl (by kernel_rfl) (by kernel_rfl) (by kernel_rfl) (fun _ _ _ h => h) (Or.inl ⟨by rfl, ?_⟩) (by assumption) ?_
          rotate_left 1
          focus (intro w hSw; (try dsimp only at hSw); go_simp; try with_reducible rfl)
          try simp only [Act.put, List.setIfInBounds_toArray, List.set_cons_zero, List.set_cons_succ]
          refine wpAnyH_ready (rs := [31]) (by kernel_rfl) (by simp) ?_
          refine AllReadyH.cons (o := { dst := some 42, op := Go.Op.call { callee := Go.Callee.value (Go.Operand.func 33), args := #[Go.Operand.tmp 41], argTypes := #[23] }, type := 22, pos := "base.go:540", after := #[{ on := 30, ground := Go.Ground.data }, { on := 27, ground := Go.Ground.chain }], guard := none }) rfl (fun K hK => ?_) AllReadyH.nil
          go_simp
          with_reducible refine Calls.mono (HG4.out _ K0.out) ?_
          rintro e y4 ⟨rfl, rfl⟩
          refine hK.out _ _ (KS.out _ K0.out) (fun hHeld => ?_)
          clear hK K
          try simp only [Act.put, List.setIfInBounds_toArray, List.set_cons_zero, List.set_cons_succ]
          refine wpAnyH_take (i := 32) (oi := { dst := some 43, op := Go.Op.convert 22 3 (Go.Operand.tmp 42), type := 3, pos := "base.go:540", after := #[{ on := 31, ground := Go.Ground.data }], guard := none }) (v := ?_) rfl (by kernel_rfl) (by kernel_rfl) (by kernel_rfl) (fun _ _ _ h => h) (Or.inl ⟨by rfl, ?_⟩) (by assumption) ?_
          rotate_left 1
          focus (intro w hSw; (try dsimp only at hSw); go_simp; try with_reducible rfl)
          try simp only [Act.put, List.setIfInBounds_toArray, List.set_cons_zero, List.set_cons_succ]
          refine wpAnyH_ready (rs := [35]) (by kernel_rfl) (by simp) ?_
          refine AllReadyH.cons (o := { dst := some 46, op := Go.Op.call { callee := Go.Callee.value (Go.Operand.func 33), args := #[Go.Operand.tmp 45], argTypes := #[23] }, type := 22, pos := "base.go:540", after := #[{ on := 34, ground := Go.Ground.data }, { on := 31, ground := Go.Ground.chain }], guard := none }) rfl (fun K hK => ?_) AllReadyH.nil
          go_simp
          with_reducible refine Calls.mono (HG5.out _ K0.out) ?_
          rintro e y5 ⟨rfl, rfl⟩
          refine hK.out _ _ (KS.out _ K0.out) (fun hHeld => ?_)
          clear hK K
          try simp only [Act.put, List.setIfInBounds_toArray, List.set_cons_zero, List.set_cons_succ]
          refine wpAnyH_take (i := 36) (oi := { dst := some 47, op := Go.Op.convert 22 3 (Go.Operand.tmp 46), type := 3, pos := "base.go:540", after := #[{ on := 35, ground := Go.Ground.data }], guard := none }) (v := ?_) rfl (by kernel_rfl) (by kernel_rfl) (by kernel_rfl) (fun _ _ _ h => h) (Or.inl ⟨by rfl, ?_⟩) (by assumption) ?_
          rotate_left 1
          focus (intro w hSw; (try dsimp only at hSw); go_simp; try with_reducible rfl)
          try simp only [Act.put, List.setIfInBounds_toArray, List.set_cons_zero, List.set_cons_succ]
          refine wpAnyH_take (i := 37) (oi := { dst := some 48, op := Go.Op.build 25 #[(0, Go.Operand.tmp 14), (1, Go.Operand.tmp 19), (2, Go.Operand.tmp 24), (3, Go.Operand.tmp 28), (4, Go.Operand.tmp 31), (5, Go.Operand.tmp 35), (7, Go.Operand.tmp 39), (6, Go.Operand.tmp 43), (8, Go.Operand.tmp 47)], type := 25, pos := "base.go:540", after := #[{ on := 3, ground := Go.Ground.data }, { on := 8, ground := Go.Ground.data }, { on := 13, ground := Go.Ground.data }, { on := 17, ground := Go.Ground.data }, { on := 20, ground := Go.Ground.data }, { on := 24, ground := Go.Ground.data }, { on := 28, ground := Go.Ground.data }, { on := 32, ground := Go.Ground.data }, { on := 36, ground := Go.Ground.data }], guard := none }) (v := ?_) rfl (by kernel_rfl) (by kernel_rfl) (by kernel_rfl) (fun _ _ _ h => h) (Or.inl ⟨by rfl, ?_⟩) (by assumption) ?_
          rotate_left 1
          focus (intro w hSw; (try dsimp only at hSw); go_simp; try with_reducible rfl)
          try simp only [Act.put, List.setIfInBounds_toArray, List.set_cons_zero, List.set_cons_succ]
          refine wpAnyH_ready (rs := [39]) (by kernel_rfl) (by simp) ?_
          refine AllReadyH.cons (o := { dst := none, op := Go.Op.store 25 (Go.Operand.tmp 4) (Go.Operand.tmp 48), type := 0, pos := "base.go:540", after := #[{ on := 38, ground := Go.Ground.data }, { on := 37, ground := Go.Ground.data }, { on := 35, ground := Go.Ground.chain }, { on := 0, ground := Go.Ground.phase }, { on := 1, ground := Go.Ground.phase }, { on := 2, ground := Go.Ground.phase }, { on := 3, ground := Go.Ground.phase }, { on := 4, ground := Go.Ground.phase }, { on := 5, ground := Go.Ground.phase }, { on := 6, ground := Go.Ground.phase }, { on := 7, ground := Go.Ground.phase }, { on := 8, ground := Go.Ground.phase }, { on := 9, ground := Go.Ground.phase }, { on := 10, ground := Go.Ground.phase }, { on := 11, ground := Go.Ground.phase }, { on := 12, ground := Go.Ground.phase }, { on := 13, ground := Go.Ground.phase }, { on := 14, ground := Go.Ground.phase }, { on := 15, ground := Go.Ground.phase }, { on := 16, ground := Go.Ground.phase }, { on := 17, ground := Go.Ground.phase }, { on := 18, ground := Go.Ground.phase }, { on := 19, ground := Go.Ground.phase }, { on := 20, ground := Go.Ground.phase }, { on := 21, ground := Go.Ground.phase }, { on := 22, ground := Go.Ground.phase }, { on := 23, ground := Go.Ground.phase }, { on := 24, ground := Go.Ground.phase }, { on := 25, ground := Go.Ground.phase }, { on := 26, ground := Go.Ground.phase }, { on := 27, ground := Go.Ground.phase }, { on := 28, ground := Go.Ground.phase }, { on := 29, ground := Go.Ground.phase }, { on := 30, ground := Go.Ground.phase }, { on := 31, ground := Go.Ground.phase }, { on := 32, ground := Go.Ground.phase }, { on := 33, ground := Go.Ground.phase }, { on := 34, ground := Go.Ground.phase }, { on := 35, ground := Go.Ground.phase }, { on := 36, ground := Go.Ground.phase }, { on := 37, ground := Go.Ground.phase }, { on := 38, ground := Go.Ground.phase }], guard := none }) rfl (fun K hK => ?_) AllReadyH.nil
          go_simp
          refine hK.out _ _ (KS.out _ KZ.out) (fun hHeld => ?_)
          clear hK K
          try simp only [Act.put, List.setIfInBounds_toArray, List.set_cons_zero, List.set_cons_succ]
          refine wpAnyH_done (by kernel_rfl) ?_ _
          go_wp2_with fail
          go_meet
          exact ⟨by rw [HSA.out], by rw [← HSA.out]; exact HFZ.out, HAZ.out, KZ.out⟩
      · go_simp
        refine hK.out _ _ (KS.out _ K1.out) (fun hHeld => ?_)
        clear hK K
        try simp only [Act.put, List.setIfInBounds_toArray, List.set_cons_zero, List.set_cons_succ]
        replace K0 := K1
        refine wpAnyH_ready (rs := [23]) (by kernel_rfl) (by simp) ?_
        refine AllReadyH.cons (o := { dst := some 34, op := Go.Op.call { callee := Go.Callee.value (Go.Operand.func 33), args := #[Go.Operand.tmp 33], argTypes := #[23] }, type := 22, pos := "base.go:540", after := #[{ on := 22, ground := Go.Ground.data }, { on := 20, ground := Go.Ground.chain }], guard := none }) rfl (fun K hK => ?_) AllReadyH.nil
        go_simp
        with_reducible refine Calls.mono (HG2.out _ K0.out) ?_
        rintro e y2 ⟨rfl, rfl⟩
        refine hK.out _ _ (KS.out _ K0.out) (fun hHeld => ?_)
        clear hK K
        try simp only [Act.put, List.setIfInBounds_toArray, List.set_cons_zero, List.set_cons_succ]
        refine wpAnyH_take (i := 24) (oi := { dst := some 35, op := Go.Op.convert 22 3 (Go.Operand.tmp 34), type := 3, pos := "base.go:540", after := #[{ on := 23, ground := Go.Ground.data }], guard := none }) (v := ?_) rfl (by kernel_rfl) (by kernel_rfl) (by kernel_rfl) (fun _ _ _ h => h) (Or.inl ⟨by rfl, ?_⟩) (by assumption) ?_
        rotate_left 1
        focus (intro w hSw; (try dsimp only at hSw); go_simp; try with_reducible rfl)
        try simp only [Act.put, List.setIfInBounds_toArray, List.set_cons_zero, List.set_cons_succ]
        refine wpAnyH_ready (rs := [27]) (by kernel_rfl) (by simp) ?_
        refine AllReadyH.cons (o := { dst := some 38, op := Go.Op.call { callee := Go.Callee.value (Go.Operand.func 33), args := #[Go.Operand.tmp 37], argTypes := #[23] }, type := 22, pos := "base.go:540", after := #[{ on := 26, ground := Go.Ground.data }, { on := 23, ground := Go.Ground.chain }], guard := none }) rfl (fun K hK => ?_) AllReadyH.nil
        go_simp
        with_reducible refine Calls.mono (HG3.out _ K0.out) ?_
        rintro e y3 ⟨rfl, rfl⟩
        refine hK.out _ _ (KS.out _ K0.out) (fun hHeld => ?_)
        clear hK K
        try simp only [Act.put, List.setIfInBounds_toArray, List.set_cons_zero, List.set_cons_succ]
        refine wpAnyH_take (i := 28) (oi := { dst := some 39, op := Go.Op.convert 22 3 (Go.Operand.tmp 38), type := 3, pos := "base.go:540", after := #[{ on := 27, ground := Go.Ground.data }], guard := none }) (v := ?_) rfl (by kernel_rfl) (by kernel_rfl) (by kernel_rfl) (fun _ _ _ h => h) (Or.inl ⟨by rfl, ?_⟩) (by assumption) ?_
        rotate_left 1
        focus (intro w hSw; (try dsimp only at hSw); go_simp; try with_reducible rfl)
        try simp only [Act.put, List.setIfInBounds_toArray, List.set_cons_zero, List.set_cons_succ]
        refine wpAnyH_ready (rs := [31]) (by kernel_rfl) (by simp) ?_
        refine AllReadyH.cons (o := { dst := some 42, op := Go.Op.call { callee := Go.Callee.value (Go.Operand.func 33), args := #[Go.Operand.tmp 41], argTypes := #[23] }, type := 22, pos := "base.go:540", after := #[{ on := 30, ground := Go.Ground.data }, { on := 27, ground := Go.Ground.chain }], guard := none }) rfl (fun K hK => ?_) AllReadyH.nil
        go_simp
        with_reducible refine Calls.mono (HG4.out _ K0.out) ?_
        rintro e y4 ⟨rfl, rfl⟩
        refine hK.out _ _ (KS.out _ K0.out) (fun hHeld => ?_)
        clear hK K
        try simp only [Act.put, List.setIfInBounds_toArray, List.set_cons_zero, List.set_cons_succ]
        refine wpAnyH_take (i := 32) (oi := { dst := some 43, op := Go.Op.convert 22 3 (Go.Operand.tmp 42), type := 3, pos := "base.go:540", after := #[{ on := 31, ground := Go.Ground.data }], guard := none }) (v := ?_) rfl (by kernel_rfl) (by kernel_rfl) (by kernel_rfl) (fun _ _ _ h => h) (Or.inl ⟨by rfl, ?_⟩) (by assumption) ?_
        rotate_left 1
        focus (intro w hSw; (try dsimp only at hSw); go_simp; try with_reducible rfl)
        try simp only [Act.put, List.setIfInBounds_toArray, List.set_cons_zero, List.set_cons_succ]
        refine wpAnyH_ready (rs := [35]) (by kernel_rfl) (by simp) ?_
        refine AllReadyH.cons (o := { dst := some 46, op := Go.Op.call { callee := Go.Callee.value (Go.Operand.func 33), args := #[Go.Operand.tmp 45], argTypes := #[23] }, type := 22, pos := "base.go:540", after := #[{ on := 34, ground := Go.Ground.data }, { on := 31, ground := Go.Ground.chain }], guard := none }) rfl (fun K hK => ?_) AllReadyH.nil
        go_simp
        with_reducible refine Calls.mono (HG5.out _ K0.out) ?_
        rintro e y5 ⟨rfl, rfl⟩
        refine hK.out _ _ (KS.out _ K0.out) (fun hHeld => ?_)
        clear hK K
        try simp only [Act.put, List.setIfInBounds_toArray, List.set_cons_zero, List.set_cons_succ]
        refine wpAnyH_take (i := 36) (oi := { dst := some 47, op := Go.Op.convert 22 3 (Go.Operand.tmp 46), type := 3, pos := "base.go:540", after := #[{ on := 35, ground := Go.Ground.data }], guard := none }) (v := ?_) rfl (by kernel_rfl) (by kernel_rfl) (by kernel_rfl) (fun _ _ _ h => h) (Or.inl ⟨by rfl, ?_⟩) (by assumption) ?_
        rotate_left 1
        focus (intro w hSw; (try dsimp only at hSw); go_simp; try with_reducible rfl)
        try simp only [Act.put, List.setIfInBounds_toArray, List.set_cons_zero, List.set_cons_succ]
        refine wpAnyH_take (i := 37) (oi := { dst := some 48, op := Go.Op.build 25 #[(0, Go.Operand.tmp 14), (1, Go.Operand.tmp 19), (2, Go.Operand.tmp 24), (3, Go.Operand.tmp 28), (4, Go.Operand.tmp 31), (5, Go.Operand.tmp 35), (7, Go.Operand.tmp 39), (6, Go.Operand.tmp 43), (8, Go.Operand.tmp 47)], type := 25, pos := "base.go:540", after := #[{ on := 3, ground := Go.Ground.data }, { on := 8, ground := Go.Ground.data }, { on := 13, ground := Go.Ground.data }, { on := 17, ground := Go.Ground.data }, { on := 20, ground := Go.Ground.data }, { on := 24, ground := Go.Ground.data }, { on := 28, ground := Go.Ground.data }, { on := 32, ground := Go.Ground.data }, { on := 36, ground := Go.Ground.data }], guard := none }) (v := ?_) rfl (by kernel_rfl) (by kernel_rfl) (by kernel_rfl) (fun _ _ _ h => h) (Or.inl ⟨by rfl, ?_⟩) (by assumption) ?_
        rotate_left 1
        focus (intro w hSw; (try dsimp only at hSw); go_simp; try with_reducible rfl)
        try simp only [Act.put, List.setIfInBounds_toArray, List.set_cons_zero, List.set_cons_succ]
        refine wpAnyH_ready (rs := [39]) (by kernel_rfl) (by simp) ?_
        refine AllReadyH.cons (o := { dst := none, op := Go.Op.store 25 (Go.Operand.tmp 4) (Go.Operand.tmp 48), type := 0, pos := "base.go:540", after := #[{ on := 38, ground := Go.Ground.data }, { on := 37, ground := Go.Ground.data }, { on := 35, ground := Go.Ground.chain }, { on := 0, ground := Go.Ground.phase }, { on := 1, ground := Go.Ground.phase }, { on := 2, ground := Go.Ground.phase }, { on := 3, ground := Go.Ground.phase }, { on := 4, ground := Go.Ground.phase }, { on := 5, ground := Go.Ground.phase }, { on := 6, ground := Go.Ground.phase }, { on := 7, ground := Go.Ground.phase }, { on := 8, ground := Go.Ground.phase }, { on := 9, ground := Go.Ground.phase }, { on := 10, ground := Go.Ground.phase }, { on := 11, ground := Go.Ground.phase }, { on := 12, ground := Go.Ground.phase }, { on := 13, ground := Go.Ground.phase }, { on := 14, ground := Go.Ground.phase }, { on := 15, ground := Go.Ground.phase }, { on := 16, ground := Go.Ground.phase }, { on := 17, ground := Go.Ground.phase }, { on := 18, ground := Go.Ground.phase }, { on := 19, ground := Go.Ground.phase }, { on := 20, ground := Go.Ground.phase }, { on := 21, ground := Go.Ground.phase }, { on := 22, ground := Go.Ground.phase }, { on := 23, ground := Go.Ground.phase }, { on := 24, ground := Go.Ground.phase }, { on := 25, ground := Go.Ground.phase }, { on := 26, ground := Go.Ground.phase }, { on := 27, ground := Go.Ground.phase }, { on := 28, ground := Go.Ground.phase }, { on := 29, ground := Go.Ground.phase }, { on := 30, ground := Go.Ground.phase }, { on := 31, ground := Go.Ground.phase }, { on := 32, ground := Go.Ground.phase }, { on := 33, ground := Go.Ground.phase }, { on := 34, ground := Go.Ground.phase }, { on := 35, ground := Go.Ground.phase }, { on := 36, ground := Go.Ground.phase }, { on := 37, ground := Go.Ground.phase }, { on := 38, ground := Go.Ground.phase }], guard := none }) rfl (fun K hK => ?_) AllReadyH.nil
        go_simp
        refine hK.out _ _ (KS.out _ KZ.out) (fun hHeld => ?_)
        clear hK K
        try simp only [Act.put, List.setIfInBounds_toArray, List.set_cons_zero, List.set_cons_succ]
        refine wpAnyH_done (by kernel_rfl) ?_ _
        go_wp2_with fail
        go_meet
        exact ⟨by rw [HSA.out], by rw [← HSA.out]; exact HFZ.out, HAZ.out, KZ.out⟩
    · go_simp
      refine hK.out _ _ (KS.out _ K1.out) (fun hHeld => ?_)
      clear hK K
      try simp only [Act.put, List.setIfInBounds_toArray, List.set_cons_zero, List.set_cons_succ]
      replace K0 := K1
      refine wpAnyH_ready (rs := [20]) (by kernel_rfl) (by simp) ?_
      refine AllReadyH.cons (o := { dst := some 31, op := Go.Op.call { callee := Go.Callee.value (Go.Operand.func 33), args := #[Go.Operand.tmp 30], argTypes := #[23] }, type := 22, pos := "base.go:540", after := #[{ on := 19, ground := Go.Ground.data }], guard := none }) rfl (fun K hK => ?_) AllReadyH.nil
      go_simp
      with_reducible refine Calls.mono (HG1.out _ K0.out) ?_
      rintro e y1 ⟨rfl, rfl⟩
      refine hK.out _ _ (KS.out _ K0.out) (fun hHeld => ?_)
      clear hK K
      try simp only [Act.put, List.setIfInBounds_toArray, List.set_cons_zero, List.set_cons_succ]
      refine wpAnyH_ready (rs := [23]) (by kernel_rfl) (by simp) ?_
      refine AllReadyH.cons (o := { dst := some 34, op := Go.Op.call { callee := Go.Callee.value (Go.Operand.func 33), args := #[Go.Operand.tmp 33], argTypes := #[23] }, type := 22, pos := "base.go:540", after := #[{ on := 22, ground := Go.Ground.data }, { on := 20, ground := Go.Ground.chain }], guard := none }) rfl (fun K hK => ?_) AllReadyH.nil
      go_simp
      with_reducible refine Calls.mono (HG2.out _ K0.out) ?_
      rintro e y2 ⟨rfl, rfl⟩
      refine hK.out _ _ (KS.out _ K0.out) (fun hHeld => ?_)
      clear hK K
      try simp only [Act.put, List.setIfInBounds_toArray, List.set_cons_zero, List.set_cons_succ]
      refine wpAnyH_take (i := 24) (oi := { dst := some 35, op := Go.Op.convert 22 3 (Go.Operand.tmp 34), type := 3, pos := "base.go:540", after := #[{ on := 23, ground := Go.Ground.data }], guard := none }) (v := ?_) rfl (by kernel_rfl) (by kernel_rfl) (by kernel_rfl) (fun _ _ _ h => h) (Or.inl ⟨by rfl, ?_⟩) (by assumption) ?_
      rotate_left 1
      focus (intro w hSw; (try dsimp only at hSw); go_simp; try with_reducible rfl)
      try simp only [Act.put, List.setIfInBounds_toArray, List.set_cons_zero, List.set_cons_succ]
      refine wpAnyH_ready (rs := [27]) (by kernel_rfl) (by simp) ?_
      refine AllReadyH.cons (o := { dst := some 38, op := Go.Op.call { callee := Go.Callee.value (Go.Operand.func 33), args := #[Go.Operand.tmp 37], argTypes := #[23] }, type := 22, pos := "base.go:540", after := #[{ on := 26, ground := Go.Ground.data }, { on := 23, ground := Go.Ground.chain }], guard := none }) rfl (fun K hK => ?_) AllReadyH.nil
      go_simp
      with_reducible refine Calls.mono (HG3.out _ K0.out) ?_
      rintro e y3 ⟨rfl, rfl⟩
      refine hK.out _ _ (KS.out _ K0.out) (fun hHeld => ?_)
      clear hK K
      try simp only [Act.put, List.setIfInBounds_toArray, List.set_cons_zero, List.set_cons_succ]
      refine wpAnyH_take (i := 28) (oi := { dst := some 39, op := Go.Op.convert 22 3 (Go.Operand.tmp 38), type := 3, pos := "base.go:540", after := #[{ on := 27, ground := Go.Ground.data }], guard := none }) (v := ?_) rfl (by kernel_rfl) (by kernel_rfl) (by kernel_rfl) (fun _ _ _ h => h) (Or.inl ⟨by rfl, ?_⟩) (by assumption) ?_
      rotate_left 1
      focus (intro w hSw; (try dsimp only at hSw); go_simp; try with_reducible rfl)
      try simp only [Act.put, List.setIfInBounds_toArray, List.set_cons_zero, List.set_cons_succ]
      refine wpAnyH_ready (rs := [31]) (by kernel_rfl) (by simp) ?_
      refine AllReadyH.cons (o := { dst := some 42, op := Go.Op.call { callee := Go.Callee.value (Go.Operand.func 33), args := #[Go.Operand.tmp 41], argTypes := #[23] }, type := 22, pos := "base.go:540", after := #[{ on := 30, ground := Go.Ground.data }, { on := 27, ground := Go.Ground.chain }], guard := none }) rfl (fun K hK => ?_) AllReadyH.nil
      go_simp
      with_reducible refine Calls.mono (HG4.out _ K0.out) ?_
      rintro e y4 ⟨rfl, rfl⟩
      refine hK.out _ _ (KS.out _ K0.out) (fun hHeld => ?_)
      clear hK K
      try simp only [Act.put, List.setIfInBounds_toArray, List.set_cons_zero, List.set_cons_succ]
      refine wpAnyH_take (i := 32) (oi := { dst := some 43, op := Go.Op.convert 22 3 (Go.Operand.tmp 42), type := 3, pos := "base.go:540", after := #[{ on := 31, ground := Go.Ground.data }], guard := none }) (v := ?_) rfl (by kernel_rfl) (by kernel_rfl) (by kernel_rfl) (fun _ _ _ h => h) (Or.inl ⟨by rfl, ?_⟩) (by assumption) ?_
      rotate_left 1
      focus (intro w hSw; (try dsimp only at hSw); go_simp; try with_reducible rfl)
      try simp only [Act.put, List.setIfInBounds_toArray, List.set_cons_zero, List.set_cons_succ]
      refine wpAnyH_ready (rs := [35]) (by kernel_rfl) (by simp) ?_
      refine AllReadyH.cons (o := { dst := some 46, op := Go.Op.call { callee := Go.Callee.value (Go.Operand.func 33), args := #[Go.Operand.tmp 45], argTypes := #[23] }, type := 22, pos := "base.go:540", after := #[{ on := 34, ground := Go.Ground.data }, { on := 31, ground := Go.Ground.chain }], guard := none }) rfl (fun K hK => ?_) AllReadyH.nil
      go_simp
      with_reducible refine Calls.mono (HG5.out _ K0.out) ?_
      rintro e y5 ⟨rfl, rfl⟩
      refine hK.out _ _ (KS.out _ K0.out) (fun hHeld => ?_)
      clear hK K
      try simp only [Act.put, List.setIfInBounds_toArray, List.set_cons_zero, List.set_cons_succ]
      refine wpAnyH_take (i := 36) (oi := { dst := some 47, op := Go.Op.convert 22 3 (Go.Operand.tmp 46), type := 3, pos := "base.go:540", after := #[{ on := 35, ground := Go.Ground.data }], guard := none }) (v := ?_) rfl (by kernel_rfl) (by kernel_rfl) (by kernel_rfl) (fun _ _ _ h => h) (Or.inl ⟨by rfl, ?_⟩) (by assumption) ?_
      rotate_left 1
      focus (intro w hSw; (try dsimp only at hSw); go_simp; try with_reducible rfl)
      try simp only [Act.put, List.setIfInBounds_toArray, List.set_cons_zero, List.set_cons_succ]
      refine wpAnyH_take (i := 37) (oi := { dst := some 48, op := Go.Op.build 25 #[(0, Go.Operand.tmp 14), (1, Go.Operand.tmp 19), (2, Go.Operand.tmp 24), (3, Go.Operand.tmp 28), (4, Go.Operand.tmp 31), (5, Go.Operand.tmp 35), (7, Go.Operand.tmp 39), (6, Go.Operand.tmp 43), (8, Go.Operand.tmp 47)], type := 25, pos := "base.go:540", after := #[{ on := 3, ground := Go.Ground.data }, { on := 8, ground := Go.Ground.data }, { on := 13, ground := Go.Ground.data }, { on := 17, ground := Go.Ground.data }, { on := 20, ground := Go.Ground.data }, { on := 24, ground := Go.Ground.data }, { on := 28, ground := Go.Ground.data }, { on := 32, ground := Go.Ground.data }, { on := 36, ground := Go.Ground.data }], guard := none }) (v := ?_) rfl (by kernel_rfl) (by kernel_rfl) (by kernel_rfl) (fun _ _ _ h => h) (Or.inl ⟨by rfl, ?_⟩) (by assumption) ?_
      rotate_left 1
      focus (intro w hSw; (try dsimp only at hSw); go_simp; try with_reducible rfl)
      try simp only [Act.put, List.setIfInBounds_toArray, List.set_cons_zero, List.set_cons_succ]
      refine wpAnyH_ready (rs := [39]) (by kernel_rfl) (by simp) ?_
      refine AllReadyH.cons (o := { dst := none, op := Go.Op.store 25 (Go.Operand.tmp 4) (Go.Operand.tmp 48), type := 0, pos := "base.go:540", after := #[{ on := 38, ground := Go.Ground.data }, { on := 37, ground := Go.Ground.data }, { on := 35, ground := Go.Ground.chain }, { on := 0, ground := Go.Ground.phase }, { on := 1, ground := Go.Ground.phase }, { on := 2, ground := Go.Ground.phase }, { on := 3, ground := Go.Ground.phase }, { on := 4, ground := Go.Ground.phase }, { on := 5, ground := Go.Ground.phase }, { on := 6, ground := Go.Ground.phase }, { on := 7, ground := Go.Ground.phase }, { on := 8, ground := Go.Ground.phase }, { on := 9, ground := Go.Ground.phase }, { on := 10, ground := Go.Ground.phase }, { on := 11, ground := Go.Ground.phase }, { on := 12, ground := Go.Ground.phase }, { on := 13, ground := Go.Ground.phase }, { on := 14, ground := Go.Ground.phase }, { on := 15, ground := Go.Ground.phase }, { on := 16, ground := Go.Ground.phase }, { on := 17, ground := Go.Ground.phase }, { on := 18, ground := Go.Ground.phase }, { on := 19, ground := Go.Ground.phase }, { on := 20, ground := Go.Ground.phase }, { on := 21, ground := Go.Ground.phase }, { on := 22, ground := Go.Ground.phase }, { on := 23, ground := Go.Ground.phase }, { on := 24, ground := Go.Ground.phase }, { on := 25, ground := Go.Ground.phase }, { on := 26, ground := Go.Ground.phase }, { on := 27, ground := Go.Ground.phase }, { on := 28, ground := Go.Ground.phase }, { on := 29, ground := Go.Ground.phase }, { on := 30, ground := Go.Ground.phase }, { on := 31, ground := Go.Ground.phase }, { on := 32, ground := Go.Ground.phase }, { on := 33, ground := Go.Ground.phase }, { on := 34, ground := Go.Ground.phase }, { on := 35, ground := Go.Ground.phase }, { on := 36, ground := Go.Ground.phase }, { on := 37, ground := Go.Ground.phase }, { on := 38, ground := Go.Ground.phase }], guard := none }) rfl (fun K hK => ?_) AllReadyH.nil
      go_simp
      refine hK.out _ _ (KS.out _ KZ.out) (fun hHeld => ?_)
      clear hK K
      try simp only [Act.put, List.setIfInBounds_toArray, List.set_cons_zero, List.set_cons_succ]
      refine wpAnyH_done (by kernel_rfl) ?_ _
      go_wp2_with fail
      go_meet
      exact ⟨by rw [HSA.out], by rw [← HSA.out]; exact HFZ.out, HAZ.out, KZ.out⟩
  case rest =>
  obtain ⟨rfl, hF3, hA3, hK3⟩ := hcut
  have q1 : ((x1 / 16 : Nat) : Int) = (x1 : Int) / 16 := by omega
  have q2 : ((x1 % 16 : Nat) : Int) = (x1 : Int) % 16 := by omega
  have hFq := HFF.out
  rw [q1, q2] at hFq
  rw [show IntKind.i64.wrap (x0 : Int) = (x0 : Int) by rw [IntKind.wrap_i64]; omega, show IntKind.i64.wrap ((x1 : Int) / 16) = (x1 : Int) / 16 by rw [IntKind.wrap_i64]; omega, show IntKind.i64.wrap ((x1 : Int) % 16) = (x1 : Int) % 16 by rw [IntKind.wrap_i64]; omega, show IntKind.i64.wrap (x2 : Int) = (x2 : Int) by rw [IntKind.wrap_i64]; omega, show IntKind.i64.wrap (n2 : Int) = (n2 : Int) by rw [IntKind.wrap_i64]; omega, show IntKind.i64.wrap (n4 : Int) = (n4 : Int) by rw [IntKind.wrap_i64]; omega, show IntKind.i64.wrap (n3 : Int) = (n3 : Int) by rw [IntKind.wrap_i64]; omega, show IntKind.i64.wrap (n5 : Int) = (n5 : Int) by rw [IntKind.wrap_i64]; omega] at hF3
  clear HFF HG1 HG2 HG3 HG4 HG5 HB0 HB1 HB2 E0 KS A15 HA HK q1 q2 c0 c1 c2
  generalize hkind : (x0 : Int) = kind at *
  generalize hsrc : (x1 : Int) / 16 = src at *
  generalize hdst : (x1 : Int) % 16 = dst at *
  generalize hprio : (x2 : Int) = prio at *
  generalize hoff : (n2 : Int) = off at *
  generalize htotal : (n3 : Int) = total at *
  generalize hlen : (n4 : Int) = len at *
  generalize hnum : (n5 : Int) = num at *
  have hD : (l.drop 26).length = l.length - 26 := by rw [List.length_drop]
  clear hkind hsrc hdst hprio hoff htotal hlen hnum X0 X1 X2 N1 N2 N3 N4 N5 x0 x1 x2
  generalize hdat : l.drop 26 = data at *
  have HDAT := Lib.hid hdat
  have HD := Lib.hid hD
  clear hdat hD
  have HFF := Lib.hid hFq
  clear hFq
  have hEN := fun (s3 : Option Addr) (c3 : Nat) (w' : World) (h : Byt.Src w' (.slice s3 data.length c3) data) => encR_any (f := flds l) (s := s3) (c := c3) (w := w') (by rw [HFF.out]; exact h)
  have hge := HGOOD.out
  have hsz3 : ra + 2 ≤ wc.heap.size := hF3.lt
  rw [HFF.out] at hEN hge
  generalize hFn : (⟨kind, src, dst, prio, n1, off, len, total, num, data⟩ : Frm) = F at *
  have HGOOD := Lib.hid hge
  clear hge
  have e9 := hF3.cell (o := 9) rfl
  have f9 := hF3.frozen 9
  have HF3 := Lib.hid hF3
  have HA3 := Lib.hid hA3
  have HK3 := Lib.hid hK3
  clear hF3 hA3 hK3
  rcases Nat.lt_or_ge 26 l.length with h27 | h27
  · have hl27 : decide (26 < l.length) = true := decide_eq_true h27
    have hl28 : (26 : Int) < (l.length : Int) := by omega
    have hc26 : ¬ c = 26 := by omega
    have hl29 : (26 : Int) ≤ (l.length : Int) := by omega
    have k4 : Kept (fun _ => False) wc (wc.alloc (.cells #[] 5)) := (Kept.refl _ wc).alloc _
    have hRN : Byt.Row (wc.alloc (.cells #[] 5)) (ra + 2) (.slice (some ⟨wc.heap.size, 0, none⟩) 0 0) [] := (Byt.row_new wc).base (fun g hg => by have e : some wc.heap.size = some g := hg; cases e; exact hsz3)
    have hSD := HSR.out.kept (HK3.out.trans k4)
    have hSD2 := src_rest hSD rfl h26
    rw [HDAT.out] at hSD2
    have hB4 := k4.blk HF3.out (fun f => f)
    have hsz4 : ra + 2 ≤ (wc.alloc (.cells #[] 5)).heap.size := Nat.le_trans hsz3 k4.size
    have HB4 := Lib.hid hB4
    have HK4 := Lib.hid (HK3.out.trans k4)
    have HA4 := Lib.hid (k4.blk HA3.out (fun f => f))
    have HRN := Lib.hid hRN
    have HSD := Lib.hid hSD2
    have HSZ4 := Lib.hid hsz4
    have HN4 : Hid (([] : List UInt8).length + data.length ≤ 1000000000) := Lib.hid (by have := HD.out; simp; omega)
    clear k4 hRN hSD hSD2 hB4 hsz4 e9 f9
    go_upto_region 6 with (at_builtin; refine Byt.wpList_app rfl _ _ rfl (ra + 2) (v := .slice (some ⟨wc.heap.size, 0, none⟩) 0 0) rfl HRN.out rfl HSD.out HN4.out HSZ4.out ?_; intro v' x3 hP; rw [List.nil_append] at hP; obtain ⟨s3, c3, rfl, _⟩ := hP.row.slice; have hcc := (hP.kept.blk HB4.out (fun e => by have := (HRN.out.lt _ e).1; omega)).cell (o := 9) rfl; have hcf := (hP.kept.blk HB4.out (fun e => by have := (HRN.out.lt _ e).1; omega)).frozen 9)
    have hF4 := (hP.kept.blk HB4.out (fun e => by have := (HRN.out.lt _ e).1; omega)).set 9 (.slice s3 data.length c3)
    have hA4 := (hP.kept.blk HA4.out (fun e => by have := (HRN.out.lt _ e).1; omega)).far (p := ra + 1) (by omega) 9 (.slice s3 data.length c3)
    have hK4 := (HK4.out.trans' hP.kept (fun i hi e => by have := (HRN.out.lt _ e).1; have := HRA.out; omega)).set (b := ra + 1) (fun hi => by have := HRA.out; omega) 9 (.slice s3 data.length c3)
    have hR4 := hP.row.kept (Kept.one x3 (ra + 1) 9 (.slice s3 data.length c3)) (fun g hg e => by have := (hP.row.lt g hg).1; omega)
    dsimp only [List.set] at hF4
    generalize x3.setCell ⟨ra + 1, 9, none⟩ (.slice s3 data.length c3) = x5 at *
    have hENC := hEN s3 c3 x5 hR4.src
    have hfv : fv F s3 c3 = .agg #[.int .i64 kind, .int .i64 src, .int .i64 dst, .int .i64 prio, .int .u64 (n1 : Int), .int .i64 off, .int .i64 len, .int .i64 total, .int .i64 num, .slice s3 data.length c3] := by rw [← hFn]; rfl
    rw [hfv] at hENC
    clear hfv
    have HENC := Lib.hid hENC
    have HF5 := Lib.hid hF4
    have HA5 := Lib.hid hA4
    have HK5 := Lib.hid hK4
    have HR5 := Lib.hid hR4
    clear hP hA4 hK4 hR4 hENC hcc hcf hEN
    have e0 := hF4.cell (o := 0) rfl
    have e1 := hF4.cell (o := 1) rfl
    have e2 := hF4.cell (o := 2) rfl
    have e3 := hF4.cell (o := 3) rfl
    have e4 := hF4.cell (o := 4) rfl
    have e5 := hF4.cell (o := 5) rfl
    have e6 := hF4.cell (o := 6) rfl
    have e7 := hF4.cell (o := 7) rfl
    have e8 := hF4.cell (o := 8) rfl
    have e9 := hF4.cell (o := 9) rfl
    clear hF4
    go_wp2_with fail
    with_reducible refine Calls.mono (HENC.out) ?_
    rintro e x6 (⟨hn, rfl, k6⟩ | ⟨hok, v6, rfl, hR6, k6⟩)
    · have hbad : ¬ WrM.Good l := fun g => hn ((HGOOD.out.1 g).2.1)
      have hA7 := k6.blk HA5.out (fun f => f)
      have hK7 := HK5.out.trans k6
      have HAZ := Lib.hid hA7
      have HKZ := Lib.hid hK7
      have u0 := hA7.cell (o := 0) rfl
      have v0 := hA7.frozen 0
      have u1 := hA7.cell (o := 1) rfl
      have v1 := hA7.frozen 1
      have u2 := hA7.cell (o := 2) rfl
      have v2 := hA7.frozen 2
      have u3 := hA7.cell (o := 3) rfl
      have v3 := hA7.frozen 3
      have u4 := hA7.cell (o := 4) rfl
      have v4 := hA7.frozen 4
      have u5 := hA7.cell (o := 5) rfl
      have v5 := hA7.frozen 5
      have u6 := hA7.cell (o := 6) rfl
      have v6 := hA7.frozen 6
      have u7 := hA7.cell (o := 7) rfl
      have v7 := hA7.frozen 7
      have u8 := hA7.cell (o := 8) rfl
      have v8 := hA7.frozen 8
      have u9 := hA7.cell (o := 9) rfl
      have v9 := hA7.frozen 9
      clear hA7 hK7 k6 hn
      go_wp2_with fail
      have hZ := blk10 HAZ.out (.int .i64 0) (.int .i64 0) (.int .i64 0) (.int .i64 0) (.int .u64 0) (.int .i64 0) (.int .i64 0) (.int .i64 0) (.int .i64 0) (.slice none 0 0)
      have kZ := kept10 x6 ra (.int .i64 0) (.int .i64 0) (.int .i64 0) (.int .i64 0) (.int .u64 0) (.int .i64 0) (.int .i64 0) (.int .i64 0) (.int .i64 0) (.slice none 0 0)
      unfold set10 at hZ kZ
      have hKK := HKZ.out.trans' kZ (fun i hi e => by have := HRA.out; omega)
      generalize (((((((((x6.setCell ⟨ra, 0, none⟩ (.int .i64 0)).setCell ⟨ra, 1, none⟩ (.int .i64 0)).setCell ⟨ra, 2, none⟩ (.int .i64 0)).setCell ⟨ra, 3, none⟩ (.int .i64 0)).setCell ⟨ra, 4, none⟩ (.int .u64 0)).setCell ⟨ra, 5, none⟩ (.int .i64 0)).setCell ⟨ra, 6, none⟩ (.int .i64 0)).setCell ⟨ra, 7, none⟩ (.int .i64 0)).setCell ⟨ra, 8, none⟩ (.int .i64 0)).setCell ⟨ra, 9, none⟩ (.slice none 0 0) = z9 at *
      (try simp only [Exit.inBlock, Exit.then])
      refine bodyPost_ret (results_frame2 rfl _ _ ra rfl hZ) rfl ?_
      exact Or.inl ⟨hbad, rfl, hKK⟩
    have hA7 := k6.blk HA5.out (fun f => f)
    have hK7 := HK5.out.trans k6
    have hF7 := k6.blk HF5.out (fun f => f)
    have hR7 := HR5.out.kept k6 (fun _ _ f => f)
    have s1 := Byt.run_str hR6.src
    have s2 := Byt.run_str (HSR.out.kept hK7)
    have hge := HGOOD.out
    have HAZ := Lib.hid hA7
    have HKZ := Lib.hid hK7
    have HRZ := Lib.hid hR7
    have u0 := hA7.cell (o := 0) rfl
    have v0 := hA7.frozen 0
    have w0 := hF7.cell (o := 0) rfl
    have u1 := hA7.cell (o := 1) rfl
    have v1 := hA7.frozen 1
    have w1 := hF7.cell (o := 1) rfl
    have u2 := hA7.cell (o := 2) rfl
    have v2 := hA7.frozen 2
    have w2 := hF7.cell (o := 2) rfl
    have u3 := hA7.cell (o := 3) rfl
    have v3 := hA7.frozen 3
    have w3 := hF7.cell (o := 3) rfl
    have u4 := hA7.cell (o := 4) rfl
    have v4 := hA7.frozen 4
    have w4 := hF7.cell (o := 4) rfl
    have u5 := hA7.cell (o := 5) rfl
    have v5 := hA7.frozen 5
    have w5 := hF7.cell (o := 5) rfl
    have u6 := hA7.cell (o := 6) rfl
    have v6 := hA7.frozen 6
    have w6 := hF7.cell (o := 6) rfl
    have u7 := hA7.cell (o := 7) rfl
    have v7 := hA7.frozen 7
    have w7 := hF7.cell (o := 7) rfl
    have u8 := hA7.cell (o := 8) rfl
    have v8 := hA7.frozen 8
    have w8 := hF7.cell (o := 8) rfl
    have u9 := hA7.cell (o := 9) rfl
    have v9 := hA7.frozen 9
    have w9 := hF7.cell (o := 9) rfl
    clear hA7 hK7 hF7 hR7 k6 hR6
    generalize enc F = E at *
    by_cases hEl : E = l
    · have hgood : WrM.Good l := hge.2 ⟨h26, hok, hEl⟩
      have HG := Lib.hid hgood
      subst hEl
      clear hge hgood hok
      go_wp2_with fail
      have hZ := blk10 HAZ.out (.int .i64 kind) (.int .i64 src) (.int .i64 dst) (.int .i64 prio) (.int .u64 (n1 : Int)) (.int .i64 off) (.int .i64 len) (.int .i64 total) (.int .i64 num) (.slice s3 data.length c3)
      have kZ := kept10 x6 ra (.int .i64 kind) (.int .i64 src) (.int .i64 dst) (.int .i64 prio) (.int .u64 (n1 : Int)) (.int .i64 off) (.int .i64 len) (.int .i64 total) (.int .i64 num) (.slice s3 data.length c3)
      unfold set10 at hZ kZ
      have hKK := HKZ.out.trans' kZ (fun i hi e => by have := HRA.out; omega)
      have hRR := HRZ.out.kept kZ (fun g hg e => by have := (HRZ.out.lt g hg).1; omega)
      generalize (((((((((x6.setCell ⟨ra, 0, none⟩ (.int .i64 kind)).setCell ⟨ra, 1, none⟩ (.int .i64 src)).setCell ⟨ra, 2, none⟩ (.int .i64 dst)).setCell ⟨ra, 3, none⟩ (.int .i64 prio)).setCell ⟨ra, 4, none⟩ (.int .u64 (n1 : Int))).setCell ⟨ra, 5, none⟩ (.int .i64 off)).setCell ⟨ra, 6, none⟩ (.int .i64 len)).setCell ⟨ra, 7, none⟩ (.int .i64 total)).setCell ⟨ra, 8, none⟩ (.int .i64 num)).setCell ⟨ra, 9, none⟩ (.slice s3 data.length c3) = z9 at *
      (try simp only [Exit.inBlock, Exit.then])
      refine bodyPost_ret (results_frame2 rfl _ _ ra rfl hZ) rfl ?_
      unfold DecP
      rw [HFF.out, ← hFn]
      exact Or.inr ⟨HG.out, s3, c3, rfl, hRR.base (fun g hg => by have := (hRR.lt g hg).1; have := HRA.out; omega), hKK⟩
    · have hbad : ¬ WrM.Good l := fun g => hEl (hge.1 g).2.2
      have HBAD := Lib.hid hbad
      have hne : (E != l) = true := by rw [bne_iff_ne]; exact hEl
      have hne2 : (E == l) = false := by rw [beq_eq_false_iff_ne]; exact hEl
      clear hge hbad hok hEl
      go_wp2_with fail
      have hZ := blk10 HAZ.out (.int .i64 0) (.int .i64 0) (.int .i64 0) (.int .i64 0) (.int .u64 0) (.int .i64 0) (.int .i64 0) (.int .i64 0) (.int .i64 0) (.slice none 0 0)
      have kZ := kept10 x6 ra (.int .i64 0) (.int .i64 0) (.int .i64 0) (.int .i64 0) (.int .u64 0) (.int .i64 0) (.int .i64 0) (.int .i64 0) (.int .i64 0) (.slice none 0 0)
      unfold set10 at hZ kZ
      have hKK := HKZ.out.trans' kZ (fun i hi e => by have := HRA.out; omega)
      generalize (((((((((x6.setCell ⟨ra, 0, none⟩ (.int .i64 0)).setCell ⟨ra, 1, none⟩ (.int .i64 0)).setCell ⟨ra, 2, none⟩ (.int .i64 0)).setCell ⟨ra, 3, none⟩ (.int .i64 0)).setCell ⟨ra, 4, none⟩ (.int .u64 0)).setCell ⟨ra, 5, none⟩ (.int .i64 0)).setCell ⟨ra, 6, none⟩ (.int .i64 0)).setCell ⟨ra, 7, none⟩ (.int .i64 0)).setCell ⟨ra, 8, none⟩ (.int .i64 0)).setCell ⟨ra, 9, none⟩ (.slice none 0 0) = z9 at *
      (try simp only [Exit.inBlock, Exit.then])
      refine bodyPost_ret (results_frame2 rfl _ _ ra rfl hZ) rfl ?_
      exact Or.inl ⟨HBAD.out, rfl, hKK⟩
  · obtain rfl : data = [] := by have := HD.out; exact List.eq_nil_of_length_eq_zero (by omega)
    have hl27 : ¬ 26 < l.length := by omega
    have hl28 : ¬ (26 : Int) < (l.length : Int) := by omega
    have hENC := hEN none 0 wc ⟨none, 0, rfl, Nat.le_refl _, Or.inl rfl, fun _ => rfl⟩
    have hR5 : Byt.Row wc (ra + 2) (.slice none 0 0) [] := Byt.row_nil _ _
    have hF5 := HF3.out
    have HF5 := HF3
    have HA5 := HA3
    have HK5 := HK3
    have HR5 := Lib.hid hR5
    have hfv : fv F none 0 = .agg #[.int .i64 kind, .int .i64 src, .int .i64 dst, .int .i64 prio, .int .u64 (n1 : Int), .int .i64 off, .int .i64 len, .int .i64 total, .int .i64 num, .slice none 0 0] := by rw [← hFn]; rfl
    rw [hfv] at hENC
    clear hfv
    have HENC := Lib.hid hENC
    clear e9 f9
    have e0 := hF5.cell (o := 0) rfl
    have e1 := hF5.cell (o := 1) rfl
    have e2 := hF5.cell (o := 2) rfl
    have e3 := hF5.cell (o := 3) rfl
    have e4 := hF5.cell (o := 4) rfl
    have e5 := hF5.cell (o := 5) rfl
    have e6 := hF5.cell (o := 6) rfl
    have e7 := hF5.cell (o := 7) rfl
    have e8 := hF5.cell (o := 8) rfl
    have e9 := hF5.cell (o := 9) rfl
    clear hF5 hR5 hENC hEN
    go_wp2_with fail
    with_reducible refine Calls.mono (HENC.out) ?_
    rintro e x6 (⟨hn, rfl, k6⟩ | ⟨hok, v6, rfl, hR6, k6⟩)
    · have hbad : ¬ WrM.Good l := fun g => hn ((HGOOD.out.1 g).2.1)
      have hA7 := k6.blk HA5.out (fun f => f)
      have hK7 := HK5.out.trans k6
      have HAZ := Lib.hid hA7
      have HKZ := Lib.hid hK7
      have u0 := hA7.cell (o := 0) rfl
      have v0 := hA7.frozen 0
      have u1 := hA7.cell (o := 1) rfl
      have v1 := hA7.frozen 1
      have u2 := hA7.cell (o := 2) rfl
      have v2 := hA7.frozen 2
      have u3 := hA7.cell (o := 3) rfl
      have v3 := hA7.frozen 3
      have u4 := hA7.cell (o := 4) rfl
      have v4 := hA7.frozen 4
      have u5 := hA7.cell (o := 5) rfl
      have v5 := hA7.frozen 5
      have u6 := hA7.cell (o := 6) rfl
      have v6 := hA7.frozen 6
      have u7 := hA7.cell (o := 7) rfl
      have v7 := hA7.frozen 7
      have u8 := hA7.cell (o := 8) rfl
      have v8 := hA7.frozen 8
      have u9 := hA7.cell (o := 9) rfl
      have v9 := hA7.frozen 9
      clear hA7 hK7 k6 hn
      go_wp2_with fail
      have hZ := blk10 HAZ.out (.int .i64 0) (.int .i64 0) (.int .i64 0) (.int .i64 0) (.int .u64 0) (.int .i64 0) (.int .i64 0) (.int .i64 0) (.int .i64 0) (.slice none 0 0)
      have kZ := kept10 x6 ra (.int .i64 0) (.int .i64 0) (.int .i64 0) (.int .i64 0) (.int .u64 0) (.int .i64 0) (.int .i64 0) (.int .i64 0) (.int .i64 0) (.slice none 0 0)
      unfold set10 at hZ kZ
      have hKK := HKZ.out.trans' kZ (fun i hi e => by have := HRA.out; omega)
      generalize (((((((((x6.setCell ⟨ra, 0, none⟩ (.int .i64 0)).setCell ⟨ra, 1, none⟩ (.int .i64 0)).setCell ⟨ra, 2, none⟩ (.int .i64 0)).setCell ⟨ra, 3, none⟩ (.int .i64 0)).setCell ⟨ra, 4, none⟩ (.int .u64 0)).setCell ⟨ra, 5, none⟩ (.int .i64 0)).setCell ⟨ra, 6, none⟩ (.int .i64 0)).setCell ⟨ra, 7, none⟩ (.int .i64 0)).setCell ⟨ra, 8, none⟩ (.int .i64 0)).setCell ⟨ra, 9, none⟩ (.slice none 0 0) = z9 at *
      (try simp only [Exit.inBlock, Exit.then])
      refine bodyPost_ret (results_frame2 rfl _ _ ra rfl hZ) rfl ?_
      exact Or.inl ⟨hbad, rfl, hKK⟩
    have hA7 := k6.blk HA5.out (fun f => f)
    have hK7 := HK5.out.trans k6
    have hF7 := k6.blk HF5.out (fun f => f)
    have hR7 := HR5.out.kept k6 (fun _ _ f => f)
    have s1 := Byt.run_str hR6.src
    have s2 := Byt.run_str (HSR.out.kept hK7)
    have hge := HGOOD.out
    have HAZ := Lib.hid hA7
    have HKZ := Lib.hid hK7
    have HRZ := Lib.hid hR7
    have u0 := hA7.cell (o := 0) rfl
    have v0 := hA7.frozen 0
    have w0 := hF7.cell (o := 0) rfl
    have u1 := hA7.cell (o := 1) rfl
    have v1 := hA7.frozen 1
    have w1 := hF7.cell (o := 1) rfl
    have u2 := hA7.cell (o := 2) rfl
    have v2 := hA7.frozen 2
    have w2 := hF7.cell (o := 2) rfl
    have u3 := hA7.cell (o := 3) rfl
    have v3 := hA7.frozen 3
    have w3 := hF7.cell (o := 3) rfl
    have u4 := hA7.cell (o := 4) rfl
    have v4 := hA7.frozen 4
    have w4 := hF7.cell (o := 4) rfl
    have u5 := hA7.cell (o := 5) rfl
    have v5 := hA7.frozen 5
    have w5 := hF7.cell (o := 5) rfl
    have u6 := hA7.cell (o := 6) rfl
    have v6 := hA7.frozen 6
    have w6 := hF7.cell (o := 6) rfl
    have u7 := hA7.cell (o := 7) rfl
    have v7 := hA7.frozen 7
    have w7 := hF7.cell (o := 7) rfl
    have u8 := hA7.cell (o := 8) rfl
    have v8 := hA7.frozen 8
    have w8 := hF7.cell (o := 8) rfl
    have u9 := hA7.cell (o := 9) rfl
    have v9 := hA7.frozen 9
    have w9 := hF7.cell (o := 9) rfl
    clear hA7 hK7 hF7 hR7 k6 hR6
    generalize enc F = E at *
    by_cases hEl : E = l
    · have hgood : WrM.Good l := hge.2 ⟨h26, hok, hEl⟩
      have HG := Lib.hid hgood
      subst hEl
      clear hge hgood hok
      go_wp2_with fail
      have hZ := blk10 HAZ.out (.int .i64 kind) (.int .i64 src) (.int .i64 dst) (.int .i64 prio) (.int .u64 (n1 : Int)) (.int .i64 off) (.int .i64 len) (.int .i64 total) (.int .i64 num) (.slice none 0 0)
      have kZ := kept10 x6 ra (.int .i64 kind) (.int .i64 src) (.int .i64 dst) (.int .i64 prio) (.int .u64 (n1 : Int)) (.int .i64 off) (.int .i64 len) (.int .i64 total) (.int .i64 num) (.slice none 0 0)
      unfold set10 at hZ kZ
      have hKK := HKZ.out.trans' kZ (fun i hi e => by have := HRA.out; omega)
      have hRR := HRZ.out.kept kZ (fun g hg e => by have := (HRZ.out.lt g hg).1; omega)
      generalize (((((((((x6.setCell ⟨ra, 0, none⟩ (.int .i64 kind)).setCell ⟨ra, 1, none⟩ (.int .i64 src)).setCell ⟨ra, 2, none⟩ (.int .i64 dst)).setCell ⟨ra, 3, none⟩ (.int .i64 prio)).setCell ⟨ra, 4, none⟩ (.int .u64 (n1 : Int))).setCell ⟨ra, 5, none⟩ (.int .i64 off)).setCell ⟨ra, 6, none⟩ (.int .i64 len)).setCell ⟨ra, 7, none⟩ (.int .i64 total)).setCell ⟨ra, 8, none⟩ (.int .i64 num)).setCell ⟨ra, 9, none⟩ (.slice none 0 0) = z9 at *
      (try simp only [Exit.inBlock, Exit.then])
      refine bodyPost_ret (results_frame2 rfl _ _ ra rfl hZ) rfl ?_
      unfold DecP
      rw [HFF.out, ← hFn]
      exact Or.inr ⟨HG.out, none, 0, rfl, hRR.base (fun g hg => by have := (hRR.lt g hg).1; have := HRA.out; omega), hKK⟩
    · have hbad : ¬ WrM.Good l := fun g => hEl (hge.1 g).2.2
      have HBAD := Lib.hid hbad
      have hne : (E != l) = true := by rw [bne_iff_ne]; exact hEl
      have hne2 : (E == l) = false := by rw [beq_eq_false_iff_ne]; exact hEl
      clear hge hbad hok hEl
      go_wp2_with fail
      have hZ := blk10 HAZ.out (.int .i64 0) (.int .i64 0) (.int .i64 0) (.int .i64 0) (.int .u64 0) (.int .i64 0) (.int .i64 0) (.int .i64 0) (.int .i64 0) (.slice none 0 0)
      have kZ := kept10 x6 ra (.int .i64 0) (.int .i64 0) (.int .i64 0) (.int .i64 0) (.int .u64 0) (.int .i64 0) (.int .i64 0) (.int .i64 0) (.int .i64 0) (.slice none 0 0)
      unfold set10 at hZ kZ
      have hKK := HKZ.out.trans' kZ (fun i hi e => by have := HRA.out; omega)
      generalize (((((((((x6.setCell ⟨ra, 0, none⟩ (.int .i64 0)).setCell ⟨ra, 1, none⟩ (.int .i64 0)).setCell ⟨ra, 2, none⟩ (.int .i64 0)).setCell ⟨ra, 3, none⟩ (.int .i64 0)).setCell ⟨ra, 4, none⟩ (.int .u64 0)).setCell ⟨ra, 5, none⟩ (.int .i64 0)).setCell ⟨ra, 6, none⟩ (.int .i64 0)).setCell ⟨ra, 7, none⟩ (.int .i64 0)).setCell ⟨ra, 8, none⟩ (.int .i64 0)).setCell ⟨ra, 9, none⟩ (.slice none 0 0) = z9 at *
      (try simp only [Exit.inBlock, Exit.then])
      refine bodyPost_ret (results_frame2 rfl _ _ ra rfl hZ) rfl ?_
      exact Or.inl ⟨HBAD.out, rfl, hKK⟩
theorem decR_any {w : World} {s : Option Addr} {c : Nat} {l : List UInt8} (h : Byt.Src w (.slice s l.length c) l) (hc : c ≤ 9223372036854775807) (hl : l.length ≤ 1000000) :
    Calls Try.prog 18 #[.slice s l.length c] w (DecP w l) := by
  by_cases h26 : 26 ≤ l.length
  · exact decR_long h hc hl h26
  · exact (decR_short (by omega)).mono fun e w' he => Or.inl ⟨fun g => h26 g.1, he⟩
end Go.Proofs.Ytkbncpclfeiofaa.Wr
