/- The reference's port: Drop. Conditions: each theorem's own. -/
import Derived.Test.YtpogpibjkolioaaGreatFpK27
set_option linter.unusedVariables false
set_option linter.unusedSimpArgs false
namespace Go.Proofs.YtpogpibjkolioaaGreat.Rf
open Go.RowKit Hp QuM Rw Qu Po NumM NumC
attribute [local go_sem ↓] Go.wp_at_zero Go.wp_at_succ
variable {w0 w w' : World} {m : Nat} {room most : Int} {trim : Bool} {ls : Nat → List Bx} {cr : List Bx} {now last : Int} {ever : Bool} {vs : Nat → Value} {vc : Value} {R G : Nat → Prop}
set_option maxRecDepth 100000 in
set_option maxHeartbeats 8000000 in
theorem rdrop_negW (h : Rf w0 m room most trim ls cr now last ever vs vc w) {k : Int} (hk : k < 0) :
  Calls Tryz.prog 46 #[.pointer (some ⟨m, 0, none⟩), .int .i64 k] w fun e w' => e = .returned (.tuple #[bv zB, .bool false]) ∧ ∃ R', RS w0 m room most trim ls cr now last ever R' w' ∧ RN m (frp m vs vc) w R' w' := by
 have H := Lib.hid h
 have hml := h.blk.lt
 clear h
 go_enter Tryz.func46, Tryz.ntmps46
 go_upto_region 1 with fail
 have hO := Blk.new w [.int .i64 0, .int .i64 0, .int .i64 0, .int .i64 0, .int .u64 0, .int .i64 0, .int .i64 0, .int .i64 0, .int .i64 0, .slice none 0 0, .int .i64 0] tI
 have hk1 := (Kept.refl (fun _ => False) w).alloc (.cells [.int .i64 0, .int .i64 0, .int .i64 0, .int .i64 0, .int .u64 0, .int .i64 0, .int .i64 0, .int .i64 0, .int .i64 0, .slice none 0 0, .int .i64 0].toArray tI)
 dsimp only [List.toArray] at hO hk1
 generalize w.alloc (.cells #[.int .i64 0, .int .i64 0, .int .i64 0, .int .i64 0, .int .u64 0, .int .i64 0, .int .i64 0, .int .i64 0, .int .i64 0, .slice none 0 0, .int .i64 0] 88) = w1 at *
 obtain ⟨rb, hrb⟩ : ∃ rb, w.heap.size = rb := ⟨_, rfl⟩
 rw [hrb] at hO hml
 simp only [hrb]
 have HRB := Lib.hid hrb
 have H1 := Lib.hid (H.out.old hk1)
 have HK1 := Lib.hid hk1
 have HO1 := Lib.hid hO
 clear hrb hk1 hO
 have HZ6 := H1
 have hO6 := HO1.out
 have HK6 : Hid (Kept (fun i => i = m) w w1) := Lib.hid (HK1.out.mono (fun _ _ f => f.elim))
 have ROUT : Hid (¬ frp m vs vc rb) := Lib.hid fun f => by have := H.out.bound f; have := HRB.out; omega
 obtain ⟨n0, n1, n2, n3, n4, n5, n6, n7, n8, n9, n10⟩ := cs11 hO6
 obtain ⟨fz0, fz1, fz2, fz3, fz4, fz5, fz6, fz7, fz8, fz9, fz10⟩ := fz11 hO6
 have hO7 := set11_blk hO6 rfl zB
 have k7 := set11_kept w1 rb zB
 have hZ7 := HZ6.out.kept k7 (fun i e f => by subst e; exact ROUT.out f) (fun i e => by have := H.out.since.size; have := HRB.out; omega)
 have HK7 : Hid (Kept (fun i => i = m) w (set11 w1 rb zB)) := Lib.hid (HK6.out.trans' k7 (fun i hi e => by have := HRB.out; omega))
 have RES : Hid (∃ R', RS w0 m room most trim ls cr now last ever R' (set11 w1 rb zB) ∧ RN m (frp m vs vc) w R' (set11 w1 rb zB)) := Lib.hid ⟨_, ⟨_, _, hZ7, rfl⟩, HK7.out, fun i f => Or.inl f⟩
 unfold set11 at RES hO7
 dsimp only [List.length_nil, Int.natCast_zero] at RES hO7
 obtain ⟨z0, z1, z2, z3, z4, z5, z6, z7, z8, z9, z10⟩ := cs11 hO7
 clear hO6 hO7 k7 hZ7 HK7
 go_wp2_with fail
 exact bodyPost_ret (v := .tuple #[bv zB, .bool false]) (by simp [results, Tryz.results46, go_sem, z0, z1, z2, z3, z4, z5, z6, z7, z8, z9, z10]) rfl ⟨rfl, RES.out⟩
set_option maxRecDepth 100000 in
set_option maxHeartbeats 8000000 in
theorem rdrop_noW (h : Rf w0 m room most trim ls cr now last ever vs vc w) {k : Nat} (hkb : (k : Int) ≤ 9223372036854775807) (hk : (accL ls cr 9).length ≤ k) (hn : (accL ls cr 9).length ≤ 100000) :
  Calls Tryz.prog 46 #[.pointer (some ⟨m, 0, none⟩), .int .i64 (k : Nat)] w fun e w' => e = .returned (.tuple #[bv zB, .bool false]) ∧ ∃ R', RS w0 m room most trim ls cr now last ever R' w' ∧ RN m (frp m vs vc) w R' w' := by
 have HKK := Lib.hid hk
 clear hk
 have H := Lib.hid h
 have HN := Lib.hid hn
 have hml := h.blk.lt
 clear h hn
 have HKB := Lib.hid hkb
 clear hkb
 go_enter Tryz.func46, Tryz.ntmps46
 go_upto_region 1 with fail
 have hO := Blk.new w [.int .i64 0, .int .i64 0, .int .i64 0, .int .i64 0, .int .u64 0, .int .i64 0, .int .i64 0, .int .i64 0, .int .i64 0, .slice none 0 0, .int .i64 0] tI
 have hk1 := (Kept.refl (fun _ => False) w).alloc (.cells [.int .i64 0, .int .i64 0, .int .i64 0, .int .i64 0, .int .u64 0, .int .i64 0, .int .i64 0, .int .i64 0, .int .i64 0, .slice none 0 0, .int .i64 0].toArray tI)
 dsimp only [List.toArray] at hO hk1
 generalize w.alloc (.cells #[.int .i64 0, .int .i64 0, .int .i64 0, .int .i64 0, .int .u64 0, .int .i64 0, .int .i64 0, .int .i64 0, .int .i64 0, .slice none 0 0, .int .i64 0] 88) = w1 at *
 obtain ⟨rb, hrb⟩ : ∃ rb, w.heap.size = rb := ⟨_, rfl⟩
 rw [hrb] at hO hml
 simp only [hrb]
 have HRB := Lib.hid hrb
 have H1 := Lib.hid (H.out.old hk1)
 have HK1 := Lib.hid hk1
 have HO1 := Lib.hid hO
 clear hrb hk1 hO
 go_wp2_with fail
 go_loopg [1, 6] 8 (fun mk s1 s6 wr => ∃ (u : Nat), Hid (8 - u ≤ mk) ∧ u ≤ 8 ∧ s1 = .int .i64 ((k - (accL ls cr u).length : Nat) : Int) ∧ s6 = .int .i64 (7 - (u : Nat)) ∧ Hid (Kept (fun _ => False) w1 wr))
 case atStart => exact ⟨0, Lib.hid (by omega), Nat.zero_le _, rfl, rfl, Lib.hid (Kept.refl _ _)⟩
 case round =>
  obtain ⟨u, hmk, hu, rfl, rfl, hkw⟩ := hrel
  have HZr := Lib.hid (H1.out.old hkw.out)
  have HOr := Lib.hid (hkw.out.blk HO1.out (fun f => f))
  have HKr := Lib.hid (HK1.out.trans hkw.out)
  have HKW := hkw
  clear hkw
  have hrbl : rb < wr.heap.size := HOr.out.lt
  rcases Nat.lt_or_ge u 8 with hlt | hge
  ·have hge7 : ¬ ((7 : Int) - (u : Int) < 0) := by omega
   have hlt7 : (7 : Int) - (u : Int) < 8 := by omega
   have eL : lnl ls cr u = ls (7 - u) := if_pos hlt
   have hsucc : (accL ls cr (u + 1)).length = (accL ls cr u).length + (ls (7 - u)).length := by rw [acc_succ, eL]
   have hkk := Nat.le_trans (acc_le (ls := ls) (cr := cr) (n := u + 1) (m := 9) (by omega)) HKK.out
   have e7 : ((7 : Int) - (u : Int)) = ((7 - u : Nat) : Int) := by omega
   have hc := HZr.out.blk.cell (rcs_at room most trim vs vc now last ever (k := 7 - u) (by omega))
   obtain ⟨a9, c9, hv9, _, _⟩ := (HZr.out.row (7 - u) (by omega)).slice
   rw [hv9] at hc
   rw [e7] at hge7 hlt7 ⊢
   obtain ⟨j, hj⟩ : ∃ j, 7 - u = j := ⟨_, rfl⟩
   have HJ := Lib.hid hj
   rw [hj] at hge7 hlt7 hc hsucc ⊢
   clear hj e7 hv9
   have hj8 : j < 8 := by omega
   obtain ⟨n, hn⟩ : ∃ n, (ls j).length = n := ⟨_, rfl⟩
   rw [hn] at hc hsucc
   clear hn eL
   obtain ⟨A0, hA0⟩ : ∃ A0, (accL ls cr u).length = A0 := ⟨_, rfl⟩
   rw [hA0] at hsucc ⊢
   clear hA0
   obtain ⟨q, hq⟩ : ∃ q, k - A0 = q := ⟨_, rfl⟩
   rw [hq]
   have hnq : ¬ ((q : Int) < (n : Int)) := by omega
   have HS := Lib.hid (show q - n = k - (accL ls cr (u + 1)).length by omega)
   have hwr : IntKind.i64.wrap ((q : Int) - (n : Int)) = (q : Int) - (n : Int) := by rw [IntKind.wrap_i64]; have := HKB.out; omega
   have HNQ := Lib.hid (show n ≤ q by omega)
   clear hsucc hq
   go_wp2_with fail
   go_roundg (8 - (u + 1))
   case measure => have := hmk.out; omega
   case rel => exact ⟨u + 1, Lib.hid (Nat.le_refl _), by omega, by rw [← HS.out]; have := HNQ.out; first | rfl | go_num | (congr 1; omega), by have := HJ.out; go_num, HKW⟩
  ·obtain rfl : u = 8 := by omega
   have hsucc : (accL ls cr 9).length = (accL ls cr 8).length + cr.length := by rw [acc_succ]; rfl
   have hkk := HKK.out
   obtain ⟨a9, c9, hv9, _, _⟩ := HZr.out.rowc.slice
   have hc := HZr.out.blk.cell (o := 11) (v := vc) rfl
   rw [hv9] at hc
   clear hv9
   obtain ⟨n, hn⟩ : ∃ n, cr.length = n := ⟨_, rfl⟩
   rw [hn] at hc hsucc
   clear hn
   obtain ⟨q, hq⟩ : ∃ q, k - (accL ls cr 8).length = q := ⟨_, rfl⟩
   rw [hq]
   have hnq : ¬ ((q : Int) < (n : Int)) := by omega
   have hnq2 : (n : Int) ≤ (q : Int) := by omega
   clear hsucc hq hkk
   have HZ6 := HZr
   have hO6 := HOr.out
   have HK6 : Hid (Kept (fun i => i = m) w wr) := Lib.hid (HKr.out.mono (fun _ _ f => f.elim))
   have ROUT : Hid (¬ frp m vs vc rb) := Lib.hid fun f => by have := H.out.bound f; have := HRB.out; omega
   obtain ⟨n0, n1, n2, n3, n4, n5, n6, n7, n8, n9, n10⟩ := cs11 hO6
   obtain ⟨fz0, fz1, fz2, fz3, fz4, fz5, fz6, fz7, fz8, fz9, fz10⟩ := fz11 hO6
   have hO7 := set11_blk hO6 rfl zB
   have k7 := set11_kept wr rb zB
   have hZ7 := HZ6.out.kept k7 (fun i e f => by subst e; exact ROUT.out f) (fun i e => by have := H.out.since.size; have := HRB.out; omega)
   have HK7 : Hid (Kept (fun i => i = m) w (set11 wr rb zB)) := Lib.hid (HK6.out.trans' k7 (fun i hi e => by have := HRB.out; omega))
   have RES : Hid (∃ R', RS w0 m room most trim ls cr now last ever R' (set11 wr rb zB) ∧ RN m (frp m vs vc) w R' (set11 wr rb zB)) := Lib.hid ⟨_, ⟨_, _, hZ7, rfl⟩, HK7.out, fun i f => Or.inl f⟩
   unfold set11 at RES hO7
   dsimp only [List.length_nil, Int.natCast_zero] at RES hO7
   obtain ⟨z0, z1, z2, z3, z4, z5, z6, z7, z8, z9, z10⟩ := cs11 hO7
   clear hO6 hO7 k7 hZ7 HK7
   go_wp2_with fail
   exact bodyPost_ret (v := .tuple #[bv zB, .bool false]) (by simp [results, Tryz.results46, go_sem, z0, z1, z2, z3, z4, z5, z6, z7, z8, z9, z10]) rfl ⟨rfl, RES.out⟩
set_option maxRecDepth 100000 in
set_option maxHeartbeats 8000000 in
theorem rdrop_yesW (h : Rf w0 m room most trim ls cr now last ever vs vc w) {i at_ k : Nat} {x : Bx} (hi : i < 9) (hx : (lnl ls cr i)[at_]? = some x) (hk : (accL ls cr i).length + at_ = k) (hn : (accL ls cr 9).length ≤ 1000) :
  Calls Tryz.prog 46 #[.pointer (some ⟨m, 0, none⟩), .int .i64 (k : Nat)] w fun e w' => e = .returned (.tuple #[bv x, .bool true]) ∧ ∃ R', RS w0 m room most trim (lsE ls i at_) (crE cr i at_) now last ever R' w' ∧ RN m (frp m vs vc) w R' w' := by
 have hal : at_ < (lnl ls cr i).length := (List.getElem?_eq_some_iff.1 hx).1
 have HKK := Lib.hid hk
 have HX := Lib.hid hx
 have HAL := Lib.hid hal
 clear hk hx hal
 have H := Lib.hid h
 have HN := Lib.hid hn
 have HKB : Hid ((k : Int) ≤ 9223372036854775807) := Lib.hid (by have := HKK.out; have := HAL.out; have := lnl_le (ls := ls) (cr := cr) hi; have := acc_le (ls := ls) (cr := cr) (n := i) (m := 9) (by omega); omega)
 have hml := h.blk.lt
 clear h hn
 go_enter Tryz.func46, Tryz.ntmps46
 go_upto_region 1 with fail
 have hO := Blk.new w [.int .i64 0, .int .i64 0, .int .i64 0, .int .i64 0, .int .u64 0, .int .i64 0, .int .i64 0, .int .i64 0, .int .i64 0, .slice none 0 0, .int .i64 0] tI
 have hk1 := (Kept.refl (fun _ => False) w).alloc (.cells [.int .i64 0, .int .i64 0, .int .i64 0, .int .i64 0, .int .u64 0, .int .i64 0, .int .i64 0, .int .i64 0, .int .i64 0, .slice none 0 0, .int .i64 0].toArray tI)
 dsimp only [List.toArray] at hO hk1
 generalize w.alloc (.cells #[.int .i64 0, .int .i64 0, .int .i64 0, .int .i64 0, .int .u64 0, .int .i64 0, .int .i64 0, .int .i64 0, .int .i64 0, .slice none 0 0, .int .i64 0] 88) = w1 at *
 obtain ⟨rb, hrb⟩ : ∃ rb, w.heap.size = rb := ⟨_, rfl⟩
 rw [hrb] at hO hml
 simp only [hrb]
 have HRB := Lib.hid hrb
 have H1 := Lib.hid (H.out.old hk1)
 have HK1 := Lib.hid hk1
 have HO1 := Lib.hid hO
 clear hrb hk1 hO
 go_wp2_with fail
 go_loopg [1, 6] 8 (fun mk s1 s6 wr => ∃ (u : Nat), Hid (8 - u ≤ mk) ∧ u ≤ i ∧ s1 = .int .i64 ((k - (accL ls cr u).length : Nat) : Int) ∧ s6 = .int .i64 (7 - (u : Nat)) ∧ Hid (Kept (fun _ => False) w1 wr))
 case atStart => exact ⟨0, Lib.hid (by omega), Nat.zero_le _, rfl, rfl, Lib.hid (Kept.refl _ _)⟩
 case round =>
  obtain ⟨u, hmk, hu, rfl, rfl, hkw⟩ := hrel
  have HZr := Lib.hid (H1.out.old hkw.out)
  have HOr := Lib.hid (hkw.out.blk HO1.out (fun f => f))
  have HKr := Lib.hid (HK1.out.trans hkw.out)
  have HKW := hkw
  clear hkw
  have hrbl : rb < wr.heap.size := HOr.out.lt
  rcases Nat.lt_or_ge u i with hui | hui
  ·have hlt : u < 8 := by omega
   have hge7 : ¬ ((7 : Int) - (u : Int) < 0) := by omega
   have hlt7 : (7 : Int) - (u : Int) < 8 := by omega
   have eL : lnl ls cr u = ls (7 - u) := if_pos hlt
   have hsucc : (accL ls cr (u + 1)).length = (accL ls cr u).length + (ls (7 - u)).length := by rw [acc_succ, eL]
   have hkk : (accL ls cr (u + 1)).length ≤ k := by have := acc_le (ls := ls) (cr := cr) (n := u + 1) (m := i) (by omega); have := HKK.out; omega
   have e7 : ((7 : Int) - (u : Int)) = ((7 - u : Nat) : Int) := by omega
   have hc := HZr.out.blk.cell (rcs_at room most trim vs vc now last ever (k := 7 - u) (by omega))
   obtain ⟨a9, c9, hv9, _, _⟩ := (HZr.out.row (7 - u) (by omega)).slice
   rw [hv9] at hc
   rw [e7] at hge7 hlt7 ⊢
   obtain ⟨j, hj⟩ : ∃ j, 7 - u = j := ⟨_, rfl⟩
   have HJ := Lib.hid hj
   rw [hj] at hge7 hlt7 hc hsucc ⊢
   clear hj e7 hv9
   have hj8 : j < 8 := by omega
   obtain ⟨n, hn⟩ : ∃ n, (ls j).length = n := ⟨_, rfl⟩
   rw [hn] at hc hsucc
   clear hn eL
   obtain ⟨A0, hA0⟩ : ∃ A0, (accL ls cr u).length = A0 := ⟨_, rfl⟩
   rw [hA0] at hsucc ⊢
   clear hA0
   obtain ⟨q, hq⟩ : ∃ q, k - A0 = q := ⟨_, rfl⟩
   rw [hq]
   have hnq : ¬ ((q : Int) < (n : Int)) := by omega
   have HS := Lib.hid (show q - n = k - (accL ls cr (u + 1)).length by omega)
   have hwr : IntKind.i64.wrap ((q : Int) - (n : Int)) = (q : Int) - (n : Int) := by rw [IntKind.wrap_i64]; have := HKB.out; omega
   have HNQ := Lib.hid (show n ≤ q by omega)
   clear hsucc hq
   go_wp2_with fail
   go_roundg (8 - (u + 1))
   case measure => have := hmk.out; omega
   case rel => exact ⟨u + 1, Lib.hid (Nat.le_refl _), by omega, by rw [← HS.out]; have := HNQ.out; first | rfl | go_num | (congr 1; omega), by have := HJ.out; go_num, HKW⟩
  ·obtain rfl : u = i := by omega
   have hq : k - (accL ls cr u).length = at_ := by have := HKK.out; omega
   rw [hq]
   clear hq
   have HLL := Lib.hid (Nat.le_trans (lnl_le (ls := ls) (cr := cr) hi) HN.out)
   have hXat := HX.out
   rcases Nat.lt_or_ge u 8 with hlt | hge
   ·have eL : lnl ls cr u = ls (7 - u) := if_pos hlt
    rw [eL] at hXat HLL
    have HE1 : Hid (lsE ls u at_ = upd ls (7 - u) ((ls (7 - u)).eraseIdx at_)) := Lib.hid (if_pos hlt)
    have HE2 : Hid (crE cr u at_ = cr) := Lib.hid (if_pos hlt)
    have hge7 : ¬ ((7 : Int) - (u : Int) < 0) := by omega
    have hlt7 : (7 : Int) - (u : Int) < 8 := by omega
    have e7 : ((7 : Int) - (u : Int)) = ((7 - u : Nat) : Int) := by omega
    rw [e7] at hge7 hlt7 ⊢
    obtain ⟨j, hj⟩ : ∃ j, 7 - u = j := ⟨_, rfl⟩
    rw [hj] at hge7 hlt7 hXat HLL HE1 ⊢
    have hj8 : j < 8 := by omega
    clear hj e7 eL
    have hrow := HZr.out.row j hj8
    have hc3 := HZr.out.blk.cell (rcs_at room most trim vs vc now last ever hj8)
    obtain ⟨g, o, c9, cur, hvv, hL9⟩ : ∃ g o c9 cur, vs j = .slice (some ⟨g, o, none⟩) (ls j).length c9 ∧ Ro.Lies rT wr g o c9 cur (ls j) := by
     rcases hrow with ⟨e, h0⟩ | ⟨g, o, cap, cur, e, h2⟩
     ·rw [h0] at hXat; cases hXat
     ·exact ⟨g, o, cap, cur, e, h2⟩
    have hle9 : (ls j).length ≤ c9 := hL9.le
    obtain ⟨d0, d1, d2, d3, d4, d5, d6, d7, d8, d9, d10⟩ := ro_cells hL9 hXat
    have hrow2 := hrow
    rw [hvv] at hc3 hrow2
    have HVV := Lib.hid hvv
    have HROW := Lib.hid hrow2
    have hatl : at_ < (ls j).length := (List.getElem?_eq_some_iff.1 hXat).1
    have hll : (ls j).length ≤ 1000 := HLL.out
    have WO := Lib.hid fun (w' : World) (kk : Kept (fun _ => False) wr w') => without_any (HROW.out.old kk) hatl hll
    have HSUB : Hid (∀ y, y ∈ (ls j).eraseIdx at_ → y ∈ ls j ∨ Rok w0 y) := Lib.hid fun y hy => Or.inl (List.mem_of_mem_eraseIdx hy)
    obtain ⟨n, hn⟩ : ∃ n, (ls j).length = n := ⟨_, rfl⟩
    have HLN := Lib.hid hn
    rw [hn] at hc3 hle9 hatl WO
    clear hrow hrow2 hL9 hn hvv hXat hll
    have hati : (at_ : Int) < (n : Int) := by omega
    obtain ⟨⟨x1, x2, x3, x4, x5, x6, x7, x8, x9, xd⟩, xa, xc, xq⟩ := x
    go_upto_region 8 with fail
    have hI := Blk.new wr [.int .i64 x1, .int .i64 x2, .int .i64 x3, .int .i64 x4, .int .u64 (x5 : Int), .int .i64 x6, .int .i64 x7, .int .i64 x8, .int .i64 x9, .slice xa xd.length xc, .int .i64 xq] tI
    have hk3 := (Kept.refl (fun _ => False) wr).alloc (.cells [.int .i64 x1, .int .i64 x2, .int .i64 x3, .int .i64 x4, .int .u64 (x5 : Int), .int .i64 x6, .int .i64 x7, .int .i64 x8, .int .i64 x9, .slice xa xd.length xc, .int .i64 xq].toArray tI)
    dsimp only [List.toArray] at hI hk3
    have HZ3 := Lib.hid (HZr.out.old hk3)
    have HO3 := Lib.hid (hk3.blk HOr.out (fun f => f))
    have HK3 := Lib.hid (HKr.out.trans hk3)
    have HKR3 := Lib.hid hk3
    have HI := Lib.hid hI
    have him : wr.heap.size ≠ m := by omega
    have hrbi : rb < wr.heap.size := hrbl
    have hsz3 : Hid (rb < (wr.alloc (.cells #[.int .i64 x1, .int .i64 x2, .int .i64 x3, .int .i64 x4, .int .u64 (x5 : Int), .int .i64 x6, .int .i64 x7, .int .i64 x8, .int .i64 x9, .slice xa xd.length xc, .int .i64 xq] 88)).heap.size) := Lib.hid (Nat.lt_of_lt_of_le hrbl hk3.size)
    have hc33 := hk3.blk HZr.out.blk (fun f => f)
    clear hk3 hI hc3 d0 d1 d2 d3 d4 d5 d6 d7 d8 d9 d10
    generalize wr.alloc (.cells #[.int .i64 x1, .int .i64 x2, .int .i64 x3, .int .i64 x4, .int .u64 (x5 : Int), .int .i64 x6, .int .i64 x7, .int .i64 x8, .int .i64 x9, .slice xa xd.length xc, .int .i64 xq] 88) = w3 at *
    generalize wr.heap.size = ib at *
    have HC33 := Lib.hid hc33
    clear hc33
    have K0 : Hid (Kept (fun _ => False) w3 w3.drew) := Lib.hid (Kept.refl _ w3).drew
    refine wp_region_held_drew (S := fun _ => True) (by kernel_rfl) trivial (fun hHeld => ?_)
    generalize w3.drew = z0 at *
    have HCZ := Lib.hid (K0.out.blk HC33.out (fun f => f))
    have t3 : z0.cell? ⟨m, 3 + j, none⟩ = some (.slice (some ⟨g, o, none⟩) n c9) := by have := HCZ.out.cell (rcs_at room most trim vs vc now last ever hj8); rw [HVV.out] at this; rw [← HLN.out]; exact this
    refine tk 0 ⟨some 34, .move (.tmp 0), 75, "net.go:129", #[], none⟩ (v := ?_) rfl ?_ ?_
    rotate_left 1
    focus (intro w h; (try dsimp only at h); go_simp; try with_reducible rfl)
    try simp only [Act.put, ppA, ppB, ppC]
    refine tk 1 ⟨some 35, .move (.tmp 6), 3, "net.go:129", #[], none⟩ (v := ?_) rfl ?_ ?_
    rotate_left 1
    focus (intro w h; (try dsimp only at h); go_simp; try with_reducible rfl)
    try simp only [Act.put, ppA, ppB, ppC]
    refine tk 2 ⟨some 36, .move (.tmp 0), 75, "net.go:129", #[], none⟩ (v := ?_) rfl ?_ ?_
    rotate_left 1
    focus (intro w h; (try dsimp only at h); go_simp; try with_reducible rfl)
    try simp only [Act.put, ppA, ppB, ppC]
    refine tk 3 ⟨some 37, .move (.tmp 6), 3, "net.go:129", #[], none⟩ (v := ?_) rfl ?_ ?_
    rotate_left 1
    focus (intro w h; (try dsimp only at h); go_simp; try with_reducible rfl)
    try simp only [Act.put, ppA, ppB, ppC]
    refine tk 4 ⟨some 38, .nilCheck (.tmp 36), 0, "net.go:129", #[⟨2, .data⟩], none⟩ (v := ?_) rfl ?_ ?_
    rotate_left 1
    focus (intro w h; (try dsimp only at h); go_simp; try with_reducible rfl)
    try simp only [Act.put, ppA, ppB, ppC]
    refine tk 5 ⟨some 39, .fieldAddr 119 (.tmp 38) 3, 0, "net.go:129", #[⟨4, .data⟩], none⟩ (v := ?_) rfl ?_ ?_
    rotate_left 1
    focus (intro w h; (try dsimp only at h); go_simp; try with_reducible rfl)
    try simp only [Act.put, ppA, ppB, ppC]
    refine tk 6 ⟨some 40, .indexAddr 117 (.tmp 39) (.tmp 37), 0, "net.go:129", #[⟨5, .data⟩, ⟨3, .data⟩], none⟩ (v := ?_) rfl ?_ ?_
    rotate_left 1
    focus (intro w h; (try dsimp only at h); go_simp; try with_reducible rfl)
    try simp only [Act.put, ppA, ppB, ppC]
    refine tk 8 ⟨some 42, .move (.tmp 1), 3, "net.go:129", #[], none⟩ (v := ?_) rfl ?_ ?_
    rotate_left 1
    focus (intro w h; (try dsimp only at h); go_simp; try with_reducible rfl)
    try simp only [Act.put, ppA, ppB, ppC]
    refine tk 10 ⟨some 44, .nilCheck (.tmp 34), 0, "net.go:129", #[⟨0, .data⟩], none⟩ (v := ?_) rfl ?_ ?_
    rotate_left 1
    focus (intro w h; (try dsimp only at h); go_simp; try with_reducible rfl)
    try simp only [Act.put, ppA, ppB, ppC]
    refine tk 11 ⟨some 45, .fieldAddr 119 (.tmp 44) 3, 0, "net.go:129", #[⟨10, .data⟩], none⟩ (v := ?_) rfl ?_ ?_
    rotate_left 1
    focus (intro w h; (try dsimp only at h); go_simp; try with_reducible rfl)
    try simp only [Act.put, ppA, ppB, ppC]
    refine wpAnyH_ready (rs := [7]) (by kernel_rfl) (by simp) ?_
    refine AllReadyH.cons (o := ⟨some 41, .load 103 (.tmp 40), 103, "net.go:129", #[⟨6, .data⟩], none⟩) rfl (fun K hK => ?_) AllReadyH.nil
    go_simp
    refine hK.out _ _ trivial (fun hHeld => ?_)
    clear hK K
    try simp only [Act.put, ppA, ppB, ppC]
    refine wpAnyH_ready (rs := [9]) (by kernel_rfl) (by simp) ?_
    refine AllReadyH.cons (o := ⟨some 43, .call ⟨.value (.func 79), #[.tmp 41, .tmp 42], #[103, 3]⟩, 103, "net.go:129", #[⟨7, .data⟩, ⟨8, .data⟩], none⟩) rfl (fun K hK => ?_) AllReadyH.nil
    go_simp
    with_reducible refine Calls.mono (WO.out _ (HKR3.out.trans K0.out)) ?_
    rintro e w4 ⟨v4, rfl, hr4, hb4, hk4⟩
    obtain ⟨a4, c4, rfl, _, _⟩ := hr4.slice
    have f4 := (hk4.blk HCZ.out (fun f => f)).frozen (3 + j)
    have t4 := (hk4.blk HCZ.out (fun f => f)).cell (rcs_at room most trim vs vc now last ever hj8)
    have HR4 := Lib.hid hr4
    have HB4 := Lib.hid hb4
    have HK34 := Lib.hid (K0.out.trans hk4)
    clear hr4 hb4 hk4
    refine hK.out _ _ (trivial) (fun hHeld => ?_)
    clear hK K
    try simp only [Act.put, ppA, ppB, ppC]
    refine tk 12 ⟨some 46, .indexAddr 117 (.tmp 45) (.tmp 35), 0, "net.go:129", #[⟨11, .data⟩, ⟨1, .data⟩, ⟨0, .phase⟩, ⟨1, .phase⟩, ⟨2, .phase⟩, ⟨3, .phase⟩, ⟨4, .phase⟩, ⟨5, .phase⟩, ⟨6, .phase⟩, ⟨7, .phase⟩, ⟨8, .phase⟩, ⟨9, .phase⟩], none⟩ (v := ?_) rfl ?_ ?_
    rotate_left 1
    focus (intro w h; (try dsimp only at h); go_simp; try with_reducible rfl)
    try simp only [Act.put, ppA, ppB, ppC]
    refine wpAnyH_ready (rs := [13]) (by kernel_rfl) (by simp) ?_
    refine AllReadyH.cons (o := ⟨none, .store 103 (.tmp 46) (.tmp 43), 0, "net.go:129", #[⟨12, .data⟩, ⟨9, .data⟩, ⟨9, .chain⟩, ⟨0, .phase⟩, ⟨1, .phase⟩, ⟨2, .phase⟩, ⟨3, .phase⟩, ⟨4, .phase⟩, ⟨5, .phase⟩, ⟨6, .phase⟩, ⟨7, .phase⟩, ⟨8, .phase⟩, ⟨9, .phase⟩], none⟩) rfl (fun K hK => ?_) AllReadyH.nil
    go_simp
    refine hK.out _ _ trivial (fun hHeld => ?_)
    clear hK K
    try simp only [Act.put, ppA, ppB, ppC]
    refine wpAnyH_done (by kernel_rfl) ?_ _
    obtain ⟨sv, hsv⟩ : ∃ sv, Value.slice a4 ((ls j).eraseIdx at_).length c4 = sv := ⟨_, rfl⟩
    rw [hsv] at HR4 HB4 ⊢
    have HZ4 := HZ3.out.old HK34.out
    have k4 := Kept.one w4 m (3 + j) sv
    have HZ6 := Lib.hid (HZ4.reline hj8 HR4.out HSUB.out)
    have hO6 := k4.blk (HK34.out.blk HO3.out (fun f => f)) (by omega)
    have hI6 := k4.blk (HK34.out.blk HI.out (fun f => f)) him
    have HK6 : Hid (Kept (fun i => i = m) w (w4.setCell ⟨m, 3 + j, none⟩ sv)) := Lib.hid (((HK3.out.trans HK34.out).mono (fun _ _ f => f.elim)).trans k4)
    have FS : Hid (∀ i, frp m (upd vs j sv) vc i → frp m vs vc i ∨ rb < i) := by
     refine Lib.hid fun i f => ?_
     have hbb : ∀ g, sv.ownBlock = some g → rb < g := fun g hg => by have := HB4.out g hg; have := hsz3.out; have := K0.out.size; omega
     rcases f with e | ⟨k, hk, e⟩ | e
     ·exact Or.inl (Or.inl e)
     ·by_cases e2 : k = j
      ·subst e2; rw [upd_self] at e; exact Or.inr (hbb _ e)
      ·rw [upd_ne _ _ e2] at e; exact Or.inl (Or.inr (Or.inl ⟨k, hk, e⟩))
     ·exact Or.inl (Or.inr (Or.inr e))
    have ROUT : Hid (¬ frp m (upd vs j sv) vc rb) := Lib.hid fun f => by
     rcases FS.out _ f with f | f
     ·have := H.out.bound f; have := HRB.out; omega
     ·omega
    have RNW : Hid (∀ i, frp m (upd vs j sv) vc i → frp m vs vc i ∨ w.heap.size ≤ i) := Lib.hid fun i f => (FS.out i f).imp id (fun e => by have := HRB.out; omega)
    clear k4 HZ3 HZ4 HO3 HI HK3 f4 t3 t4
    generalize w4.setCell ⟨m, 3 + j, none⟩ sv = w6 at *
    obtain ⟨i0, i1, i2, i3, i4, i5, i6, i7, i8, i9, i10⟩ := cs11 hI6
    obtain ⟨n0, n1, n2, n3, n4, n5, n6, n7, n8, n9, n10⟩ := cs11 hO6
    obtain ⟨fz0, fz1, fz2, fz3, fz4, fz5, fz6, fz7, fz8, fz9, fz10⟩ := fz11 hO6
    have hO7 := set11_blk hO6 rfl ⟨⟨x1, x2, x3, x4, x5, x6, x7, x8, x9, xd⟩, xa, xc, xq⟩
    have k7 := set11_kept w6 rb ⟨⟨x1, x2, x3, x4, x5, x6, x7, x8, x9, xd⟩, xa, xc, xq⟩
    have hZ7 := HZ6.out.kept k7 (fun i e f => by subst e; exact ROUT.out f) (fun i e => by have := H.out.since.size; have := HRB.out; omega)
    have HK7 : Hid (Kept (fun i => i = m) w (set11 w6 rb ⟨⟨x1, x2, x3, x4, x5, x6, x7, x8, x9, xd⟩, xa, xc, xq⟩)) := Lib.hid (HK6.out.trans' k7 (fun i hi e => by have := HRB.out; omega))
    have RES : Hid (∃ R', RS w0 m room most trim (upd ls j ((ls j).eraseIdx at_)) cr now last ever R' (set11 w6 rb ⟨⟨x1, x2, x3, x4, x5, x6, x7, x8, x9, xd⟩, xa, xc, xq⟩) ∧ RN m (frp m vs vc) w R' (set11 w6 rb ⟨⟨x1, x2, x3, x4, x5, x6, x7, x8, x9, xd⟩, xa, xc, xq⟩)) := Lib.hid ⟨_, ⟨_, _, hZ7, rfl⟩, HK7.out, RNW.out⟩
    unfold set11 at RES hO7
    dsimp only [List.length_nil, Int.natCast_zero] at RES hO7
    obtain ⟨z0, z1, z2, z3, z4, z5, z6, z7, z8, z9, z10⟩ := cs11 hO7
    clear hI6 hO6 hO7 k7 hZ7 HK7
    go_wp2_with fail
    exact bodyPost_ret (v := .tuple #[bv ⟨⟨x1, x2, x3, x4, x5, x6, x7, x8, x9, xd⟩, xa, xc, xq⟩, .bool true]) (by simp [results, Tryz.results46, go_sem, z0, z1, z2, z3, z4, z5, z6, z7, z8, z9, z10]) rfl ⟨rfl, by have := RES.out; rw [HE1.out, HE2.out]; exact this⟩
   ·obtain rfl : u = 8 := by omega
    have eL : lnl ls cr 8 = cr := rfl
    rw [eL] at hXat HLL
    have HE1 : Hid (lsE ls 8 at_ = ls) := Lib.hid rfl
    have HE2 : Hid (crE cr 8 at_ = cr.eraseIdx at_) := Lib.hid rfl
    clear eL
    have hrow := HZr.out.rowc
    have hc3 := HZr.out.blk.cell (o := 11) (v := vc) rfl
    obtain ⟨g, o, c9, cur, hvv, hL9⟩ : ∃ g o c9 cur, vc = .slice (some ⟨g, o, none⟩) (cr).length c9 ∧ Ro.Lies rT wr g o c9 cur (cr) := by
     rcases hrow with ⟨e, h0⟩ | ⟨g, o, cap, cur, e, h2⟩
     ·rw [h0] at hXat; cases hXat
     ·exact ⟨g, o, cap, cur, e, h2⟩
    have hle9 : (cr).length ≤ c9 := hL9.le
    obtain ⟨d0, d1, d2, d3, d4, d5, d6, d7, d8, d9, d10⟩ := ro_cells hL9 hXat
    have hrow2 := hrow
    rw [hvv] at hc3 hrow2
    have HVV := Lib.hid hvv
    have HROW := Lib.hid hrow2
    have hatl : at_ < (cr).length := (List.getElem?_eq_some_iff.1 hXat).1
    have hll : (cr).length ≤ 1000 := HLL.out
    have WO := Lib.hid fun (w' : World) (kk : Kept (fun _ => False) wr w') => without_any (HROW.out.old kk) hatl hll
    have HSUB : Hid (∀ y, y ∈ (cr).eraseIdx at_ → y ∈ cr ∨ Rok w0 y) := Lib.hid fun y hy => Or.inl (List.mem_of_mem_eraseIdx hy)
    obtain ⟨n, hn⟩ : ∃ n, (cr).length = n := ⟨_, rfl⟩
    have HLN := Lib.hid hn
    rw [hn] at hc3 hle9 hatl WO
    clear hrow hrow2 hL9 hn hvv hXat hll
    have hati : (at_ : Int) < (n : Int) := by omega
    obtain ⟨⟨x1, x2, x3, x4, x5, x6, x7, x8, x9, xd⟩, xa, xc, xq⟩ := x
    go_upto_region 14 with fail
    have hI := Blk.new wr [.int .i64 x1, .int .i64 x2, .int .i64 x3, .int .i64 x4, .int .u64 (x5 : Int), .int .i64 x6, .int .i64 x7, .int .i64 x8, .int .i64 x9, .slice xa xd.length xc, .int .i64 xq] tI
    have hk3 := (Kept.refl (fun _ => False) wr).alloc (.cells [.int .i64 x1, .int .i64 x2, .int .i64 x3, .int .i64 x4, .int .u64 (x5 : Int), .int .i64 x6, .int .i64 x7, .int .i64 x8, .int .i64 x9, .slice xa xd.length xc, .int .i64 xq].toArray tI)
    dsimp only [List.toArray] at hI hk3
    have HZ3 := Lib.hid (HZr.out.old hk3)
    have HO3 := Lib.hid (hk3.blk HOr.out (fun f => f))
    have HK3 := Lib.hid (HKr.out.trans hk3)
    have HKR3 := Lib.hid hk3
    have HI := Lib.hid hI
    have him : wr.heap.size ≠ m := by omega
    have hrbi : rb < wr.heap.size := hrbl
    have hsz3 : Hid (rb < (wr.alloc (.cells #[.int .i64 x1, .int .i64 x2, .int .i64 x3, .int .i64 x4, .int .u64 (x5 : Int), .int .i64 x6, .int .i64 x7, .int .i64 x8, .int .i64 x9, .slice xa xd.length xc, .int .i64 xq] 88)).heap.size) := Lib.hid (Nat.lt_of_lt_of_le hrbl hk3.size)
    have hc33 := hk3.blk HZr.out.blk (fun f => f)
    clear hk3 hI hc3 d0 d1 d2 d3 d4 d5 d6 d7 d8 d9 d10
    generalize wr.alloc (.cells #[.int .i64 x1, .int .i64 x2, .int .i64 x3, .int .i64 x4, .int .u64 (x5 : Int), .int .i64 x6, .int .i64 x7, .int .i64 x8, .int .i64 x9, .slice xa xd.length xc, .int .i64 xq] 88) = w3 at *
    generalize wr.heap.size = ib at *
    have HC33 := Lib.hid hc33
    clear hc33
    have K0 : Hid (Kept (fun _ => False) w3 w3) := Lib.hid (Kept.refl _ w3)
    have HCZ := Lib.hid (K0.out.blk HC33.out (fun f => f))
    have t3 : w3.cell? ⟨m, 11, none⟩ = some (.slice (some ⟨g, o, none⟩) n c9) := by have := HCZ.out.cell (o := 11) (v := vc) rfl; rw [HVV.out] at this; rw [← HLN.out]; exact this
    go_wp2_with fail
    with_reducible refine Calls.mono (WO.out _ HKR3.out) ?_
    rintro e w4 ⟨v4, rfl, hr4, hb4, hk4⟩
    obtain ⟨a4, c4, rfl, _, _⟩ := hr4.slice
    have f4 := (hk4.blk HCZ.out (fun f => f)).frozen (11)
    have t4 := (hk4.blk HCZ.out (fun f => f)).cell (o := 11) (v := vc) rfl
    have HR4 := Lib.hid hr4
    have HB4 := Lib.hid hb4
    have HK34 := Lib.hid (K0.out.trans hk4)
    clear hr4 hb4 hk4
    go_upto_region 15 with fail
    obtain ⟨sv, hsv⟩ : ∃ sv, Value.slice a4 ((cr).eraseIdx at_).length c4 = sv := ⟨_, rfl⟩
    rw [hsv] at HR4 HB4 ⊢
    have HZ4 := HZ3.out.old HK34.out
    have k4 := Kept.one w4 m (11) sv
    have HZ6 := Lib.hid (HZ4.recred HR4.out HSUB.out)
    have hO6 := k4.blk (HK34.out.blk HO3.out (fun f => f)) (by omega)
    have hI6 := k4.blk (HK34.out.blk HI.out (fun f => f)) him
    have HK6 : Hid (Kept (fun i => i = m) w (w4.setCell ⟨m, 11, none⟩ sv)) := Lib.hid (((HK3.out.trans HK34.out).mono (fun _ _ f => f.elim)).trans k4)
    have FS : Hid (∀ i, frp m vs sv i → frp m vs vc i ∨ rb < i) := by
     refine Lib.hid fun i f => ?_
     have hbb : ∀ g, sv.ownBlock = some g → rb < g := fun g hg => by have := HB4.out g hg; have := hsz3.out; have := K0.out.size; omega
     rcases f with e | ⟨k, hk, e⟩ | e
     ·exact Or.inl (Or.inl e)
     ·exact Or.inl (Or.inr (Or.inl ⟨k, hk, e⟩))
     ·exact Or.inr (hbb _ e)
    have ROUT : Hid (¬ frp m vs sv rb) := Lib.hid fun f => by
     rcases FS.out _ f with f | f
     ·have := H.out.bound f; have := HRB.out; omega
     ·omega
    have RNW : Hid (∀ i, frp m vs sv i → frp m vs vc i ∨ w.heap.size ≤ i) := Lib.hid fun i f => (FS.out i f).imp id (fun e => by have := HRB.out; omega)
    clear k4 HZ3 HZ4 HO3 HI HK3 f4 t3 t4
    generalize w4.setCell ⟨m, 11, none⟩ sv = w6 at *
    obtain ⟨i0, i1, i2, i3, i4, i5, i6, i7, i8, i9, i10⟩ := cs11 hI6
    obtain ⟨n0, n1, n2, n3, n4, n5, n6, n7, n8, n9, n10⟩ := cs11 hO6
    obtain ⟨fz0, fz1, fz2, fz3, fz4, fz5, fz6, fz7, fz8, fz9, fz10⟩ := fz11 hO6
    have hO7 := set11_blk hO6 rfl ⟨⟨x1, x2, x3, x4, x5, x6, x7, x8, x9, xd⟩, xa, xc, xq⟩
    have k7 := set11_kept w6 rb ⟨⟨x1, x2, x3, x4, x5, x6, x7, x8, x9, xd⟩, xa, xc, xq⟩
    have hZ7 := HZ6.out.kept k7 (fun i e f => by subst e; exact ROUT.out f) (fun i e => by have := H.out.since.size; have := HRB.out; omega)
    have HK7 : Hid (Kept (fun i => i = m) w (set11 w6 rb ⟨⟨x1, x2, x3, x4, x5, x6, x7, x8, x9, xd⟩, xa, xc, xq⟩)) := Lib.hid (HK6.out.trans' k7 (fun i hi e => by have := HRB.out; omega))
    have RES : Hid (∃ R', RS w0 m room most trim ls (cr.eraseIdx at_) now last ever R' (set11 w6 rb ⟨⟨x1, x2, x3, x4, x5, x6, x7, x8, x9, xd⟩, xa, xc, xq⟩) ∧ RN m (frp m vs vc) w R' (set11 w6 rb ⟨⟨x1, x2, x3, x4, x5, x6, x7, x8, x9, xd⟩, xa, xc, xq⟩)) := Lib.hid ⟨_, ⟨_, _, hZ7, rfl⟩, HK7.out, RNW.out⟩
    unfold set11 at RES hO7
    dsimp only [List.length_nil, Int.natCast_zero] at RES hO7
    obtain ⟨z0, z1, z2, z3, z4, z5, z6, z7, z8, z9, z10⟩ := cs11 hO7
    clear hI6 hO6 hO7 k7 hZ7 HK7
    go_wp2_with fail
    exact bodyPost_ret (v := .tuple #[bv ⟨⟨x1, x2, x3, x4, x5, x6, x7, x8, x9, xd⟩, xa, xc, xq⟩, .bool true]) (by simp [results, Tryz.results46, go_sem, z0, z1, z2, z3, z4, z5, z6, z7, z8, z9, z10]) rfl ⟨rfl, by have := RES.out; rw [HE1.out, HE2.out]; exact this⟩
end Go.Proofs.YtpogpibjkolioaaGreat.Rf

/- The reference's port: Waiting; equal frames. Conditions: each theorem's own. -/
namespace Go.Proofs.YtpogpibjkolioaaGreat.Rf
open Go.RowKit Hp QuM Rw Qu Po NumM NumC
attribute [local go_sem ↓] Go.wp_at_zero Go.wp_at_succ
variable {w0 w w' : World} {m : Nat} {room most : Int} {trim : Bool} {ls : Nat → List Bx} {cr : List Bx} {now last : Int} {ever : Bool} {vs : Nat → Value} {vc : Value} {R G : Nat → Prop}
set_option maxRecDepth 100000 in
set_option maxHeartbeats 8000000 in
theorem rwait_any (h : RS w0 m room most trim ls cr now last ever R w) (hn : (accL ls cr 9).length ≤ 100000) :
  Calls Tryz.prog 48 #[.pointer (some ⟨m, 0, none⟩)] w fun e w' => ∃ v', e = .returned v' ∧ Rw.Row rT w' w.heap.size v' (accL ls cr 9) ∧ Kept (fun _ => False) w w' := by
 obtain ⟨vs, vc, h, rfl⟩ := h
 have H := Lib.hid h
 clear h
 have HN := Lib.hid hn
 clear hn
 go_enter Tryz.func48, Tryz.ntmps48
 go_wp2_with fail
 go_loopg [3, 4] 8 (fun mm s3 s4 wr => ∃ (i : Nat), Hid (8 - i ≤ mm) ∧ i ≤ 8 ∧ s4 = .int .i64 (7 - (i : Nat)) ∧ Hid (Rw.Row rT wr w.heap.size s3 (accL ls cr i)) ∧ Hid (Kept (fun _ => False) w wr))
 case atStart => exact ⟨0, Lib.hid (by omega), Nat.zero_le _, rfl, Lib.hid (Rw.Row.none rT _ _), Lib.hid (Kept.refl _ _)⟩
 case round =>
  obtain ⟨i, hmm, hi, rfl, hRr, hkl⟩ := hrel
  rcases Nat.lt_or_ge i 8 with hlt | hge
  ·have hge7 : ¬ ((7 : Int) - (i : Int) < 0) := by omega
   have hlt7 : (7 : Int) - (i : Int) < 8 := by omega
   have H1 := Lib.hid (H.out.old hkl.out)
   have hll := lnl_le (ls := ls) (cr := cr) (i := i) (by omega)
   have hc := H1.out.blk.cell (o := 3 + (7 - i)) (rcs_at room most trim vs vc now last ever (by omega))
   have e7 : ((7 : Int) - (i : Int)) = ((7 - i : Nat) : Int) := by omega
   have eL : lnl ls cr i = ls (7 - i) := if_pos hlt
   have HS := Lib.hid (H1.out.row (7 - i) (by omega)).src
   rw [← eL] at HS
   have HAI := Lib.hid (Nat.le_trans (acc_le (ls := ls) (cr := cr) (n := i) (m := 9) (by omega)) HN.out)
   have HLL := Lib.hid (Nat.le_trans hll HN.out)
   clear hll eL
   rw [e7] at hge7 hlt7 ⊢
   obtain ⟨j, hj⟩ : ∃ j, 7 - i = j := ⟨_, rfl⟩
   have HJ := Lib.hid hj
   rw [hj] at hge7 hlt7 hc HS ⊢
   clear hj e7
   have hj8 : j < 8 := by omega
   go_wp2_with (refine wpList_app rT rfl _ _ rfl w.heap.size rfl hRr.out rfl HS.out (by have := HAI.out; have := HLL.out; omega) hkl.out.size ?_; rintro v5 w5 hA)
   have HR5 : Hid (Rw.Row rT w5 w.heap.size v5 (accL ls cr (i + 1))) := Lib.hid hA.row
   have HK5 : Hid (Kept (fun _ => False) w w5) := Lib.hid (hkl.out.trans' hA.kept (fun k hk e => by have := (hRr.out.lt k e).1; omega))
   clear hA hRr hkl HS
   go_wp2_with fail
   go_roundg (8 - (i + 1))
   case measure => have := hmm.out; omega
   case rel => exact ⟨i + 1, Lib.hid (Nat.le_refl _), by omega, by have := HJ.out; go_num, HR5, HK5⟩
  ·obtain rfl : i = 8 := by omega
   have H1 := Lib.hid (H.out.old hkl.out)
   have hc := H1.out.blk.cell (o := 11) (v := vc) rfl
   have HS : Hid (Rw.Src rT wr vc (lnl ls cr 8)) := Lib.hid H1.out.rowc.src
   have HAI := Lib.hid (Nat.le_trans (acc_le (ls := ls) (cr := cr) (n := 8) (m := 9) (by omega)) HN.out)
   have HLL := Lib.hid (Nat.le_trans (lnl_le (ls := ls) (cr := cr) (i := 8) (by omega)) HN.out)
   go_wp2_with (refine wpList_app rT rfl _ _ rfl w.heap.size rfl hRr.out rfl HS.out (by have := HAI.out; have := HLL.out; omega) hkl.out.size ?_; rintro v5 w5 hA)
   have HR5 : Hid (Rw.Row rT w5 w.heap.size v5 (accL ls cr 9)) := Lib.hid hA.row
   have HK5 : Hid (Kept (fun _ => False) w w5) := Lib.hid (hkl.out.trans' hA.kept (fun k hk e => by have := (hRr.out.lt k e).1; omega))
   clear hA hRr hkl HS
   go_wp2_with fail
   go_ret
   exact ⟨_, rfl, HR5.out, HK5.out⟩
end Go.Proofs.YtpogpibjkolioaaGreat.Rf

/- Frames, items: equal ones. Conditions: each theorem's own. -/
namespace Go.Proofs.YtpogpibjkolioaaGreat.Rf
open Go.RowKit Hp QuM Rw Qu Po NumM NumC
attribute [local go_sem ↓] Go.wp_at_zero Go.wp_at_succ
set_option maxHeartbeats 8000000 in
set_option maxRecDepth 100000 in
theorem rsame_yes {x1 x2 x3 x4 : Int} {x5 : Nat} {x6 x7 x8 x9 : Int} {xd : List UInt8} {s1 s2 : Option Addr} {c1 c2 : Nat} {w : World} (h1 : Byt.Src w (.slice s1 xd.length c1) xd) (h2 : Byt.Src w (.slice s2 xd.length c2) xd) :
  Calls Tryz.prog 14 #[.agg #[.int .i64 x1, .int .i64 x2, .int .i64 x3, .int .i64 x4, .int .u64 (x5 : Int), .int .i64 x6, .int .i64 x7, .int .i64 x8, .int .i64 x9, .slice s1 xd.length c1], .agg #[.int .i64 x1, .int .i64 x2, .int .i64 x3, .int .i64 x4, .int .u64 (x5 : Int), .int .i64 x6, .int .i64 x7, .int .i64 x8, .int .i64 x9, .slice s2 xd.length c2]] w fun e w' => e = .returned (.bool true) ∧ Kept (fun _ => False) w w' := by
 have H1 := Lib.hid h1
 have H2 := Lib.hid h2
 clear h1 h2
 go_enter Tryz.func14, Tryz.ntmps14
 go_upto_region 1 with fail
 have hA : Blk (w.alloc (.cells #[.int .i64 x1, .int .i64 x2, .int .i64 x3, .int .i64 x4, .int .u64 (x5 : Int), .int .i64 x6, .int .i64 x7, .int .i64 x8, .int .i64 x9, .slice s1 xd.length c1] 35)) w.heap.size [.int .i64 x1, .int .i64 x2, .int .i64 x3, .int .i64 x4, .int .u64 (x5 : Int), .int .i64 x6, .int .i64 x7, .int .i64 x8, .int .i64 x9, .slice s1 xd.length c1] 35 := Blk.new w _ _
 have kA : Kept (fun _ => False) w (w.alloc (.cells #[.int .i64 x1, .int .i64 x2, .int .i64 x3, .int .i64 x4, .int .u64 (x5 : Int), .int .i64 x6, .int .i64 x7, .int .i64 x8, .int .i64 x9, .slice s1 xd.length c1] 35)) := (Kept.refl _ w).alloc _
 have sA : (w.alloc (.cells #[.int .i64 x1, .int .i64 x2, .int .i64 x3, .int .i64 x4, .int .u64 (x5 : Int), .int .i64 x6, .int .i64 x7, .int .i64 x8, .int .i64 x9, .slice s1 xd.length c1] 35)).heap.size = w.heap.size + 1 := by simp
 generalize w.alloc (.cells #[.int .i64 x1, .int .i64 x2, .int .i64 x3, .int .i64 x4, .int .u64 (x5 : Int), .int .i64 x6, .int .i64 x7, .int .i64 x8, .int .i64 x9, .slice s1 xd.length c1] 35) = wa at *
 try rw [sA]
 have hB : Blk (wa.alloc (.cells #[.int .i64 x1, .int .i64 x2, .int .i64 x3, .int .i64 x4, .int .u64 (x5 : Int), .int .i64 x6, .int .i64 x7, .int .i64 x8, .int .i64 x9, .slice s2 xd.length c2] 35)) wa.heap.size [.int .i64 x1, .int .i64 x2, .int .i64 x3, .int .i64 x4, .int .u64 (x5 : Int), .int .i64 x6, .int .i64 x7, .int .i64 x8, .int .i64 x9, .slice s2 xd.length c2] 35 := Blk.new wa _ _
 rw [sA] at hB
 have hA2 := hA.old (.cells #[.int .i64 x1, .int .i64 x2, .int .i64 x3, .int .i64 x4, .int .u64 (x5 : Int), .int .i64 x6, .int .i64 x7, .int .i64 x8, .int .i64 x9, .slice s2 xd.length c2] 35)
 have kB := kA.alloc (.cells #[.int .i64 x1, .int .i64 x2, .int .i64 x3, .int .i64 x4, .int .u64 (x5 : Int), .int .i64 x6, .int .i64 x7, .int .i64 x8, .int .i64 x9, .slice s2 xd.length c2] 35)
 generalize wa.alloc (.cells #[.int .i64 x1, .int .i64 x2, .int .i64 x3, .int .i64 x4, .int .u64 (x5 : Int), .int .i64 x6, .int .i64 x7, .int .i64 x8, .int .i64 x9, .slice s2 xd.length c2] 35) = wb at *
 generalize hra : w.heap.size = ra at *
 clear hra
 obtain ⟨d0, d1, d2, d3, d4, d5, d6, d7, d8, d9⟩ := cs10 hA2
 obtain ⟨e0, e1, e2, e3, e4, e5, e6, e7, e8, e9⟩ := cs10 hB
 clear hA sA hB hA2 kA
 have z1 := Byt.run_str (H1.out.kept kB)
 have z2 := Byt.run_str (H2.out.kept kB)
 have KB := Lib.hid kB
 clear kB
 dsimp only [List.append]
 go_wp2_with fail
 go_ret
 first | exact ⟨rfl, KB.out⟩ | exact KB.out | exact ⟨by simp, KB.out⟩
end Go.Proofs.YtpogpibjkolioaaGreat.Rf

