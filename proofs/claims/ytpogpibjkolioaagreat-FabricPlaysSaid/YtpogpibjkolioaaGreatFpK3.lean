/- A ring in memory: one is taken out, the others close up. Conditions: each theorem's own. -/
import Derived.Test.YtpogpibjkolioaaGreatFpK2
set_option linter.unusedVariables false
set_option linter.unusedSimpArgs false
namespace Go.Proofs.YtpogpibjkolioaaGreat.Qu
open Go.RowKit Hp QuM QuN Rw
attribute [local go_sem ↓] Go.wp_at_zero Go.wp_at_succ
theorem run_z (w : World) : (Instr.build iT.E #[]).run Tryz.prog w = .ok (.agg #[.int .i64 0, .int .i64 0, .int .i64 0, .int .i64 0, .int .u64 0, .int .i64 0, .int .i64 0, .int .i64 0, .int .i64 0, .slice none 0 0, .int .i64 0, .int .i64 0]) w := by
 kernel_rfl
def CloseP (w : World) (g : Nat) (P : List It) (f' : Nat) (L : List It) (k : Nat) (e : Ending) (w' : World) : Prop :=
 e = .returned (.tuple #[]) ∧ ∃ P', P'.length = P.length ∧ Blk w' g (flat iT P') iT.E ∧ Ring P' f' (L.eraseIdx k) ∧ Kept (fun j => j = g) w w'
set_option maxRecDepth 100000 in
set_option maxHeartbeats 8000000 in
theorem back_any {w : World} {b o : Nat} {c : List Value} {T : TypeId} {g f : Nat} {P L : List It} (hB : Blk w b c T) (c0 : c[o]? = some (.slice (some ⟨g, 0, none⟩) P.length P.length)) (c1 : c[o + 1]? = some (.int .i64 (f : Nat))) (c2 : c[o + 2]? = some (.int .i64 (L.length : Nat))) (hT : T ≠ iT.E)
  (hG : Blk w g (flat iT P) iT.E) (hp : Pow P.length) (hR : Ring P f L) {k : Nat} (hk : k < L.length) :
  Calls Tryz.prog 107 #[.pointer (some ⟨b, o, none⟩), .int .i64 (k : Nat)] w (CloseP w g P f L k) := by
 have hgb : g ≠ b := fun e => by subst e; exact hT (hB.inj hG).2
 have hn := hp.le
 have hle := hR.le
 have hf := hR.f0
 have PL := Lib.hid fun (w' : World) (hk : Kept (fun j => j = g) w w') (K : Int) (k : Nat) (hk2 : k < P.length) (hK : K = (k : Nat)) =>
  place_any (w := w') (b := b) (o := o) (g := g) (f := f) (n := P.length) (k := k) (K := K) ((hk.blk hB (fun e => hgb e.symm)).cell c0) ((hk.blk hB (fun e => hgb e.symm)).cell c1) hp hf hk2 hK
 have Q2 := Lib.hid fun (w' : World) (hk : Kept (fun j => j = g) w w') => (hk.blk hB (fun e => hgb e.symm)).cell c2
 have hz := run_z
 have HK0 : Hid (Kept (fun j => j = g) w w) := Lib.hid (Kept.refl _ w)
 have HG := Lib.hid hG
 have HR := Lib.hid hR
 clear hB c0 c1 c2 hG hp hR
 obtain ⟨pn, hpn⟩ : ∃ pn, P.length = pn := ⟨_, rfl⟩
 have HPN := Lib.hid hpn
 rw [hpn] at hn hle hf PL
 clear hpn
 obtain ⟨ln, hln⟩ : ∃ ln, L.length = ln := ⟨_, rfl⟩
 have HLN := Lib.hid hln
 rw [hln] at hle hk Q2
 clear hln
 go_enter Tryz.func107, Tryz.ntmps107
 go_wp2_with fail
 go_loopg [1] ln (fun mm s1 wr => ∃ (j : Nat) (P' : List It), Hid (ln - 1 - j ≤ mm) ∧ k ≤ j ∧ j < ln ∧ s1 = .int .i64 ((j : Nat) : Int) ∧ Hid (P'.length = pn) ∧ Hid (Blk wr g (flat iT P') iT.E) ∧ Hid (Ring P' f (bk L k j)) ∧ Hid (Kept (fun j => j = g) w wr))
 case atStart => exact ⟨k, P, Lib.hid (by omega), Nat.le_refl _, hk, rfl, HPN, HG, by rw [bk_self]; exact HR, HK0⟩
 case round =>
  obtain ⟨j, P', hmm, hj1, hj2, rfl, hpl, hBl, hRl, hkl⟩ := hrel
  have q2 := Q2.out wr hkl.out
  rcases Nat.lt_or_ge j (ln - 1) with hlt | hge
  ·obtain ⟨x, hx⟩ : ∃ x, L[j + 1]? = some x := ⟨L[j + 1]'(by have := HLN.out; omega), List.getElem?_eq_getElem _⟩
   have hst := bk_step L hj1 (by have := HLN.out; omega) hx
   have hbx : (bk L k j)[j + 1]? = some x := by rw [bk_at L hj1 (by have := HLN.out; omega), if_neg (by omega), if_neg (by omega), hx]
   have hat := hRl.out.at' (j + 1) x hbx
   have hset := hRl.out.set (k := j) (by rw [bk_len L hj1 (by have := HLN.out; omega)]; have := HLN.out; omega) x
   rw [hst] at hset
   rw [hpl.out] at hat hset
   have X1 := Lib.hid fun (w' : World) (hk : Kept (fun j => j = g) w w') => PL.out w' hk ((j : Nat) : Int) j (by omega) rfl
   have X2 := Lib.hid fun (w' : World) (hk : Kept (fun j => j = g) w w') => PL.out w' hk (((j : Nat) : Int) + 1) (j + 1) (by omega) (by omega)
   have hpp : (f + j) % pn < pn := Nat.mod_lt _ (by omega)
   obtain ⟨y, hy⟩ : ∃ y, P'[(f + j) % pn]? = some y := ⟨P'[(f + j) % pn]'(by rw [hpl.out]; exact hpp), List.getElem?_eq_getElem _⟩
   have HAT := Lib.hid hat
   have HSET := Lib.hid hset
   have HY := Lib.hid hy
   have hw1 : IntKind.i64.wrap (((j : Nat) : Int) + 1) = ((j : Nat) : Int) + 1 := by rw [IntKind.wrap_i64]; omega
   have g1 : ((j : Nat) : Int) < ((ln : Nat) : Int) - 1 := by omega
   clear hx hst hbx hat hset hy hRl
   generalize (f + (j + 1)) % pn = p2 at *
   generalize (f + j) % pn = p1 at *
   go_wp2_with fail
   with_reducible refine Calls.mono (X1.out _ hkl.out) ?_
   rintro e w3 ⟨rfl, hk3⟩
   have hk03 := hkl.out.trans (hk3.mono (fun _ _ f => f.elim))
   have hB3 := hk3.blk hBl.out (fun f => f)
   have HK03 := Lib.hid hk03
   have HB3 := Lib.hid hB3
   clear hk3 hk03 hB3 X1
   go_wp2_with fail
   with_reducible refine Calls.mono (X2.out _ HK03.out) ?_
   rintro e w4 ⟨rfl, hk4⟩
   have hk04 := HK03.out.trans (hk4.mono (fun _ _ f => f.elim))
   have hB4 := hk4.blk HB3.out (fun f => f)
   obtain ⟨d0, d1, d2, d3, d4, d5, d6, d7, d8, d9, d10, d11⟩ := it_cells hB4 HAT.out
   obtain ⟨n0, n1, n2, n3, n4, n5, n6, n7, n8, n9, n10, n11⟩ := it_cells hB4 HY.out
   have fz0 := hB4.frozen (p1 * 12)
   have fz1 := hB4.frozen (p1 * 12 + 1)
   have fz2 := hB4.frozen (p1 * 12 + 2)
   have fz3 := hB4.frozen (p1 * 12 + 3)
   have fz4 := hB4.frozen (p1 * 12 + 4)
   have fz5 := hB4.frozen (p1 * 12 + 5)
   have fz6 := hB4.frozen (p1 * 12 + 6)
   have fz7 := hB4.frozen (p1 * 12 + 7)
   have fz8 := hB4.frozen (p1 * 12 + 8)
   have fz9 := hB4.frozen (p1 * 12 + 9)
   have fz10 := hB4.frozen (p1 * 12 + 10)
   have fz11 := hB4.frozen (p1 * 12 + 11)
   have R : Hid (Blk (setIt w4 g p1 x) g (flat iT (P'.set p1 x)) iT.E ∧ Kept (fun j => j = g) w (setIt w4 g p1 x)) :=
    Lib.hid ⟨setIt_blk hB4 (by rw [hpl.out]; exact hpp) x, hk04.trans (setIt_kept w4 g p1 x)⟩
   unfold setIt at R
   obtain ⟨⟨⟨x1, x2, x3, x4, x5, x6, x7, x8, x9, xd⟩, xa, xc, xq⟩, xz⟩ := x
   obtain ⟨⟨⟨y1, y2, y3, y4, y5, y6, y7, y8, y9, yd⟩, ya, yc, yq⟩, yz⟩ := y
   clear hk4 hk04 hB4 X2 HAT HY HB3 HK03 q2 hBl hkl
   go_wp2_with fail
   go_roundg (ln - 1 - (j + 1))
   case measure => have := hmm.out; omega
   case rel => exact ⟨j + 1, _, Lib.hid (Nat.le_refl _), by omega, by omega, by go_num, Lib.hid (by rw [List.length_set]; exact hpl.out), Lib.hid R.out.1, HSET, Lib.hid R.out.2⟩
  ·have g1 : ¬ ((j : Nat) : Int) < ((ln : Nat) : Int) - 1 := by omega
   have hjl : ln = j + 1 := by omega
   have hw1 : IntKind.i64.wrap (((ln : Nat) : Int) - 1) = ((ln : Nat) : Int) - 1 := by rw [IntKind.wrap_i64]; omega
   have X1 := Lib.hid fun (w' : World) (hk : Kept (fun j => j = g) w w') => PL.out w' hk ((j : Nat) : Int) j (by omega) rfl
   have hset := hRl.out.set (k := j) (by rw [bk_len L hj1 (by have := HLN.out; omega)]; have := HLN.out; omega) z3
   have he := bk_end L (k := k) (by rw [HLN.out]; exact hk) z3
   rw [show L.length - 1 = j by have := HLN.out; omega] at he
   rw [he, hpl.out] at hset
   have hpp : (f + j) % pn < pn := Nat.mod_lt _ (by omega)
   obtain ⟨y, hy⟩ : ∃ y, P'[(f + j) % pn]? = some y := ⟨P'[(f + j) % pn]'(by rw [hpl.out]; exact hpp), List.getElem?_eq_getElem _⟩
   have HSET := Lib.hid hset.front
   have HY := Lib.hid hy
   clear hset he hy hRl
   generalize (f + j) % pn = p1 at *
   go_wp2_with fail
   with_reducible refine Calls.mono (X1.out _ hkl.out) ?_
   rintro e w3 ⟨rfl, hk3⟩
   have hk03 := hkl.out.trans (hk3.mono (fun _ _ f => f.elim))
   have hB3 := hk3.blk hBl.out (fun f => f)
   obtain ⟨n0, n1, n2, n3, n4, n5, n6, n7, n8, n9, n10, n11⟩ := it_cells hB3 HY.out
   have fz0 := hB3.frozen (p1 * 12)
   have fz1 := hB3.frozen (p1 * 12 + 1)
   have fz2 := hB3.frozen (p1 * 12 + 2)
   have fz3 := hB3.frozen (p1 * 12 + 3)
   have fz4 := hB3.frozen (p1 * 12 + 4)
   have fz5 := hB3.frozen (p1 * 12 + 5)
   have fz6 := hB3.frozen (p1 * 12 + 6)
   have fz7 := hB3.frozen (p1 * 12 + 7)
   have fz8 := hB3.frozen (p1 * 12 + 8)
   have fz9 := hB3.frozen (p1 * 12 + 9)
   have fz10 := hB3.frozen (p1 * 12 + 10)
   have fz11 := hB3.frozen (p1 * 12 + 11)
   have R : Hid (CloseP w g P f L k (.returned (.tuple #[])) (setIt w3 g p1 z3)) :=
    Lib.hid ⟨rfl, _, by rw [List.length_set, hpl.out, HPN.out], setIt_blk hB3 (by rw [hpl.out]; exact hpp) z3, HSET.out, hk03.trans (setIt_kept w3 g p1 z3)⟩
   unfold setIt at R
   clear hk3 hk03 hB3 X1 HSET HY hkl hBl
   go_wp2_with fail
   go_end0
   exact R.out
def FrontP (w : World) (b o : Nat) (c : List Value) (T : TypeId) (g f : Nat) (P : List It) (L : List It) (k : Nat) (e : Ending) (w' : World) : Prop :=
 e = .returned (.tuple #[]) ∧ ∃ P', P'.length = P.length ∧ Blk w' g (flat iT P') iT.E ∧ Ring P' ((f + 1) % P.length) (L.eraseIdx k) ∧ Blk w' b (c.set (o + 1) (.int .i64 (((f + 1) % P.length : Nat) : Int))) T ∧ Kept (fun j => j = g ∨ j = b) w w'
set_option maxRecDepth 100000 in
set_option maxHeartbeats 8000000 in
theorem front_any {w : World} {b o : Nat} {c : List Value} {T : TypeId} {g f : Nat} {P L : List It} (hB : Blk w b c T) (c0 : c[o]? = some (.slice (some ⟨g, 0, none⟩) P.length P.length)) (c1 : c[o + 1]? = some (.int .i64 (f : Nat))) (hT : T ≠ iT.E)
  (hG : Blk w g (flat iT P) iT.E) (hp : Pow P.length) (hR : Ring P f L) {k : Nat} (hk : k < L.length) :
  Calls Tryz.prog 106 #[.pointer (some ⟨b, o, none⟩), .int .i64 (k : Nat)] w (FrontP w b o c T g f P L k) := by
 have hgb : g ≠ b := fun e => by subst e; exact hT (hB.inj hG).2
 have hn := hp.le
 have hle := hR.le
 have hf := hR.f0
 have PL := Lib.hid fun (w' : World) (hk : Kept (fun j => j = g) w w') (K : Int) (k : Nat) (hk2 : k < P.length) (hK : K = (k : Nat)) =>
  place_any (w := w') (b := b) (o := o) (g := g) (f := f) (n := P.length) (k := k) (K := K) ((hk.blk hB (fun e => hgb e.symm)).cell c0) ((hk.blk hB (fun e => hgb e.symm)).cell c1) hp hf hk2 hK
 have Q := Lib.hid fun (w' : World) (hk : Kept (fun j => j = g) w w') => hk.blk hB (fun e => hgb e.symm)
 have C0 := Lib.hid c0
 have C1 := Lib.hid c1
 have hz := run_z
 have HK0 : Hid (Kept (fun j => j = g) w w) := Lib.hid (Kept.refl _ w)
 have HG := Lib.hid hG
 have HR := Lib.hid hR
 clear hB c0 c1 hG hp hR
 obtain ⟨pn, hpn⟩ : ∃ pn, P.length = pn := ⟨_, rfl⟩
 have HPN := Lib.hid hpn
 rw [hpn] at hn hle hf PL C0
 clear hpn
 obtain ⟨ln, hln⟩ : ∃ ln, L.length = ln := ⟨_, rfl⟩
 have HLN := Lib.hid hln
 rw [hln] at hle hk
 clear hln
 go_enter Tryz.func106, Tryz.ntmps106
 go_wp2_with fail
 go_loopg [1] k (fun mm s1 wr => ∃ (j : Nat) (P' : List It), Hid (j ≤ mm) ∧ j ≤ k ∧ s1 = .int .i64 ((j : Nat) : Int) ∧ Hid (P'.length = pn) ∧ Hid (Blk wr g (flat iT P') iT.E) ∧ Hid (Ring P' f (fr L k j)) ∧ Hid (Kept (fun j => j = g) w wr))
 case atStart => exact ⟨k, P, Lib.hid (Nat.le_refl _), Nat.le_refl _, rfl, HPN, HG, by rw [fr_self L (by rw [HLN.out]; exact hk)]; exact HR, HK0⟩
 case round =>
  obtain ⟨j, P', hmm, hj1, rfl, hpl, hBl, hRl, hkl⟩ := hrel
  rcases Nat.eq_zero_or_pos j with rfl | hlt
  ·have X1 := Lib.hid fun (w' : World) (hk : Kept (fun j => j = g) w w') => PL.out w' hk 0 0 (by omega) rfl
   have hset := hRl.out.set (k := 0) (by rw [fr_len L (Nat.zero_le _) (by rw [HLN.out]; exact hk)]; have := HLN.out; omega) z3
   have he := fr_end L (k := k) (by rw [HLN.out]; exact hk) z3
   rw [he, hpl.out] at hset
   have hpp : (f + 0) % pn < pn := Nat.mod_lt _ (by omega)
   obtain ⟨y, hy⟩ : ∃ y, P'[(f + 0) % pn]? = some y := ⟨P'[(f + 0) % pn]'(by rw [hpl.out]; exact hpp), List.getElem?_eq_getElem _⟩
   have htl := hset.tail
   rw [List.length_set, hpl.out] at htl
   have HSET := Lib.hid htl
   have HY := Lib.hid hy
   have hrem : (((f : Nat) : Int) + 1).tmod (pn : Int) = (((f + 1) % pn : Nat) : Int) := by
    rw [show ((f : Int) + 1) = ((f + 1 : Nat) : Int) by omega]; exact (Int.ofNat_tmod _ _).symm
   have hfl : (f + 1) % pn < pn := Nat.mod_lt _ (by omega)
   have HRM : Hid (((f + 1) % P.length) = ((f + 1) % pn)) := Lib.hid (by rw [HPN.out])
   clear hset he hy hRl htl
   generalize (f + 0) % pn = p1 at *
   generalize (f + 1) % pn = f2 at *
   have hw1 : IntKind.i64.wrap (((f : Nat) : Int) + 1) = ((f : Nat) : Int) + 1 := by rw [IntKind.wrap_i64]; omega
   have hne : ¬ (pn : Int) = 0 := by omega
   have hne2 : ((pn : Int) == 0) = false := by rw [beq_eq_false_iff_ne]; exact hne
   go_wp2_with fail
   with_reducible refine Calls.mono (X1.out _ hkl.out) ?_
   rintro e w3 ⟨rfl, hk3⟩
   have hk03 := hkl.out.trans (hk3.mono (fun _ _ f => f.elim))
   have hB3 := hk3.blk hBl.out (fun f => f)
   obtain ⟨n0, n1, n2, n3, n4, n5, n6, n7, n8, n9, n10, n11⟩ := it_cells hB3 HY.out
   have fz0 := hB3.frozen (p1 * 12)
   have fz1 := hB3.frozen (p1 * 12 + 1)
   have fz2 := hB3.frozen (p1 * 12 + 2)
   have fz3 := hB3.frozen (p1 * 12 + 3)
   have fz4 := hB3.frozen (p1 * 12 + 4)
   have fz5 := hB3.frozen (p1 * 12 + 5)
   have fz6 := hB3.frozen (p1 * 12 + 6)
   have fz7 := hB3.frozen (p1 * 12 + 7)
   have fz8 := hB3.frozen (p1 * 12 + 8)
   have fz9 := hB3.frozen (p1 * 12 + 9)
   have fz10 := hB3.frozen (p1 * 12 + 10)
   have fz11 := hB3.frozen (p1 * 12 + 11)
   have hk04 := hk03.trans (setIt_kept w3 g p1 z3)
   have hB4 := setIt_blk hB3 (p := p1) (by rw [hpl.out]; exact hpp) z3
   have HK4 := Lib.hid hk04
   have HB4 := Lib.hid hB4
   unfold setIt at HK4 HB4
   clear hk3 hk03 hB3 X1 HY hkl hBl hk04 hB4
   go_wp2_with fail
   generalize hw4 : (((((((((((w3.setCell ⟨g, p1 * 12, none⟩ (.int .i64 0)).setCell ⟨g, p1 * 12 + 1, none⟩ (.int .i64 0)).setCell ⟨g, p1 * 12 + 2, none⟩ (.int .i64 0)).setCell ⟨g, p1 * 12 + 3, none⟩ (.int .i64 0)).setCell ⟨g, p1 * 12 + 4, none⟩ (.int .u64 0)).setCell ⟨g, p1 * 12 + 5, none⟩ (.int .i64 0)).setCell ⟨g, p1 * 12 + 6, none⟩ (.int .i64 0)).setCell ⟨g, p1 * 12 + 7, none⟩ (.int .i64 0)).setCell ⟨g, p1 * 12 + 8, none⟩ (.int .i64 0)).setCell ⟨g, p1 * 12 + 9, none⟩ (.slice none 0 0)).setCell ⟨g, p1 * 12 + 10, none⟩ (.int .i64 0)).setCell ⟨g, p1 * 12 + 11, none⟩ (.int .i64 0) = w4
   replace HK4 : Hid (Kept (fun j => j = g) w w4) := by rw [← hw4]; exact HK4
   replace HB4 : Hid (Blk w4 g (flat iT (P'.set p1 z3)) iT.E) := by rw [← hw4]; exact HB4
   clear hw4 n0 n1 n2 n3 n4 n5 n6 n7 n8 n9 n10 n11 fz0 fz1 fz2 fz3 fz4 fz5 fz6 fz7 fz8 fz9 fz10 fz11
   have hBb := Q.out w4 HK4.out
   have t0 := hBb.cell C0.out
   have t1 := hBb.cell C1.out
   have t2 := hBb.frozen (o + 1)
   have R : Hid (∀ w5 : World, Kept (fun _ => False) w4 w5 → FrontP w b o c T g f P L k (.returned (.tuple #[])) (w5.setCell ⟨b, o + 1, none⟩ (.int .i64 (f2 : Nat)))) := by
    refine Lib.hid fun w5 k5 => ?_
    have hb := (k5.blk hBb (fun f => f)).set (o + 1) (.int .i64 (f2 : Nat))
    refine ⟨rfl, _, by rw [List.length_set, hpl.out, HPN.out], (Kept.one w5 b (o + 1) _).blk (k5.blk HB4.out (fun f => f)) hgb, by rw [HRM.out]; exact HSET.out, by rw [HRM.out]; exact hb, ?_⟩
    exact ((HK4.out.mono (fun _ _ e => Or.inl e)).trans (k5.mono (fun _ _ f => f.elim))).trans ((Kept.one w5 b (o + 1) _).mono (fun _ _ e => Or.inr e))
   clear hBb
   go_region_with (fail)
   all_goals
    go_end0
    exact R.out w4.drew (Kept.refl _ w4).drew
  ·obtain ⟨i, rfl⟩ : ∃ i, j = i + 1 := ⟨j - 1, by omega⟩
   obtain ⟨x, hx⟩ : ∃ x, L[i]? = some x := ⟨L[i]'(by have := HLN.out; omega), List.getElem?_eq_getElem _⟩
   have hkl2 : k < L.length := by rw [HLN.out]; exact hk
   have hst := fr_step L hj1 hkl2 hx
   have hbx : (fr L k (i + 1))[i]? = some x := by rw [fr_at L hj1 hkl2, if_pos (by omega), hx]
   have hat := hRl.out.at' i x hbx
   have hset := hRl.out.set (k := i + 1) (by rw [fr_len L hj1 hkl2]; omega) x
   rw [hst] at hset
   rw [hpl.out] at hat hset
   have X1 := Lib.hid fun (w' : World) (hk : Kept (fun j => j = g) w w') => PL.out w' hk (((i + 1 : Nat)) : Int) (i + 1) (by omega) rfl
   have X2 := Lib.hid fun (w' : World) (hk : Kept (fun j => j = g) w w') => PL.out w' hk ((i : Nat) : Int) i (by omega) rfl
   have hpp : (f + (i + 1)) % pn < pn := Nat.mod_lt _ (by omega)
   obtain ⟨y, hy⟩ : ∃ y, P'[(f + (i + 1)) % pn]? = some y := ⟨P'[(f + (i + 1)) % pn]'(by rw [hpl.out]; exact hpp), List.getElem?_eq_getElem _⟩
   have HAT := Lib.hid hat
   have HSET := Lib.hid hset
   have HY := Lib.hid hy
   have hw1 : IntKind.i64.wrap (((i + 1 : Nat) : Int) - 1) = ((i : Nat) : Int) := by rw [IntKind.wrap_i64]; omega
   have g1 : (0 : Int) < ((i + 1 : Nat) : Int) := by omega
   have hib : ((i + 1 : Nat) : Int) ≤ 1073741824 := by omega
   have HII : Hid (((i + 1 : Nat) : Int) - 1 = ((i : Nat) : Int)) := Lib.hid (by omega)
   clear hx hst hbx hat hset hy hRl
   generalize (f + (i + 1)) % pn = p1 at *
   generalize (f + i) % pn = p2 at *
   obtain ⟨q, hq⟩ : ∃ q : Int, ((i + 1 : Nat) : Int) = q := ⟨_, rfl⟩
   rw [hq] at X1 hw1 g1 hib HII ⊢
   have HQ := Lib.hid hq
   clear hq
   go_wp2_with fail
   with_reducible refine Calls.mono (X1.out _ hkl.out) ?_
   rintro e w3 ⟨rfl, hk3⟩
   have hk03 := hkl.out.trans (hk3.mono (fun _ _ f => f.elim))
   have hB3 := hk3.blk hBl.out (fun f => f)
   have HK03 := Lib.hid hk03
   have HB3 := Lib.hid hB3
   clear hk3 hk03 hB3 X1
   go_wp2_with fail
   with_reducible refine Calls.mono (X2.out _ HK03.out) ?_
   rintro e w4 ⟨rfl, hk4⟩
   have hk04 := HK03.out.trans (hk4.mono (fun _ _ f => f.elim))
   have hB4 := hk4.blk HB3.out (fun f => f)
   obtain ⟨d0, d1, d2, d3, d4, d5, d6, d7, d8, d9, d10, d11⟩ := it_cells hB4 HAT.out
   obtain ⟨n0, n1, n2, n3, n4, n5, n6, n7, n8, n9, n10, n11⟩ := it_cells hB4 HY.out
   have fz0 := hB4.frozen (p1 * 12)
   have fz1 := hB4.frozen (p1 * 12 + 1)
   have fz2 := hB4.frozen (p1 * 12 + 2)
   have fz3 := hB4.frozen (p1 * 12 + 3)
   have fz4 := hB4.frozen (p1 * 12 + 4)
   have fz5 := hB4.frozen (p1 * 12 + 5)
   have fz6 := hB4.frozen (p1 * 12 + 6)
   have fz7 := hB4.frozen (p1 * 12 + 7)
   have fz8 := hB4.frozen (p1 * 12 + 8)
   have fz9 := hB4.frozen (p1 * 12 + 9)
   have fz10 := hB4.frozen (p1 * 12 + 10)
   have fz11 := hB4.frozen (p1 * 12 + 11)
   have R : Hid (Blk (setIt w4 g p1 x) g (flat iT (P'.set p1 x)) iT.E ∧ Kept (fun j => j = g) w (setIt w4 g p1 x)) :=
    Lib.hid ⟨setIt_blk hB4 (by rw [hpl.out]; exact hpp) x, hk04.trans (setIt_kept w4 g p1 x)⟩
   unfold setIt at R
   obtain ⟨⟨⟨x1, x2, x3, x4, x5, x6, x7, x8, x9, xd⟩, xa, xc, xq⟩, xz⟩ := x
   obtain ⟨⟨⟨y1, y2, y3, y4, y5, y6, y7, y8, y9, yd⟩, ya, yc, yq⟩, yz⟩ := y
   clear hk4 hk04 hB4 X2 HAT HY HB3 HK03 hBl hkl
   go_wp2_with fail
   go_roundg i
   case measure => have := hmm.out; omega
   case rel => exact ⟨i, _, Lib.hid (Nat.le_refl _), by omega, by have := HII.out; go_num, Lib.hid (by rw [List.length_set]; exact hpl.out), Lib.hid R.out.1, HSET, Lib.hid R.out.2⟩
end Go.Proofs.YtpogpibjkolioaaGreat.Qu

/- A ring in memory: one is put behind the others, one is taken out, all are told. Conditions: each theorem's own. -/
namespace Go.Proofs.YtpogpibjkolioaaGreat.Qu
open Go.RowKit Hp QuM QuN Rw
attribute [local go_sem ↓] Go.wp_at_zero Go.wp_at_succ
theorem RoomP.lies {w : World} {b o : Nat} {c : List Value} {T : TypeId} {v : Value} {L : List It} {m : Nat} {e : Ending} {w' : World} (h : RoomP w b o c T v L m e w') (hm : 0 < m) :
  ∃ g P f', e = .returned (.tuple #[]) ∧ Blk w' b ((c.set o (.slice (some ⟨g, 0, none⟩) P.length P.length)).set (o + 1) (.int .i64 (f' : Nat))) T ∧ Blk w' g (flat iT P) iT.E ∧ Pow P.length ∧ 4 ≤ P.length ∧ Ring P f' L ∧ m ≤ P.length ∧ (v.ownBlock = some g ∨ w.heap.size ≤ g) ∧ Kept (fun i => i = b) w w' := by
 obtain ⟨v', f', rfl, h1, h2, ⟨a, n, hv, hmn⟩, h4, h5⟩ := h
 cases h2 with
 | nil => cases hv; omega
 | lies g P f L blk pow four ring =>
  cases hv
  exact ⟨g, P, f', rfl, h1, blk, pow, four, ring, hmn, h4 g rfl, h5⟩
abbrev put3 (c : List Value) (o : Nat) (v : Value) (f n : Nat) : List Value := ((c.set o v).set (o + 1) (.int .i64 (f : Nat))).set (o + 2) (.int .i64 (n : Nat))
def PushP (w : World) (b o : Nat) (c : List Value) (T : TypeId) (v : Value) (L : List It) (e : Ending) (w' : World) : Prop :=
 e = .returned (.tuple #[]) ∧ ∃ v' f', Blk w' b (put3 c o v' f' L.length) T ∧ RingV w' v' f' L ∧ (∀ g, v'.ownBlock = some g → v.ownBlock = some g ∨ w.heap.size ≤ g) ∧ Kept (fun i => i = b ∨ v.ownBlock = some i) w w'
set_option maxRecDepth 100000 in
set_option maxHeartbeats 8000000 in
theorem push_any {w : World} {b o : Nat} {c : List Value} {T : TypeId} {v : Value} {f : Nat} {L : List It} (hB : Blk w b c T) (c0 : c[o]? = some v) (c1 : c[o + 1]? = some (.int .i64 (f : Nat))) (c2 : c[o + 2]? = some (.int .i64 (L.length : Nat))) (hT : T ≠ iT.E) (hR : RingV w v f L) (hl : L.length < 1000000) (x : It) :
  Calls Tryz.prog 105 #[.pointer (some ⟨b, o, none⟩), iv x] w (PushP w b o c T v (L ++ [x])) := by
 obtain ⟨⟨⟨x1, x2, x3, x4, x5, x6, x7, x8, x9, xd⟩, xa, xc, xq⟩, xz⟩ := x
 have hlt := hB.lt
 have RM := Lib.hid fun (w' : World) (K : Int) (hK : K = ((L.length + 1 : Nat) : Int)) (hk : Kept (fun _ => False) w w') => (room_any (w := w') (m := L.length + 1) (hk.blk hB (fun f => f)) c0 c1 c2 hT (hR.old hk) (by omega) (by omega) (by omega)).mono fun _ _ h => h.lies (by omega)
 have HB := Lib.hid hB
 have HR := Lib.hid hR
 have C0 := Lib.hid c0
 have C1 := Lib.hid c1
 have C2 := Lib.hid c2
 have hB1 := Blk.new w [.int .i64 x1, .int .i64 x2, .int .i64 x3, .int .i64 x4, .int .u64 (x5 : Int), .int .i64 x6, .int .i64 x7, .int .i64 x8, .int .i64 x9, .slice xa xd.length xc, .int .i64 xq, .int .i64 xz] iT.E
 have hk1 : Kept (fun _ => False) w (w.alloc (.cells [.int .i64 x1, .int .i64 x2, .int .i64 x3, .int .i64 x4, .int .u64 (x5 : Int), .int .i64 x6, .int .i64 x7, .int .i64 x8, .int .i64 x9, .slice xa xd.length xc, .int .i64 xq, .int .i64 xz].toArray iT.E)) := (Kept.refl _ w).alloc _
 have HB1 := Lib.hid hB1
 have HK1 := Lib.hid hk1
 dsimp only [List.toArray] at HB1 HK1
 have q2 := (HK1.out.blk hB (fun f => f)).cell c2
 clear hB c0 c1 c2 hR hB1 hk1
 obtain ⟨ln, hln⟩ : ∃ ln, L.length = ln := ⟨_, rfl⟩
 have HLN := Lib.hid hln
 rw [hln] at hl RM q2
 clear hln
 have hcast : ((ln : Nat) : Int) + 1 = ((ln + 1 : Nat) : Int) := by omega
 rw [← hcast] at RM
 clear hcast
 go_enter Tryz.func105, Tryz.ntmps105
 go_upto_region 1 with fail
 generalize w.alloc (.cells #[.int .i64 x1, .int .i64 x2, .int .i64 x3, .int .i64 x4, .int .u64 (x5 : Int), .int .i64 x6, .int .i64 x7, .int .i64 x8, .int .i64 x9, .slice xa xd.length xc, .int .i64 xq, .int .i64 xz] 161) = w1 at *
 obtain ⟨rb, hrb⟩ : ∃ rb, w.heap.size = rb := ⟨_, rfl⟩
 rw [hrb] at HB1
 simp only [hrb]
 have HRB := Lib.hid hrb
 have hrbb : rb ≠ b := by omega
 clear hrb
 go_wp2_with fail
 with_reducible refine Calls.mono (RM.out _ _ rfl HK1.out) ?_
 rintro e w2 ⟨g, P, f', rfl, hB2, hG2, hp2, h42, hR2, hm2, ho2, hk2⟩
 have hr2 := hk2.blk HB1.out hrbb
 have hgb : g ≠ b := fun e => by subst e; exact hT (hB2.inj hG2).2
 have hgr : g ≠ rb := fun e => by
  rcases ho2 with h | h
  ·have := (HR.out.lt g h).1; have := HRB.out; omega
  ·have h1 := HB1.out.lt; omega
 have PL := Lib.hid fun (w' : World) (hk : Kept (fun _ => False) w2 w') =>
  place_any (w := w') (b := b) (o := o) (g := g) (f := f') (n := P.length) (k := ln) (K := (ln : Nat)) ((hk.blk hB2 (fun f => f)).cell (by rw [List.getElem?_set_ne (by omega), List.getElem?_set_self (by have := (List.getElem?_eq_some_iff.1 C0.out).1; omega)])) ((hk.blk hB2 (fun f => f)).cell (by rw [List.getElem?_set_self (by rw [List.length_set]; have := (List.getElem?_eq_some_iff.1 C1.out).1; omega)])) hp2 hR2.f0 (by omega) rfl
 have hset := hR2.push (x := ((⟨⟨x1, x2, x3, x4, x5, x6, x7, x8, x9, xd⟩, xa, xc, xq⟩, xz) : It)) (by rw [HLN.out]; omega)
 rw [HLN.out] at hset
 have hpp : (f' + ln) % P.length < P.length := Nat.mod_lt _ (by omega)
 obtain ⟨y, hy⟩ : ∃ y, P[(f' + ln) % P.length]? = some y := ⟨_, List.getElem?_eq_getElem hpp⟩
 have t2 := hB2.cell (o := o + 2) (v := .int .i64 (ln : Nat)) (by rw [List.getElem?_set_ne (by omega), List.getElem?_set_ne (by omega), C2.out, HLN.out])
 have HB2 := Lib.hid hB2
 have HG2 := Lib.hid hG2
 have HK2 : Hid (Kept (fun i => i = b) w w2) := Lib.hid ((HK1.out.mono (fun _ _ f => f.elim)).trans hk2)
 have HSET := Lib.hid hset
 have HY := Lib.hid hy
 have HR2 := Lib.hid hr2
 have HO2 := Lib.hid ho2
 have HP2 := Lib.hid hp2
 generalize (f' + ln) % P.length = p at *
 clear hB2 hG2 hk2 hset hy hr2 ho2 q2 hR2 hp2 RM
 go_wp2_with fail
 obtain ⟨r0, r1, r2, r3, r4, r5, r6, r7, r8, r9, r10, r11⟩ := cs12 HR2.out
 go_region_with (first | (go_at_call 103; (with_reducible refine Calls.mono (PL.out _ (by first | exact Kept.refl _ _ | exact (Kept.refl _ _).drew)) ?_); rintro e w3 ⟨rfl, hk3⟩; have hG3 := hk3.blk (b := g) HG2.out (fun f => f); have hr3 := hk3.blk (b := rb) HR2.out (fun f => f); obtain ⟨n0, n1, n2, n3, n4, n5, n6, n7, n8, n9, n10, n11⟩ := it_cells hG3 HY.out; have fz0 := hG3.frozen (p * 12); have fz1 := hG3.frozen (p * 12 + 1); have fz2 := hG3.frozen (p * 12 + 2); have fz3 := hG3.frozen (p * 12 + 3); have fz4 := hG3.frozen (p * 12 + 4); have fz5 := hG3.frozen (p * 12 + 5); have fz6 := hG3.frozen (p * 12 + 6); have fz7 := hG3.frozen (p * 12 + 7); have fz8 := hG3.frozen (p * 12 + 8); have fz9 := hG3.frozen (p * 12 + 9); have fz10 := hG3.frozen (p * 12 + 10); have fz11 := hG3.frozen (p * 12 + 11); have s0 := hr3.cell (o := 0) rfl; have s1 := hr3.cell (o := 1) rfl; have s2 := hr3.cell (o := 2) rfl; have s3 := hr3.cell (o := 3) rfl; have s4 := hr3.cell (o := 4) rfl; have s5 := hr3.cell (o := 5) rfl; have s6 := hr3.cell (o := 6) rfl; have s7 := hr3.cell (o := 7) rfl; have s8 := hr3.cell (o := 8) rfl; have s9 := hr3.cell (o := 9) rfl; have s10 := hr3.cell (o := 10) rfl; have s11 := hr3.cell (o := 11) rfl))
 all_goals
  have hk3' : Kept (fun _ => False) w2 w3 := by first | exact hk3 | exact ((Kept.refl _ w2).drew).trans hk3
  have hG4 := setIt_blk hG3 hpp ((⟨⟨x1, x2, x3, x4, x5, x6, x7, x8, x9, xd⟩, xa, xc, xq⟩, xz) : It)
  have hk4 := hk3'.mono (G := fun i => i = g) (fun _ _ f => f.elim) |>.trans (setIt_kept w3 g p ((⟨⟨x1, x2, x3, x4, x5, x6, x7, x8, x9, xd⟩, xa, xc, xq⟩, xz) : It))
  have hB4 := hk4.blk HB2.out (fun e => hgb e.symm)
  have HK4 := Lib.hid hk4
  have HG4 := Lib.hid hG4
  have HB4 := Lib.hid hB4
  unfold setIt at HK4 HG4 HB4
  clear hk3 hk3' hG4 hk4 hB4 hG3 hr3 n0 n1 n2 n3 n4 n5 n6 n7 n8 n9 n10 n11 fz0 fz1 fz2 fz3 fz4 fz5 fz6 fz7 fz8 fz9 fz10 fz11 s0 s1 s2 s3 s4 s5 s6 s7 s8 s9 s10 s11 r0 r1 r2 r3 r4 r5 r6 r7 r8 r9 r10 r11 t2
  generalize hw4 : (((((((((((w3.setCell ⟨g, p * 12, none⟩ (.int .i64 x1)).setCell ⟨g, p * 12 + 1, none⟩ (.int .i64 x2)).setCell ⟨g, p * 12 + 2, none⟩ (.int .i64 x3)).setCell ⟨g, p * 12 + 3, none⟩ (.int .i64 x4)).setCell ⟨g, p * 12 + 4, none⟩ (.int .u64 (x5 : Int))).setCell ⟨g, p * 12 + 5, none⟩ (.int .i64 x6)).setCell ⟨g, p * 12 + 6, none⟩ (.int .i64 x7)).setCell ⟨g, p * 12 + 7, none⟩ (.int .i64 x8)).setCell ⟨g, p * 12 + 8, none⟩ (.int .i64 x9)).setCell ⟨g, p * 12 + 9, none⟩ (.slice xa xd.length xc)).setCell ⟨g, p * 12 + 10, none⟩ (.int .i64 xq)).setCell ⟨g, p * 12 + 11, none⟩ (.int .i64 xz) = w4 at *
  clear hw4
  have t2 := HB4.out.cell (o := o + 2) (v := .int .i64 (ln : Nat)) (by rw [List.getElem?_set_ne (by omega), List.getElem?_set_ne (by omega), C2.out, HLN.out])
  have u2 := HB4.out.frozen (o + 2)
  have t2' := HB4.out.drew.cell (o := o + 2) (v := .int .i64 (ln : Nat)) (by rw [List.getElem?_set_ne (by omega), List.getElem?_set_ne (by omega), C2.out, HLN.out])
  have u2' := HB4.out.drew.frozen (o + 2)
  have hw9 : IntKind.i64.wrap ((ln : Int) + 1) = (ln : Int) + 1 := by rw [IntKind.wrap_i64]; omega
  have R : Hid (∀ w5 : World, Kept (fun _ => False) w4 w5 → PushP w b o c T v (L ++ [((⟨⟨x1, x2, x3, x4, x5, x6, x7, x8, x9, xd⟩, xa, xc, xq⟩, xz) : It)]) (.returned (.tuple #[])) (w5.setCell ⟨b, o + 2, none⟩ (.int .i64 ((ln : Int) + 1)))) := by
   refine Lib.hid fun w5 k5 => ?_
   have k6 := Kept.one w5 b (o + 2) (.int .i64 ((ln : Int) + 1))
   have hl2 : (L ++ [((⟨⟨x1, x2, x3, x4, x5, x6, x7, x8, x9, xd⟩, xa, xc, xq⟩, xz) : It)]).length = ln + 1 := by rw [List.length_append, HLN.out]; rfl
   have hb := (k5.blk HB4.out (fun f => f)).set (o + 2) (.int .i64 ((ln : Int) + 1))
   have hl3 : (P.set p ((⟨⟨x1, x2, x3, x4, x5, x6, x7, x8, x9, xd⟩, xa, xc, xq⟩, xz) : It)).length = P.length := List.length_set
   have hkk : Kept (fun i => i = b ∨ v.ownBlock = some i) w (w5.setCell ⟨b, o + 2, none⟩ (.int .i64 ((ln : Int) + 1))) := by
    refine ((HK2.out.mono (fun _ _ e => Or.inl e)).trans' HK4.out (fun i hi e => ?_)).trans ((k5.mono (fun _ _ f => f.elim)).trans (k6.mono (fun _ _ e => Or.inl e)))
    subst e
    rcases HO2.out with h | h
    ·exact Or.inr h
    ·have := HK1.out.size; omega
   have hsz := HK1.out.size
   have hrow := RingV.lies (w := w5.setCell ⟨b, o + 2, none⟩ (.int .i64 ((ln : Int) + 1))) g (P.set p ((⟨⟨x1, x2, x3, x4, x5, x6, x7, x8, x9, xd⟩, xa, xc, xq⟩, xz) : It)) f' (L ++ [((⟨⟨x1, x2, x3, x4, x5, x6, x7, x8, x9, xd⟩, xa, xc, xq⟩, xz) : It)]) (k6.blk (k5.blk HG4.out (fun f => f)) hgb) (by rw [hl3]; exact HP2.out) (by rw [hl3]; exact h42) HSET.out
   rw [hl3] at hrow
   refine ⟨rfl, _, f', ?_, hrow, fun g' e => ?_, hkk⟩
   ·unfold put3
    rw [hl2, show ((ln + 1 : Nat) : Int) = (ln : Int) + 1 by omega]
    exact hb
   ·have e2 : g = g' := Option.some.inj e
    subst e2
    exact HO2.out.imp id (fun h => by omega)
  clear PL HB HR HSET HY HK1 HB2 HG2 HK2 HR2 HO2
  go_wp2_with fail
  go_end0
  first | exact R.out _ (Kept.refl _ w4) | exact R.out _ (Kept.refl _ w4).drew
def Closed (w : World) (b o : Nat) (c : List Value) (T : TypeId) (g : Nat) (P : List It) (L : List It) (k : Nat) (e : Ending) (w' : World) : Prop :=
 e = .returned (.tuple #[]) ∧ ∃ P' f', P'.length = P.length ∧ Blk w' g (flat iT P') iT.E ∧ Ring P' f' (L.eraseIdx k) ∧ Blk w' b (c.set (o + 1) (.int .i64 ((f' : Nat) : Int))) T ∧ Kept (fun j => j = g ∨ j = b) w w'
theorem closed_front {w : World} {b o : Nat} {c : List Value} {T : TypeId} {g f : Nat} {P L : List It} {k : Nat} {e : Ending} {w' : World} (h : FrontP w b o c T g f P L k e w') : Closed w b o c T g P L k e w' := by
 obtain ⟨h1, P', h2, h3, h4, h5, h6⟩ := h
 exact ⟨h1, P', _, h2, h3, h4, h5, h6⟩
theorem closed_back {w : World} {b o : Nat} {c : List Value} {T : TypeId} {g f : Nat} {P L : List It} {k : Nat} {e : Ending} {w' : World} (hB : Blk w b c T) (hgb : g ≠ b) (c1 : c[o + 1]? = some (.int .i64 (f : Nat))) (h : CloseP w g P f L k e w') : Closed w b o c T g P L k e w' := by
 obtain ⟨h1, P', h2, h3, h4, h5⟩ := h
 exact ⟨h1, P', f, h2, h3, h4, by rw [set_same c1]; exact h5.blk hB (fun e => hgb e.symm), h5.mono (fun _ _ e => Or.inl e)⟩
def TakeP (w : World) (b o : Nat) (c : List Value) (T : TypeId) (v : Value) (L : List It) (x : It) (e : Ending) (w' : World) : Prop :=
 e = .returned (iv x) ∧ ∃ v' f', Blk w' b (put3 c o v' f' L.length) T ∧ RingV w' v' f' L ∧ (∀ g, v'.ownBlock = some g → v.ownBlock = some g ∨ w.heap.size ≤ g) ∧ Kept (fun i => i = b ∨ v.ownBlock = some i) w w'
set_option maxRecDepth 100000 in
set_option maxHeartbeats 8000000 in
theorem take_any {w : World} {b o : Nat} {c : List Value} {T : TypeId} {v : Value} {f : Nat} {L : List It} (hB : Blk w b c T) (c0 : c[o]? = some v) (c1 : c[o + 1]? = some (.int .i64 (f : Nat))) (c2 : c[o + 2]? = some (.int .i64 (L.length : Nat))) (hT : T ≠ iT.E) (hR : RingV w v f L) (hl : L.length ≤ 1000000) {k : Nat} {x : It} (hx : L[k]? = some x) {K : Int} (hK : K = (k : Nat)) :
  Calls Tryz.prog 100 #[.pointer (some ⟨b, o, none⟩), .int .i64 K] w (TakeP w b o c T v (L.eraseIdx k) x) := by
 subst hK
 obtain ⟨⟨⟨x1, x2, x3, x4, x5, x6, x7, x8, x9, xd⟩, xa, xc, xq⟩, xz⟩ := x
 have hkl := (List.getElem?_eq_some_iff.1 hx).1
 obtain ⟨g, P, rfl, hG, hp, h4, hR⟩ : ∃ g P, v = .slice (some ⟨g, 0, none⟩) P.length P.length ∧ Blk w g (flat iT P) iT.E ∧ Pow P.length ∧ 4 ≤ P.length ∧ Ring P f L := by
  cases hR with
  | nil => simp at hkl
  | lies g P f L blk pow four ring => exact ⟨g, P, rfl, blk, pow, four, ring⟩
 have hgb : g ≠ b := fun e => by subst e; exact hT (hB.inj hG).2
 have hle := hR.le
 have hat := hR.at' k _ hx
 have HPL := Lib.hid fun (w' : World) (hk : Kept (fun _ => False) w w') => place_any (w := w') (b := b) (o := o) (g := g) (f := f) (n := P.length) (k := k) (K := (k : Nat)) ((hk.blk hB (fun f => f)).cell c0) ((hk.blk hB (fun f => f)).cell c1) hp hR.f0 (by omega) rfl
 have CL1 := Lib.hid fun (w' : World) (hk : Kept (fun _ => False) w w') => (front_any (hk.blk hB (fun f => f)) c0 c1 hT (hk.blk hG (fun f => f)) hp hR hkl).mono fun _ _ h => closed_front h
 have CL2 := Lib.hid fun (w' : World) (hk : Kept (fun _ => False) w w') => (back_any (hk.blk hB (fun f => f)) c0 c1 c2 hT (hk.blk hG (fun f => f)) hp hR hkl).mono fun _ _ h => closed_back (hk.blk hB (fun f => f)) hgb c1 h
 have HE : Hid ((L.eraseIdx k).length = L.length - 1) := Lib.hid (List.length_eraseIdx_of_lt hkl)
 have HB := Lib.hid hB
 have HG := Lib.hid hG
 have C0 := Lib.hid c0
 have C1 := Lib.hid c1
 have C2 := Lib.hid c2
 have HP := Lib.hid hp
 have HAT := Lib.hid hat
 have hbl := hB.lt
 have hgl := hG.lt
 clear hB hG c0 c1 c2 hp hR hx hat
 generalize (f + k) % P.length = p at *
 obtain ⟨ln, hln⟩ : ∃ ln, L.length = ln := ⟨_, rfl⟩
 have HLN := Lib.hid hln
 rw [hln] at hl hkl hle C2 HE
 clear hln
 have hk' : ((k : Int) < (ln : Int) / 2) ∨ ¬ ((k : Int) < (ln : Int) / 2) := by omega
 have hB1 := Blk.new w [.int .i64 0, .int .i64 0, .int .i64 0, .int .i64 0, .int .u64 0, .int .i64 0, .int .i64 0, .int .i64 0, .int .i64 0, .slice none 0 0, .int .i64 0, .int .i64 0] iT.E
 have hk1 : Kept (fun _ => False) w (w.alloc (.cells [.int .i64 0, .int .i64 0, .int .i64 0, .int .i64 0, .int .u64 0, .int .i64 0, .int .i64 0, .int .i64 0, .int .i64 0, .slice none 0 0, .int .i64 0, .int .i64 0].toArray iT.E)) := (Kept.refl _ w).alloc _
 have HB1 := Lib.hid hB1
 have HK1 := Lib.hid hk1
 dsimp only [List.toArray] at HB1 HK1
 clear hB1 hk1
 rcases hk' with hk' | hk'
 all_goals
  go_enter Tryz.func100, Tryz.ntmps100
  go_upto_region 1 with fail
  generalize w.alloc (.cells #[.int .i64 0, .int .i64 0, .int .i64 0, .int .i64 0, .int .u64 0, .int .i64 0, .int .i64 0, .int .i64 0, .int .i64 0, .slice none 0 0, .int .i64 0, .int .i64 0] 161) = w1 at *
  obtain ⟨rb, hrb⟩ : ∃ rb, w.heap.size = rb := ⟨_, rfl⟩
  rw [hrb] at HB1
  simp only [hrb]
  have HRB := Lib.hid hrb
  have hrbb : rb ≠ b := by omega
  have hrbg : rb ≠ g := by omega
  clear hrb
  go_wp2_with fail
  with_reducible refine Calls.mono (HPL.out _ HK1.out) ?_
  rintro e w2 ⟨rfl, hk2⟩
  have hG2 := (HK1.out.trans hk2).blk HG.out (fun f => f)
  obtain ⟨d0, d1, d2, d3, d4, d5, d6, d7, d8, d9, d10, d11⟩ := it_cells hG2 HAT.out
  have HK2 := Lib.hid (HK1.out.trans hk2)
  have HR2 := Lib.hid (hk2.blk HB1.out (fun f => f))
  clear hG2 hk2 HB1 HK1
  go_upto_region 2 with fail
  have hB3 := Blk.new w2 [.int .i64 x1, .int .i64 x2, .int .i64 x3, .int .i64 x4, .int .u64 (x5 : Int), .int .i64 x6, .int .i64 x7, .int .i64 x8, .int .i64 x9, .slice xa xd.length xc, .int .i64 xq, .int .i64 xz] iT.E
  have hk3 : Kept (fun _ => False) w2 (w2.alloc (.cells [.int .i64 x1, .int .i64 x2, .int .i64 x3, .int .i64 x4, .int .u64 (x5 : Int), .int .i64 x6, .int .i64 x7, .int .i64 x8, .int .i64 x9, .slice xa xd.length xc, .int .i64 xq, .int .i64 xz].toArray iT.E)) := (Kept.refl _ w2).alloc _
  have HOB := Lib.hid hB3
  have HK3 := Lib.hid (HK2.out.trans hk3)
  have HR3 := Lib.hid (hk3.blk HR2.out (fun f => f))
  dsimp only [List.toArray] at HOB HK3 HR3
  clear hB3 hk3 d0 d1 d2 d3 d4 d5 d6 d7 d8 d9 d10 d11
  generalize w2.alloc (.cells #[.int .i64 x1, .int .i64 x2, .int .i64 x3, .int .i64 x4, .int .u64 (x5 : Int), .int .i64 x6, .int .i64 x7, .int .i64 x8, .int .i64 x9, .slice xa xd.length xc, .int .i64 xq, .int .i64 xz] 161) = w3 at *
  have hrl := HR2.out.lt
  have hwl := HK2.out.size
  obtain ⟨ob, hob⟩ : ∃ ob, w2.heap.size = ob := ⟨_, rfl⟩
  rw [hob] at HOB
  simp only [hob]
  have hobb : ob ≠ b := by omega
  have hobg : ob ≠ g := by omega
  have hobr : ob ≠ rb := by omega
  clear hob HK2 HR2
  have t2 := (HK3.out.blk HB.out (fun f => f)).cell C2.out
  go_wp2_with fail
  first | with_reducible refine Calls.mono (CL1.out _ HK3.out) ?_ | with_reducible refine Calls.mono (CL2.out _ HK3.out) ?_
  rintro e w4 ⟨rfl, P', f', hl4, hG4, hR4, hB4, hk4⟩
  have hr4 := hk4.blk HR3.out (fun e => e.elim hrbg hrbb)
  have ho4 := hk4.blk HOB.out (fun e => e.elim hobg hobb)
  have HK4 : Hid (Kept (fun i => i = g ∨ i = b) w w4) := Lib.hid ((HK3.out.mono (fun _ _ f => f.elim)).trans hk4)
  have k5 := Kept.one w4 b (o + 2) (.int .i64 ((ln : Int) - 1))
  have hB5 := hB4.set (o + 2) (.int .i64 ((ln : Int) - 1))
  have hG5 := k5.blk hG4 hgb
  have hr5 := k5.blk hr4 hrbb
  have ho5 := k5.blk ho4 hobb
  have HK5 : Hid (Kept (fun i => i = g ∨ i = b) w (w4.setCell ⟨b, o + 2, none⟩ (.int .i64 ((ln : Int) - 1)))) := Lib.hid (HK4.out.trans (k5.mono (fun _ _ e => Or.inr e)))
  have t2 := hB4.cell (o := o + 2) (v := .int .i64 (ln : Nat)) (by rw [List.getElem?_set_ne (by omega), C2.out])
  have u2 := hB4.frozen (o + 2)
  have hw9 : IntKind.i64.wrap ((ln : Int) - 1) = (ln : Int) - 1 := by rw [IntKind.wrap_i64]; omega
  have hrv := RingV.lies (w := (w4.setCell ⟨b, o + 2, none⟩ (.int .i64 ((ln : Int) - 1)))) g P' f' (L.eraseIdx k) hG5 (by rw [hl4]; exact HP.out) (by rw [hl4]; exact h4) hR4
  rw [hl4] at hrv
  have HRV := Lib.hid hrv
  have HB5 := Lib.hid hB5
  have HR5 := Lib.hid hr5
  have HO5 := Lib.hid ho5
  have hs5 : (w4.setCell ⟨b, o + 2, none⟩ (.int .i64 ((ln : Int) - 1))).heap.size = w4.heap.size := by simp
  have HRL := Lib.hid hr5.lt
  have HOL := Lib.hid ho5.lt
  clear hr4 ho4 hrv hB5 hr5 ho5 hG5 k5 hB4 hG4 hR4 hk4 HR3 HOB hs5 HK4
  go_upto_region 6 with fail
  generalize hw5 : w4.setCell ⟨b, o + 2, none⟩ (.int .i64 ((ln : Int) - 1)) = w5 at *
  clear hw5 t2 u2
  have t2 := HB5.out.cell (o := o + 2) (v := .int .i64 ((ln : Int) - 1)) (by rw [List.getElem?_set_self (by rw [List.length_set]; have := (List.getElem?_eq_some_iff.1 C2.out).1; omega)])
  have hcast : (ln : Int) - 1 = ((ln - 1 : Nat) : Int) := by omega
  have RM := Lib.hid ((room_any (w := w5) (o := o) (f := f') (L := L.eraseIdx k) (v := .slice (some ⟨g, 0, none⟩) P.length P.length) (m := ln - 1) HB5.out
   (by rw [List.getElem?_set_ne (by omega), List.getElem?_set_ne (by omega), C0.out])
   (by rw [List.getElem?_set_ne (by omega), List.getElem?_set_self (by have := (List.getElem?_eq_some_iff.1 C1.out).1; omega)])
   (by rw [List.getElem?_set_self (by rw [List.length_set]; have := (List.getElem?_eq_some_iff.1 C2.out).1; omega), HE.out, hcast]) hT HRV.out (by rw [HE.out]; omega) (by rw [HE.out]; omega) (by omega)))
  go_wp2_with fail
  with_reducible refine Calls.mono RM.out ?_
  rintro e w6 ⟨v', f2, rfl, hB6, hR6, _, ho6, hk6⟩
  have hr6 := hk6.blk HR5.out hrbb
  have hoo6 := hk6.blk HO5.out hobb
  obtain ⟨s0, s1, s2, s3, s4, s5, s6, s7, s8, s9, s10, s11⟩ := cs12 hoo6
  obtain ⟨e0, e1, e2, e3, e4, e5, e6, e7, e8, e9, e10, e11⟩ := cs12 hr6
  obtain ⟨h0, h1, h2, h3, h4, h5, h6, h7, h8, h9, h10, h11⟩ := fz12 hr6
  have kr := setIt_kept w6 rb 0 ((⟨⟨x1, x2, x3, x4, x5, x6, x7, x8, x9, xd⟩, xa, xc, xq⟩, xz) : It)
  have hB7 := kr.blk hB6 (fun e => hrbb e.symm)
  have hR7 := hR6.kept kr (fun g' e e2 => by
   have e3 : g' = rb := e2
   subst e3
   rcases ho6 g' e with h | h
   ·exact hrbg (Option.some.inj h).symm
   ·have := HRL.out; omega)
  have hr7 := (((((((((((hr6.set 0 (.int .i64 x1)).set 1 (.int .i64 x2)).set 2 (.int .i64 x3)).set 3 (.int .i64 x4)).set 4 (.int .u64 (x5 : Int))).set 5 (.int .i64 x6)).set 6 (.int .i64 x7)).set 7 (.int .i64 x8)).set 8 (.int .i64 x9)).set 9 (.slice xa xd.length xc)).set 10 (.int .i64 xq)).set 11 (.int .i64 xz)
  have HK7 : Hid (Kept (fun i => i = g ∨ i = b) w (setIt w6 rb 0 ((⟨⟨x1, x2, x3, x4, x5, x6, x7, x8, x9, xd⟩, xa, xc, xq⟩, xz) : It))) := Lib.hid (((HK5.out.trans (hk6.mono (fun _ _ e => Or.inr e))).trans' kr (fun i hi e => by have := HRB.out; omega)))
  have hput : ((((c.set (o + 1) (.int .i64 (f' : Nat))).set (o + 2) (.int .i64 ((ln - 1 : Nat) : Int))).set o v').set (o + 1) (.int .i64 (f2 : Nat))) = put3 c o v' f2 (L.eraseIdx k).length := by
   rw [HE.out]
   unfold put3
   apply List.ext_getElem?
   intro i
   by_cases i0 : i = o
   ·subst i0; simp [List.getElem?_set]
   ·by_cases i1 : i = o + 1
    ·subst i1; simp [List.getElem?_set]
    ·by_cases i2 : i = o + 2
     ·subst i2; simp [List.getElem?_set]
     ·simp [Ne.symm i0, Ne.symm i1, Ne.symm i2]
  rw [hcast, hput] at hB7
  have R : Hid (TakeP w b o c T (.slice (some ⟨g, 0, none⟩) P.length P.length) (L.eraseIdx k) ((⟨⟨x1, x2, x3, x4, x5, x6, x7, x8, x9, xd⟩, xa, xc, xq⟩, xz) : It) (.returned (iv ((⟨⟨x1, x2, x3, x4, x5, x6, x7, x8, x9, xd⟩, xa, xc, xq⟩, xz) : It))) ((((((((((((w6.setCell ⟨rb, 0, none⟩ (.int .i64 x1)).setCell ⟨rb, 1, none⟩ (.int .i64 x2)).setCell ⟨rb, 2, none⟩ (.int .i64 x3)).setCell ⟨rb, 3, none⟩ (.int .i64 x4)).setCell ⟨rb, 4, none⟩ (.int .u64 (x5 : Int))).setCell ⟨rb, 5, none⟩ (.int .i64 x6)).setCell ⟨rb, 6, none⟩ (.int .i64 x7)).setCell ⟨rb, 7, none⟩ (.int .i64 x8)).setCell ⟨rb, 8, none⟩ (.int .i64 x9)).setCell ⟨rb, 9, none⟩ (.slice xa xd.length xc)).setCell ⟨rb, 10, none⟩ (.int .i64 xq)).setCell ⟨rb, 11, none⟩ (.int .i64 xz))) :=
   Lib.hid ⟨rfl, v', f2, hB7, hR7, fun g' e => (ho6 g' e).imp id (fun h => Nat.le_trans HK5.out.size h), HK7.out.mono (fun i _ e => e.elim (fun e => Or.inr (congrArg some e.symm)) Or.inl)⟩
  obtain ⟨z0, z1, z2, z3, z4, z5, z6, z7, z8, z9, z10, z11⟩ := cs12 hr7
  clear kr hB7 hR7 hr7 HK7 hput hB6 hR6 ho6 hk6 hr6 hoo6 t2 RM HB HG C0 C1 C2 CL1 CL2 HPL HAT HK3 HB5 HR5 HO5 HRV HK5
  go_wp2_with fail
  exact bodyPost_ret (v := iv ((⟨⟨x1, x2, x3, x4, x5, x6, x7, x8, x9, xd⟩, xa, xc, xq⟩, xz) : It)) (by simp [results, Tryz.results100, go_sem, z0, z1, z2, z3, z4, z5, z6, z7, z8, z9, z10, z11]) rfl R.out
end Go.Proofs.YtpogpibjkolioaaGreat.Qu

/- A ring in memory: all are told. Conditions: each theorem's own. -/
namespace Go.Proofs.YtpogpibjkolioaaGreat.Qu
open Go.RowKit Hp QuM QuN Rw
attribute [local go_sem ↓] Go.wp_at_zero Go.wp_at_succ
end Go.Proofs.YtpogpibjkolioaaGreat.Qu

