/- A ring in memory: one is taken out, the others close up. Conditions: each theorem's own. -/
import Derived.Test.YtiffnlcpemfmoaaPqRoom
set_option linter.unusedVariables false
namespace Go.Proofs.Ytiffnlcpemfmoaa.Qu
open Go.RowKit Hp QuM QuN Rw
attribute [local go_sem ↓] Go.wp_at_zero Go.wp_at_succ
theorem run_z (w : World) : (Instr.build iT.E #[]).run Try.prog w = .ok (.agg #[.int .i64 0, .int .i64 0, .int .i64 0, .int .i64 0, .int .u64 0, .int .i64 0, .int .i64 0, .int .i64 0, .int .i64 0, .slice none 0 0, .int .i64 0, .int .i64 0]) w := by
  kernel_rfl
/-- What closing up leaves: the ring without the k-th one, from place f' on. -/
def CloseP (w : World) (g : Nat) (P : List It) (f' : Nat) (L : List It) (k : Nat) (e : Ending) (w' : World) : Prop :=
  e = .returned (.tuple #[]) ∧ ∃ P', P'.length = P.length ∧ Blk w' g (flat iT P') iT.E ∧ Ring P' f' (L.eraseIdx k) ∧ Kept (fun j => j = g) w w'
set_option maxRecDepth 100000 in
set_option maxHeartbeats 8000000 in
theorem back_any {w : World} {b o : Nat} {c : List Value} {T : TypeId} {g f : Nat} {P L : List It} (hB : Blk w b c T) (c0 : c[o]? = some (.slice (some ⟨g, 0, none⟩) P.length P.length)) (c1 : c[o + 1]? = some (.int .i64 (f : Nat))) (c2 : c[o + 2]? = some (.int .i64 (L.length : Nat))) (hT : T ≠ iT.E)
    (hG : Blk w g (flat iT P) iT.E) (hp : Pow P.length) (hR : Ring P f L) {k : Nat} (hk : k < L.length) :
    Calls Try.prog 47 #[.pointer (some ⟨b, o, none⟩), .int .i64 (k : Nat)] w (CloseP w g P f L k) := by
  have hgb : g ≠ b := fun e => by subst e; exact hT (hB.inj hG).2
  have hn := hp.le
  have hle := hR.le
  have hf := hR.f0
  have PL := Lib.hid fun (w' : World) (hk : Kept (fun j => j = g) w w') (K : Int) (k : Nat) (hk2 : k < P.length) (hK : K = (k : Nat)) =>
    place_any (w := w') (b := b) (o := o) (g := g) (f := f) (n := P.length) (k := k) (K := K) ((hk.blk hB (fun e => hgb e.symm)).cell c0) ((hk.blk hB (fun e => hgb e.symm)).cell c1) hp hf hk2 hK
  have Q2 := Lib.hid fun (w' : World) (hk : Kept (fun j => j = g) w w') => (hk.blk hB (fun e => hgb e.symm)).cell c2
  have hz := run_z
  have HK0 : Hid (Kept (fun j => j = g) w w) := Lib.hid (Kept.refl _ w)
  have HG := Lib.hid hG
  have HR := Lib.hid hR
  clear hB c0 c1 c2 hG hp hR
  obtain ⟨pn, hpn⟩ : ∃ pn, P.length = pn := ⟨_, rfl⟩
  have HPN := Lib.hid hpn
  rw [hpn] at hn hle hf PL
  clear hpn
  obtain ⟨ln, hln⟩ : ∃ ln, L.length = ln := ⟨_, rfl⟩
  have HLN := Lib.hid hln
  rw [hln] at hle hk Q2
  clear hln
  go_enter Try.func47, Try.ntmps47
  go_wp2_with fail
  go_loopg [1] ln (fun mm s1 wr => ∃ (j : Nat) (P' : List It), Hid (ln - 1 - j ≤ mm) ∧ k ≤ j ∧ j < ln ∧ s1 = .int .i64 ((j : Nat) : Int) ∧ Hid (P'.length = pn) ∧ Hid (Blk wr g (flat iT P') iT.E) ∧ Hid (Ring P' f (bk L k j)) ∧ Hid (Kept (fun j => j = g) w wr))
  case atStart => exact ⟨k, P, Lib.hid (by omega), Nat.le_refl _, hk, rfl, HPN, HG, by rw [bk_self]; exact HR, HK0⟩
  case round =>
    obtain ⟨j, P', hmm, hj1, hj2, rfl, hpl, hBl, hRl, hkl⟩ := hrel
    have q2 := Q2.out wr hkl.out
    rcases Nat.lt_or_ge j (ln - 1) with hlt | hge
    · obtain ⟨x, hx⟩ : ∃ x, L[j + 1]? = some x := ⟨L[j + 1]'(by have := HLN.out; omega), List.getElem?_eq_getElem _⟩
      have hst := bk_step L hj1 (by have := HLN.out; omega) hx
      have hbx : (bk L k j)[j + 1]? = some x := by rw [bk_at L hj1 (by have := HLN.out; omega), if_neg (by omega), if_neg (by omega), hx]
      have hat := hRl.out.at' (j + 1) x hbx
      have hset := hRl.out.set (k := j) (by rw [bk_len L hj1 (by have := HLN.out; omega)]; have := HLN.out; omega) x
      rw [hst] at hset
      rw [hpl.out] at hat hset
      have X1 := Lib.hid fun (w' : World) (hk : Kept (fun j => j = g) w w') => PL.out w' hk ((j : Nat) : Int) j (by omega) rfl
      have X2 := Lib.hid fun (w' : World) (hk : Kept (fun j => j = g) w w') => PL.out w' hk (((j : Nat) : Int) + 1) (j + 1) (by omega) (by omega)
      have hpp : (f + j) % pn < pn := Nat.mod_lt _ (by omega)
      obtain ⟨y, hy⟩ : ∃ y, P'[(f + j) % pn]? = some y := ⟨P'[(f + j) % pn]'(by rw [hpl.out]; exact hpp), List.getElem?_eq_getElem _⟩
      have HAT := Lib.hid hat
      have HSET := Lib.hid hset
      have HY := Lib.hid hy
      have hw1 : IntKind.i64.wrap (((j : Nat) : Int) + 1) = ((j : Nat) : Int) + 1 := by rw [IntKind.wrap_i64]; omega
      have g1 : ((j : Nat) : Int) < ((ln : Nat) : Int) - 1 := by omega
      clear hx hst hbx hat hset hy hRl
      generalize (f + (j + 1)) % pn = p2 at *
      generalize (f + j) % pn = p1 at *
      go_wp2_with fail
      with_reducible refine Calls.mono (X1.out _ hkl.out) ?_
      rintro e w3 ⟨rfl, hk3⟩
      have hk03 := hkl.out.trans (hk3.mono (fun _ _ f => f.elim))
      have hB3 := hk3.blk hBl.out (fun f => f)
      have HK03 := Lib.hid hk03
      have HB3 := Lib.hid hB3
      clear hk3 hk03 hB3 X1
      go_wp2_with fail
      with_reducible refine Calls.mono (X2.out _ HK03.out) ?_
      rintro e w4 ⟨rfl, hk4⟩
      have hk04 := HK03.out.trans (hk4.mono (fun _ _ f => f.elim))
      have hB4 := hk4.blk HB3.out (fun f => f)
      obtain ⟨d0, d1, d2, d3, d4, d5, d6, d7, d8, d9, d10, d11⟩ := it_cells hB4 HAT.out
      obtain ⟨n0, n1, n2, n3, n4, n5, n6, n7, n8, n9, n10, n11⟩ := it_cells hB4 HY.out
      have fz0 := hB4.frozen (p1 * 12)
      have fz1 := hB4.frozen (p1 * 12 + 1)
      have fz2 := hB4.frozen (p1 * 12 + 2)
      have fz3 := hB4.frozen (p1 * 12 + 3)
      have fz4 := hB4.frozen (p1 * 12 + 4)
      have fz5 := hB4.frozen (p1 * 12 + 5)
      have fz6 := hB4.frozen (p1 * 12 + 6)
      have fz7 := hB4.frozen (p1 * 12 + 7)
      have fz8 := hB4.frozen (p1 * 12 + 8)
      have fz9 := hB4.frozen (p1 * 12 + 9)
      have fz10 := hB4.frozen (p1 * 12 + 10)
      have fz11 := hB4.frozen (p1 * 12 + 11)
      have R : Hid (Blk (setIt w4 g p1 x) g (flat iT (P'.set p1 x)) iT.E ∧ Kept (fun j => j = g) w (setIt w4 g p1 x)) :=
        Lib.hid ⟨setIt_blk hB4 (by rw [hpl.out]; exact hpp) x, hk04.trans (setIt_kept w4 g p1 x)⟩
      unfold setIt at R
      obtain ⟨⟨⟨x1, x2, x3, x4, x5, x6, x7, x8, x9, xd⟩, xa, xc, xq⟩, xz⟩ := x
      obtain ⟨⟨⟨y1, y2, y3, y4, y5, y6, y7, y8, y9, yd⟩, ya, yc, yq⟩, yz⟩ := y
      clear hk4 hk04 hB4 X2 HAT HY HB3 HK03 q2 hBl hkl
      go_wp2_with fail
      go_roundg (ln - 1 - (j + 1))
      case measure => have := hmm.out; omega
      case rel => exact ⟨j + 1, _, Lib.hid (Nat.le_refl _), by omega, by omega, by go_num, Lib.hid (by rw [List.length_set]; exact hpl.out), Lib.hid R.out.1, HSET, Lib.hid R.out.2⟩
    · have g1 : ¬ ((j : Nat) : Int) < ((ln : Nat) : Int) - 1 := by omega
      have hjl : ln = j + 1 := by omega
      have hw1 : IntKind.i64.wrap (((ln : Nat) : Int) - 1) = ((ln : Nat) : Int) - 1 := by rw [IntKind.wrap_i64]; omega
      have X1 := Lib.hid fun (w' : World) (hk : Kept (fun j => j = g) w w') => PL.out w' hk ((j : Nat) : Int) j (by omega) rfl
      have hset := hRl.out.set (k := j) (by rw [bk_len L hj1 (by have := HLN.out; omega)]; have := HLN.out; omega) z3
      have he := bk_end L (k := k) (by rw [HLN.out]; exact hk) z3
      rw [show L.length - 1 = j by have := HLN.out; omega] at he
      rw [he, hpl.out] at hset
      have hpp : (f + j) % pn < pn := Nat.mod_lt _ (by omega)
      obtain ⟨y, hy⟩ : ∃ y, P'[(f + j) % pn]? = some y := ⟨P'[(f + j) % pn]'(by rw [hpl.out]; exact hpp), List.getElem?_eq_getElem _⟩
      have HSET := Lib.hid hset.front
      have HY := Lib.hid hy
      clear hset he hy hRl
      generalize (f + j) % pn = p1 at *
      go_wp2_with fail
      with_reducible refine Calls.mono (X1.out _ hkl.out) ?_
      rintro e w3 ⟨rfl, hk3⟩
      have hk03 := hkl.out.trans (hk3.mono (fun _ _ f => f.elim))
      have hB3 := hk3.blk hBl.out (fun f => f)
      obtain ⟨n0, n1, n2, n3, n4, n5, n6, n7, n8, n9, n10, n11⟩ := it_cells hB3 HY.out
      have fz0 := hB3.frozen (p1 * 12)
      have fz1 := hB3.frozen (p1 * 12 + 1)
      have fz2 := hB3.frozen (p1 * 12 + 2)
      have fz3 := hB3.frozen (p1 * 12 + 3)
      have fz4 := hB3.frozen (p1 * 12 + 4)
      have fz5 := hB3.frozen (p1 * 12 + 5)
      have fz6 := hB3.frozen (p1 * 12 + 6)
      have fz7 := hB3.frozen (p1 * 12 + 7)
      have fz8 := hB3.frozen (p1 * 12 + 8)
      have fz9 := hB3.frozen (p1 * 12 + 9)
      have fz10 := hB3.frozen (p1 * 12 + 10)
      have fz11 := hB3.frozen (p1 * 12 + 11)
      have R : Hid (CloseP w g P f L k (.returned (.tuple #[])) (setIt w3 g p1 z3)) :=
        Lib.hid ⟨rfl, _, by rw [List.length_set, hpl.out, HPN.out], setIt_blk hB3 (by rw [hpl.out]; exact hpp) z3, HSET.out, hk03.trans (setIt_kept w3 g p1 z3)⟩
      unfold setIt at R
      clear hk3 hk03 hB3 X1 HSET HY hkl hBl
      go_wp2_with fail
      go_end0
      exact R.out
/-- What closing up from the front leaves. -/
def FrontP (w : World) (b o : Nat) (c : List Value) (T : TypeId) (g f : Nat) (P : List It) (L : List It) (k : Nat) (e : Ending) (w' : World) : Prop :=
  e = .returned (.tuple #[]) ∧ ∃ P', P'.length = P.length ∧ Blk w' g (flat iT P') iT.E ∧ Ring P' ((f + 1) % P.length) (L.eraseIdx k) ∧ Blk w' b (c.set (o + 1) (.int .i64 (((f + 1) % P.length : Nat) : Int))) T ∧ Kept (fun j => j = g ∨ j = b) w w'
set_option maxRecDepth 100000 in
set_option maxHeartbeats 8000000 in
theorem front_any {w : World} {b o : Nat} {c : List Value} {T : TypeId} {g f : Nat} {P L : List It} (hB : Blk w b c T) (c0 : c[o]? = some (.slice (some ⟨g, 0, none⟩) P.length P.length)) (c1 : c[o + 1]? = some (.int .i64 (f : Nat))) (hT : T ≠ iT.E)
    (hG : Blk w g (flat iT P) iT.E) (hp : Pow P.length) (hR : Ring P f L) {k : Nat} (hk : k < L.length) :
    Calls Try.prog 46 #[.pointer (some ⟨b, o, none⟩), .int .i64 (k : Nat)] w (FrontP w b o c T g f P L k) := by
  have hgb : g ≠ b := fun e => by subst e; exact hT (hB.inj hG).2
  have hn := hp.le
  have hle := hR.le
  have hf := hR.f0
  have PL := Lib.hid fun (w' : World) (hk : Kept (fun j => j = g) w w') (K : Int) (k : Nat) (hk2 : k < P.length) (hK : K = (k : Nat)) =>
    place_any (w := w') (b := b) (o := o) (g := g) (f := f) (n := P.length) (k := k) (K := K) ((hk.blk hB (fun e => hgb e.symm)).cell c0) ((hk.blk hB (fun e => hgb e.symm)).cell c1) hp hf hk2 hK
  have Q := Lib.hid fun (w' : World) (hk : Kept (fun j => j = g) w w') => hk.blk hB (fun e => hgb e.symm)
  have C0 := Lib.hid c0
  have C1 := Lib.hid c1
  have hz := run_z
  have HK0 : Hid (Kept (fun j => j = g) w w) := Lib.hid (Kept.refl _ w)
  have HG := Lib.hid hG
  have HR := Lib.hid hR
  clear hB c0 c1 hG hp hR
  obtain ⟨pn, hpn⟩ : ∃ pn, P.length = pn := ⟨_, rfl⟩
  have HPN := Lib.hid hpn
  rw [hpn] at hn hle hf PL C0
  clear hpn
  obtain ⟨ln, hln⟩ : ∃ ln, L.length = ln := ⟨_, rfl⟩
  have HLN := Lib.hid hln
  rw [hln] at hle hk
  clear hln
  go_enter Try.func46, Try.ntmps46
  go_wp2_with fail
  go_loopg [1] k (fun mm s1 wr => ∃ (j : Nat) (P' : List It), Hid (j ≤ mm) ∧ j ≤ k ∧ s1 = .int .i64 ((j : Nat) : Int) ∧ Hid (P'.length = pn) ∧ Hid (Blk wr g (flat iT P') iT.E) ∧ Hid (Ring P' f (fr L k j)) ∧ Hid (Kept (fun j => j = g) w wr))
  case atStart => exact ⟨k, P, Lib.hid (Nat.le_refl _), Nat.le_refl _, rfl, HPN, HG, by rw [fr_self L (by rw [HLN.out]; exact hk)]; exact HR, HK0⟩
  case round =>
    obtain ⟨j, P', hmm, hj1, rfl, hpl, hBl, hRl, hkl⟩ := hrel
    rcases Nat.eq_zero_or_pos j with rfl | hlt
    · have X1 := Lib.hid fun (w' : World) (hk : Kept (fun j => j = g) w w') => PL.out w' hk 0 0 (by omega) rfl
      have hset := hRl.out.set (k := 0) (by rw [fr_len L (Nat.zero_le _) (by rw [HLN.out]; exact hk)]; have := HLN.out; omega) z3
      have he := fr_end L (k := k) (by rw [HLN.out]; exact hk) z3
      rw [he, hpl.out] at hset
      have hpp : (f + 0) % pn < pn := Nat.mod_lt _ (by omega)
      obtain ⟨y, hy⟩ : ∃ y, P'[(f + 0) % pn]? = some y := ⟨P'[(f + 0) % pn]'(by rw [hpl.out]; exact hpp), List.getElem?_eq_getElem _⟩
      have htl := hset.tail
      rw [List.length_set, hpl.out] at htl
      have HSET := Lib.hid htl
      have HY := Lib.hid hy
      have hrem : (((f : Nat) : Int) + 1).tmod (pn : Int) = (((f + 1) % pn : Nat) : Int) := by
        rw [show ((f : Int) + 1) = ((f + 1 : Nat) : Int) by omega]; exact (Int.ofNat_tmod _ _).symm
      have hfl : (f + 1) % pn < pn := Nat.mod_lt _ (by omega)
      have HRM : Hid (((f + 1) % P.length) = ((f + 1) % pn)) := Lib.hid (by rw [HPN.out])
      clear hset he hy hRl htl
      generalize (f + 0) % pn = p1 at *
      generalize (f + 1) % pn = f2 at *
      have hw1 : IntKind.i64.wrap (((f : Nat) : Int) + 1) = ((f : Nat) : Int) + 1 := by rw [IntKind.wrap_i64]; omega
      have hne : ¬ (pn : Int) = 0 := by omega
      have hne2 : ((pn : Int) == 0) = false := by rw [beq_eq_false_iff_ne]; exact hne
      go_wp2_with fail
      with_reducible refine Calls.mono (X1.out _ hkl.out) ?_
      rintro e w3 ⟨rfl, hk3⟩
      have hk03 := hkl.out.trans (hk3.mono (fun _ _ f => f.elim))
      have hB3 := hk3.blk hBl.out (fun f => f)
      obtain ⟨n0, n1, n2, n3, n4, n5, n6, n7, n8, n9, n10, n11⟩ := it_cells hB3 HY.out
      have fz0 := hB3.frozen (p1 * 12)
      have fz1 := hB3.frozen (p1 * 12 + 1)
      have fz2 := hB3.frozen (p1 * 12 + 2)
      have fz3 := hB3.frozen (p1 * 12 + 3)
      have fz4 := hB3.frozen (p1 * 12 + 4)
      have fz5 := hB3.frozen (p1 * 12 + 5)
      have fz6 := hB3.frozen (p1 * 12 + 6)
      have fz7 := hB3.frozen (p1 * 12 + 7)
      have fz8 := hB3.frozen (p1 * 12 + 8)
      have fz9 := hB3.frozen (p1 * 12 + 9)
      have fz10 := hB3.frozen (p1 * 12 + 10)
      have fz11 := hB3.frozen (p1 * 12 + 11)
      have hk04 := hk03.trans (setIt_kept w3 g p1 z3)
      have hB4 := setIt_blk hB3 (p := p1) (by rw [hpl.out]; exact hpp) z3
      have HK4 := Lib.hid hk04
      have HB4 := Lib.hid hB4
      unfold setIt at HK4 HB4
      clear hk3 hk03 hB3 X1 HY hkl hBl hk04 hB4
      go_wp2_with fail
      generalize hw4 : (((((((((((w3.setCell ⟨g, p1 * 12, none⟩ (.int .i64 0)).setCell ⟨g, p1 * 12 + 1, none⟩ (.int .i64 0)).setCell ⟨g, p1 * 12 + 2, none⟩ (.int .i64 0)).setCell ⟨g, p1 * 12 + 3, none⟩ (.int .i64 0)).setCell ⟨g, p1 * 12 + 4, none⟩ (.int .u64 0)).setCell ⟨g, p1 * 12 + 5, none⟩ (.int .i64 0)).setCell ⟨g, p1 * 12 + 6, none⟩ (.int .i64 0)).setCell ⟨g, p1 * 12 + 7, none⟩ (.int .i64 0)).setCell ⟨g, p1 * 12 + 8, none⟩ (.int .i64 0)).setCell ⟨g, p1 * 12 + 9, none⟩ (.slice none 0 0)).setCell ⟨g, p1 * 12 + 10, none⟩ (.int .i64 0)).setCell ⟨g, p1 * 12 + 11, none⟩ (.int .i64 0) = w4
      replace HK4 : Hid (Kept (fun j => j = g) w w4) := by rw [← hw4]; exact HK4
      replace HB4 : Hid (Blk w4 g (flat iT (P'.set p1 z3)) iT.E) := by rw [← hw4]; exact HB4
      clear hw4 n0 n1 n2 n3 n4 n5 n6 n7 n8 n9 n10 n11 fz0 fz1 fz2 fz3 fz4 fz5 fz6 fz7 fz8 fz9 fz10 fz11
      have hBb := Q.out w4 HK4.out
      have t0 := hBb.cell C0.out
      have t1 := hBb.cell C1.out
      have t2 := hBb.frozen (o + 1)
      have R : Hid (∀ w5 : World, Kept (fun _ => False) w4 w5 → FrontP w b o c T g f P L k (.returned (.tuple #[])) (w5.setCell ⟨b, o + 1, none⟩ (.int .i64 (f2 : Nat)))) := by
        refine Lib.hid fun w5 k5 => ?_
        have hb := (k5.blk hBb (fun f => f)).set (o + 1) (.int .i64 (f2 : Nat))
        refine ⟨rfl, _, by rw [List.length_set, hpl.out, HPN.out], (Kept.one w5 b (o + 1) _).blk (k5.blk HB4.out (fun f => f)) hgb, by rw [HRM.out]; exact HSET.out, by rw [HRM.out]; exact hb, ?_⟩
        exact ((HK4.out.mono (fun _ _ e => Or.inl e)).trans (k5.mono (fun _ _ f => f.elim))).trans ((Kept.one w5 b (o + 1) _).mono (fun _ _ e => Or.inr e))
      clear hBb
      go_region_with (fail)
      all_goals
        go_end0
        exact R.out w4.drew (Kept.refl _ w4).drew
    · obtain ⟨i, rfl⟩ : ∃ i, j = i + 1 := ⟨j - 1, by omega⟩
      obtain ⟨x, hx⟩ : ∃ x, L[i]? = some x := ⟨L[i]'(by have := HLN.out; omega), List.getElem?_eq_getElem _⟩
      have hkl2 : k < L.length := by rw [HLN.out]; exact hk
      have hst := fr_step L hj1 hkl2 hx
      have hbx : (fr L k (i + 1))[i]? = some x := by rw [fr_at L hj1 hkl2, if_pos (by omega), hx]
      have hat := hRl.out.at' i x hbx
      have hset := hRl.out.set (k := i + 1) (by rw [fr_len L hj1 hkl2]; omega) x
      rw [hst] at hset
      rw [hpl.out] at hat hset
      have X1 := Lib.hid fun (w' : World) (hk : Kept (fun j => j = g) w w') => PL.out w' hk (((i + 1 : Nat)) : Int) (i + 1) (by omega) rfl
      have X2 := Lib.hid fun (w' : World) (hk : Kept (fun j => j = g) w w') => PL.out w' hk ((i : Nat) : Int) i (by omega) rfl
      have hpp : (f + (i + 1)) % pn < pn := Nat.mod_lt _ (by omega)
      obtain ⟨y, hy⟩ : ∃ y, P'[(f + (i + 1)) % pn]? = some y := ⟨P'[(f + (i + 1)) % pn]'(by rw [hpl.out]; exact hpp), List.getElem?_eq_getElem _⟩
      have HAT := Lib.hid hat
      have HSET := Lib.hid hset
      have HY := Lib.hid hy
      have hw1 : IntKind.i64.wrap (((i + 1 : Nat) : Int) - 1) = ((i : Nat) : Int) := by rw [IntKind.wrap_i64]; omega
      have g1 : (0 : Int) < ((i + 1 : Nat) : Int) := by omega
      have hib : ((i + 1 : Nat) : Int) ≤ 1073741824 := by omega
      have HII : Hid (((i + 1 : Nat) : Int) - 1 = ((i : Nat) : Int)) := Lib.hid (by omega)
      clear hx hst hbx hat hset hy hRl
      generalize (f + (i + 1)) % pn = p1 at *
      generalize (f + i) % pn = p2 at *
      obtain ⟨q, hq⟩ : ∃ q : Int, ((i + 1 : Nat) : Int) = q := ⟨_, rfl⟩
      rw [hq] at X1 hw1 g1 hib HII ⊢
      have HQ := Lib.hid hq
      clear hq
      go_wp2_with fail
      with_reducible refine Calls.mono (X1.out _ hkl.out) ?_
      rintro e w3 ⟨rfl, hk3⟩
      have hk03 := hkl.out.trans (hk3.mono (fun _ _ f => f.elim))
      have hB3 := hk3.blk hBl.out (fun f => f)
      have HK03 := Lib.hid hk03
      have HB3 := Lib.hid hB3
      clear hk3 hk03 hB3 X1
      go_wp2_with fail
      with_reducible refine Calls.mono (X2.out _ HK03.out) ?_
      rintro e w4 ⟨rfl, hk4⟩
      have hk04 := HK03.out.trans (hk4.mono (fun _ _ f => f.elim))
      have hB4 := hk4.blk HB3.out (fun f => f)
      obtain ⟨d0, d1, d2, d3, d4, d5, d6, d7, d8, d9, d10, d11⟩ := it_cells hB4 HAT.out
      obtain ⟨n0, n1, n2, n3, n4, n5, n6, n7, n8, n9, n10, n11⟩ := it_cells hB4 HY.out
      have fz0 := hB4.frozen (p1 * 12)
      have fz1 := hB4.frozen (p1 * 12 + 1)
      have fz2 := hB4.frozen (p1 * 12 + 2)
      have fz3 := hB4.frozen (p1 * 12 + 3)
      have fz4 := hB4.frozen (p1 * 12 + 4)
      have fz5 := hB4.frozen (p1 * 12 + 5)
      have fz6 := hB4.frozen (p1 * 12 + 6)
      have fz7 := hB4.frozen (p1 * 12 + 7)
      have fz8 := hB4.frozen (p1 * 12 + 8)
      have fz9 := hB4.frozen (p1 * 12 + 9)
      have fz10 := hB4.frozen (p1 * 12 + 10)
      have fz11 := hB4.frozen (p1 * 12 + 11)
      have R : Hid (Blk (setIt w4 g p1 x) g (flat iT (P'.set p1 x)) iT.E ∧ Kept (fun j => j = g) w (setIt w4 g p1 x)) :=
        Lib.hid ⟨setIt_blk hB4 (by rw [hpl.out]; exact hpp) x, hk04.trans (setIt_kept w4 g p1 x)⟩
      unfold setIt at R
      obtain ⟨⟨⟨x1, x2, x3, x4, x5, x6, x7, x8, x9, xd⟩, xa, xc, xq⟩, xz⟩ := x
      obtain ⟨⟨⟨y1, y2, y3, y4, y5, y6, y7, y8, y9, yd⟩, ya, yc, yq⟩, yz⟩ := y
      clear hk4 hk04 hB4 X2 HAT HY HB3 HK03 hBl hkl
      go_wp2_with fail
      go_roundg i
      case measure => have := hmm.out; omega
      case rel => exact ⟨i, _, Lib.hid (Nat.le_refl _), by omega, by have := HII.out; go_num, Lib.hid (by rw [List.length_set]; exact hpl.out), Lib.hid R.out.1, HSET, Lib.hid R.out.2⟩
end Go.Proofs.Ytiffnlcpemfmoaa.Qu
