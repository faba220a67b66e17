/- IvalsOrder (mizzenlaw5): for every int, every slice of ranges and every int the law returns true and its arguments read as before. Conditions: none. -/
import Derived.Test.YtagggadjmnclfaaRows
import Derived.Test.YtagggadjmnclfaaEnd
import Derived.Test.YtagggadjmnclfaaInts
import Derived.WalkKit
import Derived.ProofKit
import Derived.OpenShut
import Derived.Test.YtagggadjmnclfaaIvAl
import Derived.StillTailTactics
set_option linter.unusedVariables false
namespace Go.Proofs.Ytagggadjmnclfaa.ivalsOrder
open Go.ChangeShapes Go.WideShapes Go.ChangeAt Go.RowKit Go.Proofs.Ytagggadjmnclfaa.Hp Go.Proofs.Ytagggadjmnclfaa.End
open Opn IvM IvR IvN Iv
theorem own : ownKnob Try.prog.godebug = none := by kernel_rfl
set_option maxRecDepth 100000 in
theorem early (n k : Int) (zs : List (List Int)) (s : Option Addr) (cap : Nat) (w : World) (h : ¬ (0 ≤ n ∧ n ≤ 100000 ∧ zs.length ≤ 40)) :
    Calls Try.prog 4 #[.int .i64 n, .slice s zs.length cap, .int .i64 k] w fun e w' => e = .returned (.bool true) ∧ Old w w' := by
  have HC := Lib.hid (awake_any w)
  have hc : n < 0 ∨ (¬ n < 0 ∧ 100000 < n) ∨ (¬ n < 0 ∧ ¬ 100000 < n ∧ 40 < zs.length) := by omega
  clear h
  rcases hc with h1 | ⟨h1, h2⟩ | ⟨h1, h2, h3⟩
  all_goals
    go_enter Try.func4, Try.ntmps4
    go_wp2_with (go_at_call 6; refine HC.out.mono ?_; rintro e w' ⟨rfl, ho⟩)
    go_ret
    exact ⟨rfl, ho⟩
/-- Two sets beside each other. -/
def Pair (W : World) (b c : Nat) (n : Int) (l m : List Rg) (w : World) : Prop := ∃ v u, SetV w W.heap.size b v n l ∧ SetV w W.heap.size c u n m ∧ b ≠ c ∧ v.ownBlock ≠ some c ∧ u.ownBlock ≠ some b ∧ (∀ g, v.ownBlock = some g → u.ownBlock ≠ some g) ∧ Old W w
theorem Pair.swap {W : World} {b c : Nat} {n : Int} {l m : List Rg} {w : World} (h : Pair W b c n l m w) : Pair W c b n m l w := by
  obtain ⟨v, u, h1, h2, h3, h4, h5, h6, h7⟩ := h
  exact ⟨u, v, h2, h1, fun e => h3 e.symm, h5, h4, fun g hu hv => h6 g hv hu, h7⟩
theorem Pair.old {W : World} {b c : Nat} {n : Int} {l m : List Rg} {w w' : World} (h : Pair W b c n l m w) (k : Kept (fun _ => False) w w') : Pair W b c n l m w' := by
  obtain ⟨v, u, h1, h2, h3, h4, h5, h6, h7⟩ := h
  exact ⟨v, u, h1.old k, h2.old k, h3, h4, h5, h6, h7.trans k⟩
theorem Pair.wasOld {W : World} {b c : Nat} {n : Int} {l m : List Rg} {w : World} (h : Pair W b c n l m w) : Old W w := by
  obtain ⟨v, u, h1, h2, h3, h4, h5, h6, h7⟩ := h
  exact h7
theorem pair_add {W : World} {b c : Nat} {n : Int} {l m : List Rg} {w : World} (h : Pair W b c n l m w) (f t : Int) (hl : l.length < 900000) :
    Calls Try.prog 8 #[.pointer (some ⟨b, 0, none⟩), .int .i64 f, .int .i64 t] w fun e w' => ∃ L k, e = .returned (.tuple #[.int .i64 (size L - size l), .int .i64 k]) ∧ Pair W b c n L m w' ∧ L.length ≤ l.length + 1 ∧
      (∀ x, IvM.Has L x ↔ IvM.Has l x ∨ (May n f t ∧ f ≤ x ∧ x < t)) := by
  obtain ⟨v, u, h1, h2, h3, h4, h5, h6, h7⟩ := h
  refine (add_any h1 h7.size f t hl).mono ?_
  rintro e w' ⟨v', L, k, rfl, hA, hL, hx⟩
  have hb := h1.blk.lt
  have hcl := h2.blk.lt
  refine ⟨L, k, rfl, ⟨v', u, hA.set, h2.kept hA.kept (fun e => ?_) (fun g hg e => ?_), h3, fun e => ?_, h5, fun g hv hu => ?_, h7.trans' hA.kept (fun i hi e => ?_)⟩, hL, hx⟩
  · rcases e with e | e
    · exact h3 e.symm
    · exact h4 e
  · rcases e with e | e
    · exact h5 (by rw [hg, e])
    · exact h6 g e hg
  · rcases hA.lies c e with e' | e'
    · exact h4 e'
    · omega
  · rcases hA.lies g hv with e' | e'
    · exact h6 g e' hu
    · have := (h2.row.lt g hu).2; omega
  · rcases e with e | e
    · have := h1.low; omega
    · have := (h1.row.lt i e).1; omega
theorem pair_good {W : World} {b c : Nat} {n : Int} {l m : List Rg} {w : World} (h : Pair W b c n l m w) : IvM.Good n l ∧ IvM.Good n m := by
  obtain ⟨v, u, h1, h2, _⟩ := h
  exact ⟨h1.good, h2.good⟩
/-- What is there already. -/
theorem pair_again {W : World} {b c : Nat} {n : Int} {l m : List Rg} {w : World} (h : Pair W b c n l m w) (f t : Int) (hl : l.length < 900000) (hin : ∀ x, May n f t → f ≤ x → x < t → IvM.Has l x) :
    Calls Try.prog 8 #[.pointer (some ⟨b, 0, none⟩), .int .i64 f, .int .i64 t] w fun e w' => ∃ k, e = .returned (.tuple #[.int .i64 0, .int .i64 k]) ∧ Pair W b c n l m w' := by
  refine (pair_add h f t hl).mono ?_
  rintro e w' ⟨L, k, rfl, hP, hL, hx⟩
  obtain rfl : L = l := unique (pair_good hP).1 (pair_good h).1 (fun x => (hx x).trans ⟨fun h => h.elim id (fun ⟨a, b, c⟩ => hin x a b c), Or.inl⟩)
  exact ⟨k, by rw [Int.sub_self], hP⟩
/-- The i-th range has this byte. -/
def Cv (n : Int) (zs : List (List Int)) (i : Nat) (x : Int) : Prop := May n ((zs.getD i []).getD 0 0) ((zs.getD i []).getD 1 0) ∧ (zs.getD i []).getD 0 0 ≤ x ∧ x < (zs.getD i []).getD 1 0
theorem upto_succ {P : Nat → Prop} {i : Nat} : (∃ j, j < i + 1 ∧ P j) ↔ (∃ j, j < i ∧ P j) ∨ P i := by
  constructor
  · rintro ⟨j, h1, h2⟩
    rcases Nat.lt_or_ge j i with h | h
    · exact Or.inl ⟨j, h, h2⟩
    · obtain rfl : j = i := by omega
      exact Or.inr h2
  · rintro (⟨j, h1, h2⟩ | h)
    · exact ⟨j, by omega, h2⟩
    · exact ⟨i, by omega, h⟩
theorem rot_all {P : Nat → Prop} {N c : Nat} (hc : c < N) : (∃ j, j < N ∧ P ((j + c) % N)) ↔ ∃ j, j < N ∧ P j := by
  constructor
  · rintro ⟨j, h1, h2⟩
    exact ⟨(j + c) % N, Nat.mod_lt _ (by omega), h2⟩
  · rintro ⟨j, h1, h2⟩
    rcases Nat.lt_or_ge j c with h | h
    · refine ⟨j + N - c, by omega, ?_⟩
      rw [show j + N - c + c = j + N by omega, Nat.add_mod_right, Nat.mod_eq_of_lt h1]
      exact h2
    · refine ⟨j - c, by omega, ?_⟩
      rw [show j - c + c = j by omega, Nat.mod_eq_of_lt h1]
      exact h2
set_option maxRecDepth 100000 in
set_option maxHeartbeats 16000000 in
theorem late (n k : Int) (zs : List (List Int)) (s : Option Addr) (cap : Nat) (w : World) (h0 : 0 ≤ n) (h1 : n ≤ 100000) (hz : zs.length ≤ 40) (hk0 : -9223372036854775808 ≤ k) (hk1 : k ≤ 9223372036854775807) (hZ : Structs w s cap 2 zs) :
    Calls Try.prog 4 #[.int .i64 n, .slice s zs.length cap, .int .i64 k] w fun e w' => e = .returned (.bool true) ∧ Old w w' := by
  have HZ := Lib.hid hZ
  clear hZ
  have N1 := Lib.hid (new_yes h0 (show n ≤ 1073741824 by omega) w)
  have N2 := Lib.hid fun w => new_yes h0 (show n ≤ 1073741824 by omega) w
  have g1 : ¬ n < 0 := by omega
  have g2 : ¬ 100000 < n := by omega
  have g3 : ¬ 40 < zs.length := by omega
  go_enter Try.func4, Try.ntmps4
  go_wp2_with fail
  refine N1.out.mono ?_
  rintro e w1 ⟨b, rfl, hS1, k1⟩
  clear N1
  go_wp2_with fail
  refine (N2.out w1).mono ?_
  rintro e w2 ⟨c, rfl, hS2, k2⟩
  clear N2
  have hP0 : Hid (Pair w b c n [] [] w2) := by
    have e1 := hS1.blk.lt
    have e2 := hS2.low
    have e3 := k1.size
    exact Lib.hid ⟨.slice none 0 0, .slice none 0 0, hS1.old k2, ⟨hS2.blk, Row.none _ _, by simp [Value.ownBlock], by omega, hS2.good, hS2.top, hS2.few⟩, by omega, by simp [Value.ownBlock], by simp [Value.ownBlock], by simp [Value.ownBlock], k1.trans k2⟩
  clear hS1 hS2 k1 k2
  go_wp2_with fail
  go_loopg [11] zs.length (fun m s11 wr => ∃ (i : Nat) (l1 l2 : List Rg), Hid (m = zs.length - i) ∧ i ≤ zs.length ∧ s11 = .int .i64 ((i : Nat) : Int) ∧ Hid (Pair w b c n l1 l2 wr) ∧ l1.length ≤ i ∧ l2.length ≤ i ∧
    Hid (∀ x, IvM.Has l1 x ↔ ∃ j, j < i ∧ Cv n zs j x) ∧ Hid (∀ x, IvM.Has l2 x ↔ ∃ j, j < i ∧ Cv n zs ((j + (k % (zs.length : Int)).toNat) % zs.length) x))
  case atStart => exact ⟨0, [], [], rfl, by omega, rfl, hP0, by simp, by simp, Lib.hid (fun x => by simp [IvM.Has]), Lib.hid (fun x => by simp [IvM.Has])⟩
  case round =>
    obtain ⟨i, l1, l2, hm, hi, rfl, hP, hl1, hl2, hx1, hx2⟩ := hrel
    clear hP0
    by_cases hlt : i < zs.length
    · obtain ⟨g, off, rfl, hg, c0⟩ := HZ.out.cell hP.out.wasOld hlt (show 0 < 2 by decide)
      obtain ⟨_, _, eg, _, c1⟩ := HZ.out.cell hP.out.wasOld hlt (show 1 < 2 by decide)
      cases eg
      obtain ⟨f, hf⟩ : ∃ f, (zs.getD i []).getD 0 0 = f := ⟨_, rfl⟩
      obtain ⟨t, ht⟩ : ∃ t, (zs.getD i []).getD 1 0 = t := ⟨_, rfl⟩
      rw [hf, Nat.add_zero] at c0
      rw [ht] at c1
      have hcv : ∀ x, Cv n zs i x ↔ (May n f t ∧ f ≤ x ∧ x < t) := fun x => by unfold Cv; rw [hf, ht]
      have HCV := Lib.hid hcv
      have A := Lib.hid (pair_add (hP.out.old (Kept.refl _ wr).drew) f t (by omega))
      have hlt2 : (i : Int) < (zs.length : Int) := by omega
      -- the other one's
      have hN : (0 : Int) < (zs.length : Int) := by omega
      obtain ⟨q, hq⟩ : ∃ q : Nat, (k % (zs.length : Int)).toNat = q := ⟨_, rfl⟩
      have hq0 := Int.emod_nonneg k (show (zs.length : Int) ≠ 0 by omega)
      have hq1 := Int.emod_lt_of_pos k hN
      have hqe : k % (zs.length : Int) = (q : Int) := by omega
      have hqN : q < zs.length := by omega
      have R1 : Hid (∀ w, Calls Try.prog 13 #[.int .i64 k, .int .i64 (zs.length : Int)] w fun e w' => e = .returned (.int .i64 (q : Int)) ∧ w = w') := Lib.hid fun w => by
        have := round_pos hN (by omega) hk0 hk1 w
        rw [hqe] at this
        exact this
      obtain ⟨r, hr⟩ : ∃ r : Nat, (i + q) % zs.length = r := ⟨_, rfl⟩
      have hrN : r < zs.length := by rw [← hr]; exact Nat.mod_lt _ (by omega)
      have R2 : Hid (∀ w, Calls Try.prog 13 #[.int .i64 ((i : Int) + (q : Int)), .int .i64 (zs.length : Int)] w fun e w' => e = .returned (.int .i64 (r : Int)) ∧ w = w') := Lib.hid fun w => by
        have := round_pos (k := (i : Int) + (q : Int)) hN (by omega) (by omega) (by omega) w
        rw [show ((i : Int) + (q : Int)) % (zs.length : Int) = (r : Int) by rw [← hr]; simp] at this
        exact this
      rw [hq] at hx2
      have HQ := Lib.hid hq
      have HR := Lib.hid hr
      have hr2 : (r : Int) < (zs.length : Int) := by omega
      clear hq hq0 hq1 hqe hr hcv hf ht hP
      go_wp2_with fail
      go_still_tail 11, (by kernel_rfl)
      change wpList _ _ _ _ _ wr.drew
      generalize wr.drew = w2 at *
      clear c0 c1
      go_wp2_with fail
      refine A.out.mono ?_
      rintro e w3 ⟨L1, k3, rfl, hP3, hL1, hX1⟩
      obtain ⟨_, _, eg, _, c0⟩ := HZ.out.cell hP3.wasOld hrN (show 0 < 2 by decide)
      cases eg
      obtain ⟨_, _, eg, _, c1⟩ := HZ.out.cell hP3.wasOld hrN (show 1 < 2 by decide)
      cases eg
      rw [Nat.add_zero] at c0
      have hcv : ∀ x, Cv n zs r x ↔ (May n ((zs.getD r []).getD 0 0) ((zs.getD r []).getD 1 0) ∧ (zs.getD r []).getD 0 0 ≤ x ∧ x < (zs.getD r []).getD 1 0) := fun x => Iff.rfl
      generalize (zs.getD r []).getD 0 0 = f2 at *
      generalize (zs.getD r []).getD 1 0 = t2 at *
      have HCV2 := Lib.hid hcv
      have HX1 := Lib.hid hX1
      have HP3 := Lib.hid hP3
      clear hcv hX1 hP3 A
      go_upto_region 12 with (first | (go_at_call 13; with_reducible refine Calls.mono (R1.out _) ?_; rintro e w' ⟨rfl, rfl⟩) | (go_at_call 13; with_reducible refine Calls.mono (R2.out _) ?_; rintro e w' ⟨rfl, rfl⟩))
      have hB := Blk.new w3 [.int .i64 f2, .int .i64 t2] 31
      have hP4 : Pair w b c n L1 l2 (w3.alloc (.cells #[.int .i64 f2, .int .i64 t2] 31)) := HP3.out.old ((Kept.refl _ w3).alloc _)
      have hw4 : w3.alloc (.cells [Value.int .i64 f2, .int .i64 t2].toArray 31) = w3.alloc (.cells #[.int .i64 f2, .int .i64 t2] 31) := rfl
      rw [hw4] at hB
      clear hw4 c0 c1 HP3
      generalize w3.alloc (.cells #[.int .i64 f2, .int .i64 t2] 31) = w4 at *
      have d0 := hB.cell (o := 0) rfl
      have d1 := hB.cell (o := 1) rfl
      have A2 := Lib.hid (pair_add hP4.swap f2 t2 (by omega))
      clear hP4 hB
      go_wp2_with fail
      refine A2.out.mono ?_
      rintro e w5 ⟨L2, k5, rfl, hP5, hL2, hX2⟩
      have HP5 := Lib.hid hP5.swap
      have HX2 := Lib.hid hX2
      clear hP5 hX2 A2 d0 d1
      go_wp2_with fail
      go_roundg (zs.length - (i + 1))
      case measure => have := hm.out; omega
      case rel =>
        refine ⟨i + 1, L1, L2, rfl, by omega, by simp, HP5, by omega, by omega, Lib.hid fun x => ?_, Lib.hid fun x => ?_⟩
        · rw [HX1.out x, hx1.out x, upto_succ, HCV.out x]
        · rw [HX2.out x, hx2.out x, HQ.out, upto_succ (P := fun j => Cv n zs ((j + q) % zs.length) x), HR.out, HCV2.out x]
    · obtain rfl : i = zs.length := by omega
      clear hm
      go_wp2_with fail
      obtain ⟨wo, hwo⟩ : ∃ wo : World, wo = wr := ⟨_, rfl⟩
      subst hwo
      go_loopg [13] zs.length (fun m s13 wx => ∃ (i : Nat), Hid (m = zs.length - i) ∧ i ≤ zs.length ∧ s13 = .int .i64 ((i : Nat) : Int) ∧ Hid (Pair w b c n l1 l2 wx))
      case atStart => exact ⟨0, rfl, by omega, rfl, hP⟩
      case round =>
        obtain ⟨i, hm, hi, rfl, hPi⟩ := hrel
        clear hP
        by_cases hlt : i < zs.length
        · obtain ⟨g, off, rfl, hg, c0⟩ := HZ.out.cell hPi.out.wasOld hlt (show 0 < 2 by decide)
          obtain ⟨_, _, eg, _, c1⟩ := HZ.out.cell hPi.out.wasOld hlt (show 1 < 2 by decide)
          cases eg
          obtain ⟨f, hf⟩ : ∃ f, (zs.getD i []).getD 0 0 = f := ⟨_, rfl⟩
          obtain ⟨t, ht⟩ : ∃ t, (zs.getD i []).getD 1 0 = t := ⟨_, rfl⟩
          rw [hf, Nat.add_zero] at c0
          rw [ht] at c1
          have A := Lib.hid fun (w' : World) (h : Pair w b c n l1 l2 w') => pair_again h f t (by omega) (fun x h1 h2 h3 => (hx1.out x).2 ⟨i, hlt, by unfold Cv; rw [hf, ht]; exact ⟨h1, h2, h3⟩⟩)
          have CK := Lib.hid fun (w' : World) (h : Pair w b c n l1 l2 w') => by
            obtain ⟨_, _, eg, _, d0⟩ := HZ.out.cell h.wasOld hlt (show 0 < 2 by decide)
            cases eg
            obtain ⟨_, _, eg, _, d1⟩ := HZ.out.cell h.wasOld hlt (show 1 < 2 by decide)
            cases eg
            rw [hf, Nat.add_zero] at d0
            rw [ht] at d1
            exact And.intro d0 d1
          have hlt2 : (i : Int) < (zs.length : Int) := by omega
          have hPw := hPi.out
          clear hf ht hPi
          go_wp2_with fail
          go_region_held3 (fun w' => w'.cell? ⟨g, off + i * 2, none⟩ = some (.int .i64 f) ∧ w'.cell? ⟨g, off + i * 2 + 1, none⟩ = some (.int .i64 t)) (first | exact ⟨c0, c1⟩ | exact CK.out _ (Pair.old hPw ((Kept.refl _ _).drew)) | exact CK.out _ hP3)
            ((go_at_call 8; refine Calls.mono (A.out _ (Pair.old hPw ((Kept.refl _ _).drew))) ?_; rintro e w3 ⟨k3, rfl, hP3⟩))
          have HP3 := Lib.hid hP3
          clear hP3 A CK c0 c1 hPw
          go_wp2_with fail
          go_roundg (zs.length - (i + 1))
          case measure => have := hm.out; omega
          case rel => exact ⟨i + 1, rfl, by omega, by simp, HP3⟩
        · have hll : l1 = l2 := by
            refine unique (pair_good hPi.out).1 (pair_good hPi.out).2 (fun x => (hx1.out x).trans (Iff.trans ?_ (hx2.out x).symm))
            rcases Nat.eq_zero_or_pos zs.length with hz0 | hz0
            · rw [hz0]; simp
            · have hq := Int.emod_lt_of_pos k (show (0 : Int) < (zs.length : Int) by omega)
              have hq0 := Int.emod_nonneg k (show (zs.length : Int) ≠ 0 by omega)
              exact (rot_all (P := fun j => Cv n zs j x) (by omega)).symm
          subst hll
          obtain ⟨v, u, hS1, hS2, _, _, _, _, hO⟩ := id hPi.out
          have RA := Lib.hid (ranges_any hS1)
          have HS2 := Lib.hid hS2
          have HS1 := Lib.hid hS1
          have HO := Lib.hid hO
          have hlt2 : ¬ (i : Int) < (zs.length : Int) := by omega
          clear hS1 hS2 hO hPi hx1 hx2
          go_wp2_with fail
          refine RA.out.mono ?_
          rintro e w2 ⟨va, rfl, hRa, hk2⟩
          have RB := Lib.hid (ranges_any (HS2.out.old hk2))
          obtain ⟨sa, ca, rfl⟩ := form2 hRa
          clear RA
          go_wp2_with fail
          refine RB.out.mono ?_
          rintro e w3 ⟨vb, rfl, hRb, hk3⟩
          obtain ⟨sb, cb, rfl⟩ := form2 hRb
          obtain ⟨_, pa0, _, _⟩ := row_part hRa
          obtain ⟨_, pb, _, _⟩ := row_part hRb
          have AL := Lib.hid (alike_same (c := ca) (c2 := cb) (Part.kept pa0 hk3) pb (by omega))
          clear RB pa0 pb hRa hRb
          go_wp2_with fail
          with_reducible refine Calls.mono AL.out ?_
          rintro e w4 ⟨rfl, hk4⟩
          have hk := (hk2.trans hk3).trans hk4
          have S1 := Lib.hid (sum_any (HS1.out.old hk))
          have S2 := Lib.hid (sum_any (HS2.out.old hk))
          have HC := Lib.hid (awake_any w4)
          have HO2 := Lib.hid (HO.out.trans hk)
          clear AL hk hk2 hk3 hk4 HS1 HS2 HO
          generalize size l1 = z at *
          go_wp2_with fail
          with_reducible refine Calls.mono S1.out ?_
          rintro e w5 ⟨rfl, rfl⟩
          go_wp2_with fail
          with_reducible refine Calls.mono S2.out ?_
          rintro e w6 ⟨rfl, rfl⟩
          go_wp2_with fail
          with_reducible refine Calls.mono HC.out ?_
          rintro e w7 ⟨rfl, ho⟩
          go_wp2_with fail
          go_ret
          exact ⟨rfl, HO2.out.trans ho⟩
theorem walk (n : Int) (zs : List (List Int)) (s : Option Addr) (cap : Nat) (k : Int) (w : World) (w0 : (Lit.int .i64 n).wf = true) (hZ : Structs w s cap 2 zs) (w2 : (Lit.int .i64 k).wf = true) :
    Calls Try.prog 4 #[.int .i64 n, .slice s zs.length cap, .int .i64 k] w fun e w' => e = .returned (.bool true) ∧ Old w w' := by
  by_cases h : 0 ≤ n ∧ n ≤ 100000 ∧ zs.length ≤ 40
  · exact late n k zs s cap w h.1 h.2.1 h.2.2 (bounds_i64 w2).1 (bounds_i64 w2).2 hZ
  · exact early n k zs s cap w h
set_option maxRecDepth 100000 in
set_option maxHeartbeats 1000000 in
theorem lifted (os : Os) (started : os.Started) (H : Type) (enc : TypeId × Value → H) :
    ReturnsInHanded {} Try.checked os 4 .any (Rows.ivalsOrderSpec.pre6 enc Try.prog Try.f4 Rows.ivalsOrderRow.domain false) (Rows.ivalsOrderSpec.post enc Try.prog Try.f4 false true false false) := by
  refine returnsInHanded_of_change (C := Try.checked) own started (by kernel_rfl) Try.func4
    (ChangeSpec.witness6 (enc := enc) (C := Try.checked) false ⟨#[], #[.int .i64 0, .slice none 0 0, .int .i64 0], []⟩ 8 (by kernel_rfl) (by kernel_rfl) (by kernel_rfl) (by kernel_rfl)) ?_
  intro W base args ds gs before hval0 hW hcnd _
  have hval : ∀ (j : Nat) t v, Try.f4.params[j]? = some t → args[j]? = some v → Value.okWide Try.prog W .any base t v := hval0
  have hW' := hW
  obtain ⟨p, q, hA0, hV, rfl, hfz, hnd⟩ := hW
  have hA : DataW.TrodAll enc Try.prog W 0 (fun _ => true) true Try.f4.params.toList args.toList ds p := hA0
  rw [Try.params4] at hA hval
  obtain ⟨v0, vs0, d0, ds0, p0, q0, hargs, rfl, rfl, h0, r0⟩ := trodAll_cons hA
  obtain ⟨v1, vs1, d1, ds1, p1, q1, rfl, rfl, rfl, h1, r1⟩ := trodAll_cons r0
  obtain ⟨v2, vs2, d2, ds2, p2, q2, rfl, rfl, rfl, h2, r2⟩ := trodAll_cons r1
  obtain ⟨rfl, rfl, rfl⟩ := trodAll_nil r2
  obtain rfl : args = #[v0, v1, v2] := by cases args; simp_all
  obtain ⟨rfl, rfl⟩ := trodVars_none hV
  obtain ⟨a0, rfl, rfl, rfl, w0⟩ := open_int Try.underlying3 (hval 0 3 v0 rfl rfl) h0
  obtain ⟨s1, cap1, a1, rfl, w1⟩ := Opn.structs_of Try.underlying22 Try.underlying31 (by kernel_rfl) (by kernel_rfl) (by decide) (by intro j f hf; rcases j with _ | _ | j <;> simp at hf <;> (try subst hf) <;> exact Try.underlying3) (hval 1 22 v1 rfl rfl) h1
  obtain ⟨a2, rfl, rfl, rfl, w2⟩ := open_int Try.underlying3 (hval 2 3 v2 rfl rfl) h2
  clear hA0 hval0
  refine (walk a0 a1 s1 cap1 a2 W w0 w1 w2).mono fun e W' ⟨he, hg⟩ => ?_
  subst he
  exact ⟨_, rfl, post_of_old hW' (fun _ _ _ => (trodAll_cons_mk (shut_bool Try.underlying4 _) trodAll_mk0)) (fun sp hsp => (trodAll_cons_mk (shut_int Try.underlying3 w0) (trodAll_cons_mk (Opn.back (by kernel_rfl) (of_decide_eq_true (by kernel_rfl)) h1 hg (fun x hx => hW'.lt x (by simp [hx])) (fun x hx => hsp x (by simp [hx]))) (trodAll_cons_mk (shut_int Try.underlying3 w2) trodAll_mk0)))) (fun _ _ => rfl)
    hg (ok_one (by kernel_rfl) rfl (okWide_bool_mk Try.underlying4 _))⟩
theorem over : Rows.ivalsOrderRow.holds Try.pinned (OpenSpec.ofChange Rows.ivalsOrderSpec) :=
  OpenClaim.holds_of_wide 4 Try.f4 rfl rfl rfl rfl rfl rfl rfl ⟨rfl, rfl, rfl, rfl, rfl⟩ rfl rfl rfl rfl rfl (by kernel_rfl) Try.func4 (by kernel_rfl)
    (of_decide_eq_true (by kernel_rfl)) (by unfold Func.isWrapper; first | (rw [if_pos (by decide +kernel)]; kernel_rfl) | (rw [if_neg (by decide +kernel)]; exact ⟨rfl, rfl⟩))
    (fun os started H enc _ => lifted os started H enc)
theorem proved : Rows.IvalsOrderSaid :=
  over
#print axioms proved
end Go.Proofs.Ytagggadjmnclfaa.ivalsOrder
