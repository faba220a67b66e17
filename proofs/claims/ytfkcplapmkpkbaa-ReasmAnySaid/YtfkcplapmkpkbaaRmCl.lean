/- Messages put together: do bytes clash with what is there? Conditions: each theorem's own. -/
import Derived.Test.YtfkcplapmkpkbaaRmSame
set_option linter.unusedVariables false
namespace Go.Proofs.Ytfkcplapmkpkbaa.Rm
open Go.RowKit Go.Deep Hp IvM RmM
attribute [local go_sem ↓] Go.wp_at_zero Go.wp_at_succ
theorem src_take {w : World} {bk o c : Nat} {K : List UInt8} (h : Byt.Src w (.slice (some ⟨bk, o, none⟩) K.length c) K) {i : Nat} (hi : i ≤ K.length) : Byt.Src w (.slice (some ⟨bk, o, none⟩) i c) (K.take i) := by
  obtain ⟨_, _, e, hc, hs, _⟩ := h
  cases e
  have hl : (K.take i).length = i := by rw [List.length_take]; omega
  refine ⟨_, c, by rw [hl], by omega, ?_, fun e => by cases e⟩
  rcases hs with rfl | ⟨b2, o2, e2, hb, hcell⟩
  · left; simp
  · right
    cases e2
    refine ⟨bk, o, rfl, hb, fun j hj => ?_⟩
    rw [hl] at hj
    rw [hcell j (by omega)]
    congr 2
    simp
theorem src_drop {w : World} {bk o c : Nat} {K : List UInt8} (h : Byt.Src w (.slice (some ⟨bk, o, none⟩) K.length c) K) {i : Nat} (hi : i < K.length) : Byt.Src w (.slice (some ⟨bk, o + i, none⟩) (K.length - i) (c - i)) (K.drop i) := by
  obtain ⟨_, _, e, hc, hs, _⟩ := h
  cases e
  have hl : (K.drop i).length = K.length - i := List.length_drop
  obtain ⟨b2, o2, e2, hb, hcell⟩ := hs.resolve_left (fun e => by rw [e] at hi; simp at hi)
  cases e2
  refine ⟨_, c - i, by rw [hl], by omega, Or.inr ⟨bk, o + i, rfl, hb, fun j hj => ?_⟩, fun e => by cases e⟩
  rw [hl] at hj
  rw [Nat.add_assoc, hcell (i + j) (by omega)]
  congr 2
  simp
theorem fresh_any {w : World} {base b : Nat} {v : Value} {n : Int} {l : List Rg} (h : Iv.SetV w base b v n l) {f t : Int} (h0 : 0 ≤ f) (h1 : f ≤ t) (h2 : t ≤ n) :
    Calls Try.prog 24 #[.pointer (some ⟨b, 0, none⟩), .int .i64 f, .int .i64 t] w fun e w' => e = .returned (.int .i64 (fr l f t)) ∧ Kept (fun _ => False) w w' := by
  obtain ⟨A, J, B, c⟩ := cut_ex h.good f t
  have := Iv.fresh_yes h ⟨h0, h1, h2⟩ c
  rw [lap_inn h.good c h1] at this
  exact this
/-- What clashes answers. -/
def ClashP (w : World) (l : List Rg) (D K : List UInt8) (off : Nat) (e : Ending) (w' : World) : Prop := ∃ r, e = .returned (.bool r) ∧ (r = true ↔ Clash l D K off) ∧ Kept (fun _ => False) w w'
set_option maxHeartbeats 4000000 in
set_option maxRecDepth 100000 in
theorem clashes_any {base : Nat} {F : Nat → Prop} {b n : Nat} {l : List Rg} {D : List UInt8} : ∀ (N : Nat) (K : List UInt8) (w : World) (bk o c off : Nat), K.length ≤ N → BufV w base F b n l D → Byt.Src w (.slice (some ⟨bk, o, none⟩) K.length c) K → 0 < K.length → off + K.length ≤ n → c ≤ 9223372036854775807 →
    Calls Try.prog 16 #[.pointer (some ⟨b, 0, none⟩), .int .i64 off, .slice (some ⟨bk, o, none⟩) K.length c] w (ClashP w l D K off)
  | 0, K, w, bk, o, c, off, hN, h, hK, h0, ho, hcm => by omega
  | N + 1, K, w, bk, o, c, off, hN, h, hK, h0, ho, hcm => by
    obtain ⟨s, m, v, hb⟩ := h.bare
    have n1 := hb.n1
    have c1 := hb.blk.cell (o := 1) rfl
    have FR := Lib.hid (fresh_any hb.set (f := (off : Int)) (t := (off : Int) + (K.length : Nat)) (by omega) (by omega) (by omega))
    obtain ⟨q0, q1, q2, q3⟩ := fr_bd hb.set.good (off : Int) K.length
    generalize fr l (off : Int) ((off : Int) + (K.length : Nat)) = q at *
    have hof : off ≤ 1000 := by omega
    have hk1000 : K.length ≤ 1000 := by omega
    have hw1 : IntKind.i64.wrap ((off : Int) + (K.length : Nat)) = (off : Int) + (K.length : Nat) := by rw [IntKind.wrap_i64]; omega
    have hkc : K.length ≤ c := by obtain ⟨_, _, e, hc, _⟩ := hK; cases e; exact hc
    by_cases hA : q = (K.length : Nat)
    · have hno := clash_none (D := D) (q3.1 hA)
      subst hA
      clear q0 q1 q2 q3 hK h hb
      generalize K.length = k at *
      have ek : ((k : Int) == (k : Int)) = true := beq_self_eq_true _
      go_enter Try.func16, Try.ntmps16
      go_wp2_with fail
      with_reducible refine Calls.mono FR.out ?_
      rintro e w1 ⟨rfl, k1⟩
      go_wp2_with fail
      go_ret
      exact ⟨false, rfl, ⟨fun e => (by cases e), fun e => absurd e hno⟩, k1⟩
    · have eA : (q == ((K.length : Nat) : Int)) = false := by rw [beq_eq_false_iff_ne]; exact hA
      by_cases hB : q = 0
      · have hall := clash_all (D := D) (q2.1 hB)
        subst hB
        have hT : ∃ s m g v, There w base F b n l D s m g v := by
          rcases h with hT | ⟨_, _, _, _, e, _⟩
          · exact hT
          · have := q2.1 rfl (off : Int) (by omega) (by omega)
            rw [e] at this
            simp [IvM.Has] at this
        obtain ⟨s2, m2, g2, v2, hT⟩ := hT
        have SM := Lib.hid fun (w' : World) (k : Kept (fun _ => False) w w') => same_any (hT.old k) (hK.kept k) h0 ho
        have hr : ((!((D.drop off).take K.length == K)) = true ↔ Clash l D K off) := by
          rw [hall]; simp
        generalize ((D.drop off).take K.length == K) = r at *
        have HR := Lib.hid hr
        clear q0 q1 q2 q3 hK h hb hall hT hr
        generalize K.length = k at *
        have e0 : ((0 : Int) == 0) = true := rfl
        go_enter Try.func16, Try.ntmps16
        go_wp2_with fail
        with_reducible refine Calls.mono FR.out ?_
        rintro e w1 ⟨rfl, k1⟩
        go_wp2_with fail
        with_reducible refine Calls.mono (SM.out _ k1) ?_
        rintro e w2 ⟨rfl, k2⟩
        go_wp2_with fail
        go_ret
        exact ⟨!r, rfl, HR.out, k1.trans k2⟩
      · have eB : (q == 0) = false := by rw [beq_eq_false_iff_ne]; exact hB
        have hl1 : (K.take (K.length / 2)).length = K.length / 2 := by rw [List.length_take]; omega
        have hl2 : (K.drop (K.length / 2)).length = K.length - K.length / 2 := List.length_drop
        have C1 := Lib.hid fun (w' : World) (k : Kept (fun _ => False) w w') => clashes_any N (K.take (K.length / 2)) w' bk o c off (by omega) (h.old k) (by rw [hl1]; exact src_take (hK.kept k) (by omega)) (by omega) (by omega) hcm
        have C2 := Lib.hid fun (w' : World) (k : Kept (fun _ => False) w w') => clashes_any N (K.drop (K.length / 2)) w' bk (o + K.length / 2) (c - K.length / 2) (off + K.length / 2) (by omega) (h.old k) (by rw [hl2]; exact src_drop (hK.kept k) (by omega)) (by omega) (by omega) (by omega)
        have HS := Lib.hid (clash_split (l := l) (D := D) (K := K) (off := off) (K.length / 2) (by omega))
        rw [hl1] at C1
        rw [hl2] at C2
        have hh0 : 1 ≤ K.length / 2 := by omega
        have hh1 : K.length / 2 < K.length := by omega
        have hq : ((K.length : Nat) : Int) / 2 = ((K.length / 2 : Nat) : Int) := by omega
        clear q0 q1 q2 q3 hK h hb hl1 hl2
        generalize K.take (K.length / 2) = K1 at *
        generalize K.drop (K.length / 2) = K2 at *
        generalize K.length / 2 = j at *
        rw [Int.natCast_add off j] at C2
        generalize K.length = k at *
        have hne : ¬ (c = j) := by omega
        have hz0 : (0 : Int) ≤ (j : Int) := by omega
        have hzc : (j : Int) ≤ (c : Int) := by omega
        have hzk : (j : Int) ≤ (k : Int) := by omega
        have hw2 : IntKind.i64.wrap ((off : Int) + (j : Int)) = (off : Int) + (j : Int) := by rw [IntKind.wrap_i64]; omega
        go_enter Try.func16, Try.ntmps16
        go_wp2_with fail
        with_reducible refine Calls.mono FR.out ?_
        rintro e w1 ⟨rfl, k1⟩
        go_wp2_with fail
        with_reducible refine Calls.mono (C1.out _ k1) ?_
        rintro e w2 ⟨r1, rfl, hr1, k2⟩
        have k12 := k1.trans k2
        have HR1 := Lib.hid hr1
        clear hr1 k1 k2
        cases r1 with
        | true =>
          go_wp2_with fail
          go_ret
          exact ⟨true, rfl, ⟨fun _ => HS.out.2 (Or.inl (HR1.out.1 trivial)), fun _ => rfl⟩, k12⟩
        | false =>
          go_wp2_with fail
          with_reducible refine Calls.mono (C2.out _ k12) ?_
          rintro e w3 ⟨r2, rfl, hr2, k3⟩
          have HR2 := Lib.hid hr2
          clear hr2
          go_wp2_with fail
          go_ret
          exact ⟨r2, rfl, ⟨fun e => HS.out.2 (Or.inr (HR2.out.1 e)), fun e => HR2.out.2 ((HS.out.1 e).resolve_left fun g => by have := HR1.out.2 g; cases this)⟩, k12.trans k3⟩
end Go.Proofs.Ytfkcplapmkpkbaa.Rm
