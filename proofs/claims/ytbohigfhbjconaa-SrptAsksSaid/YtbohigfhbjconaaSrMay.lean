/- Messages in memory; which may be; what remains of one. Conditions: each theorem's own. -/
import Derived.Test.YtbohigfhbjconaaHeap
import Derived.Test.YtbohigfhbjconaaEnd
import Derived.Test.YtbohigfhbjconaaInts
import Derived.Test.YtbohigfhbjconaaSrMath
import Derived.Deep.CutBlock
import Derived.Deep.DeepCutAuto
set_option linter.unusedVariables false
namespace Go.Proofs.Ytbohigfhbjconaa.Sr
open Go.RowKit Hp Go.Proofs.Ytbohigfhbjconaa.End Opn SrM
/-- A message as a value, and its cells. -/
def ml (m : M) : List Value := [.int .i64 m.p, .int .u64 m.i, .int .i64 m.t, .int .i64 m.h, .int .i64 m.g, .int .i64 m.b]
abbrev mv (m : M) : Value := .agg #[.int .i64 m.p, .int .u64 m.i, .int .i64 m.t, .int .i64 m.h, .int .i64 m.g, .int .i64 m.b]
structure C6 (w : World) (g o : Nat) (m : M) : Prop where
  c0 : w.cell? ⟨g, o, none⟩ = some (.int .i64 m.p)
  c1 : w.cell? ⟨g, o + 1, none⟩ = some (.int .u64 m.i)
  c2 : w.cell? ⟨g, o + 2, none⟩ = some (.int .i64 m.t)
  c3 : w.cell? ⟨g, o + 3, none⟩ = some (.int .i64 m.h)
  c4 : w.cell? ⟨g, o + 4, none⟩ = some (.int .i64 m.g)
  c5 : w.cell? ⟨g, o + 5, none⟩ = some (.int .i64 m.b)
theorem C6.old {w w' : World} {g o : Nat} {m : M} (h : C6 w g o m) (k : Kept (fun _ => False) w w') (hg : g < w.heap.size) : C6 w' g o m := by
  have e : ∀ q, w'.cell? ⟨g, q, none⟩ = w.cell? ⟨g, q, none⟩ := fun q => keptCell k hg (fun f => f) q
  exact ⟨by rw [e]; exact h.c0, by rw [e]; exact h.c1, by rw [e]; exact h.c2, by rw [e]; exact h.c3, by rw [e]; exact h.c4, by rw [e]; exact h.c5⟩
theorem C6.blk {w : World} {g : Nat} {m : M} {T : TypeId} (h : Blk w g (ml m) T) : C6 w g 0 m := ⟨h.cell rfl, h.cell rfl, h.cell rfl, h.cell rfl, h.cell rfl, h.cell rfl⟩
/-- A slice of messages that can be read. -/
def Rd (w : World) (v : Value) (l : List M) : Prop := ∃ a c, v = .slice a l.length c ∧ ∀ k m, l[k]? = some m → ∃ g o, a = some ⟨g, o, none⟩ ∧ g < w.heap.size ∧ C6 w g (o + k * 6) m
theorem Rd.old {w w' : World} {v : Value} {l : List M} (h : Rd w v l) (k : Kept (fun _ => False) w w') : Rd w' v l := by
  obtain ⟨a, c, e, h⟩ := h
  refine ⟨a, c, e, fun j m hm => ?_⟩
  obtain ⟨g, o, e1, e2, e3⟩ := h j m hm
  exact ⟨g, o, e1, Nat.lt_of_lt_of_le e2 k.size, e3.old k e2⟩
theorem rem_any (m : M) (hm : may m = true) (w : World) : Calls Try.prog 37 #[mv m] w fun e w' => e = .returned (.int .i64 (m.t - m.h)) ∧ w' = w.alloc (.cells (ml m).toArray 39) := by
  obtain ⟨h1, _, _⟩ := may_bd hm
  unfold B1 at h1
  obtain ⟨p, i, t, h, g, b⟩ := m
  dsimp only at h1
  obtain ⟨h1, h2, h3, h4⟩ := h1
  have hB := Blk.new w (ml ⟨p, i, t, h, g, b⟩) 39
  unfold ml at hB ⊢
  dsimp only [List.toArray] at hB ⊢
  have c2 := hB.cell (o := 2) rfl
  have c3 := hB.cell (o := 3) rfl
  have c4 := hB.cell (o := 4) rfl
  clear hB hm
  unfold mv
  dsimp only
  go_enter Try.func37, Try.ntmps37
  go_wp2_with fail
  go_ret
  exact ⟨rfl, rfl⟩
theorem ahead_any (m : M) (hm : may m = true) (w : World) : Calls Try.prog 32 #[mv m] w fun e w' => e = .returned (.int .i64 (m.g - m.h)) ∧ w' = w.alloc (.cells (ml m).toArray 39) := by
  obtain ⟨h1, _, _⟩ := may_bd hm
  unfold B1 at h1
  obtain ⟨p, i, t, h, g, b⟩ := m
  dsimp only at h1
  obtain ⟨h1, h2, h3, h4⟩ := h1
  have hB := Blk.new w (ml ⟨p, i, t, h, g, b⟩) 39
  unfold ml at hB ⊢
  dsimp only [List.toArray] at hB ⊢
  have c2 := hB.cell (o := 2) rfl
  have c3 := hB.cell (o := 3) rfl
  have c4 := hB.cell (o := 4) rfl
  clear hB hm
  unfold mv
  dsimp only
  go_enter Try.func32, Try.ntmps32
  go_wp2_with fail
  go_ret
  exact ⟨rfl, rfl⟩
set_option maxHeartbeats 2000000 in
theorem may_any (m : M) (w : World) : Calls Try.prog 11 #[mv m] w fun e w' => e = .returned (.bool (may m)) ∧ w' = w.alloc (.cells (ml m).toArray 39) := by
  obtain ⟨b1, hb1⟩ : ∃ x, x = decide (B1 m) := ⟨_, rfl⟩
  obtain ⟨b2, hb2⟩ : ∃ x, x = decide (B2 m) := ⟨_, rfl⟩
  obtain ⟨b3, hb3⟩ : ∃ x, x = decide (B3 m) := ⟨_, rfl⟩
  have hmay : may m = (b1 && (b2 && b3)) := by rw [hb1, hb2, hb3, ← Bool.decide_and, ← Bool.decide_and]; rfl
  rw [hmay]
  clear hmay
  unfold B1 at hb1
  unfold B2 at hb2
  unfold B3 at hb3
  obtain ⟨p, i, t, h, g, b⟩ := m
  dsimp only at hb1 hb2 hb3
  have H1 := Lib.hid hb1
  have H2 := Lib.hid hb2
  have H3 := Lib.hid hb3
  have hB := Blk.new w (ml ⟨p, i, t, h, g, b⟩) 39
  unfold ml at hB ⊢
  dsimp only [List.toArray] at hB ⊢
  have c0 := hB.cell (o := 0) rfl
  have c1 := hB.cell (o := 1) rfl
  have c2 := hB.cell (o := 2) rfl
  have c3 := hB.cell (o := 3) rfl
  have c4 := hB.cell (o := 4) rfl
  have c5 := hB.cell (o := 5) rfl
  clear hB hb1 hb2 hb3
  unfold mv
  dsimp only
  go_enter Try.func11, Try.ntmps11
  go_upto_region 1 with fail
  generalize hW : w.alloc (.cells #[.int .i64 p, .int .u64 i, .int .i64 t, .int .i64 h, .int .i64 g, .int .i64 b] 39) = w1 at *
  have HW := Lib.hid hW
  clear hW
  generalize w.heap.size = xb at *
  go_cut [3] from 5 to 26 (fun s3 wx => s3 = .bool b1 ∧ wx = w1)
  case first =>
    by_cases k0 : 0 ≤ h
    · have y0 : (0 : Int) ≤ h := k0
      have yd0 : decide ((0 : Int) ≤ h) = true := decide_eq_true k0
      by_cases k1 : h ≤ g
      · have y1 : (h : Int) ≤ g := k1
        have yd1 : decide ((h : Int) ≤ g) = true := decide_eq_true k1
        by_cases k2 : g ≤ t
        · have y2 : (g : Int) ≤ t := k2
          have yd2 : decide ((g : Int) ≤ t) = true := decide_eq_true k2
          by_cases k3 : t ≤ 1073741824
          · have y3 : (t : Int) ≤ 1073741824 := k3
            have yd3 : decide ((t : Int) ≤ 1073741824) = true := decide_eq_true k3
            go_wp2_with fail
            go_meet
            exact ⟨by rw [H1.out, decide_eq_true (p := 0 ≤ h ∧ h ≤ g ∧ g ≤ t ∧ t ≤ 1073741824) (by omega)], rfl⟩
          · have n3 : ¬ (t : Int) ≤ 1073741824 := k3
            have nd3 : decide ((t : Int) ≤ 1073741824) = false := decide_eq_false k3
            go_wp2_with fail
            go_meet
            exact ⟨by rw [H1.out, decide_eq_false (p := 0 ≤ h ∧ h ≤ g ∧ g ≤ t ∧ t ≤ 1073741824) (by omega)], rfl⟩
        · have n2 : ¬ (g : Int) ≤ t := k2
          have nd2 : decide ((g : Int) ≤ t) = false := decide_eq_false k2
          go_wp2_with fail
          go_meet
          exact ⟨by rw [H1.out, decide_eq_false (p := 0 ≤ h ∧ h ≤ g ∧ g ≤ t ∧ t ≤ 1073741824) (by omega)], rfl⟩
      · have n1 : ¬ (h : Int) ≤ g := k1
        have nd1 : decide ((h : Int) ≤ g) = false := decide_eq_false k1
        go_wp2_with fail
        go_meet
        exact ⟨by rw [H1.out, decide_eq_false (p := 0 ≤ h ∧ h ≤ g ∧ g ≤ t ∧ t ≤ 1073741824) (by omega)], rfl⟩
    · have n0 : ¬ (0 : Int) ≤ h := k0
      have nd0 : decide ((0 : Int) ≤ h) = false := decide_eq_false k0
      go_wp2_with fail
      go_meet
      exact ⟨by rw [H1.out, decide_eq_false (p := 0 ≤ h ∧ h ≤ g ∧ g ≤ t ∧ t ≤ 1073741824) (by omega)], rfl⟩
  case rest =>
  obtain ⟨rfl, rfl⟩ := hcut
  go_upto_region 2 with fail
  go_cut [4] from 27 to 44 (fun s4 wx => s4 = .bool b2 ∧ wx = wc)
  case first =>
    by_cases k0 : 0 ≤ p
    · have y0 : (0 : Int) ≤ p := k0
      have yd0 : decide ((0 : Int) ≤ p) = true := decide_eq_true k0
      by_cases k1 : p < 8
      · have y1 : (p : Int) < 8 := k1
        have yd1 : decide ((p : Int) < 8) = true := decide_eq_true k1
        by_cases k2 : 1 ≤ i
        · have y2 : (1 : Int) ≤ i := k2
          have yd2 : decide ((1 : Int) ≤ i) = true := decide_eq_true k2
          by_cases k3 : i ≤ 1152921504606846976
          · have y3 : (i : Int) ≤ 1152921504606846976 := k3
            have yd3 : decide ((i : Int) ≤ 1152921504606846976) = true := decide_eq_true k3
            go_wp2_with fail
            go_meet
            exact ⟨by rw [H2.out, decide_eq_true (p := 0 ≤ p ∧ p < 8 ∧ 1 ≤ i ∧ i ≤ 1152921504606846976) (by omega)], rfl⟩
          · have n3 : ¬ (i : Int) ≤ 1152921504606846976 := k3
            have nd3 : decide ((i : Int) ≤ 1152921504606846976) = false := decide_eq_false k3
            go_wp2_with fail
            go_meet
            exact ⟨by rw [H2.out, decide_eq_false (p := 0 ≤ p ∧ p < 8 ∧ 1 ≤ i ∧ i ≤ 1152921504606846976) (by omega)], rfl⟩
        · have n2 : ¬ (1 : Int) ≤ i := k2
          have nd2 : decide ((1 : Int) ≤ i) = false := decide_eq_false k2
          go_wp2_with fail
          go_meet
          exact ⟨by rw [H2.out, decide_eq_false (p := 0 ≤ p ∧ p < 8 ∧ 1 ≤ i ∧ i ≤ 1152921504606846976) (by omega)], rfl⟩
      · have n1 : ¬ (p : Int) < 8 := k1
        have nd1 : decide ((p : Int) < 8) = false := decide_eq_false k1
        go_wp2_with fail
        go_meet
        exact ⟨by rw [H2.out, decide_eq_false (p := 0 ≤ p ∧ p < 8 ∧ 1 ≤ i ∧ i ≤ 1152921504606846976) (by omega)], rfl⟩
    · have n0 : ¬ (0 : Int) ≤ p := k0
      have nd0 : decide ((0 : Int) ≤ p) = false := decide_eq_false k0
      go_wp2_with fail
      go_meet
      exact ⟨by rw [H2.out, decide_eq_false (p := 0 ≤ p ∧ p < 8 ∧ 1 ≤ i ∧ i ≤ 1152921504606846976) (by omega)], rfl⟩
  case rest =>
  obtain ⟨rfl, rfl⟩ := hcut
  cases b1 with
  | false =>
    go_wp2_with fail
    go_ret
    exact ⟨rfl, HW.out.symm⟩
  | true =>
    cases b2 with
    | false =>
      go_wp2_with fail
      go_ret
      exact ⟨rfl, HW.out.symm⟩
    | true =>
      by_cases k0 : 0 ≤ b
      · have y0 : (0 : Int) ≤ b := k0
        have yd0 : decide ((0 : Int) ≤ b) = true := decide_eq_true k0
        by_cases k1 : b ≤ 1125899906842624
        · have y1 : (b : Int) ≤ 1125899906842624 := k1
          have yd1 : decide ((b : Int) ≤ 1125899906842624) = true := decide_eq_true k1
          go_wp2_with fail
          go_ret
          exact ⟨by rw [H3.out, decide_eq_true (p := 0 ≤ b ∧ b ≤ 1125899906842624) (by omega)]; rfl, HW.out.symm⟩
        · have n1 : ¬ (b : Int) ≤ 1125899906842624 := k1
          have nd1 : decide ((b : Int) ≤ 1125899906842624) = false := decide_eq_false k1
          go_wp2_with fail
          go_ret
          exact ⟨by rw [H3.out, decide_eq_false (p := 0 ≤ b ∧ b ≤ 1125899906842624) (by omega)]; rfl, HW.out.symm⟩
      · have n0 : ¬ (0 : Int) ≤ b := k0
        have nd0 : decide ((0 : Int) ≤ b) = false := decide_eq_false k0
        go_wp2_with fail
        go_ret
        exact ⟨by rw [H3.out, decide_eq_false (p := 0 ≤ b ∧ b ≤ 1125899906842624) (by omega)]; rfl, HW.out.symm⟩
set_option maxHeartbeats 4000000 in
theorem mayR_any (m : M) (w : World) : Calls Try.prog 12 #[mv m] w fun e w' => e = .returned (.bool (may m)) ∧ w' = w.alloc (.cells (ml m).toArray 41) := by
  obtain ⟨q, hq⟩ : ∃ x, x = may m := ⟨_, rfl⟩
  rw [← hq]
  unfold may B1 B2 B3 at hq
  obtain ⟨p, i, t, h, g, b⟩ := m
  dsimp only at hq
  have H := Lib.hid hq
  have hB := Blk.new w (ml ⟨p, i, t, h, g, b⟩) 41
  unfold ml at hB ⊢
  dsimp only [List.toArray] at hB ⊢
  have c0 := hB.cell (o := 0) rfl
  have c1 := hB.cell (o := 1) rfl
  have c2 := hB.cell (o := 2) rfl
  have c3 := hB.cell (o := 3) rfl
  have c4 := hB.cell (o := 4) rfl
  have c5 := hB.cell (o := 5) rfl
  clear hB hq
  unfold mv
  dsimp only
  go_enter Try.func12, Try.ntmps12
  go_upto_region 1 with fail
  generalize hW : w.alloc (.cells #[.int .i64 p, .int .u64 i, .int .i64 t, .int .i64 h, .int .i64 g, .int .i64 b] 41) = w1 at *
  have HW := Lib.hid hW
  clear hW
  generalize w.heap.size = xb at *
  by_cases k0 : 0 ≤ h
  · have y0 : (0 : Int) ≤ h := k0
    have yd0 : decide ((0 : Int) ≤ h) = true := decide_eq_true k0
    by_cases k1 : h ≤ g
    · have y1 : (h : Int) ≤ g := k1
      have yd1 : decide ((h : Int) ≤ g) = true := decide_eq_true k1
      by_cases k2 : g ≤ t
      · have y2 : (g : Int) ≤ t := k2
        have yd2 : decide ((g : Int) ≤ t) = true := decide_eq_true k2
        by_cases k3 : t ≤ 1073741824
        · have y3 : (t : Int) ≤ 1073741824 := k3
          have yd3 : decide ((t : Int) ≤ 1073741824) = true := decide_eq_true k3
          by_cases k4 : 0 ≤ p
          · have y4 : (0 : Int) ≤ p := k4
            have yd4 : decide ((0 : Int) ≤ p) = true := decide_eq_true k4
            by_cases k5 : p ≤ 7
            · have y5 : (p : Int) ≤ 7 := k5
              have yd5 : decide ((p : Int) ≤ 7) = true := decide_eq_true k5
              by_cases k6 : 1 ≤ i
              · have y6 : (1 : Int) ≤ i := k6
                have yd6 : decide ((1 : Int) ≤ i) = true := decide_eq_true k6
                by_cases k7 : i ≤ 1152921504606846976
                · have y7 : (i : Int) ≤ 1152921504606846976 := k7
                  have yd7 : decide ((i : Int) ≤ 1152921504606846976) = true := decide_eq_true k7
                  by_cases k8 : 0 ≤ b
                  · have y8 : (0 : Int) ≤ b := k8
                    have yd8 : decide ((0 : Int) ≤ b) = true := decide_eq_true k8
                    by_cases k9 : b ≤ 1125899906842624
                    · have y9 : (b : Int) ≤ 1125899906842624 := k9
                      have yd9 : decide ((b : Int) ≤ 1125899906842624) = true := decide_eq_true k9
                      go_wp2_with fail
                      go_ret
                      exact ⟨by rw [H.out, decide_eq_true (p := (0 ≤ h ∧ h ≤ g ∧ g ≤ t ∧ t ≤ 1073741824) ∧ (0 ≤ p ∧ p < 8 ∧ 1 ≤ i ∧ i ≤ 1152921504606846976) ∧ (0 ≤ b ∧ b ≤ 1125899906842624)) (by omega)]; rfl, HW.out.symm⟩
                    · have n9 : ¬ (b : Int) ≤ 1125899906842624 := k9
                      have nd9 : decide ((b : Int) ≤ 1125899906842624) = false := decide_eq_false k9
                      go_wp2_with fail
                      go_ret
                      exact ⟨by rw [H.out, decide_eq_false (p := (0 ≤ h ∧ h ≤ g ∧ g ≤ t ∧ t ≤ 1073741824) ∧ (0 ≤ p ∧ p < 8 ∧ 1 ≤ i ∧ i ≤ 1152921504606846976) ∧ (0 ≤ b ∧ b ≤ 1125899906842624)) (by omega)]; rfl, HW.out.symm⟩
                  · have n8 : ¬ (0 : Int) ≤ b := k8
                    have nd8 : decide ((0 : Int) ≤ b) = false := decide_eq_false k8
                    go_wp2_with fail
                    go_ret
                    exact ⟨by rw [H.out, decide_eq_false (p := (0 ≤ h ∧ h ≤ g ∧ g ≤ t ∧ t ≤ 1073741824) ∧ (0 ≤ p ∧ p < 8 ∧ 1 ≤ i ∧ i ≤ 1152921504606846976) ∧ (0 ≤ b ∧ b ≤ 1125899906842624)) (by omega)]; rfl, HW.out.symm⟩
                · have n7 : ¬ (i : Int) ≤ 1152921504606846976 := k7
                  have nd7 : decide ((i : Int) ≤ 1152921504606846976) = false := decide_eq_false k7
                  go_wp2_with fail
                  go_ret
                  exact ⟨by rw [H.out, decide_eq_false (p := (0 ≤ h ∧ h ≤ g ∧ g ≤ t ∧ t ≤ 1073741824) ∧ (0 ≤ p ∧ p < 8 ∧ 1 ≤ i ∧ i ≤ 1152921504606846976) ∧ (0 ≤ b ∧ b ≤ 1125899906842624)) (by omega)]; rfl, HW.out.symm⟩
              · have n6 : ¬ (1 : Int) ≤ i := k6
                have nd6 : decide ((1 : Int) ≤ i) = false := decide_eq_false k6
                go_wp2_with fail
                go_ret
                exact ⟨by rw [H.out, decide_eq_false (p := (0 ≤ h ∧ h ≤ g ∧ g ≤ t ∧ t ≤ 1073741824) ∧ (0 ≤ p ∧ p < 8 ∧ 1 ≤ i ∧ i ≤ 1152921504606846976) ∧ (0 ≤ b ∧ b ≤ 1125899906842624)) (by omega)]; rfl, HW.out.symm⟩
            · have n5 : ¬ (p : Int) ≤ 7 := k5
              have nd5 : decide ((p : Int) ≤ 7) = false := decide_eq_false k5
              go_wp2_with fail
              go_ret
              exact ⟨by rw [H.out, decide_eq_false (p := (0 ≤ h ∧ h ≤ g ∧ g ≤ t ∧ t ≤ 1073741824) ∧ (0 ≤ p ∧ p < 8 ∧ 1 ≤ i ∧ i ≤ 1152921504606846976) ∧ (0 ≤ b ∧ b ≤ 1125899906842624)) (by omega)]; rfl, HW.out.symm⟩
          · have n4 : ¬ (0 : Int) ≤ p := k4
            have nd4 : decide ((0 : Int) ≤ p) = false := decide_eq_false k4
            go_wp2_with fail
            go_ret
            exact ⟨by rw [H.out, decide_eq_false (p := (0 ≤ h ∧ h ≤ g ∧ g ≤ t ∧ t ≤ 1073741824) ∧ (0 ≤ p ∧ p < 8 ∧ 1 ≤ i ∧ i ≤ 1152921504606846976) ∧ (0 ≤ b ∧ b ≤ 1125899906842624)) (by omega)]; rfl, HW.out.symm⟩
        · have n3 : ¬ (t : Int) ≤ 1073741824 := k3
          have nd3 : decide ((t : Int) ≤ 1073741824) = false := decide_eq_false k3
          go_wp2_with fail
          go_ret
          exact ⟨by rw [H.out, decide_eq_false (p := (0 ≤ h ∧ h ≤ g ∧ g ≤ t ∧ t ≤ 1073741824) ∧ (0 ≤ p ∧ p < 8 ∧ 1 ≤ i ∧ i ≤ 1152921504606846976) ∧ (0 ≤ b ∧ b ≤ 1125899906842624)) (by omega)]; rfl, HW.out.symm⟩
      · have n2 : ¬ (g : Int) ≤ t := k2
        have nd2 : decide ((g : Int) ≤ t) = false := decide_eq_false k2
        go_wp2_with fail
        go_ret
        exact ⟨by rw [H.out, decide_eq_false (p := (0 ≤ h ∧ h ≤ g ∧ g ≤ t ∧ t ≤ 1073741824) ∧ (0 ≤ p ∧ p < 8 ∧ 1 ≤ i ∧ i ≤ 1152921504606846976) ∧ (0 ≤ b ∧ b ≤ 1125899906842624)) (by omega)]; rfl, HW.out.symm⟩
    · have n1 : ¬ (h : Int) ≤ g := k1
      have nd1 : decide ((h : Int) ≤ g) = false := decide_eq_false k1
      go_wp2_with fail
      go_ret
      exact ⟨by rw [H.out, decide_eq_false (p := (0 ≤ h ∧ h ≤ g ∧ g ≤ t ∧ t ≤ 1073741824) ∧ (0 ≤ p ∧ p < 8 ∧ 1 ≤ i ∧ i ≤ 1152921504606846976) ∧ (0 ≤ b ∧ b ≤ 1125899906842624)) (by omega)]; rfl, HW.out.symm⟩
  · have n0 : ¬ (0 : Int) ≤ h := k0
    have nd0 : decide ((0 : Int) ≤ h) = false := decide_eq_false k0
    go_wp2_with fail
    go_ret
    exact ⟨by rw [H.out, decide_eq_false (p := (0 ≤ h ∧ h ≤ g ∧ g ≤ t ∧ t ≤ 1073741824) ∧ (0 ≤ p ∧ p < 8 ∧ 1 ≤ i ∧ i ≤ 1152921504606846976) ∧ (0 ≤ b ∧ b ≤ 1125899906842624)) (by omega)]; rfl, HW.out.symm⟩
end Go.Proofs.Ytbohigfhbjconaa.Sr
