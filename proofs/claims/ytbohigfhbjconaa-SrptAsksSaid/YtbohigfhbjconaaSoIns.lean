/- A part of a row sorted by insertion. Conditions: each theorem's own. -/
import Derived.Test.YtbohigfhbjconaaSoRot
set_option linter.unusedVariables false
namespace Go.Proofs.Ytbohigfhbjconaa.So
open Go.RowKit Hp SoM
variable {w0 W : World} {g n : Nat} {T : TypeId} {rest : List Value} {l : List Int} {f : Nat} {cb : Array Value} {cf : Int → Int → Int} {D : Int → Prop} {lt : Int → Int → Bool}
/-- The compare tells the order of two of which the first is the smaller number. -/
def Tells (lt : Int → Int → Bool) (cf : Int → Int → Int) (D : Int → Prop) : Prop := ∀ x y, D x → D y → x < y → (cf y x < 0 ↔ lt y x = true)
set_option maxHeartbeats 4000000 in
set_option maxRecDepth 1000000 in
theorem insertion {A X B : List Int} {a b : Nat} (cap : Nat) (C : Cmp Try.prog f cb cf D w0 g) (O : Ord lt) (TL : Tells lt cf D) (h : RW w0 g T rest n (A ++ (X ++ B)) W) (ha : a = A.length) (hb : b = a + X.length) (hX : X.Pairwise (· < ·)) (hD : ∀ x ∈ X, D x) (hn : n ≤ 1000000) :
    Calls Try.prog 46 #[.slice (some ⟨g, 0, none⟩) n cap, .int .i64 a, .int .i64 b, .func (.func f) #[] cb] W fun e w' => e = .returned (.tuple #[]) ∧ ∃ X', X'.Perm X ∧ Srt lt X' ∧ RW w0 g T rest n (A ++ (X' ++ B)) w' := by
  have hbn : b ≤ n := by have := h.len; simp at this; omega
  have mixed := mixed
  have eg := C.eg
  cases X with
  | nil =>
    have S0 := Lib.hid h
    have hlt : ¬ (a : Int) + 1 < (b : Int) := by simp at hb; omega
    have han : a ≤ 1000000 := by simp at hb; omega
    clear h ha hb
    go_enter Try.func46, Try.ntmps46
    go_wp2_with fail
    refine wp_loop_rounds 1 ?_
    rw [rounds_succ]
    go_wp2_with fail
    go_end0
    exact ⟨rfl, [], List.Perm.refl _, List.Pairwise.nil, S0.out⟩
  | cons x0 X1 =>
  have S0 : Hid (∃ S0 S Z, x0 :: X1 = S0 ++ Z ∧ S.Perm S0 ∧ Srt lt S ∧ A.length + S.length = a + 1 ∧ RW w0 g T rest n (A ++ (S ++ (Z ++ B))) W) :=
    ⟨[x0], [x0], X1, rfl, List.Perm.refl _, List.pairwise_singleton _ _, by simp [ha], h⟩
  have HLEN : Hid (b = A.length + (x0 :: X1).length) := by show _ = _; omega
  have hab : a + 1 ≤ b := by simp at hb; omega
  have HA := Lib.hid ha
  have HXP := Lib.hid hX
  have HDX := Lib.hid hD
  obtain ⟨X, hXe⟩ : ∃ X, X = x0 :: X1 := ⟨_, rfl⟩
  rw [← hXe] at S0 HLEN HXP HDX ⊢
  clear h ha hb hX hD hXe
  go_enter Try.func46, Try.ntmps46
  go_wp2
  go_loopg [8] (b - a) (fun g1 vi wr => ∃ (i : Nat), vi = .int .i64 i ∧ a < i ∧ i ≤ b ∧ b + 1 - i ≤ g1 + 1 ∧ Hid (∃ S0 S Z, X = S0 ++ Z ∧ S.Perm S0 ∧ Srt lt S ∧ A.length + S.length = i ∧ RW w0 g T rest n (A ++ (S ++ (Z ++ B))) wr))
  case atStart => exact ⟨a + 1, by go_num, by omega, by omega, by omega, S0⟩
  case round =>
    clear S0
    obtain ⟨i, rfl, hai, hib, hg1, S1⟩ := hrel
    by_cases hlt : i < b
    · have hltz : (i : Int) < (b : Int) := by omega
      obtain ⟨S0, S, Z, q1, q2, q3, q4, q5⟩ := S1.out
      have hz : 0 < Z.length := by have h1 := HLEN.out; have h2 := q2.length_eq; rw [q1, List.length_append] at h1; omega
      cases Z with
      | nil => simp at hz
      | cons y Z =>
      have HQ := Lib.hid (⟨q1, q2, q3, q4⟩ : X = S0 ++ y :: Z ∧ S.Perm S0 ∧ Srt lt S ∧ A.length + S.length = i)
      have HY : Hid (D y ∧ ∀ z ∈ S, D z ∧ z < y) := by
        have hp := HXP.out
        have hd := HDX.out
        rw [q1] at hp hd
        obtain ⟨_, _, h3⟩ := List.pairwise_append.1 hp
        exact ⟨hd y (by simp), fun z hz => ⟨hd z (List.mem_append_left _ (q2.mem_iff.1 hz)), h3 z (q2.mem_iff.1 hz) y (List.mem_cons_self)⟩⟩
      have S2 : Hid (∃ P Q, S = P ++ Q ∧ (∀ u ∈ Q, lt y u = true) ∧ A.length + P.length = i ∧ RW w0 g T rest n (A ++ (P ++ y :: (Q ++ (Z ++ B)))) wr) := ⟨S, [], by simp, by simp, q4, by simpa using q5⟩
      clear q1 q2 q3 q4 q5 hz S1
      go_wp2
      go_loopg [9] i (fun g2 vj wr2 => ∃ (j : Nat), vj = .int .i64 j ∧ a ≤ j ∧ j ≤ i ∧ j ≤ g2 ∧ Hid (∃ P Q, S = P ++ Q ∧ (∀ u ∈ Q, lt y u = true) ∧ A.length + P.length = j ∧ RW w0 g T rest n (A ++ (P ++ y :: (Q ++ (Z ++ B)))) wr2))
      case atStart => exact ⟨i, rfl, by omega, Nat.le_refl _, Nat.le_refl _, S2⟩
      case round =>
        clear S2
        obtain ⟨j, rfl, haj, hji, hg2, SJ⟩ := hrel
        have out : ∀ w2, (∃ P Q, S = P ++ Q ∧ (∀ u ∈ Q, lt y u = true) ∧ (∀ u ∈ P, lt u y = true) ∧ RW w0 g T rest n (A ++ (P ++ y :: (Q ++ (Z ++ B)))) w2) →
            ∃ S0 S Z, X = S0 ++ Z ∧ S.Perm S0 ∧ Srt lt S ∧ A.length + S.length = i + 1 ∧ RW w0 g T rest n (A ++ (S ++ (Z ++ B))) w2 := by
          rintro w2 ⟨P, Q, e1, e2, e3, e4⟩
          obtain ⟨q1, q2, q3, q4⟩ := HQ.out
          refine ⟨S0 ++ [y], P ++ y :: Q, Z, by rw [q1]; simp, ?_, ?_, ?_, by simpa using e4⟩
          · rw [e1] at q2
            refine (perm_mid y P Q).trans ?_
            refine (List.Perm.cons y q2).trans ?_
            exact (List.perm_append_comm (l₁ := [y]) (l₂ := S0))
          · rw [e1] at q3
            exact ins_left O q3 e3 e2
          · rw [e1] at q4; simp at q4 ⊢; omega
        have OUT := Lib.hid out
        clear out
        by_cases hja : a < j
        · have hjaz : (a : Int) < (j : Int) := by omega
          obtain ⟨jp, hjp⟩ : ∃ q, q + 1 = j := ⟨j - 1, by omega⟩
          have zjp : (j : Int) = (jp : Int) + 1 := by omega
          have hjad : decide ((jp : Int) + 1 > (a : Int)) = true := decide_eq_true (by omega)
          have hjaz' : (a : Int) < (jp : Int) + 1 := by omega
          obtain ⟨P, Q, e1, e2, e3, e4⟩ := SJ.out
          have hP : P ≠ [] := by rintro rfl; have := HA.out; simp at e3; omega
          obtain ⟨P', z, rfl⟩ : ∃ P' z, P = P' ++ [z] := ⟨P.dropLast, P.getLast hP, (List.dropLast_concat_getLast hP).symm⟩
          have e5 : RW w0 g T rest n ((A ++ P') ++ z :: ([] ++ y :: (Q ++ (Z ++ B)))) wr := by simpa using e4
          have hjpl : jp = (A ++ P').length := by simp at e3 ⊢; omega
          have cy := e5.cl (at_mid2 (A ++ P') [] (Q ++ (Z ++ B)) z y (j := jp + 1) (by rw [hjpl]; simp))
          have cz := e5.cl (at_mid (A ++ P') ([] ++ y :: (Q ++ (Z ++ B))) z hjpl)
          have HE := Lib.hid (⟨e1, e2, e3⟩ : S = (P' ++ [z]) ++ Q ∧ (∀ u ∈ Q, lt y u = true) ∧ A.length + (P' ++ [z]).length = j)
          have HZ := HY.out.2 z (by rw [e1]; simp)
          have HYD := HY.out.1
          have hc := C.at e5 HYD HZ.1
          have hcmp := TL z y HZ.1 HYD HZ.2
          have E5 := Lib.hid e5
          have HJP := Lib.hid hjpl
          obtain ⟨jN, hjN⟩ : ∃ q, q = jp + 1 := ⟨_, rfl⟩
          have ea : ((jp : Int) + 1).toNat = jN := by omega
          have pa : (0 : Int) ≤ (jp : Int) + 1 := by omega
          have ba : (jp : Int) + 1 < (n : Int) := by omega
          have ra : IntKind.i64.wrap ((jp : Int) + 1) = (jp : Int) + 1 := by rw [IntKind.wrap_i64]; omega
          have bc : (jp : Int) < (n : Int) := by omega
          have rc : IntKind.i64.wrap ((jp : Int)) = (jp : Int) := by rw [IntKind.wrap_i64]; omega
          rw [← hjN] at cy
          have HJN := Lib.hid hjN
          clear SJ e1 e2 e3 e4 e5 hP HYD HZ hjpl hjN
          cases hlv : lt y z with
          | true =>
            have hv : cf y z < 0 := hcmp.2 hlv
            have hd : decide (cf y z < 0) = true := decide_eq_true hv
            clear hcmp
            go_wp2_with fail
            go_quiet_grown (first | (go_at_fn f; refine Calls.grown_of (hc _ _)))
            have E6 : Hid (RW w0 g T rest n ((A ++ P') ++ z :: ([] ++ y :: (Q ++ (Z ++ B)))) (Go.Sort.grow (wr.drewN nq) osq)) := E5.out.grw nq osq
            clear cy cz hc E5
            generalize Go.Sort.grow (wr.drewN nq) osq = w2 at E6 ⊢
            clear nq osq
            have c1 := E6.out.c (at_mid2 (A ++ P') [] (Q ++ (Z ++ B)) z y (j := jN) (by rw [HJN.out, HJP.out]; simp))
            have c2 := E6.out.c (at_mid (A ++ P') ([] ++ y :: (Q ++ (Z ++ B))) z HJP.out)
            have f1 := E6.out.f jN
            have f2 := E6.out.f jp
            obtain ⟨u, c3⟩ := E6.out.c2 jN (at_mid (A ++ P') ([] ++ y :: (Q ++ (Z ++ B))) z HJP.out) (.int .i64 z)
            have E7 : Hid (RW w0 g T rest n ((A ++ P') ++ y :: ([] ++ z :: (Q ++ (Z ++ B)))) ((w2.setCell ⟨g, jN, none⟩ (.int .i64 z)).setCell ⟨g, jp, none⟩ (.int .i64 y)).drew) := E6.out.down HJP.out (by rw [HJN.out, HJP.out]; simp)
            clear E6
            go_wp2_with fail
            go_big_region_o
            clear c1 c2 c3 f1 f2
            generalize ((w2.setCell ⟨g, jN, none⟩ (.int .i64 z)).setCell ⟨g, jp, none⟩ (.int .i64 y)).drew = w3 at E7 ⊢
            clear ea
            go_wp2
            go_roundg jp
            case measure => omega
            case rel =>
              obtain ⟨e1, e2, e3⟩ := HE.out
              refine ⟨jp, by first | rfl | go_num | (congr 1; omega), by omega, by omega, Nat.le_refl _, ?_⟩
              refine ⟨P', z :: Q, by rw [e1]; simp, ?_, ?_, by simpa using E7.out⟩
              · intro u hu
                rcases List.mem_cons.1 hu with rfl | hu
                · exact hlv
                · exact e2 u hu
              · have := HJP.out; simp at this; omega
          | false =>
            have hv : ¬ cf y z < 0 := fun hh => by rw [hcmp.1 hh] at hlv; cases hlv
            have hd : decide (cf y z < 0) = false := decide_eq_false hv
            clear hcmp
            go_wp2_with fail
            go_quiet_grown (first | (go_at_fn f; refine Calls.grown_of (hc _ _)))
            have E6 : Hid (RW w0 g T rest n ((A ++ P') ++ z :: ([] ++ y :: (Q ++ (Z ++ B)))) (Go.Sort.grow (wr.drewN nq) osq)) := E5.out.grw nq osq
            clear cy cz hc E5
            generalize Go.Sort.grow (wr.drewN nq) osq = w2 at E6 ⊢
            clear nq osq
            go_wp2
            go_roundg (b - (i + 1))
            case measure => omega
            case rel =>
              refine ⟨i + 1, by go_num, by omega, by omega, by omega, OUT.out w2 ?_⟩
              obtain ⟨e1, e2, e3⟩ := HE.out
              obtain ⟨q1, q2, q3, q4⟩ := HQ.out
              refine ⟨P' ++ [z], Q, e1, e2, ?_, by simpa using E6.out⟩
              have hne : z ≠ y := fun e => by have := (HY.out.2 z (by rw [e1]; simp)).2; omega
              have hzy := O.of_not hne (by rw [hlv]; simp)
              rw [e1] at q3
              have h3 := (srt_app.1 (srt_app.1 q3).1).2.2
              intro u hu
              rcases List.mem_append.1 hu with hu | hu
              · exact O.tr (h3 u hu z (by simp)) hzy
              · have : u = z := by simpa using hu
                subst this; exact hzy
        · have hjaz : decide ((j : Int) > (a : Int)) = false := decide_eq_false (by omega)
          have hjaz' : ¬ (a : Int) < (j : Int) := by omega
          go_wp2_with fail
          go_big_region_o
          have E6 := Lib.hid (OUT.out wr.drew (by
            obtain ⟨P, Q, e1, e2, e3, e4⟩ := SJ.out
            have : P = [] := List.length_eq_zero_iff.1 (by have := HA.out; omega)
            subst this
            exact ⟨[], Q, e1, e2, by simp, e4.drew⟩))
          clear SJ
          generalize wr.drew = w2 at E6 ⊢
          go_wp2
          go_roundg (b - (i + 1))
          case measure => omega
          case rel => exact ⟨i + 1, by go_num, by omega, by omega, by omega, E6⟩
    · have hltz : ¬ (i : Int) < (b : Int) := by omega
      go_wp2
      go_end0
      refine ⟨rfl, ?_⟩
      obtain ⟨S0, S, Z, q1, q2, q3, q4, q5⟩ := S1.out
      have hz : Z = [] := List.length_eq_zero_iff.1 (by have h1 := HLEN.out; have h2 := q2.length_eq; rw [q1, List.length_append] at h1; omega)
      subst hz
      rw [List.append_nil] at q1
      subst q1
      exact ⟨S, q2, q3, q5⟩
end Go.Proofs.Ytbohigfhbjconaa.So
