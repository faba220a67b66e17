/- A row of rising numbers sorted by the library's stable sort. Conditions: each theorem's own. -/
import Derived.Test.YtbohigfhbjconaaSoSym
set_option linter.unusedVariables false
namespace Go.Proofs.Ytbohigfhbjconaa.So
open Go.RowKit Hp SoM
variable {w0 W : World} {g n : Nat} {T : TypeId} {rest : List Value} {l : List Int} {f : Nat} {cb : Array Value} {cf : Int → Int → Int} {D : Int → Prop} {lt : Int → Int → Bool}
theorem insAt {A X B : List Int} {a : Nat} {zb : Int} (cap : Nat) (C : Cmp Try.prog f cb cf D w0 g) (O : Ord lt) (TL : Tells lt cf D) (h : RW w0 g T rest n (A ++ (X ++ B)) W) (ha : a = A.length) (hb : zb = ((a + X.length : Nat) : Int)) (hX : X.Pairwise (· < ·)) (hD : ∀ x ∈ X, D x) (hn : n ≤ 1000000) :
    Calls Try.prog 46 #[.slice (some ⟨g, 0, none⟩) n cap, .int .i64 a, .int .i64 zb, .func (.func f) #[] cb] W fun e w' => e = .returned (.tuple #[]) ∧ ∃ X', X'.Perm X ∧ Srt lt X' ∧ RW w0 g T rest n (A ++ (X' ++ B)) w' := by
  subst hb
  exact insertion cap C O TL h ha rfl hX hD hn
theorem mrgAt {A L R B : List Int} {a : Nat} {zm zb : Int} (cap : Nat) (C : Cmp Try.prog f cb cf D w0 g) (O : Ord lt) (TL : Tells lt cf D) (h : RW w0 g T rest n (A ++ (L ++ (R ++ B))) W) (ha : a = A.length) (hm : zm = ((a + L.length : Nat) : Int)) (hb : zb = ((a + L.length + R.length : Nat) : Int))
    (hl : 0 < L.length) (hr : 0 < R.length) (hL : Srt lt L) (hR : Srt lt R) (hLR : Lss L R) (hDL : ∀ x ∈ L, D x) (hDR : ∀ x ∈ R, D x) (hn : n ≤ 1000000) :
    Calls Try.prog 47 #[.slice (some ⟨g, 0, none⟩) n cap, .int .i64 a, .int .i64 zm, .int .i64 zb, .func (.func f) #[] cb] W fun e w' => e = .returned (.tuple #[]) ∧ ∃ M, M.Perm (L ++ R) ∧ Srt lt M ∧ RW w0 g T rest n (A ++ (M ++ B)) w' := by
  subst hm; subst hb
  exact merges cap C O TL hn _ A L R B a _ _ W (Nat.le_refl _) h ha rfl rfl hl hr hL hR hLR hDL hDR
/-- What is left of a block's neighbours. -/
theorem lss_of {A0 X0 Y0 Z0 X Y : List Int} (h : (A0 ++ (X0 ++ (Y0 ++ Z0))).Pairwise (· < ·)) (p : X.Perm X0) (q : Y.Perm Y0) : Lss X Y := by
  intro x hx y hy
  have h1 := (List.pairwise_append.1 h).2.1
  exact (List.pairwise_append.1 h1).2.2 x (p.mem_iff.1 hx) y (List.mem_append_left _ (q.mem_iff.1 hy))
set_option maxHeartbeats 4000000 in
set_option maxRecDepth 1000000 in
theorem stable (cap : Nat) (C : Cmp Try.prog f cb cf D w0 g) (O : Ord lt) (TL : Tells lt cf D) (h : RW w0 g T rest n l W) (hl : l.Pairwise (· < ·)) (hD : ∀ x ∈ l, D x) (hn : n ≤ 1000000) :
    Calls Try.prog 38 #[.slice (some ⟨g, 0, none⟩) n cap, .int .i64 n, .func (.func f) #[] cb] W fun e w' => e = .returned (.tuple #[]) ∧ ∃ l', l'.Perm l ∧ Srt lt l' ∧ RW w0 g T rest n l' w' := by
  have HL := Lib.hid hl
  have HD := Lib.hid hD
  have HLen : Hid (l.length = n) := h.len
  have S0 : Hid (∃ A0 A Z, l = A0 ++ Z ∧ Fu lt 20 A0 A ∧ A.length = 0 ∧ RW w0 g T rest n (A ++ Z) W) := ⟨[], [], l, rfl, Fu.nil, rfl, h⟩
  clear h hl hD
  go_enter Try.func38, Try.ntmps38
  go_wp2_with fail
  go_loopg [7, 8] n (fun kx s7 s8 wr => ∃ (a : Nat), s7 = .int .i64 a ∧ s8 = .int .i64 ((a : Int) + 20) ∧ a ≤ n ∧ n - a ≤ kx ∧ Hid (∃ A0 A Z, l = A0 ++ Z ∧ Fu lt 20 A0 A ∧ A.length = a ∧ RW w0 g T rest n (A ++ Z) wr))
  case atStart => exact ⟨0, rfl, by first | rfl | go_num, Nat.zero_le _, by omega, S0⟩
  case round =>
    clear S0
    obtain ⟨a, rfl, rfl, han, hkx, S1⟩ := hrel
    by_cases hle : a + 20 ≤ n
    · have hlez : (a : Int) + 20 ≤ (n : Int) := by omega
      have NX : Hid (∀ (zb : Int), zb = (a : Int) + 20 → Calls Try.prog 46 #[.slice (some ⟨g, 0, none⟩) n cap, .int .i64 a, .int .i64 zb, .func (.func f) #[] cb] wr fun e w' => e = .returned (.tuple #[]) ∧ ∃ A0 A Z, l = A0 ++ Z ∧ Fu lt 20 A0 A ∧ A.length = a + 20 ∧ RW w0 g T rest n (A ++ Z) w') := by
        rintro zb rfl
        obtain ⟨A0, A, Z, q1, q2, q3, q4⟩ := S1.out
        have hz := q4.len
        rw [List.length_append] at hz
        have e1 : Z = Z.take 20 ++ Z.drop 20 := (List.take_append_drop _ _).symm
        have l1 : (Z.take 20).length = 20 := by rw [List.length_take]; omega
        have hp := HL.out
        have hd := HD.out
        rw [q1, e1] at hp hd
        rw [e1] at q4
        refine (insAt cap C O TL q4 q3.symm (by rw [l1]; omega) (List.pairwise_append.1 (List.pairwise_append.1 hp).2.1).1 (fun x hx => hd x (List.mem_append_right _ (List.mem_append_left _ hx))) hn).mono ?_
        rintro e w' ⟨he, X', p, o, r⟩
        exact ⟨he, A0 ++ Z.take 20, A ++ X', Z.drop 20, by rw [List.append_assoc, ← e1]; exact q1, Fu.snoc q2 p o (by rw [p.length_eq, l1]), by rw [List.length_append, p.length_eq, l1, q3], by rw [List.append_assoc]; exact r⟩
      clear S1
      go_wp2_with fail
      with_reducible refine Calls.mono (NX.out _ (by first | rfl | omega)) ?_
      rintro e w2 ⟨rfl, hw⟩
      have S2 := Lib.hid hw
      clear hw NX
      go_wp2_with fail
      go_roundg (n - (a + 20))
      case measure => omega
      case rel => exact ⟨a + 20, by first | rfl | go_num, by first | rfl | go_num | (congr 1; omega), hle, Nat.le_refl _, S2⟩
    · have hlez : ¬ (a : Int) + 20 ≤ (n : Int) := by omega
      have NX : Hid (Calls Try.prog 46 #[.slice (some ⟨g, 0, none⟩) n cap, .int .i64 a, .int .i64 n, .func (.func f) #[] cb] wr fun e w' => e = .returned (.tuple #[]) ∧ ∃ l1, Bk lt 20 l l1 ∧ RW w0 g T rest n l1 w') := by
        obtain ⟨A0, A, Z, q1, q2, q3, q4⟩ := S1.out
        have hz := q4.len
        rw [List.length_append] at hz
        have hp := HL.out
        have hd := HD.out
        rw [q1] at hp hd
        have q5 : RW w0 g T rest n (A ++ (Z ++ [])) wr := by simpa using q4
        refine (insAt cap C O TL q5 q3.symm (by omega) (List.pairwise_append.1 hp).2.1 (fun x hx => hd x (by simp [hx])) hn).mono ?_
        rintro e w' ⟨he, X', p, o, r⟩
        exact ⟨he, A ++ X', by rw [q1]; exact q2.bk (Bk.last p o (by rw [p.length_eq]; omega)), by simpa using r⟩
      clear S1
      go_wp2_with fail
      with_reducible refine Calls.mono NX.out ?_
      rintro e w2 ⟨rfl, hw⟩
      have S2 := Lib.hid hw
      clear hw NX
      go_wp2_with fail
      go_loopg [6, 7, 8, 9] n (fun kx s6 s7 s8 s9 wr => ∃ (s : Nat), s6 = .int .i64 s ∧ 20 ≤ s ∧ s ≤ 2 * n + 20 ∧ n - s ≤ kx ∧ Hid (∃ l1, Bk lt s l l1 ∧ RW w0 g T rest n l1 wr))
      case atStart => exact ⟨20, rfl, Nat.le_refl _, by omega, by omega, S2⟩
      case round =>
        clear S2
        obtain ⟨s, rfl, h20, hs2, hkx2, S3⟩ := hrel
        by_cases hsn : s < n
        · have hsnz : (s : Int) < (n : Int) := by omega
          have S4 : Hid (∃ A0 A Z0 Z, l = A0 ++ Z0 ∧ Fu lt (s + s) A0 A ∧ Bk lt s Z0 Z ∧ A.length = 0 ∧ RW w0 g T rest n (A ++ Z) wr) := by
            obtain ⟨l1, b1, r1⟩ := S3.out
            exact ⟨[], [], l, l1, rfl, Fu.nil, b1, rfl, r1⟩
          clear S3
          have e2s : IntKind.i64.wrap (2 * (s : Int)) = 2 * (s : Int) := by rw [IntKind.wrap_i64]; omega
          have e2t : IntKind.i64.wrap ((s : Int) * 2) = (s : Int) * 2 := by rw [IntKind.wrap_i64]; omega
          go_wp2_with fail
          go_loopg [7, 8] n (fun ky s7 s8 wr => ∃ (a : Nat), s7 = .int .i64 a ∧ s8 = .int .i64 ((a : Int) + 2 * (s : Int)) ∧ a ≤ n ∧ n - a ≤ ky ∧ Hid (∃ A0 A Z0 Z, l = A0 ++ Z0 ∧ Fu lt (s + s) A0 A ∧ Bk lt s Z0 Z ∧ A.length = a ∧ RW w0 g T rest n (A ++ Z) wr))
          case atStart => exact ⟨0, rfl, by first | rfl | go_num | (congr 1; omega), Nat.zero_le _, by omega, S4⟩
          case round =>
            clear S4
            obtain ⟨a, rfl, rfl, han, hky, S5⟩ := hrel
            by_cases hle : a + 2 * s ≤ n
            · have hlez : (a : Int) + 2 * (s : Int) ≤ (n : Int) := by omega
              have e4 : IntKind.i64.wrap ((a : Int) + (s : Int)) = (a : Int) + (s : Int) := by rw [IntKind.wrap_i64]; omega
              have e5 : IntKind.i64.wrap ((a : Int) + 2 * (s : Int) + 2 * (s : Int)) = (a : Int) + 2 * (s : Int) + 2 * (s : Int) := by rw [IntKind.wrap_i64]; omega
              have NX : Hid (∀ (zm zb : Int), zm = (a : Int) + s → zb = (a : Int) + 2 * s → Calls Try.prog 47 #[.slice (some ⟨g, 0, none⟩) n cap, .int .i64 a, .int .i64 zm, .int .i64 zb, .func (.func f) #[] cb] wr fun e w' => e = .returned (.tuple #[]) ∧ ∃ A0 A Z0 Z, l = A0 ++ Z0 ∧ Fu lt (s + s) A0 A ∧ Bk lt s Z0 Z ∧ A.length = a + 2 * s ∧ RW w0 g T rest n (A ++ Z) w') := by
                rintro zm zb rfl rfl
                obtain ⟨A0, A, Z0, Z, q1, q2, q3, q4, q5⟩ := S5.out
                have hz := q5.len
                rw [List.length_append] at hz
                obtain ⟨X0, X, Y0, Y, x1, x2, x3, x4, x5, x6⟩ := q3.front (by omega)
                subst x1; subst x2
                rw [List.length_append] at hz
                obtain ⟨U0, U, V0, V, u1, u2, u3, u4, u5, u6⟩ := x6.front (by omega)
                subst u1; subst u2
                have hp := HL.out
                have hd := HD.out
                rw [q1] at hp hd
                refine (mrgAt cap C O TL q5 q4.symm (by rw [x5]; omega) (by rw [x5, u5]; omega) (by omega) (by omega) x4 u4 (lss_of hp x3 u3) (fun x hx => hd x (by simp [x3.mem_iff.1 hx])) (fun x hx => hd x (by simp [u3.mem_iff.1 hx])) hn).mono ?_
                rintro e w' ⟨he, M, p, o, r⟩
                exact ⟨he, A0 ++ (X0 ++ U0), A ++ M, V0, V, by rw [q1]; simp, Fu.snoc q2 (p.trans (x3.append u3)) o (by rw [p.length_eq, List.length_append, x5, u5]), u6, by rw [List.length_append, p.length_eq, List.length_append, x5, u5, q4]; omega, by rw [List.append_assoc]; exact r⟩
              clear S5
              go_wp2_with fail
              with_reducible refine Calls.mono (NX.out _ _ (by first | rfl | omega) (by first | rfl | omega)) ?_
              rintro e w3 ⟨rfl, hw⟩
              have S6 := Lib.hid hw
              clear hw NX
              go_wp2_with fail
              go_roundg (n - (a + 2 * s))
              case measure => omega
              case rel => exact ⟨a + 2 * s, by first | rfl | go_num | (congr 1; omega), by first | rfl | go_num | (congr 1; omega), hle, Nat.le_refl _, S6⟩
            · have hlez : ¬ (a : Int) + 2 * (s : Int) ≤ (n : Int) := by omega
              have e4 : IntKind.i64.wrap ((a : Int) + (s : Int)) = (a : Int) + (s : Int) := by rw [IntKind.wrap_i64]; omega
              by_cases hmn : a + s < n
              · have hmnz : (a : Int) + (s : Int) < (n : Int) := by omega
                have NX : Hid (∀ (zm : Int), zm = (a : Int) + s → Calls Try.prog 47 #[.slice (some ⟨g, 0, none⟩) n cap, .int .i64 a, .int .i64 zm, .int .i64 n, .func (.func f) #[] cb] wr fun e w' => e = .returned (.tuple #[]) ∧ ∃ l1, Bk lt (s * 2) l l1 ∧ RW w0 g T rest n l1 w') := by
                  rintro zm rfl
                  obtain ⟨A0, A, Z0, Z, q1, q2, q3, q4, q5⟩ := S5.out
                  have hz := q5.len
                  rw [List.length_append] at hz
                  obtain ⟨X0, X, Y0, Y, x1, x2, x3, x4, x5, x6⟩ := q3.front (by omega)
                  subst x1; subst x2
                  rw [List.length_append] at hz
                  have y1 := x6.perm
                  have y2 := x6.short (by omega)
                  have hp := HL.out
                  have hd := HD.out
                  rw [q1] at hp hd
                  have q6 : RW w0 g T rest n (A ++ (X ++ (Y ++ []))) wr := by simpa using q5
                  refine (mrgAt cap C O TL q6 q4.symm (by rw [x5]; omega) (by rw [x5]; omega) (by omega) (by omega) x4 y2 (lss_of (Z0 := []) (by simpa using hp) x3 y1) (fun x hx => hd x (by simp [x3.mem_iff.1 hx])) (fun x hx => hd x (by simp [y1.mem_iff.1 hx])) hn).mono ?_
                  rintro e w' ⟨he, M, p, o, r⟩
                  refine ⟨he, A ++ M, ?_, by simpa using r⟩
                  rw [q1, show s * 2 = s + s by omega]
                  exact q2.bk (Bk.last (p.trans (x3.append y1)) o (by rw [p.length_eq, List.length_append]; omega))
                clear S5
                go_wp2_with fail
                with_reducible refine Calls.mono (NX.out _ (by first | rfl | omega)) ?_
                rintro e w3 ⟨rfl, hw⟩
                have S6 := Lib.hid hw
                clear hw NX
                go_wp2_with fail
                go_roundg (n - s * 2)
                case measure => omega
                case rel => exact ⟨s * 2, by first | rfl | go_num | (congr 1; omega), by omega, by omega, Nat.le_refl _, S6⟩
              · have hmnz : ¬ (a : Int) + (s : Int) < (n : Int) := by omega
                have S6 : Hid (∃ l1, Bk lt (s * 2) l l1 ∧ RW w0 g T rest n l1 wr) := by
                  obtain ⟨A0, A, Z0, Z, q1, q2, q3, q4, q5⟩ := S5.out
                  have hz := q5.len
                  rw [List.length_append] at hz
                  refine ⟨A ++ Z, ?_, q5⟩
                  rw [q1, show s * 2 = s + s by omega]
                  exact q2.bk (Bk.last q3.perm (q3.short (by omega)) (by omega))
                clear S5
                go_wp2_with fail
                go_roundg (n - s * 2)
                case measure => omega
                case rel => exact ⟨s * 2, by first | rfl | go_num | (congr 1; omega), by omega, by omega, Nat.le_refl _, S6⟩
        · have hsnz : ¬ (s : Int) < (n : Int) := by omega
          go_wp2_with fail
          go_end0
          obtain ⟨l1, b1, r1⟩ := S3.out
          exact ⟨rfl, l1, b1.perm, b1.short (by have := r1.len; omega), r1⟩
/-- The library's stable sort of a row of rising numbers. -/
theorem sortStable (cap : Nat) (C : Cmp Try.prog f cb cf D w0 g) (O : Ord lt) (TL : Tells lt cf D) (h : RW w0 g T rest n l W) (hl : l.Pairwise (· < ·)) (hD : ∀ x ∈ l, D x) (hn : n ≤ 1000000) :
    Calls Try.prog 24 #[.slice (some ⟨g, 0, none⟩) n cap, .func (.func f) #[] cb] W fun e w' => e = .returned (.tuple #[]) ∧ ∃ l', l'.Perm l ∧ Srt lt l' ∧ RW w0 g T rest n l' w' := by
  have ST := Lib.hid (stable cap C O TL h hl hD hn)
  clear h hl hD
  go_enter Try.func24, Try.ntmps24
  go_wp2_with fail
  with_reducible refine Calls.mono ST.out ?_
  rintro e w2 ⟨rfl, hw⟩
  have HW := Lib.hid hw
  clear hw ST
  go_wp2_with fail
  go_end0
  exact ⟨rfl, HW.out⟩
/-- Of nothing. -/
theorem sortNone (fv : Value) (w : World) : Calls Try.prog 24 #[.slice none 0 0, fv] w fun e w' => e = .returned (.tuple #[]) ∧ w = w' := by
  have IN : Hid (∀ (w : World), Calls Try.prog 46 #[.slice none 0 0, .int .i64 0, .int .i64 0, fv] w fun e w' => e = .returned (.tuple #[]) ∧ w = w') := by
    intro w
    go_enter Try.func46, Try.ntmps46
    go_wp2_with fail
    refine wp_loop_rounds 1 ?_
    rw [rounds_succ]
    go_wp2_with fail
    go_end0
    exact ⟨rfl, rfl⟩
  have ST : Hid (∀ (w : World), Calls Try.prog 38 #[.slice none 0 0, .int .i64 0, fv] w fun e w' => e = .returned (.tuple #[]) ∧ w = w') := by
    intro w
    go_enter Try.func38, Try.ntmps38
    go_wp2_with fail
    refine wp_loop_rounds 1 ?_
    rw [rounds_succ]
    go_wp2_with fail
    with_reducible refine Calls.mono (IN.out _) ?_
    rintro e w2 ⟨rfl, rfl⟩
    go_wp2_with fail
    refine wp_loop_rounds 1 ?_
    rw [rounds_succ]
    go_wp2_with fail
    go_end0
    exact ⟨rfl, rfl⟩
  go_enter Try.func24, Try.ntmps24
  go_wp2_with fail
  with_reducible refine Calls.mono (ST.out _) ?_
  rintro e w2 ⟨rfl, rfl⟩
  go_wp2_with fail
  go_end0
  exact ⟨rfl, rfl⟩
end Go.Proofs.Ytbohigfhbjconaa.So
