/- Two sorted parts of a row merged in place. Conditions: each theorem's own. -/
import Derived.Test.YtbohigfhbjconaaSoLast
import Derived.Test.YtbohigfhbjconaaSoTail
import Derived.Deep.CutBlock
import Derived.Deep.DeepCutAuto
set_option linter.unusedVariables false
namespace Go.Proofs.Ytbohigfhbjconaa.So
open Go.RowKit Hp SoM
variable {w0 W : World} {g n : Nat} {T : TypeId} {rest : List Value} {l : List Int} {f : Nat} {cb : Array Value} {cf : Int → Int → Int} {D : Int → Prop} {lt : Int → Int → Bool}
/-- The merge of two parts that are together no longer than N. -/
def Merges (w0 : World) (g n : Nat) (T : TypeId) (rest : List Value) (f : Nat) (cb : Array Value) (D : Int → Prop) (lt : Int → Int → Bool) (cap N : Nat) : Prop :=
  ∀ (A L R B : List Int) (a m b : Nat) (W : World), L.length + R.length ≤ N → RW w0 g T rest n (A ++ (L ++ (R ++ B))) W → a = A.length → m = a + L.length → b = m + R.length → 0 < L.length → 0 < R.length → Srt lt L → Srt lt R → Lss L R → (∀ x ∈ L, D x) → (∀ x ∈ R, D x) →
    Calls Try.prog 47 #[.slice (some ⟨g, 0, none⟩) n cap, .int .i64 a, .int .i64 m, .int .i64 b, .func (.func f) #[] cb] W fun e w' => e = .returned (.tuple #[]) ∧ ∃ M, M.Perm (L ++ R) ∧ Srt lt M ∧ RW w0 g T rest n (A ++ (M ++ B)) w'
/-- The place that the search has found parts both. -/
structure Parts (lt : Int → Int → Bool) (L R L1 L2 R1 R2 : List Int) : Prop where
  l : L = L1 ++ L2
  r : R = R1 ++ R2
  h1 : ∀ x ∈ L1, ∀ y ∈ R2, lt x y = true
  h2 : ∀ y ∈ R1, ∀ x ∈ L2, lt y x = true
set_option maxHeartbeats 8000000 in
set_option maxRecDepth 1000000 in
theorem sym_deep {A L R B : List Int} {a m b N : Nat} (cap : Nat) (C : Cmp Try.prog f cb cf D w0 g) (O : Ord lt) (TL : Tells lt cf D) (IH : Merges w0 g n T rest f cb D lt cap N) (h : RW w0 g T rest n (A ++ (L ++ (R ++ B))) W) (ha : a = A.length) (hm : m = a + L.length) (hb : b = m + R.length)
    (hN : L.length + R.length ≤ N + 1) (hl2 : 2 ≤ L.length) (hr2 : 2 ≤ R.length) (hL : Srt lt L) (hR : Srt lt R) (hLR : Lss L R) (hDL : ∀ y ∈ L, D y) (hDR : ∀ y ∈ R, D y) (hn : n ≤ 1000000) :
    Calls Try.prog 47 #[.slice (some ⟨g, 0, none⟩) n cap, .int .i64 a, .int .i64 m, .int .i64 b, .func (.func f) #[] cb] W fun e w' => e = .returned (.tuple #[]) ∧ ∃ M, M.Perm (L ++ R) ∧ Srt lt M ∧ RW w0 g T rest n (A ++ (M ++ B)) w' := by
  have hbn : b ≤ n := by have := h.len; simp at this; omega
  have mixed := mixed
  have eg := C.eg
  have hd0 : ((m : Int) - (a : Int) == 1) = false := by rw [beq_eq_false_iff_ne]; omega
  have hd1 : ((b : Int) - (m : Int) == 1) = false := by rw [beq_eq_false_iff_ne]; omega
  have S0 := Lib.hid h
  have HA := Lib.hid ha
  have HB := Lib.hid hb
  have HM := Lib.hid hm
  have HN := Lib.hid hN
  have hma : a + 2 ≤ m := by omega
  have hmb : m + 2 ≤ b := by omega
  obtain ⟨mid, hmid⟩ : ∃ mid, (a + b) / 2 = mid := ⟨_, rfl⟩
  have e0 : ((a : Int) + (b : Int)) / 2 = (mid : Int) := by omega
  have hmid1 : a + b ≤ 2 * mid + 1 := by omega
  have hmid2 : 2 * mid ≤ a + b := by omega
  obtain ⟨nn, hnn⟩ : ∃ nn, mid + m = nn := ⟨_, rfl⟩
  have e1 : (mid : Int) + (m : Int) = (nn : Int) := by omega
  have e2 : IntKind.i64.wrap ((mid : Int) + (m : Int)) = (nn : Int) := by rw [IntKind.wrap_i64]; omega
  have hnn1 : nn ≤ 2 * n := by omega
  obtain ⟨p, hp⟩ : ∃ p, p + 1 = nn := ⟨nn - 1, by omega⟩
  have e7 : (nn : Int) - 1 = (p : Int) := by omega
  have e8 : IntKind.i64.wrap ((nn : Int) - 1) = (p : Int) := by rw [IntKind.wrap_i64]; omega
  obtain ⟨s0, r0, hcase⟩ : ∃ s0 r0 : Nat, mid < m ∧ s0 + b = nn ∧ r0 = mid ∨ m ≤ mid ∧ s0 = a ∧ r0 = m := by
    rcases Nat.lt_or_ge mid m with h | h
    · exact ⟨nn - b, mid, Or.inl ⟨h, by omega, rfl⟩⟩
    · exact ⟨a, m, Or.inr ⟨h, rfl, rfl⟩⟩
  have hs1 : a ≤ s0 ∧ s0 ≤ r0 ∧ r0 ≤ m ∧ m + r0 ≤ nn ∧ nn ≤ b + s0 := by omega
  obtain ⟨hs1, hs2, hs3, hs4, hs5⟩ := hs1
  have HNN := Lib.hid hnn
  clear h ha hb hm hmid hnn hN
  go_enter Try.func47, Try.ntmps47
  go_upto_if 140 with fail
  go_cut [20, 21] (fun s20 s21 wx => s20 = .int .i64 s0 ∧ s21 = .int .i64 r0 ∧ wx = W)
  case first =>
    rcases hcase with ⟨c1, c2, c3⟩ | ⟨c1, c2, c3⟩
    · have d1 : (m : Int) > (mid : Int) := by omega
      have d2 : (mid : Int) < (m : Int) := by omega
      have d3 : (nn : Int) - (b : Int) = (s0 : Int) := by omega
      subst c3
      go_wp2_with fail
      go_meet
      exact ⟨by first | rfl | rw [d3], rfl, rfl⟩
    · have d1 : ¬ (m : Int) > (mid : Int) := by omega
      have d2 : ¬ (mid : Int) < (m : Int) := by omega
      subst c2; subst c3
      go_wp2_with fail
      go_meet
      exact ⟨rfl, rfl, rfl⟩
  case rest =>
  obtain ⟨rfl, rfl, rfl⟩ := hcut
  have HC := Lib.hid hcase
  clear hcase
  go_wp2_with fail
  go_loopg [20, 21] (r0 - s0) (fun kx s20 s21 wr => ∃ (s r : Nat), s20 = .int .i64 s ∧ s21 = .int .i64 r ∧ s0 ≤ s ∧ s ≤ r ∧ r ≤ r0 ∧ r - s ≤ kx ∧
    Hid ((s = s0 ∨ ∃ x y, L[s - 1 - a]? = some x ∧ R[nn - s - m]? = some y ∧ lt x y = true) ∧ (r = r0 ∨ ∃ x y, L[r - a]? = some x ∧ R[p - r - m]? = some y ∧ lt y x = true)) ∧ Hid (RW w0 g T rest n (A ++ (L ++ (R ++ B))) wr))
  case atStart => exact ⟨s0, r0, rfl, rfl, Nat.le_refl _, hs2, Nat.le_refl _, Nat.le_refl _, ⟨Or.inl rfl, Or.inl rfl⟩, S0⟩
  case round =>
    clear S0
    obtain ⟨s, r, rfl, rfl, hss, hsr, hrr, hkx, HI, S1⟩ := hrel
    by_cases hlt : s < r
    · have hltz : (s : Int) < (r : Int) := by omega
      obtain ⟨c, hc0⟩ : ∃ c, (s + r) / 2 = c := ⟨_, rfl⟩
      have e3 : ((s : Int) + (r : Int)) / 2 = (c : Int) := by omega
      have hc1 : s ≤ c := by omega
      have hc2 : c < r := by omega
      obtain ⟨d, hd⟩ : ∃ d, p - c = d := ⟨_, rfl⟩
      have ed : ((p : Int) - (c : Int)).toNat = d := by omega
      have pd : (0 : Int) ≤ (p : Int) - (c : Int) := by omega
      have pd2 : (c : Int) ≤ (p : Int) := by omega
      have pd3 : c ≤ p := by omega
      have bd : (p : Int) - (c : Int) < (n : Int) := by omega
      have rd : IntKind.i64.wrap ((p : Int) - (c : Int)) = (p : Int) - (c : Int) := by rw [IntKind.wrap_i64]; omega
      have hd2 : m ≤ d := by omega
      have hd3 : d < b := by omega
      have hd4 : d < n := by omega
      have hc4 : c < n := by omega
      obtain ⟨x, hx⟩ : ∃ x, L[c - a]? = some x := ⟨_, List.getElem?_eq_getElem (by have := HM.out; omega)⟩
      obtain ⟨y, hy⟩ : ∃ y, R[d - m]? = some y := ⟨_, List.getElem?_eq_getElem (by have := HB.out; omega)⟩
      have hxL : x ∈ L := List.mem_of_getElem? hx
      have hyR : y ∈ R := List.mem_of_getElem? hy
      have cx := S1.out.cl (at_in0 (A := A) (L := L) (B := R ++ B) (i := c) (c - a) hx (by have := HA.out; omega))
      have cy := S1.out.cl (at_in (A := A) (L := L) (R := R) (B := B) (i := d) (d - m) hy (by have := HA.out; have := HM.out; omega))
      have hc := C.at S1.out (hDR y hyR) (hDL x hxL)
      have hcmp := TL x y (hDL x hxL) (hDR y hyR) (hLR x hxL y hyR)
      have HX := Lib.hid hx
      have HY := Lib.hid hy
      have HNE : Hid (x ≠ y) := by have := hLR x hxL y hyR; show x ≠ y; omega
      have HD := Lib.hid hd
      clear hc0 hd hx hy hxL hyR
      cases hlv : lt y x with
      | true =>
        have hv : cf y x < 0 := hcmp.2 hlv
        have hd : decide (cf y x < 0) = true := decide_eq_true hv
        clear hcmp
        go_wp2_with fail
        go_quiet_grown (first | (go_at_fn f; refine Calls.grown_of (hc _ _)))
        have S2 : Hid (RW w0 g T rest n (A ++ (L ++ (R ++ B))) (Go.Sort.grow (wr.drewN nq) osq)) := S1.out.grw nq osq
        clear cx cy hc S1
        generalize Go.Sort.grow (wr.drewN nq) osq = w2 at S2 ⊢
        clear nq osq
        go_wp2
        go_roundg (c - s)
        case measure => omega
        case rel => exact ⟨s, c, rfl, rfl, hss, hc1, by omega, Nat.le_refl _, ⟨HI.out.1, Or.inr ⟨x, y, HX.out, by rw [HD.out]; exact HY.out, hlv⟩⟩, S2⟩
      | false =>
        have hv : ¬ cf y x < 0 := fun hh => by rw [hcmp.1 hh] at hlv; cases hlv
        have hd : decide (cf y x < 0) = false := decide_eq_false hv
        clear hcmp
        go_wp2_with fail
        go_quiet_grown (first | (go_at_fn f; refine Calls.grown_of (hc _ _)))
        have S2 : Hid (RW w0 g T rest n (A ++ (L ++ (R ++ B))) (Go.Sort.grow (wr.drewN nq) osq)) := S1.out.grw nq osq
        clear cx cy hc S1
        generalize Go.Sort.grow (wr.drewN nq) osq = w2 at S2 ⊢
        clear nq osq
        go_wp2
        go_roundg (r - (c + 1))
        case measure => omega
        case rel => exact ⟨c + 1, r, by go_num, rfl, by omega, by omega, hrr, Nat.le_refl _, ⟨Or.inr ⟨x, y, by rw [show c + 1 - 1 - a = c - a by omega]; exact HX.out, by rw [show nn - (c + 1) - m = p - c - m by omega, HD.out]; exact HY.out, O.of_not HNE.out (by rw [hlv]; simp)⟩, HI.out.2⟩, S2⟩
    · have hltz : ¬ (s : Int) < (r : Int) := by omega
      obtain rfl : s = r := by omega
      obtain ⟨en, hen⟩ : ∃ en, nn - s = en := ⟨_, rfl⟩
      have e5 : (nn : Int) - (s : Int) = (en : Int) := by omega
      have e6 : IntKind.i64.wrap ((nn : Int) - (s : Int)) = (en : Int) := by rw [IntKind.wrap_i64]; omega
      have he1 : m ≤ en := by omega
      have he2 : en ≤ b := by omega
      have he3 : s ≤ m := by omega
      have he4 : a ≤ s := by omega
      obtain ⟨L1, L2, R1, R2, PT, q1, q2, q3, q4⟩ : ∃ L1 L2 R1 R2, Parts lt L R L1 L2 R1 R2 ∧ L1.length = s - a ∧ L2.length = m - s ∧ R1.length = en - m ∧ R2.length = b - en := by
        have h1 := HM.out
        have h2 := HB.out
        refine ⟨L.take (s - a), L.drop (s - a), R.take (en - m), R.drop (en - m), ⟨(List.take_append_drop _ _).symm, (List.take_append_drop _ _).symm, ?_, ?_⟩, by rw [List.length_take]; omega, by rw [List.length_drop]; omega, by rw [List.length_take]; omega, by rw [List.length_drop]; omega⟩
        · rcases HI.out.1 with k | ⟨x, y, k1, k2, k3⟩
          · rcases HC.out with ⟨c1, c2, c3⟩ | ⟨c1, c2, c3⟩
            · rw [List.drop_eq_nil_of_le (by have := HNN.out; omega : R.length ≤ en - m)]; simp
            · rw [show s - a = 0 by omega]; simp
          · rcases Nat.eq_zero_or_pos (s - a) with z | z
            · rw [z]; simp
            · have := cross O hL hR k1 k2 k3
              rw [show s - 1 - a + 1 = s - a by omega, show nn - s - m = en - m by omega] at this
              exact this
        · rcases HI.out.2 with k | ⟨x, y, k1, k2, k3⟩
          · rcases HC.out with ⟨c1, c2, c3⟩ | ⟨c1, c2, c3⟩
            · rw [show en - m = 0 by have := HNN.out; omega]; simp
            · rw [List.drop_eq_nil_of_le (by omega : L.length ≤ s - a)]; simp
          · rcases Nat.eq_zero_or_pos (en - m) with z | z
            · rw [z]; simp
            · have := cross O hR hL k2 k1 k3
              rw [show p - s - m + 1 = en - m by omega] at this
              exact this
      have hmid3 : s - a + (en - m) = mid - a ∧ m - s + (b - en) = b - mid ∧ mid - s = en - m ∧ en - mid = m - s ∧ s ≤ mid ∧ mid ≤ en := by have := HNN.out; omega
      obtain ⟨hm3, hm4, hm5, hm6, hm7, hm8⟩ := hmid3
      have hA' := HA.out
      have HP := Lib.hid PT
      have HQ := Lib.hid (⟨q1, q2, q3, q4⟩ : L1.length = s - a ∧ L2.length = m - s ∧ R1.length = en - m ∧ R2.length = b - en)
      have S2 : Hid (RW w0 g T rest n (A ++ (L1 ++ (L2 ++ (R1 ++ (R2 ++ B))))) wr) := by
        show RW w0 g T rest n _ _
        have := S1.out; rw [PT.l, PT.r] at this; simpa using this
      have HAA := Lib.hid hA'
      have HS1 : Hid (Srt lt L1 ∧ Srt lt R1 ∧ Lss L1 R1 ∧ (∀ x ∈ L1, D x) ∧ (∀ x ∈ R1, D x)) := by
        have hl := hL; have hr := hR; rw [PT.l] at hl; rw [PT.r] at hr
        exact ⟨(srt_app.1 hl).1, (srt_app.1 hr).1, fun x hx y hy => hLR x (by rw [PT.l]; exact List.mem_append_left _ hx) y (by rw [PT.r]; exact List.mem_append_left _ hy), fun x hx => hDL x (by rw [PT.l]; exact List.mem_append_left _ hx), fun x hx => hDR x (by rw [PT.r]; exact List.mem_append_left _ hx)⟩
      have HS2 : Hid (Srt lt L2 ∧ Srt lt R2 ∧ Lss L2 R2 ∧ (∀ x ∈ L2, D x) ∧ (∀ x ∈ R2, D x)) := by
        have hl := hL; have hr := hR; rw [PT.l] at hl; rw [PT.r] at hr
        exact ⟨(srt_app.1 hl).2.1, (srt_app.1 hr).2.1, fun x hx y hy => hLR x (by rw [PT.l]; exact List.mem_append_right _ hx) y (by rw [PT.r]; exact List.mem_append_right _ hy), fun x hx => hDL x (by rw [PT.l]; exact List.mem_append_right _ hx), fun x hx => hDR x (by rw [PT.r]; exact List.mem_append_right _ hx)⟩
      have HSL : Hid (Srt lt (L1 ++ L2) ∧ Srt lt (R1 ++ R2)) := ⟨by rw [← PT.l]; exact hL, by rw [← PT.r]; exact hR⟩
      have HLen : Hid (L.length = m - a ∧ R.length = b - m) := ⟨by have := HM.out; omega, by have := HB.out; omega⟩
      have HIH := Lib.hid IH
      clear PT q1 q2 q3 q4 S1 hA' HI hkx hen hL hR hLR hDL hDR IH
      go_upto_region 38 with fail
      go_cut [24] from 175 to 177 (fun v wx => v = .int .i64 en ∧ wx = wr)
      case first =>
        go_wp2_with fail
        go_meet
        exact ⟨by first | rfl | rw [e5], rfl⟩
      case rest =>
      obtain ⟨rfl, rfl⟩ := hcut
      rename_i K hK
      refine hK _ _ ?_
      clear hK K
      refine tail (P1 := fun w => RW w0 g T rest n (A ++ (L1 ++ (L2 ++ (R1 ++ (R2 ++ B))))) w) (P2 := fun w => RW w0 g T rest n (A ++ (L1 ++ (R1 ++ (L2 ++ (R2 ++ B))))) w) (P3 := fun w => ∃ M1, M1.Perm (L1 ++ R1) ∧ Srt lt M1 ∧ RW w0 g T rest n (A ++ (M1 ++ (L2 ++ (R2 ++ B)))) w)
        (P4 := fun w => ∃ M, M.Perm (L ++ R) ∧ Srt lt M ∧ RW w0 g T rest n (A ++ (M ++ B)) w) ?_ ?_ ?_ ?_ ?_ ?_ ?_ S2.out
      · intro k1 k2 w hw
        refine (rotate (A := A ++ L1) (U := L2) (V := R1) (B := R2 ++ B) (a := s) (m := m) (b := en) cap (.func (.func f) #[] cb) (by simpa using hw) (by have := HQ.out; have := HAA.out; simp; omega) (by have := HQ.out; omega) (by have := HQ.out; omega) (by have := HQ.out; omega) (by have := HQ.out; omega) hn).mono ?_
        rintro e w' ⟨he, h⟩
        exact ⟨he, by simpa using h⟩
      · intro hk w hw
        have hz : L2 = [] ∨ R1 = [] := by
          rcases Nat.lt_or_ge s m with h | h
          · exact Or.inr (List.length_eq_zero_iff.1 (by have := HQ.out; omega))
          · exact Or.inl (List.length_eq_zero_iff.1 (by have := HQ.out; omega))
        rcases hz with hz | hz
        · rw [hz] at hw ⊢
          simpa using hw
        · rw [hz] at hw ⊢
          simpa using hw
      · intro k1 k2 w hw
        exact HIH.out A L1 R1 (L2 ++ (R2 ++ B)) a s mid w (by have := HQ.out; have := HN.out; have := HLen.out; omega) hw HAA.out (by have := HQ.out; omega) (by have := HQ.out; omega) (by have := HQ.out; omega) (by have := HQ.out; omega) HS1.out.1 HS1.out.2.1 HS1.out.2.2.1 HS1.out.2.2.2.1 HS1.out.2.2.2.2
      · intro hk w hw
        have hz : L1 = [] ∨ R1 = [] := by
          rcases Nat.lt_or_ge a s with h | h
          · exact Or.inr (List.length_eq_zero_iff.1 (by have := HQ.out; omega))
          · exact Or.inl (List.length_eq_zero_iff.1 (by have := HQ.out; omega))
        rcases hz with hz | hz
        · rw [hz] at hw ⊢
          exact ⟨R1, by simp, HS1.out.2.1, by simpa using hw⟩
        · rw [hz] at hw ⊢
          exact ⟨L1, by simp, HS1.out.1, by simpa using hw⟩
      · rintro k1 k2 w ⟨M1, p1, s1, hw⟩
        refine (HIH.out (A ++ M1) L2 R2 B mid en b w (by have := HQ.out; have := HN.out; have := HLen.out; omega) (by simpa using hw) (by have := p1.length_eq; have := HQ.out; have := HAA.out; simp at *; omega) (by have := HQ.out; omega) (by have := HQ.out; omega) (by have := HQ.out; omega) (by have := HQ.out; omega) HS2.out.1 HS2.out.2.1 HS2.out.2.2.1 HS2.out.2.2.2.1 HS2.out.2.2.2.2).mono ?_
        rintro e w' ⟨he, M2, p2, s2, hw'⟩
        have := mg HSL.out.1 HSL.out.2 HP.out.h1 HP.out.h2 p1 p2 s1 s2
        refine ⟨he, M1 ++ M2, ?_, this.1, by simpa using hw'⟩
        rw [HP.out.l, HP.out.r]; exact this.2
      · rintro hk w ⟨M1, p1, s1, hw⟩
        have FIN : ∀ M2, M2.Perm (L2 ++ R2) → Srt lt M2 → RW w0 g T rest n (A ++ (M1 ++ (M2 ++ B))) w → ∃ M, M.Perm (L ++ R) ∧ Srt lt M ∧ RW w0 g T rest n (A ++ (M ++ B)) w := by
          intro M2 p2 s2 hw
          have := mg HSL.out.1 HSL.out.2 HP.out.h1 HP.out.h2 p1 p2 s1 s2
          refine ⟨M1 ++ M2, ?_, this.1, by simpa using hw⟩
          rw [HP.out.l, HP.out.r]; exact this.2
        have hz : L2 = [] ∨ R2 = [] := by
          rcases Nat.lt_or_ge mid en with h | h
          · exact Or.inr (List.length_eq_zero_iff.1 (by have := HQ.out; omega))
          · exact Or.inl (List.length_eq_zero_iff.1 (by have := HQ.out; omega))
        rcases hz with hz | hz
        · exact FIN R2 (by rw [hz]; simp) HS2.out.2.1 (by rw [hz] at hw; simpa using hw)
        · exact FIN L2 (by rw [hz]; simp) HS2.out.1 (by rw [hz] at hw; simpa using hw)
      · intro fr w' hfr hw'
        exact bodyPost_end (results_none rfl _ _ _) hfr ⟨rfl, hw'⟩
/-- Two sorted parts of a row merged in place. -/
theorem merges (cap : Nat) (C : Cmp Try.prog f cb cf D w0 g) (O : Ord lt) (TL : Tells lt cf D) (hn : n ≤ 1000000) : ∀ N, Merges w0 g n T rest f cb D lt cap N
  | 0 => by intro A L R B a m b W hN _ _ _ _ hl hr; omega
  | N + 1 => by
    intro A L R B a m b W hN h ha hm hb hl hr hL hR hLR hDL hDR
    rcases Nat.lt_or_ge L.length 2 with h1 | h1
    · obtain ⟨x, rfl⟩ := List.length_eq_one_iff.1 (show L.length = 1 by omega)
      exact sym_one cap C O TL h ha (by simpa using hm) hb hR (fun y hy => hLR x (by simp) y hy) (hDL x (by simp)) hDR hn
    · rcases Nat.lt_or_ge R.length 2 with h2 | h2
      · obtain ⟨x, rfl⟩ := List.length_eq_one_iff.1 (show R.length = 1 by omega)
        exact sym_last cap C O TL (by simpa using h) ha hm (by simpa using hb) h1 hL (fun y hy => hLR y hy x (by simp)) (hDR x (by simp)) hDL hn
      · exact sym_deep cap C O TL (merges cap C O TL hn N) h ha hm hb hN h1 h2 hL hR hLR hDL hDR hn
end Go.Proofs.Ytbohigfhbjconaa.So
