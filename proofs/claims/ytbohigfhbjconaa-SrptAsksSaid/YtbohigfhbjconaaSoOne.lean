/- Two sorted parts of a row merged, where one of them is a single number. Conditions: each theorem's own. -/
import Derived.Test.YtbohigfhbjconaaSoIns
set_option linter.unusedVariables false
namespace Go.Proofs.Ytbohigfhbjconaa.So
open Go.RowKit Hp SoM
variable {w0 W : World} {g n : Nat} {T : TypeId} {rest : List Value} {l : List Int} {f : Nat} {cb : Array Value} {cf : Int → Int → Int} {D : Int → Prop} {lt : Int → Int → Bool}
theorem at_in {A L R B : List Int} {i : Nat} {x : Int} (k : Nat) (h : R[k]? = some x) (hi : i = A.length + L.length + k) : (A ++ (L ++ (R ++ B)))[i]? = some x := by
  subst hi
  have hk := (List.getElem?_eq_some_iff.1 h).1
  rw [List.getElem?_append_right (by omega), List.getElem?_append_right (by omega), List.getElem?_append_left (by omega), show A.length + L.length + k - A.length - L.length = k by omega]
  exact h
theorem at_in0 {A L B : List Int} {i : Nat} {x : Int} (k : Nat) (h : L[k]? = some x) (hi : i = A.length + k) : (A ++ (L ++ B))[i]? = some x := at_in (L := []) k h (by simpa using hi)
set_option maxHeartbeats 4000000 in
set_option maxRecDepth 1000000 in
theorem sym_one {A R B : List Int} {x : Int} {a m b : Nat} (cap : Nat) (C : Cmp Try.prog f cb cf D w0 g) (O : Ord lt) (TL : Tells lt cf D) (h : RW w0 g T rest n (A ++ ([x] ++ (R ++ B))) W) (ha : a = A.length) (hm : m = a + 1) (hb : b = m + R.length)
    (hR : Srt lt R) (hL : ∀ y ∈ R, x < y) (hx : D x) (hD : ∀ y ∈ R, D y) (hn : n ≤ 1000000) :
    Calls Try.prog 47 #[.slice (some ⟨g, 0, none⟩) n cap, .int .i64 a, .int .i64 m, .int .i64 b, .func (.func f) #[] cb] W fun e w' => e = .returned (.tuple #[]) ∧ ∃ M, M.Perm ([x] ++ R) ∧ Srt lt M ∧ RW w0 g T rest n (A ++ (M ++ B)) w' := by
  have hbn : b ≤ n := by have := h.len; simp at this; omega
  have mixed := mixed
  have eg := C.eg
  have hd0 : ((m : Int) - (a : Int) == 1) = true := by rw [beq_iff_eq]; omega
  have S0 := Lib.hid h
  have HA := Lib.hid ha
  have HB := Lib.hid hb
  have HM := Lib.hid hm
  have hma : a < m := by omega
  have hmb : m ≤ b := by omega
  clear h ha hb hm
  go_enter Try.func47, Try.ntmps47
  go_wp2_with fail
  go_loopg [10, 11] (b - m) (fun kx s10 s11 wr => ∃ (i j : Nat), s10 = .int .i64 i ∧ s11 = .int .i64 j ∧ m ≤ i ∧ i ≤ j ∧ j ≤ b ∧ j - i ≤ kx ∧ Hid ((∀ u ∈ R.take (i - m), lt u x = true) ∧ (∀ u ∈ R.drop (j - m), lt x u = true)) ∧ Hid (RW w0 g T rest n (A ++ ([x] ++ (R ++ B))) wr))
  case atStart => exact ⟨m, b, rfl, rfl, Nat.le_refl _, hmb, Nat.le_refl _, Nat.le_refl _, ⟨by simp, by have := HB.out; rw [List.drop_eq_nil_of_le (by omega)]; simp⟩, S0⟩
  case round =>
    clear S0
    obtain ⟨i, j, rfl, rfl, hmi, hij, hjb, hkx, HI, S1⟩ := hrel
    by_cases hlt : i < j
    · have hltz : (i : Int) < (j : Int) := by omega
      obtain ⟨md, hmd⟩ : ∃ md, (i + j) / 2 = md := ⟨_, rfl⟩
      have e1 : ((i : Int) + (j : Int)) / 2 = (md : Int) := by omega
      have hm1 : i ≤ md := by omega
      have hm2 : md < j := by omega
      have hm3 : md < n := by omega
      have hm4 : a < n := by omega
      have HLen := HB.out
      obtain ⟨y, hy⟩ : ∃ y, R[md - m]? = some y := ⟨_, List.getElem?_eq_getElem (by omega)⟩
      have hyR : y ∈ R := List.mem_of_getElem? hy
      have HY := Lib.hid hy
      have cy := S1.out.cl (at_in (A := A) (L := [x]) (B := B) (i := md) (md - m) hy (by have := HA.out; have := HM.out; simp; omega))
      have cx := S1.out.cl (at_in0 (A := A) (L := [x]) (B := R ++ B) (i := a) 0 rfl (by have := HA.out; omega))
      have hc := C.at S1.out (hD y hyR) hx
      have hcmp := TL x y hx (hD y hyR) (hL y hyR)
      have HNE : Hid (x ≠ y) := by have := hL y hyR; show x ≠ y; omega
      clear hmd hy hyR HLen
      cases hlv : lt y x with
      | true =>
        have hv : cf y x < 0 := hcmp.2 hlv
        have hd : decide (cf y x < 0) = true := decide_eq_true hv
        clear hcmp
        go_wp2_with fail
        go_quiet_grown (first | (go_at_fn f; refine Calls.grown_of (hc _ _)))
        have S2 : Hid (RW w0 g T rest n (A ++ ([x] ++ (R ++ B))) (Go.Sort.grow (wr.drewN nq) osq)) := S1.out.grw nq osq
        clear cx cy hc S1
        generalize Go.Sort.grow (wr.drewN nq) osq = w2 at S2 ⊢
        clear nq osq
        go_wp2
        go_roundg (j - (md + 1))
        case measure => omega
        case rel =>
          refine ⟨md + 1, j, by go_num, rfl, by omega, by omega, hjb, Nat.le_refl _, ⟨?_, HI.out.2⟩, S2⟩
          rw [show md + 1 - m = (md - m) + 1 by omega]
          exact take_lt O hR HY.out hlv
      | false =>
        have hv : ¬ cf y x < 0 := fun hh => by rw [hcmp.1 hh] at hlv; cases hlv
        have hd : decide (cf y x < 0) = false := decide_eq_false hv
        clear hcmp
        go_wp2_with fail
        go_quiet_grown (first | (go_at_fn f; refine Calls.grown_of (hc _ _)))
        have S2 : Hid (RW w0 g T rest n (A ++ ([x] ++ (R ++ B))) (Go.Sort.grow (wr.drewN nq) osq)) := S1.out.grw nq osq
        clear cx cy hc S1
        generalize Go.Sort.grow (wr.drewN nq) osq = w2 at S2 ⊢
        clear nq osq
        go_wp2
        go_roundg (md - i)
        case measure => omega
        case rel => exact ⟨i, md, rfl, rfl, hmi, by omega, by omega, Nat.le_refl _, ⟨HI.out.1, drop_gt O hR HY.out (O.of_not HNE.out (by rw [hlv]; simp))⟩, S2⟩
    · have hltz : ¬ (i : Int) < (j : Int) := by omega
      obtain rfl : i = j := by omega
      obtain ⟨U1, hU1⟩ : ∃ U, U = R.take (i - m) := ⟨_, rfl⟩
      obtain ⟨U2, hU2⟩ : ∃ U, U = R.drop (i - m) := ⟨_, rfl⟩
      have hU : R = U1 ++ U2 := by rw [hU1, hU2, List.take_append_drop]
      have HU : Hid (R = U1 ++ U2 ∧ U1.length = i - m ∧ (∀ u ∈ U1, lt u x = true) ∧ (∀ u ∈ U2, lt x u = true)) := ⟨hU, by have := HB.out; rw [hU1, List.length_take]; omega, by rw [hU1]; exact HI.out.1, by rw [hU2]; exact HI.out.2⟩
      have S2 : Hid (∃ V1 V2, U1 = V1 ++ V2 ∧ A.length + V1.length = a ∧ RW w0 g T rest n (A ++ (V1 ++ x :: (V2 ++ (U2 ++ B)))) wr) := ⟨[], U1, rfl, by have := HA.out; simp; omega, by have := S1.out; rw [hU] at this; simpa using this⟩
      clear hU1 hU2 hU S1 HI hij hkx
      have e3 : IntKind.i64.wrap ((i : Int) - 1) = (i : Int) - 1 := by rw [IntKind.wrap_i64]; omega
      go_wp2_with fail
      go_loopg [13] (i - 1 - a) (fun kx s13 wr => ∃ (k : Nat), s13 = .int .i64 k ∧ a ≤ k ∧ k ≤ i - 1 ∧ i - 1 - k ≤ kx ∧ Hid (∃ V1 V2, U1 = V1 ++ V2 ∧ A.length + V1.length = k ∧ RW w0 g T rest n (A ++ (V1 ++ x :: (V2 ++ (U2 ++ B)))) wr))
      case atStart => exact ⟨a, rfl, Nat.le_refl _, by omega, Nat.le_refl _, S2⟩
      case round =>
        clear S2
        obtain ⟨k, rfl, hak, hki, hkx, S3⟩ := hrel
        by_cases hlt : k < i - 1
        · have hltk : (k : Int) < (i : Int) - 1 := by omega
          obtain ⟨V1, V2, e4, e5, e6⟩ := S3.out
          cases V2 with
          | nil => have h1 := HU.out.2.1; have h2 := HA.out; have h3 := HM.out; rw [e4] at h1; simp at h1; omega
          | cons v V2 =>
          have e7 : RW w0 g T rest n ((A ++ V1) ++ x :: ([] ++ v :: (V2 ++ (U2 ++ B)))) wr := by simpa using e6
          obtain ⟨kN, hkN⟩ : ∃ q, q = k + 1 := ⟨_, rfl⟩
          have ea : ((k : Int) + 1).toNat = kN := by omega
          have pa : (0 : Int) ≤ (k : Int) + 1 := by omega
          have ba : (k : Int) + 1 < (n : Int) := by omega
          have ra : IntKind.i64.wrap ((k : Int) + 1) = (k : Int) + 1 := by rw [IntKind.wrap_i64]; omega
          have bc : (k : Int) < (n : Int) := by omega
          have hk' : k = (A ++ V1).length := by simp; omega
          have hk2 : kN = (A ++ V1).length + 1 + ([] : List Int).length := by rw [hkN, hk']; simp
          have c1 := e7.c (at_mid _ _ _ hk')
          have c2 := e7.c (at_mid2 _ _ _ _ _ hk2)
          have f1 := e7.f k
          have f2 := e7.f kN
          obtain ⟨u, c3⟩ := e7.c2 k (at_mid2 _ _ _ _ _ hk2) (.int .i64 v)
          have S4 : Hid (RW w0 g T rest n ((A ++ V1) ++ v :: ([] ++ x :: (V2 ++ (U2 ++ B)))) ((wr.setCell ⟨g, k, none⟩ (.int .i64 v)).setCell ⟨g, kN, none⟩ (.int .i64 x)).drew) := e7.up hk' hk2
          have E4 := Lib.hid e4
          have E5 := Lib.hid e5
          clear e4 e5 e6 e7 hk' hk2 hkN S3
          go_wp2_with fail
          go_big_region_o
          clear c1 c2 c3 f1 f2
          generalize ((wr.setCell ⟨g, k, none⟩ (.int .i64 v)).setCell ⟨g, kN, none⟩ (.int .i64 x)).drew = w2 at S4 ⊢
          clear ea
          go_wp2
          go_roundg (i - 1 - (k + 1))
          case measure => omega
          case rel => exact ⟨k + 1, by go_num, by omega, by omega, Nat.le_refl _, ⟨V1 ++ [v], V2, by rw [E4.out]; simp, by have := E5.out; simp; omega, by simpa using S4.out⟩⟩
        · have hltk : ¬ (k : Int) < (i : Int) - 1 := by omega
          go_wp2
          (try simp only [Exit.inBlock, Exit.then])
          refine bodyPost_ret (results_none rfl _ _ _) rfl ?_
          obtain ⟨V1, V2, e4, e5, e6⟩ := S3.out
          have hz : V2 = [] := List.length_eq_zero_iff.1 (by have h1 := HU.out.2.1; have h2 := HA.out; have h3 := HM.out; rw [e4] at h1; simp at h1; omega)
          subst hz
          rw [List.append_nil] at e4
          subst e4
          obtain ⟨u1, u2, u3, u4⟩ := HU.out
          refine ⟨rfl, U1 ++ x :: U2, ?_, ?_, by simpa using e6⟩
          · rw [u1]; exact perm_mid x U1 U2
          · rw [u1] at hR; exact ins_left O hR u3 u4
end Go.Proofs.Ytbohigfhbjconaa.So
