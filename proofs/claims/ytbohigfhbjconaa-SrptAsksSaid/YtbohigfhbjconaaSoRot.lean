/- Two parts of a row that lie side by side, turned about. Conditions: each theorem's own. -/
import Derived.Test.YtbohigfhbjconaaSoRow
set_option linter.unusedVariables false
namespace Go.Proofs.Ytbohigfhbjconaa.So
open Go.RowKit Hp SoM
variable {w0 W : World} {g n : Nat} {T : TypeId} {rest : List Value} {l : List Int}
theorem swapAt {A X C Y B : List Int} {a b k : Nat} {za zb zk : Int} (cap : Nat) (fv : Value) (h : RW w0 g T rest n (A ++ (X ++ (C ++ (Y ++ B)))) W) (ha : a = A.length) (hb : b = A.length + X.length + C.length) (hx : X.length = k) (hy : Y.length = k) (hn : n ≤ 1000000)
    (ea : za = (a : Nat)) (eb : zb = (b : Nat)) (ek : zk = (k : Nat)) :
    Calls Try.prog 52 #[.slice (some ⟨g, 0, none⟩) n cap, .int .i64 za, .int .i64 zb, .int .i64 zk, fv] W fun e w' => e = .returned (.tuple #[]) ∧ RW w0 g T rest n (A ++ (Y ++ (C ++ (X ++ B)))) w' := by
  subst ea; subst eb; subst ek
  exact swapRange cap fv h ha hb hx hy hn
set_option maxHeartbeats 4000000 in
set_option maxRecDepth 1000000 in
theorem rotate {A U V B : List Int} {a m b : Nat} (cap : Nat) (fv : Value) (h : RW w0 g T rest n (A ++ (U ++ (V ++ B))) W) (ha : a = A.length) (hm : m = a + U.length) (hb : b = m + V.length) (hu : 0 < U.length) (hv : 0 < V.length) (hn : n ≤ 1000000) :
    Calls Try.prog 51 #[.slice (some ⟨g, 0, none⟩) n cap, .int .i64 a, .int .i64 m, .int .i64 b, fv] W fun e w' => e = .returned (.tuple #[]) ∧ RW w0 g T rest n (A ++ (V ++ (U ++ B))) w' := by
  obtain ⟨G, hG⟩ : ∃ G, G = A ++ (V ++ (U ++ B)) := ⟨_, rfl⟩
  rw [← hG]
  have S0 : Hid (∃ A' U' V' B', A' ++ (V' ++ (U' ++ B')) = G ∧ A'.length + (m - a) = m ∧ U'.length = m - a ∧ V'.length = b - m ∧ RW w0 g T rest n (A' ++ (U' ++ (V' ++ B'))) W) := ⟨A, U, V, B, hG.symm, by omega, by omega, by omega, h⟩
  have hbn : b ≤ n := by have := h.len; simp at this; omega
  have ham : a < m := by omega
  have hmb : m < b := by omega
  have e1 : (m : Int) - (a : Int) = ((m - a : Nat) : Int) := by omega
  have e2 : (b : Int) - (m : Int) = ((b - m : Nat) : Int) := by omega
  obtain ⟨i0, hi0⟩ : ∃ i0, m - a = i0 := ⟨_, rfl⟩
  obtain ⟨j0, hj0⟩ : ∃ j0, b - m = j0 := ⟨_, rfl⟩
  rw [hi0] at S0 e1
  rw [hj0] at S0 e2
  have b1 : 1 ≤ i0 ∧ i0 ≤ m := by omega
  have b2 : 1 ≤ j0 ∧ m + j0 ≤ n := by omega
  obtain ⟨b1a, b1b⟩ := b1
  obtain ⟨b2a, b2b⟩ := b2
  clear h hG ha hm hb hu hv hi0 hj0
  have mixed := mixed
  go_enter Try.func51, Try.ntmps51
  go_wp2
  go_loopg [10, 11] (i0 + j0) (fun kx s10 s11 wr => ∃ (i j : Nat), s10 = .int .i64 i ∧ s11 = .int .i64 j ∧ 1 ≤ i ∧ i ≤ m ∧ 1 ≤ j ∧ m + j ≤ n ∧ i + j ≤ kx ∧ Hid (∃ A' U' V' B', A' ++ (V' ++ (U' ++ B')) = G ∧ A'.length + i = m ∧ U'.length = i ∧ V'.length = j ∧ RW w0 g T rest n (A' ++ (U' ++ (V' ++ B'))) wr))
  case atStart => exact ⟨i0, j0, by first | rfl | (rw [e1]), by first | rfl | (rw [e2]), b1a, b1b, b2a, b2b, Nat.le_refl _, S0⟩
  case round =>
    clear S0
    obtain ⟨i, j, rfl, rfl, hi1, him, hj1, hjn, hkx, S1⟩ := hrel
    rcases Nat.lt_trichotomy i j with hlt | rfl | hgt
    · -- the right part is the longer one
      have hne : ((i : Int) != (j : Int)) = true := by simp; omega
      have hng : ¬ (i : Int) > (j : Int) := by omega
      obtain ⟨A', U', V', B', g1, g2, g3, g4, g5⟩ := S1.out
      have hV : V' = V'.take (j - i) ++ V'.drop (j - i) := (List.take_append_drop _ _).symm
      obtain ⟨V1, hV1⟩ : ∃ V1, V1 = V'.take (j - i) := ⟨_, rfl⟩
      obtain ⟨V2, hV2⟩ : ∃ V2, V2 = V'.drop (j - i) := ⟨_, rfl⟩
      have l1 : V1.length = j - i := by rw [hV1, List.length_take]; omega
      have l2 : V2.length = i := by rw [hV2, List.length_drop]; omega
      rw [← hV1, ← hV2] at hV
      subst hV
      have g6 : RW w0 g T rest n (A' ++ (U' ++ (V1 ++ (V2 ++ B')))) wr := by rw [List.append_assoc] at g5; exact g5
      have HC := Lib.hid fun (zb : Int) (hz : zb = (m : Int) + j - i) => swapAt (za := (m : Int) - i) (zb := zb) (zk := (i : Int)) cap fv g6 rfl rfl g3 l2 hn (by omega) (by rw [hz]; omega) rfl
      have NX : Hid (∀ w2, RW w0 g T rest n (A' ++ (V2 ++ (V1 ++ (U' ++ B')))) w2 → ∃ A' U' V' B', A' ++ (V' ++ (U' ++ B')) = G ∧ A'.length + i = m ∧ U'.length = i ∧ V'.length = j - i ∧ RW w0 g T rest n (A' ++ (U' ++ (V' ++ B'))) w2) := by
        intro w2 hw2
        exact ⟨A', V2, V1, U' ++ B', by rw [← g1]; simp, g2, l2, l1, hw2⟩
      clear S1 g1 g2 g3 g4 g5 g6 hV1 hV2 l1 l2
      have e3 : (j : Int) - (i : Int) = ((j - i : Nat) : Int) := by omega
      go_wp2_with fail
      with_reducible refine Calls.mono (HC.out _ (by first | rfl | omega)) ?_
      rintro e w2 ⟨rfl, hw2⟩
      have S2 := Lib.hid (NX.out w2 hw2)
      clear HC NX hw2
      go_wp2_with fail
      go_roundg (i + (j - i))
      case measure => omega
      case rel => exact ⟨i, j - i, rfl, by first | rfl | (rw [e3]), hi1, him, by omega, by omega, Nat.le_refl _, S2⟩
    · -- both are as long
      have hne : ((i : Int) != (i : Int)) = false := by simp
      obtain ⟨A', U', V', B', g1, g2, g3, g4, g5⟩ := S1.out
      have HC := Lib.hid (swapAt (C := []) (za := (m : Int) - i) (zb := (m : Int)) (zk := (i : Int)) (a := A'.length) (b := m) cap fv g5 rfl (by simp; omega) g3 g4 hn (by omega) rfl rfl)
      have NX : Hid (A' ++ (V' ++ (U' ++ B')) = G) := g1
      clear S1 g1 g2 g3 g4 g5
      go_wp2_with fail
      with_reducible refine Calls.mono HC.out ?_
      rintro e w2 ⟨rfl, hw2⟩
      rw [List.nil_append, NX.out] at hw2
      have HW := Lib.hid hw2
      clear HC NX hw2
      go_wp2_with fail
      go_end0
      exact ⟨rfl, HW.out⟩
    · -- the left part is the longer one
      have hne : ((i : Int) != (j : Int)) = true := by simp; omega
      have hng : (i : Int) > (j : Int) := by omega
      obtain ⟨A', U', V', B', g1, g2, g3, g4, g5⟩ := S1.out
      have hU : U' = U'.take j ++ U'.drop j := (List.take_append_drop _ _).symm
      obtain ⟨U1, hU1⟩ : ∃ U1, U1 = U'.take j := ⟨_, rfl⟩
      obtain ⟨U2, hU2⟩ : ∃ U2, U2 = U'.drop j := ⟨_, rfl⟩
      have l1 : U1.length = j := by rw [hU1, List.length_take]; omega
      have l2 : U2.length = i - j := by rw [hU2, List.length_drop]; omega
      rw [← hU1, ← hU2] at hU
      subst hU
      have g6 : RW w0 g T rest n (A' ++ (U1 ++ (U2 ++ (V' ++ B')))) wr := by rw [List.append_assoc] at g5; exact g5
      have HC := Lib.hid (swapAt (za := (m : Int) - i) (zb := (m : Int)) (zk := (j : Int)) cap fv g6 rfl rfl l1 g4 hn (by omega) (by omega) rfl)
      have NX : Hid (∀ w2, RW w0 g T rest n (A' ++ (V' ++ (U2 ++ (U1 ++ B')))) w2 → ∃ A' U' V' B', A' ++ (V' ++ (U' ++ B')) = G ∧ A'.length + (i - j) = m ∧ U'.length = i - j ∧ V'.length = j ∧ RW w0 g T rest n (A' ++ (U' ++ (V' ++ B'))) w2) := by
        intro w2 hw2
        exact ⟨A' ++ V', U2, U1, B', by rw [← g1]; simp, by simp; omega, l2, l1, by rw [List.append_assoc]; exact hw2⟩
      clear S1 g1 g2 g3 g4 g5 g6 hU1 hU2 l1 l2
      have e3 : (i : Int) - (j : Int) = ((i - j : Nat) : Int) := by omega
      go_wp2_with fail
      with_reducible refine Calls.mono HC.out ?_
      rintro e w2 ⟨rfl, hw2⟩
      have S2 := Lib.hid (NX.out w2 hw2)
      clear HC NX hw2
      go_wp2_with fail
      go_roundg (i - j + j)
      case measure => omega
      case rel => exact ⟨i - j, j, by first | rfl | (rw [e3]), rfl, by omega, by omega, hj1, hjn, Nat.le_refl _, S2⟩
end Go.Proofs.Ytbohigfhbjconaa.So
