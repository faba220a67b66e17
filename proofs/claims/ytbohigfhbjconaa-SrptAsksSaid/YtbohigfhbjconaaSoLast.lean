/- Two sorted parts of a row merged, of which the second is a single number. Conditions: each theorem's own. -/
import Derived.Test.YtbohigfhbjconaaSoOne
set_option linter.unusedVariables false
namespace Go.Proofs.Ytbohigfhbjconaa.So
open Go.RowKit Hp SoM
variable {w0 W : World} {g n : Nat} {T : TypeId} {rest : List Value} {l : List Int} {f : Nat} {cb : Array Value} {cf : Int → Int → Int} {D : Int → Prop} {lt : Int → Int → Bool}
set_option maxHeartbeats 4000000 in
set_option maxRecDepth 1000000 in
theorem sym_last {A L B : List Int} {x : Int} {a m b : Nat} (cap : Nat) (C : Cmp Try.prog f cb cf D w0 g) (O : Ord lt) (TL : Tells lt cf D) (h : RW w0 g T rest n (A ++ (L ++ (x :: B))) W) (ha : a = A.length) (hm : m = a + L.length) (hb : b = m + 1) (h2 : 2 ≤ L.length)
    (hS : Srt lt L) (hL : ∀ y ∈ L, y < x) (hx : D x) (hD : ∀ y ∈ L, D y) (hn : n ≤ 1000000) :
    Calls Try.prog 47 #[.slice (some ⟨g, 0, none⟩) n cap, .int .i64 a, .int .i64 m, .int .i64 b, .func (.func f) #[] cb] W fun e w' => e = .returned (.tuple #[]) ∧ ∃ M, M.Perm (L ++ [x]) ∧ Srt lt M ∧ RW w0 g T rest n (A ++ (M ++ B)) w' := by
  have hbn : b ≤ n := by have := h.len; simp at this; omega
  have mixed := mixed
  have eg := C.eg
  have hd0 : ((m : Int) - (a : Int) == 1) = false := by rw [beq_eq_false_iff_ne]; omega
  have hd1 : ((b : Int) - (m : Int) == 1) = true := by rw [beq_iff_eq]; omega
  have S0 := Lib.hid h
  have HA := Lib.hid ha
  have HB := Lib.hid hb
  have HM := Lib.hid hm
  have hma : a < m := by omega
  have hmb : m < b := by omega
  clear h ha hb hm
  go_enter Try.func47, Try.ntmps47
  go_wp2_with fail
  go_loopg [14, 15] (m - a) (fun kx s14 s15 wr => ∃ (i j : Nat), s14 = .int .i64 i ∧ s15 = .int .i64 j ∧ a ≤ i ∧ i ≤ j ∧ j ≤ m ∧ j - i ≤ kx ∧ Hid ((∀ u ∈ L.take (i - a), lt u x = true) ∧ (∀ u ∈ L.drop (j - a), lt x u = true)) ∧ Hid (RW w0 g T rest n (A ++ (L ++ (x :: B))) wr))
  case atStart => exact ⟨a, m, rfl, rfl, Nat.le_refl _, by omega, Nat.le_refl _, Nat.le_refl _, ⟨by simp, by have := HM.out; rw [List.drop_eq_nil_of_le (by omega)]; simp⟩, S0⟩
  case round =>
    clear S0
    obtain ⟨i, j, rfl, rfl, hmi, hij, hjb, hkx, HI, S1⟩ := hrel
    by_cases hlt : i < j
    · have hltz : (i : Int) < (j : Int) := by omega
      obtain ⟨md, hmd⟩ : ∃ md, (i + j) / 2 = md := ⟨_, rfl⟩
      have e1 : ((i : Int) + (j : Int)) / 2 = (md : Int) := by omega
      have hm1 : i ≤ md := by omega
      have hm2 : md < j := by omega
      have hm3 : md < n := by omega
      have hm4 : m < n := by omega
      have HLen := HM.out
      obtain ⟨y, hy⟩ : ∃ y, L[md - a]? = some y := ⟨_, List.getElem?_eq_getElem (by omega)⟩
      have hyR : y ∈ L := List.mem_of_getElem? hy
      have HY := Lib.hid hy
      have cy := S1.out.cl (at_in0 (A := A) (L := L) (B := x :: B) (i := md) (md - a) hy (by have := HA.out; omega))
      have cx := S1.out.cl (at_in (A := A) (L := L) (R := x :: B) (B := []) (i := m) 0 rfl (by have := HA.out; omega) |> (by simpa using ·))
      have hc := C.at S1.out hx (hD y hyR)
      have hcmp := TL y x (hD y hyR) hx (hL y hyR)
      have HNE : Hid (y ≠ x) := by have := hL y hyR; show y ≠ x; omega
      clear hmd hy hyR HLen
      cases hlv : lt x y with
      | true =>
        have hv : cf x y < 0 := hcmp.2 hlv
        have hd : decide (cf x y < 0) = true := decide_eq_true hv
        clear hcmp
        go_wp2_with fail
        go_quiet_grown (first | (go_at_fn f; refine Calls.grown_of (hc _ _)))
        have S2 : Hid (RW w0 g T rest n (A ++ (L ++ (x :: B))) (Go.Sort.grow (wr.drewN nq) osq)) := S1.out.grw nq osq
        clear cx cy hc S1
        generalize Go.Sort.grow (wr.drewN nq) osq = w2 at S2 ⊢
        clear nq osq
        go_wp2
        go_roundg (md - i)
        case measure => omega
        case rel => exact ⟨i, md, rfl, rfl, hmi, by omega, by omega, Nat.le_refl _, ⟨HI.out.1, drop_gt O hS HY.out hlv⟩, S2⟩
      | false =>
        have hv : ¬ cf x y < 0 := fun hh => by rw [hcmp.1 hh] at hlv; cases hlv
        have hd : decide (cf x y < 0) = false := decide_eq_false hv
        clear hcmp
        go_wp2_with fail
        go_quiet_grown (first | (go_at_fn f; refine Calls.grown_of (hc _ _)))
        have S2 : Hid (RW w0 g T rest n (A ++ (L ++ (x :: B))) (Go.Sort.grow (wr.drewN nq) osq)) := S1.out.grw nq osq
        clear cx cy hc S1
        generalize Go.Sort.grow (wr.drewN nq) osq = w2 at S2 ⊢
        clear nq osq
        go_wp2
        go_roundg (j - (md + 1))
        case measure => omega
        case rel =>
          refine ⟨md + 1, j, by go_num, rfl, by omega, by omega, hjb, Nat.le_refl _, ⟨?_, HI.out.2⟩, S2⟩
          rw [show md + 1 - a = (md - a) + 1 by omega]
          exact take_lt O hS HY.out (O.of_not HNE.out (by rw [hlv]; simp))
    · have hltz : ¬ (i : Int) < (j : Int) := by omega
      obtain rfl : i = j := by omega
      obtain ⟨U1, hU1⟩ : ∃ U, U = L.take (i - a) := ⟨_, rfl⟩
      obtain ⟨U2, hU2⟩ : ∃ U, U = L.drop (i - a) := ⟨_, rfl⟩
      have hU : L = U1 ++ U2 := by rw [hU1, hU2, List.take_append_drop]
      have HU : Hid (L = U1 ++ U2 ∧ U1.length = i - a ∧ U2.length = m - i ∧ (∀ u ∈ U1, lt u x = true) ∧ (∀ u ∈ U2, lt x u = true)) := ⟨hU, by have := HM.out; rw [hU1, List.length_take]; omega, by have := HM.out; rw [hU2, List.length_drop]; omega, by rw [hU1]; exact HI.out.1, by rw [hU2]; exact HI.out.2⟩
      have S2 : Hid (∃ V1 V2, U2 = V1 ++ V2 ∧ i + V1.length = m ∧ RW w0 g T rest n (A ++ (U1 ++ (V1 ++ x :: (V2 ++ B)))) wr) := ⟨U2, [], by simp, by have := HU.out.2.2.1; omega, by have := S1.out; rw [hU] at this; simpa using this⟩
      clear hU1 hU2 hU S1 HI hij hkx
      go_wp2_with fail
      go_loopg [17] (m - i) (fun kx s17 wr => ∃ (k : Nat), s17 = .int .i64 k ∧ i ≤ k ∧ k ≤ m ∧ k - i ≤ kx ∧ Hid (∃ V1 V2, U2 = V1 ++ V2 ∧ i + V1.length = k ∧ RW w0 g T rest n (A ++ (U1 ++ (V1 ++ x :: (V2 ++ B)))) wr))
      case atStart => exact ⟨m, rfl, by omega, by omega, Nat.le_refl _, S2⟩
      case round =>
        clear S2
        obtain ⟨k, rfl, hak, hki, hkx, S3⟩ := hrel
        by_cases hlt : i < k
        · obtain ⟨kp, hkp⟩ : ∃ q, q + 1 = k := ⟨k - 1, by omega⟩
          have hltk : (k : Int) > (i : Int) := by omega
          have zkp : (k : Int) = (kp : Int) + 1 := by omega
          have hltk' : (i : Int) < (kp : Int) + 1 := by omega
          obtain ⟨V1, V2, e4, e5, e6⟩ := S3.out
          have hV : V1 ≠ [] := by rintro rfl; simp at e5; omega
          obtain ⟨V, v, rfl⟩ : ∃ V v, V1 = V ++ [v] := ⟨V1.dropLast, V1.getLast hV, (List.dropLast_concat_getLast hV).symm⟩
          have e7 : RW w0 g T rest n ((A ++ (U1 ++ V)) ++ v :: ([] ++ x :: (V2 ++ B))) wr := by simpa using e6
          obtain ⟨kN, hkN⟩ : ∃ q, q = kp + 1 := ⟨_, rfl⟩
          have ea : ((kp : Int) + 1).toNat = kN := by omega
          have pa : (0 : Int) ≤ (kp : Int) + 1 := by omega
          have ba : (kp : Int) + 1 < (n : Int) := by omega
          have ra : IntKind.i64.wrap ((kp : Int) + 1) = (kp : Int) + 1 := by rw [IntKind.wrap_i64]; omega
          have bc : (kp : Int) < (n : Int) := by omega
          have rc : IntKind.i64.wrap (kp : Int) = (kp : Int) := by rw [IntKind.wrap_i64]; omega
          have hk' : kp = (A ++ (U1 ++ V)).length := by have h1 := HU.out.2.1; have h2 := HA.out; simp at e5 ⊢; omega
          have hk2 : kN = (A ++ (U1 ++ V)).length + 1 + ([] : List Int).length := by rw [hkN, hk']; simp
          have c1 := e7.c (at_mid _ _ _ hk')
          have c2 := e7.c (at_mid2 _ _ _ _ _ hk2)
          have f1 := e7.f kp
          have f2 := e7.f kN
          obtain ⟨u, c3⟩ := e7.c2 kN (at_mid _ _ _ hk') (.int .i64 v)
          have S4 : Hid (RW w0 g T rest n ((A ++ (U1 ++ V)) ++ x :: ([] ++ v :: (V2 ++ B))) ((wr.setCell ⟨g, kN, none⟩ (.int .i64 v)).setCell ⟨g, kp, none⟩ (.int .i64 x)).drew) := e7.down hk' hk2
          have E4 := Lib.hid e4
          have E5 := Lib.hid e5
          clear e4 e5 e6 e7 hk' hk2 hkN S3 hV
          go_wp2_with fail
          go_big_region_o
          clear c1 c2 c3 f1 f2
          generalize ((wr.setCell ⟨g, kN, none⟩ (.int .i64 v)).setCell ⟨g, kp, none⟩ (.int .i64 x)).drew = w2 at S4 ⊢
          clear ea
          go_wp2
          go_roundg (kp - i)
          case measure => omega
          case rel => exact ⟨kp, by first | rfl | go_num | (congr 1; omega), by omega, by omega, Nat.le_refl _, ⟨V, v :: V2, by rw [E4.out]; simp, by have := E5.out; simp at this; omega, by simpa using S4.out⟩⟩
        · have hltk : ¬ (k : Int) > (i : Int) := by omega
          have hltk' : ¬ (i : Int) < (k : Int) := by omega
          go_wp2
          (try simp only [Exit.inBlock, Exit.then])
          refine bodyPost_ret (results_none rfl _ _ _) rfl ?_
          obtain ⟨V1, V2, e4, e5, e6⟩ := S3.out
          have hz : V1 = [] := List.length_eq_zero_iff.1 (by omega)
          subst hz
          rw [List.nil_append] at e4
          subst e4
          obtain ⟨u1, u2, u2', u3, u4⟩ := HU.out
          refine ⟨rfl, U1 ++ x :: U2, ?_, ?_, by simpa using e6⟩
          · rw [u1]; exact (perm_mid x U1 U2).trans (List.perm_append_comm (l₁ := [x]))
          · rw [u1] at hS; exact ins_left O hS u3 u4
end Go.Proofs.Ytbohigfhbjconaa.So
