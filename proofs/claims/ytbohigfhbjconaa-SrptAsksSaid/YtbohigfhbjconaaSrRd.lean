/- The reference's Order, Oldest, Ahead. Conditions: each theorem's own. -/
import Derived.Test.YtbohigfhbjconaaSrRo
set_option linter.unusedVariables false
set_option linter.unusedSimpArgs false
namespace Go.Proofs.Ytbohigfhbjconaa.Sr
open Go.RowKit Hp Go.Proofs.Ytbohigfhbjconaa.End Opn SrM So SoM NumM NumC Go.Proofs.Ytbohigfhbjconaa.Sx
theorem orderR_any {l : List M} {v : Value} {w : World} (h : Rd w v l) (hl : l.length ≤ 60) :
    Calls Try.prog 15 #[v] w fun e w' => ∃ v' o, e = .returned v' ∧ Ro.Row nT w' v' o ∧ IsO false l o ∧ (∀ g, v'.ownBlock = some g → w.heap.size ≤ g) ∧ Kept (fun _ => False) w w' := by
  have OR := Lib.hid (ordR_any h hl false)
  obtain ⟨a, c, rfl, _⟩ := h
  go_enter Try.func15, Try.ntmps15
  go_wp2_with fail
  with_reducible refine Calls.mono OR.out ?_
  rintro e w2 ⟨v2, o, rfl, hr, ho, hw, hk⟩
  clear OR
  go_wp2_with fail
  go_ret
  exact ⟨_, o, rfl, hr, ho, hw, hk⟩
theorem oldestR_any {l : List M} {v : Value} {w : World} (h : Rd w v l) (hl : l.length ≤ 60) :
    Calls Try.prog 17 #[v] w fun e w' => ∃ x, e = .returned (.int .i64 x) ∧ Od l x ∧ Kept (fun _ => False) w w' := by
  have OR := Lib.hid (ordR_any h hl true)
  obtain ⟨a, c, rfl, _⟩ := h
  go_enter Try.func17, Try.ntmps17
  go_wp2_with fail
  with_reducible refine Calls.mono OR.out ?_
  rintro e w2 ⟨v2, o, rfl, hr, ho, hw, hk⟩
  have HOD := Lib.hid (Od.of ho)
  have HR := Lib.hid hr
  have HK := Lib.hid hk
  clear OR hr ho hk
  obtain ⟨a2, c2, rfl, _, _⟩ := HR.out.slice
  cases o with
  | nil =>
    have e0 : ((([] : List Int).length : Nat) : Int) = 0 := rfl
    go_wp2_with fail
    go_ret
    exact ⟨_, rfl, HOD.out, HK.out⟩
  | cons x o =>
    obtain ⟨g, o2, rfl, e1⟩ := row_cell HR.out (k := 0) (x := x) rfl
    rw [Nat.add_zero] at e1
    obtain ⟨n, hn⟩ : ∃ n, (x :: o).length = n := ⟨_, rfl⟩
    have hn0 : 0 < n := by rw [← hn]; simp
    rw [hn] at HR ⊢
    have hz : ¬ (n : Int) = 0 := by omega
    clear hn HR
    go_wp2_with fail
    go_ret
    exact ⟨_, rfl, HOD.out, HK.out⟩
set_option maxHeartbeats 8000000 in
theorem aheadR_any {l : List M} {v : Value} {w : World} (h : Rd w v l) (hl : l.length ≤ 60) :
    Calls Try.prog 19 #[v] w fun e w' => e = .returned (.int .i64 (ahd l (opn l l.length))) ∧ Kept (fun _ => False) w w' := by
  have OP := Lib.hid (orderR_any h hl)
  have HRD := Lib.hid h
  obtain ⟨a, c, rfl, _⟩ := h
  go_enter Try.func19, Try.ntmps19
  go_wp2_with fail
  with_reducible refine Calls.mono OP.out ?_
  rintro e w2 ⟨v2, d, rfl, hr, ho, _, hk2⟩
  have HK2 := Lib.hid hk2
  have HR := Lib.hid hr
  obtain ⟨a2, c2, rfl, _, _⟩ := hr.slice
  have HMEM := Lib.hid (fun (x : Int) (hx : x ∈ d) => ho.mem.1 hx)
  have HD := Lib.hid (ahd_perm l ho.1)
  have hlen := ho.len.2
  obtain ⟨n, hn⟩ : ∃ n, d.length = n := ⟨_, rfl⟩
  have HN := Lib.hid hn
  rw [hn] at hlen HR
  clear OP hk2 hr ho
  obtain ⟨q, hq⟩ : ∃ q, l.length = q := ⟨_, rfl⟩
  have HQ := Lib.hid hq
  rw [hq] at hl hlen
  rw [hn, hq]
  clear hn hq
  go_wp2_with fail
  go_loopg [4, 5] n (fun kx s4 s5 wr => ∃ (i : Nat) (s : Int), s4 = .int .i64 s ∧ s5 = .int .i64 i ∧ i ≤ n ∧ n - i ≤ kx ∧ 0 ≤ s ∧ s ≤ 1073741824 * (i : Int) ∧ Hid (s = ahd l (d.take i)) ∧ Hid (Kept (fun _ => False) w2 wr))
  case atStart => exact ⟨0, 0, rfl, rfl, Nat.zero_le _, Nat.le_refl _, by omega, by omega, by simp [ahd, Hid], Lib.hid (Kept.refl _ _)⟩
  case round =>
    obtain ⟨i, s, rfl, rfl, hin, hkx, hs0, hs1, HS, HK⟩ := hrel
    by_cases hlt : i < n
    · have hltz : (i : Int) < (n : Int) := by omega
      obtain ⟨x, hx⟩ : ∃ x, d[i]? = some x := ⟨_, List.getElem?_eq_getElem (by rw [HN.out]; exact hlt)⟩
      obtain ⟨j, rfl, hj, hok⟩ := HMEM.out x (List.mem_of_getElem? hx)
      obtain ⟨g, o, rfl, cx⟩ := row_cell (HR.out.old HK.out) hx
      obtain ⟨m, hm⟩ : ∃ m, l[j]? = some m := ⟨_, List.getElem?_eq_getElem hj⟩
      obtain ⟨a1, c1, e1, hc2⟩ := HRD.out
      cases e1
      obtain ⟨mg, mo, rfl, hmg, q1⟩ := hc2 j m hm
      obtain ⟨c0, c1, c2', c3, c4, c5⟩ := (q1.old HK2.out hmg).old HK.out (Nat.lt_of_lt_of_le hmg HK2.out.size)
      rw [at_is hm] at hok
      have hjz : (j : Int) < (q : Int) := by have := HQ.out; omega
      have hjq : j < q := by omega
      have hbd := (may_bd (ok_may hok).1).1
      unfold B1 at hbd
      obtain ⟨b1, b2, b3, b4⟩ := hbd
      have HT : Hid (ahd l (d.take (i + 1)) = s + (m.g - m.h)) := by
        show _ = _
        rw [List.take_add_one, hx]
        show ahd l (d.take i ++ [(j : Int)]) = _
        rw [ahd_app, at_is hm, HS.out]
      have AD := Lib.hid fun w => addRef_any s (m.g - m.h) w
      rw [addI_in hs0 (by omega) (by omega)] at AD
      obtain ⟨mp, mi, mt, mh, mgr, mb⟩ := m
      dsimp only at b1 b2 b3 b4 AD HT c0 c1 c2' c3 c4 c5
      clear hx hc2 q1 hm hok HS hmg c0 c1 c2' c5
      go_wp2_with fail
      go_quiet ((go_at_call 33; exact Calls.quiet_of_same ((AD.out _).mono fun _ _ ⟨e1, e2⟩ => ⟨e1, e2.symm⟩)))
      have HK3 := Lib.hid (HK.out.drewN nq)
      clear c3 c4 cx HK
      generalize wr.drewN nq = w3 at *
      go_wp2_with fail
      go_roundg (n - (i + 1))
      case measure => omega
      case rel => exact ⟨i + 1, s + (mgr - mh), rfl, by go_num, by omega, Nat.le_refl _, by omega, by omega, HT.out.symm, HK3⟩
    · have hltz : ¬ (i : Int) < (n : Int) := by omega
      obtain rfl : i = n := by omega
      go_wp2_with fail
      go_ret
      have e : d.take i = d := by rw [← HN.out]; exact List.take_length
      have hs := HS.out
      rw [e] at hs
      exact ⟨congrArg (fun z => Ending.returned (Value.int .i64 z)) (hs.trans HD.out), HK2.out.trans HK.out⟩
end Go.Proofs.Ytbohigfhbjconaa.Sr
