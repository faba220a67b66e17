/- Places of numbers in rows; the line of a place; what is granted ahead; the least of three. Conditions: each theorem's own. -/
import Derived.Test.YtbohigfhbjconaaSrWho
import Derived.Test.YtbohigfhbjconaaSrGr
import Derived.Test.YtbohigfhbjconaaMinMax
set_option linter.unusedVariables false
set_option linter.unusedSimpArgs false
namespace Go.Proofs.Ytbohigfhbjconaa.Sr
open Go.RowKit Hp Go.Proofs.Ytbohigfhbjconaa.End Opn SrM So SoM NumM NumC
/-- A slice of numbers that can be read. -/
def RdN (w : World) (v : Value) (d : List Int) : Prop := ∃ a c, v = .slice a d.length c ∧ ∀ k x, d[k]? = some x → ∃ g o, a = some ⟨g, o, none⟩ ∧ g < w.heap.size ∧ w.cell? ⟨g, o + k, none⟩ = some (.int .i64 x)
theorem RdN.old {w w' : World} {v : Value} {d : List Int} (h : RdN w v d) (k : Kept (fun _ => False) w w') : RdN w' v d := by
  obtain ⟨a, c, e, h⟩ := h
  refine ⟨a, c, e, fun j m hm => ?_⟩
  obtain ⟨g, o, e1, e2, e3⟩ := h j m hm
  exact ⟨g, o, e1, Nat.lt_of_lt_of_le e2 k.size, (keptCell k e2 (fun f => f) _).trans e3⟩
/-- What lies below a mark is as it was. -/
theorem RdN.low {w w' : World} {v : Value} {d : List Int} (h : RdN w v d) (k : Kept (fun i => w.heap.size ≤ i) w w') : RdN w' v d := by
  obtain ⟨a, c, e, h⟩ := h
  refine ⟨a, c, e, fun j m hm => ?_⟩
  obtain ⟨g, o, e1, e2, e3⟩ := h j m hm
  exact ⟨g, o, e1, Nat.lt_of_lt_of_le e2 k.size, (keptCell k e2 (fun f => by omega) _).trans e3⟩
theorem Rd.low {w w' : World} {v : Value} {l : List M} (h : Rd w v l) (k : Kept (fun i => w.heap.size ≤ i) w w') : Rd w' v l := by
  obtain ⟨a, c, e, h⟩ := h
  refine ⟨a, c, e, fun j m hm => ?_⟩
  obtain ⟨g, o, e1, e2, e3⟩ := h j m hm
  have e : ∀ q, w'.cell? ⟨g, q, none⟩ = w.cell? ⟨g, q, none⟩ := fun q => keptCell k e2 (fun f => by omega) q
  exact ⟨g, o, e1, Nat.lt_of_lt_of_le e2 k.size, by rw [e]; exact e3.c0, by rw [e]; exact e3.c1, by rw [e]; exact e3.c2, by rw [e]; exact e3.c3, by rw [e]; exact e3.c4, by rw [e]; exact e3.c5⟩
theorem RdN.of_row {w : World} {b : Nat} {v : Value} {d : List Int} (h : Rw.Row nT w b v d) : RdN w v d := by
  rcases h.form with ⟨rfl, rfl⟩ | ⟨g, cap, cur, rfl, hg, hL⟩
  · exact ⟨none, 0, rfl, fun k x hx => by simp at hx⟩
  · refine ⟨_, cap, rfl, fun k x hx => ⟨g, 0, rfl, hL.blk.lt, ?_⟩⟩
    have := hL.cell hx (j := 0) (u := .int .i64 x) rfl
    simpa [nT] using this
theorem RdN.take {w : World} {a : Option Addr} {n c : Nat} {d : List Int} (h : RdN w (.slice a n c) d) (k c' : Nat) (hk : k ≤ n) : RdN w (.slice a k c') (d.take k) := by
  obtain ⟨a', c1, e, h⟩ := h
  cases e
  refine ⟨a, c', by rw [List.length_take, Nat.min_eq_left hk], fun j x hx => ?_⟩
  rw [List.getElem?_take] at hx
  split at hx
  · exact h j x hx
  · cases hx
set_option maxHeartbeats 2000000 in
theorem index_any {w : World} {v : Value} {d : List Int} (h : RdN w v d) (hd : d.length ≤ 1000) (x : Int) : Calls Try.prog 35 #[v, .int .i64 x] w fun e w' => e = .returned (.int .i64 (ixI x d)) ∧ w = w' := by
  obtain ⟨a, c, rfl, hc⟩ := h
  have HC := Lib.hid hc
  have HF := Lib.hid fun (j : Nat) (h1 : d[j]? = some x) h2 => ixI_found h1 h2
  have HN := Lib.hid fun h => ixI_none (x := x) (l := d) h
  obtain ⟨n, hn⟩ : ∃ n, d.length = n := ⟨_, rfl⟩
  have HL := Lib.hid hn
  rw [hn] at hd ⊢
  clear hc hn
  generalize ixI x d = r at HF HN ⊢
  go_enter Try.func35, Try.ntmps35
  go_wp2_with fail
  go_loopg [8] n (fun kx s8 wr => ∃ (i : Nat), s8 = .int .i64 i ∧ i ≤ n ∧ n - i ≤ kx ∧ Hid (∀ k, k < i → d[k]? ≠ some x) ∧ w = wr)
  case atStart => exact ⟨0, rfl, Nat.zero_le _, Nat.le_refl _, Lib.hid (fun k hk => by omega), rfl⟩
  case round =>
    obtain ⟨i, rfl, hin, hkx, HI, rfl⟩ := hrel
    by_cases hlt : i < n
    · have hltz : (i : Int) < (n : Int) := by omega
      obtain ⟨y, hy⟩ : ∃ y, d[i]? = some y := ⟨_, List.getElem?_eq_getElem (by rw [HL.out]; exact hlt)⟩
      obtain ⟨g, o, rfl, _, hcy⟩ := HC.out i y hy
      have HY := Lib.hid hy
      clear hy
      by_cases hxy : x = y
      · have hb : (x == y) = true := by simp [hxy]
        have HR : Hid (r = (i : Int)) := HF.out i (by rw [HY.out, hxy]) HI.out
        clear hxy
        go_wp2_with fail
        go_ret
        exact ⟨congrArg (fun z => Ending.returned (Value.int .i64 z)) HR.out.symm, rfl⟩
      · have hb : (x == y) = false := by simp [hxy]
        go_wp2_with fail
        go_roundg (n - (i + 1))
        case measure => omega
        case rel =>
          refine ⟨i + 1, by go_num, by omega, Nat.le_refl _, Lib.hid (fun k hk => ?_), rfl⟩
          rcases Nat.lt_or_ge k i with h | h
          · exact HI.out k h
          · obtain rfl : k = i := by omega
            rw [HY.out]; intro e; exact hxy (Option.some.inj e).symm
    · have hltz : ¬ (i : Int) < (n : Int) := by omega
      obtain rfl : i = n := by omega
      have HR : Hid (r = -1) := HN.out (fun k hk => HI.out k (by rw [HL.out] at hk; exact hk))
      go_wp2_with fail
      go_ret
      exact ⟨congrArg (fun z => Ending.returned (Value.int .i64 z)) HR.out.symm, rfl⟩
theorem min2 (a x y m2 m : Int) (b : Nat) (w : World) (h2 : m2 = if x < a then x else a) (hm : m = if y < m2 then y else m2) (hc : w.cell? ⟨b, 0, none⟩ = some (.int .i64 x)) (hc1 : w.cell? ⟨b, 1, none⟩ = some (.int .i64 y)) :
    Calls Try.prog 20 #[.int .i64 a, .slice (some ⟨b, 0, none⟩) 2 2] w fun e w' => e = .returned (.int .i64 m) ∧ w = w' := by
  have HM := Lib.hid hm
  have HM2 := Lib.hid h2
  clear hm h2
  go_enter Try.func20, Try.ntmps20
  go_wp2
  go_loop [5, 11] (fun v i => ∃ k : Nat, k ≤ 2 ∧ i = .int .i64 k ∧ v = .int .i64 (if k = 0 then a else if k = 1 then m2 else m)) (fun _ i => 2 - (intOf i).toNat)
  case atStart => exact ⟨0, by omega, rfl, by simp⟩
  case round =>
    obtain ⟨k, hk, rfl, rfl⟩ := hrel
    rcases Nat.lt_or_ge k 2 with h | h
    · have h01 : k = 0 ∨ k = 1 := by omega
      rcases h01 with rfl | rfl
      · go_wp2
        all_goals
          go_round
          case rel => exact ⟨1, by omega, by go_num, by show _ = Value.int .i64 m2; rw [HM2.out]; first | rw [if_pos (by assumption)] | rw [if_neg (by omega)]⟩
          case measure => simp [intOf]
      · go_wp2
        all_goals
          go_round
          case rel => exact ⟨2, by omega, by go_num, by show _ = Value.int .i64 m; rw [HM.out]; first | rw [if_pos (by assumption)] | rw [if_neg (by omega)]⟩
          case measure => simp [intOf]
    · obtain rfl : k = 2 := by omega
      go_wp2
      go_ret
      exact ⟨rfl, rfl⟩
theorem min2_is (a x y : Int) : min (min a x) y = if y < (if x < a then x else a) then y else (if x < a then x else a) := by rw [IvN.min_if, IvN.min_if a x]
theorem hold_in {a : Int} (h : 0 ≤ a) (h1 : a ≤ 1125899906842624) : hold a = a := by
  unfold hold clampI
  rw [if_neg (by omega), if_neg (by omega)]
theorem addI_in {a b : Int} (ha : 0 ≤ a) (hb : 0 ≤ b) (h : a + b ≤ 1125899906842624) : addI a b = a + b := by
  unfold addI
  rw [hold_in ha (by omega), hold_in hb (by omega), hold_in (by omega) h]
theorem subI_in {a b : Int} (ha : 0 ≤ a) (hb : 0 ≤ b) (h1 : a ≤ 1125899906842624) (h2 : b ≤ 1125899906842624) : subI a b = max (a - b) 0 := by
  unfold subI
  rw [hold_in ha h1, hold_in hb h2]
  unfold hold clampI
  split
  · omega
  · split <;> omega
set_option maxHeartbeats 2000000 in
/-- What is granted ahead. -/
theorem aheadL_any {l : List M} {v : Value} {w : World} (h : Rd w v l) (hl : l.length ≤ 60) :
    Calls Try.prog 18 #[v] w fun e w' => e = .returned (.int .i64 (ahd l (opn l l.length))) ∧ Kept (fun _ => False) w w' := by
  have OP := Lib.hid (open_any h hl)
  have HRD := Lib.hid h
  obtain ⟨a, c, rfl, _⟩ := h
  go_enter Try.func18, Try.ntmps18
  go_wp2_with fail
  with_reducible refine Calls.mono OP.out ?_
  rintro e w2 ⟨v2, rfl, hr, hk2⟩
  have HK2 := Lib.hid hk2
  have HRN := Lib.hid (RdN.of_row hr)
  obtain ⟨a2, c2, rfl, _, _⟩ := hr.slice
  have HOK := Lib.hid (fun x hx => ok_of (l := l) (k := l.length) x hx)
  have HMEM := Lib.hid (fun (x : Int) (hx : x ∈ opn l l.length) => opn_mem.1 hx)
  have hlen := opn_len l l.length
  obtain ⟨d, hd⟩ : ∃ d, opn l l.length = d := ⟨_, rfl⟩
  have HD := Lib.hid hd
  rw [hd] at HRN HOK HMEM hlen ⊢
  obtain ⟨n, hn⟩ : ∃ n, d.length = n := ⟨_, rfl⟩
  have HN := Lib.hid hn
  rw [hn] at hlen
  clear OP hk2 hr hd
  obtain ⟨q, hq⟩ : ∃ q, l.length = q := ⟨_, rfl⟩
  have HQ := Lib.hid hq
  rw [hq] at hl hlen
  rw [hn, hq]
  clear hn hq
  go_wp2_with fail
  go_loopg [3, 9] n (fun kx s3 s9 wr => ∃ (i : Nat) (s : Int), s3 = .int .i64 s ∧ s9 = .int .i64 i ∧ i ≤ n ∧ n - i ≤ kx ∧ 0 ≤ s ∧ s ≤ 1073741824 * (i : Int) ∧ Hid (s = ahd l (d.take i)) ∧ Hid (Kept (fun _ => False) w2 wr))
  case atStart => exact ⟨0, 0, rfl, rfl, Nat.zero_le _, Nat.le_refl _, by omega, by omega, by simp [ahd, Hid], Lib.hid (Kept.refl _ _)⟩
  case round =>
    obtain ⟨i, s, rfl, rfl, hin, hkx, hs0, hs1, HS, HK⟩ := hrel
    by_cases hlt : i < n
    · have hltz : (i : Int) < (n : Int) := by omega
      obtain ⟨x, hx⟩ : ∃ x, d[i]? = some x := ⟨_, List.getElem?_eq_getElem (by rw [HN.out]; exact hlt)⟩
      obtain ⟨j, rfl, hj, hok⟩ := HMEM.out x (List.mem_of_getElem? hx)
      obtain ⟨a', c', e1, hc1⟩ := HRN.out
      cases e1
      obtain ⟨g, o, rfl, hg, hcx⟩ := hc1 i _ hx
      have cx := (keptCell HK.out hg (fun f => f) (o + i)).trans hcx
      obtain ⟨m, hm⟩ : ∃ m, l[j]? = some m := ⟨_, List.getElem?_eq_getElem hj⟩
      obtain ⟨a1, c1, e1, hc2⟩ := HRD.out
      cases e1
      obtain ⟨mg, mo, rfl, hmg, q1⟩ := hc2 j m hm
      obtain ⟨c0, c1, c2', c3, c4, c5⟩ := (q1.old HK2.out hmg).old HK.out (Nat.lt_of_lt_of_le hmg HK2.out.size)
      rw [at_is hm] at hok
      have hjz : (j : Int) < (q : Int) := by have := HQ.out; omega
      have hbd := (may_bd (ok_may hok).1).1
      unfold B1 at hbd
      obtain ⟨b1, b2, b3, b4⟩ := hbd
      have AH := Lib.hid fun w => ahead_any m (ok_may hok).1 w
      have HT : Hid (ahd l (d.take (i + 1)) = s + (m.g - m.h)) := by
        show _ = _
        rw [List.take_add_one, hx]
        show ahd l (d.take i ++ [(j : Int)]) = _
        rw [ahd_app, at_is hm, HS.out]
      have AD := Lib.hid fun w => addNum_any s (m.g - m.h) w
      rw [addI_in hs0 (by omega) (by omega)] at AD
      obtain ⟨mp, mi, mt, mh, mgr, mb⟩ := m
      unfold mv ml at AH
      dsimp only at b1 b2 b3 b4 AH AD HT c0 c1 c2' c3 c4 c5
      clear hx hcx hc1 hc2 q1 hm hok HS hg hmg
      go_wp2_with fail
      with_reducible refine Calls.mono (AH.out _) ?_
      rintro e w3 ⟨rfl, hw3⟩
      have HK3 : Hid (Kept (fun _ => False) w2 w3) := Lib.hid (by rw [hw3]; exact HK.out.alloc _)
      clear hw3 c0 c1 c2' c3 c4 c5 cx
      go_wp2_with fail
      with_reducible refine Calls.mono (AD.out _) ?_
      rintro e w4 ⟨rfl, rfl⟩
      go_wp2_with fail
      go_roundg (n - (i + 1))
      case measure => omega
      case rel => exact ⟨i + 1, s + (mgr - mh), rfl, by go_num, by omega, Nat.le_refl _, by omega, by omega, HT.out.symm, HK3⟩
    · have hltz : ¬ (i : Int) < (n : Int) := by omega
      obtain rfl : i = n := by omega
      go_wp2_with fail
      go_ret
      have e : d.take i = d := by rw [← HN.out]; exact List.take_length
      have hs := HS.out
      rw [e] at hs
      exact ⟨congrArg (fun z => Ending.returned (Value.int .i64 z)) (hs.trans (congrArg (ahd l) HD.out.symm)), HK2.out.trans HK.out⟩
end Go.Proofs.Ytbohigfhbjconaa.Sr
