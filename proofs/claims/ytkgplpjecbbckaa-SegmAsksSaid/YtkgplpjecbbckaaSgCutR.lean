/- Messages in pieces: the reference's Cut. Conditions: each theorem's own. -/
import Derived.Test.YtkgplpjecbbckaaSgCut
set_option linter.unusedVariables false
namespace Go.Proofs.Ytkgplpjecbbckaa.Sg
open Go.RowKit Hp IvM IvR IvN SgM
attribute [local go_sem ↓] Go.wp_at_zero Go.wp_at_succ
theorem cutR_off {f u : Int} (h : f < 0 ∨ u < f) (t m : Int) (w : World) :
    Calls Try.prog 17 #[rv (f, u), .int .i64 t, .int .i64 m] w (RowP w (cut f u t m)) := by
  rw [cut_off h]
  unfold rv
  rcases (show f < 0 ∨ (¬ f < 0 ∧ u < f) by omega) with h1 | ⟨h1, h2⟩
  all_goals
    clear h
    go_enter Try.func17, Try.ntmps17
    go_wp2_with fail
    go_ret
    exact ⟨_, rfl, Row.none _ _, (Kept.refl _ w).alloc _⟩
set_option maxHeartbeats 4000000 in
set_option maxRecDepth 100000 in
theorem cutR_on {f u t m : Int} (h0 : 0 ≤ f) (h1 : f ≤ u) (ht : t ≤ 900000) (w : World) :
    Calls Try.prog 17 #[rv (f, u), .int .i64 t, .int .i64 m] w (RowP w (cut f u t m)) := by
  rw [← sel_cut h0]
  have C := Lib.hid fun w => countR_any t m w
  have P := Lib.hid fun w (hM : May t m) (k : Int) (h0 : 0 ≤ k) (h1 : k < cnt t m) => PieceR_yes hM h0 h1 w
  have hnn := cnt_nonneg t m
  have hsm : cnt t m ≤ 900000 := by
    by_cases hM : May t m
    · have := cnt_le_max hM; omega
    · rw [cnt_no hM]; omega
  have HM : Hid (1 ≤ cnt t m → May t m) := Lib.hid fun h => by
    by_cases hM : May t m
    · exact hM
    · rw [cnt_no hM] at h; omega
  obtain ⟨n, hn⟩ : ∃ n : Nat, cnt t m = (n : Int) := ⟨(cnt t m).toNat, by omega⟩
  rw [hn] at C P HM hsm ⊢
  rw [Int.toNat_natCast]
  clear hn hnn
  have hf0 : ¬ f < 0 := by omega
  have hf1 : decide (u < f) = false := by rw [decide_eq_false_iff_not]; omega
  unfold rv
  go_enter Try.func17, Try.ntmps17
  go_wp2_with fail
  have hB0 : Blk (w.alloc (.cells #[.int .i64 f, .int .i64 u] 23)) w.heap.size [.int .i64 f, .int .i64 u] 23 := Blk.new w _ _
  have hk0 : Kept (fun _ => False) w (w.alloc (.cells #[.int .i64 f, .int .i64 u] 23)) := (Kept.refl _ w).alloc _
  have hsz : (w.alloc (.cells #[.int .i64 f, .int .i64 u] 23)).heap.size = w.heap.size + 1 := by simp
  generalize w.alloc (.cells #[.int .i64 f, .int .i64 u] 23) = w1 at *
  have HSZ := Lib.hid hsz
  have hbl := hB0.lt
  clear hsz
  obtain ⟨bf, hbf⟩ : ∃ b, b = w.heap.size := ⟨_, rfl⟩
  have HBF := Lib.hid hbf
  rw [← hbf] at hB0 hbl ⊢
  clear hbf
  have HB := Lib.hid hB0
  clear hB0
  go_loopg [7, 8] n (fun mm s7 s8 wr => ∃ (i k : Nat) (s7a : Option Addr) (c7 : Nat) (L : List Rg), Hid (mm = n - i) ∧ i ≤ n ∧ k ≤ i ∧ s8 = .int .i64 ((i : Nat) : Int) ∧ s7 = .slice s7a k c7 ∧ Hid (L.length = k) ∧ Hid (L = sel f u t m i) ∧
    Hid (Row wr w.heap.size (.slice s7a k c7) L) ∧ Hid (Kept (fun _ => False) w1 wr) ∧ Hid (∀ q, (Value.slice s7a k c7).ownBlock = some q → q ≠ bf))
  case atStart => exact ⟨0, 0, none, 0, [], rfl, by omega, by omega, rfl, rfl, rfl, rfl, Lib.hid (Row.none _ _), Lib.hid (Kept.refl _ _), Lib.hid (fun q h => by cases h)⟩
  case round =>
    obtain ⟨i, k, s7a, c7, L, hm, hi, hki, rfl, rfl, hL, hLe, hR, hk, hne⟩ := hrel
    by_cases hlt : i < n
    · have hlt2 : (i : Int) < (n : Int) := by omega
      have PP := Lib.hid (P.out wr (HM.out (by omega)) (i : Nat) (by omega) hlt2)
      have hs : sel f u t m (i + 1) = L ++ if hit f u t m i then [pc t m i] else [] := by rw [sel, ← hLe.out]
      obtain ⟨p, hp⟩ : ∃ p, p = pc t m i := ⟨_, rfl⟩
      have hh : hit f u t m i ↔ max p.1 f < min p.2 u := by rw [hp]; exact Iff.rfl
      rw [← hp] at PP hs
      obtain ⟨px, py⟩ := p
      clear hp
      obtain ⟨mx, hmx⟩ : ∃ x, max px f = x := ⟨_, rfl⟩
      obtain ⟨mn, hmn⟩ : ∃ x, min py u = x := ⟨_, rfl⟩
      dsimp only at hh
      rw [hmx, hmn] at hh
      have hmx2 : (if px < f then f else px) = mx := by rw [← hmx, max_if]
      have hmn2 : (if u < py then u else py) = mn := by rw [← hmn, min_if]
      have HK0 := Lib.hid hk0
      clear hmx hmn hk0
      by_cases hxy : mx < mn
      · rw [if_pos (hh.2 hxy)] at hs
        have HS := Lib.hid hs
        clear hs hh
        go_wp2_with fail
        with_reducible refine Calls.mono (C.out _) ?_
        rintro e w' ⟨rfl, rfl⟩
        go_wp2_with fail
        with_reducible refine Calls.mono PP.out ?_
        rintro e w5 ⟨rfl, k5⟩
        unfold rv
        have hkk : Kept (fun _ => False) w1 (w5.alloc (.cells #[.int .i64 px, .int .i64 py] 23)) := (hk.out.trans k5).alloc _
        have hBp : Blk (w5.alloc (.cells #[.int .i64 px, .int .i64 py] 23)) w5.heap.size [.int .i64 px, .int .i64 py] 23 := Blk.new w5 _ _
        have hBr := hkk.blk HB.out (fun f => f)
        have hR6 : Row (w5.alloc (.cells #[.int .i64 px, .int .i64 py] 23)) w.heap.size (.slice s7a k c7) L := (hR.out.kept k5 (fun _ _ f => f)).kept ((Kept.refl _ w5).alloc _) (fun _ _ f => f)
        have hn5 : w.heap.size ≤ w5.heap.size := (HK0.out.trans (hk.out.trans k5)).size
        have hlq : ∀ q, (Value.slice s7a k c7).ownBlock = some q → w.heap.size ≤ q ∧ q < w5.heap.size := (hR.out.kept k5 (fun _ _ f => f)).lt
        have HLQ := Lib.hid hlq
        clear hlq k5 PP
        go_upto_region 8 with fail
        generalize w5.alloc (.cells #[.int .i64 px, .int .i64 py] 23) = w6 at *
        generalize w5.heap.size = pb at *
        have c0 := hBr.cell (o := 0) rfl
        have c1 := hBr.cell (o := 1) rfl
        have d0 := hBp.cell (o := 0) rfl
        have d1 := hBp.cell (o := 1) rfl
        go_upto_region 9 with fail
        have hR7 : Row (w6.alloc (.cells #[.int .i64 px, .int .i64 py] 23)) w.heap.size (.slice s7a k c7) L := hR6.kept ((Kept.refl _ w6).alloc _) (fun _ _ f => f)
        have hk7 : Kept (fun _ => False) w1 (w6.alloc (.cells #[.int .i64 px, .int .i64 py] 23)) := hkk.alloc _
        have hS7 : Src (w6.alloc (.cells #[.int .i64 px, .int .i64 py] 23)) (.slice (some ⟨w6.heap.size, 0, none⟩) 1 1) [(px, py)] := src_one (p := (px, py)) (Blk.new w6 (rc (px, py)) _)
        have hL' := hL.out
        have HK7 := Lib.hid hk7
        have HR7 := Lib.hid hR7
        have HS7 := Lib.hid hS7
        clear hk7 hR7 hS7 hR6 hkk hBp hBr c0 c1
        go_wp2_with (at_builtin; refine wpList_app rfl _ _ rfl w.heap.size (v := .slice s7a k c7) rfl HR7.out rfl HS7.out (by rw [hL']; simp; omega) (HK0.out.trans HK7.out).size ?_; intro v' w7 hA)
        obtain ⟨s', c', rfl⟩ := form2 hA.row
        have hk8 : Kept (fun _ => False) w1 w7 := HK7.out.trans' hA.kept (fun q hq e => by have h1 := hne.out q e; have h2 := (HLQ.out q e).1; have h3 := HBF.out; have h4 := HSZ.out; omega)
        have hlen : (L ++ [(px, py)]).length = k + 1 := by rw [List.length_append, hL']; rfl
        have hR8 := hA.row
        rw [hlen] at hR8
        rw [hlen]
        have HR8 := Lib.hid hR8
        have HK8 := Lib.hid hk8
        have HNE : Hid (∀ q, (Value.slice s' (k + 1) c').ownBlock = some q → q ≠ bf) := Lib.hid fun q hq => by
          rcases hA.lies q (by rw [hlen]; exact hq) with e | e
          · exact hne.out q e
          · have h1 := HK7.out.size; omega
        clear hR8 hk8 hA hL' HR7 HS7 HK7
        go_wp2_with fail
        go_roundg (n - (i + 1))
        case measure => have := hm.out; omega
        case rel => exact ⟨i + 1, k + 1, s', c', L ++ [(px, py)], rfl, by omega, by omega, by simp, rfl, Lib.hid hlen, Lib.hid HS.out.symm, HR8, HK8, HNE⟩
      · rw [if_neg (fun g => hxy (hh.1 g)), List.append_nil] at hs
        have HS := Lib.hid hs
        clear hs hh
        have hxy2 : decide (mx < mn) = false := by rw [decide_eq_false_iff_not]; exact hxy
        go_wp2_with fail
        with_reducible refine Calls.mono (C.out _) ?_
        rintro e w' ⟨rfl, rfl⟩
        go_wp2_with fail
        with_reducible refine Calls.mono PP.out ?_
        rintro e w5 ⟨rfl, k5⟩
        unfold rv
        have hkk : Kept (fun _ => False) w1 (w5.alloc (.cells #[.int .i64 px, .int .i64 py] 23)) := (hk.out.trans k5).alloc _
        have hBp : Blk (w5.alloc (.cells #[.int .i64 px, .int .i64 py] 23)) w5.heap.size [.int .i64 px, .int .i64 py] 23 := Blk.new w5 _ _
        have hBr := hkk.blk HB.out (fun f => f)
        have hR6 : Row (w5.alloc (.cells #[.int .i64 px, .int .i64 py] 23)) w.heap.size (.slice s7a k c7) L := (hR.out.kept k5 (fun _ _ f => f)).kept ((Kept.refl _ w5).alloc _) (fun _ _ f => f)
        clear k5 PP
        go_upto_region 8 with fail
        generalize w5.alloc (.cells #[.int .i64 px, .int .i64 py] 23) = w6 at *
        generalize w5.heap.size = pb at *
        have c0 := hBr.cell (o := 0) rfl
        have c1 := hBr.cell (o := 1) rfl
        have d0 := hBp.cell (o := 0) rfl
        have d1 := hBp.cell (o := 1) rfl
        have HR6 := Lib.hid hR6
        have HKK := Lib.hid hkk
        clear hR6 hkk hBp hBr
        go_wp2_with fail
        go_roundg (n - (i + 1))
        case measure => have := hm.out; omega
        case rel => exact ⟨i + 1, k, s7a, c7, L, rfl, by omega, by omega, by simp, rfl, hL, Lib.hid HS.out.symm, HR6, HKK, hne⟩
    · obtain rfl : i = n := by omega
      have hlt2 : ¬ (i : Int) < (i : Int) := by omega
      go_wp2_with fail
      with_reducible refine Calls.mono (C.out _) ?_
      rintro e w' ⟨rfl, rfl⟩
      go_wp2_with fail
      go_ret
      exact ⟨_, rfl, by have := hR.out; rw [← hLe.out]; exact this, hk0.trans hk.out⟩
theorem cutR_any (f u t m : Int) (ht : t ≤ 900000) (w : World) : Calls Try.prog 17 #[rv (f, u), .int .i64 t, .int .i64 m] w (RowP w (cut f u t m)) := by
  by_cases h : f < 0 ∨ u < f
  · exact cutR_off h t m w
  · exact cutR_on (by omega) (by omega) ht w
end Go.Proofs.Ytkgplpjecbbckaa.Sg
