/- The set of ranges: Gaps. Conditions: each theorem's own. -/
import Derived.Test.YtagggadjmnclfaaIvAsk
set_option linter.unusedVariables false
namespace Go.Proofs.Ytagggadjmnclfaa.Iv
open Go.RowKit Hp IvM IvR IvN
attribute [local go_sem ↓] Go.wp_at_zero Go.wp_at_succ
theorem gaps_nil (u m : Int) (w : World) : Calls Try.prog 10 #[.pointer none, .int .i64 u, .int .i64 m] w fun e w' => e = .returned (.slice none 0 0) ∧ w = w' := by
  go_enter Try.func10, Try.ntmps10
  go_wp2_with fail
  go_ret
  exact ⟨rfl, rfl⟩
theorem drop_at {l : List Rg} {i : Nat} (h : i < l.length) : l.drop i = l.getD i (0, 0) :: l.drop (i + 1) := by
  rw [getD_at h]; exact List.drop_eq_getElem_cons h
theorem gaps_end {e x : Int} (h : ¬ x < e) (l : List Rg) : gaps e x l = [] := by
  cases l <;> simp [gaps, h]
theorem gaps_last {e x : Int} (h : x < e) : gaps e x [] = [(x, e)] := by simp [gaps, h]
theorem gaps_put {e x : Int} {p : Rg} {r : List Rg} (h : x < e) (h2 : x < min e p.1) : gaps e x (p :: r) = (x, min e p.1) :: gaps e p.2 r := by rw [gaps, if_pos h, if_pos h2]; rfl
theorem gaps_skip {e x : Int} {p : Rg} {r : List Rg} (h : x < e) (h2 : ¬ x < min e p.1) : gaps e x (p :: r) = gaps e p.2 r := by rw [gaps, if_pos h, if_neg h2]; rfl
theorem form2 {w : World} {base : Nat} {v : Value} {l : List Rg} (h : Row w base v l) : ∃ s c, v = .slice s l.length c := by
  rcases h.form with ⟨rfl, rfl⟩ | ⟨g, cap, cur, rfl, _⟩
  · exact ⟨_, _, rfl⟩
  · exact ⟨_, _, rfl⟩
set_option maxHeartbeats 8000000 in
set_option maxRecDepth 100000 in
theorem gaps_any {w : World} {base b : Nat} {v : Value} {n : Int} {l : List Rg} (h : SetV w base b v n l) (u most : Int) (hmost : (l.length : Int) + 1 < most) :
    Calls Try.prog 10 #[.pointer (some ⟨b, 0, none⟩), .int .i64 u, .int .i64 most] w (CloneP w (gaps (min u n) 0 l)) := by
  have hfew := h.few
  have htop := h.top
  have kb := h.blk.lt
  have c0 := h.blk.cell (o := 0) rfl
  have c1 := h.blk.cell (o := 1) rfl
  have hea := Lib.hid h.each
  obtain ⟨en, hen⟩ : ∃ e, e = min u n := ⟨_, rfl⟩
  rw [← hen]
  have he2 : en ≤ 1073741824 := by omega
  have EN := Lib.hid (hen.trans (min_if u n))
  obtain ⟨s, cap, rfl, q1, q2, q3⟩ := h.runs
  have Q3 := Lib.hid q3
  clear h q3 hen
  obtain ⟨G, hG⟩ : ∃ G, G = gaps en 0 l := ⟨_, rfl⟩
  rw [← hG]
  have HG := Lib.hid hG
  clear hG
  go_enter Try.func10, Try.ntmps10
  go_wp2_with fail
  with_reducible refine Calls.mono (min1 u n en _ _ EN.out ?_) ?_
  · simp
  rintro e w1 ⟨rfl, rfl⟩
  have k1 : Kept (fun _ => False) w (w.alloc (.cells #[.int .i64 n] 3)) := (Kept.refl _ w).alloc _
  generalize w.alloc (.cells #[.int .i64 n] 3) = w1 at *
  go_wp2_with fail
  go_loopg [7, 9, 10] (l.length + 1) (fun m s7 s9 s10 wr => ∃ (i k : Nat) (x : Int) (K : List Rg) (s7a : Option Addr) (c7 : Nat), Hid (m = l.length + 1 - i) ∧ i ≤ l.length + 1 ∧ s10 = .int .i64 ((i : Nat) : Int) ∧ s9 = .int .i64 x ∧ s7 = .slice s7a k c7 ∧ Hid (K.length = k) ∧ k ≤ i ∧
    Hid (Row wr w.heap.size (.slice s7a k c7) K) ∧ Hid (K ++ gaps en x (l.drop i) = G) ∧ Hid (l.length < i → ¬ x < en) ∧ Kept (fun _ => False) w wr)
  case atStart => exact ⟨0, 0, 0, [], none, 0, rfl, by omega, rfl, rfl, rfl, rfl, by omega, Lib.hid (Row.none _ _), Lib.hid (by rw [HG.out]; rfl), Lib.hid (by omega), k1⟩
  case round =>
    obtain ⟨i, k, x, K, s7a, c7, hm, hi, rfl, rfl, rfl, hK, hki, hR, hGx, hend, hk⟩ := hrel
    by_cases hx : x < en
    · have hi2 : i ≤ l.length := by
        rcases Nat.lt_or_ge l.length i with h | h
        · exact absurd hx (hend.out h)
        · exact h
      have hkm : (k : Int) < most := by omega
      by_cases hlt : i < l.length
      · obtain ⟨g, rfl, g1, g2, g3, g4⟩ := Q3.out.resolve_left (fun e => by obtain ⟨_, rfl, _⟩ := e; simp at hlt)
        have e0 := (keptCell hk g2 (fun f => f) _).trans (g4 i hlt).1
        have e1 := (keptCell hk g2 (fun f => f) _).trans (g4 i hlt).2
        have hp := hea.out (l.getD i (0, 0)) (by rw [getD_at hlt]; exact List.getElem_mem hlt)
        have hdr := drop_at hlt
        have c1r := (keptCell hk kb (fun f => f) 1).trans c1
        have hbr : b < wr.heap.size := Nat.lt_of_lt_of_le kb hk.size
        have hgr : g < wr.heap.size := Nat.lt_of_lt_of_le g2 hk.size
        generalize l.getD i (0, 0) = p at *
        obtain ⟨a, b2⟩ := p
        dsimp only at e0 e1 hp
        obtain ⟨mt, hmt⟩ : ∃ m, m = min en a := ⟨_, rfl⟩
        have MT := Lib.hid (hmt.trans (min_if en a))
        have HM := Lib.hid hmt
        have hGx2 := hGx.out
        rw [hdr] at hGx2
        have HX := Lib.hid hGx2
        clear hdr hGx2 hGx hmt
        go_upto_region 12 with fail
        have hB : Blk (wr.alloc (.cells #[.int .i64 a, .int .i64 b2] 31)) wr.heap.size [.int .i64 a, .int .i64 b2] 31 := Blk.new wr _ _
        have hka : Kept (fun _ => False) wr (wr.alloc (.cells #[.int .i64 a, .int .i64 b2] 31)) := (Kept.refl _ wr).alloc _
        have hown : ∀ q, (Value.slice s7a k c7).ownBlock = some q → w.heap.size ≤ q ∧ q < wr.heap.size := hR.out.lt
        generalize wr.alloc (.cells #[.int .i64 a, .int .i64 b2] 31) = w2 at *
        have hR2 := hR.out.kept hka (fun _ _ f => f)
        have hk2 := hk.trans hka
        have d0 := hB.cell (o := 0) rfl
        have hnb : w.heap.size ≤ wr.heap.size := hk.size
        generalize wr.heap.size = nb at *
        have hRw := hR
        clear hR hk e0 e1 c1r hka
        go_wp2_with fail
        with_reducible refine Calls.mono (min1 en a mt _ _ MT.out ?_) ?_
        · simp
        rintro e w3 ⟨rfl, rfl⟩
        have hk3 : Kept (fun _ => False) w2 (w2.alloc (.cells #[.int .i64 a] 3)) := (Kept.refl _ w2).alloc _
        generalize w2.alloc (.cells #[.int .i64 a] 3) = w3 at *
        have hB3 := hk3.blk hB (fun f => f)
        have hR3 := hR2.kept hk3 (fun _ _ f => f)
        have hk03 := hk2.trans hk3
        clear d0 hB hR2 hk2 hk3
        by_cases hxm : x < mt
        · have hgp := gaps_put hx (show x < min en (a, b2).1 by rw [← HM.out]; exact hxm) (r := l.drop (i + 1))
          go_upto_region 14 with fail
          have hB4 : Blk (w3.alloc (.cells #[.int .i64 x, .int .i64 mt] 31)) nb [.int .i64 a, .int .i64 b2] 31 := hB3.old _
          have hR4 : Row (w3.alloc (.cells #[.int .i64 x, .int .i64 mt] 31)) w.heap.size (.slice s7a k c7) K := hR3.kept ((Kept.refl _ w3).alloc _) (fun _ _ f => f)
          have hk4 : Kept (fun _ => False) w (w3.alloc (.cells #[.int .i64 x, .int .i64 mt] 31)) := hk03.alloc _
          have hS4 : Src (w3.alloc (.cells #[.int .i64 x, .int .i64 mt] 31)) (.slice (some ⟨w3.heap.size, 0, none⟩) 1 1) [(x, mt)] := src_one (p := (x, mt)) (Blk.new w3 (rc (x, mt)) _)
          have hK' := hK.out
          clear hB3 hR3 hk03
          have HK4 := Lib.hid hk4
          have HB4 := Lib.hid hB4
          have HR4 := Lib.hid hR4
          have HS4 := Lib.hid hS4
          clear hk4 hB4 hR4 hS4
          go_upto_region 15 with (at_builtin; refine wpList_app rfl _ _ rfl w.heap.size (v := .slice s7a k c7) rfl HR4.out rfl HS4.out (by rw [hK']; simp; omega) HK4.out.size ?_; intro v' w5 hA)
          obtain ⟨s', c', rfl⟩ := form2 hA.row
          have hB5 := hA.kept.blk HB4.out (fun e => by have := hown nb e; omega)
          have hk5 : Kept (fun _ => False) w w5 := HK4.out.trans' hA.kept (fun q hq e => by have := hown q e; omega)
          have d1 := hB5.cell (o := 1) rfl
          have hlen : (K ++ [(x, mt)]).length = k + 1 := by rw [List.length_append, hK']; rfl
          have hR5 := hA.row
          rw [hlen] at hR5
          rw [hlen]
          have HR5 := Lib.hid hR5
          have HGN : Hid (K ++ [(x, mt)] ++ gaps en b2 (l.drop (i + 1)) = G) := Lib.hid (by rw [← HX.out, hgp, List.append_assoc, ← HM.out]; rfl)
          clear hR5 hA hgp hK' HR4 HS4 HB4 HK4
          go_wp2_with fail
          go_roundg (l.length + 1 - (i + 1))
          case measure => have := hm.out; omega
          case rel => exact ⟨i + 1, k + 1, b2, K ++ [(x, mt)], s', c', rfl, by omega, by simp, rfl, rfl, Lib.hid hlen, by omega, HR5, HGN, Lib.hid (fun _ => by omega), hk5⟩
        · have hgp := gaps_skip hx (show ¬ x < min en (a, b2).1 by rw [← HM.out]; exact hxm) (r := l.drop (i + 1))
          have d1 := hB3.cell (o := 1) rfl
          have HR5 := Lib.hid hR3
          have HGN : Hid (K ++ gaps en b2 (l.drop (i + 1)) = G) := Lib.hid (by rw [← HX.out, hgp])
          clear hgp hB3 hR3
          go_wp2_with fail
          go_roundg (l.length + 1 - (i + 1))
          case measure => have := hm.out; omega
          case rel => exact ⟨i + 1, k, b2, K, s7a, c7, rfl, by omega, by simp, rfl, rfl, hK, by omega, HR5, HGN, Lib.hid (fun _ => by omega), hk03⟩
      · obtain rfl : i = l.length := by omega
        have c1r := (keptCell hk kb (fun f => f) 1).trans c1
        have hbr : b < wr.heap.size := Nat.lt_of_lt_of_le kb hk.size
        have hGx2 := hGx.out
        rw [List.drop_length] at hGx2
        have HX := Lib.hid hGx2
        clear hGx2 hGx
        go_upto_region 12 with fail
        have hB : Blk (wr.alloc (.cells #[.int .i64 en, .int .i64 en] 31)) wr.heap.size [.int .i64 en, .int .i64 en] 31 := Blk.new wr _ _
        have hka : Kept (fun _ => False) wr (wr.alloc (.cells #[.int .i64 en, .int .i64 en] 31)) := (Kept.refl _ wr).alloc _
        have hown : ∀ q, (Value.slice s7a k c7).ownBlock = some q → w.heap.size ≤ q ∧ q < wr.heap.size := hR.out.lt
        generalize wr.alloc (.cells #[.int .i64 en, .int .i64 en] 31) = w2 at *
        have hR2 := hR.out.kept hka (fun _ _ f => f)
        have hk2 := hk.trans hka
        have d0 := hB.cell (o := 0) rfl
        have hnb : w.heap.size ≤ wr.heap.size := hk.size
        generalize wr.heap.size = nb at *
        have hRw := hR
        clear hR hk c1r hka
        go_wp2_with fail
        with_reducible refine Calls.mono (min1 en en en _ _ (by simp) ?_) ?_
        · simp
        rintro e w3 ⟨rfl, rfl⟩
        have hk3 : Kept (fun _ => False) w2 (w2.alloc (.cells #[.int .i64 en] 3)) := (Kept.refl _ w2).alloc _
        generalize w2.alloc (.cells #[.int .i64 en] 3) = w3 at *
        have hB3 := hk3.blk hB (fun f => f)
        have hR3 := hR2.kept hk3 (fun _ _ f => f)
        have hk03 := hk2.trans hk3
        clear d0 hB hR2 hk2 hk3
        · have hgp := gaps_last hx
          go_upto_region 14 with fail
          have hB4 : Blk (w3.alloc (.cells #[.int .i64 x, .int .i64 en] 31)) nb [.int .i64 en, .int .i64 en] 31 := hB3.old _
          have hR4 : Row (w3.alloc (.cells #[.int .i64 x, .int .i64 en] 31)) w.heap.size (.slice s7a k c7) K := hR3.kept ((Kept.refl _ w3).alloc _) (fun _ _ f => f)
          have hk4 : Kept (fun _ => False) w (w3.alloc (.cells #[.int .i64 x, .int .i64 en] 31)) := hk03.alloc _
          have hS4 : Src (w3.alloc (.cells #[.int .i64 x, .int .i64 en] 31)) (.slice (some ⟨w3.heap.size, 0, none⟩) 1 1) [(x, en)] := src_one (p := (x, en)) (Blk.new w3 (rc (x, en)) _)
          have hK' := hK.out
          clear hB3 hR3 hk03
          have HK4 := Lib.hid hk4
          have HB4 := Lib.hid hB4
          have HR4 := Lib.hid hR4
          have HS4 := Lib.hid hS4
          clear hk4 hB4 hR4 hS4
          go_upto_region 15 with (at_builtin; refine wpList_app rfl _ _ rfl w.heap.size (v := .slice s7a k c7) rfl HR4.out rfl HS4.out (by rw [hK']; simp; omega) HK4.out.size ?_; intro v' w5 hA)
          obtain ⟨s', c', rfl⟩ := form2 hA.row
          have hB5 := hA.kept.blk HB4.out (fun e => by have := hown nb e; omega)
          have hk5 : Kept (fun _ => False) w w5 := HK4.out.trans' hA.kept (fun q hq e => by have := hown q e; omega)
          have d1 := hB5.cell (o := 1) rfl
          have hlen : (K ++ [(x, en)]).length = k + 1 := by rw [List.length_append, hK']; rfl
          have hR5 := hA.row
          rw [hlen] at hR5
          rw [hlen]
          have HR5 := Lib.hid hR5
          have HGN : Hid (K ++ [(x, en)] ++ gaps en en (l.drop (l.length + 1)) = G) := Lib.hid (by rw [gaps_end (by omega), List.append_nil, ← hgp]; exact HX.out)
          clear hR5 hA hgp hK' HR4 HS4 HB4 HK4
          go_wp2_with fail
          go_roundg (l.length + 1 - (l.length + 1))
          case measure => have := hm.out; omega
          case rel => exact ⟨l.length + 1, k + 1, en, K ++ [(x, en)], s', c', rfl, by omega, by simp, rfl, rfl, Lib.hid hlen, by omega, HR5, HGN, Lib.hid (fun _ => by omega), hk5⟩
    · have hGx2 := hGx.out
      rw [gaps_end hx, List.append_nil] at hGx2
      have HX := Lib.hid hGx2
      clear hGx2
      go_wp2_with fail
      go_ret
      exact ⟨_, rfl, by rw [← HX.out]; exact hR.out, hk⟩
end Go.Proofs.Ytagggadjmnclfaa.Iv
