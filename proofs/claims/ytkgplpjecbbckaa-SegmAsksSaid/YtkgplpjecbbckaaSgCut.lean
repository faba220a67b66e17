/- Messages in pieces: Cut. Conditions: each theorem's own. -/
import Derived.Test.YtkgplpjecbbckaaSg
import Derived.OwnWalk
set_option linter.unusedVariables false
namespace Go.Proofs.Ytkgplpjecbbckaa.Sg
open Go.RowKit Hp IvM IvR IvN SgM
attribute [local go_sem ↓] Go.wp_at_zero Go.wp_at_succ
theorem src_one {w : World} {b : Nat} {p : Rg} {T : TypeId} (h : Blk w b (rc p) T) : Src w (.slice (some ⟨b, 0, none⟩) 1 1) [p] :=
  Or.inr ⟨⟨b, 0, none⟩, 1, rfl, fun j u hj => by rw [Go.WideShapes.add_plain, Nat.zero_add]; exact h.cell (by simpa [flat] using hj)⟩
theorem form2 {w : World} {base : Nat} {v : Value} {l : List Rg} (h : Row w base v l) : ∃ s c, v = .slice s l.length c := by
  rcases h.form with ⟨rfl, rfl⟩ | ⟨g, cap, cur, rfl, _⟩
  · exact ⟨_, _, rfl⟩
  · exact ⟨_, _, rfl⟩
theorem keptCell {F : Nat → Prop} {w w' : World} (h : Kept F w w') {k : Nat} (hk : k < w.heap.size) (hF : ¬ F k) (o : Nat) : w'.cell? ⟨k, o, none⟩ = w.cell? ⟨k, o, none⟩ := by
  simp [World.cell?, h.block k hk hF]
/-- A row made with room. -/
theorem row_made (w : World) (n : Nat) (hn : n ≤ maxLen) : Row (w.alloc (.cells (Builtin.zeroCells (Value.agg #[.int .i64 0, .int .i64 0]).cells n) 23)) w.heap.size (.slice (some ⟨w.heap.size, 0, none⟩) 0 n) [] := by
  refine Lies.row (cur := zeros n) ⟨?_, Nat.zero_le _, hn, zeros_len n, by simp [flat]⟩ (Nat.le_refl _)
  have := Blk.new w (zeros n) 23
  simpa [zeros] using this
def RowP (w : World) (l : List Rg) (e : Ending) (w' : World) : Prop := ∃ v', e = .returned v' ∧ Row w' w.heap.size v' l ∧ Kept (fun _ => False) w w'
set_option maxHeartbeats 4000000 in
set_option maxRecDepth 100000 in
theorem cut_yes {f u t m x : Int} (h : May t m) (hx : x = min u t) (h0 : 0 ≤ f) (h1 : f < x) (ht : t ≤ 900000) (w : World) :
    Calls Try.prog 16 #[rv (f, u), .int .i64 t, .int .i64 m] w (RowP w (cut f u t m)) := by
  have M := Lib.hid fun w => may_yes h w
  have HX := Lib.hid (hx.trans (min_if _ _))
  have e : cut f u t m = (List.range (cutN f x m)).map fun i => pc t m (f / m + (i : Nat)) := by rw [hx] at h1 ⊢; exact if_pos ⟨h, h0, h1⟩
  rw [e]
  obtain ⟨g0, g1, g2, g3⟩ := id h
  have A1 := Lib.hid fun w => at_any t m f w
  have A2 := Lib.hid fun w => at_any t m (x - 1) w
  rw [at_yes h h0 (by omega)] at A1
  rw [at_yes h (by omega) (by omega)] at A2
  have hb1 := div_in (x := f) g2 h0 (by omega)
  have hb2 := div_in (x := x - 1) g2 (by omega) (by omega)
  have hmo := div_mono g2 (show f ≤ x - 1 by omega)
  have hcn : cutN f x m = ((x - 1) / m - f / m + 1).toNat := rfl
  generalize cutN f x m = n at *
  generalize (x - 1) / m = b at *
  generalize f / m = a at *
  have PC := Lib.hid fun (w : World) (k : Int) (h0 : 0 ≤ k) (h1 : k ≤ 2147483648) => piece_any (t := t) h0 h1 g2 g3 w
  have hn : (n : Int) = b - a + 1 := by omega
  have hn0 : 0 ≤ b - a + 1 := by omega
  have hnf : decide (f < 0) = false := by rw [decide_eq_false_iff_not]; omega
  have hxt : x ≤ 900000 := by omega
  have hx1 : 1 ≤ x := by omega
  have hnt : decide (x ≤ f) = false := by rw [decide_eq_false_iff_not]; omega
  clear hcn e hx h
  unfold rv
  go_enter Try.func16, Try.ntmps16
  go_wp2_with fail
  with_reducible refine Calls.mono (min1 _ _ _ _ _ HX.out ?_) ?_
  · simp
  rintro e w1 ⟨rfl, rfl⟩
  have hB := (Blk.new w [.int .i64 f, .int .i64 u] 23).old (.cells #[.int .i64 t] 3)
  have k1 : Kept (fun _ => False) w ((w.alloc (.cells #[.int .i64 f, .int .i64 u] 23)).alloc (.cells #[.int .i64 t] 3)) := ((Kept.refl _ w).alloc _).alloc _
  dsimp only [List.toArray] at hB
  have c0 := hB.cell (o := 0) rfl
  have kb := hB.lt
  go_wp2_with (go_at_call 19; refine (M.out _).mono ?_; rintro e w' ⟨rfl, rfl⟩)
  with_reducible refine Calls.mono (A1.out _) ?_
  rintro e w2 ⟨rfl, k2⟩
  have k02 := k1.trans k2
  clear c0
  go_wp2_with fail
  with_reducible refine Calls.mono (A2.out _) ?_
  rintro e w3 ⟨rfl, k3⟩
  have k03 := k02.trans k3
  clear k1 k2 k3 k02 hB kb A1 A2 M HX
  obtain ⟨ti, hti, hz0, hz1, hz2⟩ := info_parts infoR
  go_upto_region 6 with fail
  go_wp2_with (at_make; refine wpList_make_own _ rfl _ _ 35 rfl w3.heap.size 23 ti (.agg #[.int .i64 0, .int .i64 0]) 2 Try.underlying35 hti hz0 hz1 .i64 .i64 _ n rfl rfl (by omega) (by rw [hz2]; omega) (by unfold maxLen; omega) (Nat.le_refl _) ?_; intro w4 hR0 hg0)
  have hR : Row w4 w.heap.size (.slice (some ⟨w3.heap.size, 0, none⟩) 0 n) [] := Row.base (b := w3.heap.size) hR0 (fun g hg => by cases hg; exact k03.size)
  have k04 : Kept (fun _ => False) w w4 := k03.trans ((grown_kept hg0).mono (fun i _ e => by cases e))
  have HR := Lib.hid hR
  clear hR0 hg0 hR k03 hti hz0 hz1 hz2
  generalize w3.heap.size = g at *
  go_loopg [10, 48] n (fun mm s10 s48 wr => ∃ (i : Nat) (s7a : Option Addr) (c7 : Nat) (L : List Rg), Hid (mm = n - i) ∧ i ≤ n ∧ s48 = .int .i64 ((i : Nat) : Int) ∧ s10 = .slice s7a i c7 ∧ Hid (L.length = i) ∧ Hid (L = (List.range i).map fun i => pc t m (a + (i : Nat))) ∧
    Hid (Row wr w.heap.size (.slice s7a i c7) L) ∧ Kept (fun _ => False) w wr)
  case atStart => exact ⟨0, _, _, [], rfl, by omega, rfl, rfl, rfl, rfl, HR, k04⟩
  case round =>
    obtain ⟨i, s7a, c7, L, hm, hi, rfl, rfl, hL, hLe, hR, hk⟩ := hrel
    by_cases hlt : i < n
    · have P := Lib.hid fun w => PC.out w (a + i) (by omega) (by omega)
      have hsn : (List.range (i + 1)).map (fun i => pc t m (a + (i : Nat))) = L ++ [pc t m (a + i)] := by rw [List.range_succ, List.map_append, ← hLe.out]; rfl
      have HSN := Lib.hid hsn
      clear hsn
      generalize pc t m (a + i) = p at *
      have hib : (i : Int) < b - a + 1 := by omega
      have hown : ∀ q, (Value.slice s7a i c7).ownBlock = some q → w.heap.size ≤ q ∧ q < wr.heap.size := hR.out.lt
      go_upto_region 10 with fail
      go_wp2_with fail
      with_reducible refine Calls.mono (P.out _) ?_
      rintro e w5 ⟨rfl, k5⟩
      have hR5 := hR.out.kept k5 (fun _ _ f => f)
      have hk5 := hk.trans k5
      clear P
      obtain ⟨px, py⟩ := p
      unfold rv
      have hR6 : Row (w5.alloc (.cells #[.int .i64 px, .int .i64 py] 23)) w.heap.size (.slice s7a i c7) L := hR5.kept ((Kept.refl _ w5).alloc _) (fun _ _ f => f)
      have hk6 : Kept (fun _ => False) w (w5.alloc (.cells #[.int .i64 px, .int .i64 py] 23)) := hk5.alloc _
      have hS6 : Src (w5.alloc (.cells #[.int .i64 px, .int .i64 py] 23)) (.slice (some ⟨w5.heap.size, 0, none⟩) 1 1) [(px, py)] := src_one (p := (px, py)) (Blk.new w5 (rc (px, py)) _)
      have hL' := hL.out
      have HK6 := Lib.hid hk6
      have HR6 := Lib.hid hR6
      have HS6 := Lib.hid hS6
      clear hk6 hR6 hS6 hR5 hk5 hR hk k5
      go_wp2_with (at_builtin; refine wpList_app rfl _ _ rfl w.heap.size (v := .slice s7a i c7) rfl HR6.out rfl HS6.out (by rw [hL']; simp; omega) HK6.out.size ?_; intro v' w7 hA)
      obtain ⟨s', c', rfl⟩ := form2 hA.row
      have hk7 : Kept (fun _ => False) w w7 := HK6.out.trans' hA.kept (fun q hq e => by have := hown q e; omega)
      have hlen : (L ++ [(px, py)]).length = i + 1 := by rw [List.length_append, hL']; rfl
      have hR7 := hA.row
      rw [hlen] at hR7
      rw [hlen]
      have HR7 := Lib.hid hR7
      clear hR7 hA hL' HR6 HS6 HK6 hown
      go_wp2_with fail
      go_roundg (n - (i + 1))
      case measure => have := hm.out; omega
      case rel => exact ⟨i + 1, s', c', L ++ [(px, py)], rfl, by omega, by simp, rfl, Lib.hid hlen, Lib.hid HSN.out.symm, HR7, hk7⟩
    · obtain rfl : i = n := by omega
      have hib : ¬ (i : Int) < b - a + 1 := by omega
      go_wp2_with fail
      go_ret
      exact ⟨_, rfl, by have := hR.out; rw [← hLe.out]; exact this, hk⟩
set_option maxHeartbeats 2000000 in
theorem cut_none {f u t m : Int} (h : ¬ (May t m ∧ 0 ≤ f ∧ f < min u t)) (w : World) :
    Calls Try.prog 16 #[rv (f, u), .int .i64 t, .int .i64 m] w (RowP w (cut f u t m)) := by
  obtain ⟨x, hx⟩ : ∃ x, x = min u t := ⟨_, rfl⟩
  have HX := Lib.hid (hx.trans (min_if _ _))
  have e : cut f u t m = [] := if_neg h
  rw [← hx] at h
  rw [e]
  clear e hx
  unfold rv
  by_cases hM : May t m
  · have M := Lib.hid fun w => may_yes hM w
    rcases (show f < 0 ∨ (¬ f < 0 ∧ x ≤ f) by have h2 : ¬ (0 ≤ f ∧ f < x) := fun h2 => h ⟨hM, h2⟩
                                              omega) with h1 | ⟨h1, h2⟩
    all_goals
      clear h hM
      go_enter Try.func16, Try.ntmps16
      go_wp2_with fail
      with_reducible refine Calls.mono (min1 _ _ _ _ _ HX.out ?_) ?_
      · simp
      rintro e w1 ⟨rfl, rfl⟩
      have hB := (Blk.new w [.int .i64 f, .int .i64 u] 23).old (.cells #[.int .i64 t] 3)
      have k1 : Kept (fun _ => False) w ((w.alloc (.cells #[.int .i64 f, .int .i64 u] 23)).alloc (.cells #[.int .i64 t] 3)) := ((Kept.refl _ w).alloc _).alloc _
      dsimp only [List.toArray] at hB
      have c0 := hB.cell (o := 0) rfl
      go_wp2_with (go_at_call 19; refine (M.out _).mono ?_; rintro e w' ⟨rfl, rfl⟩)
      go_ret
      exact ⟨_, rfl, Row.none _ _, k1⟩
  · have M := Lib.hid fun w => may_no hM w
    clear h hM
    go_enter Try.func16, Try.ntmps16
    go_wp2_with fail
    with_reducible refine Calls.mono (min1 _ _ _ _ _ HX.out ?_) ?_
    · simp
    rintro e w1 ⟨rfl, rfl⟩
    have k1 : Kept (fun _ => False) w ((w.alloc (.cells #[.int .i64 f, .int .i64 u] 23)).alloc (.cells #[.int .i64 t] 3)) := ((Kept.refl _ w).alloc _).alloc _
    go_wp2_with (go_at_call 19; refine (M.out _).mono ?_; rintro e w' ⟨rfl, rfl⟩)
    go_ret
    exact ⟨_, rfl, Row.none _ _, k1⟩
theorem cut_any (f u t m : Int) (ht : t ≤ 900000) (w : World) : Calls Try.prog 16 #[rv (f, u), .int .i64 t, .int .i64 m] w (RowP w (cut f u t m)) := by
  by_cases h : May t m ∧ 0 ≤ f ∧ f < min u t
  · exact cut_yes h.1 rfl h.2.1 h.2.2 ht w
  · exact cut_none h w
end Go.Proofs.Ytkgplpjecbbckaa.Sg
