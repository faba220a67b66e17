/- The document's own meter: Cuts. Conditions: each theorem's own. -/
import Derived.Test.YtkggnbibjcogeaaCoRf
set_option linter.unusedVariables false
namespace Go.Proofs.Ytkggnbibjcogeaa.Co
open Go.RowKit Hp CoM CoS NumM NumC Go.Proofs.Ytkggnbibjcogeaa.End
attribute [local go_sem ↓] Go.wp_at_zero Go.wp_at_succ
theorem shift_set {s : List Int} {z y : Int} {k : Nat} (hk : k + 1 ≤ s.length) (hy : s[k]? = some y) : (s.take (k + 1) ++ z :: s.drop (k + 1)).set (k + 1) y = s.take k ++ y :: s.drop k := by
  obtain ⟨h, rfl⟩ := List.getElem?_eq_some_iff.1 hy
  have e1 : (s.take (k + 1)).length = k + 1 := by rw [List.length_take]; omega
  rw [List.set_append_right _ _ (by omega), e1, Nat.sub_self, List.set_cons_zero]
  rw [List.take_succ_eq_append_getElem h, List.drop_eq_getElem_cons h, List.append_assoc]
  rfl
theorem shift_get {s : List Int} {z : Int} {k : Nat} (hk : k < s.length) {y : Int} (hy : s[k]? = some y) : (s.take (k + 1) ++ z :: s.drop (k + 1))[k]? = some y := by
  rw [List.getElem?_append_left (by rw [List.length_take]; omega), List.getElem?_take, if_pos (by omega)]; exact hy
theorem shift_last {s : List Int} {z x : Int} {k : Nat} (hk : k ≤ s.length) : (s.take k ++ z :: s.drop k).set k x = ins s x k := by
  have e1 : (s.take k).length = k := by rw [List.length_take]; omega
  unfold ins
  rw [List.set_append_right _ _ (by omega), e1, Nat.sub_self, List.set_cons_zero]
theorem shift_len {s : List Int} {z : Int} {k : Nat} (hk : k ≤ s.length) : (s.take k ++ z :: s.drop k).length = s.length + 1 := by
  rw [List.length_append, List.length_cons, List.length_take, List.length_drop]; omega
/-- Sorted so far. -/
structure Srd (l : List Int) (i : Nat) (s : List Int) : Prop where
  up : Up s
  perm : s.Perm (l.take i)
theorem Srd.len {l s : List Int} {i : Nat} (h : Srd l i s) (hi : i ≤ l.length) : s.length = i := by rw [h.perm.length_eq, List.length_take]; omega
theorem Srd.step {l s : List Int} {i p : Nat} {x : Int} (h : Srd l i s) (hx : l[i]? = some x) (hp : p ≤ s.length) (h1 : ∀ j y, p ≤ j → s[j]? = some y → x ≤ y) (h2 : ∀ y, 0 < p → s[p - 1]? = some y → y ≤ x) : Srd l (i + 1) (ins s x p) := by
  obtain ⟨hi, rfl⟩ := List.getElem?_eq_some_iff.1 hx
  refine ⟨ins_up h.up hp h1 h2, (ins_perm s _ p).trans ?_⟩
  rw [List.take_succ_eq_append_getElem hi]
  exact h.perm.append_right _
/-- Where so many levels are cut already, and the others are not. -/
structure Out (L : Nat) (W : Int) (s : List Int) (r : Nat) (os : List Int) : Prop where
  len : os.length = L - 1
  done : ∀ j (h : j < os.length), j + 1 < r → os[j] = cutOf W (thr L (pr W s) (j + 1)) s 0
  rest : ∀ j (h : j < os.length), r ≤ j + 1 → os[j] = 0
theorem Out.start (L : Nat) (W : Int) (s : List Int) : Out L W s 1 (List.replicate (L - 1) 0) := ⟨by simp, fun j h hj => by omega, fun j h hj => by simp⟩
theorem Out.set {L r : Nat} {W : Int} {s os : List Int} (h : Out L W s r os) (h1 : 1 ≤ r) (hr : r < L) {y : Int} (hy : y = cutOf W (thr L (pr W s) r) s 0) : Out L W s (r + 1) (os.set (r - 1) y) := by
  have hl := h.len
  refine ⟨by rw [List.length_set]; exact hl, fun j hj hjr => ?_, fun j hj hjr => ?_⟩
  · rw [List.length_set] at hj
    rw [List.getElem_set]
    by_cases e : r - 1 = j
    · rw [if_pos e, hy, show j + 1 = r by omega]
    · rw [if_neg e]; exact h.done j hj (by omega)
  · rw [List.length_set] at hj
    rw [List.getElem_set, if_neg (by omega)]
    exact h.rest j hj (by omega)
theorem Out.skip {L r : Nat} {W : Int} {s os : List Int} (h : Out L W s r os) (h1 : 1 ≤ r) (hy : cutOf W (thr L (pr W s) r) s 0 = 0) : Out L W s (r + 1) os := by
  refine ⟨h.len, fun j hj hjr => ?_, fun j hj hjr => h.rest j hj (by omega)⟩
  rcases Nat.lt_or_ge (j + 1) r with e | e
  · exact h.done j hj e
  · rw [h.rest j hj e, show j + 1 = r by omega, hy]
theorem Out.all {L r : Nat} {W : Int} {s os : List Int} (h : Out L W s r os) (hr : L ≤ r ∨ s = []) : os = cuts L W s := by
  apply List.ext_getElem
  · rw [h.len, cuts_len]
  · intro j h1 h2
    rw [cuts_at]
    have hl := h.len
    rcases hr with hr | rfl
    · exact h.done j h1 (by omega)
    · rcases Nat.lt_or_ge (j + 1) r with e | e
      · exact h.done j h1 e
      · rw [h.rest j h1 e]; rfl
theorem cutOf_go {W t : Int} {s : List Int} {q : Nat} {x : Int} (hx : s[q]? = some x) {a : Int} : cutOf W t (s.drop q) a = if t ≤ a + min x W then x else cutOf W t (s.drop (q + 1)) (a + min x W) := by
  obtain ⟨h, rfl⟩ := List.getElem?_eq_some_iff.1 hx
  rw [List.drop_eq_getElem_cons h, cutOf]
theorem row_blk {w : World} {cb J : Nat} {os : List Int} (h : Blk w cb (os.map (Value.int .i64)) 3) (hl : os.length = J) (hJ : J ≤ 1000) : Ro.Row nT w (.slice (some ⟨cb, 0, none⟩) J J) os := by
  have hL : Ro.Lies nT w cb 0 J (os.map (Value.int .i64)) os := ⟨h, by omega, by unfold maxLen; omega, by rw [List.length_map, hl, Nat.mul_one]; omega, by rw [List.drop_zero, flat_n, List.take_of_length_le (by rw [List.length_map, Nat.mul_one]; exact Nat.le_refl _)]⟩
  have := hL.row
  rwa [hl] at this
theorem apd_lies {w w' : World} {v v' : Value} {s : List Int} {z : Int} {m : Nat} (h : Ro.Apd nT w v (s ++ [z]) v' w') (hm : (s ++ [z]).length = m) : ∃ g4 o4 c4 cur4, v' = .slice (some ⟨g4, o4, none⟩) m c4 ∧ Ro.Lies nT w' g4 o4 c4 cur4 (s ++ [z]) := by
  rcases h.row with ⟨_, e⟩ | ⟨g, o, cap, cur, e, h⟩
  · simp at e
  · exact ⟨g, o, cap, cur, by rw [hm] at e; exact e, h⟩
set_option maxHeartbeats 16000000 in
set_option maxRecDepth 100000 in
theorem rcuts_any {w : World} {c L M : Nat} {l : List Int} {v : Value} (h : RmV w c L M l v) (h0 : 1 ≤ L) (h1 : L ≤ 8) (hl : l.length ≤ 1000) (hb : ∀ y ∈ l, 0 ≤ y ∧ y ≤ 1073741824) (window : Int) :
    Calls Try.prog 13 #[.pointer (some ⟨c, 0, none⟩), .int .i64 window] w fun e w' => ∃ v', e = .returned v' ∧ Ro.Row nT w' v' (cutsM L l window) ∧ Kept (fun _ => False) w w' := by
  have CL := Lib.hid (clampRef_any window 0 1073741824 w)
  rw [cl_is] at CL
  have hW0 := (cl_bd window).1
  have hW1 := (cl_bd window).2
  unfold cutsM
  obtain ⟨W, hWd⟩ : ∃ W, cl window = W := ⟨_, rfl⟩
  rw [hWd] at CL hW0 hW1 ⊢
  clear hWd
  have H := Lib.hid h
  have HB := Lib.hid hb
  obtain ⟨a, cc, rfl, hc1, hc2⟩ := h.row.slice
  unfold maxLen at hc2
  obtain ⟨n, hn⟩ : ∃ n, l.length = n := ⟨_, rfl⟩
  have HN := Lib.hid hn
  rw [hn] at hl hc1 H
  clear h hn hb
  go_enter Try.func13, Try.ntmps13
  go_wp2_with fail
  with_reducible refine Calls.mono CL.out ?_
  rintro e w' ⟨rfl, rfl⟩
  go_wp2_with fail
  go_loopg [5, 6, 7] n (fun mm s5 s6 s7 wr => ∃ (i : Nat) (s : List Int) (a5 : Option Addr) (c5 : Nat), Hid (n - i ≤ mm) ∧ i ≤ n ∧ s7 = .int .i64 (i : Nat) ∧ s6 = .int .i64 (pr W (l.take i)) ∧ s5 = .slice a5 i c5 ∧ i ≤ c5 ∧ c5 ≤ 2 ^ 63 - 1 ∧ Hid (Srd l i s) ∧ Hid (Ro.Row nT wr (.slice a5 i c5) s) ∧ Hid (∀ g, (Value.slice a5 i c5).ownBlock = some g → w.heap.size ≤ g) ∧ Hid (Kept (fun _ => False) w wr))
  case atStart => exact ⟨0, [], none, 0, Lib.hid (by omega), Nat.zero_le _, rfl, rfl, rfl, Nat.le_refl _, by omega, Lib.hid ⟨List.Pairwise.nil, List.Perm.nil⟩, Lib.hid (Ro.Row.none nT w), Lib.hid (fun g hg => by cases hg), Lib.hid (Kept.refl _ _)⟩
  case round =>
    obtain ⟨i, s, a5, c5, hmm, hi, rfl, rfl, rfl, hic, hcm, hsd, hrow, hown, hkl⟩ := hrel
    rcases Nat.lt_or_ge i n with hlt | hge
    · obtain ⟨x, hx⟩ : ∃ x, l[i]? = some x := ⟨_, List.getElem?_eq_getElem (by rw [HN.out]; exact hlt)⟩
      have hst := pr_step hW0 HB.out (by rw [HN.out]; exact hl) hx
      obtain ⟨q1, q2, q3, q4⟩ := hst
      rw [addI_in q1 q2 q3] at q4
      have HQ4 := Lib.hid q4
      clear q4
      have hsl : Hid (s.length = i) := Lib.hid (hsd.out.len (by rw [HN.out]; omega))
      have H1 := Lib.hid (H.out.old hkl.out)
      have c2 := H1.out.blk.cell (o := 2) rfl
      have HX := Lib.hid hx
      have hlt' : (i : Int) < (n : Int) := by omega
      clear hx
      obtain ⟨ga, oa, rfl, hcx⟩ := row_cell (H.out.old hkl.out).row HX.out
      go_upto_block 2 with (fail)
      clear c2 hcx
      have HKL := Lib.hid hkl.out
      clear hkl
      obtain ⟨w1, rfl⟩ : ∃ w1 : World, w1 = wr := ⟨_, rfl⟩
      go_cut [8] (fun s8 wx => ∃ p : Nat, s8 = .int .i64 (p : Nat) ∧ p ≤ i ∧ Hid (Srd l (i + 1) (ins s x p)) ∧ Hid (Kept (fun _ => False) w1 wx))
      case first =>
        go_wp2_with fail
        go_loopg [8] i (fun mm s8 wr => ∃ (p : Nat), Hid (p ≤ mm) ∧ p ≤ i ∧ s8 = .int .i64 (p : Nat) ∧ Hid (∀ j y, p ≤ j → s[j]? = some y → x ≤ y) ∧ Hid (Kept (fun _ => False) w1 wr))
        case atStart => exact ⟨i, Lib.hid (Nat.le_refl _), Nat.le_refl _, rfl, Lib.hid (fun j y hj hy => by have := (List.getElem?_eq_some_iff.1 hy).1; rw [hsl.out] at this; omega), Lib.hid (Kept.refl _ _)⟩
        case round =>
          obtain ⟨p, hmp, hp, rfl, hpy, hkp⟩ := hrel
          have hnext : p = 0 ∨ ∃ (q : Nat) (y : Int), (p : Int) - 1 = (q : Int) ∧ p = q + 1 ∧ s[q]? = some y := by
            rcases Nat.eq_zero_or_pos p with h | h
            · exact Or.inl h
            · have hq : p - 1 < s.length := by rw [hsl.out]; omega
              exact Or.inr ⟨p - 1, s[p - 1], by omega, by omega, List.getElem?_eq_getElem hq⟩
          have H2 := Lib.hid (H1.out.old hkp.out)
          have c2 := H2.out.blk.cell (o := 2) rfl
          obtain ⟨ga', oa', e, hcx⟩ := row_cell H2.out.row HX.out
          cases e
          rcases hnext with hp0 | ⟨q, y, hq, hpq, hy⟩
          · have hp0' : decide (0 < p) = false := by rw [decide_eq_false_iff_not]; omega
            have HSR := Lib.hid (hsd.out.step HX.out (by rw [hsl.out]; exact hp) hpy.out (fun y h _ => by omega))
            clear hp0
            go_wp2_with fail
            go_quiet (fail)
            have HK4 := Lib.hid (hkp.out.drewN nq)
            clear c2 hcx H2 hkp
            generalize wr.drewN nq = w3 at *
            go_wp2_with fail
            go_meet
            exact ⟨p, rfl, hp, HSR, HK4⟩
          · have hp0' : 0 < p := by omega
            have hqi : q < i := by omega
            obtain ⟨g5, o5, rfl, hcy⟩ := row_cell (hrow.out.old hkp.out) hy
            by_cases hcmp : x < y
            · have HPY : Hid (∀ j z, q ≤ j → s[j]? = some z → x ≤ z) := Lib.hid fun j z hj hz => by
                rcases Nat.lt_or_ge q j with h | h
                · exact hpy.out j z (by omega) hz
                · obtain rfl : j = q := by omega
                  have := Option.some.inj (hz.symm.trans hy)
                  omega
              have HPQ := Lib.hid hpq
              clear hpq hy
              go_wp2_with fail
              go_quiet (fail)
              have HK4 := Lib.hid (hkp.out.drewN nq)
              clear c2 hcx hcy H2 hkp
              generalize wr.drewN nq = w3 at *
              go_wp2_with fail
              go_roundg q
              case measure => have := hmp.out; have := HPQ.out; omega
              case rel => exact ⟨q, Lib.hid (Nat.le_refl _), by omega, rfl, HPY, HK4⟩
            · have hcmp' : decide (x < y) = false := by rw [decide_eq_false_iff_not]; exact hcmp
              have HSR := Lib.hid (hsd.out.step HX.out (by rw [hsl.out]; exact hp) hpy.out (fun z h hz => by
                rw [show p - 1 = q by omega] at hz
                have := Option.some.inj (hz.symm.trans hy)
                omega))
              clear hpq hy
              go_wp2_with fail
              go_quiet (fail)
              have HK4 := Lib.hid (hkp.out.drewN nq)
              clear c2 hcx hcy H2 hkp
              generalize wr.drewN nq = w3 at *
              go_wp2_with fail
              go_meet
              exact ⟨p, rfl, hp, HSR, HK4⟩
      case rest =>
        obtain ⟨p, rfl, hp, hsr, hkp⟩ := hcut
        have R2 := Lib.hid (hrow.out.old hkp.out)
        have HK2 := Lib.hid (HKL.out.trans hkp.out)
        have hal := (Kept.refl (fun _ => False) wc).alloc (.cells #[.int .i64 0] 3)
        have R3 := Lib.hid (R2.out.old hal)
        have S3 := Lib.hid (src_one (cap := 1) (Blk.new wc [.int .i64 0] 3))
        have P3 : Hid (Kept (fun j => w.heap.size ≤ j) w (wc.alloc (.cells #[.int .i64 0] 3))) := Lib.hid (past_of (HK2.out.trans hal))
        have hs0 : s.length + ([0] : List Int).length ≤ 1000000 := by rw [hsl.out]; simp; omega
        have HS0 := Lib.hid hs0
        have hm : (s ++ [0]).length = i + 1 := by rw [List.length_append, hsl.out]; rfl
        have HMm := Lib.hid hm
        have hm1 : ((i + 1 : Nat) : Int) - 1 = (i : Int) := by omega
        obtain ⟨m, hmi⟩ : ∃ m, i + 1 = m := ⟨_, rfl⟩
        rw [hmi] at HMm hm1
        have HMI := Lib.hid hmi
        have hm2 : m ≤ 1001 := by omega
        have hm3 : i < m := by omega
        clear hal hrow H1 HKL hkp hs0 hm hmi
        go_upto_region 11 with (at_builtin; refine Ro.wpList_app nT rfl _ _ rfl (v := .slice a5 i c5) rfl R3.out rfl S3.out HS0.out ?_; intro v4 w4 hA4; have P4 := Lib.hid (past_apd P3.out hA4 hown.out); obtain ⟨g4, o4, c4, cur4, hv4, hL4⟩ := apd_lies hA4 HMm.out; subst hv4; have HL4 := Lib.hid hL4; have HO4 : Hid (w.heap.size ≤ g4) := Lib.hid (P4.out.2 g4 rfl); clear hA4 hL4)
        have hcm4 := HL4.out.most
        have hcl4 : m ≤ c4 := by have := HL4.out.le; rw [HMm.out] at this; exact this
        unfold maxLen at hcm4
        have HK4 := Lib.hid (of_past P4.out.1)
        clear P4 P3 R3 S3 R2 HK2 HS0
        go_wp2_with fail
        have HL5 : Hid (Ro.Lies nT w4 g4 o4 c4 cur4 (s.take i ++ 0 :: s.drop i)) := Lib.hid (by
          rw [← hsl.out, List.take_length, List.drop_length]; exact HL4.out)
        clear HL4
        go_loopg [9] i (fun mm s9 wr => ∃ (k : Nat) (z : Int) (cur : List Value), Hid (k - p ≤ mm) ∧ p ≤ k ∧ k ≤ i ∧ s9 = .int .i64 (k : Nat) ∧ Hid (Ro.Lies nT wr g4 o4 c4 cur (s.take k ++ z :: s.drop k)) ∧ Hid (Kept (fun j => j = g4) w4 wr))
        case atStart => exact ⟨i, 0, cur4, Lib.hid (by omega), hp, Nat.le_refl _, rfl, HL5, Lib.hid (Kept.refl _ _)⟩
        case round =>
          clear HL5
          obtain ⟨k, z, cur, hmk, hpk, hki, rfl, hL, hkg⟩ := hrel
          have hcz : (s.take k ++ z :: s.drop k)[k]? = some z := by
            have e1 : (s.take k).length = k := by rw [List.length_take, hsl.out]; omega
            rw [List.getElem?_append_right (by omega), e1, Nat.sub_self]; rfl
          have e0 := nat_at hL.out hcz
          have f0 := hL.out.blk.frozen (o4 + k)
          have b0 := hL.out.blk.lt
          clear hcz
          rcases Nat.lt_or_ge p k with hgt | hge
          · obtain ⟨q, y, hq, hkq, hy⟩ : ∃ (q : Nat) (y : Int), (k : Int) - 1 = (q : Int) ∧ k = q + 1 ∧ s[q]? = some y := ⟨k - 1, s[k - 1]'(by rw [hsl.out]; omega), by omega, by omega, List.getElem?_eq_getElem _⟩
            have e1 : wr.cell? ⟨g4, o4 + q, none⟩ = some (.int .i64 y) := nat_at hL.out (by rw [hkq]; exact shift_get (by rw [hsl.out]; omega) hy)
            have hL6 := lies_set hL.out (f := k) (by rw [shift_len (by rw [hsl.out]; omega), hsl.out]; omega) y
            rw [show (s.take k ++ z :: s.drop k).set k y = s.take q ++ y :: s.drop q by rw [hkq]; exact shift_set (by rw [hsl.out]; omega) hy] at hL6
            have HL6 := Lib.hid hL6
            have HK6 : Hid (Kept (fun j => j = g4) w4 (wr.setCell ⟨g4, o4 + k, none⟩ (.int .i64 y))) := Lib.hid (Kept.set (F := fun j => j = g4) hkg.out (b := g4) (fun _ => rfl) _ _)
            have HKQ := Lib.hid hkq
            have hqm : q < m := by omega
            have hkm : k < m := by omega
            clear hL6 hL hkg hy hkq
            go_wp2_with fail
            go_roundg (q - p)
            case measure => have := hmk.out; have := HKQ.out; omega
            case rel => exact ⟨q, y, _, Lib.hid (Nat.le_refl _), by have := HKQ.out; omega, by omega, by go_num, HL6, HK6⟩
          · obtain rfl : k = p := by omega
            have hge' : ¬ k < k := by omega
            have HKW : Hid (Kept (fun _ => False) w wr) := Lib.hid (HK4.out.trans' hkg.out (fun j hj e => by have := HO4.out; omega))
            have H5 := Lib.hid (H.out.old HKW.out)
            have c2 := H5.out.blk.cell (o := 2) rfl
            obtain ⟨ga', oa', e, hcx⟩ := row_cell H5.out.row HX.out
            cases e
            have hkm : k < m := by omega
            have hin : i < n := hlt
            have hL6 := lies_set hL.out (f := k) (by rw [shift_len (by rw [hsl.out]; omega), hsl.out]; omega) x
            rw [shift_last (by rw [hsl.out]; omega)] at hL6
            have HL6 := Lib.hid hL6
            have HK6 : Hid (Kept (fun _ => False) w (wr.setCell ⟨g4, o4 + k, none⟩ (.int .i64 x))) := Lib.hid (HKW.out.trans' (Kept.one wr g4 (o4 + k) (.int .i64 x)) (fun j hj e => by have := HO4.out; omega))
            clear hL6 hL hkg hge hpk hmk
            go_upto_region 16 with fail
            clear c2 hcx e0 f0 b0 H5 HKW
            generalize wr.setCell ⟨g4, o4 + k, none⟩ (.int .i64 x) = w7 at *
            have H7 := Lib.hid (H.out.old HK6.out)
            have c2 := H7.out.blk.cell (o := 2) rfl
            obtain ⟨ga', oa', e, hcx⟩ := row_cell H7.out.row HX.out
            cases e
            obtain ⟨mi, hmi⟩ : ∃ mi, min x W = mi := ⟨_, rfl⟩
            have hmn : ∀ (ts : Array TypeId) (ty : TypeId) (w : World), (Builtin.min_ ts ty #[.int .i64 x, .int .i64 W]).run Try.prog w = .ok (.int .i64 mi) w := by
              intro ts ty w
              rw [← hmi, IvN.min_if]
              exact run_min_int2 ..
            rw [hmi] at q2 q3 HQ4
            clear hmi
            obtain ⟨sm, hsm⟩ : ∃ sm, pr W (l.take i) = sm := ⟨_, rfl⟩
            rw [hsm] at q1 q3 HQ4 ⊢
            clear hsm
            have hins : (ins s x k).length = m := by rw [hsr.out.len (by rw [HN.out]; omega)]; exact HMI.out
            have HR6 : Hid (Ro.Row nT w7 (.slice (some ⟨g4, o4, none⟩) m c4) (ins s x k)) := Lib.hid (by have := HL6.out.row; rw [hins] at this; exact this)
            go_wp2_with fail
            rw [HQ4.out]
            go_roundg (n - (i + 1))
            case measure => have := hmm.out; omega
            case rel => exact ⟨i + 1, ins s x k, some ⟨g4, o4, none⟩, c4, Lib.hid (Nat.le_refl _), by omega, by go_num, rfl, by rw [HMI.out], by rw [HMI.out]; exact hcl4, by omega, hsr, by rw [HMI.out]; exact HR6, Lib.hid (fun g hg => by cases hg; exact HO4.out), HK6⟩
    · obtain rfl : i = n := by omega
      have hS : srt l = s := up_one (srt_up l) hsd.out.up ((srt_perm l).trans (by
        have := hsd.out.perm
        rw [← HN.out, List.take_length] at this
        exact this.symm))
      have hpr : pr W (l.take i) = pr W s := by rw [← HN.out, List.take_length, ← hS]; exact (pr_perm (srt_perm l)).symm
      have hsb : ∀ y ∈ s, 0 ≤ y ∧ y ≤ 1073741824 := by rw [← hS]; exact srt_bd HB.out
      have hsl : s.length = i := by rw [← hS, srt_len]; exact HN.out
      have hs0 := pr_bd hW0 hsb
      rw [hsl] at hs0
      rw [hpr]
      have HSS := Lib.hid hS
      have HSB := Lib.hid hsb
      have HSL := Lib.hid hsl
      obtain ⟨B, hBB⟩ : ∃ B, pr W s = B := ⟨_, rfl⟩
      rw [hBB] at hs0 ⊢
      have HBB := Lib.hid hBB
      obtain ⟨hB0, hB1⟩ := hs0
      have hB2 : B ≤ 1073741824000 := by omega
      have H1 := Lib.hid (H.out.old hkl.out)
      have c0 := H1.out.blk.cell (o := 0) rfl
      have c2 := H1.out.blk.cell (o := 2) rfl
      have hOS := Out.start L W s
      have hL1 : (L : Int) - 1 = ((L - 1 : Nat) : Int) := by omega
      obtain ⟨J, hJ⟩ : ∃ J, L - 1 = J := ⟨_, rfl⟩
      rw [hJ] at hL1 hOS
      have HOS := Lib.hid hOS
      have hJ7 : J ≤ 7 := by omega
      have HJ := Lib.hid hJ
      have MK := fun w => madeN J (by omega) w
      obtain ⟨w1, rfl⟩ : ∃ w1 : World, w1 = wr := ⟨_, rfl⟩
      have hge' : ¬ i < i := by omega
      clear hS hpr hsb hsl hBB hB1 hJ hOS hge hmm
      go_upto_region 18 with fail
      clear MK hL1
      have hBC : Blk (w1.alloc (.cells (Array.replicate J (.int .i64 0)) 3)) w1.heap.size ((List.replicate J 0).map (Value.int .i64)) 3 := by
        have := Blk.new w1 ((List.replicate J 0).map (Value.int .i64)) 3
        rwa [show ((List.replicate J 0).map (Value.int .i64)).toArray = Array.replicate J (.int .i64 0) by simp] at this
      have hk1 := (Kept.refl (fun _ => False) w1).alloc (.cells (Array.replicate J (.int .i64 0)) 3)
      have HR2 := Lib.hid (hrow.out.old hk1)
      have HH2 := Lib.hid (H1.out.old hk1)
      have HK2 := Lib.hid (hkl.out.trans hk1)
      have hcb : w.heap.size ≤ w1.heap.size := hkl.out.size
      have hcc : c < w1.heap.size := H1.out.blk.lt
      have hown2 : (Value.slice a5 i c5).ownBlock ≠ some w1.heap.size := fun e => by have := hrow.out.lt _ e; omega
      have HO2 := Lib.hid hown2
      generalize w1.alloc (.cells (Array.replicate J (.int .i64 0)) 3) = w2 at *
      generalize w1.heap.size = cb at *
      have HBC := Lib.hid hBC
      have hcne : c ≠ cb := by omega
      clear hBC hk1 H1 hkl c0 c2 hrow hown hown2 hsd HB
      go_wp2_with fail
      go_loopg [11] L (fun mm s11 wr => ∃ (r : Nat) (os : List Int), Hid (L - r ≤ mm) ∧ 1 ≤ r ∧ r ≤ L ∧ s11 = .int .i64 (r : Nat) ∧ Hid (Out L W s r os) ∧ Hid (Blk wr cb (os.map (Value.int .i64)) 3) ∧ Hid (Kept (fun q => q = cb) w2 wr))
      case atStart => exact ⟨1, _, Lib.hid (by omega), Nat.le_refl _, h0, rfl, HOS, HBC, Lib.hid (Kept.refl _ _)⟩
      case round =>
        clear HOS HBC
        obtain ⟨r, os, hmr, hr1, hrL, rfl, hout, hbk, hkr⟩ := hrel
        have hol : os.length = J := by rw [hout.out.len, HJ.out]
        have d0 := (HH2.out.blk.heap (hkr.out.block _ HH2.out.blk.lt (fun e => hcne e))).cell (o := 0) rfl
        rcases Nat.lt_or_ge r L with hlt | hge
        · rcases Nat.eq_zero_or_pos i with hi0 | hi0
          · have hi0' : ¬ 0 < i := by omega
            have HI0 := Lib.hid hi0
            clear hi0
            go_wp2_with fail
            go_ret
            refine ⟨_, rfl, ?_, HK2.out.trans' hkr.out (fun q hq e => by omega)⟩
            rw [HSS.out, ← hout.out.all (Or.inr (List.length_eq_zero_iff.1 (by rw [HSL.out]; exact HI0.out)))]
            exact row_blk hbk.out hol (by omega)
          · have hm1 : 0 ≤ (r : Int) * B := Int.mul_nonneg (by omega) hB0
            have hm2 : (r : Int) * B ≤ 8 * B := Int.mul_le_mul_of_nonneg_right (by omega) hB0
            have hth : thr L B r = (r : Int) * B / (L : Int) := rfl
            have hth2 := thr_bd (L := L) (i := r) (B := B) h0 (by omega) hB0
            obtain ⟨pp, hpp⟩ : ∃ pp, (r : Int) * B = pp := ⟨_, rfl⟩
            rw [hpp] at hm1 hm2 hth
            obtain ⟨t, ht⟩ : ∃ t, pp / (L : Int) = t := ⟨_, rfl⟩
            rw [ht] at hth
            rw [hth] at hth2
            have HTH := Lib.hid hth
            have hwp : IntKind.i64.wrap pp = pp := by rw [IntKind.wrap_i64]; omega
            have hLn : ¬ (L : Int) = 0 := by omega
            have hLn2 : ((L : Int) == 0) = false := by rw [beq_eq_false_iff_ne]; exact hLn
            obtain ⟨ht0, ht1⟩ := hth2
            have hrm : (r : Int) - 1 = ((r - 1 : Nat) : Int) := by omega
            obtain ⟨j, hj⟩ : ∃ j, r - 1 = j := ⟨_, rfl⟩
            rw [hj] at hrm
            have hjJ : j < J := by have := HJ.out; omega
            have HRJ := Lib.hid hj
            obtain ⟨ov, e0⟩ : ∃ ov, wr.cell? ⟨cb, j, none⟩ = some (.int .i64 ov) := ⟨os[j]'(by omega), hbk.out.cell (by rw [List.getElem?_map, List.getElem?_eq_getElem (by omega)]; rfl)⟩
            have f0 := hbk.out.frozen j
            have b0 := hbk.out.lt
            clear hth hj
            go_upto_region 23 with fail
            obtain ⟨w3, rfl⟩ : ∃ w3 : World, w3 = wr := ⟨_, rfl⟩
            go_loopg [12, 13] i (fun nn s12 s13 wr => ∃ (q : Nat), Hid (i - q ≤ nn) ∧ q ≤ i ∧ s13 = .int .i64 (q : Nat) ∧ s12 = .int .i64 (pr W (s.take q)) ∧ Hid (cutOf W t s 0 = cutOf W t (s.drop q) (pr W (s.take q))) ∧ w3 = wr)
            case atStart => exact ⟨0, Lib.hid (by omega), Nat.zero_le _, rfl, rfl, Lib.hid (by simp [pr]), rfl⟩
            case round =>
              obtain ⟨q, hmq, hqi, rfl, rfl, hcut, rfl⟩ := hrel
              rcases Nat.lt_or_ge q i with hql | hqg
              · obtain ⟨x, hx⟩ : ∃ x, s[q]? = some x := ⟨_, List.getElem?_eq_getElem (by rw [HSL.out]; exact hql)⟩
                obtain ⟨g5, o5, rfl, hcx⟩ := row_cell (HR2.out.kept hkr.out (fun g hg e => HO2.out (by rw [hg, e]))) hx
                have hst := pr_step hW0 HSB.out (by rw [HSL.out]; exact hl) hx
                obtain ⟨q1, q2, q3, q4⟩ := hst
                rw [addI_in q1 q2 q3] at q4
                have HC1 := Lib.hid (hcut.out.trans (cutOf_go hx))
                have q5 := pr_bd hW0 (l := s.take (q + 1)) (fun y hy => HSB.out y (List.mem_of_mem_take hy))
                rw [← q4] at q5
                obtain ⟨mi, hmi⟩ : ∃ mi, min x W = mi := ⟨_, rfl⟩
                have hmn : ∀ (ts : Array TypeId) (ty : TypeId) (w : World), (Builtin.min_ ts ty #[.int .i64 x, .int .i64 W]).run Try.prog w = .ok (.int .i64 mi) w := by
                  intro ts ty w
                  rw [← hmi, IvN.min_if]
                  exact run_min_int2 ..
                rw [hmi] at q2 q3 q4 q5 HC1
                clear hmi hx
                have HQ4 := Lib.hid q4
                obtain ⟨sm, hsm⟩ : ∃ sm, pr W (s.take q) = sm := ⟨_, rfl⟩
                rw [hsm] at q1 q3 q5 HQ4 HC1 ⊢
                obtain ⟨z, hz⟩ : ∃ z, sm + mi = z := ⟨_, rfl⟩
                have hz0 : 0 ≤ z := by omega
                have hz1 : z ≤ 1125899906842624 := by omega
                rw [hz] at HQ4 HC1
                clear q4 q5 hsm hcut
                have hwz : IntKind.i64.wrap (sm + mi) = z := by rw [IntKind.wrap_i64]; omega
                have hwq : IntKind.i64.wrap ((r : Int) * B) = pp := by rw [hpp]; exact hwp
                have hiJ' : q < i := hql
                by_cases hreach : t ≤ z
                · have hc0 : cutOf W t s 0 = x := by rw [HC1.out, if_pos hreach]
                  have HO3 := Lib.hid (hout.out.set hr1 hlt (y := x) (by rw [HBB.out, HTH.out]; exact hc0.symm))
                  rw [HRJ.out] at HO3
                  have HB3 := Lib.hid (hbk.out.set j (.int .i64 x))
                  rw [← List.map_set] at HB3
                  have HK3 : Hid (Kept (fun q => q = cb) w2 (w3.setCell ⟨cb, j, none⟩ (.int .i64 x))) := Lib.hid (Kept.set (F := fun q => q = cb) hkr.out (b := cb) (fun _ => rfl) j _)
                  clear hc0 HC1
                  go_wp2_with fail
                  go_roundg (L - (r + 1))
                  case measure => have := hmr.out; omega
                  case rel => exact ⟨r + 1, os.set j x, Lib.hid (Nat.le_refl _), by omega, by omega, by go_num, HO3, HB3, HK3⟩
                · have hr2 : decide (t ≤ z) = false := by simpa using hreach
                  have HC2 : Hid (cutOf W t s 0 = cutOf W t (s.drop (q + 1)) z) := Lib.hid (by rw [HC1.out, if_neg hreach])
                  clear HC1
                  go_wp2_with fail
                  go_roundg (i - (q + 1))
                  case measure => have := hmq.out; omega
                  case rel => exact ⟨q + 1, Lib.hid (Nat.le_refl _), by omega, by go_num, by rw [← HQ4.out], Lib.hid (by rw [← HQ4.out]; exact HC2.out), rfl⟩
              · obtain rfl : q = i := by omega
                have hqg' : ¬ q < q := by omega
                have hc0 : cutOf W t s 0 = 0 := by rw [hcut.out, ← HSL.out, List.drop_length]; rfl
                have HO3 := Lib.hid (hout.out.skip hr1 (by rw [HBB.out, HTH.out]; exact hc0))
                clear hc0 hcut
                go_wp2_with fail
                go_roundg (L - (r + 1))
                case measure => have := hmr.out; omega
                case rel => exact ⟨r + 1, os, Lib.hid (Nat.le_refl _), by omega, by omega, by go_num, HO3, hbk, hkr⟩
        · obtain rfl : r = L := by omega
          have hge' : ¬ r < r := by omega
          go_wp2_with fail
          go_ret
          refine ⟨_, rfl, ?_, HK2.out.trans' hkr.out (fun q hq e => by omega)⟩
          rw [HSS.out, ← hout.out.all (Or.inl (Nat.le_refl _))]
          exact row_blk hbk.out hol (by omega)
end Go.Proofs.Ytkggnbibjcogeaa.Co
