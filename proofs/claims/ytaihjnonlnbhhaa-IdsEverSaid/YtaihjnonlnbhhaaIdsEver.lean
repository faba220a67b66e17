/- IdsEver (mizzenlaw9): for every most, every list of numbers that end and every list of retirements the law returns true (what has ended has ended for ever; the mark never falls; no more records stand there than may) and its arguments read as before. Conditions: none. -/
import Derived.Test.YtaihjnonlnbhhaaRows
import Derived.Test.YtaihjnonlnbhhaaEnd
import Derived.Test.YtaihjnonlnbhhaaInts
import Derived.WalkKit
import Derived.ProofKit
import Derived.OpenShut
import Derived.Test.YtaihjnonlnbhhaaIdSt
import Derived.Test.YtaihjnonlnbhhaaIdMore
import Derived.Test.YtaihjnonlnbhhaaU64
set_option linter.unusedVariables false
namespace Go.Proofs.Ytaihjnonlnbhhaa.idsEver
open Go.ChangeShapes Go.WideShapes Go.ChangeAt Go.RowKit Go.Proofs.Ytaihjnonlnbhhaa.Hp Go.Proofs.Ytaihjnonlnbhhaa.End
open Opn IdM Idw
theorem own : ownKnob Try.prog.godebug = none := by kernel_rfl
attribute [local go_sem ↓] Go.wp_at_zero Go.wp_at_succ
/-- A window, and a row of the law's own with what has ended. -/
def Ev (W : World) (b most : Nat) (M : Int) (l : List Int) (v : Value) (D : List Int) (w : World) : Prop := ∃ F, St W b most M l F w ∧ Ro.Row uT w v D ∧ ∀ g, v.ownBlock = some g → ¬ F g ∧ W.heap.size ≤ g
section
variable {W : World} {b most : Nat} {M : Int} {l : List Int} {v : Value} {D : List Int} {w w' : World}
theorem Ev.keep (h : Ev W b most M l v D w) (k : Kept (fun _ => False) w w') : Ev W b most M l v D w' := by
  obtain ⟨F, h1, h2, h3⟩ := h
  exact ⟨F, h1.old k, h2.old k, h3⟩
theorem Ev.old (h : Ev W b most M l v D w) : Old W w := by obtain ⟨F, h1, h2, h3⟩ := h; exact h1.1
theorem Ev.row (h : Ev W b most M l v D w) : Ro.Row uT w v D := by obtain ⟨F, h1, h2, h3⟩ := h; exact h2
theorem Ev.win (h : Ev W b most M l v D w) : Win most M l := by obtain ⟨F, h1, h2, h3⟩ := h; exact h1.win
theorem Ev.turn {M' : Int} {l' : List Int} {F F' : Nat → Prop} (h1 : St W b most M l F w) (h2 : Ro.Row uT w v D) (h3 : ∀ g, v.ownBlock = some g → ¬ F g ∧ W.heap.size ≤ g) (h : St W b most M' l' F' w') (n : Idw.Next F w F' w') : Ev W b most M' l' v D w' :=
  ⟨F', h, h2.kept n.1 (fun g hg => (h3 g hg).1), fun g hg => ⟨fun e => (n.2 g e).elim (h3 g hg).1 (fun hh => by have := h2.lt g hg; omega), (h3 g hg).2⟩⟩
theorem Ev.put (h : Ev W b most M l v D w) (x : Int) : Calls Try.prog 12 #[.pointer (some ⟨b, 0, none⟩), .int .u64 x] w fun e w' => e = .returned (.int .i64 (done most M l x).1) ∧ Ev W b most (done most M l x).2.1 (done most M l x).2.2 v D w' := by
  obtain ⟨F, h1, h2, h3⟩ := h
  exact (done_st h1 x).mono fun e w' ⟨e1, F', e2, e3⟩ => ⟨e1, Ev.turn h1 h2 h3 e2 e3⟩
theorem Ev.cut (h : Ev W b most M l v D w) (x : Int) : Calls Try.prog 14 #[.pointer (some ⟨b, 0, none⟩), .int .u64 x] w fun e w' => e = .returned (.int .i64 ((retire M l x).1 : Nat)) ∧ Ev W b most (retire M l x).2.1 (retire M l x).2.2 v D w' := by
  obtain ⟨F, h1, h2, h3⟩ := h
  exact (retire_st h1 x).mono fun e w' ⟨e1, F', e2, e3⟩ => ⟨e1, Ev.turn h1 h2 h3 e2 e3⟩
theorem Ev.len (h : Ev W b most M l v D w) : Calls Try.prog 19 #[.pointer (some ⟨b, 0, none⟩)] w fun e w' => e = .returned (.int .i64 (l.length : Nat)) ∧ w = w' := by obtain ⟨F, h1, h2, h3⟩ := h; exact len_st h1
theorem Ev.mark (h : Ev W b most M l v D w) : Calls Try.prog 18 #[.pointer (some ⟨b, 0, none⟩)] w fun e w' => e = .returned (.int .u64 M) ∧ w = w' := by obtain ⟨F, h1, h2, h3⟩ := h; exact mark_st h1
theorem Ev.is (h : Ev W b most M l v D w) (x : Int) (r : Bool) (hr : isE M l x = r) : Calls Try.prog 16 #[.pointer (some ⟨b, 0, none⟩), .int .u64 x] w fun e w' => e = .returned (.bool r) ∧ Kept (fun _ => False) w w' := by obtain ⟨F, h1, h2, h3⟩ := h; rw [← hr]; exact is_st h1 x
theorem Ev.app {v' : Value} {D' : List Int} (h : Ev W b most M l v D w) (a : Ro.Apd uT w v D' v' w') : Ev W b most M l v' D' w' := by
  obtain ⟨F, h1, h2, h3⟩ := h
  have hs := a.kept.size
  have hW := h1.1.size
  have hown := h1.own
  refine ⟨F, h1.far a.kept (fun i hi hf => (h3 i hi).1 hf) (fun i hi => (h3 i hi).2), a.row, fun g hg => ?_⟩
  rcases a.lies g hg with h | h
  · exact h3 g h
  · exact ⟨fun hf => by have := (hown g hf).2; omega, by omega⟩
end
set_option maxRecDepth 100000 in
set_option maxHeartbeats 4000000 in
theorem early (n : Int) (a1 : List Int) (s1 : Option Addr) (cap1 : Nat) (a2 : List Int) (s2 : Option Addr) (cap2 : Nat) (w : World) (h : ¬ (1 ≤ n ∧ n ≤ 50 ∧ a1.length ≤ 80 ∧ a2.length ≤ 80)) :
    Calls Try.prog 4 #[.int .i64 n, .slice s1 a1.length cap1, .slice s2 a2.length cap2] w fun e w' => e = .returned (.bool true) ∧ Old w w' := by
  have HC := Lib.hid fun w => awake_any w
  have hc : n < 1 ∨ (decide (n < 1) = false ∧ 50 < n) ∨ (decide (n < 1) = false ∧ decide (50 < n) = false ∧ (80 : Int) < (a1.length : Int)) ∨ (decide (n < 1) = false ∧ decide (50 < n) = false ∧ decide ((80 : Int) < (a1.length : Int)) = false ∧ (80 : Int) < (a2.length : Int)) := by
    rw [decide_eq_false_iff_not, decide_eq_false_iff_not, decide_eq_false_iff_not]; omega
  clear h
  rcases hc with h1 | ⟨h1, h2⟩ | ⟨h1, h2, h3⟩ | ⟨h1, h2, h3, h4⟩
  all_goals
    go_enter Try.func4, Try.ntmps4
    go_wp2_with fail
    with_reducible refine Calls.mono (HC.out _) ?_
    rintro e w' ⟨rfl, ho⟩
    go_wp2_with fail
    go_ret
    exact ⟨rfl, ho⟩
set_option maxRecDepth 100000 in
set_option maxHeartbeats 16000000 in
theorem late (most : Nat) (a1 : List Int) (s1 : Option Addr) (cap1 : Nat) (a2 : List Int) (s2 : Option Addr) (cap2 : Nat) (w : World) (w1 : Uints w s1 cap1 a1) (w2 : Uints w s2 cap2 a2) (hp1 : ∀ x ∈ a1, 0 ≤ x) (g1 : 1 ≤ most) (g2 : most ≤ 50) (g3 : a1.length ≤ 80) (g4 : a2.length ≤ 80) :
    Calls Try.prog 4 #[.int .i64 (most : Nat), .slice s1 a1.length cap1, .slice s2 a2.length cap2] w fun e w' => e = .returned (.bool true) ∧ Old w w' := by
  have HC := Lib.hid fun w => awake_any w
  have N := Lib.hid fun w => new_st (most := most) g1 (by omega) w
  have W1 := Lib.hid w1
  have W2 := Lib.hid w2
  have HP := Lib.hid hp1
  have h1 : decide ((most : Int) < 1) = false := by rw [decide_eq_false_iff_not]; omega
  have h2 : decide ((50 : Int) < (most : Int)) = false := by rw [decide_eq_false_iff_not]; omega
  have h3 : decide ((80 : Int) < (a1.length : Int)) = false := by rw [decide_eq_false_iff_not]; omega
  have h4 : decide ((80 : Int) < (a2.length : Int)) = false := by rw [decide_eq_false_iff_not]; omega
  clear w1 w2 hp1
  obtain ⟨z1, hz1⟩ : ∃ z, a1.length = z := ⟨_, rfl⟩
  obtain ⟨z2, hz2⟩ : ∃ z, a2.length = z := ⟨_, rfl⟩
  have HZ1 := Lib.hid hz1
  have HZ2 := Lib.hid hz2
  rw [hz1] at g3 h3 ⊢
  rw [hz2] at g4 h4 ⊢
  clear hz1 hz2
  go_enter Try.func4, Try.ntmps4
  go_wp2_with fail
  with_reducible refine Calls.mono (N.out _) ?_
  rintro e w3 ⟨b, F, rfl, hS, _⟩
  have HE : Hid (Ev w b most 1 [] (.slice none 0 0) [] w3) := Lib.hid ⟨F, hS, Ro.Row.none uT _, fun g hg => by cases hg⟩
  clear hS N
  go_wp2_with fail
  clear h1 h2 h3 h4
  go_loopg [9, 10, 11] z1 (fun kx s9 s10 s11 wr => ∃ (i : Nat) (M : Int) (l : List Int) (D : List Int), Hid (z1 - i ≤ kx) ∧ i ≤ z1 ∧ s11 = .int .i64 (i : Nat) ∧ s10 = .int .u64 M ∧ Hid (Ev w b most M l s9 D wr) ∧ Hid (D.length ≤ i ∧ ∀ d ∈ D, isE M l d = true))
  case atStart => exact ⟨0, 1, [], [], Lib.hid (by omega), by omega, rfl, rfl, HE, Lib.hid ⟨Nat.le_refl _, by simp⟩⟩
  case round =>
    clear HE
    obtain ⟨i, M, l, D, hkx, hi, rfl, rfl, hE, hD⟩ := hrel
    rcases Nat.lt_or_ge i z1 with hlt | hge
    · obtain ⟨x, hx⟩ : ∃ x, a1[i]? = some x := ⟨_, List.getElem?_eq_getElem (by rw [HZ1.out]; exact hlt)⟩
      obtain ⟨g, off, rfl, hg, hc⟩ := W1.out.at hE.out.old (j := i) (by rw [HZ1.out]; exact hlt)
      have CK : Hid (∀ M l v D w', Ev w b most M l v D w' → w'.cell? ⟨g, off + i, none⟩ = some (.int .u64 x)) := Lib.hid fun M l v D w' h => by
        obtain ⟨g', off', e, hg', hc'⟩ := W1.out.at h.old (j := i) (by rw [HZ1.out]; exact hlt)
        cases e
        rw [(List.getElem?_eq_some_iff.1 hx).2] at hc'
        exact hc'
      rw [(List.getElem?_eq_some_iff.1 hx).2] at hc
      have hx0 := HP.out x (List.mem_of_getElem? hx)
      have P := Lib.hid (hE.out.put x)
      have hno := done_no (most := most) (M := M) (l := l) (id := x)
      have hyes := done_ended hE.out.win (id := x)
      have hkeep := fun (y : Int) (hy : isE M l y = true) => done_keeps hE.out.win x hy
      have hmark := done_mark (most := most) (M := M) (l := l) x
      obtain ⟨R, hR⟩ : ∃ R, done most M l x = R := ⟨_, rfl⟩
      rw [hR] at P hno hyes hmark
      simp only [hR] at hkeep
      obtain ⟨r, M1, l1⟩ := R
      dsimp only at P hno hyes hmark hkeep
      have HNO := Lib.hid hno
      have HYES := Lib.hid hyes
      have HKP := Lib.hid fun (y : Int) (hy : isE M l y = true) => hkeep y hy
      have HMK := Lib.hid hmark
      clear hx hno hyes hkeep hmark hR
      go_wp2_with fail
      with_reducible refine Calls.mono P.out ?_
      rintro e w4 ⟨rfl, he4⟩
      have HE4 := Lib.hid he4
      have hc4 := CK.out _ _ _ _ _ he4
      clear he4 P hc hE
      go_upto_if 53 with (fail)
      go_cut [9] (fun v wx => ∃ D1, Hid (Ev w b most M1 l1 v D1 wx) ∧ Hid (D1.length ≤ i + 1 ∧ ∀ d ∈ D1, isE M1 l1 d = true))
      case first =>
        by_cases hr : r = 0
        · subst hr
          have hka := (Kept.refl (fun _ => False) w4).alloc (.cells #[.int .u64 x] 30)
          have HEA := Lib.hid (HE4.out.keep hka)
          have HSR := Lib.hid (src_one (Blk.new w4 [.int .u64 x] 30))
          have hDl := hD.out.1
          have HY := HYES.out rfl
          have HYY := Lib.hid HY
          clear hka HY HNO
          go_wp2_with (at_builtin; refine Ro.wpList_app uT rfl _ _ rfl (v := u9) rfl HEA.out.row rfl HSR.out (by simp; omega) ?_; intro v' w5 hA)
          go_meet
          refine ⟨D ++ [x], Lib.hid (HEA.out.app hA), Lib.hid ⟨by rw [List.length_append, List.length_singleton]; omega, fun d hd => ?_⟩⟩
          rcases List.mem_append.1 hd with hd | hd
          · exact HKP.out d (hD.out.2 d hd)
          · rw [List.mem_singleton] at hd; subst hd; exact HYY.out
        · have hcase : (x = 0 ∧ M1 = M ∧ l1 = l) ∨ ((x == 0) = false ∧ decide (x ≤ 1152921504606846976) = false ∧ M1 = M ∧ l1 = l) ∨ ((x == 0) = false ∧ x ≤ 1152921504606846976 ∧ Hid (most ≤ l.length) ∧ M1 = M ∧ l1 = l) := by
            have ht : (top : Int) = 1152921504606846976 := rfl
            rw [beq_eq_false_iff_ne, decide_eq_false_iff_not]
            rcases HNO.out hr with ⟨c1, c2⟩ | ⟨c1, c2⟩
            · cases c2
              rcases c1 with c1 | c1
              · exact Or.inl ⟨by omega, rfl, rfl⟩
              · exact Or.inr (Or.inl ⟨by omega, by omega, rfl, rfl⟩)
            · cases c2
              by_cases hx1 : x = 0
              · exact Or.inl ⟨hx1, rfl, rfl⟩
              · by_cases hx2 : x ≤ 1152921504606846976
                · exact Or.inr (Or.inr ⟨hx1, hx2, Lib.hid c1, rfl, rfl⟩)
                · exact Or.inr (Or.inl ⟨hx1, hx2, rfl, rfl⟩)
          have hrr : (r == 0) = false := by simpa using hr
          have FIN : Hid (∀ wx, Ev w b most M l u9 D wx → ∃ D1, Hid (Ev w b most M l u9 D1 wx) ∧ Hid (D1.length ≤ i + 1 ∧ ∀ d ∈ D1, isE M l d = true)) := Lib.hid fun wx h => ⟨D, Lib.hid h, Lib.hid ⟨by have := hD.out.1; omega, hD.out.2⟩⟩
          clear HNO HYES HKP HMK hr hx0
          rcases hcase with ⟨rfl, rfl, rfl⟩ | ⟨c1, c2, rfl, rfl⟩ | ⟨c1, c2, c3, rfl, rfl⟩
          · go_wp2_with fail
            go_meet
            exact FIN.out _ HE4.out
          · have c1' : ¬ x = 0 := by simpa using c1
            go_wp2_with fail
            go_meet
            exact FIN.out _ HE4.out
          · have c1' : ¬ x = 0 := by simpa using c1
            have L4 := Lib.hid HE4.out.len
            have c3' : ¬ l1.length < most := by have := c3.out; omega
            go_wp2_with fail
            with_reducible refine Calls.mono L4.out ?_
            rintro e w5 ⟨rfl, rfl⟩
            go_wp2_with fail
            go_meet
            exact FIN.out _ HE4.out
      case rest =>
        obtain ⟨D1, hE1, hD1⟩ := hcut
        clear HE4 hc4 CK hD
        have hm1 := HMK.out
        have HM1 := Lib.hid hm1
        clear hm1 HNO HYES HKP HMK
        go_upto_if 82 with (fail)
        go_cut [] (fun wx => ∃ M2 l2, M ≤ M2 ∧ Hid (Ev w b most M2 l2 u9 D1 wx) ∧ Hid (∀ d ∈ D1, isE M2 l2 d = true))
        case first =>
          by_cases h2 : i < z2
          · obtain ⟨y, hy⟩ : ∃ y, a2[i]? = some y := ⟨_, List.getElem?_eq_getElem (by rw [HZ2.out]; exact h2)⟩
            obtain ⟨g2, off2, rfl, hg2, hc2⟩ := W2.out.at hE1.out.old (j := i) (by rw [HZ2.out]; exact h2)
            rw [(List.getElem?_eq_some_iff.1 hy).2] at hc2
            have RT := Lib.hid (hE1.out.cut y)
            have HK := Lib.hid fun (d : Int) (hd : isE M1 l1 d = true) => retire_keeps hE1.out.win y hd
            have hmk := retire_mark (M := M1) (l := l1) y
            have HMK := Lib.hid (Int.le_trans HM1.out hmk)
            clear hmk hy
            go_wp2_with fail
            with_reducible refine Calls.mono RT.out ?_
            rintro e w6 ⟨rfl, he6⟩
            have HE6 := Lib.hid he6
            clear he6
            go_wp2_with fail
            go_meet
            exact ⟨_, _, HMK.out, HE6, Lib.hid fun d hd => HK.out d (hD1.out.2 d hd)⟩
          · have h2' : ¬ (i : Int) < (z2 : Int) := by omega
            go_wp2_with fail
            go_meet
            exact ⟨M1, l1, HM1.out, hE1, Lib.hid hD1.out.2⟩
        case rest =>
          obtain ⟨M2, l2, hm2, hE2, hD2⟩ := hcut
          obtain ⟨a, c, hv, _, _⟩ := hE2.out.row.slice
          subst hv
          have hDl : D1.length ≤ 81 := by have := hD1.out.1; omega
          have HDI0 := hD1.out.1
          have HDI := Lib.hid HDI0
          clear HDI0
          have MK := Lib.hid hE2.out.mark
          have LN := Lib.hid hE2.out.len
          have IM := Lib.hid (hE2.out.is M2 false (isE_mark hE2.out.win))
          have IZ : Hid (∀ w', Kept (fun _ => False) wc w' → Calls Try.prog 16 #[.pointer (some ⟨b, 0, none⟩), .int .u64 0] w' fun e w'' => e = .returned (.bool false) ∧ Kept (fun _ => False) w' w'') := Lib.hid fun w' k => (hE2.out.keep k).is 0 false (isE_zero M2 l2)
          have k1 : decide (M2 < M) = false := by rw [decide_eq_false_iff_not]; omega
          have k2 : ¬ most < l2.length := by have := hE2.out.win.few; omega
          clear hD1 HM1
          generalize hdl : D1.length = dl at *
          have HDL := Lib.hid hdl
          clear hdl
          go_wp2_with fail
          with_reducible refine Calls.mono MK.out ?_
          rintro e w6 ⟨rfl, rfl⟩
          go_wp2_with fail
          with_reducible refine Calls.mono LN.out ?_
          rintro e w6 ⟨rfl, rfl⟩
          go_wp2_with fail
          with_reducible refine Calls.mono MK.out ?_
          rintro e w6 ⟨rfl, rfl⟩
          go_wp2_with fail
          with_reducible refine Calls.mono IM.out ?_
          rintro e w6 ⟨rfl, k6⟩
          have HK6 := Lib.hid k6
          clear k6
          go_wp2_with fail
          with_reducible refine Calls.mono (IZ.out _ HK6.out) ?_
          rintro e w7 ⟨rfl, k7⟩
          have HE7 := Lib.hid ((hE2.out.keep HK6.out).keep k7)
          have MK7 := Lib.hid HE7.out.mark
          clear k7 k1 k2 HK6 IM IZ LN MK
          go_wp2_with fail
          with_reducible refine Calls.mono MK7.out ?_
          rintro e w8 ⟨rfl, rfl⟩
          go_wp2_with fail
          go_loopg [12] dl (fun kx s12 wr => ∃ (k : Nat), Hid (dl - k ≤ kx) ∧ k ≤ dl ∧ s12 = .int .i64 (k : Nat) ∧ Hid (Ev w b most M2 l2 (.slice a dl c) D1 wr))
          case atStart => exact ⟨0, Lib.hid (by omega), by omega, rfl, HE7⟩
          case round =>
            clear hE2 HE7
            obtain ⟨k, hkx2, hk, rfl, hE8⟩ := hrel
            rcases Nat.lt_or_ge k dl with hlt2 | hge2
            · obtain ⟨d, hd⟩ : ∃ d, D1[k]? = some d := ⟨_, List.getElem?_eq_getElem (by rw [HDL.out]; exact hlt2)⟩
              obtain ⟨gd, od, rfl, cur, hLd⟩ : ∃ gd od, a = some ⟨gd, od, none⟩ ∧ ∃ cur, Ro.Lies uT wr gd od c cur D1 := by
                rcases hE8.out.row with ⟨e, hnil⟩ | ⟨gd, od, cap, cur, e, h2⟩
                · rw [hnil] at hd; simp at hd
                · cases e
                  exact ⟨gd, od, rfl, cur, h2⟩
              have qd := uat hLd hd
              have ID := Lib.hid (hE8.out.is d true (hD2.out d (List.mem_of_getElem? hd)))
              clear hLd hd
              go_wp2_with fail
              with_reducible refine Calls.mono ID.out ?_
              rintro e w9 ⟨rfl, k9⟩
              have HE9 := Lib.hid (hE8.out.keep k9)
              clear k9
              go_wp2_with fail
              go_roundg (dl - (k + 1))
              case measure => have := hkx2.out; omega
              case rel => exact ⟨k + 1, Lib.hid (Nat.le_refl _), by omega, by go_num, HE9⟩
            · have hge2' : ¬ (k : Int) < (dl : Int) := by omega
              go_wp2_with fail
              go_roundg (z1 - (i + 1))
              case measure => have := hkx.out; omega
              case rel => exact ⟨i + 1, M2, l2, D1, Lib.hid (Nat.le_refl _), by omega, by go_num, rfl, hE8, Lib.hid ⟨by rw [HDL.out]; exact HDI.out, hD2.out⟩⟩
    · have hge' : ¬ ((i : Int) < (z1 : Int)) := by omega
      go_wp2_with fail
      with_reducible refine Calls.mono (HC.out _) ?_
      rintro e w4 ⟨rfl, ho⟩
      go_wp2_with fail
      go_ret
      exact ⟨rfl, hE.out.old.trans ho⟩
theorem walk (n : Int) (a1 : List Int) (s1 : Option Addr) (cap1 : Nat) (a2 : List Int) (s2 : Option Addr) (cap2 : Nat) (w : World) (w0 : (Lit.int .i64 n).wf = true) (w1 : Uints w s1 cap1 a1) (w2 : Uints w s2 cap2 a2) :
    Calls Try.prog 4 #[.int .i64 n, .slice s1 a1.length cap1, .slice s2 a2.length cap2] w fun e w' => e = .returned (.bool true) ∧ Old w w' := by
  by_cases h : 1 ≤ n ∧ n ≤ 50 ∧ a1.length ≤ 80 ∧ a2.length ≤ 80
  · obtain ⟨k, rfl⟩ : ∃ k : Nat, n = k := ⟨n.toNat, by omega⟩
    exact late k a1 s1 cap1 a2 s2 cap2 w w1 w2 (fun x hx => (bounds_u64 (w1.2.1 x hx)).1) (by omega) (by omega) h.2.2.1 h.2.2.2
  · exact early n a1 s1 cap1 a2 s2 cap2 w h
set_option maxRecDepth 100000 in
set_option maxHeartbeats 1000000 in
theorem lifted (os : Os) (started : os.Started) (H : Type) (enc : TypeId × Value → H) :
    ReturnsInHanded {} Try.checked os 4 .any (Rows.idsEverSpec.pre6 enc Try.prog Try.f4 Rows.idsEverRow.domain false) (Rows.idsEverSpec.post enc Try.prog Try.f4 false true false false) := by
  refine returnsInHanded_of_change (C := Try.checked) own started (by kernel_rfl) Try.func4
    (ChangeSpec.witness6 (enc := enc) (C := Try.checked) false ⟨#[], #[.int .i64 0, .slice none 0 0, .slice none 0 0], []⟩ 8 (by kernel_rfl) (by kernel_rfl) (by kernel_rfl) (by kernel_rfl)) ?_
  intro W base args ds gs before hval0 hW hcnd _
  have hval : ∀ (j : Nat) t v, Try.f4.params[j]? = some t → args[j]? = some v → Value.okWide Try.prog W .any base t v := hval0
  have hW' := hW
  obtain ⟨p, q, hA0, hV, rfl, hfz, hnd⟩ := hW
  have hA : DataW.TrodAll enc Try.prog W 0 (fun _ => true) true Try.f4.params.toList args.toList ds p := hA0
  rw [Try.params4] at hA hval
  obtain ⟨v0, vs0, d0, ds0, p0, q0, hargs, rfl, rfl, h0, r0⟩ := trodAll_cons hA
  obtain ⟨v1, vs1, d1, ds1, p1, q1, rfl, rfl, rfl, h1, r1⟩ := trodAll_cons r0
  obtain ⟨v2, vs2, d2, ds2, p2, q2, rfl, rfl, rfl, h2, r2⟩ := trodAll_cons r1
  obtain ⟨rfl, rfl, rfl⟩ := trodAll_nil r2
  obtain rfl : args = #[v0, v1, v2] := by cases args; simp_all
  obtain ⟨rfl, rfl⟩ := trodVars_none hV
  obtain ⟨a0, rfl, rfl, rfl, w0⟩ := open_int Try.underlying3 (hval 0 3 v0 rfl rfl) h0
  obtain ⟨s1, cap1, a1, rfl, w1⟩ := Opn.uints_of Try.underlying23 Try.underlying30 (by kernel_rfl) (hval 1 23 v1 rfl rfl) h1
  obtain ⟨s2, cap2, a2, rfl, w2⟩ := Opn.uints_of Try.underlying23 Try.underlying30 (by kernel_rfl) (hval 2 23 v2 rfl rfl) h2
  clear hA0 hval0
  refine (walk a0 a1 s1 cap1 a2 s2 cap2 W w0 w1 w2).mono fun e W' ⟨he, hg⟩ => ?_
  subst he
  exact ⟨_, rfl, post_of_old hW' (fun _ _ _ => (trodAll_cons_mk (shut_bool Try.underlying4 _) trodAll_mk0)) (fun sp hsp => (trodAll_cons_mk (shut_int Try.underlying3 w0) (trodAll_cons_mk (Opn.back (by kernel_rfl) (of_decide_eq_true (by kernel_rfl)) h1 hg (fun x hx => hW'.lt x (by simp [hx])) (fun x hx => hsp x (by simp [hx]))) (trodAll_cons_mk (Opn.back (by kernel_rfl) (of_decide_eq_true (by kernel_rfl)) h2 hg (fun x hx => hW'.lt x (by simp [hx])) (fun x hx => hsp x (by simp [hx]))) trodAll_mk0)))) (fun _ _ => rfl)
    hg (ok_one (by kernel_rfl) rfl (okWide_bool_mk Try.underlying4 _))⟩
theorem over : Rows.idsEverRow.holds Try.pinned (OpenSpec.ofChange Rows.idsEverSpec) :=
  OpenClaim.holds_of_wide 4 Try.f4 rfl rfl rfl rfl rfl rfl rfl ⟨rfl, rfl, rfl, rfl, rfl⟩ rfl rfl rfl rfl rfl (by kernel_rfl) Try.func4 (by kernel_rfl)
    (of_decide_eq_true (by kernel_rfl)) (by unfold Func.isWrapper; first | (rw [if_pos (by decide +kernel)]; kernel_rfl) | (rw [if_neg (by decide +kernel)]; exact ⟨rfl, rfl⟩))
    (fun os started H enc _ => lifted os started H enc)
theorem proved : Rows.IdsEverSaid :=
  over
#print axioms proved
end Go.Proofs.Ytaihjnonlnbhhaa.idsEver
