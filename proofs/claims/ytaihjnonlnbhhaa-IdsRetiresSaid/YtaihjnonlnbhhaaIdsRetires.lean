/- IdsRetires (mizzenlaw9): for every list of ended numbers, every retirement and every number looked at the law returns true (behind a retirement all below it have ended, whatever had; records below it go; what is above it is as it was) and its arguments read as before. Conditions: none. -/
import Derived.Test.YtaihjnonlnbhhaaRows
import Derived.Test.YtaihjnonlnbhhaaEnd
import Derived.Test.YtaihjnonlnbhhaaInts
import Derived.WalkKit
import Derived.ProofKit
import Derived.OpenShut
import Derived.Test.YtaihjnonlnbhhaaIdSt
import Derived.Test.YtaihjnonlnbhhaaIdMore
import Derived.Test.YtaihjnonlnbhhaaU64
set_option linter.unusedVariables false
namespace Go.Proofs.Ytaihjnonlnbhhaa.idsRetires
open Go.ChangeShapes Go.WideShapes Go.ChangeAt Go.RowKit Go.Proofs.Ytaihjnonlnbhhaa.Hp Go.Proofs.Ytaihjnonlnbhhaa.End
open Opn IdM Idw
theorem own : ownKnob Try.prog.godebug = none := by kernel_rfl
attribute [local go_sem ↓] Go.wp_at_zero Go.wp_at_succ
/-- Two windows beside each other. -/
def Two (W : World) (b c : Nat) (M : Int) (l : List Int) (M2 : Int) (l2 : List Int) (w : World) : Prop := ∃ F G, St W b 100 M l F w ∧ St W c 100 M2 l2 G w ∧ ∀ i, F i → G i → False
theorem Two.keep {W : World} {b c : Nat} {M : Int} {l : List Int} {M2 : Int} {l2 : List Int} {w w' : World} (h : Two W b c M l M2 l2 w) (k : Kept (fun _ => False) w w') : Two W b c M l M2 l2 w' := by
  obtain ⟨F, G, h1, h2, h3⟩ := h
  exact ⟨F, G, h1.old k, h2.old k, h3⟩
theorem Two.drew {W : World} {b c : Nat} {M : Int} {l : List Int} {M2 : Int} {l2 : List Int} {w : World} (h : Two W b c M l M2 l2 w) : Two W b c M l M2 l2 w.drew := h.keep (Kept.refl _ w).drew
theorem Two.old {W : World} {b c : Nat} {M : Int} {l : List Int} {M2 : Int} {l2 : List Int} {w : World} (h : Two W b c M l M2 l2 w) : Old W w := by obtain ⟨F, G, h1, h2, h3⟩ := h; exact h1.1
theorem Two.left {W : World} {b c : Nat} {M : Int} {l : List Int} {M2 : Int} {l2 : List Int} {w w' : World} {M' : Int} {l' : List Int} {F F' G : Nat → Prop} (h2 : St W c 100 M2 l2 G w) (h3 : ∀ i, F i → G i → False) (hF : ∀ i, F i → W.heap.size ≤ i) (h : St W b 100 M' l' F' w') (n : Idw.Next F w F' w') : Two W b c M' l' M2 l2 w' :=
  ⟨F', G, h, h2.far n.1 h3 hF, fun i h4 h5 => (n.2 i h4).elim (fun h => h3 i h h5) (fun h => by have := (h2.own i h5).2; omega)⟩
theorem Two.swap {W : World} {b c : Nat} {M : Int} {l : List Int} {M2 : Int} {l2 : List Int} {w : World} (h : Two W b c M l M2 l2 w) : Two W c b M2 l2 M l w := by
  obtain ⟨F, G, h1, h2, h3⟩ := h
  exact ⟨G, F, h2, h1, fun i a b => h3 i b a⟩
theorem Two.putL {W : World} {b c : Nat} {M : Int} {l : List Int} {M2 : Int} {l2 : List Int} {w : World} (h : Two W b c M l M2 l2 w) (x : Int) :
    Calls Try.prog 12 #[.pointer (some ⟨b, 0, none⟩), .int .u64 x] w fun e w' => e = .returned (.int .i64 (done 100 M l x).1) ∧ Two W b c (done 100 M l x).2.1 (done 100 M l x).2.2 M2 l2 w' := by
  obtain ⟨F, G, h1, h2, h3⟩ := h
  exact (done_st h1 x).mono fun e w' ⟨e1, F', e2, e3⟩ => ⟨e1, Two.left (M := M) (l := l) h2 h3 (fun i hi => (h1.own i hi).1) e2 e3⟩
theorem Two.putR {W : World} {b c : Nat} {M : Int} {l : List Int} {M2 : Int} {l2 : List Int} {w : World} (h : Two W b c M l M2 l2 w) (x : Int) :
    Calls Try.prog 12 #[.pointer (some ⟨c, 0, none⟩), .int .u64 x] w fun e w' => e = .returned (.int .i64 (done 100 M2 l2 x).1) ∧ Two W b c M l (done 100 M2 l2 x).2.1 (done 100 M2 l2 x).2.2 w' :=
  (h.swap.putL x).mono fun e w' h => ⟨h.1, h.2.swap⟩
theorem Two.retire2 {W : World} {b c : Nat} {M : Int} {l : List Int} {M2 : Int} {l2 : List Int} {w : World} (h : Two W b c M l M2 l2 w) (x : Int) :
    Calls Try.prog 14 #[.pointer (some ⟨c, 0, none⟩), .int .u64 x] w fun e w' => e = .returned (.int .i64 ((retire M2 l2 x).1 : Nat)) ∧ Two W b c M l (retire M2 l2 x).2.1 (retire M2 l2 x).2.2 w' := by
  obtain ⟨F, G, h1, h2, h3⟩ := h
  exact (retire_st h2 x).mono fun e w' ⟨e1, F', e2, e3⟩ => ⟨e1, (Two.left (M := M2) (l := l2) h1 (fun i a b => h3 i b a) (fun i hi => (h2.own i hi).1) e2 e3).swap⟩
theorem Two.win {W : World} {b c : Nat} {M : Int} {l : List Int} {M2 : Int} {l2 : List Int} {w : World} (h : Two W b c M l M2 l2 w) : Win 100 M l := by obtain ⟨F, G, h1, h2, h3⟩ := h; exact h1.win
theorem Two.len {W : World} {b c : Nat} {M : Int} {l : List Int} {M2 : Int} {l2 : List Int} {w : World} (h : Two W b c M l M2 l2 w) : Calls Try.prog 19 #[.pointer (some ⟨b, 0, none⟩)] w fun e w' => e = .returned (.int .i64 (l.length : Nat)) ∧ w = w' := by obtain ⟨F, G, h1, h2, h3⟩ := h; exact len_st h1
theorem Two.mark {W : World} {b c : Nat} {M : Int} {l : List Int} {M2 : Int} {l2 : List Int} {w : World} (h : Two W b c M l M2 l2 w) : Calls Try.prog 18 #[.pointer (some ⟨b, 0, none⟩)] w fun e w' => e = .returned (.int .u64 M) ∧ w = w' := by obtain ⟨F, G, h1, h2, h3⟩ := h; exact mark_st h1
theorem Two.is {W : World} {b c : Nat} {M : Int} {l : List Int} {M2 : Int} {l2 : List Int} {w : World} (h : Two W b c M l M2 l2 w) (x : Int) : Calls Try.prog 16 #[.pointer (some ⟨b, 0, none⟩), .int .u64 x] w fun e w' => e = .returned (.bool (isE M l x)) ∧ Kept (fun _ => False) w w' := by obtain ⟨F, G, h1, h2, h3⟩ := h; exact is_st h1 x
set_option maxRecDepth 100000 in
set_option maxHeartbeats 4000000 in
theorem early (a0 : List Int) (s0 : Option Addr) (cap0 : Nat) (m n : Int) (w : World) (h : ¬ (a0.length ≤ 60 ∧ m ≤ top)) :
    Calls Try.prog 8 #[.slice s0 a0.length cap0, .int .u64 m, .int .u64 n] w fun e w' => e = .returned (.bool true) ∧ Old w w' := by
  have HC := Lib.hid fun w => awake_any w
  have hc : (60 : Int) < (a0.length : Int) ∨ (decide ((60 : Int) < (a0.length : Int)) = false ∧ 1152921504606846976 < m) := by
    have : (top : Int) = 1152921504606846976 := rfl
    rw [decide_eq_false_iff_not]; omega
  clear h
  rcases hc with h1 | ⟨h1, h2⟩
  all_goals
    go_enter Try.func8, Try.ntmps8
    go_wp2_with fail
    with_reducible refine Calls.mono (HC.out _) ?_
    rintro e w' ⟨rfl, ho⟩
    go_wp2_with fail
    go_ret
    exact ⟨rfl, ho⟩
set_option maxRecDepth 100000 in
set_option maxHeartbeats 16000000 in
theorem late (a0 : List Int) (s0 : Option Addr) (cap0 : Nat) (m n : Int) (w : World) (w0 : Uints w s0 cap0 a0) (h : a0.length ≤ 60) (hm : m ≤ top) (hn0 : 0 ≤ n) (hm0 : 0 ≤ m) :
    Calls Try.prog 8 #[.slice s0 a0.length cap0, .int .u64 m, .int .u64 n] w fun e w' => e = .returned (.bool true) ∧ Old w w' := by
  have HC := Lib.hid fun w => awake_any w
  have N := Lib.hid fun w => new_st (most := 100) (by omega) (by omega) w
  have W0 := Lib.hid w0
  have h1 : decide ((60 : Int) < (a0.length : Int)) = false := by rw [decide_eq_false_iff_not]; omega
  have h2 : decide ((1152921504606846976 : Int) < m) = false := by
    have : (top : Int) = 1152921504606846976 := rfl
    rw [decide_eq_false_iff_not]; omega
  have HM := Lib.hid hm
  clear w0 hm
  obtain ⟨zl, hzl⟩ : ∃ zl, a0.length = zl := ⟨_, rfl⟩
  have HZ := Lib.hid hzl
  rw [hzl] at h h1 ⊢
  clear hzl
  go_enter Try.func8, Try.ntmps8
  go_wp2_with fail
  with_reducible refine Calls.mono (N.out _) ?_
  rintro e w1 ⟨b, F, rfl, hS, _⟩
  have HS := Lib.hid hS
  clear hS
  go_wp2_with fail
  with_reducible refine Calls.mono (N.out _) ?_
  rintro e w2 ⟨c, G, rfl, hS2, hg2⟩
  have HT : Hid (Two w b c 1 [] 1 [] w2) := Lib.hid (by
    obtain ⟨k2, rest⟩ := hS2
    exact ⟨F, G, HS.out.old k2, ⟨HS.out.1.trans k2, by
      obtain ⟨v, wa, r1, r2, r3, r4⟩ := rest
      exact ⟨v, wa, r1, r2, r3, fun i hi => ⟨Nat.le_trans HS.out.1.size (r4 i hi).1, (r4 i hi).2⟩⟩⟩, fun i h3 h4 => by have := (HS.out.own i h3).2; have := hg2 i h4; omega⟩)
  clear hS2 hg2 N HS
  go_wp2_with fail
  clear h1 h2
  go_loopg [11] zl (fun kx s11 wr => ∃ (i : Nat) (M : Int) (l : List Int), Hid (zl - i ≤ kx) ∧ i ≤ zl ∧ s11 = .int .i64 (i : Nat) ∧ Hid (Two w b c M l M l wr))
  case atStart => exact ⟨0, 1, [], Lib.hid (by omega), by omega, rfl, HT⟩
  case round =>
    clear HT
    obtain ⟨i, M, l, hkx, hi, rfl, hT⟩ := hrel
    rcases Nat.lt_or_ge i zl with hlt | hge
    · obtain ⟨x, hx⟩ : ∃ x, a0[i]? = some x := ⟨_, List.getElem?_eq_getElem (by rw [HZ.out]; exact hlt)⟩
      obtain ⟨g, off, rfl, hg, hc⟩ := W0.out.at hT.out.old (j := i) (by rw [HZ.out]; exact hlt)
      have CK : Hid (∀ M l M2 l2 w', Two w b c M l M2 l2 w' → w'.cell? ⟨g, off + i, none⟩ = some (.int .u64 x)) := Lib.hid fun M l M2 l2 w' h => by
        obtain ⟨g', off', e, hg', hc'⟩ := W0.out.at h.old (j := i) (by rw [HZ.out]; exact hlt)
        cases e
        rw [(List.getElem?_eq_some_iff.1 hx).2] at hc'
        exact hc'
      rw [(List.getElem?_eq_some_iff.1 hx).2] at hc
      have D1 := Lib.hid fun (w' : World) (M2 : Int) (l2 : List Int) (h : Two w b c M l M2 l2 w') => h.putL x
      have D2 := Lib.hid fun (w' : World) (M2 : Int) (l2 : List Int) (h : Two w b c M2 l2 M l w') => h.putR x
      obtain ⟨D, hD⟩ : ∃ D, done 100 M l x = D := ⟨_, rfl⟩
      rw [hD] at D1 D2
      obtain ⟨r, M', l'⟩ := D
      dsimp only at D1 D2
      have ht := hT.out
      clear hx hD hT
      go_wp2_with fail
      go_region_held3 (fun w' => w'.cell? ⟨g, off + i, none⟩ = some (.int .u64 x)) (first | assumption | exact CK.out _ _ _ _ _ (by assumption) | exact CK.out _ _ _ _ _ (Two.drew (by assumption)))
        (first | (go_at_call 12; with_reducible refine Calls.mono (D1.out _ _ _ (by first | assumption | exact Two.drew (by assumption))) ?_; rintro e w' ⟨rfl, ht2⟩) | (go_at_call 12; with_reducible refine Calls.mono (D2.out _ _ _ (by first | assumption | exact Two.drew (by assumption))) ?_; rintro e w' ⟨rfl, ht2⟩))
      have HT2 := Lib.hid ht2
      clear ht2 D1 D2 CK
      go_wp2_with fail
      go_roundg (zl - (i + 1))
      case measure => have := hkx.out; omega
      case rel => exact ⟨i + 1, M', l', Lib.hid (Nat.le_refl _), by omega, by go_num, HT2⟩
    · have hge' : ¬ ((i : Int) < (zl : Int)) := by omega
      have LN := Lib.hid hT.out.len
      have RT := Lib.hid (hT.out.retire2 m)
      have hlen := retire_len M l m
      have hle := retire_le M l m
      have hgm := retire_ge M l HM.out
      have hmk := retire_mark (M := M) (l := l) m
      have hE := retire_isE hT.out.win HM.out n
      have hlo := hT.out.win.lo
      have hfew : (l.length : Int) ≤ 100 := by have := hT.out.win.few; omega
      obtain ⟨R, hR⟩ : ∃ R, retire M l m = R := ⟨_, rfl⟩
      rw [hR] at RT hlen hgm hmk hE hle
      obtain ⟨k, M', l'⟩ := R
      dsimp only at RT hlen hgm hmk hE hle
      have hEE := Lib.hid hE
      obtain ⟨r', hr'⟩ : ∃ r', isE M' l' n = r' := ⟨_, rfl⟩
      obtain ⟨r, hr⟩ : ∃ r, isE M l n = r := ⟨_, rfl⟩
      rw [hr, hr'] at hE
      have HRR := Lib.hid hr'
      have HRS := Lib.hid hr
      have HGM := Lib.hid hgm
      have HE := Lib.hid hE
      clear hR hE hr hr'
      generalize hL : l.length = L at *
      generalize hL' : l'.length = L' at *
      have HL := Lib.hid hL
      have HL' := Lib.hid hL'
      clear hL hL'
      go_wp2_with fail
      with_reducible refine Calls.mono LN.out ?_
      rintro e w3 ⟨rfl, rfl⟩
      go_wp2_with fail
      with_reducible refine Calls.mono RT.out ?_
      rintro e w3 ⟨rfl, ht3⟩
      have HT3 := Lib.hid ht3
      have L3 := ht3.swap.len
      rw [HL'.out] at L3
      have L3 := Lib.hid L3
      have K3 := Lib.hid ht3.swap.mark
      have M3 := Lib.hid ht3.mark
      have g1 : decide ((k : Int) < 0) = false := by rw [decide_eq_false_iff_not]; omega
      have g2 : IntKind.i64.wrap ((L : Int) - (k : Int)) = (L' : Int) := by rw [IntKind.wrap_i64]; omega
      have g3 : decide (M' < m) = false := by rw [decide_eq_false_iff_not]; omega
      have g4 : decide (M' < M) = false := by rw [decide_eq_false_iff_not]; omega
      clear ht3 hT LN RT
      go_wp2_with fail
      with_reducible refine Calls.mono L3.out ?_
      rintro e w4 ⟨rfl, rfl⟩
      go_wp2_with fail
      with_reducible refine Calls.mono K3.out ?_
      rintro e w4 ⟨rfl, rfl⟩
      go_wp2_with fail
      with_reducible refine Calls.mono K3.out ?_
      rintro e w4 ⟨rfl, rfl⟩
      go_wp2_with fail
      with_reducible refine Calls.mono M3.out ?_
      rintro e w4 ⟨rfl, rfl⟩
      go_wp2_with fail
      have I3 := HT3.out.swap.is n
      rw [HRR.out] at I3
      have I3 := Lib.hid I3
      with_reducible refine Calls.mono I3.out ?_
      rintro e w4 ⟨rfl, k4⟩
      have HT4 := Lib.hid (HT3.out.keep k4)
      have V4 := HT4.out.is n
      rw [HRS.out] at V4
      have V4 := Lib.hid V4
      have RA : Hid (∀ w', Kept (fun _ => False) w4 w' → Calls Try.prog 14 #[.pointer (some ⟨c, 0, none⟩), .int .u64 m] w' fun e w'' => e = .returned (.int .i64 0) ∧ Old w w'') := Lib.hid fun w' k => by
        have := (HT4.out.keep k).retire2 m
        rw [retire_none l' HGM.out] at this
        exact this.mono fun e w'' h => ⟨h.1, h.2.old⟩
      have hcase : (decide (0 < n) = false ∧ r' = false) ∨ (0 < n ∧ n < m ∧ r' = true) ∨ (0 < n ∧ decide (n < m) = false ∧ r' = r) := by
        have he := HE.out
        by_cases c1 : 0 < n
        · by_cases c2 : n < m
          · exact Or.inr (Or.inl ⟨c1, c2, by rw [he, decide_eq_true_eq]; exact ⟨c1, Or.inl c2⟩⟩)
          · refine Or.inr (Or.inr ⟨c1, by simpa using c2, ?_⟩)
            rw [he, Bool.eq_iff_iff, decide_eq_true_eq]
            exact ⟨fun h => h.2.resolve_left c2, fun h => ⟨c1, Or.inr h⟩⟩
        · exact Or.inl ⟨by simpa using c1, by rw [he, decide_eq_false_iff_not]; exact fun h => c1 h.1⟩
      clear k4 I3 HE
      rcases hcase with ⟨c1, rfl⟩ | ⟨c1, c2, rfl⟩ | ⟨c1, c2, rfl⟩
      · go_wp2_with fail
        with_reducible refine Calls.mono (RA.out _ (Kept.refl _ _)) ?_
        rintro e w5 ⟨rfl, ho5⟩
        go_wp2_with fail
        with_reducible refine Calls.mono (HC.out _) ?_
        rintro e w6 ⟨rfl, ho6⟩
        go_wp2_with fail
        go_ret
        exact ⟨rfl, ho5.trans ho6⟩
      · go_wp2_with fail
        with_reducible refine Calls.mono (RA.out _ (Kept.refl _ _)) ?_
        rintro e w5 ⟨rfl, ho5⟩
        go_wp2_with fail
        with_reducible refine Calls.mono (HC.out _) ?_
        rintro e w6 ⟨rfl, ho6⟩
        go_wp2_with fail
        go_ret
        exact ⟨rfl, ho5.trans ho6⟩
      · have hrr : (r' == r') = true := by simp
        go_wp2_with fail
        with_reducible refine Calls.mono V4.out ?_
        rintro e w5 ⟨rfl, k5⟩
        have HK5 := Lib.hid k5
        clear k5
        go_wp2_with fail
        with_reducible refine Calls.mono (RA.out _ HK5.out) ?_
        rintro e w6 ⟨rfl, ho5⟩
        go_wp2_with fail
        with_reducible refine Calls.mono (HC.out _) ?_
        rintro e w7 ⟨rfl, ho6⟩
        go_wp2_with fail
        go_ret
        exact ⟨rfl, ho5.trans ho6⟩
theorem walk (a0 : List Int) (s0 : Option Addr) (cap0 : Nat) (m n : Int) (w : World) (w0 : Uints w s0 cap0 a0) (w1 : (Lit.int .u64 m).wf = true) (w2 : (Lit.int .u64 n).wf = true) :
    Calls Try.prog 8 #[.slice s0 a0.length cap0, .int .u64 m, .int .u64 n] w fun e w' => e = .returned (.bool true) ∧ Old w w' := by
  by_cases h : a0.length ≤ 60 ∧ m ≤ top
  · exact late a0 s0 cap0 m n w w0 h.1 h.2 (bounds_u64 w2).1 (bounds_u64 w1).1
  · exact early a0 s0 cap0 m n w h
set_option maxRecDepth 100000 in
set_option maxHeartbeats 1000000 in
theorem lifted (os : Os) (started : os.Started) (H : Type) (enc : TypeId × Value → H) :
    ReturnsInHanded {} Try.checked os 8 .any (Rows.idsRetiresSpec.pre6 enc Try.prog Try.f8 Rows.idsRetiresRow.domain false) (Rows.idsRetiresSpec.post enc Try.prog Try.f8 false true false false) := by
  refine returnsInHanded_of_change (C := Try.checked) own started (by kernel_rfl) Try.func8
    (ChangeSpec.witness6 (enc := enc) (C := Try.checked) false ⟨#[], #[.slice none 0 0, .int .u64 0, .int .u64 0], []⟩ 8 (by kernel_rfl) (by kernel_rfl) (by kernel_rfl) (by kernel_rfl)) ?_
  intro W base args ds gs before hval0 hW hcnd _
  have hval : ∀ (j : Nat) t v, Try.f8.params[j]? = some t → args[j]? = some v → Value.okWide Try.prog W .any base t v := hval0
  have hW' := hW
  obtain ⟨p, q, hA0, hV, rfl, hfz, hnd⟩ := hW
  have hA : DataW.TrodAll enc Try.prog W 0 (fun _ => true) true Try.f8.params.toList args.toList ds p := hA0
  rw [Try.params8] at hA hval
  obtain ⟨v0, vs0, d0, ds0, p0, q0, hargs, rfl, rfl, h0, r0⟩ := trodAll_cons hA
  obtain ⟨v1, vs1, d1, ds1, p1, q1, rfl, rfl, rfl, h1, r1⟩ := trodAll_cons r0
  obtain ⟨v2, vs2, d2, ds2, p2, q2, rfl, rfl, rfl, h2, r2⟩ := trodAll_cons r1
  obtain ⟨rfl, rfl, rfl⟩ := trodAll_nil r2
  obtain rfl : args = #[v0, v1, v2] := by cases args; simp_all
  obtain ⟨rfl, rfl⟩ := trodVars_none hV
  obtain ⟨s0, cap0, a0, rfl, w0⟩ := Opn.uints_of Try.underlying23 Try.underlying30 (by kernel_rfl) (hval 0 23 v0 rfl rfl) h0
  obtain ⟨a1, rfl, rfl, rfl, w1⟩ := open_int Try.underlying30 (hval 1 30 v1 rfl rfl) h1
  obtain ⟨a2, rfl, rfl, rfl, w2⟩ := open_int Try.underlying30 (hval 2 30 v2 rfl rfl) h2
  clear hA0 hval0
  refine (walk a0 s0 cap0 a1 a2 W w0 w1 w2).mono fun e W' ⟨he, hg⟩ => ?_
  subst he
  exact ⟨_, rfl, post_of_old hW' (fun _ _ _ => (trodAll_cons_mk (shut_bool Try.underlying4 _) trodAll_mk0)) (fun sp hsp => (trodAll_cons_mk (Opn.back (by kernel_rfl) (of_decide_eq_true (by kernel_rfl)) h0 hg (fun x hx => hW'.lt x (by simp [hx])) (fun x hx => hsp x (by simp [hx]))) (trodAll_cons_mk (shut_int Try.underlying30 w1) (trodAll_cons_mk (shut_int Try.underlying30 w2) trodAll_mk0)))) (fun _ _ => rfl)
    hg (ok_one (by kernel_rfl) rfl (okWide_bool_mk Try.underlying4 _))⟩
theorem over : Rows.idsRetiresRow.holds Try.pinned (OpenSpec.ofChange Rows.idsRetiresSpec) :=
  OpenClaim.holds_of_wide 8 Try.f8 rfl rfl rfl rfl rfl rfl rfl ⟨rfl, rfl, rfl, rfl, rfl⟩ rfl rfl rfl rfl rfl (by kernel_rfl) Try.func8 (by kernel_rfl)
    (of_decide_eq_true (by kernel_rfl)) (by unfold Func.isWrapper; first | (rw [if_pos (by decide +kernel)]; kernel_rfl) | (rw [if_neg (by decide +kernel)]; exact ⟨rfl, rfl⟩))
    (fun os started H enc _ => lifted os started H enc)
theorem proved : Rows.IdsRetiresSaid :=
  over
#print axioms proved
end Go.Proofs.Ytaihjnonlnbhhaa.idsRetires
