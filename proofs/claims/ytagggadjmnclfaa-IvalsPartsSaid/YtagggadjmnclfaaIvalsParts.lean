/- IvalsParts (mizzenlaw5): for every int and every slice of ranges the law returns true and its arguments read as before. Conditions: none. -/
import Derived.Test.YtagggadjmnclfaaRows
import Derived.Test.YtagggadjmnclfaaEnd
import Derived.Test.YtagggadjmnclfaaInts
import Derived.WalkKit
import Derived.ProofKit
import Derived.OpenShut
import Derived.Test.YtagggadjmnclfaaIvAl
import Derived.StillTailTactics
set_option linter.unusedVariables false
namespace Go.Proofs.Ytagggadjmnclfaa.ivalsParts
open Go.ChangeShapes Go.WideShapes Go.ChangeAt Go.RowKit Go.Proofs.Ytagggadjmnclfaa.Hp Go.Proofs.Ytagggadjmnclfaa.End
open Opn IvM IvR IvN Iv
theorem own : ownKnob Try.prog.godebug = none := by kernel_rfl
set_option maxRecDepth 100000 in
theorem early (n : Int) (zs : List (List Int)) (s : Option Addr) (cap : Nat) (w : World) (h : ¬ (0 ≤ n ∧ n ≤ 100000 ∧ zs.length ≤ 60)) :
    Calls Try.prog 3 #[.int .i64 n, .slice s zs.length cap] w fun e w' => e = .returned (.bool true) ∧ Old w w' := by
  have HC := Lib.hid (awake_any w)
  have hc : n < 0 ∨ (¬ n < 0 ∧ 100000 < n) ∨ (¬ n < 0 ∧ ¬ 100000 < n ∧ 60 < zs.length) := by omega
  clear h
  rcases hc with h1 | ⟨h1, h2⟩ | ⟨h1, h2, h3⟩
  all_goals
    go_enter Try.func3, Try.ntmps3
    go_wp2_with (go_at_call 6; refine HC.out.mono ?_; rintro e w' ⟨rfl, ho⟩)
    go_ret
    exact ⟨rfl, ho⟩
/-- The set so far. -/
def Sofar (W : World) (b : Nat) (n : Int) (m : Nat) (w : World) : Prop := ∃ v l, SetV w W.heap.size b v n l ∧ l.length ≤ m ∧ Old W w
theorem sofar_add {W : World} {b : Nat} {n : Int} {m : Nat} {w : World} (h : Sofar W b n m w) (hm : m < 900000) (f t : Int) :
    Calls Try.prog 8 #[.pointer (some ⟨b, 0, none⟩), .int .i64 f, .int .i64 t] w fun e w' => ∃ x k, e = .returned (.tuple #[.int .i64 x, .int .i64 k]) ∧ Sofar W b n (m + 1) w' := by
  obtain ⟨v, l, hS, hl, hO⟩ := h
  refine (add_any hS hO.size f t (by omega)).mono ?_
  rintro e w' ⟨v', L, k, rfl, hA, hL, _⟩
  exact ⟨_, _, rfl, v', L, hA.set, by omega, hO.trans' hA.kept (fun i hi e => by
    rcases e with e | e
    · have := hS.low; omega
    · have := (hS.row.lt i e).1; omega)⟩
theorem Sofar.drew {W : World} {b : Nat} {n : Int} {m : Nat} {w : World} (h : Sofar W b n m w) : Sofar W b n m w.drew := by
  obtain ⟨v, l, hS, hl, hO⟩ := h
  exact ⟨v, l, hS.old (Kept.refl _ w).drew, hl, hO.drew⟩
theorem drop_cons {l : List Rg} {k : Nat} {y : Rg} {r : List Rg} (h : l.drop k = y :: r) : k < l.length ∧ l.getD k (0, 0) = y ∧ l.drop (k + 1) = r := by
  have hk : k < l.length := by
    rcases Nat.lt_or_ge k l.length with h1 | h1
    · exact h1
    · rw [List.drop_eq_nil_of_le h1] at h; cases h
  have e := drop_at hk
  rw [h] at e
  simp only [List.cons.injEq] at e
  exact ⟨hk, e.1.symm, e.2.symm⟩
set_option maxRecDepth 100000 in
set_option maxHeartbeats 16000000 in
theorem late (n : Int) (zs : List (List Int)) (s : Option Addr) (cap : Nat) (w : World) (h0 : 0 ≤ n) (h1 : n ≤ 100000) (hz : zs.length ≤ 60) (hZ : Structs w s cap 2 zs) :
    Calls Try.prog 3 #[.int .i64 n, .slice s zs.length cap] w fun e w' => e = .returned (.bool true) ∧ Old w w' := by
  have HZ := Lib.hid hZ
  clear hZ
  have N1 := Lib.hid (new_yes h0 (show n ≤ 1073741824 by omega) w)
  have g1 : ¬ n < 0 := by omega
  have g2 : ¬ 100000 < n := by omega
  have g3 : ¬ 60 < zs.length := by omega
  go_enter Try.func3, Try.ntmps3
  go_wp2_with fail
  refine N1.out.mono ?_
  rintro e w1 ⟨b, rfl, hS1, k1⟩
  clear N1
  have hF1 : Hid (Sofar w b n 0 w1) := Lib.hid ⟨_, _, hS1, by simp, k1⟩
  clear hS1 k1
  go_wp2_with fail
  go_loopg [7] zs.length (fun m s7 wr => ∃ (i : Nat), Hid (m = zs.length - i) ∧ i ≤ zs.length ∧ s7 = .int .i64 ((i : Nat) : Int) ∧ Hid (Sofar w b n i wr))
  case atStart => exact ⟨0, rfl, by omega, rfl, hF1⟩
  case round =>
    obtain ⟨i, hk, hi, rfl, hF⟩ := hrel
    clear hF1
    by_cases hlt : i < zs.length
    · obtain ⟨v, l, _, _, hO⟩ := id hF.out
      obtain ⟨g, off, rfl, hg, c0⟩ := HZ.out.cell hO hlt (show 0 < 2 by decide)
      obtain ⟨_, _, eg, _, c1⟩ := HZ.out.cell hO hlt (show 1 < 2 by decide)
      cases eg
      generalize (zs.getD i []).getD 0 0 = f at *
      generalize (zs.getD i []).getD 1 0 = t at *
      rw [Nat.add_zero] at c0
      have A := Lib.hid (sofar_add hF.out.drew (by omega) f t)
      have hlt2 : (i : Int) < (zs.length : Int) := by omega
      clear hO hF
      go_wp2_with fail
      go_still_tail 11, (by kernel_rfl)
      change wpList _ _ _ _ _ wr.drew
      generalize wr.drew = w2 at *
      clear c0 c1
      go_wp2_with fail
      refine A.out.mono ?_
      rintro e w3 ⟨x, k, rfl, hF3⟩
      go_wp2_with fail
      go_roundg (zs.length - (i + 1))
      case measure => have := hk.out; omega
      case rel => exact ⟨i + 1, rfl, by omega, by simp, Lib.hid hF3⟩
    · obtain ⟨v, l, hS, hl, hO⟩ := id hF.out
      have HR := Lib.hid (ranges_any hS)
      have hlt2 : ¬ (i : Int) < (zs.length : Int) := by omega
      clear hF
      go_wp2_with fail
      refine HR.out.mono ?_
      rintro e w2 ⟨va, rfl, hRa, hk2⟩
      have hS2 := hS.old hk2
      have HG := Lib.hid (gaps_any hS2 n 1073741824 (by omega))
      rw [Int.min_self] at HG
      obtain ⟨sa, ca, rfl⟩ := form2 hRa
      clear HR
      go_wp2_with fail
      refine HG.out.mono ?_
      rintro e w3 ⟨vb, rfl, hRb, hk3⟩
      have hS3 := hS2.old hk3
      have hO3 : Old w w3 := (hO.trans hk2).trans hk3
      obtain ⟨sb, cb, rfl⟩ := form2 hRb
      obtain ⟨_, pa0, la, _⟩ := row_part hRa
      obtain ⟨_, pb, lb, _⟩ := row_part hRb
      have pa := Part.kept pa0 hk3
      clear hS hS2 hRa hRb pa0 HG hk2 hk3 hO hlt2 HZ
      have hgood := hS3.good
      have hS4 := Lib.hid hS3
      clear hS3
      obtain ⟨G, hG⟩ : ∃ G, G = gaps n 0 l := ⟨_, rfl⟩
      rw [← hG] at pb lb ⊢
      have hglen := gaps_len n l 0
      rw [← hG] at hglen
      have HG := Lib.hid hG
      have PA := Lib.hid pa
      have PB := Lib.hid pb
      have HGD := Lib.hid hgood
      clear hG pa pb hgood
      go_wp2_with fail
      go_loopg [10, 11, 12, 13] (l.length + G.length) (fun m s10 s11 s12 s13 wr => ∃ (i k : Nat) (x z : Int), Hid (m = l.length + G.length - (i + k)) ∧ i ≤ l.length ∧ k ≤ G.length ∧ s10 = .int .i64 x ∧ s11 = .int .i64 z ∧ s12 = .int .i64 ((i : Nat) : Int) ∧ s13 = .int .i64 ((k : Nat) : Int) ∧
        0 ≤ x ∧ x ≤ n ∧ Hid (z = size (l.take i)) ∧ Hid (G.drop k = gaps n x (l.drop i)) ∧ Hid (∀ p ∈ l.drop i, x ≤ p.1) ∧ w3 = wr)
      case atStart => exact ⟨0, 0, 0, 0, rfl, by omega, by omega, rfl, rfl, rfl, rfl, by omega, h0, rfl, Lib.hid (by rw [HG.out]; rfl), Lib.hid (fun p hp => (HGD.out.each p (by simpa using hp)).1), rfl⟩
      case round =>
        obtain ⟨i2, k, x, z, hm, hi2, hk2, rfl, rfl, rfl, rfl, hx0, hx1, hz2, hGd, hlow, rfl⟩ := hrel
        by_cases hx : x < n
        · by_cases hlt : i2 < l.length
          · have hdr := drop_at hlt
            have hpm : l.getD i2 (0, 0) ∈ l := by rw [getD_at hlt]; exact List.getElem_mem hlt
            have hp := HGD.out.each _ hpm
            have hpl := hlow.out (l.getD i2 (0, 0)) (by rw [hdr]; simp)
            obtain ⟨g, o, rfl, hg, hc⟩ := PA.out.resolve_left (fun e => by rw [e] at hlt; simp at hlt)
            have c0 := (hc i2 hlt).1
            have c1 := (hc i2 hlt).2
            generalize hpe : l.getD i2 (0, 0) = p at *
            obtain ⟨a, b2⟩ := p
            dsimp only at c0 c1 hp hpl
            have hi3 : (i2 : Int) < (l.length : Int) := by omega
            have hi4 : i2 < ca := by omega
            clear hc
            by_cases hxa : a = x
            · subst hxa
              have hsn : size (l.take (i2 + 1)) = z + (b2 - a) := by
                rw [List.take_succ_eq_append_getElem hlt, size_append, ← hz2.out, ← getD_at hlt, hpe]
                simp [size]
              have hGn : gaps n a ((a, b2) :: l.drop (i2 + 1)) = gaps n b2 (l.drop (i2 + 1)) := gaps_skip hx (by show ¬ a < min n a; omega)
              have HN : Hid (G.drop k = gaps n b2 (l.drop (i2 + 1))) := Lib.hid (by rw [hGd.out, hdr, hGn])
              have HS : Hid (z + b2 - a = size (l.take (i2 + 1))) := Lib.hid (by rw [hsn]; omega)
              have HL : Hid (∀ p ∈ l.drop (i2 + 1), b2 ≤ p.1) := Lib.hid (fun p hp => by
                have hr := HGD.out.rise.drop (i := i2)
                rw [hdr] at hr
                have := (List.pairwise_cons.1 hr).1 p hp
                omega)
              have hz3 := size_nonneg HGD.out
              have hb2 : decide (a < b2) = true := decide_eq_true hp.2.1
              have ht1 := size_nonneg (n := n) (l := l.take i2) ⟨fun p hp => HGD.out.each p (List.mem_of_mem_take hp), HGD.out.rise.take⟩
              have ht2 := size_le (n := n) (x := 0) (l := l.take i2) ⟨fun p hp => HGD.out.each p (List.mem_of_mem_take hp), HGD.out.rise.take⟩ (fun p hp => (HGD.out.each p (List.mem_of_mem_take hp)).1) h0
              rw [← hz2.out] at ht1 ht2
              clear hdr hpe hsn hGn hz3 hGd hlow hpm
              go_wp2_with fail
              go_roundg (l.length + G.length - (i2 + 1 + k))
              case measure => have := hm.out; omega
              case rel => exact ⟨i2 + 1, k, b2, z + b2 - a, rfl, by omega, hk2, rfl, rfl, by simp, rfl, by omega, by omega, HS, HN, HL, rfl⟩
            · have hga : min n a = a := by omega
              have hGd2 := hGd.out
              rw [hdr, gaps_put hx (by show x < min n a; omega), hga] at hGd2
              obtain ⟨hk3, hke, hkd⟩ := drop_cons hGd2
              obtain ⟨g2, o2, rfl, hg2, hc2⟩ := PB.out.resolve_left (fun e => by rw [e] at hk3; simp at hk3)
              have d0 := (hc2 k hk3).1
              have d1 := (hc2 k hk3).2
              rw [hke] at d0 d1
              dsimp only at d0 d1
              have HN : Hid (G.drop (k + 1) = gaps n a (l.drop i2)) := Lib.hid (by rw [hkd, hdr, gaps_skip (by omega) (by show ¬ a < min n a; omega)])
              have HL : Hid (∀ p ∈ l.drop i2, a ≤ p.1) := Lib.hid (fun p hp => by
                have hr := HGD.out.rise.drop (i := i2)
                rw [hdr] at hr hp
                rcases List.mem_cons.1 hp with rfl | hp
                · exact Int.le_refl _
                · have := (List.pairwise_cons.1 hr).1 p hp
                  omega)
              have hax : (a == x) = false := by rw [beq_eq_false_iff_ne]; exact hxa
              have hk4 : (k : Int) < (G.length : Int) := by omega
              have hk5 : k < cb := by omega
              have hxa2 : decide (x < a) = true := decide_eq_true (by omega)
              have ha0 : 0 ≤ a ∧ a ≤ n := by omega
              clear hdr hpe hGd2 hke hkd hc2 hGd hlow hpm hga
              go_wp2_with fail
              go_roundg (l.length + G.length - (i2 + (k + 1)))
              case measure => have := hm.out; omega
              case rel => exact ⟨i2, k + 1, a, z, rfl, hi2, by omega, rfl, rfl, rfl, by simp, ha0.1, ha0.2, hz2, HN, HL, rfl⟩
          · obtain rfl : i2 = l.length := by omega
            have hGd2 := hGd.out
            rw [List.drop_length, gaps_last hx] at hGd2
            obtain ⟨hk3, hke, hkd⟩ := drop_cons hGd2
            obtain ⟨g2, o2, rfl, hg2, hc2⟩ := PB.out.resolve_left (fun e => by rw [e] at hk3; simp at hk3)
            have d0 := (hc2 k hk3).1
            have d1 := (hc2 k hk3).2
            rw [hke] at d0 d1
            dsimp only at d0 d1
            have HN : Hid (G.drop (k + 1) = gaps n n (l.drop l.length)) := Lib.hid (by rw [hkd, gaps_end (by omega)])
            have HL : Hid (∀ p ∈ l.drop l.length, n ≤ p.1) := Lib.hid (fun p hp => by rw [List.drop_length] at hp; cases hp)
            have hk4 : (k : Int) < (G.length : Int) := by omega
            have hk5 : k < cb := by omega
            have hxa2 : decide (x < n) = true := decide_eq_true hx
            clear hGd2 hke hkd hc2 hGd hlow hlt
            go_wp2_with fail
            go_roundg (l.length + G.length - (l.length + (k + 1)))
            case measure => have := hm.out; omega
            case rel => exact ⟨l.length, k + 1, n, z, rfl, by omega, by omega, rfl, rfl, rfl, by simp, h0, by omega, hz2, HN, HL, rfl⟩
        · obtain rfl : x = n := by omega
          have hi3 : l.drop i2 = [] := by
            cases hd : l.drop i2 with
            | nil => rfl
            | cons p r =>
              have h1 := hlow.out p (by rw [hd]; simp)
              have h2 := HGD.out.each p (List.mem_of_mem_drop (i := i2) (by rw [hd]; simp))
              omega
          have hi4 : i2 = l.length := by have := List.drop_eq_nil_iff.1 hi3; omega
          have hk3 : k = G.length := by
            have := hGd.out
            rw [gaps_end hx] at this
            have := List.drop_eq_nil_iff.1 this
            omega
          subst hi4 hk3
          have hz3 := hz2.out
          rw [List.take_length] at hz3
          have HZ3 := Lib.hid hz3
          clear hi3 hGd hlow hz2 hz3 hm
          go_wp2_with fail
          go_loopg [14] l.length (fun m s14 wr => ∃ (j : Nat), Hid (m = l.length + 1 - j) ∧ 1 ≤ j ∧ j ≤ l.length + 1 ∧ s14 = .int .i64 ((j : Nat) : Int) ∧ Kept (fun _ => False) w3 wr)
          case atStart => exact ⟨1, Lib.hid (by omega), by omega, by omega, rfl, Kept.refl _ w3⟩
          case round =>
            obtain ⟨j, hm, hj1, hj2, rfl, hk⟩ := hrel
            by_cases hjl : j < l.length
            · obtain ⟨g, o, rfl, hg, hc⟩ := PA.out.resolve_left (fun e => by rw [e] at hjl; simp at hjl)
              have c0 := (Iv.keptCell hk hg (fun f => f) _).trans (hc j hjl).1
              have c1 := (Iv.keptCell hk hg (fun f => f) _).trans (hc (j - 1) (by omega)).2
              have hlt : (l.getD (j - 1) (0, 0)).2 < (l.getD j (0, 0)).1 := by
                rw [getD_at hjl, getD_at (show j - 1 < l.length by omega)]
                exact List.pairwise_iff_getElem.1 HGD.out.rise (j - 1) j (by omega) hjl (by omega)
              generalize (l.getD (j - 1) (0, 0)).2 = y1 at *
              generalize (l.getD j (0, 0)).1 = y2 at *
              have q1 : IntKind.i64.wrap ((j : Int) - 1) = (j : Int) - 1 := by rw [IntKind.wrap_i64]; omega
              have q2 : (0 : Int) ≤ (j : Int) - 1 := by omega
              have q3 : ((j : Int) - 1).toNat = j - 1 := by omega
              have q4 : (j : Int) - 1 < (l.length : Int) := by omega
              have q5 : (j : Int) < (l.length : Int) := by omega
              have q6 : decide (y2 ≤ y1) = false := by rw [decide_eq_false_iff_not]; omega
              have q7 : ¬ y2 ≤ y1 := by omega
              clear hc
              go_wp2_with fail
              go_quiet (fail)
              clear q1 q2 q3 q4
              go_wp2_with fail
              go_roundg (l.length + 1 - (j + 1))
              case measure => have := hm.out; omega
              case rel => exact ⟨j + 1, rfl, by omega, by omega, by simp, hk.drewN _⟩
            · have hS5 := hS4.out.old hk
              have SM := Lib.hid (sum_any hS5)
              have FM := Lib.hid (full_any hS5)
              have ff := front_full hS5.good h0
              have HC := Lib.hid fun w => awake_any w
              have HO := Lib.hid (hO3.trans hk)
              have hjl2 : ¬ (j : Int) < (l.length : Int) := by omega
              rw [← HZ3.out] at SM ff
              clear hS5 hk hO3
              by_cases hzx : z = x
              · have ff2 : front l = x := ff.2 hzx
                rw [ff2] at FM
                subst hzx
                have ee : (z == z) = true := beq_self_eq_true z
                rw [ee] at FM
                clear ff ff2
                go_wp2_with fail
                with_reducible refine Calls.mono SM.out ?_
                rintro e w6 ⟨rfl, rfl⟩
                go_wp2_with fail
                with_reducible refine Calls.mono FM.out ?_
                rintro e w7 ⟨rfl, hk7⟩
                go_wp2_with fail
                with_reducible refine Calls.mono (HC.out _) ?_
                rintro e w8 ⟨rfl, hk8⟩
                go_wp2_with fail
                go_ret
                exact ⟨rfl, (HO.out.trans hk7).trans hk8⟩
              · have ee : (front l == x) = false := by rw [beq_eq_false_iff_ne]; exact fun e => hzx (ff.1 e)
                have ee2 : (z == x) = false := by rw [beq_eq_false_iff_ne]; exact hzx
                rw [ee] at FM
                clear ff ee
                go_wp2_with fail
                with_reducible refine Calls.mono SM.out ?_
                rintro e w6 ⟨rfl, rfl⟩
                go_wp2_with fail
                with_reducible refine Calls.mono FM.out ?_
                rintro e w7 ⟨rfl, hk7⟩
                go_wp2_with fail
                with_reducible refine Calls.mono (HC.out _) ?_
                rintro e w8 ⟨rfl, hk8⟩
                go_wp2_with fail
                go_ret
                exact ⟨rfl, (HO.out.trans hk7).trans hk8⟩
theorem walk (n : Int) (zs : List (List Int)) (s : Option Addr) (cap : Nat) (w : World) (w0 : (Lit.int .i64 n).wf = true) (hZ : Structs w s cap 2 zs) :
    Calls Try.prog 3 #[.int .i64 n, .slice s zs.length cap] w fun e w' => e = .returned (.bool true) ∧ Old w w' := by
  by_cases h : 0 ≤ n ∧ n ≤ 100000 ∧ zs.length ≤ 60
  · exact late n zs s cap w h.1 h.2.1 h.2.2 hZ
  · exact early n zs s cap w h
set_option maxRecDepth 100000 in
set_option maxHeartbeats 1000000 in
theorem lifted (os : Os) (started : os.Started) (H : Type) (enc : TypeId × Value → H) :
    ReturnsInHanded {} Try.checked os 3 .any (Rows.ivalsPartsSpec.pre6 enc Try.prog Try.f3 Rows.ivalsPartsRow.domain false) (Rows.ivalsPartsSpec.post enc Try.prog Try.f3 false true false false) := by
  refine returnsInHanded_of_change (C := Try.checked) own started (by kernel_rfl) Try.func3
    (ChangeSpec.witness6 (enc := enc) (C := Try.checked) false ⟨#[], #[.int .i64 0, .slice none 0 0], []⟩ 8 (by kernel_rfl) (by kernel_rfl) (by kernel_rfl) (by kernel_rfl)) ?_
  intro W base args ds gs before hval0 hW hcnd _
  have hval : ∀ (j : Nat) t v, Try.f3.params[j]? = some t → args[j]? = some v → Value.okWide Try.prog W .any base t v := hval0
  have hW' := hW
  obtain ⟨p, q, hA0, hV, rfl, hfz, hnd⟩ := hW
  have hA : DataW.TrodAll enc Try.prog W 0 (fun _ => true) true Try.f3.params.toList args.toList ds p := hA0
  rw [Try.params3] at hA hval
  obtain ⟨v0, vs0, d0, ds0, p0, q0, hargs, rfl, rfl, h0, r0⟩ := trodAll_cons hA
  obtain ⟨v1, vs1, d1, ds1, p1, q1, rfl, rfl, rfl, h1, r1⟩ := trodAll_cons r0
  obtain ⟨rfl, rfl, rfl⟩ := trodAll_nil r1
  obtain rfl : args = #[v0, v1] := by cases args; simp_all
  obtain ⟨rfl, rfl⟩ := trodVars_none hV
  obtain ⟨a0, rfl, rfl, rfl, w0⟩ := open_int Try.underlying3 (hval 0 3 v0 rfl rfl) h0
  obtain ⟨s1, cap1, a1, rfl, w1⟩ := Opn.structs_of Try.underlying22 Try.underlying31 (by kernel_rfl) (by kernel_rfl) (by decide) (by intro j f hf; rcases j with _ | _ | j <;> simp at hf <;> (try subst hf) <;> exact Try.underlying3) (hval 1 22 v1 rfl rfl) h1
  clear hA0 hval0
  refine (walk a0 a1 s1 cap1 W w0 w1).mono fun e W' ⟨he, hg⟩ => ?_
  subst he
  exact ⟨_, rfl, post_of_old hW' (fun _ _ _ => (trodAll_cons_mk (shut_bool Try.underlying4 _) trodAll_mk0)) (fun sp hsp => (trodAll_cons_mk (shut_int Try.underlying3 w0) (trodAll_cons_mk (Opn.back (by kernel_rfl) (of_decide_eq_true (by kernel_rfl)) h1 hg (fun x hx => hW'.lt x (by simp [hx])) (fun x hx => hsp x (by simp [hx]))) trodAll_mk0))) (fun _ _ => rfl)
    hg (ok_one (by kernel_rfl) rfl (okWide_bool_mk Try.underlying4 _))⟩
theorem over : Rows.ivalsPartsRow.holds Try.pinned (OpenSpec.ofChange Rows.ivalsPartsSpec) :=
  OpenClaim.holds_of_wide 3 Try.f3 rfl rfl rfl rfl rfl rfl rfl ⟨rfl, rfl, rfl, rfl, rfl⟩ rfl rfl rfl rfl rfl (by kernel_rfl) Try.func3 (by kernel_rfl)
    (of_decide_eq_true (by kernel_rfl)) (by unfold Func.isWrapper; first | (rw [if_pos (by decide +kernel)]; kernel_rfl) | (rw [if_neg (by decide +kernel)]; exact ⟨rfl, rfl⟩))
    (fun os started H enc _ => lifted os started H enc)
theorem proved : Rows.IvalsPartsSaid :=
  over
#print axioms proved
end Go.Proofs.Ytagggadjmnclfaa.ivalsParts
