/- Rows of numbers without a sign: a search by halves. Conditions: each theorem's own. -/
import Derived.Test.YtaihjnonlnbhhaaRo
import Derived.Test.YtaihjnonlnbhhaaIdMath
import Derived.WalkKit
import Derived.Outline
import Derived.ProofKit
import Derived.LoopTactic
import Derived.Deep.LoopGhost
import Derived.Deep.RegionLaw
import Derived.Deep.CutBlock
import Derived.Deep.RegionWith
import Derived.Deep.DeepCutAuto
import Derived.Deep.DrawnRows
import Derived.Deep.QuietTactic
import Derived.WalkLawsBesides
set_option linter.unusedVariables false
namespace Go.Proofs.Ytaihjnonlnbhhaa.Idw
open Go.RowKit Hp IdM Ro
attribute [local go_sem ↓] Go.wp_at_zero Go.wp_at_succ
/-- One number's cell. -/
@[reducible] def uT : Rw.Ty Int where
  E := 30
  L := 23
  k := 1
  bz := 8
  enc := fun x => [.int .u64 x]
  z := .int .u64 0
  hL := Try.underlying23
  hI := by kernel_rfl
  hz := rfl
  hk := fun x => rfl
  h1 := fun x v hv => by
    simp only [List.mem_cons, List.not_mem_nil, or_false] at hv
    subst hv; rfl
  k0 := by decide
  hb := by decide
theorem uat {w : World} {g o cap : Nat} {cur : List Value} {l : List Int} (h : Lies uT w g o cap cur l) {i : Nat} {x : Int} (hi : l[i]? = some x) : w.cell? ⟨g, o + i, none⟩ = some (.int .u64 x) := by
  have := h.cell hi (j := 0) (u := .int .u64 x) rfl
  rwa [Nat.add_zero, Nat.mul_one] at this
theorem less_any (a b : Int) (r : Bool) (hr : decide (a < b) = r) (w : World) : Calls Try.prog 70 #[.int .u64 a, .int .u64 b] w fun e w' => e = .returned (.bool r) ∧ w = w' := by
  go_enter Try.func70, Try.ntmps70
  go_wp2
  go_ret
  exact ⟨rfl, rfl⟩
theorem nan_any (a : Int) (w : World) : Calls Try.prog 71 #[.int .u64 a] w fun e w' => e = .returned (.bool false) ∧ w = w' := by
  go_enter Try.func71, Try.ntmps71
  go_wp2
  go_ret
  exact ⟨rfl, rfl⟩
set_option maxHeartbeats 4000000 in
theorem search_lies {w : World} {g o cap : Nat} {cur : List Value} {l : List Int} (h : Lies uT w g o cap cur l) (ha : Asc l) (hl : l.length ≤ 1000000) (t : Int) :
    Calls Try.prog 53 #[.slice (some ⟨g, o, none⟩) l.length cap, .int .u64 t] w fun e w' => e = .returned (.tuple #[.int .i64 (place t l : Nat), .bool (has t l)]) ∧ w = w' := by
  have H := Lib.hid h
  have HA := Lib.hid ha
  have NN := Lib.hid fun w => nan_any t w
  clear h ha
  obtain ⟨P, hP⟩ : ∃ P, P = place t l := ⟨_, rfl⟩
  obtain ⟨hs, hhs⟩ : ∃ hs, hs = has t l := ⟨_, rfl⟩
  rw [← hP, ← hhs]
  have HP := Lib.hid hP
  have HS := Lib.hid hhs
  clear hP hhs
  obtain ⟨n, hn⟩ : ∃ n, l.length = n := ⟨_, rfl⟩
  have HN := Lib.hid hn
  rw [hn] at hl ⊢
  clear hn
  go_enter Try.func53, Try.ntmps53
  go_wp2_with fail
  go_loopg [7, 8] n (fun kx s7 s8 wr => ∃ (lo hi : Nat), s7 = .int .i64 (lo : Nat) ∧ s8 = .int .i64 (hi : Nat) ∧ lo ≤ hi ∧ hi ≤ n ∧ Hid (hi - lo ≤ kx) ∧ Hid (∀ i x, i < lo → l[i]? = some x → x < t) ∧ Hid (∀ i x, hi ≤ i → l[i]? = some x → t ≤ x) ∧ w = wr)
  case atStart => exact ⟨0, n, rfl, rfl, Nat.zero_le _, Nat.le_refl _, Lib.hid (by omega), Lib.hid (fun i x hi => by omega), Lib.hid (fun i x hi hx => by have := (List.getElem?_eq_some_iff.1 hx).1; have := HN.out; omega), rfl⟩
  case round =>
    obtain ⟨lo, hi, rfl, rfl, hle, hin, hm, h1, h2, rfl⟩ := hrel
    by_cases hlt : lo < hi
    · obtain ⟨x, hx⟩ : ∃ x, l[(lo + hi) / 2]? = some x := ⟨_, List.getElem?_eq_getElem (by rw [HN.out]; omega)⟩
      have q := uat H.out hx
      have e1 : ((lo : Int) + (hi : Int)) / 2 = (((lo + hi) / 2 : Nat) : Int) := by omega
      have HX := Lib.hid hx
      clear hx
      obtain ⟨md, hmd⟩ : ∃ md, (lo + hi) / 2 = md := ⟨_, rfl⟩
      have hmd1 : lo ≤ md := by omega
      have hmd2 : md < hi := by omega
      have hmd3 : md < n := by omega
      have HMD := Lib.hid hmd
      rw [hmd] at q e1 HX
      clear hmd
      by_cases hb : x < t
      · have LS := Lib.hid (less_any x t true (by simpa using hb) w)
        go_wp2_with fail
        with_reducible refine Calls.mono LS.out ?_
        rintro e w' ⟨rfl, rfl⟩
        go_wp2_with fail
        go_roundg (hi - (md + 1))
        case measure => have := hm.out; omega
        case rel =>
          refine ⟨md + 1, hi, by go_num, rfl, by omega, hin, Lib.hid (Nat.le_refl _), Lib.hid (fun i y hi' hy => ?_), h2, rfl⟩
          rcases Nat.lt_or_ge i md with h | h
          · have := HA.out.lt h hy HX.out; omega
          · obtain rfl : i = md := by omega
            have := Option.some.inj (hy.symm.trans HX.out); omega
      · have LS := Lib.hid (less_any x t false (by simpa using hb) w)
        go_wp2_with fail
        with_reducible refine Calls.mono LS.out ?_
        rintro e w' ⟨rfl, rfl⟩
        go_wp2_with fail
        go_roundg (md - lo)
        case measure => have := hm.out; omega
        case rel =>
          refine ⟨lo, md, rfl, rfl, by omega, by omega, Lib.hid (Nat.le_refl _), h1, Lib.hid (fun i y hi' hy => ?_), rfl⟩
          rcases Nat.lt_or_ge md i with h | h
          · have := HA.out.lt h HX.out hy; omega
          · obtain rfl : i = md := by omega
            have := Option.some.inj (hy.symm.trans HX.out); omega
    · obtain rfl : hi = lo := by omega
      have hp : P = hi := by
        rw [HP.out]
        exact (place_is HA.out (by rw [HN.out]; exact hin) h1.out (fun x hx => h2.out hi x (Nat.le_refl _) hx)).symm
      have HPH := Lib.hid hp
      have hh : hs = (l[hi]? == some t) := by rw [HS.out, ← hp, HP.out]; rfl
      by_cases hend : hi < n
      · obtain ⟨x, hx⟩ : ∃ x, l[hi]? = some x := ⟨_, List.getElem?_eq_getElem (by rw [HN.out]; omega)⟩
        have q := uat H.out hx
        rw [hx] at hh
        have NX := Lib.hid fun w => nan_any x w
        by_cases hb : x = t
        · have HH := Lib.hid (show hs = true by rw [hh, hb]; simp)
          subst hb
          clear hh hx hp
          go_wp2
          go_ret2
          exact ⟨by rw [HH.out, HPH.out]; rfl, rfl⟩
        · have HH := Lib.hid (show hs = false by rw [hh]; simpa using hb)
          have hb2 : (x == t) = false := by simpa using hb
          clear hh hx hp
          go_wp2
          go_ret2
          exact ⟨by rw [HH.out, HPH.out]; rfl, rfl⟩
      · have HH := Lib.hid (show hs = false by rw [hh, List.getElem?_eq_none_iff.2 (by rw [HN.out]; omega)]; rfl)
        clear hh hp
        go_wp2
        go_ret2
        exact ⟨by rw [HH.out, HPH.out]; rfl, rfl⟩
theorem search_nil (t : Int) (w : World) : Calls Try.prog 53 #[.slice none 0 0, .int .u64 t] w fun e w' => e = .returned (.tuple #[.int .i64 0, .bool false]) ∧ w = w' := by
  go_enter Try.func53, Try.ntmps53
  go_wp2_with fail
  go_loopg [7, 8] 0 (fun mm s7 s8 wr => s7 = .int .i64 0 ∧ s8 = .int .i64 0 ∧ w = wr)
  case atStart => exact ⟨rfl, rfl, rfl⟩
  case round =>
    obtain ⟨rfl, rfl, rfl⟩ := hrel
    go_wp2
    go_ret2
    exact ⟨rfl, rfl⟩
/-- A search by halves: where a number stands, or would; whether it does. -/
theorem search_eq {w : World} {v : Value} {l : List Int} (h : Row uT w v l) (ha : Asc l) (hl : l.length ≤ 1000000) (t : Int) :
    Calls Try.prog 53 #[v, .int .u64 t] w fun e w' => e = .returned (.tuple #[.int .i64 (place t l : Nat), .bool (has t l)]) ∧ w = w' := by
  rcases h with ⟨rfl, rfl⟩ | ⟨g, o, cap, cur, rfl, h2⟩
  · exact search_nil t w
  · exact search_lies h2 ha hl t
theorem search_any {w : World} {v : Value} {l : List Int} (h : Row uT w v l) (ha : Asc l) (hl : l.length ≤ 1000000) (t : Int) :
    Calls Try.prog 53 #[v, .int .u64 t] w fun e w' => e = .returned (.tuple #[.int .i64 (place t l : Nat), .bool (has t l)]) ∧ Kept (fun _ => False) w w' :=
  (search_eq h ha hl t).mono fun e w' ⟨h1, h2⟩ => ⟨h1, h2 ▸ Kept.refl _ w⟩
end Go.Proofs.Ytaihjnonlnbhhaa.Idw
