/- How many cuts a size is above: the library's search by halves; a size's prio. Conditions: each theorem's own. -/
import Derived.Test.YtkggnbibjcogeaaCoCut
set_option linter.unusedVariables false
namespace Go.Proofs.Ytkggnbibjcogeaa.Co
open Go.RowKit Hp CoM CoS NumM NumC Ro
attribute [local go_sem ↓] Go.wp_at_zero Go.wp_at_succ
theorem nat_at {w : World} {g o cap : Nat} {cur : List Value} {l : List Int} (h : Lies nT w g o cap cur l) {i : Nat} {x : Int} (hi : l[i]? = some x) : w.cell? ⟨g, o + i, none⟩ = some (.int .i64 x) := by
  have := h.cell hi (j := 0) (u := .int .i64 x) rfl
  rwa [Nat.add_zero, Nat.mul_one] at this
theorem up_at {l : List Int} (h : Up l) {i j : Nat} {x y : Int} (hij : i < j) (hx : l[i]? = some x) (hy : l[j]? = some y) : x ≤ y := by
  obtain ⟨hi, rfl⟩ := List.getElem?_eq_some_iff.1 hx
  obtain ⟨hj, rfl⟩ := List.getElem?_eq_some_iff.1 hy
  exact List.pairwise_iff_getElem.1 h i j hi hj hij
def has (t : Int) (l : List Int) : Bool := l[below t l]? == some t
theorem less_any (a b : Int) (r : Bool) (hr : decide (a < b) = r) (w : World) : Calls Try.prog 66 #[.int .i64 a, .int .i64 b] w fun e w' => e = .returned (.bool r) ∧ w = w' := by
  go_enter Try.func66, Try.ntmps66
  go_wp2
  go_ret
  exact ⟨rfl, rfl⟩
theorem nan_any (a : Int) (w : World) : Calls Try.prog 67 #[.int .i64 a] w fun e w' => e = .returned (.bool false) ∧ w = w' := by
  go_enter Try.func67, Try.ntmps67
  go_wp2
  go_ret
  exact ⟨rfl, rfl⟩
set_option maxHeartbeats 4000000 in
theorem search_lies {w : World} {g o cap : Nat} {cur : List Value} {l : List Int} (h : Lies nT w g o cap cur l) (ha : Up l) (hl : l.length ≤ 1000000) (t : Int) :
    Calls Try.prog 39 #[.slice (some ⟨g, o, none⟩) l.length cap, .int .i64 t] w fun e w' => e = .returned (.tuple #[.int .i64 (below t l : Nat), .bool (has t l)]) ∧ w = w' := by
  have H := Lib.hid h
  have HA := Lib.hid ha
  have NN := Lib.hid fun w => nan_any t w
  clear h ha
  obtain ⟨P, hP⟩ : ∃ P, P = below t l := ⟨_, rfl⟩
  obtain ⟨hs, hhs⟩ : ∃ hs, hs = has t l := ⟨_, rfl⟩
  rw [← hP, ← hhs]
  have HP := Lib.hid hP
  have HS := Lib.hid hhs
  clear hP hhs
  obtain ⟨n, hn⟩ : ∃ n, l.length = n := ⟨_, rfl⟩
  have HN := Lib.hid hn
  rw [hn] at hl ⊢
  clear hn
  go_enter Try.func39, Try.ntmps39
  go_wp2_with fail
  go_loopg [7, 8] n (fun kx s7 s8 wr => ∃ (lo hi : Nat), s7 = .int .i64 (lo : Nat) ∧ s8 = .int .i64 (hi : Nat) ∧ lo ≤ hi ∧ hi ≤ n ∧ Hid (hi - lo ≤ kx) ∧ Hid (∀ i x, i < lo → l[i]? = some x → x < t) ∧ Hid (∀ i x, hi ≤ i → l[i]? = some x → t ≤ x) ∧ w = wr)
  case atStart => exact ⟨0, n, rfl, rfl, Nat.zero_le _, Nat.le_refl _, Lib.hid (by omega), Lib.hid (fun i x hi => by omega), Lib.hid (fun i x hi hx => by have := (List.getElem?_eq_some_iff.1 hx).1; have := HN.out; omega), rfl⟩
  case round =>
    obtain ⟨lo, hi, rfl, rfl, hle, hin, hm, h1, h2, rfl⟩ := hrel
    by_cases hlt : lo < hi
    · obtain ⟨x, hx⟩ : ∃ x, l[(lo + hi) / 2]? = some x := ⟨_, List.getElem?_eq_getElem (by rw [HN.out]; omega)⟩
      have q := nat_at H.out hx
      have e1 : ((lo : Int) + (hi : Int)) / 2 = (((lo + hi) / 2 : Nat) : Int) := by omega
      have HX := Lib.hid hx
      clear hx
      obtain ⟨md, hmd⟩ : ∃ md, (lo + hi) / 2 = md := ⟨_, rfl⟩
      have hmd1 : lo ≤ md := by omega
      have hmd2 : md < hi := by omega
      have hmd3 : md < n := by omega
      have HMD := Lib.hid hmd
      rw [hmd] at q e1 HX
      clear hmd
      by_cases hb : x < t
      · have LS := Lib.hid (less_any x t true (by simpa using hb) w)
        go_wp2_with fail
        with_reducible refine Calls.mono LS.out ?_
        rintro e w' ⟨rfl, rfl⟩
        go_wp2_with fail
        go_roundg (hi - (md + 1))
        case measure => have := hm.out; omega
        case rel =>
          refine ⟨md + 1, hi, by go_num, rfl, by omega, hin, Lib.hid (Nat.le_refl _), Lib.hid (fun i y hi' hy => ?_), h2, rfl⟩
          rcases Nat.lt_or_ge i md with h | h
          · have := up_at HA.out h hy HX.out; omega
          · obtain rfl : i = md := by omega
            have := Option.some.inj (hy.symm.trans HX.out); omega
      · have LS := Lib.hid (less_any x t false (by simpa using hb) w)
        go_wp2_with fail
        with_reducible refine Calls.mono LS.out ?_
        rintro e w' ⟨rfl, rfl⟩
        go_wp2_with fail
        go_roundg (md - lo)
        case measure => have := hm.out; omega
        case rel =>
          refine ⟨lo, md, rfl, rfl, by omega, by omega, Lib.hid (Nat.le_refl _), h1, Lib.hid (fun i y hi' hy => ?_), rfl⟩
          rcases Nat.lt_or_ge md i with h | h
          · have := up_at HA.out h HX.out hy; omega
          · obtain rfl : i = md := by omega
            have := Option.some.inj (hy.symm.trans HX.out); omega
    · obtain rfl : hi = lo := by omega
      have hp : P = hi := by
        rw [HP.out]
        exact (below_is (by rw [HN.out]; exact hin) h1.out h2.out).symm
      have HPH := Lib.hid hp
      have hh : hs = (l[hi]? == some t) := by rw [HS.out, ← hp, HP.out]; rfl
      by_cases hend : hi < n
      · obtain ⟨x, hx⟩ : ∃ x, l[hi]? = some x := ⟨_, List.getElem?_eq_getElem (by rw [HN.out]; omega)⟩
        have q := nat_at H.out hx
        rw [hx] at hh
        have NX := Lib.hid fun w => nan_any x w
        by_cases hb : x = t
        · have HH := Lib.hid (show hs = true by rw [hh, hb]; simp)
          subst hb
          clear hh hx hp
          go_wp2
          go_ret2
          exact ⟨by rw [HH.out, HPH.out]; rfl, rfl⟩
        · have HH := Lib.hid (show hs = false by rw [hh]; simpa using hb)
          have hb2 : (x == t) = false := by simpa using hb
          clear hh hx hp
          go_wp2
          go_ret2
          exact ⟨by rw [HH.out, HPH.out]; rfl, rfl⟩
      · have HH := Lib.hid (show hs = false by rw [hh, List.getElem?_eq_none_iff.2 (by rw [HN.out]; omega)]; rfl)
        clear hh hp
        go_wp2
        go_ret2
        exact ⟨by rw [HH.out, HPH.out]; rfl, rfl⟩
theorem search_nil (t : Int) (w : World) : Calls Try.prog 39 #[.slice none 0 0, .int .i64 t] w fun e w' => e = .returned (.tuple #[.int .i64 0, .bool false]) ∧ w = w' := by
  go_enter Try.func39, Try.ntmps39
  go_wp2_with fail
  go_loopg [7, 8] 0 (fun mm s7 s8 wr => s7 = .int .i64 0 ∧ s8 = .int .i64 0 ∧ w = wr)
  case atStart => exact ⟨rfl, rfl, rfl⟩
  case round =>
    obtain ⟨rfl, rfl, rfl⟩ := hrel
    go_wp2
    go_ret2
    exact ⟨rfl, rfl⟩
/-- Where a number stands, or would. -/
theorem search_any {w : World} {v : Value} {l : List Int} (h : Row nT w v l) (ha : Up l) (hl : l.length ≤ 1000000) (t : Int) :
    Calls Try.prog 39 #[v, .int .i64 t] w fun e w' => e = .returned (.tuple #[.int .i64 (below t l : Nat), .bool (has t l)]) ∧ w = w' := by
  rcases h with ⟨rfl, rfl⟩ | ⟨g, o, cap, cur, rfl, h2⟩
  · exact search_nil t w
  · exact search_lies h2 ha hl t
theorem prio_nil (size window : Int) (w : World) : Calls Try.prog 14 #[.pointer none, .int .i64 size, .int .i64 window] w fun e w' => e = .returned (.int .i64 0) ∧ w = w' := by
  have MD := Lib.hid (made_nil w)
  go_enter Try.func14, Try.ntmps14
  go_wp2_with fail
  with_reducible refine Calls.mono MD.out ?_
  rintro e w' ⟨rfl, rfl⟩
  go_wp2_with fail
  go_ret
  exact ⟨rfl, rfl⟩
theorem cuts_nilm (window : Int) (w : World) : Calls Try.prog 12 #[.pointer none, .int .i64 window] w fun e w' => e = .returned (.slice none 0 0) ∧ w = w' := by
  have MD := Lib.hid (made_nil w)
  go_enter Try.func12, Try.ntmps12
  go_wp2_with fail
  with_reducible refine Calls.mono MD.out ?_
  rintro e w' ⟨rfl, rfl⟩
  go_wp2_with fail
  go_ret
  exact ⟨rfl, rfl⟩
/-- The cuts of what is kept. -/
def cutsM (L : Nat) (l : List Int) (window : Int) : List Int := cuts L (cl window) (srt l)
theorem cutsM_up {L : Nat} {l : List Int} {window : Int} (h0 : 1 ≤ L) (hb : ∀ y ∈ l, 0 ≤ y ∧ y ≤ 1073741824) : Up (cutsM L l window) := cuts_up h0 (cl_bd _).1 (srt_up l) (srt_bd hb)
theorem cutsM_len (L : Nat) (l : List Int) (window : Int) : (cutsM L l window).length = L - 1 := cuts_len ..
theorem prio_any {w : World} {b L M : Nat} {l : List Int} {v : Value} (h : MtV w b L M l v) (size window : Int) :
    Calls Try.prog 14 #[.pointer (some ⟨b, 0, none⟩), .int .i64 size, .int .i64 window] w fun e w' => e = .returned (.int .i64 (7 - (below size (cutsM L l window) : Nat))) ∧ Kept (fun _ => False) w w' := by
  have MD := Lib.hid (made_yes h)
  have CU := Lib.hid (cuts_any h window)
  have hup := cutsM_up (window := window) h.l0 h.bd
  have hlen := cutsM_len L l window
  have hl1 := h.l1
  have SE := Lib.hid fun (w' : World) (v' : Value) (hR : Row nT w' v' (cuts L (cl window) (srt l))) => search_any hR hup (by have := hlen; unfold cutsM at this; omega) size
  have hle := below_le size (cutsM L l window)
  rw [hlen] at hle
  clear h hup hlen
  change Hid (∀ (w' : World) (v' : Value), Row nT w' v' (cuts L (cl window) (srt l)) → Calls _ _ _ _ fun e w'' => e = Ending.returned (Value.tuple #[.int .i64 (below size (cutsM L l window) : Nat), .bool (has size (cutsM L l window))]) ∧ w' = w'') at SE
  obtain ⟨p, hp⟩ : ∃ p, below size (cutsM L l window) = p := ⟨_, rfl⟩
  obtain ⟨f, hf⟩ : ∃ f, has size (cutsM L l window) = f := ⟨_, rfl⟩
  rw [hp, hf] at SE
  rw [hp] at hle ⊢
  clear hp hf
  go_enter Try.func14, Try.ntmps14
  go_wp2_with fail
  with_reducible refine Calls.mono MD.out ?_
  rintro e w' ⟨rfl, rfl⟩
  go_wp2_with fail
  with_reducible refine Calls.mono CU.out ?_
  rintro e w1 ⟨v', rfl, hR, hk⟩
  have S1 := Lib.hid (SE.out w1 v' (of_rw hR))
  have HK := Lib.hid hk
  clear hR hk SE
  go_wp2_with fail
  with_reducible refine Calls.mono S1.out ?_
  rintro e w2 ⟨rfl, rfl⟩
  go_wp2_with fail
  go_ret
  exact ⟨rfl, HK.out⟩
end Go.Proofs.Ytkggnbibjcogeaa.Co
