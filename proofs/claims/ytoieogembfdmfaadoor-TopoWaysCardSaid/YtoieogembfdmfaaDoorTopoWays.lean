/- TopoWays (mizzenlaw14): for every five ints the law returns true and its arguments read as before. Conditions: none beyond the model's. -/
import Derived.Test.YtoieogembfdmfaaDoorRows
import Derived.Test.YtoieogembfdmfaaDoorCards
import Derived.Test.YtoieogembfdmfaaDoorTie
import Derived.Test.YtoieogembfdmfaaDoorEnd
import Derived.Test.YtoieogembfdmfaaDoorInts
import Derived.WalkKit
import Derived.ProofKit
import Derived.OpenShut
import Derived.LaidMore
import Derived.Stop.Joined
import Derived.SevenTiedAt
import Derived.Test.YtoieogembfdmfaaDoorTpRow
set_option linter.unusedVariables false
namespace Go.Proofs.YtoieogembfdmfaaDoor.topoWays
open Go.ChangeShapes Go.WideShapes Go.ChangeAt Go.RowKit Go.Proofs.YtoieogembfdmfaaDoor.Hp Go.Proofs.YtoieogembfdmfaaDoor.End
open Go.RowKit Go.Proofs.YtoieogembfdmfaaDoor.Hp Go.Proofs.YtoieogembfdmfaaDoor.TpM Go.Proofs.YtoieogembfdmfaaDoor.Tp Go.Proofs.YtoieogembfdmfaaDoor.Rw Go.Proofs.YtoieogembfdmfaaDoor.End
theorem own : ownKnob Tryd.prog.godebug = none := by kernel_rfl
theorem door_met (os : Os) (args : Array Value) : laidMetH Tryd.prog [("math/bits.deBruijn32tab", Rows.laid_math_bits_deBruijn32tab), ("math/bits.deBruijn64tab", Rows.laid_math_bits_deBruijn64tab), ("internal/strconv.uint64pow10", Rows.laid_internal_strconv_uint64pow10)] ((World.doorLaid Tryd.prog 400 os).forCall (fun _ _ => 0) ⟨#[], args, []⟩).memory :=
  laidMetH_of_parts3 (fuel := 8) (laidMet_of_run' 8 (by kernel_rfl) (by kernel_rfl)) (by kernel_rfl) (by kernel_rfl)
set_option maxRecDepth 100000 in
set_option maxHeartbeats 8000000 in
theorem early (H S s d q : Int) (w : World) (h : ¬ Net H S) :
    Calls Tryd.prog 4 #[.int .i64 H, .int .i64 S, .int .i64 s, .int .i64 d, .int .i64 q] w fun e w' => e = .returned (.bool true) ∧ Old w w' := by
  have HC := Lib.hid fun w => awake_any w
  have h := net_no h
  rcases h with h0 | ⟨h0, h1⟩ | ⟨h0, h1, h2⟩ | ⟨h0, h1, h2, h3⟩
  all_goals
    go_enter Tryd.func4, Tryd.ntmps4
    go_wp2_with fail
    with_reducible refine Calls.mono (HC.out _) ?_
    rintro e w7 ⟨rfl, ho⟩
    have HO := Lib.hid ho
    clear ho
    go_wp2_with fail
    go_ret
    exact ⟨rfl, HO.out⟩
set_option maxRecDepth 100000 in
set_option maxHeartbeats 8000000 in
theorem late (H S s0 t0 s t q : Int) (w : World) (nn : Net H S) (S0 : Hid (∀ w, Calls Tryd.prog 21 #[.int .i64 s0, .int .i64 H] w fun e w' => e = .returned (.int .i64 s) ∧ w = w'))
    (T0 : Hid (∀ w, Calls Tryd.prog 21 #[.int .i64 t0, .int .i64 H] w fun e w' => e = .returned (.int .i64 t) ∧ w = w')) (hs : 0 ≤ s ∧ s < H) (ht : 0 ≤ t ∧ t < H) :
    Calls Tryd.prog 4 #[.int .i64 H, .int .i64 S, .int .i64 s0, .int .i64 t0, .int .i64 q] w fun e w' => e = .returned (.bool true) ∧ Old w w' := by
  have HC := Lib.hid fun w => awake_any w
  have NW := Lib.hid fun w => new_yes nn w
  have h0 := nn.h0
  have h2 := nn.s0
  have d0 : decide (H < 2) = false := by rw [decide_eq_false_iff_not]; omega
  have d1 : decide (8 < H) = false := by rw [decide_eq_false_iff_not]; have := nn.h1; omega
  have d2 : decide (S < 1) = false := by rw [decide_eq_false_iff_not]; have := nn.s0; omega
  have d3 : decide (4 < S) = false := by rw [decide_eq_false_iff_not]; have := nn.s1; omega
  by_cases hst : s = t
  · subst hst
    clear hs ht
    go_enter Tryd.func4, Tryd.ntmps4
    go_wp2_with fail
    with_reducible refine Calls.mono (NW.out _) ?_
    rintro e w2 ⟨b, rfl, hB, hK⟩
    have HO := Lib.hid hK
    clear hB hK NW
    go_wp2_with fail
    with_reducible refine Calls.mono (S0.out _) ?_
    rintro e w' ⟨rfl, rfl⟩
    go_wp2_with fail
    with_reducible refine Calls.mono (T0.out _) ?_
    rintro e w' ⟨rfl, rfl⟩
    go_wp2_with fail
    with_reducible refine Calls.mono (HC.out _) ?_
    rintro e w7 ⟨rfl, ho⟩
    have HO7 : Hid (Old w w7) := Lib.hid (HO.out.trans ho)
    clear ho
    go_wp2_with fail
    go_ret
    exact ⟨rfl, HO7.out⟩
  · have hst2 : (s == t) = false := by rw [beq_eq_false_iff_ne]; exact hst
    obtain ⟨P, hP⟩ : ∃ P : Nat, pts H S = (P : Int) := ⟨(pts H S).toNat, by have := mm_in nn; unfold pts; omega⟩
    have PT := Lib.hid fun w b (h : NV w b H S) => ports_any h nn
    rw [hP] at PT
    have UP := Lib.hid fun w b (h : NV w b H S) => up_yes h hs.1 hs.2
    have HQ := Lib.hid fun w b (h : NV w b H S) => hops_any h nn s t
    have NX := Lib.hid fun w b x (h : NV w b H S) => next_any h nn x t q
    have LS := Lib.hid fun w b (h : NV w b H S) => leaf_yes h nn hs.1 hs.2
    have LT := Lib.hid fun w b (h : NV w b H S) => leaf_yes h nn ht.1 ht.2
    have G := rt_goes nn (q := q) hs.1 hs.2 ht.1 ht.2
    have I := rt_in nn (q := q) hs.1 hs.2 ht.1 ht.2
    have E := rt_len nn (q := q) hs.1 hs.2 ht.1 ht.2
    have F0 : ∃ u, rt H S s t q = s :: u := by unfold rt; split <;> exact ⟨_, rfl⟩
    have LN : (s / 2 = t / 2 ∧ (rt H S s t q).length = 2) ∨ (¬ s / 2 = t / 2 ∧ (rt H S s t q).length = 4) := by
      unfold rt
      split
      · exact Or.inl ⟨by assumption, rfl⟩
      · exact Or.inr ⟨by assumption, rfl⟩
    generalize rt H S s t q = R at *
    obtain ⟨n, hn⟩ : ∃ n, R.length = n := ⟨_, rfl⟩
    rw [hn] at E LN
    rw [← E] at HQ
    have hn4 : n ≤ 4 := by rcases LN with h | h <;> omega
    have RG : Hid (∀ k < n, ∃ x, R[k]? = some x ∧ R.getD k (-1) = x ∧ nx H S x t q = (R.getD (k + 1) (-1), decide (k + 1 = n)) ∧ 0 ≤ x ∧ x < (P : Int)) := Lib.hid fun k hk => by
      have hk2 : k < R.length := by omega
      have e := List.getElem?_eq_getElem hk2
      have hi := I.1 _ (List.getElem_mem hk2)
      rw [hP] at hi
      refine ⟨_, e, by simp [List.getD, e], ?_, hi.1, hi.2⟩
      rw [← hn]
      exact goes_at G e
    have RU : Hid (∀ j k x y, j < k → R[j]? = some x → R[k]? = some y → x ≠ y) := Lib.hid fun j k x y hjk hj hk => pw_at I.2 hjk hj hk
    have RN : Hid (R.length = n) := Lib.hid hn
    have R0 : R.getD 0 (-1) = s := by obtain ⟨u, rfl⟩ := F0; rfl
    have RE : Hid (R.getD n (-1) = -1) := Lib.hid (by simp [List.getD, List.getElem?_eq_none (show R.length ≤ n by omega)])
    have LN := Lib.hid LN
    clear F0 E I G hP hn
    go_enter Tryd.func4, Tryd.ntmps4
    go_wp2_with fail
    with_reducible refine Calls.mono (NW.out _) ?_
    rintro e w2 ⟨b, rfl, hB, hK⟩
    have HT : Hid (TS w b H S w2) := Lib.hid ⟨hK, hB⟩
    clear hB hK NW
    go_wp2_with fail
    with_reducible refine Calls.mono (S0.out _) ?_
    rintro e w' ⟨rfl, rfl⟩
    go_wp2_with fail
    with_reducible refine Calls.mono (T0.out _) ?_
    rintro e w' ⟨rfl, rfl⟩
    go_wp2_with fail
    with_reducible refine Calls.mono (UP.out _ _ HT.out.net) ?_
    rintro e w' ⟨rfl, rfl⟩
    go_wp2_with fail
    clear h0 h2 d0 d1 d2 d3 hst hst2 hs ht S0 T0 UP
    go_loopg [13, 14, 15] n (fun kx s13 s14 s15 wr => ∃ (k : Nat) (v : Value), Hid (n - k ≤ kx) ∧ k ≤ n ∧ s13 = .int .i64 (R.getD k (-1)) ∧ s14 = v ∧ s15 = .int .i64 ((k : Int) + 1) ∧ Hid (Row nT wr w.heap.size v (R.take k)) ∧ Hid (∀ g, v.ownBlock = some g → g ≠ b) ∧ Hid (TS w b H S wr))
    case atStart => exact ⟨0, _, Lib.hid (by omega), by omega, by rw [R0], rfl, rfl, Lib.hid (Row.none nT _ _), Lib.hid (fun g h => by cases h), HT⟩
    case round =>
      clear HT R0
      obtain ⟨k, v, hm, hk, rfl, rfl, rfl, HR, HV, HT⟩ := hrel
      obtain ⟨a, c, rfl, hc, hcell⟩ := row_at HR.out
      have htk : (R.take k).length = k := by rw [List.length_take, RN.out]; omega
      rw [htk] at hc HV
      simp only [htk]
      have CE : Hid (∀ j x, j < k → R[j]? = some x → ∃ g, a = some ⟨g, 0, none⟩ ∧ wr.cell? ⟨g, j, none⟩ = some (.int .i64 x)) := Lib.hid fun j x hj hx => by
        obtain ⟨g, e1, e2⟩ := hcell j (by omega)
        refine ⟨g, e1, ?_⟩
        rw [e2, List.getElem_take]
        congr 2
        exact (List.getElem?_eq_some_iff.1 hx).2
      have HTK := Lib.hid htk
      have HQk := Lib.hid (HQ.out _ _ HT.out.net)
      clear hcell htk
      rcases Nat.lt_or_ge k n with hlt | hge
      · have hlt' : (k : Int) + 1 ≤ (n : Int) := by omega
        obtain ⟨x, hx, hx2, hnx, hx0, hxP⟩ := RG.out k hlt
        have hxl : ¬ x < 0 := by omega
        have hxd : decide ((P : Int) ≤ x) = false := by rw [decide_eq_false_iff_not]; omega
        have NXk := NX.out
        rw [hx2] at *
        have PTk := Lib.hid (PT.out _ _ HT.out.net)
        have HX := Lib.hid hx
        have HNX := Lib.hid hnx
        clear hx hnx hx0 NXk
        go_wp2_with fail
        with_reducible refine Calls.mono HQk.out ?_
        rintro e w' ⟨rfl, rfl⟩
        go_wp2_with fail
        with_reducible refine Calls.mono PTk.out ?_
        rintro e w3 ⟨rfl, m, rfl⟩
        have HT3 := Lib.hid (HT.out.drewN m)
        have HR3 : Hid (Row nT (wr.drewN m) w.heap.size (.slice a (R.take k).length c) (R.take k)) := Lib.hid (HR.out.old ((Kept.refl _ _).drewN m))
        rw [HTK.out] at HR3
        have CE3 : Hid (∀ j x, j < k → R[j]? = some x → ∃ g, a = some ⟨g, 0, none⟩ ∧ (wr.drewN m).cell? ⟨g, j, none⟩ = some (.int .i64 x)) := CE
        clear HT HR CE HQk PTk
        generalize wr.drewN m = w3 at *
        go_wp2_with fail
        clear hxl hxd hlt'
        go_loopg [16] k (fun kx s16 wr => ∃ j : Nat, Hid (k - j ≤ kx) ∧ j ≤ k ∧ s16 = .int .i64 (j : Nat) ∧ wr = w3)
        case atStart => exact ⟨0, Lib.hid (by omega), by omega, rfl, rfl⟩
        case round =>
          obtain ⟨j, hmj, hj, rfl, rfl⟩ := hrel
          rcases Nat.lt_or_ge j k with hjl | hjg
          · have hjl' : (j : Int) < (k : Int) := by omega
            obtain ⟨y, hy, _⟩ := RG.out j (by omega)
            obtain ⟨g, rfl, hcl⟩ := CE3.out j y hjl hy
            have hne : (y == x) = false := by rw [beq_eq_false_iff_ne]; exact RU.out j k y x hjl hy HX.out
            clear hy
            go_wp2_with fail
            go_roundg (k - (j + 1))
            case measure => have := hmj.out; omega
            case rel => exact ⟨j + 1, Lib.hid (Nat.le_refl _), by omega, by go_num, rfl⟩
          · have hjg' : ¬ ((j : Int) < (k : Int)) := by omega
            obtain rfl : j = k := by omega
            clear CE3 hjg
            go_upto_region 21 with fail
            clear hjg' hmj
            have hk5 := (Kept.refl (fun _ => False) wr).alloc (.cells [.int .i64 x].toArray 3)
            have HR5 := Lib.hid (HR3.out.old hk5)
            have HT5 := Lib.hid (HT3.out.next hk5)
            have HSR := Lib.hid (src_one (cap := 1) (Blk.new wr [.int .i64 x] 3))
            have HTL : Hid (R.take (j + 1) = R.take j ++ [x]) := Lib.hid (by
              obtain ⟨h1, h2⟩ := List.getElem?_eq_some_iff.1 HX.out
              rw [List.take_add_one, HX.out]; rfl)
            have hsz := HT3.out.old.size
            dsimp only [List.toArray] at hk5
            have hsz5 : w.heap.size ≤ (wr.alloc (.cells #[.int .i64 x] 3)).heap.size := Nat.le_trans hsz hk5.size
            clear hk5 HR3 HT3 hsz
            go_wp2_with (at_builtin; refine Rw.wpList_app nT rfl _ _ rfl w.heap.size (v := .slice a j c) rfl HR5.out rfl HSR.out (by rw [HTK.out]; simp; omega) hsz5 ?_; intro v' w6 hA)
            have hT6 : TS w b H S w6 := ⟨HT5.out.old.trans' hA.kept (fun i hi e => by have := (HR5.out.lt i e).1; omega), hA.kept.blk HT5.out.net (fun e => HV.out b e rfl)⟩
            have HV6 : Hid (∀ g, v'.ownBlock = some g → g ≠ b) := Lib.hid fun g hg e => by
              rcases hA.lies g hg with h | h
              · exact HV.out g h e
              · have := HT5.out.net.lt; omega
            have hR6 := hA.row
            rw [← HTL.out] at hR6
            have HR6 := Lib.hid hR6
            have HT6 := Lib.hid hT6
            have NXk := NX.out _ _ x HT6.out.net
            rw [HNX.out] at NXk
            have NXk := Lib.hid NXk
            clear hA hT6 hR6 HR5 HT5 HSR hsz5 HV HTK HTL
            by_cases hl : j + 1 = n
            · have hdt : decide (j + 1 = n) = true := decide_eq_true hl
              have hbt : ((j : Int) + 1 == (n : Int)) = true := by rw [beq_iff_eq]; omega
              rw [hdt] at NXk
              clear hdt hl
              go_wp2_with fail
              with_reducible refine Calls.mono NXk.out ?_
              rintro e w7 ⟨rfl, hk7⟩
              have HT7 := Lib.hid (HT6.out.next hk7)
              have HR7 := Lib.hid (HR6.out.old hk7)
              have HQ7 := Lib.hid (HQ.out _ _ HT7.out.net)
              clear hk7 HT6 HR6 NXk
              go_wp2_with fail
              with_reducible refine Calls.mono HQ7.out ?_
              rintro e w' ⟨rfl, rfl⟩
              go_wp2_with fail
              go_roundg (n - (j + 1))
              case measure => have := hm.out; omega
              case rel => exact ⟨j + 1, v', Lib.hid (Nat.le_refl _), hlt, rfl, rfl, by go_num, HR7, HV6, HT7⟩
            · have hdt : decide (j + 1 = n) = false := decide_eq_false hl
              have hbt : ((j : Int) + 1 == (n : Int)) = false := by rw [beq_eq_false_iff_ne]; omega
              rw [hdt] at NXk
              clear hdt hl
              go_wp2_with fail
              with_reducible refine Calls.mono NXk.out ?_
              rintro e w7 ⟨rfl, hk7⟩
              have HT7 := Lib.hid (HT6.out.next hk7)
              have HR7 := Lib.hid (HR6.out.old hk7)
              have HQ7 := Lib.hid (HQ.out _ _ HT7.out.net)
              clear hk7 HT6 HR6 NXk
              go_wp2_with fail
              with_reducible refine Calls.mono HQ7.out ?_
              rintro e w' ⟨rfl, rfl⟩
              go_wp2_with fail
              go_roundg (n - (j + 1))
              case measure => have := hm.out; omega
              case rel => exact ⟨j + 1, v', Lib.hid (Nat.le_refl _), hlt, rfl, rfl, by go_num, HR7, HV6, HT7⟩
      · have hge' : ¬ ((k : Int) + 1 ≤ (n : Int)) := by omega
        obtain rfl : k = n := by omega
        have re := RE.out
        rw [re]
        have HLS := LS.out _ _ HT.out.net
        have HLT := LT.out _ _ HT.out.net
        have hln := LN.out
        have HO := Lib.hid HT.out.old
        generalize s / 2 = u at *
        generalize t / 2 = u2 at *
        have HLS := Lib.hid HLS
        have HLT := Lib.hid HLT
        clear CE HR HV HT HTK hge hm re hc
        rcases hln with ⟨rfl, rfl⟩ | ⟨hne, rfl⟩
        · go_wp2_with fail
          with_reducible refine Calls.mono HQk.out ?_
          rintro e w' ⟨rfl, rfl⟩
          go_wp2_with fail
          with_reducible refine Calls.mono HQk.out ?_
          rintro e w' ⟨rfl, rfl⟩
          go_wp2_with fail
          with_reducible refine Calls.mono HLS.out ?_
          rintro e w' ⟨rfl, rfl⟩
          go_wp2_with fail
          with_reducible refine Calls.mono HLT.out ?_
          rintro e w' ⟨rfl, rfl⟩
          go_wp2_with fail
          with_reducible refine Calls.mono (HC.out _) ?_
          rintro e w7 ⟨rfl, ho⟩
          have HO7 : Hid (Old w w7) := Lib.hid (HO.out.trans ho)
          clear ho
          go_wp2_with fail
          go_ret
          exact ⟨rfl, HO7.out⟩
        · have hne2 : (u == u2) = false := by rw [beq_eq_false_iff_ne]; exact hne
          go_wp2_with fail
          with_reducible refine Calls.mono HQk.out ?_
          rintro e w' ⟨rfl, rfl⟩
          go_wp2_with fail
          with_reducible refine Calls.mono HQk.out ?_
          rintro e w' ⟨rfl, rfl⟩
          go_wp2_with fail
          with_reducible refine Calls.mono HLS.out ?_
          rintro e w' ⟨rfl, rfl⟩
          go_wp2_with fail
          with_reducible refine Calls.mono HLT.out ?_
          rintro e w' ⟨rfl, rfl⟩
          go_wp2_with fail
          with_reducible refine Calls.mono (HC.out _) ?_
          rintro e w7 ⟨rfl, ho⟩
          have HO7 : Hid (Old w w7) := Lib.hid (HO.out.trans ho)
          clear ho
          go_wp2_with fail
          go_ret
          exact ⟨rfl, HO7.out⟩
theorem walk (a0 a1 a2 a3 a4 : Int) (w : World) (w0 : (Lit.int .i64 a0).wf = true) (w1 : (Lit.int .i64 a1).wf = true) (w2 : (Lit.int .i64 a2).wf = true) (w3 : (Lit.int .i64 a3).wf = true) (w4 : (Lit.int .i64 a4).wf = true) :
    Calls Tryd.prog 4 #[.int .i64 a0, .int .i64 a1, .int .i64 a2, .int .i64 a3, .int .i64 a4] w fun e w' => e = .returned (.bool true) ∧ Old w w' := by
  by_cases h : Net a0 a1
  · have r2 := bounds_i64 w2
    have r3 := bounds_i64 w3
    have h0 := h.h0
    have h1 := h.h1
    exact late a0 a1 a2 a3 _ _ a4 w h (Lib.hid fun w => Rnd.round_pos (by omega) (by omega) r2.1 r2.2 w) (Lib.hid fun w => Rnd.round_pos (by omega) (by omega) r3.1 r3.2 w)
      ⟨Int.emod_nonneg _ (by omega), Int.emod_lt_of_pos _ (by omega)⟩ ⟨Int.emod_nonneg _ (by omega), Int.emod_lt_of_pos _ (by omega)⟩
  · exact early a0 a1 a2 a3 a4 w h
set_option maxRecDepth 100000 in
set_option maxHeartbeats 1000000 in
theorem lifted (os : Os) (started : os.Started) (H : Type) (enc : TypeId × Value → H) :
    ReturnsInHanded {} Tryd.checked os 4 .any (fun w args => (Rows.topoWaysSpec.pre enc Tryd.prog Tryd.f4 [] false w args ∧ laidMetH Tryd.prog [("math/bits.deBruijn32tab", Rows.laid_math_bits_deBruijn32tab), ("math/bits.deBruijn64tab", Rows.laid_math_bits_deBruijn64tab), ("internal/strconv.uint64pow10", Rows.laid_internal_strconv_uint64pow10)] w) ∧ sizedMet enc Tryd.prog Tryd.f4 (OpenSpec.ofChange Rows.topoWaysSpec) false w args)
      (Rows.topoWaysSpec.post enc Tryd.prog Tryd.f4 false true false false) := by
  refine returnsInHanded_of_change_and (C := Tryd.checked) (X := fun w _ => laidMetH Tryd.prog [("math/bits.deBruijn32tab", Rows.laid_math_bits_deBruijn32tab), ("math/bits.deBruijn64tab", Rows.laid_math_bits_deBruijn64tab), ("internal/strconv.uint64pow10", Rows.laid_internal_strconv_uint64pow10)] w) (fun _ _ _ hh h => h.of_heap hh) own started (by kernel_rfl) Tryd.func4
    (ChangeSpec.witness_shaped (enc := enc) (C := Tryd.checked) (os := os) (X := fun w _ => laidMetH Tryd.prog [("math/bits.deBruijn32tab", Rows.laid_math_bits_deBruijn32tab), ("math/bits.deBruijn64tab", Rows.laid_math_bits_deBruijn64tab), ("internal/strconv.uint64pow10", Rows.laid_internal_strconv_uint64pow10)] w) false (World.doorLaid Tryd.prog 400 os) #[.int .i64 0, .int .i64 0, .int .i64 0, .int .i64 0, .int .i64 0] 8 rfl (World.shaped_of_RefB (by kernel_rfl) (by kernel_rfl)) (by kernel_rfl) (by kernel_rfl) (by kernel_rfl) (door_met os _)) ?_
  intro W base args ds gs before hval0 hW _ _ hL _
  have hval : ∀ (j : Nat) t v, Tryd.f4.params[j]? = some t → args[j]? = some v → Value.okWide Tryd.prog W .any base t v := hval0
  have hW' := hW
  obtain ⟨p, q, hA0, hV, rfl, hfz, hnd⟩ := hW
  have hA : DataW.TrodAll enc Tryd.prog W 0 (fun _ => true) true Tryd.f4.params.toList args.toList ds p := hA0
  rw [Tryd.params4] at hA hval
  obtain ⟨v0, vs0, d0, ds0, p0, q0, hargs, rfl, rfl, h0, r0⟩ := trodAll_cons hA
  obtain ⟨v1, vs1, d1, ds1, p1, q1, rfl, rfl, rfl, h1, r1⟩ := trodAll_cons r0
  obtain ⟨v2, vs2, d2, ds2, p2, q2, rfl, rfl, rfl, h2, r2⟩ := trodAll_cons r1
  obtain ⟨v3, vs3, d3, ds3, p3, q3, rfl, rfl, rfl, h3, r3⟩ := trodAll_cons r2
  obtain ⟨v4, vs4, d4, ds4, p4, q4, rfl, rfl, rfl, h4, r4⟩ := trodAll_cons r3
  obtain ⟨rfl, rfl, rfl⟩ := trodAll_nil r4
  obtain rfl : args = #[v0, v1, v2, v3, v4] := by cases args; simp_all
  obtain ⟨rfl, rfl⟩ := trodVars_none hV
  obtain ⟨a0, rfl, rfl, rfl, w0⟩ := open_int Tryd.underlying3 (hval 0 3 v0 rfl rfl) h0
  obtain ⟨a1, rfl, rfl, rfl, w1⟩ := open_int Tryd.underlying3 (hval 1 3 v1 rfl rfl) h1
  obtain ⟨a2, rfl, rfl, rfl, w2⟩ := open_int Tryd.underlying3 (hval 2 3 v2 rfl rfl) h2
  obtain ⟨a3, rfl, rfl, rfl, w3⟩ := open_int Tryd.underlying3 (hval 3 3 v3 rfl rfl) h3
  obtain ⟨a4, rfl, rfl, rfl, w4⟩ := open_int Tryd.underlying3 (hval 4 3 v4 rfl rfl) h4
  clear hA0 hval0
  simp only [List.append_nil] at hW'
  refine (walk a0 a1 a2 a3 a4 W w0 w1 w2 w3 w4).mono fun e W' ⟨he, hg⟩ => ?_
  subst he
  exact ⟨_, rfl, post_of_old (pa := []) (pv := []) hW' (fun _ _ _ => (trodAll_cons_mk (shut_bool Tryd.underlying4 _) trodAll_mk0)) (fun sp _ => (trodAll_cons_mk (shut_int Tryd.underlying3 w0) (trodAll_cons_mk (shut_int Tryd.underlying3 w1) (trodAll_cons_mk (shut_int Tryd.underlying3 w2) (trodAll_cons_mk (shut_int Tryd.underlying3 w3) (trodAll_cons_mk (shut_int Tryd.underlying3 w4) trodAll_mk0)))))) (fun _ _ => rfl)
    hg (ok_one (by kernel_rfl) rfl (okWide_bool_mk Tryd.underlying4 _))⟩
theorem over : Rows.topoWaysRow.holds Tryd.pinned (OpenSpec.ofChange Rows.topoWaysSpec) :=
  OpenClaim.holds_of_wide 4 Tryd.f4 rfl rfl rfl rfl rfl rfl rfl ⟨rfl, rfl, rfl, rfl, rfl⟩ rfl rfl rfl rfl rfl (by kernel_rfl) Tryd.func4 (by kernel_rfl)
    (of_decide_eq_true (by kernel_rfl)) (by unfold Func.isWrapper; first | (rw [if_pos (by decide +kernel)]; kernel_rfl) | (rw [if_neg (by decide +kernel)]; exact ⟨rfl, rfl⟩))
    (fun os started H enc _ => lifted os started H enc)
theorem proved : Rows.TopoWaysCardSaid :=
  Claim7.holds_tied_plain_at .later [] [.data, .data, .data] true (true, "7eb1777d289c64592c5581a2270a069ca86e4ee1d4162cebb9db670126b60041") false
    over (fun _ h => by cases h) (by kernel_rfl) (fun _ h => by cases h) topoWays_row_tie rfl ⟨rfl, rfl⟩ (by kernel_rfl) rfl
    (fun f fn hf hfn => by
      obtain rfl : f = 4 := Option.some.inj ((show Tryd.prog.funcNamed "mizzen/mizzenlaw14.TopoWays" = some 4 by kernel_rfl).symm.trans hf) |>.symm
      obtain rfl : fn = Tryd.f4 := (Option.some.inj (Tryd.func4.symm.trans hfn)).symm
      exact ⟨by kernel_rfl, fun j t ht => by
        rw [Tryd.params4] at ht
        have hm : t ∈ [3, 3, 3, 3, 3] := by simpa using Array.mem_of_getElem? ht
        have hall : ([3, 3, 3, 3, 3].all fun u => !Tryd.prog.wantsStandIn u) = true := by kernel_rfl
        exact (show Tryd.prog.wantsStandIn t = false by simpa using List.all_eq_true.1 hall t hm)⟩)
    (by kernel_rfl)
#print axioms proved
end Go.Proofs.YtoieogembfdmfaaDoor.topoWays
