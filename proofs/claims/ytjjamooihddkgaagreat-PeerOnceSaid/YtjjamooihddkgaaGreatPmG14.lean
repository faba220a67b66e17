/- Receivers: Data of a piece of a message that is known or comes to be. Conditions: each theorem's own. -/
import Derived.Test.YtjjamooihddkgaaGreatPmG13
import Derived.Test.YtjjamooihddkgaaGreatPmG6
set_option linter.unusedVariables false
set_option linter.unusedSimpArgs false
namespace Go.Proofs.YtjjamooihddkgaaGreat.Pr
open Go.RowKit Hp TbM TbN Po Ph
open Pl (Ms Ch En)
open Rm (BufA Agree)
open Idw (WnV)
open IdM (ins)
attribute [local go_sem ↓] Go.wp_at_zero Go.wp_at_succ
variable {w w' w1 w2 : World} {base : Nat} {O O' O1 O2 : Nat → Nat} {b s tb most mx : Nat} {K R : List (Ky × Nat)} {I I' : Nat → List Int} {vs vs' : List Value} {ws : List Nat} {W : Nat → Int × List Int} {L : List (Nat × Ms)} {Q : Nat → List UInt8} {B : Nat → Bf} {A : Nat → Prop}
/-- What nobody owned nobody owns. -/
theorem zero_of {rb : Nat} (f : Fr A w O w' O') (hlt : rb < w.heap.size) (h0 : O rb = 0) : O' rb = 0 := by
  rcases Nat.eq_zero_or_pos (O' rb) with e | e
  · exact e
  · exfalso
    rcases f.owned (k := rb) (by omega) with e2 | e2
    · exact e2 h0
    · omega
/-- What Data leaves of one whose bytes are wanted still, or whole. -/
def DataG (X : Nat → List (Ky × Nat) → (Nat → List Int) → (Nat → Bf) → Prop) (base : Nat) (w : World) (O : Nat → Nat) (b s tb most mx : Nat) (ws : List Nat) (W : Nat → Int × List Int) (L : List (Nat × Ms)) (Q : Nat → List UInt8) (i : Nat) (id : Int) (T : List UInt8) (off m : Nat) (e : Ending) (w' : World) : Prop :=
  ∃ u O' K1 I1 B1 l2 D2, X u K1 I1 B1 ∧ (((i : Int), id), u) ∈ K1 ∧ Agree l2 D2 T ∧ (∀ x, IvM.Has l2 x ↔ IvM.Has (B1 u).l x ∨ ((off : Int) ≤ x ∧ x < (off : Int) + (m : Nat))) ∧ Fr (fun j => j ≠ 0) w O w' O' ∧
    (((∃ x : Int, 0 ≤ x ∧ x < (T.length : Nat) ∧ ¬ IvM.Has l2 x) ∧ e = .returned (.tuple #[.int .i64 (RmM.fr (B1 u).l off ((off : Int) + (m : Nat))), .bool false, .int .i64 0]) ∧
        ∃ vs', Rc w' base O' b s tb most mx K1 I1 vs' ws W L Q (fun j => if j = u then ⟨T.length, l2, D2⟩ else B1 j)) ∨
     ((∀ x : Int, 0 ≤ x → x < (T.length : Nat) → IvM.Has l2 x) ∧ e = .returned (.tuple #[.int .i64 (RmM.fr (B1 u).l off ((off : Int) + (m : Nat))), .bool true, .int .i64 0]) ∧
        ∃ R Y Z g a c vs' B', K1.Perm ((((i : Int), id), u) :: R) ∧ I1 i = Y ++ id :: Z ∧ (∀ j, j ≠ u → B' j = B1 j) ∧
          Rc w' base O' b s tb most mx R (fun j => if j = i then Y ++ Z else I1 j) vs' ws (fun j => if j = i then (IdM.done most (W i).1 (W i).2 id).2 else W j) (L ++ [(g, ⟨(i : Int), id, a, T.length, c⟩)]) (fun j => if j = g then T else Q j) B'))
set_option maxHeartbeats 16000000 in
set_option maxRecDepth 100000 in
theorem data_any (h : Rc w base O b s tb most mx K I vs ws W L Q B) {i : Nat} (hi : i < 8) {id : Int} (hid : 1 ≤ id ∧ id ≤ 1152921504606846976) {T : List UInt8} {v : Value} {off m : Nat} (hp : Piece w O v T off m) (hT : T.length ≤ mx) (hE : IdM.isE (W i).1 (W i).2 id = false) (hL : L.length ≤ 100000)
    (X : Nat → List (Ky × Nat) → (Nat → List Int) → (Nat → Bf) → Prop)
    (hbuf : ∀ w1, Kept (fun _ => False) w w1 → Calls Tryz.prog 57 #[ptr b, TbP.ky ((i : Int), id), .int .i64 (T.length : Nat)] w1 fun e w2 => ∃ u O2 K2 I2 vs2 B2, e = .returned (.tuple #[ptr u, .int .i64 0]) ∧ X u K2 I2 B2 ∧ (((i : Int), id), u) ∈ K2 ∧
      (B2 u).n = T.length ∧ Agree (B2 u).l (B2 u).D T ∧ Rc w2 base O2 b s tb most mx K2 I2 vs2 ws W L Q B2 ∧ Fr (fun j => j ≠ 0) w1 O w2 O2) :
    Calls Tryz.prog 28 #[ptr b, .int .i64 (i : Int), .int .u64 id, .int .i64 (T.length : Nat), .int .i64 (off : Int), v] w (DataG X base w O b s tb most mx ws W L Q i id T off m) := by
  obtain ⟨wb, hwb⟩ := h.wb hi
  obtain ⟨wv, wa, hW, _, _⟩ := h.win i wb hwb
  have hle := hp.le
  have hmx := h.mx1
  have IH := Lib.hid fun w => isHost_any (i : Int) true (by simp; omega) w
  have MD := Lib.hid (made_any h)
  have IE := Idw.is_eq hW id
  rw [hE] at IE
  have IE := Lib.hid IE
  have c1 := h.cell (j := 1) rfl
  have c3 := h.cw hwb
  have hO0 := h.free
  have g1 : (0 : Int) ≤ (i : Int) := by omega
  have g2 : (i : Int) < 8 := by omega
  have g3 : decide (id < 1) = false := by rw [decide_eq_false_iff_not]; omega
  have g4 : decide ((1152921504606846976 : Int) < id) = false := by rw [decide_eq_false_iff_not]; omega
  have g5 : decide (((T.length : Nat) : Int) < 0) = false := by rw [decide_eq_false_iff_not]; omega
  have g6 : decide (((off : Nat) : Int) < 0) = false := by rw [decide_eq_false_iff_not]; omega
  have g7 : IntKind.i64.wrap (((T.length : Nat) : Int) - (off : Int)) = ((T.length : Nat) : Int) - (off : Int) := by rw [IntKind.wrap_i64]; omega
  have g8 : decide (((T.length : Nat) : Int) - (off : Int) < ((m : Nat) : Int)) = false := by rw [decide_eq_false_iff_not]; omega
  have g9 : ¬ (mx < T.length) := by omega
  have g10 : ¬ (((mx : Nat) : Int) < ((T.length : Nat) : Int)) := by omega
  obtain ⟨va, vc, hv⟩ := hp.slice
  have H := Lib.hid h
  have HP := Lib.hid hp
  have BF := Lib.hid hbuf
  unfold DataG
  clear h hp hbuf hW hE
  obtain ⟨n, hn⟩ : ∃ n, T.length = n := ⟨_, rfl⟩
  have HN := Lib.hid hn
  rw [hn] at g5 g7 g8 g9 g10 hle BF
  rw [hn]
  subst hv
  clear hn hT
  go_enter Tryz.func28, Tryz.ntmps28
  go_wp2_with fail
  with_reducible refine Calls.mono (IH.out _) ?_
  rintro e w1 ⟨rfl, rfl⟩
  go_wp2_with fail
  with_reducible refine Calls.mono MD.out ?_
  rintro e w1 ⟨rfl, rfl⟩
  go_wp2_with fail
  with_reducible refine Calls.mono IE.out ?_
  rintro e w1 ⟨rfl, rfl⟩
  go_upto_region 10 with fail
  have hR := Blk.new w [.int .i64 (i : Int), .int .u64 id] 95
  have hk := (Kept.refl (fun _ => False) w).alloc (.cells [.int .i64 (i : Int), .int .u64 id].toArray 95)
  dsimp only [List.toArray] at hR hk
  have c0 := hR.cell (o := 0) rfl
  have c1 := hR.cell (o := 1) rfl
  have HR := Lib.hid hR
  have HK := Lib.hid hk
  clear hR hk c3 IH MD IE
  generalize w.alloc (.cells #[.int .i64 (i : Int), .int .u64 id] 95) = w1 at *
  obtain ⟨rb, hrb⟩ : ∃ rb, w.heap.size = rb := ⟨_, rfl⟩
  rw [hrb] at c0 c1 HR hO0 ⊢
  have HO := Lib.hid hO0
  have HP1 := Lib.hid (HP.out.step (O' := O) (Fr.old (A := fun j => j ≠ 0) HK.out))
  clear hrb hO0 HP
  have B1 := Lib.hid (BF.out w1 HK.out)
  clear BF
  go_wp2_with fail
  with_reducible refine Calls.mono B1.out ?_
  rintro e w2 ⟨u, O2, K2, I2, vs2, B2, rfl, hX, hu, hn2, ha2, h2, f2⟩
  have hP2 := HP1.out.step f2
  have hR2 := f2.blk' HR.out (by rw [HO.out]; omega)
  have ho2 := zero_of f2 HR.out.lt HO.out
  have PT := Lib.hid (show Calls Tryz.prog 58 #[ptr u, .int .i64 (off : Int), .slice va m vc] w2 (fun e w' => ∃ F' l2 D2, e = .returned (.tuple #[.int .i64 (RmM.fr (B2 u).l off ((off : Int) + (m : Nat))), .int .i64 0]) ∧ BufA w' base F' u (B2 u).n l2 D2 ∧ (∀ k, F' k → O2 k = 21 + u ∨ (w2.heap.size ≤ k ∧ k < w'.heap.size)) ∧ Agree l2 D2 T ∧
    (∀ x, IvM.Has l2 x ↔ IvM.Has (B2 u).l x ∨ ((off : Int) ≤ x ∧ x < (off : Int) + (m : Nat))) ∧ Kept (fun j => O2 j = 21 + u) w2 w') from
    put_go (h2.buf _ u hu) h2.size ha2 (by rw [hn2]; exact HN.out) hP2 (fun k hk e => by rw [show O2 k = 21 + u from e] at hk; omega))
  have H2 := Lib.hid h2
  have HR2 := Lib.hid hR2
  have HO2 := Lib.hid ho2
  have F2 := Lib.hid ((Fr.old (A := fun j => j ≠ 0) HK.out).trans f2)
  have HX := Lib.hid hX
  have HU := Lib.hid hu
  have N2 := Lib.hid hn2
  clear h2 hR2 ho2 f2 hX ha2 hn2 hP2 B1 HP1 HR HO HK H c0 c1
  go_wp2_with fail
  with_reducible refine Calls.mono PT.out ?_
  rintro e w3 ⟨F', l2, D2, rfl, hB3, hF3, ha3, hx3, hk3⟩
  obtain ⟨O3, h3, f3⟩ := H2.out.putin hu hB3 hF3 hk3
  have hb3 : BufA w3 base (fun j => O3 j = 21 + u) u (B2 u).n l2 D2 := by
    have := h3.buf _ u hu
    change BufA w3 base _ u (if u = u then (⟨(B2 u).n, l2, D2⟩ : Bf) else B2 u).n (if u = u then (⟨(B2 u).n, l2, D2⟩ : Bf) else B2 u).l (if u = u then (⟨(B2 u).n, l2, D2⟩ : Bf) else B2 u).D at this
    rw [if_pos rfl] at this
    exact this
  have hR3 := f3.blk' HR2.out (by rw [HO2.out]; omega)
  have f3' := f3.mono (B := fun j => j ≠ 0) (fun j e => by omega)
  have ho3 := zero_of f3' HR2.out.lt HO2.out
  have H3 := Lib.hid h3
  have HB3 := Lib.hid hb3
  have HR3 := Lib.hid hR3
  have HO3 := Lib.hid ho3
  have HA3 := Lib.hid ha3
  have HX3 := Lib.hid hx3
  have F3 := Lib.hid (F2.out.trans f3')
  clear hB3 hF3 ha3 hx3 hk3 h3 f3 f3' hb3 hR3 ho3 PT HR2 HO2 F2 H2 hu
  by_cases hw : ∀ x : Int, 0 ≤ x → x < (n : Int) → IvM.Has l2 x
  · have WG := Lib.hid (show Calls Tryz.prog 59 #[ptr u] w3 (fun e w' => ∃ v', e = .returned (.tuple #[v', .bool true]) ∧ Byt.Row w' w3.heap.size v' T ∧ Kept (fun _ => False) w3 w') from
      whole_go HB3.out HA3.out (by rw [N2.out]; exact HN.out) (fun x h0 h1 => hw x h0 (by rw [N2.out] at h1; exact h1)))
    have HW := Lib.hid hw
    clear hw
    go_wp2_with fail
    with_reducible refine Calls.mono WG.out ?_
    rintro e w4 ⟨v', rfl, hR4, hk4⟩
    obtain ⟨O4, h4, f4, hown⟩ := H3.out.adopt hR4 hk4
    have hs4 := hR4.src
    obtain ⟨a4, c4, rfl⟩ : ∃ a c, v' = .slice a n c := by
      obtain ⟨s, c, e, _⟩ := hs4
      exact ⟨s, c, by rw [e, HN.out]⟩
    have f4' := f4.mono (B := fun j => j ≠ 0) (fun j e => by omega)
    have hRb := f4.blk' HR3.out (by rw [HO3.out]; omega)
    have c0 := hRb.cell (o := 0) rfl
    have c1 := hRb.cell (o := 1) rfl
    obtain ⟨Y, Z, hYZ⟩ := List.append_of_mem ((h4.ids i hi).mem_iff.2 (mem_ids.2 ⟨u, HU.out⟩))
    have hperm := List.perm_cons_erase HU.out
    have DV := Lib.hid (show Calls Tryz.prog 60 #[ptr b, TbP.ky ((i : Int), id), .slice a4 n c4] w4 (fun e w' => e = .returned (.tuple #[]) ∧ ∃ g O' vs', Rc w' base O' b s tb most mx (K2.erase (((i : Int), id), u)) (fun j => if j = i then Y ++ Z else I2 j) vs' ws (fun j => if j = i then (IdM.done most (W i).1 (W i).2 id).2 else W j) (L ++ [(g, ⟨(i : Int), id, a4, n, c4⟩)]) (fun j => if j = g then T else Q j) (fun j => if j = u then ⟨(B2 u).n, l2, D2⟩ else B2 j) ∧ Fr (fun j => j ≠ 0) w4 O4 w' O') from
      deliver_any h4 hi hperm hYZ hL hs4 hown)
    have F4 := Lib.hid (F3.out.trans f4')
    have HP := Lib.hid hperm
    have HYZ := Lib.hid hYZ
    clear hR4 hk4 h4 f4 hown hs4 f4' hRb hperm hYZ WG HR3 HO3 F3 H3 HB3
    go_wp2_with fail
    with_reducible refine Calls.mono DV.out ?_
    rintro e w5 ⟨rfl, g, O5, vs5, h5, f5⟩
    go_wp2_with fail
    go_ret3
    refine ⟨u, O5, K2, I2, B2, l2, D2, HX.out, HU.out, HA3.out, HX3.out, F4.out.trans f5, Or.inr ⟨HW.out, rfl, _, Y, Z, g, a4, c4, vs5, _, HP.out, HYZ.out, fun j hj => ?_, h5⟩⟩
    show (if j = u then _ else B2 j) = B2 j
    rw [if_neg hj]
  · obtain ⟨x, hx0, hx1, hx2⟩ : ∃ x : Int, 0 ≤ x ∧ x < (n : Int) ∧ ¬ IvM.Has l2 x := by
      refine Classical.byContradiction fun hc => hw fun x h0 h1 => Classical.byContradiction fun h2 => hc ⟨x, h0, h1, h2⟩
    have WN := Lib.hid (wants_go HB3.out hx0 (by rw [N2.out]; exact hx1) hx2)
    have HW := Lib.hid (show ∃ x : Int, 0 ≤ x ∧ x < (n : Int) ∧ ¬ IvM.Has l2 x from ⟨x, hx0, hx1, hx2⟩)
    clear hw hx0 hx1 hx2
    go_wp2_with fail
    with_reducible refine Calls.mono WN.out ?_
    rintro e w4 ⟨rfl, hk4⟩
    go_wp2_with fail
    go_ret3
    have h4 := H3.out.old hk4
    rw [N2.out] at h4
    exact ⟨u, O3, K2, I2, B2, l2, D2, HX.out, HU.out, HA3.out, HX3.out, F3.out.trans (Fr.old hk4), Or.inl ⟨HW.out, rfl, vs2, h4⟩⟩
end Go.Proofs.YtjjamooihddkgaaGreat.Pr

/- Receivers: a new one. Conditions: each theorem's own. -/
namespace Go.Proofs.YtjjamooihddkgaaGreat.Pr
open Go.RowKit Hp TbM TbN Po Ph
open Pl (Ms Ch En)
open Rm (BufA Agree)
open Idw (WnV)
open IdM (ins)
attribute [local go_sem ↓] Go.wp_at_zero Go.wp_at_succ
variable {w w' w1 w2 : World} {base : Nat} {O O' O1 O2 : Nat → Nat} {b s tb most mx : Nat} {K R : List (Ky × Nat)} {I I' : Nat → List Int} {vs vs' : List Value} {ws : List Nat} {W : Nat → Int × List Int} {L : List (Nat × Ms)} {Q : Nat → List UInt8} {B : Nat → Bf} {A : Nat → Prop}
theorem mayKeep_any (m x : Int) (r : Bool) (hr : r = decide (1 ≤ m ∧ m ≤ 10000 ∧ 0 ≤ x ∧ x ≤ 20000)) (w : World) : Calls Tryz.prog 36 #[.int .i64 m, .int .i64 x] w fun e w' => e = .returned (.bool r) ∧ w = w' := by
  have hc : (r = false ∧ decide (1 ≤ m) = false) ∨ (r = false ∧ decide (1 ≤ m) = true ∧ decide (m ≤ 10000) = false) ∨ (r = false ∧ decide (1 ≤ m) = true ∧ decide (m ≤ 10000) = true ∧ decide (0 ≤ x) = false) ∨ (r = decide (x ≤ 20000) ∧ decide (1 ≤ m) = true ∧ decide (m ≤ 10000) = true ∧ decide (0 ≤ x) = true) := by
    simp only [decide_eq_true_eq, decide_eq_false_iff_not]
    by_cases h1 : 1 ≤ m
    · by_cases h2 : m ≤ 10000
      · by_cases h3 : 0 ≤ x
        · refine Or.inr (Or.inr (Or.inr ⟨?_, h1, h2, h3⟩)); rw [hr]; simp [h1, h2, h3]
        · refine Or.inr (Or.inr (Or.inl ⟨?_, h1, h2, h3⟩)); rw [hr]; simp [h3]
      · refine Or.inr (Or.inl ⟨?_, h1, h2⟩); rw [hr]; simp [h2]
    · refine Or.inl ⟨?_, h1⟩; rw [hr]; simp [h1]
  clear hr
  rcases hc with ⟨rfl, h1⟩ | ⟨rfl, h1, h2⟩ | ⟨rfl, h1, h2, h3⟩ | ⟨rfl, h1, h2, h3⟩
  all_goals
    go_enter Tryz.func36, Tryz.ntmps36
    go_wp2_with fail
    go_ret
    exact ⟨rfl, rfl⟩
abbrev no8 : List Value := List.replicate 8 (.slice none 0 0)
/-- What newShelf leaves. -/
def ShN (w : World) (most : Nat) (e : Ending) (w' : World) : Prop :=
  ∃ s tb, e = .returned (ptr s) ∧ Blk w' s (ptr tb :: no8) 147 ∧ TbP.TabV w' w.heap.size (fun k => k = tb) tb most [] ∧ Kept (fun _ => False) w w' ∧ w.heap.size ≤ s ∧ s ≠ tb
theorem shelf_new {most : Nat} (h0 : 1 ≤ most) (h1 : most ≤ 10000) (w : World) : Calls Tryz.prog 53 #[.int .i64 (most : Nat)] w (ShN w most) := by
  have N := Lib.hid (TbP.new_yes h0 (by omega) w)
  go_enter Tryz.func53, Tryz.ntmps53
  go_wp2_with fail
  with_reducible refine Calls.mono N.out ?_
  rintro e w1 ⟨tb, rfl, hT, hk⟩
  go_wp2_with fail
  go_ret
  have hb := Blk.new w1 (ptr tb :: no8) 147
  have k1 := (Kept.refl (fun _ => False) w1).alloc (.cells (ptr tb :: no8).toArray 147)
  have htb : tb < w1.heap.size := by obtain ⟨_, _, h⟩ := hT; exact h.blk.lt
  exact ⟨w1.heap.size, tb, rfl, hb, hT.old k1, hk.trans k1, hk.size, by omega⟩
/-- While the windows are made. -/
structure Half (w0 : World) (b s tb most mx : Nat) (ws : List Nat) (O : Nat → Nat) (w : World) : Prop where
  blk : Blk w b (.int .i64 (most : Nat) :: .int .i64 (mx : Nat) :: ptr s :: (ws.map ptr ++ List.replicate (8 - ws.length) (.pointer none) ++ [.pointer none, .pointer none, .int .i64 0])) 109
  wl : ws.length ≤ 8
  ob : O b = 1
  sh : Sh w w0.heap.size O s tb most [] (fun _ => []) no8
  win : Wins w O most ws (fun _ => (1, []))
  kept : Kept (fun _ => False) w0 w
  low : w0.heap.size ≤ b
theorem Half.next {w0 : World} {wb : Nat} (h : Half w0 b s tb most mx ws O w) (hl : ws.length < 8) (hW : WnV w1 wb most 1 [] (.slice none 0 0) 0) (hk : Kept (fun _ => False) w w1) (hwb : w.heap.size ≤ wb) :
    ∃ O1, Half w0 b s tb most mx (ws ++ [wb]) O1 (w1.setCell ⟨b, 3 + ws.length, none⟩ (ptr wb)) := by
  have hbase : w0.heap.size ≤ w.heap.size := h.kept.size
  obtain ⟨O1, hr⟩ := re_ex O (12 + ws.length) (fun k => k = wb)
  have f1 : Fr (fun j => j = 12 + ws.length) w O w1 O1 := Fr.of hr (by omega) h.sh.ow (hk.mono (fun _ _ f => f.elim)) (fun k e => Or.inr ⟨by omega, by subst e; exact hW.blk.lt⟩)
  have hb1 : O1 b = 1 := (f1.same 1 (by decide) (by omega) b).2 h.ob
  have f2 : Fr (fun j => j = 1) w1 O1 (w1.setCell ⟨b, 3 + ws.length, none⟩ (ptr wb)) O1 := ⟨(Kept.one w1 b (3 + ws.length) (ptr wb)).mono (fun k _ e => by rw [e]; exact hb1), fun _ _ _ _ => Iff.rfl, fun k h0 h => Or.inl ⟨h0, h⟩⟩
  have hB := (f1.blk' h.blk (by rw [h.ob]; omega)).set (3 + ws.length) (ptr wb)
  have hbw : b ≠ wb := fun e => by have := h.blk.lt; omega
  refine ⟨O1, ⟨?_, by rw [List.length_append]; simp; omega, hb1, (h.sh.fr f1 hbase (fun j hj => by have := hj.2; omega)).fr f2 (Nat.le_trans hbase hk.size) (fun j hj => by have := hj.1; omega), ?_, ?_, h.low⟩⟩
  · have e : (Value.int .i64 (most : Nat) :: Value.int .i64 (mx : Nat) :: ptr s :: (ws.map ptr ++ List.replicate (8 - ws.length) (.pointer none) ++ [.pointer none, .pointer none, .int .i64 0])).set (3 + ws.length) (ptr wb) =
        .int .i64 (most : Nat) :: .int .i64 (mx : Nat) :: ptr s :: ((ws ++ [wb]).map ptr ++ List.replicate (8 - (ws ++ [wb]).length) (.pointer none) ++ [.pointer none, .pointer none, .int .i64 0]) := by
      rw [show 3 + ws.length = ws.length + 1 + 1 + 1 by omega, List.set_cons_succ, List.set_cons_succ, List.set_cons_succ]
      obtain ⟨q, hq⟩ : ∃ q, 8 - ws.length = q + 1 := ⟨7 - ws.length, by omega⟩
      rw [hq, show 8 - (ws ++ [wb]).length = q by rw [List.length_append]; simp; omega, List.replicate_succ, List.append_assoc, List.set_append_right _ _ (by simp)]
      simp
    rw [e] at hB
    exact hB
  · intro j wj hj
    by_cases e : j < ws.length
    · rw [List.getElem?_append_left e] at hj
      obtain ⟨x, xa, h1, h2, h3⟩ := h.win j wj hj
      have hne : ∀ q, O q = 12 + j → q ≠ b := fun q hq e => by rw [e, h.ob] at hq; omega
      exact ⟨x, xa, (h1.kept hk (fun f => f) (fun _ _ f => f)).kept (Kept.one w1 b (3 + ws.length) (ptr wb)) (hne _ h2) (fun g hg => hne _ (h3 g hg)), (f1.same _ (by omega) (by omega) wj).2 h2, fun g hg => (f1.same _ (by omega) (by omega) g).2 (h3 g hg)⟩
    · rw [List.getElem?_append_right (by omega)] at hj
      have : j - ws.length = 0 := by
        have := (List.getElem?_eq_some_iff.1 hj).1
        simp at this; omega
      rw [this] at hj
      have e2 : wj = wb := by simpa using hj.symm
      subst e2
      obtain rfl : j = ws.length := by omega
      exact ⟨_, _, hW.kept (Kept.one w1 b (3 + ws.length) (ptr wj)) (fun e => hbw e.symm) (fun g hg => by cases hg), hr.yes _ rfl, fun g hg => by cases hg⟩
  · exact (h.kept.trans hk).trans' (Kept.one w1 b (3 + ws.length) (ptr wb)) (fun i hi e => by have := h.low; have e' : i = b := e; omega)
theorem Half.cell {w0 : World} (h : Half w0 b s tb most mx ws O w) (hl : ws.length < 8) : w.cell? ⟨b, 3 + ws.length, none⟩ = some (.pointer none) := by
  refine h.blk.cell ?_
  rw [show 3 + ws.length = ws.length + 1 + 1 + 1 by omega, List.getElem?_cons_succ, List.getElem?_cons_succ, List.getElem?_cons_succ, List.append_assoc, List.getElem?_append_right (by simp)]
  obtain ⟨q, hq⟩ : ∃ q, 8 - ws.length = q + 1 := ⟨7 - ws.length, by omega⟩
  rw [hq]
  simp [List.replicate_succ]
theorem Half.start {w0 : World} (h0 : 1 ≤ most) (hs : Blk w s (ptr tb :: no8) 147) (hT : TbP.TabV w w0.heap.size (fun k => k = tb) tb most []) (hk : Kept (fun _ => False) w0 w) (hlo : w0.heap.size ≤ s) (hne : s ≠ tb) (hB : Blk w1 b (.int .i64 (most : Nat) :: .int .i64 (mx : Nat) :: ptr s :: (List.replicate 8 (.pointer none) ++ [.pointer none, .pointer none, .int .i64 0])) 109) (hk1 : Kept (fun _ => False) w w1) (hb : w.heap.size ≤ b) :
    ∃ O, Half w0 b s tb most mx [] O w1 := by
  have hsl := hs.lt
  have htb : w0.heap.size ≤ tb ∧ tb < w.heap.size := by obtain ⟨_, _, h⟩ := hT; exact h.own tb rfl
  have hs0 := hk.size
  have e3 : (fun k => (if k = b then 1 else if k = s then 2 else if k = tb then 3 else 0) = 3) = fun k => k = tb := by
    funext k
    refine propext ⟨fun e => ?_, fun e => ?_⟩
    · split at e
      · cases e
      · split at e
        · cases e
        · split at e
          · assumption
          · cases e
    · subst e
      rw [if_neg (by omega), if_neg (fun e => hne e.symm), if_pos rfl]
  refine ⟨fun k => if k = b then 1 else if k = s then 2 else if k = tb then 3 else 0, ⟨hB, by simp, if_pos rfl, ⟨hk1.blk hs (fun f => f), by simp, by show (if s = b then 1 else if s = s then 2 else if s = tb then 3 else 0) = 2; rw [if_neg (by omega), if_pos rfl], ?_, ?_, fun _ _ => List.Pairwise.nil, ?_⟩, ?_, hk.trans hk1, by omega⟩⟩
  · rw [e3]; exact hT.old hk1
  · intro i v hv
    have : v = .slice none 0 0 := by
      have := List.mem_of_getElem? hv
      exact (List.mem_replicate.1 this).2
    subst this
    exact ⟨Ro.Row.none _ _, fun g hg => by cases hg⟩
  · intro k hk'
    have hbl := hB.lt
    have hs1 := hk1.size
    by_cases e1 : k = b
    · subst e1; omega
    · by_cases e2 : k = s
      · subst e2; omega
      · by_cases e4 : k = tb
        · subst e4; omega
        · exfalso; apply hk'
          show (if k = b then 1 else if k = s then 2 else if k = tb then 3 else 0) = 0
          rw [if_neg e1, if_neg e2, if_neg e4]
  · intro i wb hi; simp at hi
theorem Half.done {w0 : World} (h : Half w0 b s tb most mx ws O w) (hl : ws.length = 8) (h1 : 1 ≤ most ∧ most ≤ 1000) (h2 : mx ≤ 1000) :
    Rc w w0.heap.size O b s tb most mx [] (fun _ => []) no8 ws (fun _ => (1, [])) [] (fun _ => []) (fun _ => ⟨0, [], []⟩) := by
  have hB := h.blk
  rw [hl, Nat.sub_self, List.replicate_zero, List.append_nil] at hB
  exact ⟨hB, hl, h.ob, h.sh, fun i _ => List.Perm.refl _, h.win, ⟨trivial, by simp, by simp, by simp⟩, fun k u hu => by simp at hu, by simp, h2, h1⟩
/-- What NewReceivers leaves. -/
def NewR (w : World) (most mx : Nat) (e : Ending) (w' : World) : Prop :=
  ∃ b s tb ws O, e = .returned (.tuple #[ptr b, .int .i64 0]) ∧ Rc w' w.heap.size O b s tb most mx [] (fun _ => []) no8 ws (fun _ => (1, [])) [] (fun _ => []) (fun _ => ⟨0, [], []⟩) ∧ Kept (fun _ => False) w w'
set_option maxHeartbeats 8000000 in
set_option maxRecDepth 100000 in
theorem new_any {most mx : Nat} (h0 : 1 ≤ most) (h1 : most ≤ 1000) (h2 : mx ≤ 1000) (w : World) : Calls Tryz.prog 26 #[.int .i64 (most : Nat), .int .i64 (mx : Nat)] w (NewR w most mx) := by
  have MK := Lib.hid fun w => mayKeep_any (most : Nat) (mx : Nat) true (by simp; omega) w
  have SN := Lib.hid fun w => shelf_new h0 (by omega) w
  have WN := Lib.hid fun w => Idw.new_yes h0 (by omega) w
  go_enter Tryz.func26, Tryz.ntmps26
  go_wp2_with fail
  with_reducible refine Calls.mono (MK.out _) ?_
  rintro e w1 ⟨rfl, rfl⟩
  go_wp2_with fail
  with_reducible refine Calls.mono (SN.out _) ?_
  rintro e w1 ⟨s, tb, rfl, hs, hT, hk, hlo, hne⟩
  go_upto_region 4 with fail
  obtain ⟨O0, hf0⟩ := Half.start (w1 := w1.alloc (.cells #[.int .i64 (most : Nat), .int .i64 (mx : Nat), ptr s, .pointer none, .pointer none, .pointer none, .pointer none, .pointer none, .pointer none, .pointer none, .pointer none, .pointer none, .pointer none, .int .i64 0] 109)) (b := w1.heap.size) (mx := mx) h0 hs hT hk hlo hne (Blk.new w1 [.int .i64 (most : Nat), .int .i64 (mx : Nat), ptr s, .pointer none, .pointer none, .pointer none, .pointer none, .pointer none, .pointer none, .pointer none, .pointer none, .pointer none, .pointer none, .int .i64 0] 109) ((Kept.refl _ w1).alloc _) (Nat.le_refl _)
  have HF0 := Lib.hid hf0
  clear hf0 hs hT hk hlo hne
  generalize w1.alloc (.cells #[.int .i64 (most : Nat), .int .i64 (mx : Nat), ptr s, .pointer none, .pointer none, .pointer none, .pointer none, .pointer none, .pointer none, .pointer none, .pointer none, .pointer none, .pointer none, .int .i64 0] 109) = w2 at *
  generalize w1.heap.size = b at *
  have H1 := Lib.hid h1
  have H2 := Lib.hid h2
  have H0 := Lib.hid h0
  clear h0 h1 h2
  go_wp2_with fail
  go_loopg [18] 8 (fun mm s18 wr => ∃ (ws : List Nat) (O : Nat → Nat), Hid (mm = 8 - ws.length) ∧ Hid (ws.length ≤ 8) ∧ s18 = .int .i64 ((ws.length : Nat) : Int) ∧ Hid (Half w b s tb most mx ws O wr))
  case atStart => exact ⟨[], O0, Lib.hid rfl, Lib.hid (by simp), rfl, HF0⟩
  case round =>
    obtain ⟨ws, O, hm, hle, rfl, hF⟩ := hrel
    obtain ⟨l, hl⟩ : ∃ l, ws.length = l := ⟨_, rfl⟩
    have HL := Lib.hid hl
    rw [hl] at hm hle ⊢
    clear hl
    rcases Nat.lt_or_ge l 8 with hlt | hge
    · have hcell := hF.out.cell (by rw [HL.out]; exact hlt)
      rw [HL.out] at hcell
      have hk1 : Kept (fun _ => False) wr wr.drew := (Kept.refl _ wr).drew
      have W2 : Hid (Calls Tryz.prog 54 #[.int .i64 (most : Nat)] wr.drew fun e w3 => ∃ wb, e = .returned (.tuple #[ptr wb, .int .i64 0]) ∧ w3.cell? ⟨b, 3 + l, none⟩ = some (.pointer none) ∧ w3.frozen? ⟨b, 3 + l, none⟩ = false ∧ WnV w3 wb most 1 [] (.slice none 0 0) 0 ∧ Kept (fun _ => False) wr w3 ∧ wr.heap.size ≤ wb) := by
        refine Lib.hid ((WN.out _).mono ?_)
        rintro e w3 ⟨wb, rfl, hW, hk, hwb⟩
        have hB3 := hk.blk hF.out.blk.drew (fun f => f)
        have hc3 := (hk1.trans hk).blk hF.out.blk (fun f => f)
        refine ⟨wb, rfl, ?_, hB3.frozen _, hW, hk1.trans hk, hwb⟩
        have hcell2 : w3.cell? ⟨b, 3 + l, none⟩ = wr.cell? ⟨b, 3 + l, none⟩ := Iv.keptCell (hk1.trans hk) hF.out.blk.lt (fun f => f) _
        rw [hcell2]; exact hcell
      have g1 : (0 : Int) ≤ (l : Int) := by omega
      have g2 : (l : Int) < 8 := by omega
      have hw : IntKind.i64.wrap ((l : Int) + 1) = (l : Int) + 1 := by rw [IntKind.wrap_i64]; omega
      clear hcell hk1
      go_wp2_with fail
      go_region_with (first | (go_at_call 54; (with_reducible refine Calls.mono W2.out ?_); rintro e w3 ⟨wb, rfl, q, fz, hW, hk, hwb⟩))
      all_goals
        obtain ⟨O1, h1⟩ := hF.out.next (by rw [HL.out]; exact hlt) hW hk hwb
        rw [HL.out] at h1
        have HH := Lib.hid h1
        clear hW hk hwb h1 q fz
        go_wp2_with fail
        go_roundg (8 - (l + 1))
        case measure => have := hm.out; omega
        case rel => exact ⟨ws ++ [wb], O1, Lib.hid (by rw [List.length_append, HL.out]; rfl), Lib.hid (by rw [List.length_append, HL.out]; simp; omega), by rw [List.length_append, HL.out]; go_num, HH⟩
    · obtain rfl : l = 8 := by have := hle.out; omega
      go_wp2_with fail
      go_ret2
      exact ⟨b, s, tb, ws, O, rfl, hF.out.done HL.out ⟨H0.out, H1.out⟩ H2.out, hF.out.kept⟩
end Go.Proofs.YtjjamooihddkgaaGreat.Pr

/- A shelf: all of a host below a number are taken out. Conditions: each theorem's own. -/
namespace Go.Proofs.YtjjamooihddkgaaGreat.Ph
open Go.RowKit Hp TbM TbN TbP Po
open IdM (Asc place ins has)
attribute [local go_sem ↓] Go.wp_at_zero Go.wp_at_succ
variable {w w' : World} {base : Nat} {O O' : Nat → Nat} {s tb most : Nat} {K K' : List (Ky × Nat)} {I : Nat → List Int} {vs : List Value}
theorem idsOf_nodup {K : List (Ky × Nat)} (h : (K.map Prod.fst).Nodup) (i : Nat) : (idsOf K i).Nodup := by
  unfold idsOf List.Nodup at *
  rw [List.pairwise_map] at *
  refine List.Pairwise.imp_of_mem ?_ (h.filter _)
  intro x y hx hy hne e
  have h1 := (List.mem_filter.1 hx).2
  have h2 := (List.mem_filter.1 hy).2
  simp only [beq_iff_eq] at h1 h2
  exact hne (Prod.ext (h1.trans h2.symm) e)
theorem asc_nodup {l : List Int} (h : Asc l) : l.Nodup := List.Pairwise.imp (fun h e => by omega) h
theorem key_one : ∀ {K : List (Ky × Nat)}, (K.map Prod.fst).Nodup → ∀ {k : Ky} {u u' : Nat}, (k, u) ∈ K → (k, u') ∈ K → u = u'
  | [], _, k, u, u', h, _ => by simp at h
  | x :: K, hn, k, u, u', h1, h2 => by
    rw [List.map_cons, List.nodup_cons] at hn
    rcases List.mem_cons.1 h1 with e1 | h1
    · rcases List.mem_cons.1 h2 with e2 | h2
      · rw [← e1] at e2; exact (Prod.mk.inj e2).2.symm
      · exact absurd (List.mem_map.2 ⟨(k, u'), h2, by rw [← e1]⟩) hn.1
    · rcases List.mem_cons.1 h2 with e2 | h2
      · exact absurd (List.mem_map.2 ⟨(k, u), h1, by rw [← e2]⟩) hn.1
      · exact key_one hn.2 h1 h2
theorem Sh.cellv {v : Value} {i : Nat} (h : Sh w base O s tb most K I vs) (hv : vs[i]? = some v) : w.cell? ⟨s, 1 + i, none⟩ = some v := by
  rw [Nat.add_comm 1 i]; exact h.blk.cell (o := i + 1) (by rw [List.getElem?_cons_succ]; exact hv)
/-- What is left of them. -/
structure Left (K R : List (Ky × Nat)) (i : Nat) (X : List Int) : Prop where
  mem : ∀ x, x ∈ R ↔ x ∈ K ∧ ¬ (x.1.1 = (i : Int) ∧ x.1.2 ∈ X)
  len : R.length + X.length = K.length
theorem Left.ids {R : List (Ky × Nat)} {i : Nat} {X Y : List Int} (h : Left K R i X) (hR : (R.map Prod.fst).Nodup) (hI : Ids K I) (ha : ∀ j, j < 8 → Asc (I j)) (hi : i < 8) (hXY : I i = X ++ Y) : Ids R (fun j => if j = i then Y else I j) := by
  intro j hj
  show (if j = i then Y else I j).Perm _
  have hn := idsOf_nodup hR j
  have hm : ∀ id, id ∈ idsOf R j ↔ id ∈ I j ∧ ¬ (j = i ∧ id ∈ X) := by
    intro id
    rw [mem_ids, (hI j hj).mem_iff, mem_ids]
    constructor
    · rintro ⟨u, hu⟩
      obtain ⟨h1, h2⟩ := (h.mem _).1 hu
      exact ⟨⟨u, h1⟩, fun ⟨e, hx⟩ => h2 ⟨by subst e; rfl, hx⟩⟩
    · rintro ⟨⟨u, hu⟩, h2⟩
      exact ⟨u, (h.mem _).2 ⟨hu, fun ⟨e, hx⟩ => h2 ⟨by have e' : (j : Int) = (i : Int) := e; omega, hx⟩⟩⟩
  by_cases e : j = i
  · subst e
    rw [if_pos rfl]
    have hnI := asc_nodup (ha j hj)
    rw [hXY, List.nodup_append] at hnI
    refine (List.perm_ext_iff_of_nodup hnI.2.1 hn).2 fun id => ?_
    rw [hm, hXY, List.mem_append]
    constructor
    · intro hy; exact ⟨Or.inr hy, fun ⟨_, hx⟩ => hnI.2.2 id hx id hy rfl⟩
    · rintro ⟨h1 | h1, h2⟩
      · exact absurd ⟨rfl, h1⟩ h2
      · exact h1
  · rw [if_neg e]
    refine (List.perm_ext_iff_of_nodup (asc_nodup (ha j hj)) hn).2 fun id => ?_
    rw [hm]
    exact ⟨fun h => ⟨h, fun h2 => e h2.1⟩, fun h => h.1⟩
/-- One more goes. -/
theorem Left.step {R : List (Ky × Nat)} {i : Nat} {X : List Int} {id : Int} {u : Nat} (h : Left K R i X) (hK : (K.map Prod.fst).Nodup) (hR : (R.map Prod.fst).Nodup) (hu : (((i : Int), id), u) ∈ K) (hx : id ∉ X) :
    (((i : Int), id), u) ∈ R ∧ Left K (R.erase (((i : Int), id), u)) i (X ++ [id]) := by
  have hm : (((i : Int), id), u) ∈ R := (h.mem _).2 ⟨hu, fun ⟨_, h2⟩ => hx h2⟩
  have hnR : R.Nodup := by
    unfold List.Nodup at *
    rw [List.pairwise_map] at hR
    exact List.Pairwise.imp (fun h e => h (by rw [e])) hR
  refine ⟨hm, ⟨fun y => ?_, ?_⟩⟩
  · rw [hnR.mem_erase_iff, h.mem, List.mem_append, List.mem_singleton]
    constructor
    · rintro ⟨h1, h2, h3⟩
      refine ⟨h2, fun ⟨e1, e2⟩ => e2.elim (fun e2 => h3 ⟨e1, e2⟩) (fun e2 => h1 ?_)⟩
      have hk : y.1 = ((i : Int), id) := Prod.ext e1 e2
      obtain ⟨yk, yu⟩ := y
      simp only at hk
      subst hk
      rw [key_one hK h2 hu]
    · rintro ⟨h1, h2⟩
      refine ⟨fun e => h2 ⟨by rw [e], Or.inr (by rw [e])⟩, h1, fun ⟨e1, e2⟩ => h2 ⟨e1, Or.inl e2⟩⟩
  · have h1 := List.length_erase_of_mem hm
    have h2 := List.length_pos_of_mem hm
    have := h.len
    rw [List.length_append]
    simp only [List.length_singleton]
    omega
/-- What dropBelow leaves. -/
def BelowP (w : World) (base : Nat) (O : Nat → Nat) (s tb most : Nat) (K : List (Ky × Nat)) (I : Nat → List Int) (i : Nat) (id : Int) (e : Ending) (w' : World) : Prop :=
  e = .returned (.int .i64 ((place id (I i) : Nat) : Int)) ∧ ∃ R O' vs', Left K R i ((I i).take (place id (I i))) ∧ Sh w' base O' s tb most R (fun j => if j = i then (I i).drop (place id (I i)) else I j) vs' ∧ Fr (fun j => j = 2 ∨ j = 3 ∨ j = 4 + i) w O w' O'
set_option maxHeartbeats 16000000 in
set_option maxRecDepth 100000 in
theorem below_all (h : Sh w base O s tb most K I vs) (hids : Ids K I) (hb : base ≤ w.heap.size) {i : Nat} (hi : i < 8) (id : Int) :
    Calls Tryz.prog 64 #[ptr s, .int .i64 (i : Int), .int .u64 id] w (BelowP w base O s tb most K I i id) := by
  obtain ⟨v, hv⟩ : ∃ v, vs[i]? = some v := ⟨vs[i]'(by rw [h.len]; exact hi), List.getElem?_eq_getElem _⟩
  have hlI := hids.few hi
  have hk1 := h.k1000
  have hkeys := h.keys
  have s0 := h.cellv hv
  obtain ⟨a, c, hve, hcl, hcm⟩ := (h.row i v hv).1.slice
  have BW := Pn.below_any (by rw [← hve]; exact (h.row i v hv).1) (h.asc i hi) (by omega) id
  have hpl := IdM.place_le id (I i)
  have H := Lib.hid h
  have HV := Lib.hid hv
  have HB := Lib.hid hb
  have HI := Lib.hid hids
  have HKE := Lib.hid hkeys
  have g1 : (0 : Int) ≤ (i : Int) := by omega
  have g2 : (i : Int) < 8 := by omega
  unfold BelowP
  obtain ⟨n, hn⟩ : ∃ n, (I i).length = n := ⟨_, rfl⟩
  obtain ⟨p, hp⟩ : ∃ p, place id (I i) = p := ⟨_, rfl⟩
  rw [hn] at hve BW hpl hlI
  rw [hp] at BW hpl ⊢
  subst hve
  have HN := Lib.hid hn
  have HBW := Lib.hid BW
  clear h hv hb hids hkeys hn hp BW hcl hcm
  go_enter Tryz.func64, Tryz.ntmps64
  go_wp2_with fail
  with_reducible refine Calls.mono HBW.out ?_
  rintro e w1 ⟨rfl, rfl⟩
  go_wp2_with fail
  go_loopg [20] p (fun mm s20 wr => ∃ (j : Nat) (R : List (Ky × Nat)) (Oq : Nat → Nat), Hid (mm = p - j) ∧ j ≤ p ∧ s20 = .int .i64 ((j : Nat) : Int) ∧ Hid (Left K R i ((I i).take j)) ∧ Hid (Sh wr base Oq s tb most R I vs) ∧ Hid (Fr (fun j => j = 3) w O wr Oq))
  case atStart => exact ⟨0, K, O, Lib.hid rfl, Nat.zero_le _, rfl, Lib.hid ⟨fun x => by simp, by simp⟩, H, Lib.hid (Fr.old (Kept.refl _ w))⟩
  case round =>
    obtain ⟨j, R, Oq, hm, hj, rfl, hL, hS, hF⟩ := hrel
    have hbr : base ≤ wr.heap.size := by have := hF.out.kept.size; have := HB.out; omega
    rcases Nat.lt_or_ge j p with hlt | hge
    · obtain ⟨x, hx⟩ : ∃ x, (I i)[j]? = some x := ⟨_, List.getElem?_eq_getElem (by rw [HN.out]; omega)⟩
      obtain ⟨g, o, rfl, ec⟩ : ∃ g o, a = some ⟨g, o, none⟩ ∧ wr.cell? ⟨g, o + j, none⟩ = some (.int .u64 x) := by
        rcases (hS.out.row i _ HV.out).1 with ⟨e, _⟩ | ⟨g, o, cap, cur, e, hl⟩
        · obtain ⟨_, e2, _⟩ := Value.slice.inj e; omega
        · obtain ⟨rfl, _, _⟩ := Value.slice.inj e
          exact ⟨g, o, rfl, Pn.uat hl hx⟩
      obtain ⟨u, hu⟩ : ∃ u, (((i : Int), x), u) ∈ K := mem_ids.1 ((HI.out i hi).mem_iff.1 (List.mem_of_getElem? hx))
      have hxn : x ∉ (I i).take j := by
        intro hm
        obtain ⟨q, hq⟩ := List.mem_iff_getElem?.1 hm
        rw [List.getElem?_take] at hq
        split at hq
        · have := (H.out.asc i hi).lt (by assumption) hq hx; omega
        · cases hq
      obtain ⟨hmR, hL2⟩ := hL.out.step HKE.out hS.out.keys hu hxn
      have htk : (I i).take (j + 1) = (I i).take j ++ [x] := by rw [List.take_add_one, hx]; rfl
      rw [← htk] at hL2
      have hR2 := List.perm_cons_erase hmR
      have c0 := hS.out.blk.cell (o := 0) rfl
      have DL := Lib.hid fun (w1 : World) (hk : Kept (fun _ => False) wr w1) => (show Calls Tryz.prog 97 #[ptr tb, ky ((i : Int), x)] w1 (fun e w2 => e = .returned (.int .i64 0) ∧ TabV w2 base (More (fun k => Oq k = 3) w1 w2) tb most (R.erase (((i : Int), x), u)) ∧ Kept (fun k => Oq k = 3) w1 w2) from
        del_hit (hS.out.old hk hbr).tab (by have := hk.size; omega) hR2)
      have HL2 := Lib.hid hL2
      have hjp : (j : Int) < (p : Int) := by omega
      have hw : IntKind.i64.wrap ((j : Int) + 1) = (j : Int) + 1 := by rw [IntKind.wrap_i64]; omega
      clear hx hu hxn hmR hL2 htk hR2
      go_wp2_with fail
      with_reducible refine Calls.mono (DL.out _ (Kept.refl _ _)) ?_
      rintro e w2 ⟨rfl, hT2, hk2⟩
      obtain ⟨O2, h2, f2⟩ := hS.out.table hbr hT2 hk2
      have H2 := Lib.hid h2
      have F2 := Lib.hid (hF.out.trans f2)
      clear hT2 hk2 h2 f2 c0 ec DL
      go_wp2_with fail
      go_roundg (p - (j + 1))
      case measure => have := hm.out; omega
      case rel => exact ⟨j + 1, _, O2, Lib.hid rfl, by omega, by go_num, HL2, H2, F2⟩
    · obtain rfl : j = p := by omega
      have hdr : ((I i).take j).length = j := by rw [List.length_take, HN.out]; omega
      have hrow := (hS.out.row i _ HV.out).1
      rw [← List.take_append_drop j (I i)] at hrow
      have BH := Pn.behind_any (Ro.Row.old hrow (Kept.refl _ wr).drew) (by rw [List.take_append_drop, HN.out]; omega)
      rw [hdr] at BH
      have hOr : ∀ g, (Value.slice a n c).ownBlock = some g → Oq g = 4 + i := (hS.out.row i _ HV.out).2
      have W2 : Hid (Calls Tryz.prog 98 #[.slice a n c, .int .i64 (j : Nat)] wr.drew fun e w4 => ∃ va vn vc, e = .returned (.slice va vn vc) ∧ w4.cell? ⟨s, 1 + i, none⟩ = some (.slice a n c) ∧ w4.frozen? ⟨s, 1 + i, none⟩ = false ∧ Ro.Apd Pn.nT wr.drew (.slice a n c) ((I i).drop j) (.slice va vn vc) w4) := by
        refine Lib.hid (BH.mono ?_)
        rintro e w4 ⟨v', rfl, hA⟩
        obtain ⟨va', vn', vc', rfl⟩ := Pn.sl hA.row
        have hb4 := hA.kept.blk hS.out.blk.drew (fun e => by have := hOr s e; rw [hS.out.os] at this; omega)
        refine ⟨_, _, _, rfl, ?_, hb4.frozen _, hA⟩
        rw [Nat.add_comm 1 i]; exact hb4.cell (o := i + 1) (v := .slice a n c) (by rw [List.getElem?_cons_succ]; exact HV.out)
      have s1 := hS.out.cellv HV.out
      have HA := Lib.hid (show Asc ((I i).drop j) from (hS.out.asc i hi).drop j)
      clear hdr hrow BH hOr s0
      go_wp2_with fail
      go_region_with (first | (go_at_call 98; (with_reducible refine Calls.mono W2.out ?_); rintro e w4 ⟨va', vn', vc', rfl, s4, g4, hA⟩))
      all_goals
        obtain ⟨O5, h5, f5⟩ := (hS.out.old (Kept.refl _ wr).drew hbr).put_row hbr HV.out hA HA.out
        have P : Hid (∃ R O' vs', Left K R i ((I i).take j) ∧ Sh (w4.setCell ⟨s, 1 + i, none⟩ (.slice va' vn' vc')) base O' s tb most R (fun q => if q = i then (I i).drop j else I q) vs' ∧ Fr (fun q => q = 2 ∨ q = 3 ∨ q = 4 + i) w O (w4.setCell ⟨s, 1 + i, none⟩ (.slice va' vn' vc')) O') :=
          Lib.hid ⟨R, O5, _, hL.out, h5, ((hF.out.trans (Fr.old (Kept.refl _ wr).drew)).mono (fun _ e => Or.inr (Or.inl e))).trans (f5.mono (fun j e => e.elim Or.inl (fun e => Or.inr (Or.inr e))))⟩
        clear hA h5 f5 W2 s1
        go_wp2_with fail
        go_ret
        exact ⟨rfl, P.out⟩
end Go.Proofs.YtjjamooihddkgaaGreat.Ph

/- Receivers: Poll, Retire. Conditions: each theorem's own. -/
namespace Go.Proofs.YtjjamooihddkgaaGreat.Pr
open Go.RowKit Hp TbM TbN Po Ph
open Pl (Ms Ch En)
open Rm (BufA Agree)
open Idw (WnV)
open IdM (ins place)
attribute [local go_sem ↓] Go.wp_at_zero Go.wp_at_succ
variable {w w' w1 w2 : World} {base : Nat} {O O' O1 O2 : Nat → Nat} {b s tb most mx : Nat} {K R : List (Ky × Nat)} {I I' : Nat → List Int} {vs vs' : List Value} {ws : List Nat} {W : Nat → Int × List Int} {L : List (Nat × Ms)} {Q : Nat → List UInt8} {B : Nat → Bf} {A : Nat → Prop}
set_option maxHeartbeats 4000000 in
theorem poll_none (h : Rc w base O b s tb most mx K I vs ws W [] Q B) : Calls Tryz.prog 29 #[ptr b] w fun e w' => e = .returned (.tuple #[.agg #[.int .i64 0, .int .u64 0, .slice none 0 0], .bool false]) ∧ Kept (fun _ => False) w w' := by
  have MD := Lib.hid fun (w1 : World) (k : Kept (fun _ => False) w w1) => made_any (h.old k)
  have hen : (En (pre most mx s ws) [])[11]? = some (.pointer none) := by
    have := Pl.end0 (pre most mx s ws) (.pointer none) (.pointer none) (.int .i64 0)
    rwa [pre_len h.wl] at this
  have TK := Lib.hid fun (w1 : World) (k : Kept (fun _ => False) w w1) => Pl.take_nil (h.old k).blk hen
  have hR := Blk.new w Pl.mz 70
  have k1 : Kept (fun _ => False) w (w.alloc (.cells #[.int .i64 0, .int .u64 0, .slice none 0 0] 70)) := (Kept.refl (fun _ => False) w).alloc _
  dsimp only [List.toArray, Pl.mz] at hR
  clear h hen
  go_enter Tryz.func29, Tryz.ntmps29
  go_upto_region 1 with fail
  generalize w.alloc (.cells #[.int .i64 0, .int .u64 0, .slice none 0 0] 70) = w1 at *
  obtain ⟨r, hr⟩ : ∃ r, w.heap.size = r := ⟨_, rfl⟩
  rw [hr] at hR ⊢
  have HNR := Lib.hid (show r < w.heap.size → False from fun e => by omega)
  clear hr
  have M1 := Lib.hid (MD.out _ k1)
  have T1 := Lib.hid (TK.out _ k1)
  have HK := Lib.hid k1
  have HR := Lib.hid hR
  clear MD TK k1 hR
  go_wp2_with fail
  with_reducible refine Calls.mono M1.out ?_
  rintro e w2 ⟨rfl, rfl⟩
  go_wp2_with fail
  with_reducible refine Calls.mono T1.out ?_
  rintro e w3 ⟨rfl, k3⟩
  have hR3 := k3.blk HR.out (fun f => f)
  have r0 := hR3.cell (o := 0) rfl
  have r1 := hR3.cell (o := 1) rfl
  have r2 := hR3.cell (o := 2) rfl
  have f0 := hR3.frozen 0
  have f1 := hR3.frozen 1
  have f2 := hR3.frozen 2
  have HE := Lib.hid (((hR3.set 0 (.int .i64 0)).set 1 (.int .u64 0)).set 2 (.slice none 0 0))
  have hK := Lib.hid ((((HK.out.trans k3).set (b := r) (fun e => (HNR.out e)) 0 (.int .i64 0)).set (b := r) (fun e => HNR.out e) 1 (.int .u64 0)).set (b := r) (fun e => HNR.out e) 2 (.slice none 0 0))
  clear hR3 k3 HNR
  go_wp2_with fail
  exact bodyPost_ret (Pl.results_msg Tryz.results29 _ _ _ rfl HE.out) rfl ⟨rfl, hK.out⟩
/-- What Poll leaves. -/
def PollP (w : World) (base : Nat) (O : Nat → Nat) (b s tb most mx : Nat) (K : List (Ky × Nat)) (I : Nat → List Int) (vs : List Value) (ws : List Nat) (W : Nat → Int × List Int) (m : Ms) (D : List UInt8) (L : List (Nat × Ms)) (Q : Nat → List UInt8) (B : Nat → Bf) (e : Ending) (w' : World) : Prop :=
  e = .returned (.tuple #[Pl.mv m, .bool true]) ∧ Rc w' base O b s tb most mx K I vs ws W L Q B ∧ Byt.Src w' (mb m) D ∧ Kept (fun k => O k ≠ 0) w w'
set_option maxHeartbeats 4000000 in
theorem poll_some {g : Nat} {m : Ms} (h : Rc w base O b s tb most mx K I vs ws W ((g, m) :: L) Q B) (hL : L.length ≤ 1000000) : Calls Tryz.prog 29 #[ptr b] w (PollP w base O b s tb most mx K I vs ws W m (Q g) L Q B) := by
  have MD := Lib.hid fun (w1 : World) (k : Kept (fun _ => False) w w1) => made_any (h.old k)
  have TK := Lib.hid fun (w1 : World) (k : Kept (fun _ => False) w w1) => (show Calls Tryz.prog 61 #[.pointer (some ⟨b, 11, none⟩)] w1 (fun e w2 => e = .returned (.tuple #[.agg #[.int .i64 m.fr, .int .u64 m.id, .slice m.a m.n m.c], .bool true]) ∧ Blk w2 b (En (pre most mx s ws) L) 109 ∧ Ch w2 L ∧ Kept (fun k => k = b) w1 w2) from by
    have := Pl.take_some (h.old k).blk (h.old k).line.ch (fun z hz e => by have h1 := h.line.oL z hz; rw [e, h.ob] at h1; omega) hL
    rw [pre_len h.wl] at this
    exact this)
  have hbl := h.blk.lt
  have hR := Blk.new w Pl.mz 70
  have k1 : Kept (fun _ => False) w (w.alloc (.cells #[.int .i64 0, .int .u64 0, .slice none 0 0] 70)) := (Kept.refl (fun _ => False) w).alloc _
  dsimp only [List.toArray, Pl.mz] at hR
  have H := Lib.hid h
  clear h
  go_enter Tryz.func29, Tryz.ntmps29
  go_upto_region 1 with fail
  generalize w.alloc (.cells #[.int .i64 0, .int .u64 0, .slice none 0 0] 70) = w1 at *
  obtain ⟨r, hr⟩ : ∃ r, w.heap.size = r := ⟨_, rfl⟩
  rw [hr] at hR ⊢
  have HNR := Lib.hid (show r < w.heap.size → False from fun e => by omega)
  have hrb : r ≠ b := by omega
  clear hr
  have M1 := Lib.hid (MD.out _ k1)
  have T1 := Lib.hid (TK.out _ k1)
  have HK := Lib.hid k1
  have HR := Lib.hid hR
  clear MD TK k1 hR
  go_wp2_with fail
  with_reducible refine Calls.mono M1.out ?_
  rintro e w2 ⟨rfl, rfl⟩
  go_wp2_with fail
  with_reducible refine Calls.mono T1.out ?_
  rintro e w3 ⟨rfl, hB3, hC3, k3⟩
  have hR3 := k3.blk HR.out hrb
  have r0 := hR3.cell (o := 0) rfl
  have r1 := hR3.cell (o := 1) rfl
  have r2 := hR3.cell (o := 2) rfl
  have f0 := hR3.frozen 0
  have f1 := hR3.frozen 1
  have f2 := hR3.frozen 2
  have f3 : Fr (fun j => j = 1) w O w3 O := (Fr.old (A := fun j => j = 1) HK.out).trans ⟨k3.mono (fun k _ e => by rw [e]; exact H.out.ob), fun _ _ _ _ => Iff.rfl, fun k h0 h => Or.inl ⟨h0, h⟩⟩
  have hl := H.out.line.fr f3 (by decide)
  have h3 : Rc w3 base O b s tb most mx K I vs ws W L Q B := ⟨hB3, H.out.wl, H.out.ob, H.out.sh.fr f3 H.out.size (fun j hj => by have := hj.1; omega), H.out.ids, H.out.win.fr H.out.wl f3 (fun i hi => by omega), ⟨hC3, (List.nodup_cons.1 (by have := hl.nd; rwa [List.map_cons] at this)).2, fun x hx => hl.oL x (List.mem_cons_of_mem _ hx), fun x hx => hl.msg x (List.mem_cons_of_mem _ hx)⟩, H.out.buf.fr f3 (fun j hj => by omega), H.out.nu, H.out.mx1, H.out.most1⟩
  have hms := (hl.msg (g, m) (List.mem_cons_self ..))
  have k4 : Kept (fun k => k = r) w3 (((w3.setCell ⟨r, 0, none⟩ (.int .i64 m.fr)).setCell ⟨r, 1, none⟩ (.int .u64 m.id)).setCell ⟨r, 2, none⟩ (.slice m.a m.n m.c)) := (((Kept.refl (fun k => k = r) w3).set (b := r) (fun _ => rfl) _ _).set (b := r) (fun _ => rfl) _ _).set (b := r) (fun _ => rfl) _ _
  have hOr : O r = 0 := by
    rcases Nat.eq_zero_or_pos (O r) with e | e
    · exact e
    · exact (HNR.out (H.out.sh.ow r (by omega)).2).elim
  have h4 := h3.out k4 (fun i hi e => hi (by rw [show i = r from e]; exact hOr))
  have hs4 := src_kept hms.1 k4 (fun q hq e => by have h1 := (hms.2 q hq).1; rw [show q = r from e, hOr] at h1; omega)
  have HP := Lib.hid (show PollP w base O b s tb most mx K I vs ws W m (Q g) L Q B (.returned (.tuple #[.agg #[.int .i64 m.fr, .int .u64 m.id, .slice m.a m.n m.c], .bool true])) (((w3.setCell ⟨r, 0, none⟩ (.int .i64 m.fr)).setCell ⟨r, 1, none⟩ (.int .u64 m.id)).setCell ⟨r, 2, none⟩ (.slice m.a m.n m.c)) from
    ⟨rfl, h4, hs4, (f3.kept.mono (fun k _ e => by rw [show O k = 1 from e]; decide)).trans' k4 (fun i hi e => (HNR.out (by rw [show i = r from e] at hi; exact hi)).elim)⟩)
  have HE := Lib.hid (((hR3.set 0 (.int .i64 m.fr)).set 1 (.int .u64 m.id)).set 2 (.slice m.a m.n m.c))
  clear hR3 k3 HNR hB3 hC3 f3 hl h3 hms k4 h4 hs4
  go_wp2_with fail
  exact bodyPost_ret (Pl.results_msg Tryz.results29 _ _ _ rfl HE.out) rfl HP.out
theorem has_any (h : Rc w base O b s tb most mx K I vs ws W L Q B) {i : Nat} (hi : i < 8) : Calls Tryz.prog 62 #[ptr b, .int .i64 (i : Int)] w fun e w' => e = .returned (.bool true) ∧ Kept (fun _ => False) w w' := by
  have MD := Lib.hid fun (q : Nat) => made_any (h.old ((Kept.refl (fun _ => False) w).drewN q))
  have IH := Lib.hid fun w => isHost_any (i : Int) true (by simp; omega) w
  have M0 := Lib.hid (made_any h)
  clear h
  go_enter Tryz.func62, Tryz.ntmps62
  go_wp2_with fail
  with_reducible refine Calls.mono M0.out ?_
  rintro e w2 ⟨rfl, rfl⟩
  go_wp2_with fail
  with_reducible refine Calls.mono (IH.out _) ?_
  rintro e w2 ⟨rfl, rfl⟩
  go_wp2_with fail
  go_ret
  exact ⟨rfl, Kept.refl _ _⟩
/-- What Retire leaves. -/
def RetP (w : World) (base : Nat) (O : Nat → Nat) (b s tb most mx : Nat) (K : List (Ky × Nat)) (I : Nat → List Int) (ws : List Nat) (W : Nat → Int × List Int) (L : List (Nat × Ms)) (Q : Nat → List UInt8) (B : Nat → Bf) (i : Nat) (id : Int) (e : Ending) (w' : World) : Prop :=
  e = .returned (.int .i64 ((place id (I i) : Nat) : Int)) ∧ ∃ R O' vs', Ph.Left K R i ((I i).take (place id (I i))) ∧ Rc w' base O' b s tb most mx R (fun j => if j = i then (I i).drop (place id (I i)) else I j) vs' ws (fun j => if j = i then (IdM.retire (W i).1 (W i).2 id).2 else W j) L Q B ∧ Fr (fun j => j ≠ 0) w O w' O'
theorem snd_one : ∀ {K : List (Ky × Nat)}, (K.map Prod.snd).Nodup → ∀ {x y : Ky × Nat}, x ∈ K → y ∈ K → x.2 = y.2 → x = y
  | [], _, x, y, h, _, _ => by simp at h
  | z :: K, hn, x, y, hx, hy, e => by
    rw [List.map_cons, List.nodup_cons] at hn
    rcases List.mem_cons.1 hx with ex | hx'
    · rcases List.mem_cons.1 hy with ey | hy'
      · rw [ex, ey]
      · exact absurd (List.mem_map.2 ⟨y, hy', by rw [← e, ex]⟩) hn.1
    · rcases List.mem_cons.1 hy with ey | hy'
      · exact absurd (List.mem_map.2 ⟨x, hx', by rw [e, ey]⟩) hn.1
      · exact snd_one hn.2 hx' hy' e
theorem Rc.below {i : Nat} {id : Int} (h : Rc w base O b s tb most mx K I vs ws W L Q B) (hi : i < 8) (hl : Ph.Left K R i ((I i).take (place id (I i)))) (hs : Sh w1 base O1 s tb most R (fun j => if j = i then (I i).drop (place id (I i)) else I j) vs') (f : Fr (fun j => j = 2 ∨ j = 3 ∨ j = 4 + i) w O w1 O1) :
    Rc w1 base O1 b s tb most mx R (fun j => if j = i then (I i).drop (place id (I i)) else I j) vs' ws W L Q B := by
  have hsub : ∀ x, x ∈ R → x ∈ K := fun x hx => ((hl.mem x).1 hx).1
  refine ⟨f.blk' h.blk (by rw [h.ob]; omega), h.wl, (f.same 1 (by decide) (by omega) b).2 h.ob, hs, hl.ids hs.keys h.ids h.sh.asc hi (List.take_append_drop _ _).symm, h.win.fr h.wl f (fun i hi => by omega), h.line.fr f (by omega), fun k u hu => buf_fr (h.buf k u (hsub _ hu)) f (by omega), ?_, h.mx1, h.most1⟩
  have hn := hs.keys
  have hk := h.nu
  have inj : ∀ x y : Ky × Nat, x ∈ K → y ∈ K → x.2 = y.2 → x = y := fun x y hx hy e => snd_one hk hx hy e
  unfold List.Nodup at hn ⊢
  rw [List.pairwise_map] at hn ⊢
  refine List.Pairwise.imp_of_mem ?_ hn
  intro x y hx hy hne e
  exact hne (by rw [inj x y (hsub x hx) (hsub y hy) e])
set_option maxHeartbeats 4000000 in
theorem retire_any (h : Rc w base O b s tb most mx K I vs ws W L Q B) {i : Nat} (hi : i < 8) (id : Int) : Calls Tryz.prog 30 #[ptr b, .int .i64 (i : Int), .int .u64 id] w (RetP w base O b s tb most mx K I ws W L Q B i id) := by
  obtain ⟨wb, hwb⟩ := h.wb hi
  have HA := Lib.hid (has_any h hi)
  have WN := Lib.hid fun (w1 : World) (k : Kept (fun _ => False) w w1) => (show ∃ v, (O wb = 12 + i ∧ ∀ g, v.ownBlock = some g → O g = 12 + i) ∧ Calls Tryz.prog 63 #[ptr wb, .int .u64 id] w1 (fun e w2 => e = .returned (.int .i64 ((IdM.retire (W i).1 (W i).2 id).1 : Nat)) ∧ ∃ v' wa', WnV w2 wb most (IdM.retire (W i).1 (W i).2 id).2.1 (IdM.retire (W i).1 (W i).2 id).2.2 v' wa' ∧ Idw.Nx wb v w1 v' w2) from by
    obtain ⟨v, wa, hW, ho, hv⟩ := (h.old k).win i wb hwb
    exact ⟨v, ⟨ho, hv⟩, Idw.retire_any hW id⟩)
  have H := Lib.hid h
  have g1 : (0 : Int) ≤ (i : Int) := by omega
  have g2 : (i : Int) < 8 := by omega
  clear h
  go_enter Tryz.func30, Tryz.ntmps30
  go_wp2_with fail
  with_reducible refine Calls.mono HA.out ?_
  rintro e w1 ⟨rfl, k1⟩
  obtain ⟨v, ⟨ho, hv⟩, hC⟩ := WN.out _ k1
  have h1 := H.out.old k1
  have c3 := h1.cw hwb
  have HC := Lib.hid hC
  have H1 := Lib.hid h1
  have HO := Lib.hid ho
  have HV := Lib.hid hv
  have HK := Lib.hid k1
  clear hC h1 ho hv WN HA k1
  go_wp2_with fail
  with_reducible refine Calls.mono HC.out ?_
  rintro e w2 ⟨rfl, v', wa', hW', hn⟩
  obtain ⟨O2, h2, f2⟩ := H1.out.donewin hwb HO.out HV.out hW' hn
  have c2 := h2.cell (j := 2) rfl
  have BL := Lib.hid (show Calls Tryz.prog 64 #[ptr s, .int .i64 (i : Int), .int .u64 id] w2 (fun e w' => e = .returned (.int .i64 ((place id (I i) : Nat) : Int)) ∧ ∃ R O' vs', Ph.Left K R i ((I i).take (place id (I i))) ∧ Sh w' base O' s tb most R (fun j => if j = i then (I i).drop (place id (I i)) else I j) vs' ∧ Fr (fun j => j = 2 ∨ j = 3 ∨ j = 4 + i) w2 O2 w' O') from
    below_all h2.sh h2.ids h2.size hi id)
  have H2 := Lib.hid h2
  have F2 := Lib.hid ((Fr.old (A := fun j => j ≠ 0) HK.out).trans (f2.mono (fun j e => by omega)))
  clear hW' hn h2 f2 c3 HC
  go_wp2_with fail
  with_reducible refine Calls.mono BL.out ?_
  rintro e w3 ⟨rfl, R, O3, vs3, hl, hs, f3⟩
  have h3 := H2.out.below hi hl hs f3
  have P := Lib.hid (show RetP w base O b s tb most mx K I ws W L Q B i id (.returned (.int .i64 ((place id (I i) : Nat) : Int))) w3 from ⟨rfl, R, O3, vs3, hl, h3, F2.out.trans (f3.mono (fun j e => by omega))⟩)
  clear hl hs f3 h3
  go_wp2_with fail
  go_ret
  exact P.out
end Go.Proofs.YtjjamooihddkgaaGreat.Pr

