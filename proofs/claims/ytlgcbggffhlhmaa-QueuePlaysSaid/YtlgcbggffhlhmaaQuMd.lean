/- The law's own queue: eight rows. Conditions: each theorem's own. -/
import Derived.Test.YtlgcbggffhlhmaaQuBox
import Derived.Test.YtlgcbggffhlhmaaRo
set_option linter.unusedVariables false
namespace Go.Proofs.Ytlgcbggffhlhmaa.Qu
open Go.RowKit Hp QuM QuN
attribute [local go_sem ↓] Go.wp_at_zero Go.wp_at_succ
abbrev tM : TypeId := 72
theorem ro_cells {w : World} {v : Value} {l : List Bx} (h : Ro.Row bT w v l) {i : Nat} {x : Bx} (hx : l[i]? = some x) :
    ∃ g o c, v = .slice (some ⟨g, o, none⟩) l.length c ∧ l.length ≤ c ∧ w.cell? ⟨g, o + i * 2, none⟩ = some (.int .i64 x.1) ∧ w.cell? ⟨g, o + i * 2 + 1, none⟩ = some (.int .i64 x.2) := by
  rcases h with ⟨rfl, rfl⟩ | ⟨g, o, cap, cur, rfl, h2⟩
  · simp at hx
  · exact ⟨g, o, cap, rfl, h2.le, h2.cell hx (j := 0) rfl, h2.cell hx (j := 1) rfl⟩
/-- Eight rows, as they lie. -/
structure MdV (w : World) (m : Nat) (c : List Value) (us : Nat → Value) (ls : Nat → List Bx) : Prop where
  blk : Blk w m c tM
  cu : ∀ k, k < 8 → c[1 + k]? = some (us k)
  row : ∀ k, k < 8 → Ro.Row bT w (us k) (ls k)
variable {w w' : World} {m : Nat} {c : List Value} {us : Nat → Value} {ls : Nat → List Bx}
theorem MdV.kept {F : Nat → Prop} (h : MdV w m c us ls) (K : Kept F w w') (hb : ¬ F m) (hv : ∀ k g, k < 8 → (us k).ownBlock = some g → ¬ F g) : MdV w' m c us ls :=
  ⟨K.blk h.blk hb, h.cu, fun k hk => (h.row k hk).kept K (fun g hg => hv k g hk hg)⟩
theorem MdV.old (h : MdV w m c us ls) (K : Kept (fun _ => False) w w') : MdV w' m c us ls := h.kept K (fun f => f) (fun _ _ _ _ f => f)
/-- One row is another one. -/
theorem MdV.turn (h : MdV w m c us ls) {k : Nat} (hk : k < 8) {v' : Value} {L' : List Bx} (hB : Blk w' m (c.set (1 + k) v') tM) (hR : Ro.Row bT w' v' L') (K : Kept (fun i => i = m) w w') (hm : ∀ j g, j < 8 → (us j).ownBlock = some g → g ≠ m) :
    MdV w' m (c.set (1 + k) v') (upd us k v') (upd ls k L') := by
  have hl := (List.getElem?_eq_some_iff.1 (h.cu k hk)).1
  refine ⟨hB, fun j hj => ?_, fun j hj => ?_⟩
  · by_cases e : j = k
    · subst e; rw [upd_self, List.getElem?_set_self hl]
    · rw [upd_ne us v' e, List.getElem?_set_ne (by omega)]; exact h.cu j hj
  · by_cases e : j = k
    · subst e; rw [upd_self, upd_self]; exact hR
    · rw [upd_ne us v' e, upd_ne ls L' e]; exact (h.row j hj).kept K (fun g hg e2 => hm j g hj hg e2)
theorem sumB_take {L : List (Int × Int)} {i : Nat} {x : Int × Int} (h : L[i]? = some x) : sumB (L.take (i + 1)) = sumB (L.take i) + szI x.1 := by
  rw [List.take_add_one, h, sumB_append]
  show _ + (szI x.1 + 0) = _
  omega
theorem sumB_take_le (L : List (Int × Int)) (i : Nat) : sumB (L.take i) ≤ sumB L := by
  have h1 := sumB_append (L.take i) (L.drop i)
  rw [List.take_append_drop] at h1
  have h2 := sumB_nonneg (L.drop i)
  omega
theorem tot_mono {ls : Nat → List (Int × Int)} : ∀ {a b : Nat}, a ≤ b → tot ls a ≤ tot ls b
  | a, 0, h => by obtain rfl : a = 0 := by omega
                  exact Int.le_refl _
  | a, b + 1, h => by
    by_cases e : a = b + 1
    · subst e; exact Int.le_refl _
    · have := tot_mono (ls := ls) (a := a) (b := b) (by omega)
      have := sumB_nonneg (ls b)
      show tot ls a ≤ tot ls b + sumB (ls b)
      omega
set_option maxRecDepth 100000 in
set_option maxHeartbeats 8000000 in
theorem used_m (h : MdV w m c us ls) (ht : tot ls 8 ≤ 1099511627776) :
    Calls Try.prog 31 #[.pointer (some ⟨m, 0, none⟩)] w fun e w' => e = .returned (.int .i64 (tot ls 8)) ∧ Kept (fun _ => False) w w' := by
  have HM := Lib.hid fun (w' : World) (hk : Kept (fun _ => False) w w') => h.old hk
  have K0 := Lib.hid (Kept.refl (fun _ => False) w)
  clear h
  go_enter Try.func31, Try.ntmps31
  go_wp2_with fail
  go_loopg [3, 4] 8 (fun kx s3 s4 wr => ∃ (k : Nat), Hid (8 - k ≤ kx) ∧ k ≤ 8 ∧ s4 = .int .i64 (k : Nat) ∧ s3 = .int .i64 (tot ls k) ∧ Hid (Kept (fun _ => False) w wr))
  case atStart => exact ⟨0, Lib.hid (by omega), by omega, rfl, rfl, K0⟩
  case round =>
    clear K0
    obtain ⟨k, hm, hk, rfl, rfl, hK⟩ := hrel
    rcases Nat.lt_or_ge k 8 with hlt | hge
    · have hlt' : (k : Int) < 8 := by omega
      have e : tot ls (k + 1) = tot ls k + sumB (ls k) := rfl
      have hb1 := tot_mono (ls := ls) (a := k + 1) (b := 8) (by omega)
      have hb0 := tot_nonneg ls k
      rw [e] at hb1
      have HE := Lib.hid e
      obtain ⟨a, cc, hu, hlc, hcm⟩ := ((HM.out _ hK.out).row k hlt).slice
      unfold maxLen at hcm
      obtain ⟨L, hL⟩ : ∃ L, ls k = L := ⟨_, rfl⟩
      obtain ⟨T, hT⟩ : ∃ T, tot ls k = T := ⟨_, rfl⟩
      rw [hL] at hb1 HE hu hlc
      rw [hT] at hb1 HE hb0
      rw [hT]
      have HL := Lib.hid hL
      have HU := Lib.hid hu
      clear hL hT e hu
      obtain ⟨ln, hln⟩ : ∃ ln, L.length = ln := ⟨_, rfl⟩
      have HLN := Lib.hid hln
      rw [hln] at hlc
      clear hln
      go_wp2_with fail
      go_loopg [3, 5] ln (fun ky s3 s5 wr => ∃ (i : Nat), Hid (ln - i ≤ ky) ∧ i ≤ ln ∧ s5 = .int .i64 (i : Nat) ∧ s3 = .int .i64 (T + sumB (L.take i)) ∧ Hid (Kept (fun _ => False) w wr))
      case atStart => exact ⟨0, Lib.hid (by omega), by omega, rfl, by rw [List.take_zero]; show _ = Value.int .i64 (T + 0); rw [Int.add_zero], hK⟩
      case round =>
        clear hK
        obtain ⟨i, hmi, hi, rfl, rfl, hK⟩ := hrel
        have hMd := HM.out _ hK.out
        have q := hMd.blk.cell (hMd.cu k hlt)
        rw [HU.out, HLN.out] at q
        rcases Nat.lt_or_ge i ln with hil | hig
        · obtain ⟨⟨x1, x2⟩, hx⟩ : ∃ x, L[i]? = some x := ⟨L[i]'(by rw [HLN.out]; exact hil), List.getElem?_eq_getElem _⟩
          have hr := hMd.row k hlt
          rw [HL.out, HU.out] at hr
          obtain ⟨g, o, cv, ev, _, c0, c1⟩ := ro_cells hr hx
          cases ev
          have ht1 := sumB_take hx
          have ht2 := sumB_take_le L (i + 1)
          have ht3 := sumB_nonneg (L.take i)
          have hz := szI_in x1
          have SZ := Lib.hid fun w => size_any x1 x2 w
          simp only at ht1
          have HT1 := Lib.hid ht1
          rw [ht1] at ht2
          clear ht1 hx hr hMd
          generalize szI x1 = s at *
          generalize sumB (L.take i) = S at *
          generalize sumB L = SL at *
          have hil' : (i : Int) < (ln : Int) := by omega
          have hw : IntKind.i64.wrap (T + S + s) = T + S + s := by rw [IntKind.wrap_i64]; omega
          go_wp2_with fail
          with_reducible refine Calls.mono (SZ.out _) ?_
          rintro e w3 ⟨rfl, hk3⟩
          have HK3 := Lib.hid (hK.out.trans hk3)
          clear hk3 SZ q c0 c1
          go_wp2_with fail
          go_roundg (ln - (i + 1))
          case measure => have := hmi.out; omega
          case rel => exact ⟨i + 1, Lib.hid (Nat.le_refl _), by omega, by go_num, by rw [HT1.out, Int.add_assoc], HK3⟩
        · have hig' : ¬ (i : Int) < (ln : Int) := by omega
          obtain rfl : i = ln := by omega
          have hfull : T + sumB (L.take i) = tot ls (k + 1) := by rw [HE.out, ← HLN.out, List.take_length]
          rw [hfull]
          clear hMd hfull
          go_wp2_with fail
          go_roundg (8 - (k + 1))
          case measure => have := hm.out; omega
          case rel => exact ⟨k + 1, Lib.hid (Nat.le_refl _), by omega, by go_num, rfl, hK⟩
    · have hge' : ¬ ((k : Int) < 8) := by omega
      obtain rfl : k = 8 := by omega
      go_wp2_with fail
      go_ret
      exact ⟨rfl, hK.out⟩
/-- The highest, or -1. -/
def topI (ls : Nat → List Bx) : Int := match top ls 8 with
  | none => -1
  | some p => (p : Int)
set_option maxRecDepth 100000 in
set_option maxHeartbeats 4000000 in
theorem first_m (h : MdV w m c us ls) :
    Calls Try.prog 35 #[.pointer (some ⟨m, 0, none⟩)] w fun e w' => e = .returned (.int .i64 (topI ls)) ∧ w = w' := by
  have HM := Lib.hid h
  obtain ⟨t, hT⟩ : ∃ t, topI ls = t := ⟨_, rfl⟩
  have HT := Lib.hid hT
  rw [hT]
  clear h hT
  go_enter Try.func35, Try.ntmps35
  go_wp2_with fail
  go_loopg [3] 8 (fun mm s4 wr => ∃ (i : Nat), Hid (i ≤ mm) ∧ i ≤ 8 ∧ s4 = .int .i64 ((i : Nat) - 1 : Int) ∧ Hid (top ls 8 = top ls i) ∧ w = wr)
  case atStart => exact ⟨8, Lib.hid (by omega), by omega, rfl, Lib.hid rfl, rfl⟩
  case round =>
    obtain ⟨i, hmm, hi, rfl, ht, rfl⟩ := hrel
    rcases Nat.eq_zero_or_pos i with rfl | hlt
    · have H : Hid (t = -1) := Lib.hid (by rw [← HT.out]; unfold topI; rw [ht.out]; rfl)
      go_wp2_with fail
      go_ret
      exact ⟨by rw [H.out]; rfl, rfl⟩
    · obtain ⟨j, rfl⟩ : ∃ j, i = j + 1 := ⟨i - 1, by omega⟩
      have hj8 : (j : Int) < 8 := by omega
      obtain ⟨a, cc, hu, _, hcm⟩ := (HM.out.row j (by omega)).slice
      unfold maxLen at hcm
      have q := HM.out.blk.cell (HM.out.cu j (by omega))
      rw [hu] at q
      clear hu
      obtain ⟨q1, hq1⟩ : ∃ q1 : Int, ((j + 1 : Nat) : Int) - 1 = q1 := ⟨_, rfl⟩
      have hq2 : q1 = (j : Int) := by omega
      rw [hq1]
      subst hq2
      clear hq1
      have hjw : IntKind.i64.wrap ((j : Int) - 1) = (j : Int) - 1 := by rw [IntKind.wrap_i64]; omega
      by_cases e : ls j = []
      · have htj : Hid (top ls 8 = top ls j) := Lib.hid (by rw [ht.out]; exact if_pos e)
        rw [e] at q
        have q' : w.cell? ⟨m, 1 + j, none⟩ = some (.slice a 0 cc) := q
        clear q ht
        go_wp2_with fail
        go_roundg j
        case measure => have := hmm.out; omega
        case rel => exact ⟨j, Lib.hid (Nat.le_refl _), by omega, rfl, htj, rfl⟩
      · have htj : Hid (t = (j : Int)) := Lib.hid (by rw [← HT.out]; unfold topI; rw [ht.out]; rw [show top ls (j + 1) = some j from if_neg e])
        have hn : 0 < (ls j).length := List.length_pos_iff.2 e
        generalize (ls j).length = n at *
        have hn' : (0 : Int) < (n : Int) := by omega
        clear ht hn
        go_wp2_with fail
        go_ret
        exact ⟨by rw [htj.out]; rfl, rfl⟩
end Go.Proofs.Ytlgcbggffhlhmaa.Qu
