/- The reference's window: has, Is, Room, goes. Conditions: each theorem's own. -/
import Derived.Test.YtaihjnonlnbhhaaIdSt
set_option linter.unusedVariables false
namespace Go.Proofs.Ytaihjnonlnbhhaa.Idw
open Go.RowKit Hp IdM Ro Go.Proofs.Ytaihjnonlnbhhaa.End
attribute [local go_sem ↓] Go.wp_at_zero Go.wp_at_succ
/-- The reference's window in memory. -/
structure RfV (w : World) (c most : Nat) (M : Int) (l : List Int) (v : Value) : Prop where
  blk : Blk w c [.int .i64 (most : Nat), .int .u64 M, v] 32
  row : Row uT w v l
  ne : v.ownBlock ≠ some c
theorem RfV.kept {w w' : World} {F : Nat → Prop} {c most : Nat} {M : Int} {l : List Int} {v : Value} (h : RfV w c most M l v) (k : Kept F w w') (h1 : ¬ F c) (h2 : ∀ g, v.ownBlock = some g → ¬ F g) : RfV w' c most M l v := ⟨k.blk h.blk h1, h.row.kept k h2, h.ne⟩
theorem RfV.old {w w' : World} {c most : Nat} {M : Int} {l : List Int} {v : Value} (h : RfV w c most M l v) (k : Kept (fun _ => False) w w') : RfV w' c most M l v := h.kept k (fun f => f) (fun _ _ f => f)
set_option maxHeartbeats 4000000 in
theorem rhas_any {w : World} {v : Value} {l : List Int} (h : Row uT w v l) (hl : l.length ≤ 1000000) (id : Int) (r : Bool) (hr : decide (id ∈ l) = r) :
    Calls Try.prog 41 #[v, .int .u64 id] w fun e w' => e = .returned (.bool r) ∧ w = w' := by
  have HR := Lib.hid hr
  have HW := Lib.hid h
  obtain ⟨a, c, rfl, hlc, hcm⟩ := h.slice
  unfold maxLen at hcm
  clear h hr
  generalize hn : l.length = n at *
  have HN := Lib.hid hn
  clear hn
  go_enter Try.func41, Try.ntmps41
  go_wp2_with fail
  go_loopg [5] n (fun kx s5 wr => ∃ (i : Nat), Hid (n - i ≤ kx) ∧ i ≤ n ∧ s5 = .int .i64 (i : Nat) ∧ Hid (∀ j x, j < i → l[j]? = some x → x ≠ id) ∧ w = wr)
  case atStart => exact ⟨0, Lib.hid (by omega), by omega, rfl, Lib.hid (fun j x hj => by omega), rfl⟩
  case round =>
    obtain ⟨i, hkx, hi, rfl, hno, rfl⟩ := hrel
    rcases Nat.lt_or_ge i n with hlt | hge
    · obtain ⟨x, hx⟩ : ∃ x, l[i]? = some x := ⟨_, List.getElem?_eq_getElem (by rw [HN.out]; exact hlt)⟩
      obtain ⟨g, o, rfl, cur, hL⟩ : ∃ g o, a = some ⟨g, o, none⟩ ∧ ∃ cur, Lies uT w g o c cur l := by
        rcases HW.out with ⟨e, hnil⟩ | ⟨g, o, cap, cur, e, h2⟩
        · rw [hnil] at hx; simp at hx
        · cases e
          exact ⟨g, o, rfl, cur, h2⟩
      have q := uat hL hx
      have HX := Lib.hid hx
      clear hL hx
      by_cases e : x = id
      · subst e
        have hrt : r = true := by rw [← HR.out, decide_eq_true_eq]; exact List.mem_of_getElem? HX.out
        go_wp2_with fail
        go_ret
        exact ⟨by rw [hrt]; rfl, rfl⟩
      · have e' : (x == id) = false := by simpa using e
        go_wp2_with fail
        go_roundg (n - (i + 1))
        case measure => have := hkx.out; omega
        case rel =>
          refine ⟨i + 1, Lib.hid (Nat.le_refl _), by omega, by go_num, Lib.hid (fun j y hj hy => ?_), rfl⟩
          rcases Nat.lt_or_ge j i with h | h
          · exact hno.out j y h hy
          · obtain rfl : j = i := by omega
            rw [← Option.some.inj (HX.out.symm.trans hy)]; exact e
    · have hrf : r = false := by
        rw [← HR.out, decide_eq_false_iff_not]
        intro hm
        obtain ⟨j, hj, hx⟩ := List.getElem_of_mem hm
        exact hno.out j _ (by have := HN.out; omega) (List.getElem?_eq_getElem hj) hx
      go_wp2_with fail
      go_ret
      exact ⟨by rw [hrf]; rfl, rfl⟩
set_option maxHeartbeats 4000000 in
theorem ris_any {w : World} {c most : Nat} {M : Int} {l : List Int} {v : Value} (h : RfV w c most M l v) (hl : l.length ≤ 1000000) (id : Int) (h0 : 0 ≤ id) :
    Calls Try.prog 17 #[.pointer (some ⟨c, 0, none⟩), .int .u64 id] w fun e w' => e = .returned (.bool (isE M l id)) ∧ w = w' := by
  obtain ⟨r, hr⟩ : ∃ r, isE M l id = r := ⟨_, rfl⟩
  rw [hr]
  have c1 := h.blk.cell (o := 1) rfl
  have c2 := h.blk.cell (o := 2) rfl
  have hc : (decide (0 < id) = false ∧ r = false) ∨ (0 < id ∧ id < M ∧ r = true) ∨ (0 < id ∧ decide (id < M) = false ∧ decide (id ∈ l) = r) := by
    rw [← hr]
    unfold isE
    by_cases c1 : 0 < id
    · by_cases c2 : id < M
      · exact Or.inr (Or.inl ⟨c1, c2, by rw [decide_eq_true_eq]; exact ⟨c1, Or.inl c2⟩⟩)
      · refine Or.inr (Or.inr ⟨c1, by simpa using c2, ?_⟩)
        rw [Bool.eq_iff_iff, decide_eq_true_eq, decide_eq_true_eq]
        exact ⟨fun h => ⟨c1, Or.inr h⟩, fun h => h.2.resolve_left c2⟩
    · exact Or.inl ⟨by simpa using c1, by rw [decide_eq_false_iff_not]; exact fun h => c1 h.1⟩
  obtain ⟨a, cc, rfl, hlc, hcm⟩ := h.row.slice
  have HS := Lib.hid fun (r : Bool) (hr : decide (id ∈ l) = r) => rhas_any h.row hl id r hr
  clear h hr
  rcases hc with ⟨g1, rfl⟩ | ⟨g1, g2, rfl⟩ | ⟨g1, g2, g3⟩
  · go_enter Try.func17, Try.ntmps17
    go_wp2_with fail
    go_ret
    exact ⟨rfl, rfl⟩
  · go_enter Try.func17, Try.ntmps17
    go_wp2_with fail
    go_ret
    exact ⟨rfl, rfl⟩
  · have H3 := Lib.hid (HS.out r g3)
    clear HS g3
    go_enter Try.func17, Try.ntmps17
    go_wp2_with fail
    with_reducible refine Calls.mono H3.out ?_
    rintro e w1 ⟨rfl, rfl⟩
    go_wp2_with fail
    go_ret
    exact ⟨rfl, rfl⟩
set_option maxHeartbeats 4000000 in
/-- May one more end, that has not? -/
theorem room_any {w : World} {c most : Nat} {M : Int} {l : List Int} {v : Value} (h : RfV w c most M l v) (hl : l.length ≤ 1000000) (id : Int) (h0 : 0 ≤ id) (hE : isE M l id = false) (r : Bool) (hr : decide (id = M ∨ l.length < most) = r) :
    Calls Try.prog 39 #[.pointer (some ⟨c, 0, none⟩), .int .u64 id] w fun e w' => e = .returned (.bool r) ∧ Kept (fun _ => False) w w' := by
  have c0 := h.blk.cell (o := 0) rfl
  have c1 := h.blk.cell (o := 1) rfl
  have c2 := h.blk.cell (o := 2) rfl
  have hc : (id = M ∧ r = true) ∨ (¬ id = M ∧ (id == M) = false ∧ decide (l.length < most) = r) := by
    by_cases e : id = M
    · exact Or.inl ⟨e, by rw [← hr, decide_eq_true_eq]; exact Or.inl e⟩
    · refine Or.inr ⟨e, by simpa using e, ?_⟩
      rw [← hr, Bool.eq_iff_iff, decide_eq_true_eq, decide_eq_true_eq]
      exact ⟨Or.inr, fun h => h.resolve_left e⟩
  obtain ⟨a, cc, rfl, hlc, hcm⟩ := h.row.slice
  have IS := Lib.hid fun (n : Nat) => by
    have := ris_any (h.old ((Kept.refl (fun _ => False) w).drewN n)) hl id h0
    rw [hE] at this
    exact this
  clear h hr
  rcases hc with ⟨rfl, rfl⟩ | ⟨g0, g1, g2⟩
  · go_enter Try.func39, Try.ntmps39
    go_wp2_with fail
    go_quiet ((go_at_call 17; exact Calls.quiet_of_same ((IS.out _).mono fun _ _ ⟨e1, e2⟩ => ⟨e1, e2.symm⟩)))
    go_wp2_with fail
    go_ret
    exact ⟨rfl, (Kept.refl _ w).drewN nq⟩
  · go_enter Try.func39, Try.ntmps39
    go_wp2_with fail
    go_quiet ((go_at_call 17; exact Calls.quiet_of_same ((IS.out _).mono fun _ _ ⟨e1, e2⟩ => ⟨e1, e2.symm⟩)))
    go_wp2_with fail
    go_ret
    exact ⟨by rw [← g2]; first | rfl | simp, (Kept.refl _ w).drewN nq⟩
theorem cut_one {w : World} {g o cap : Nat} {cur : List Value} {x : Int} {r : List Int} (h : Lies uT w g o cap cur (x :: r)) : Row uT w (.slice (some ⟨g, o + 1, none⟩) r.length (cap - 1)) r := by
  have := h.cut (n := 1) (by simp)
  rw [Nat.mul_one, List.length_cons, Nat.add_sub_cancel] at this
  exact this
theorem cut_last {w : World} {g o : Nat} {cur : List Value} {x : Int} {r : List Int} (h : Lies uT w g o 1 cur (x :: r)) : r = [] ∧ Row uT w (.slice (some ⟨g, o, none⟩) 0 0) [] := by
  have hr : r = [] := by have := h.le; rw [List.length_cons] at this; exact List.length_eq_zero_iff.1 (by omega)
  subst hr
  exact ⟨rfl, h.cut_all⟩
/-- The row, stored anew. -/
theorem RfV.store {w : World} {c most : Nat} {M : Int} {l : List Int} {v v2 : Value} {l2 : List Int} (h : RfV w c most M l v) (hr : Row uT w v2 l2) (ho : v2.ownBlock = v.ownBlock) : RfV (w.setCell ⟨c, 2, none⟩ v2) c most M l2 v2 ∧ Kept (fun k => k = c) w (w.setCell ⟨c, 2, none⟩ v2) := by
  have hk : Kept (fun k => k = c) w (w.setCell ⟨c, 2, none⟩ v2) := (Kept.refl (fun k => k = c) w).set (fun _ => rfl) 2 _
  exact ⟨⟨h.blk.set 2 v2, hr.kept hk (fun g hg e => by subst e; exact h.ne (ho ▸ hg)), fun e => h.ne (ho ▸ e)⟩, hk⟩
theorem RfV.setMark {w : World} {c most : Nat} {M M2 : Int} {l : List Int} {v : Value} (h : RfV w c most M l v) : RfV (w.setCell ⟨c, 1, none⟩ (.int .u64 M2)) c most M2 l v ∧ Kept (fun k => k = c) w (w.setCell ⟨c, 1, none⟩ (.int .u64 M2)) := by
  have hk : Kept (fun k => k = c) w (w.setCell ⟨c, 1, none⟩ (.int .u64 M2)) := (Kept.refl (fun k => k = c) w).set (fun _ => rfl) 1 _
  exact ⟨⟨h.blk.set 1 (.int .u64 M2), h.row.kept hk (fun g hg e => by subst e; exact h.ne hg), h.ne⟩, hk⟩
/-- What the mark's going on leaves. -/
def GoesP (w : World) (c most : Nat) (v : Value) (n : Nat) (M' : Int) (l' : List Int) (e : Ending) (w' : World) : Prop :=
  e = .returned (.int .i64 (n : Nat)) ∧ ∃ v', RfV w' c most M' l' v' ∧ Kept (fun k => k = c) w w' ∧ v'.ownBlock = v.ownBlock
set_option maxHeartbeats 8000000 in
theorem rgoes_any {w : World} {c most : Nat} {M : Int} {l : List Int} {v : Value} (h : RfV w c most M l v) (hl : l.length ≤ 1000000) (htop : ∀ x ∈ l, x ≤ top) (h0 : 0 ≤ M) (h1 : M ≤ top + 1) :
    Calls Try.prog 40 #[.pointer (some ⟨c, 0, none⟩)] w (GoesP w c most v (goes M l).1 (goes M l).2.1 (goes M l).2.2) := by
  unfold GoesP
  obtain ⟨G, hG⟩ : ∃ G, goes M l = G := ⟨_, rfl⟩
  rw [hG]
  have HG0 : Hid (G = (0 + (goes M l).1, (goes M l).2)) := Lib.hid (by rw [hG]; simp)
  have HL := Lib.hid hl
  have H := Lib.hid h
  have HT := Lib.hid htop
  clear h htop hG
  go_enter Try.func40, Try.ntmps40
  go_wp2_with fail
  go_loopg [3] l.length (fun kx s3 wr => ∃ (n : Nat) (M' : Int) (l' : List Int) (v' : Value), Hid (l'.length ≤ kx) ∧ n ≤ 1000000 ∧ Hid (n + l'.length ≤ 1000000) ∧ s3 = .int .i64 (n : Nat) ∧ 0 ≤ M' ∧ M' ≤ top + 1 ∧ Hid (∀ x ∈ l', x ≤ top) ∧ Hid (RfV wr c most M' l' v') ∧ Hid (v'.ownBlock = v.ownBlock) ∧ Hid (Kept (fun k => k = c) w wr) ∧ Hid (G = (n + (goes M' l').1, (goes M' l').2)))
  case atStart => exact ⟨0, M, l, v, Lib.hid (Nat.le_refl _), by omega, Lib.hid (by have := HL.out; omega), rfl, h0, h1, HT, H, rfl, Lib.hid (Kept.refl _ w), HG0⟩
  case round =>
    clear HG0 H HT h0 h1 HL
    obtain ⟨n, M', l', v', hkx, hn, hnl, rfl, h0, h1, hT, hR, hv, hk, hg⟩ := hrel
    cases l' with
    | nil =>
      have hg2 := hg.out
      have hge : G = (n, M', []) := by rw [hg2]; rfl
      subst hge
      obtain ⟨a, cc, rfl, hlc, hcm⟩ := hR.out.row.slice
      have c2 := hR.out.blk.cell (o := 2) rfl
      have c1 := hR.out.blk.cell (o := 1) rfl
      clear hg hg2
      go_upto_region 2 with (fail)
      go_quiet (fail)
      go_wp2_with fail
      go_ret
      exact ⟨rfl, _, hR.out.old ((Kept.refl _ wr).drewN nq), hk.out.drewN nq, hv.out⟩
    | cons x r =>
      obtain ⟨g, o, cap, cur, rfl, hL⟩ : ∃ g o cap cur, v' = .slice (some ⟨g, o, none⟩) (r.length + 1) cap ∧ Lies uT wr g o cap cur (x :: r) := by
        rcases hR.out.row with ⟨_, hnil⟩ | ⟨g, o, cap, cur, e, h2⟩
        · cases hnil
        · exact ⟨g, o, cap, cur, e, h2⟩
      have hxt := hT.out x (by simp)
      have htt : (top : Int) = 1152921504606846976 := rfl
      have hw1 : IntKind.u64.wrap (M' + 1) = M' + 1 ∨ ¬ x = M' := by
        rw [IntKind.wrap_u64]; omega
      have hw2 : IntKind.i64.wrap ((n : Int) + 1) = (n : Int) + 1 := by rw [IntKind.wrap_i64]; omega
      have q := uat hL (i := 0) (x := x) rfl
      rw [Nat.add_zero] at q
      have c1 := hR.out.blk.cell (o := 1) rfl
      have c2 := hR.out.blk.cell (o := 2) rfl
      have hcap : r.length + 1 ≤ cap := by have := hL.le; rw [List.length_cons] at this; exact this
      have hcm := hL.most
      unfold maxLen at hcm
      have HLi := Lib.hid hL
      have HRL := Lib.hid (show r.length + n + 1 ≤ 1000000 by have := hnl.out; rw [List.length_cons] at this; omega)
      have hrl : r.length ≤ 1000000 := by have := HRL.out; omega
      have hn1 : n + 1 ≤ 1000000 := by have := HRL.out; omega
      have HKX : Hid (r.length + 1 ≤ gk) := Lib.hid (by have := hkx.out; rw [List.length_cons] at this; exact this)
      have HTR : Hid (∀ y ∈ r, y ≤ top) := Lib.hid fun y hy => hT.out y (by simp [hy])
      clear hL hkx hnl hT htt
      rcases Int.lt_trichotomy x M' with hlt | heq | hgt
      · have HG : Hid (G = (n + 1 + (goes M' r).1, (goes M' r).2)) := Lib.hid (by
          have := hg.out
          rw [goes_below hlt] at this
          rw [this]
          simp only [Prod.mk.injEq, and_true]; omega)
        have hle : x ≤ M' := by omega
        have hne : ¬ x = M' := by omega
        have hne' : (x == M') = false := by simpa using hne
        clear hg hw1
        go_upto_region 2 with (fail)
        go_quiet (fail)
        have hR1 := hR.out.old ((Kept.refl (fun _ => False) wr).drewN nq)
        have hL1 := HLi.out.kept ((Kept.refl (fun _ => False) wr).drewN nq) (fun f => f)
        have hk1 := hk.out.drewN nq
        clear c1 c2 q hR hk HLi
        generalize wr.drewN nq = w1 at *
        have q := uat hL1 (i := 0) (x := x) rfl
        rw [Nat.add_zero] at q
        have c1 := hR1.blk.cell (o := 1) rfl
        have c2 := hR1.blk.cell (o := 2) rfl
        have HR1 := Lib.hid hR1
        have HL1 := Lib.hid hL1
        have HK1 := Lib.hid hk1
        clear hR1 hL1 hk1
        go_upto_region 3 with (fail)
        go_quiet (fail)
        have hR2 := HR1.out.old ((Kept.refl (fun _ => False) w1).drewN nq)
        have hL2 := HL1.out.kept ((Kept.refl (fun _ => False) w1).drewN nq) (fun f => f)
        have hk2 := HK1.out.drewN nq
        clear c1 c2 q HR1 HL1 HK1
        generalize w1.drewN nq = w2 at *
        have HR2 := Lib.hid hR2
        have HL2 := Lib.hid hL2
        have HK2 := Lib.hid hk2
        clear hR2 hL2 hk2
        by_cases hc1 : cap = 1
        · subst hc1
          obtain ⟨hrn, hlast⟩ := cut_last HL2.out
          subst hrn
          have hst := HR2.out.store hlast rfl
          have c2 := HR2.out.blk.cell (o := 2) rfl
          have f2 := HR2.out.blk.frozen 2
          have hcl := HR2.out.blk.lt
          have HST := Lib.hid hst
          clear hst hlast
          go_wp2_with fail
          go_roundg 0
          case measure => have := HKX.out; simp only [List.length_nil] at this; omega
          case rel => exact ⟨n + 1, M', [], _, Lib.hid (by simp), hn1, Lib.hid (by have := HRL.out; simpa using this), by go_num, by omega, by omega, HTR, Lib.hid HST.out.1, hv, Lib.hid (HK2.out.trans HST.out.2), HG⟩
        · have hst := HR2.out.store (cut_one HL2.out) rfl
          have c2 := HR2.out.blk.cell (o := 2) rfl
          have f2 := HR2.out.blk.frozen 2
          have hcl := HR2.out.blk.lt
          have HST := Lib.hid hst
          clear hst
          go_wp2_with fail
          go_roundg r.length
          case measure => have := HKX.out; omega
          case rel => exact ⟨n + 1, M', r, _, Lib.hid (Nat.le_refl _), hn1, Lib.hid (by have := HRL.out; omega), by go_num, by omega, by omega, HTR, Lib.hid HST.out.1, hv, Lib.hid (HK2.out.trans HST.out.2), HG⟩
      · subst heq
        have HG : Hid (G = (n + 1 + (goes (x + 1) r).1, (goes (x + 1) r).2)) := Lib.hid (by
          have := hg.out
          rw [goes_at] at this
          rw [this]
          simp only [Prod.mk.injEq, and_true]; omega)
        have hw1 := hw1.resolve_right (fun h => h rfl)
        have hxt' : x + 1 ≤ top + 1 := by omega
        clear hg
        go_upto_region 2 with (fail)
        go_quiet (fail)
        have hR1 := hR.out.old ((Kept.refl (fun _ => False) wr).drewN nq)
        have hL1 := HLi.out.kept ((Kept.refl (fun _ => False) wr).drewN nq) (fun f => f)
        have hk1 := hk.out.drewN nq
        clear c1 c2 q hR hk HLi
        generalize wr.drewN nq = w1 at *
        have q := uat hL1 (i := 0) (x := x) rfl
        rw [Nat.add_zero] at q
        have c1 := hR1.blk.cell (o := 1) rfl
        have c2 := hR1.blk.cell (o := 2) rfl
        have HR1 := Lib.hid hR1
        have HL1 := Lib.hid hL1
        have HK1 := Lib.hid hk1
        clear hR1 hL1 hk1
        go_upto_region 3 with (fail)
        go_quiet (fail)
        have hR2 := HR1.out.old ((Kept.refl (fun _ => False) w1).drewN nq)
        have hL2 := HL1.out.kept ((Kept.refl (fun _ => False) w1).drewN nq) (fun f => f)
        have hk2 := HK1.out.drewN nq
        clear c1 c2 q HR1 HL1 HK1
        generalize w1.drewN nq = w2 at *
        have HR2 := Lib.hid hR2
        have HL2 := Lib.hid hL2
        have HK2 := Lib.hid hk2
        clear hR2 hL2 hk2
        have c1 := HR2.out.blk.cell (o := 1) rfl
        have f1 := HR2.out.blk.frozen 1
        have hcl := HR2.out.blk.lt
        go_upto_region 5 with (fail)
        have hst1 := HR2.out.setMark (M2 := x + 1)
        have hL3 := HL2.out.kept hst1.2 (fun e => HR2.out.ne (by rw [← e]; rfl))
        have hk3 := HK2.out.trans hst1.2
        have hR3 := hst1.1
        clear hst1 c1 f1 hcl HR2 HL2 HK2
        generalize w2.setCell ⟨c, 1, none⟩ (.int .u64 (x + 1)) = w3 at *
        have HR3 := Lib.hid hR3
        have HL3 := Lib.hid hL3
        have HK3 := Lib.hid hk3
        clear hR3 hL3 hk3
        by_cases hc1 : cap = 1
        · subst hc1
          obtain ⟨hrn, hlast⟩ := cut_last HL3.out
          subst hrn
          have hst := HR3.out.store hlast rfl
          have c2 := HR3.out.blk.cell (o := 2) rfl
          have f2 := HR3.out.blk.frozen 2
          have hcl := HR3.out.blk.lt
          have HST := Lib.hid hst
          clear hst hlast
          go_wp2_with fail
          go_roundg 0
          case measure => have := HKX.out; simp only [List.length_nil] at this; omega
          case rel => exact ⟨n + 1, x + 1, [], _, Lib.hid (by simp), hn1, Lib.hid (by have := HRL.out; simpa using this), by go_num, by omega, by omega, HTR, Lib.hid HST.out.1, hv, Lib.hid (HK3.out.trans HST.out.2), HG⟩
        · have hst := HR3.out.store (cut_one HL3.out) rfl
          have c2 := HR3.out.blk.cell (o := 2) rfl
          have f2 := HR3.out.blk.frozen 2
          have hcl := HR3.out.blk.lt
          have HST := Lib.hid hst
          clear hst
          go_wp2_with fail
          go_roundg r.length
          case measure => have := HKX.out; omega
          case rel => exact ⟨n + 1, x + 1, r, _, Lib.hid (Nat.le_refl _), hn1, Lib.hid (by have := HRL.out; omega), by go_num, by omega, by omega, HTR, Lib.hid HST.out.1, hv, Lib.hid (HK3.out.trans HST.out.2), HG⟩
      · have hge : G = (n, M', x :: r) := by
          have := hg.out
          rw [goes, if_neg (by omega)] at this
          exact this
        subst hge
        have hle : decide (x ≤ M') = false := by rw [decide_eq_false_iff_not]; omega
        clear hg hw1
        go_upto_region 2 with (fail)
        go_quiet (fail)
        go_wp2_with fail
        go_ret
        exact ⟨rfl, _, hR.out.old ((Kept.refl _ wr).drewN nq), hk.out.drewN nq, hv.out⟩
end Go.Proofs.Ytaihjnonlnbhhaa.Idw
