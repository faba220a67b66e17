/- The reference's window: Done, Retire. Conditions: each theorem's own. -/
import Derived.Test.YtaihjnonlnbhhaaIdRef
set_option linter.unusedVariables false
namespace Go.Proofs.Ytaihjnonlnbhhaa.Idw
open Go.RowKit Hp IdM Ro Go.Proofs.Ytaihjnonlnbhhaa.End
attribute [local go_sem ↓] Go.wp_at_zero Go.wp_at_succ
theorem front {w : World} {a : Option Addr} {c k : Nat} {l : List Int} (h : Row uT w (.slice a l.length c) l) (hk : k ≤ l.length) : Rw.Src uT w (.slice a k c) (l.take k) := by
  rcases h with ⟨e, rfl⟩ | ⟨g, o, cap, cur, e, h2⟩
  · cases e
    obtain rfl : k = 0 := by simpa using hk
    exact Or.inl ⟨rfl, rfl⟩
  · cases e
    have := h2.src 0 k c (by omega)
    rw [List.drop_zero, Nat.zero_mul, Nat.add_zero] at this
    exact this
theorem back {w : World} {a : Option Addr} {c k : Nat} {l : List Int} (h : Row uT w (.slice a l.length c) l) (hk : k ≤ l.length) : Rw.Src uT w (.slice (if c = k then a else a.map (fun x => x.add k)) (l.length - k) (c - k)) (l.drop k) := by
  rcases h with ⟨e, rfl⟩ | ⟨g, o, cap, cur, e, h2⟩
  · cases e
    obtain rfl : k = 0 := by simpa using hk
    exact Or.inl ⟨rfl, rfl⟩
  · cases e
    have hle := h2.le
    by_cases e : c = k
    · have e2 : k = l.length := by omega
      rw [if_pos e]
      refine Or.inr ⟨⟨g, o, none⟩, c - k, by rw [List.length_drop], fun j u hj => ?_⟩
      rw [e2, List.drop_length] at hj
      simp [Rw.flat] at hj
    · have := h2.src k (l.length - k) (c - k) (by omega)
      rw [if_neg e]
      rw [List.take_of_length_le (by rw [List.length_drop]; omega), Nat.mul_one] at this
      simp only [Option.map_some, Go.WideShapes.add_plain]
      exact this
/-- What the reference's calls leave. -/
def RDoneP (w : World) (c most : Nat) (v : Value) (r M' : Int) (l' : List Int) (e : Ending) (w' : World) : Prop := e = .returned (.int .i64 r) ∧ ∃ v', RfV w' c most M' l' v' ∧ Nx c v w v' w'
theorem place_top {id : Int} {l : List Int} (ha : Asc l) (hn : id ∉ l) {k : Nat} (hk : k ≤ l.length) (h1 : place id l ≤ k) (h2 : k = 0 ∨ ∃ x, l[k - 1]? = some x ∧ ¬ id < x) : k = place id l := by
  rcases h2 with rfl | ⟨x, hx, hlt⟩
  · omega
  · rcases Nat.lt_or_ge (place id l) k with h | h
    · have h3 := place_ge ha (show place id l ≤ k - 1 by omega) hx
      have h4 : x ≠ id := fun e => hn (e ▸ List.mem_of_getElem? hx)
      omega
    · omega
theorem RfV.past {w w' : World} {c most : Nat} {M : Int} {l : List Int} {v : Value} (h : RfV w c most M l v) (k : Kept (fun i => w.heap.size ≤ i) w w') : RfV w' c most M l v :=
  h.kept k (fun e => by have := h.blk.lt; omega) (fun g hg e => by have := h.row.lt g hg; omega)
theorem past_apd {w0 w w' : World} {v v' : Value} {l : List Int} (k : Kept (fun i => w0.heap.size ≤ i) w0 w) (a : Apd uT w v l v' w') (hv : ∀ g, v.ownBlock = some g → w0.heap.size ≤ g) : Kept (fun i => w0.heap.size ≤ i) w0 w' ∧ ∀ g, v'.ownBlock = some g → w0.heap.size ≤ g := by
  have hs := k.size
  exact ⟨k.trans (a.kept.mono (fun i _ e => hv i e)), fun g hg => (a.lies g hg).elim (hv g) (fun h => by omega)⟩
theorem row_new (w : World) : Row uT (w.alloc (.cells #[] 30)) (.slice (some ⟨w.heap.size, 0, none⟩) 0 0) [] :=
  Or.inr ⟨w.heap.size, 0, 0, [], rfl, ⟨Blk.new w [] 30, Nat.le_refl _, by decide, by simp, by simp [Rw.flat]⟩⟩
set_option maxHeartbeats 16000000 in
set_option maxRecDepth 100000 in
theorem rdone_any {w : World} {c most : Nat} {M : Int} {l : List Int} {v : Value} (h : RfV w c most M l v) (hW : Win most M l) (hm : most ≤ 100000) (id : Int) (h0 : 0 ≤ id) :
    Calls Try.prog 13 #[.pointer (some ⟨c, 0, none⟩), .int .u64 id] w (RDoneP w c most v (done most M l id).1 (done most M l id).2.1 (done most M l id).2.2) := by
  have hl : l.length ≤ 100000 := Nat.le_trans hW.few hm
  have IS := Lib.hid (ris_any h (by omega) id h0)
  have H := Lib.hid h
  by_cases hb : id < 1 ∨ top < id
  · have e : done most M l id = (1, M, l) := by unfold done; rw [if_pos hb]
    rw [e]
    unfold RDoneP
    have hc : id = 0 ∨ ((id == 0) = false ∧ 1152921504606846976 < id) := by
      have : (top : Int) = 1152921504606846976 := rfl
      rw [beq_eq_false_iff_ne]; omega
    clear h e hb
    rcases hc with h1 | ⟨h1, h2⟩
    all_goals
      go_enter Try.func13, Try.ntmps13
      go_wp2_with fail
      go_ret
      exact ⟨rfl, _, H.out, Nx.same (Kept.refl _ w)⟩
  · have g1 : (id == 0) = false := by rw [beq_eq_false_iff_ne]; omega
    have g1' : ¬ id = 0 := by omega
    have g2 : decide ((1152921504606846976 : Int) < id) = false := by
      have : (top : Int) = 1152921504606846976 := rfl
      rw [decide_eq_false_iff_not]; omega
    by_cases hd : id < M ∨ id ∈ l
    · have e : done most M l id = (0, M, l) := by unfold done; rw [if_neg hb, if_pos hd]
      have hE : isE M l id = true := by unfold isE; rw [decide_eq_true_eq]; exact ⟨by omega, hd⟩
      rw [e]
      rw [hE] at IS
      unfold RDoneP
      clear h e hb hE hd
      go_enter Try.func13, Try.ntmps13
      go_wp2_with fail
      with_reducible refine Calls.mono IS.out ?_
      rintro e w1 ⟨rfl, rfl⟩
      go_wp2_with fail
      go_ret
      exact ⟨rfl, _, H.out, Nx.same (Kept.refl _ w)⟩
    · have hE : isE M l id = false := by unfold isE; rw [decide_eq_false_iff_not]; exact fun h => hd h.2
      rw [hE] at IS
      by_cases hr : id = M ∨ l.length < most
      · have e := done_ref hW hb hd hr
        have RM := Lib.hid (room_any h (by omega) id h0 hE true (by rw [decide_eq_true_eq]; exact hr))
        have hWd := hW.done id
        rw [e] at hWd ⊢
        have HWD := Lib.hid hWd
        have hnl : id ∉ l := fun e => hd (Or.inr e)
        have HN := Lib.hid hnl
        have HA := Lib.hid hW.asc
        have HT : Hid (∀ x ∈ ins id l, x ≤ top) := Lib.hid fun x hx => by
          rcases ins_mem.1 hx with rfl | hx
          · omega
          · exact (hW.over x hx).2
        have hM0 : 0 ≤ M := by have := hW.lo; omega
        have HM1 := Lib.hid hW.hi
        have HIL := Lib.hid (ins_len id l)
        have HPL := Lib.hid (place_le id l)
        have HE : Hid (ins id l = l.take (place id l) ++ [id] ++ l.drop (place id l)) := Lib.hid (by unfold ins; rw [List.append_assoc]; rfl)
        unfold RDoneP
        clear h e hb hE hd hr hWd hnl hW
        obtain ⟨a, cc, rfl, hlc, hcm⟩ := H.out.row.slice
        unfold maxLen at hcm
        have c2 := H.out.blk.cell (o := 2) rfl
        go_enter Try.func13, Try.ntmps13
        go_wp2_with fail
        with_reducible refine Calls.mono IS.out ?_
        rintro e w1 ⟨rfl, rfl⟩
        go_wp2_with fail
        with_reducible refine Calls.mono RM.out ?_
        rintro e w1 ⟨rfl, k1⟩
        have H1 := H.out.old k1
        have c2 := H1.blk.cell (o := 2) rfl
        have HH1 := Lib.hid H1
        have HK1 := Lib.hid k1
        clear k1 H1 IS RM
        go_upto_block 1 with (fail)
        go_cut [5] (fun s5 wx => ∃ k : Nat, s5 = .int .i64 (k : Nat) ∧ k ≤ l.length ∧ Hid (k = place id l) ∧ w1 = wx)
        case first =>
          go_wp2_with fail
          go_loopg [5] l.length (fun kx s5 wr => ∃ (k : Nat), Hid (k ≤ kx) ∧ k ≤ l.length ∧ Hid (place id l ≤ k) ∧ s5 = .int .i64 (k : Nat) ∧ w1 = wr)
          case atStart => exact ⟨l.length, Lib.hid (Nat.le_refl _), Nat.le_refl _, HPL, rfl, rfl⟩
          case round =>
            obtain ⟨k, hkx, hk, hp, rfl, rfl⟩ := hrel
            have hcase : (k = 0) ∨ (∃ x, 0 < k ∧ l[k - 1]? = some x ∧ id < x) ∨ (∃ x, 0 < k ∧ l[k - 1]? = some x ∧ ¬ id < x) := by
              rcases Nat.eq_zero_or_pos k with e | e
              · exact Or.inl e
              · have hx := List.getElem?_eq_getElem (l := l) (i := k - 1) (by omega)
                by_cases hlt : id < l[k - 1]
                · exact Or.inr (Or.inl ⟨_, e, hx, hlt⟩)
                · exact Or.inr (Or.inr ⟨_, e, hx, hlt⟩)
            rcases hcase with hk0 | ⟨x, hpos, hx, hlt⟩ | ⟨x, hpos, hx, hlt⟩
            · have hkp : k = place id l := by have := hp.out; omega
              have HKP := Lib.hid hkp
              have hgt : ¬ 0 < k := by omega
              clear hkp hp hk0
              go_wp2_with fail
              go_meet
              exact ⟨k, rfl, hk, HKP, rfl⟩
            · obtain ⟨j, hj⟩ : ∃ j, k - 1 = j := ⟨_, rfl⟩
              rw [hj] at hx
              obtain ⟨g, o, rfl, cur, hL⟩ : ∃ g o, a = some ⟨g, o, none⟩ ∧ ∃ cur, Lies uT w1 g o cc cur l := by
                rcases HH1.out.row with ⟨e, hnil⟩ | ⟨g, o, cap, cur, e, h2⟩
                · rw [hnil] at hx; simp at hx
                · cases e
                  exact ⟨g, o, rfl, cur, h2⟩
              have q := uat hL hx
              have hw1 : IntKind.i64.wrap ((k : Int) - 1) = (j : Int) := by rw [IntKind.wrap_i64]; omega
              have hjl : j < l.length := by omega
              have hk1 : (0 : Int) < (k : Int) := by omega
              have hp2 : Hid (place id l ≤ k - 1) := Lib.hid (by
                have h1 := place_lt id l j x
                have h2 := hp.out
                rcases Nat.lt_or_ge j (place id l) with h | h
                · have := h1 h hx; omega
                · omega)
              clear hL hx
              go_wp2_with fail
              go_roundg (k - 1)
              case measure => have := hkx.out; omega
              case rel => exact ⟨k - 1, Lib.hid (Nat.le_refl _), by omega, hp2, by rw [hj], rfl⟩
            · have hkp : k = place id l := place_top HA.out HN.out hk hp.out (Or.inr ⟨x, hx, hlt⟩)
              obtain ⟨j, hj⟩ : ∃ j, k - 1 = j := ⟨_, rfl⟩
              rw [hj] at hx
              obtain ⟨g, o, rfl, hL⟩ : ∃ g o, a = some ⟨g, o, none⟩ ∧ ∃ cur, Lies uT w1 g o cc cur l := by
                rcases HH1.out.row with ⟨e, hnil⟩ | ⟨g, o, cap, cur, e, h2⟩
                · rw [hnil] at hx; simp at hx
                · cases e
                  exact ⟨g, o, rfl, cur, h2⟩
              obtain ⟨cur, hL⟩ := hL
              have q := uat hL hx
              have hw1 : IntKind.i64.wrap ((k : Int) - 1) = (j : Int) := by rw [IntKind.wrap_i64]; omega
              have hjl : j < l.length := by omega
              have hk1 : (0 : Int) < (k : Int) := by omega
              have HKP := Lib.hid hkp
              clear hL hx hkp hp
              go_wp2_with fail
              go_meet
              exact ⟨k, rfl, hk, HKP, rfl⟩
        case rest =>
        obtain ⟨k, rfl, hk, hkp, rfl⟩ := hcut
        rw [← hkp.out] at HE
        go_upto_region 10 with (fail)
        have hkc : k ≤ cc := by omega
        have P0 : Kept (fun i => w1.heap.size ≤ i) w1 (w1.alloc (.cells #[] 30)) := ((Kept.refl (fun _ => False) w1).alloc _).mono (fun _ _ f => f.elim)
        have R0 := Lib.hid (row_new w1)
        have S0 := Lib.hid (front (HH1.out.past P0).row hk)
        have HP0 := Lib.hid P0
        have c2a := (HH1.out.past P0).blk.cell (o := 2) rfl
        have HTK := Lib.hid (show (l.take k).length = k by rw [List.length_take]; omega)
        have HDK := Lib.hid (show (l.drop k).length = l.length - k by rw [List.length_drop])
        clear P0
        go_upto_region 11 with (first | (at_builtin; refine wpList_app uT rfl _ _ rfl (v := .slice (some ⟨w1.heap.size, 0, none⟩) 0 0) rfl R0.out rfl S0.out (by rw [HTK.out]; simp; omega) ?_; intro v1 wx hA1; rw [List.nil_append] at hA1; have P1 := Lib.hid (past_apd HP0.out hA1 (fun g hg => by cases hg; exact Nat.le_refl _)); have R1 := Lib.hid (hA1.row.old ((Kept.refl (fun _ => False) wx).alloc (.cells #[.int .u64 id] 30))); have S1 := Lib.hid (src_one (Blk.new wx [.int .u64 id] 30)); clear hA1 R0 S0 HP0) | (at_builtin; refine wpList_app uT rfl _ _ rfl (v := v1) rfl R1.out rfl S1.out (by rw [HTK.out]; simp; omega) ?_; intro v2 wy hA2; have P2 := Lib.hid (past_apd (P1.out.1.alloc (.cells #[.int .u64 id] 30)) hA2 P1.out.2); have HA2 := Lib.hid hA2; clear hA2 R1 S1))
        have HRy := Lib.hid (HH1.out.past P2.out.1)
        have c2 := HRy.out.blk.cell (o := 2) rfl
        have S2 := Lib.hid (back HRy.out.row hk)
        go_upto_region 12 with (at_builtin; refine wpList_app uT rfl _ _ rfl (v := v2) rfl HA2.out.row rfl S2.out (by rw [List.length_append, HTK.out, HDK.out]; simp; omega) ?_; intro v3 w3 hA3; rw [← HE.out] at hA3; obtain ⟨a3, c3, rfl, hc3, hc3'⟩ := hA3.row.slice; have P3 := Lib.hid (past_apd P2.out.1 hA3 P2.out.2); have q2 := (HH1.out.past P3.out.1).blk.cell (o := 2) rfl; have q3 := (HH1.out.past P3.out.1).blk.frozen 2; have q4 := (HH1.out.past P3.out.1).blk.lt; have HA3 := Lib.hid hA3; clear hA3)
        generalize (if cc = k then a else Option.map (fun x => x.add k) a) = af at *
        have hR3 := HH1.out.past P3.out.1
        have hcl := HH1.out.blk.lt
        have hks : Kept (fun j => j = c) w3 (w3.setCell ⟨c, 2, none⟩ (.slice a3 (ins id l).length c3)) := (Kept.refl (fun j => j = c) w3).set (fun _ => rfl) 2 _
        have hne : ∀ g, (Value.slice a3 (ins id l).length c3).ownBlock = some g → g ≠ c := fun g hg e => by have := P3.out.2 g hg; omega
        have hR4 : RfV (w3.setCell ⟨c, 2, none⟩ (.slice a3 (ins id l).length c3)) c most M (ins id l) (.slice a3 (ins id l).length c3) := ⟨hR3.blk.set 2 _, HA3.out.row.kept hks (fun g hg e => hne g hg e), fun e => hne c e rfl⟩
        have G4 := Lib.hid (rgoes_any hR4 (by rw [HIL.out]; omega) HT.out hM0 HM1.out)
        have HKS := Lib.hid hks
        have hlt3 := Lib.hid (fun g hg => HA3.out.row.lt g hg)
        clear hks hR4 hR3 hne q2 q3 q4 c2
        go_wp2_with fail
        with_reducible refine Calls.mono G4.out ?_
        rintro e w5 ⟨rfl, v5, g1, g2, g3⟩
        have HG1 := Lib.hid g1
        have HG2 := Lib.hid g2
        have HG3 := Lib.hid g3
        clear g1 g2 g3
        go_wp2_with fail
        go_ret
        refine ⟨rfl, v5, HG1.out, ?_, fun g hg => Or.inr ?_⟩
        · have ka := HK1.out.trans' P3.out.1 (fun i hi h => by have := HK1.out.size; omega)
          exact ((ka.mono (fun _ _ f => f.elim)).trans (HKS.out.mono (fun _ _ e => Or.inl e))).trans (HG2.out.mono (fun _ _ e => Or.inl e))
        · have h5 := HG1.out.row.lt g hg
          rw [HG3.out] at hg
          have := P3.out.2 g hg
          have := HK1.out.size
          exact ⟨by omega, h5⟩
      · have e : done most M l id = (4, M, l) := by
          unfold done
          rw [if_neg hb, if_neg hd, if_neg (fun e => hr (Or.inl e)), if_pos (by have : ¬ l.length < most := fun e => hr (Or.inr e); omega)]
        have RM := Lib.hid (room_any h (by omega) id h0 hE false (by rw [decide_eq_false_iff_not]; exact hr))
        rw [e]
        unfold RDoneP
        clear h e hb hE hd hr
        go_enter Try.func13, Try.ntmps13
        go_wp2_with fail
        with_reducible refine Calls.mono IS.out ?_
        rintro e w1 ⟨rfl, rfl⟩
        go_wp2_with fail
        with_reducible refine Calls.mono RM.out ?_
        rintro e w1 ⟨rfl, k1⟩
        have HK := Lib.hid k1
        clear k1
        go_wp2_with fail
        go_ret
        exact ⟨rfl, _, H.out.old HK.out, Nx.same HK.out⟩
set_option maxHeartbeats 4000000 in
theorem rretire_any {w : World} {c most : Nat} {M : Int} {l : List Int} {v : Value} (h : RfV w c most M l v) (hW : Win most M l) (hm : most ≤ 100000) (below : Int) (h0 : 0 ≤ below) :
    Calls Try.prog 15 #[.pointer (some ⟨c, 0, none⟩), .int .u64 below] w (RDoneP w c most v ((retire M l below).1 : Nat) (retire M l below).2.1 (retire M l below).2.2) := by
  have hl : l.length ≤ 100000 := Nat.le_trans hW.few hm
  have H := Lib.hid h
  have hT : ∀ x ∈ l, x ≤ top := fun x hx => (hW.over x hx).2
  have c1 := h.blk.cell (o := 1) rfl
  have f1 := h.blk.frozen 1
  have hcl := h.blk.lt
  have hlo := hW.lo
  have hhi := hW.hi
  rw [retire_ref hW below]
  unfold RDoneP
  by_cases hb : M < below
  · rw [if_pos hb]
    obtain ⟨t, ht⟩ : ∃ t, min below (top + 1) = t := ⟨_, rfl⟩
    have hmin : (if (1152921504606846977 : Int) < below then (1152921504606846977 : Int) else below) = t := by
      have : (top : Int) = 1152921504606846976 := rfl
      rw [← ht]; split <;> omega
    rw [ht]
    obtain ⟨h2, hk2⟩ := h.setMark (M2 := t)
    have G := Lib.hid (rgoes_any h2 (by omega) hT (by omega) (by omega))
    have HK2 := Lib.hid hk2
    clear h h2 hk2 hT ht hW
    go_enter Try.func15, Try.ntmps15
    go_wp2_with fail
    with_reducible refine Calls.mono G.out ?_
    rintro e w5 ⟨rfl, v5, g1, g2, g3⟩
    have HG1 := Lib.hid g1
    have HG2 := Lib.hid g2
    have HG3 := Lib.hid g3
    clear g1 g2 g3
    go_wp2_with fail
    go_ret
    exact ⟨rfl, v5, HG1.out, (HK2.out.trans HG2.out).mono (fun _ _ e => Or.inl e), fun g hg => Or.inl (by rw [← HG3.out]; exact hg)⟩
  · rw [if_neg hb]
    have G := Lib.hid (rgoes_any h (by omega) hT (by omega) hhi)
    have hb' : decide (M < below) = false := by rw [decide_eq_false_iff_not]; exact hb
    clear h hT hW hb
    go_enter Try.func15, Try.ntmps15
    go_wp2_with fail
    with_reducible refine Calls.mono G.out ?_
    rintro e w5 ⟨rfl, v5, g1, g2, g3⟩
    have HG1 := Lib.hid g1
    have HG2 := Lib.hid g2
    have HG3 := Lib.hid g3
    clear g1 g2 g3
    go_wp2_with fail
    go_ret
    exact ⟨rfl, v5, HG1.out, HG2.out.mono (fun _ _ e => Or.inl e), fun g hg => Or.inl (by rw [← HG3.out]; exact hg)⟩
end Go.Proofs.Ytaihjnonlnbhhaa.Idw
