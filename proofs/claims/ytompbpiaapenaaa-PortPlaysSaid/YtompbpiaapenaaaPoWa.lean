/- A port: Waiting. Conditions: each theorem's own. -/
import Derived.Test.YtompbpiaapenaaaPoRw
set_option linter.unusedVariables false
namespace Go.Proofs.Ytompbpiaapenaaa.Po
open Go.RowKit Hp QuM QuN Rw Qu NumM NumC
attribute [local go_sem ↓] Go.wp_at_zero Go.wp_at_succ
variable {w0 w w' : World} {b qf qc pb : Nat} {room most : Int} {trim : Bool} {ls : Nat → List Bx} {cr : List Bx} {now nxt : Int} {Ff Fc F : Nat → Prop}
/-- A line, told. -/
def lnl (ls : Nat → List Bx) (cr : List Bx) (i : Nat) : List Bx := if i < 8 then ls (7 - i) else cr
/-- The first lines, one behind the other. -/
def accL (ls : Nat → List Bx) (cr : List Bx) : Nat → List Bx
  | 0 => []
  | n + 1 => accL ls cr n ++ lnl ls cr n
theorem acc_mem {x : Bx} : ∀ {n : Nat}, n ≤ 9 → x ∈ accL ls cr n → (∃ k, k < 8 ∧ x ∈ ls k) ∨ x ∈ cr
  | 0, _, h => by cases h
  | n + 1, hn, h => by
    rcases List.mem_append.1 h with h | h
    · exact acc_mem (by omega) h
    · unfold lnl at h
      split at h
      · exact Or.inl ⟨7 - n, by omega, h⟩
      · exact Or.inr h
theorem acc_le : ∀ {n m : Nat}, n ≤ m → (accL ls cr n).length ≤ (accL ls cr m).length
  | n, 0, h => by obtain rfl : n = 0 := by omega
                  exact Nat.le_refl _
  | n, m + 1, h => by
    by_cases e : n = m + 1
    · subst e; exact Nat.le_refl _
    · have := acc_le (n := n) (m := m) (by omega); show _ ≤ (accL ls cr m ++ lnl ls cr m).length; rw [List.length_append]; omega
theorem lnl_le {i : Nat} (hi : i < 9) : (lnl ls cr i).length ≤ (accL ls cr 9).length := by
  have h := acc_le (ls := ls) (cr := cr) (n := i + 1) (m := 9) (by omega)
  have : (accL ls cr (i + 1)).length = (accL ls cr i).length + (lnl ls cr i).length := by show (accL ls cr i ++ lnl ls cr i).length = _; rw [List.length_append]
  omega
theorem line_of (hp : Prt w0 b qf qc pb room most trim ls cr now nxt Ff Fc w) {i : Nat} (hi : i < 9) (hl : (lnl ls cr i).length ≤ 100000) :
    Calls Try.prog 85 #[.pointer (some ⟨(lq qf qc i).1, 0, none⟩), .int .i64 ((lq qf qc i).2 : Nat)] w fun e w' => ∃ v', e = .returned v' ∧ Rw.Row bT w' w.heap.size v' (lnl ls cr i) ∧ Kept (fun _ => False) w w' := by
  unfold lq
  unfold lnl at hl ⊢
  split
  · rename_i h8
    rw [if_pos h8] at hl
    exact line_yes hp.fr rfl (by omega) hl
  · rename_i h8
    rw [if_neg h8] at hl
    have := line_yes hp.cq (p := 0) (K := ((0 : Nat) : Int)) rfl (by decide) (by rw [show crl cr 0 = cr from upd_self _ _ _]; exact hl)
    rw [show crl cr 0 = cr from upd_self _ _ _] at this
    exact this
abbrev ky (x : Bx) : WrM.Frm × Int := (x.f, x.q)
/-- Its data are its own. -/
def Dt (w : World) (base : Nat) (y : Bx) : Prop := Byt.Row w base (.slice y.s y.f.data.length y.c) y.f.data
/-- What Waiting leaves. -/
def WaP (w : World) (A : List Bx) (e : Ending) (w' : World) : Prop := ∃ v' W, e = .returned v' ∧ Rw.Row bT w' w.heap.size v' W ∧ W.map ky = A.map ky ∧ (∀ y ∈ W, Dt w' w.heap.size y) ∧ Kept (fun _ => False) w w'
theorem mid_set (W : List Bx) (A : List Bx) (y : Bx) (h : W.length < A.length) : (W ++ A.drop W.length).set W.length y = (W ++ [y]) ++ A.drop (W.length + 1) := by
  rw [List.set_append_right _ _ (Nat.le_refl _), Nat.sub_self, List.drop_eq_getElem_cons h, List.set_cons_zero, List.append_assoc]
  rfl
set_option maxRecDepth 100000 in
set_option maxHeartbeats 8000000 in
theorem waiting_any (h : PS w0 b room most trim ls cr now nxt F w) (hn : (accL ls cr 9).length ≤ 100000) :
    Calls Try.prog 56 #[.pointer (some ⟨b, 0, none⟩)] w (WaP w (accL ls cr 9)) := by
  obtain ⟨qf, qc, pb, Ff, Fc, hp, rfl⟩ := h
  have HP := Lib.hid hp
  have LI := Lib.hid (lines_any hp.blk)
  have RD : Hid (∀ x ∈ accL ls cr 9, Rd w x) := Lib.hid fun x hx => by
    rcases acc_mem (Nat.le_refl 9) hx with ⟨k, hk, hx⟩ | hx
    · exact (hp.gf k x hk hx).rd
    · exact (hp.gc x hx).rd
  clear hp
  have HN := Lib.hid hn
  clear hn
  go_enter Try.func56, Try.ntmps56
  go_wp2_with fail
  with_reducible refine Calls.mono LI.out ?_
  rintro e w1 ⟨v', rfl, hr1, hk1⟩
  obtain ⟨g, cap, cur, rfl, hg, hL⟩ : ∃ g cap cur, v' = .slice (some ⟨g, 0, none⟩) 9 cap ∧ w.heap.size ≤ g ∧ Lies lT w1 g cap cur (lsts qf qc 9) := by
    rcases hr1.form with ⟨_, h0⟩ | ⟨g, cap, cur, e, h1, h2⟩
    · have := lsts_len qf qc 9; rw [h0] at this; cases this
    · rw [lsts_len] at e; exact ⟨g, cap, cur, e, h1, h2⟩
  have HL := Lib.hid hL
  have HK1 := Lib.hid hk1
  have hcap : 9 ≤ cap := by have := hL.le; rw [lsts_len] at this; exact this
  clear hr1 hk1 hL LI
  go_wp2_with fail
  go_loopg [3, 13] 9 (fun mm s3 s13 wr => ∃ (i : Nat), Hid (9 - i ≤ mm) ∧ i ≤ 9 ∧ s13 = .int .i64 (i : Nat) ∧ Hid (Rw.Row bT wr w1.heap.size s3 (accL ls cr i)) ∧ Hid (Kept (fun _ => False) w1 wr))
  case atStart => exact ⟨0, Lib.hid (by omega), Nat.zero_le _, rfl, Lib.hid (Rw.Row.none bT _ _), Lib.hid (Kept.refl _ _)⟩
  case round =>
    obtain ⟨i, hmm, hi, rfl, hRr, hkl⟩ := hrel
    rcases Nat.lt_or_ge i 9 with hlt | hge
    · have hlt' : (i : Int) < 9 := by omega
      obtain ⟨d0, d1⟩ := ln_cells (HL.out.kept hkl.out (fun f => f)) (i := i) (x := lq qf qc i) (by unfold lsts; rw [List.getElem?_map, List.getElem?_range hlt]; rfl)
      have hll := lnl_le (ls := ls) (cr := cr) hlt
      have LN := Lib.hid fun (w' : World) (k : Kept (fun _ => False) w w') => line_of (HP.out.old k) hlt (Nat.le_trans hll HN.out)
      have HAI := Lib.hid (Nat.le_trans (acc_le (ls := ls) (cr := cr) hi) HN.out)
      have HLL := Lib.hid (Nat.le_trans hll HN.out)
      clear hll
      obtain ⟨q, hq⟩ : ∃ q, (lq qf qc i).1 = q := ⟨_, rfl⟩
      obtain ⟨p, hp⟩ : ∃ p, (lq qf qc i).2 = p := ⟨_, rfl⟩
      rw [hq, hp] at LN
      rw [hq] at d0
      rw [hp] at d1
      clear hq hp
      go_upto_region 7 with fail
      have hO := Blk.new wr [.pointer (some ⟨q, 0, none⟩), .int .i64 (p : Nat)] 99
      have hk := (Kept.refl (fun _ => False) wr).alloc (.cells [.pointer (some ⟨q, 0, none⟩), .int .i64 (p : Nat)].toArray 99)
      dsimp only [List.toArray] at hO hk
      have HR2 := Lib.hid (hRr.out.old hk)
      have HK2 := Lib.hid (hkl.out.trans hk)
      generalize wr.alloc (.cells #[.pointer (some ⟨q, 0, none⟩), .int .i64 (p : Nat)] 99) = w2 at *
      generalize wr.heap.size = ob at *
      have c0 := hO.cell (o := 0) rfl
      have c1 := hO.cell (o := 1) rfl
      clear hO hk hRr hkl d0 d1
      go_wp2_with fail
      with_reducible refine Calls.mono (LN.out _ (HK1.out.trans HK2.out)) ?_
      rintro e w3 ⟨v3, rfl, hr3, hk3⟩
      have HR3 := Lib.hid (HR2.out.old hk3)
      have HK3 := Lib.hid (HK2.out.trans hk3)
      have HS3 := Lib.hid (row_src hr3)
      clear hr3 hk3 c0 c1 LN HR2 HK2
      go_wp2_with (refine wpList_app bT rfl _ _ rfl w1.heap.size rfl HR3.out rfl HS3.out (by have := HAI.out; have := HLL.out; omega) HK3.out.size ?_; rintro v5 w5 hA)
      have HR5 : Hid (Rw.Row bT w5 w1.heap.size v5 (accL ls cr (i + 1))) := Lib.hid hA.row
      have HK5 : Hid (Kept (fun _ => False) w1 w5) := Lib.hid (HK3.out.trans' hA.kept (fun k hk e => by have := (HR3.out.lt k e).1; omega))
      clear hA HR3 HK3 HS3
      go_wp2_with fail
      go_roundg (9 - (i + 1))
      case measure => have := hmm.out; omega
      case rel => exact ⟨i + 1, Lib.hid (Nat.le_refl _), by omega, by go_num, HR5, HK5⟩
    · obtain rfl : i = 9 := by omega
      clear HL hcap
      obtain ⟨av, cv, e, hc1, hc2⟩ := hRr.out.slice
      subst e
      have HK0 : Hid (Kept (fun _ => False) w wr) := Lib.hid (HK1.out.trans hkl.out)
      have hwr : w1.heap.size ≤ wr.heap.size := hkl.out.size
      obtain ⟨A, hA⟩ : ∃ A, accL ls cr 9 = A := ⟨_, rfl⟩
      rw [hA] at hRr hc1 HN RD ⊢
      have HAE := Lib.hid hA
      clear hA hge hmm HP hkl
      obtain ⟨n, hn⟩ : ∃ n, A.length = n := ⟨_, rfl⟩
      have HNE := Lib.hid hn
      rw [hn] at hRr hc1 HN ⊢
      have hn5 := HN.out
      clear hn
      have hbase : w.heap.size ≤ w1.heap.size := HK1.out.size
      have HG : Hid (∀ g, (Value.slice av n cv).ownBlock = some g → w1.heap.size ≤ g ∧ g < wr.heap.size) := Lib.hid fun g hg => hRr.out.lt g hg
      obtain ⟨zb, hzb⟩ : ∃ zb, wr.heap.size = zb := ⟨_, rfl⟩
      rw [hzb] at HG hwr
      have HZB := Lib.hid hzb
      clear hzb
      go_wp2_with fail
      go_loopg [27] n (fun mm s27 wr => ∃ (k : Nat) (W : List Bx), Hid (n - k ≤ mm) ∧ k ≤ n ∧ s27 = .int .i64 (k : Nat) ∧ Hid (W.length = k ∧ W.map ky = (A.take k).map ky ∧ ∀ y ∈ W, Dt wr zb y) ∧ Hid (Rw.Row bT wr w1.heap.size (.slice av n cv) (W ++ A.drop k)) ∧ Hid (Kept (fun _ => False) w wr) ∧ Hid (zb ≤ wr.heap.size))
      case atStart => exact ⟨0, [], Lib.hid (by omega), Nat.zero_le _, rfl, Lib.hid ⟨rfl, rfl, fun y hy => by cases hy⟩, hRr, HK0, Lib.hid (Nat.le_of_eq HZB.out.symm)⟩
      case round =>
        obtain ⟨k, W, hmm, hk, rfl, hW, hRx, hKx, hsx⟩ := hrel
        rcases Nat.lt_or_ge k n with hlt | hge
        · have hlt' : (k : Int) < (n : Int) := by omega
          have hkA : k < A.length := by rw [HNE.out]; exact hlt
          obtain ⟨x, hx⟩ : ∃ x, A[k]? = some x := ⟨_, List.getElem?_eq_getElem hkA⟩
          have hWl := hW.out.1
          have hlen : (W ++ A.drop k).length = n := by rw [List.length_append, List.length_drop, hWl, HNE.out]; omega
          have hat : (W ++ A.drop k)[k]? = some x := by rw [List.getElem?_append_right (by omega), hWl, Nat.sub_self, List.getElem?_drop, Nat.add_zero]; exact hx
          obtain ⟨g, cur, hav, hL⟩ : ∃ g cur, av = some ⟨g, 0, none⟩ ∧ Lies bT wr g cv cur (W ++ A.drop k) := by
            rcases hRx.out.form with ⟨_, h0⟩ | ⟨g, cap, cur, e, h1, h2⟩
            · rw [h0] at hlen; simp at hlen; omega
            · cases e; exact ⟨g, cur, rfl, h2⟩
          subst hav
          obtain ⟨hg1, hg2⟩ := HG.out g rfl
          have hRd := (RD.out x (List.mem_of_getElem? hx)).old hKx.out
          have hst : (A.take (k + 1)).map ky = (A.take k).map ky ++ [ky x] := by rw [List.take_add_one, hx, List.map_append]; rfl
          have HL := Lib.hid hL
          have HAT := Lib.hid hat
          have HST := Lib.hid hst
          have hks := hsx.out
          have CP := Lib.hid fun (w' : World) (kk : Kept (fun _ => False) wr w') => copied_any (hRd.old kk)
          obtain ⟨d0, d1, d2, d3, d4, d5, d6, d7, d8, d9, d10⟩ := bx_cells hL hat
          obtain ⟨⟨x1, x2, x3, x4, x5, x6, x7, x8, x9, xd⟩, xa, xc, xq⟩ := x
          clear hx hlen hat hL hRd hst hRx hkA
          go_upto_region 12 with fail
          have hO := Blk.new wr [.int .i64 x1, .int .i64 x2, .int .i64 x3, .int .i64 x4, .int .u64 (x5 : Int), .int .i64 x6, .int .i64 x7, .int .i64 x8, .int .i64 x9, .slice xa xd.length xc, .int .i64 xq] 40
          have hkk := (Kept.refl (fun _ => False) wr).alloc (.cells [.int .i64 x1, .int .i64 x2, .int .i64 x3, .int .i64 x4, .int .u64 (x5 : Int), .int .i64 x6, .int .i64 x7, .int .i64 x8, .int .i64 x9, .slice xa xd.length xc, .int .i64 xq].toArray 40)
          dsimp only [List.toArray] at hO hkk
          have HKK := Lib.hid hkk
          have hsz : (wr.alloc (.cells #[.int .i64 x1, .int .i64 x2, .int .i64 x3, .int .i64 x4, .int .u64 (x5 : Int), .int .i64 x6, .int .i64 x7, .int .i64 x8, .int .i64 x9, .slice xa xd.length xc, .int .i64 xq] 40)).heap.size = wr.heap.size + 1 := by simp
          generalize wr.alloc (.cells #[.int .i64 x1, .int .i64 x2, .int .i64 x3, .int .i64 x4, .int .u64 (x5 : Int), .int .i64 x6, .int .i64 x7, .int .i64 x8, .int .i64 x9, .slice xa xd.length xc, .int .i64 xq] 40) = w2 at *
          generalize wr.heap.size = ob at *
          have c0 := hO.cell (o := 0) rfl
          have c1 := hO.cell (o := 1) rfl
          have c2 := hO.cell (o := 2) rfl
          have c3 := hO.cell (o := 3) rfl
          have c4 := hO.cell (o := 4) rfl
          have c5 := hO.cell (o := 5) rfl
          have c6 := hO.cell (o := 6) rfl
          have c7 := hO.cell (o := 7) rfl
          have c8 := hO.cell (o := 8) rfl
          have c9 := hO.cell (o := 9) rfl
          have c10 := hO.cell (o := 10) rfl
          clear hO hkk d0 d1 d2 d3 d4 d5 d6 d7 d8 d9 d10
          go_wp2_with fail
          with_reducible refine Calls.mono (CP.out _ HKK.out) ?_
          rintro e w3 ⟨s, c, rfl, hR3, hk3⟩
          have hk03 := HKK.out.trans hk3
          have hL3 := HL.out.kept hk03 (fun f => f)
          obtain ⟨n0, n1, n2, n3, n4, n5, n6, n7, n8, n9, n10⟩ := bx_cells hL3 HAT.out
          have fz0 := hL3.blk.frozen (k * 11)
          have fz1 := hL3.blk.frozen (k * 11 + 1)
          have fz2 := hL3.blk.frozen (k * 11 + 2)
          have fz3 := hL3.blk.frozen (k * 11 + 3)
          have fz4 := hL3.blk.frozen (k * 11 + 4)
          have fz5 := hL3.blk.frozen (k * 11 + 5)
          have fz6 := hL3.blk.frozen (k * 11 + 6)
          have fz7 := hL3.blk.frozen (k * 11 + 7)
          have fz8 := hL3.blk.frozen (k * 11 + 8)
          have fz9 := hL3.blk.frozen (k * 11 + 9)
          have fz10 := hL3.blk.frozen (k * 11 + 10)
          have HR : Hid (Rw.Row bT (setB w3 g k ⟨⟨x1, x2, x3, x4, x5, x6, x7, x8, x9, xd⟩, s, c, xq⟩) w1.heap.size (.slice (some ⟨g, 0, none⟩) n cv) ((W ++ [⟨⟨x1, x2, x3, x4, x5, x6, x7, x8, x9, xd⟩, s, c, xq⟩]) ++ A.drop (k + 1))) := by
            have hl2 : (W ++ A.drop k).length = n := by rw [List.length_append, List.length_drop, hWl, HNE.out]; omega
            have h1 := setB_lies hL3 (i := k) (by rw [hl2]; exact hlt) ⟨⟨x1, x2, x3, x4, x5, x6, x7, x8, x9, xd⟩, s, c, xq⟩
            have e := mid_set W A ⟨⟨x1, x2, x3, x4, x5, x6, x7, x8, x9, xd⟩, s, c, xq⟩ (by rw [hWl, HNE.out]; exact hlt)
            rw [hWl] at e
            rw [e] at h1
            have hl3 : ((W ++ [(⟨⟨x1, x2, x3, x4, x5, x6, x7, x8, x9, xd⟩, s, c, xq⟩ : Bx)]) ++ A.drop (k + 1)).length = n := by rw [List.length_append, List.length_append, List.length_drop, hWl, HNE.out, List.length_singleton]; omega
            have h2 := h1.row hg1
            rw [hl3] at h2
            exact Lib.hid h2
          have HKS : Hid (Kept (fun _ => False) w (setB w3 g k ⟨⟨x1, x2, x3, x4, x5, x6, x7, x8, x9, xd⟩, s, c, xq⟩)) := Lib.hid ((hKx.out.trans hk03).trans' (setB_kept w3 g k _) (fun i hi e => by omega))
          have HSZ : Hid (zb ≤ (setB w3 g k ⟨⟨x1, x2, x3, x4, x5, x6, x7, x8, x9, xd⟩, s, c, xq⟩).heap.size) := Lib.hid (Nat.le_trans (by have := hk3.size; omega) (setB_kept w3 g k ⟨⟨x1, x2, x3, x4, x5, x6, x7, x8, x9, xd⟩, s, c, xq⟩).size)
          have HW : Hid ((W ++ [(⟨⟨x1, x2, x3, x4, x5, x6, x7, x8, x9, xd⟩, s, c, xq⟩ : Bx)]).length = k + 1 ∧ (W ++ [(⟨⟨x1, x2, x3, x4, x5, x6, x7, x8, x9, xd⟩, s, c, xq⟩ : Bx)]).map ky = (A.take (k + 1)).map ky ∧ ∀ y ∈ W ++ [(⟨⟨x1, x2, x3, x4, x5, x6, x7, x8, x9, xd⟩, s, c, xq⟩ : Bx)], Dt (setB w3 g k ⟨⟨x1, x2, x3, x4, x5, x6, x7, x8, x9, xd⟩, s, c, xq⟩) zb y) := by
            refine Lib.hid ⟨by rw [List.length_append, hWl]; rfl, by rw [List.map_append, hW.out.2.1, HST.out]; rfl, fun y hy => ?_⟩
            rcases List.mem_append.1 hy with hy | hy
            · have h1 := hW.out.2.2 y hy
              exact ((h1.kept hk03 (fun _ _ f => f)).kept (setB_kept w3 g k _) (fun g' hg' e => by have := (Byt.Row.lt h1 g' hg').1; omega))
            · rw [List.mem_singleton] at hy
              subst hy
              exact (hR3.kept (setB_kept w3 g k _) (fun g' hg' e => by have := (hR3.lt g' hg').1; omega)).base (fun g' hg' => by have := (hR3.lt g' hg').1; omega)
          unfold setB at HR HKS HSZ HW
          dsimp only at HR HKS HSZ HW
          clear hk03 hL3 hR3 hk3 HL HAT HST CP HKK hW hKx hsx hks
          go_wp2_with fail
          go_roundg (n - (k + 1))
          case measure => have := hmm.out; omega
          case rel => exact ⟨k + 1, _, Lib.hid (Nat.le_refl _), by omega, by go_num, HW, HR, HKS, HSZ⟩
        · have hge' : ¬ ((k : Int) < (n : Int)) := by omega
          obtain rfl : k = n := by omega
          have R : Hid (WaP w A (.returned (.slice av k cv)) wr) := by
            obtain ⟨h1, h2, h3⟩ := hW.out
            have h4 := hRx.out
            have e1 : A.take k = A := by rw [← HNE.out]; exact List.take_length
            have e2 : A.drop k = [] := by rw [← HNE.out]; exact List.drop_length
            rw [e1] at h2
            rw [e2, List.append_nil] at h4
            exact Lib.hid ⟨_, W, rfl, h4.base (fun g hg => by have := (h4.lt g hg).1; omega), h2, fun y hy => (h3 y hy).base (fun g hg => by have := (Byt.Row.lt (h3 y hy) g hg).1; omega), hKx.out⟩
          clear hW hRx hKx hsx
          go_wp2_with fail
          go_ret
          rw [HAE.out]
          exact R.out
end Go.Proofs.Ytompbpiaapenaaa.Po
