/- A port: Waiting. Conditions: each theorem's own. -/
import Derived.Test.YtompbpiaapenaaaFbK11
import Derived.Test.YtompbpiaapenaaaFbK7
set_option linter.unusedVariables false
set_option linter.unusedSimpArgs false
namespace Go.Proofs.Ytompbpiaapenaaa.Po
open Go.RowKit Hp QuM QuN Rw Qu NumM NumC
attribute [local go_sem ↓] Go.wp_at_zero Go.wp_at_succ
variable {w0 w w' : World} {b qf qc pb : Nat} {room most : Int} {trim : Bool} {ls : Nat → List Bx} {cr : List Bx} {now nxt : Int} {Ff Fc F : Nat → Prop}
/-- A line, told. -/
def lnl (ls : Nat → List Bx) (cr : List Bx) (i : Nat) : List Bx := if i < 8 then ls (7 - i) else cr
/-- The first lines, one behind the other. -/
def accL (ls : Nat → List Bx) (cr : List Bx) : Nat → List Bx
  | 0 => []
  | n + 1 => accL ls cr n ++ lnl ls cr n
theorem acc_mem {x : Bx} : ∀ {n : Nat}, n ≤ 9 → x ∈ accL ls cr n → (∃ k, k < 8 ∧ x ∈ ls k) ∨ x ∈ cr
  | 0, _, h => by cases h
  | n + 1, hn, h => by
    rcases List.mem_append.1 h with h | h
    · exact acc_mem (by omega) h
    · unfold lnl at h
      split at h
      · exact Or.inl ⟨7 - n, by omega, h⟩
      · exact Or.inr h
theorem acc_le : ∀ {n m : Nat}, n ≤ m → (accL ls cr n).length ≤ (accL ls cr m).length
  | n, 0, h => by obtain rfl : n = 0 := by omega
                  exact Nat.le_refl _
  | n, m + 1, h => by
    by_cases e : n = m + 1
    · subst e; exact Nat.le_refl _
    · have := acc_le (n := n) (m := m) (by omega); show _ ≤ (accL ls cr m ++ lnl ls cr m).length; rw [List.length_append]; omega
theorem lnl_le {i : Nat} (hi : i < 9) : (lnl ls cr i).length ≤ (accL ls cr 9).length := by
  have h := acc_le (ls := ls) (cr := cr) (n := i + 1) (m := 9) (by omega)
  have : (accL ls cr (i + 1)).length = (accL ls cr i).length + (lnl ls cr i).length := by show (accL ls cr i ++ lnl ls cr i).length = _; rw [List.length_append]
  omega
theorem line_of (hp : Prt w0 b qf qc pb room most trim ls cr now nxt Ff Fc w) {i : Nat} (hi : i < 9) (hl : (lnl ls cr i).length ≤ 100000) :
    Calls Try.prog 85 #[.pointer (some ⟨(lq qf qc i).1, 0, none⟩), .int .i64 ((lq qf qc i).2 : Nat)] w fun e w' => ∃ v', e = .returned v' ∧ Rw.Row bT w' w.heap.size v' (lnl ls cr i) ∧ Kept (fun _ => False) w w' := by
  unfold lq
  unfold lnl at hl ⊢
  split
  · rename_i h8
    rw [if_pos h8] at hl
    exact line_yes hp.fr rfl (by omega) hl
  · rename_i h8
    rw [if_neg h8] at hl
    have := line_yes hp.cq (p := 0) (K := ((0 : Nat) : Int)) rfl (by decide) (by rw [show crl cr 0 = cr from upd_self _ _ _]; exact hl)
    rw [show crl cr 0 = cr from upd_self _ _ _] at this
    exact this
abbrev ky (x : Bx) : WrM.Frm × Int := (x.f, x.q)
/-- Its data are its own. -/
def Dt (w : World) (base : Nat) (y : Bx) : Prop := Byt.Row w base (.slice y.s y.f.data.length y.c) y.f.data
/-- What Waiting leaves. -/
def WaP (w : World) (A : List Bx) (e : Ending) (w' : World) : Prop := ∃ v' W, e = .returned v' ∧ Rw.Row bT w' w.heap.size v' W ∧ W.map ky = A.map ky ∧ (∀ y ∈ W, Dt w' w.heap.size y) ∧ Kept (fun _ => False) w w'
theorem mid_set (W : List Bx) (A : List Bx) (y : Bx) (h : W.length < A.length) : (W ++ A.drop W.length).set W.length y = (W ++ [y]) ++ A.drop (W.length + 1) := by
  rw [List.set_append_right _ _ (Nat.le_refl _), Nat.sub_self, List.drop_eq_getElem_cons h, List.set_cons_zero, List.append_assoc]
  rfl
set_option maxRecDepth 100000 in
set_option maxHeartbeats 8000000 in
theorem waiting_any (h : PS w0 b room most trim ls cr now nxt F w) (hn : (accL ls cr 9).length ≤ 100000) :
    Calls Try.prog 56 #[.pointer (some ⟨b, 0, none⟩)] w (WaP w (accL ls cr 9)) := by
  obtain ⟨qf, qc, pb, Ff, Fc, hp, rfl⟩ := h
  have HP := Lib.hid hp
  have LI := Lib.hid (lines_any hp.blk)
  have RD : Hid (∀ x ∈ accL ls cr 9, Rd w x) := Lib.hid fun x hx => by
    rcases acc_mem (Nat.le_refl 9) hx with ⟨k, hk, hx⟩ | hx
    · exact (hp.gf k x hk hx).rd
    · exact (hp.gc x hx).rd
  clear hp
  have HN := Lib.hid hn
  clear hn
  go_enter Try.func56, Try.ntmps56
  go_wp2_with fail
  with_reducible refine Calls.mono LI.out ?_
  rintro e w1 ⟨v', rfl, hr1, hk1⟩
  obtain ⟨g, cap, cur, rfl, hg, hL⟩ : ∃ g cap cur, v' = .slice (some ⟨g, 0, none⟩) 9 cap ∧ w.heap.size ≤ g ∧ Lies lT w1 g cap cur (lsts qf qc 9) := by
    rcases hr1.form with ⟨_, h0⟩ | ⟨g, cap, cur, e, h1, h2⟩
    · have := lsts_len qf qc 9; rw [h0] at this; cases this
    · rw [lsts_len] at e; exact ⟨g, cap, cur, e, h1, h2⟩
  have HL := Lib.hid hL
  have HK1 := Lib.hid hk1
  have hcap : 9 ≤ cap := by have := hL.le; rw [lsts_len] at this; exact this
  clear hr1 hk1 hL LI
  go_wp2_with fail
  go_loopg [3, 13] 9 (fun mm s3 s13 wr => ∃ (i : Nat), Hid (9 - i ≤ mm) ∧ i ≤ 9 ∧ s13 = .int .i64 (i : Nat) ∧ Hid (Rw.Row bT wr w1.heap.size s3 (accL ls cr i)) ∧ Hid (Kept (fun _ => False) w1 wr))
  case atStart => exact ⟨0, Lib.hid (by omega), Nat.zero_le _, rfl, Lib.hid (Rw.Row.none bT _ _), Lib.hid (Kept.refl _ _)⟩
  case round =>
    obtain ⟨i, hmm, hi, rfl, hRr, hkl⟩ := hrel
    rcases Nat.lt_or_ge i 9 with hlt | hge
    · have hlt' : (i : Int) < 9 := by omega
      obtain ⟨d0, d1⟩ := ln_cells (HL.out.kept hkl.out (fun f => f)) (i := i) (x := lq qf qc i) (by unfold lsts; rw [List.getElem?_map, List.getElem?_range hlt]; rfl)
      have hll := lnl_le (ls := ls) (cr := cr) hlt
      have LN := Lib.hid fun (w' : World) (k : Kept (fun _ => False) w w') => line_of (HP.out.old k) hlt (Nat.le_trans hll HN.out)
      have HAI := Lib.hid (Nat.le_trans (acc_le (ls := ls) (cr := cr) hi) HN.out)
      have HLL := Lib.hid (Nat.le_trans hll HN.out)
      clear hll
      obtain ⟨q, hq⟩ : ∃ q, (lq qf qc i).1 = q := ⟨_, rfl⟩
      obtain ⟨p, hp⟩ : ∃ p, (lq qf qc i).2 = p := ⟨_, rfl⟩
      rw [hq, hp] at LN
      rw [hq] at d0
      rw [hp] at d1
      clear hq hp
      go_upto_region 7 with fail
      have hO := Blk.new wr [.pointer (some ⟨q, 0, none⟩), .int .i64 (p : Nat)] 99
      have hk := (Kept.refl (fun _ => False) wr).alloc (.cells [.pointer (some ⟨q, 0, none⟩), .int .i64 (p : Nat)].toArray 99)
      dsimp only [List.toArray] at hO hk
      have HR2 := Lib.hid (hRr.out.old hk)
      have HK2 := Lib.hid (hkl.out.trans hk)
      generalize wr.alloc (.cells #[.pointer (some ⟨q, 0, none⟩), .int .i64 (p : Nat)] 99) = w2 at *
      generalize wr.heap.size = ob at *
      have c0 := hO.cell (o := 0) rfl
      have c1 := hO.cell (o := 1) rfl
      clear hO hk hRr hkl d0 d1
      go_wp2_with fail
      with_reducible refine Calls.mono (LN.out _ (HK1.out.trans HK2.out)) ?_
      rintro e w3 ⟨v3, rfl, hr3, hk3⟩
      have HR3 := Lib.hid (HR2.out.old hk3)
      have HK3 := Lib.hid (HK2.out.trans hk3)
      have HS3 := Lib.hid (row_src hr3)
      clear hr3 hk3 c0 c1 LN HR2 HK2
      go_wp2_with (refine wpList_app bT rfl _ _ rfl w1.heap.size rfl HR3.out rfl HS3.out (by have := HAI.out; have := HLL.out; omega) HK3.out.size ?_; rintro v5 w5 hA)
      have HR5 : Hid (Rw.Row bT w5 w1.heap.size v5 (accL ls cr (i + 1))) := Lib.hid hA.row
      have HK5 : Hid (Kept (fun _ => False) w1 w5) := Lib.hid (HK3.out.trans' hA.kept (fun k hk e => by have := (HR3.out.lt k e).1; omega))
      clear hA HR3 HK3 HS3
      go_wp2_with fail
      go_roundg (9 - (i + 1))
      case measure => have := hmm.out; omega
      case rel => exact ⟨i + 1, Lib.hid (Nat.le_refl _), by omega, by go_num, HR5, HK5⟩
    · obtain rfl : i = 9 := by omega
      clear HL hcap
      obtain ⟨av, cv, e, hc1, hc2⟩ := hRr.out.slice
      subst e
      have HK0 : Hid (Kept (fun _ => False) w wr) := Lib.hid (HK1.out.trans hkl.out)
      have hwr : w1.heap.size ≤ wr.heap.size := hkl.out.size
      obtain ⟨A, hA⟩ : ∃ A, accL ls cr 9 = A := ⟨_, rfl⟩
      rw [hA] at hRr hc1 HN RD ⊢
      have HAE := Lib.hid hA
      clear hA hge hmm HP hkl
      obtain ⟨n, hn⟩ : ∃ n, A.length = n := ⟨_, rfl⟩
      have HNE := Lib.hid hn
      rw [hn] at hRr hc1 HN ⊢
      have hn5 := HN.out
      clear hn
      have hbase : w.heap.size ≤ w1.heap.size := HK1.out.size
      have HG : Hid (∀ g, (Value.slice av n cv).ownBlock = some g → w1.heap.size ≤ g ∧ g < wr.heap.size) := Lib.hid fun g hg => hRr.out.lt g hg
      obtain ⟨zb, hzb⟩ : ∃ zb, wr.heap.size = zb := ⟨_, rfl⟩
      rw [hzb] at HG hwr
      have HZB := Lib.hid hzb
      clear hzb
      go_wp2_with fail
      go_loopg [27] n (fun mm s27 wr => ∃ (k : Nat) (W : List Bx), Hid (n - k ≤ mm) ∧ k ≤ n ∧ s27 = .int .i64 (k : Nat) ∧ Hid (W.length = k ∧ W.map ky = (A.take k).map ky ∧ ∀ y ∈ W, Dt wr zb y) ∧ Hid (Rw.Row bT wr w1.heap.size (.slice av n cv) (W ++ A.drop k)) ∧ Hid (Kept (fun _ => False) w wr) ∧ Hid (zb ≤ wr.heap.size))
      case atStart => exact ⟨0, [], Lib.hid (by omega), Nat.zero_le _, rfl, Lib.hid ⟨rfl, rfl, fun y hy => by cases hy⟩, hRr, HK0, Lib.hid (Nat.le_of_eq HZB.out.symm)⟩
      case round =>
        obtain ⟨k, W, hmm, hk, rfl, hW, hRx, hKx, hsx⟩ := hrel
        rcases Nat.lt_or_ge k n with hlt | hge
        · have hlt' : (k : Int) < (n : Int) := by omega
          have hkA : k < A.length := by rw [HNE.out]; exact hlt
          obtain ⟨x, hx⟩ : ∃ x, A[k]? = some x := ⟨_, List.getElem?_eq_getElem hkA⟩
          have hWl := hW.out.1
          have hlen : (W ++ A.drop k).length = n := by rw [List.length_append, List.length_drop, hWl, HNE.out]; omega
          have hat : (W ++ A.drop k)[k]? = some x := by rw [List.getElem?_append_right (by omega), hWl, Nat.sub_self, List.getElem?_drop, Nat.add_zero]; exact hx
          obtain ⟨g, cur, hav, hL⟩ : ∃ g cur, av = some ⟨g, 0, none⟩ ∧ Lies bT wr g cv cur (W ++ A.drop k) := by
            rcases hRx.out.form with ⟨_, h0⟩ | ⟨g, cap, cur, e, h1, h2⟩
            · rw [h0] at hlen; simp at hlen; omega
            · cases e; exact ⟨g, cur, rfl, h2⟩
          subst hav
          obtain ⟨hg1, hg2⟩ := HG.out g rfl
          have hRd := (RD.out x (List.mem_of_getElem? hx)).old hKx.out
          have hst : (A.take (k + 1)).map ky = (A.take k).map ky ++ [ky x] := by rw [List.take_add_one, hx, List.map_append]; rfl
          have HL := Lib.hid hL
          have HAT := Lib.hid hat
          have HST := Lib.hid hst
          have hks := hsx.out
          have CP := Lib.hid fun (w' : World) (kk : Kept (fun _ => False) wr w') => copied_any (hRd.old kk)
          obtain ⟨d0, d1, d2, d3, d4, d5, d6, d7, d8, d9, d10⟩ := bx_cells hL hat
          obtain ⟨⟨x1, x2, x3, x4, x5, x6, x7, x8, x9, xd⟩, xa, xc, xq⟩ := x
          clear hx hlen hat hL hRd hst hRx hkA
          go_upto_region 12 with fail
          have hO := Blk.new wr [.int .i64 x1, .int .i64 x2, .int .i64 x3, .int .i64 x4, .int .u64 (x5 : Int), .int .i64 x6, .int .i64 x7, .int .i64 x8, .int .i64 x9, .slice xa xd.length xc, .int .i64 xq] 40
          have hkk := (Kept.refl (fun _ => False) wr).alloc (.cells [.int .i64 x1, .int .i64 x2, .int .i64 x3, .int .i64 x4, .int .u64 (x5 : Int), .int .i64 x6, .int .i64 x7, .int .i64 x8, .int .i64 x9, .slice xa xd.length xc, .int .i64 xq].toArray 40)
          dsimp only [List.toArray] at hO hkk
          have HKK := Lib.hid hkk
          have hsz : (wr.alloc (.cells #[.int .i64 x1, .int .i64 x2, .int .i64 x3, .int .i64 x4, .int .u64 (x5 : Int), .int .i64 x6, .int .i64 x7, .int .i64 x8, .int .i64 x9, .slice xa xd.length xc, .int .i64 xq] 40)).heap.size = wr.heap.size + 1 := by simp
          generalize wr.alloc (.cells #[.int .i64 x1, .int .i64 x2, .int .i64 x3, .int .i64 x4, .int .u64 (x5 : Int), .int .i64 x6, .int .i64 x7, .int .i64 x8, .int .i64 x9, .slice xa xd.length xc, .int .i64 xq] 40) = w2 at *
          generalize wr.heap.size = ob at *
          have c0 := hO.cell (o := 0) rfl
          have c1 := hO.cell (o := 1) rfl
          have c2 := hO.cell (o := 2) rfl
          have c3 := hO.cell (o := 3) rfl
          have c4 := hO.cell (o := 4) rfl
          have c5 := hO.cell (o := 5) rfl
          have c6 := hO.cell (o := 6) rfl
          have c7 := hO.cell (o := 7) rfl
          have c8 := hO.cell (o := 8) rfl
          have c9 := hO.cell (o := 9) rfl
          have c10 := hO.cell (o := 10) rfl
          clear hO hkk d0 d1 d2 d3 d4 d5 d6 d7 d8 d9 d10
          go_wp2_with fail
          with_reducible refine Calls.mono (CP.out _ HKK.out) ?_
          rintro e w3 ⟨s, c, rfl, hR3, hk3⟩
          have hk03 := HKK.out.trans hk3
          have hL3 := HL.out.kept hk03 (fun f => f)
          obtain ⟨n0, n1, n2, n3, n4, n5, n6, n7, n8, n9, n10⟩ := bx_cells hL3 HAT.out
          have fz0 := hL3.blk.frozen (k * 11)
          have fz1 := hL3.blk.frozen (k * 11 + 1)
          have fz2 := hL3.blk.frozen (k * 11 + 2)
          have fz3 := hL3.blk.frozen (k * 11 + 3)
          have fz4 := hL3.blk.frozen (k * 11 + 4)
          have fz5 := hL3.blk.frozen (k * 11 + 5)
          have fz6 := hL3.blk.frozen (k * 11 + 6)
          have fz7 := hL3.blk.frozen (k * 11 + 7)
          have fz8 := hL3.blk.frozen (k * 11 + 8)
          have fz9 := hL3.blk.frozen (k * 11 + 9)
          have fz10 := hL3.blk.frozen (k * 11 + 10)
          have HR : Hid (Rw.Row bT (setB w3 g k ⟨⟨x1, x2, x3, x4, x5, x6, x7, x8, x9, xd⟩, s, c, xq⟩) w1.heap.size (.slice (some ⟨g, 0, none⟩) n cv) ((W ++ [⟨⟨x1, x2, x3, x4, x5, x6, x7, x8, x9, xd⟩, s, c, xq⟩]) ++ A.drop (k + 1))) := by
            have hl2 : (W ++ A.drop k).length = n := by rw [List.length_append, List.length_drop, hWl, HNE.out]; omega
            have h1 := setB_lies hL3 (i := k) (by rw [hl2]; exact hlt) ⟨⟨x1, x2, x3, x4, x5, x6, x7, x8, x9, xd⟩, s, c, xq⟩
            have e := mid_set W A ⟨⟨x1, x2, x3, x4, x5, x6, x7, x8, x9, xd⟩, s, c, xq⟩ (by rw [hWl, HNE.out]; exact hlt)
            rw [hWl] at e
            rw [e] at h1
            have hl3 : ((W ++ [(⟨⟨x1, x2, x3, x4, x5, x6, x7, x8, x9, xd⟩, s, c, xq⟩ : Bx)]) ++ A.drop (k + 1)).length = n := by rw [List.length_append, List.length_append, List.length_drop, hWl, HNE.out, List.length_singleton]; omega
            have h2 := h1.row hg1
            rw [hl3] at h2
            exact Lib.hid h2
          have HKS : Hid (Kept (fun _ => False) w (setB w3 g k ⟨⟨x1, x2, x3, x4, x5, x6, x7, x8, x9, xd⟩, s, c, xq⟩)) := Lib.hid ((hKx.out.trans hk03).trans' (setB_kept w3 g k _) (fun i hi e => by omega))
          have HSZ : Hid (zb ≤ (setB w3 g k ⟨⟨x1, x2, x3, x4, x5, x6, x7, x8, x9, xd⟩, s, c, xq⟩).heap.size) := Lib.hid (Nat.le_trans (by have := hk3.size; omega) (setB_kept w3 g k ⟨⟨x1, x2, x3, x4, x5, x6, x7, x8, x9, xd⟩, s, c, xq⟩).size)
          have HW : Hid ((W ++ [(⟨⟨x1, x2, x3, x4, x5, x6, x7, x8, x9, xd⟩, s, c, xq⟩ : Bx)]).length = k + 1 ∧ (W ++ [(⟨⟨x1, x2, x3, x4, x5, x6, x7, x8, x9, xd⟩, s, c, xq⟩ : Bx)]).map ky = (A.take (k + 1)).map ky ∧ ∀ y ∈ W ++ [(⟨⟨x1, x2, x3, x4, x5, x6, x7, x8, x9, xd⟩, s, c, xq⟩ : Bx)], Dt (setB w3 g k ⟨⟨x1, x2, x3, x4, x5, x6, x7, x8, x9, xd⟩, s, c, xq⟩) zb y) := by
            refine Lib.hid ⟨by rw [List.length_append, hWl]; rfl, by rw [List.map_append, hW.out.2.1, HST.out]; rfl, fun y hy => ?_⟩
            rcases List.mem_append.1 hy with hy | hy
            · have h1 := hW.out.2.2 y hy
              exact ((h1.kept hk03 (fun _ _ f => f)).kept (setB_kept w3 g k _) (fun g' hg' e => by have := (Byt.Row.lt h1 g' hg').1; omega))
            · rw [List.mem_singleton] at hy
              subst hy
              exact (hR3.kept (setB_kept w3 g k _) (fun g' hg' e => by have := (hR3.lt g' hg').1; omega)).base (fun g' hg' => by have := (hR3.lt g' hg').1; omega)
          unfold setB at HR HKS HSZ HW
          dsimp only at HR HKS HSZ HW
          clear hk03 hL3 hR3 hk3 HL HAT HST CP HKK hW hKx hsx hks
          go_wp2_with fail
          go_roundg (n - (k + 1))
          case measure => have := hmm.out; omega
          case rel => exact ⟨k + 1, _, Lib.hid (Nat.le_refl _), by omega, by go_num, HW, HR, HKS, HSZ⟩
        · have hge' : ¬ ((k : Int) < (n : Int)) := by omega
          obtain rfl : k = n := by omega
          have R : Hid (WaP w A (.returned (.slice av k cv)) wr) := by
            obtain ⟨h1, h2, h3⟩ := hW.out
            have h4 := hRx.out
            have e1 : A.take k = A := by rw [← HNE.out]; exact List.take_length
            have e2 : A.drop k = [] := by rw [← HNE.out]; exact List.drop_length
            rw [e1] at h2
            rw [e2, List.append_nil] at h4
            exact Lib.hid ⟨_, W, rfl, h4.base (fun g hg => by have := (h4.lt g hg).1; omega), h2, fun y hy => (h3 y hy).base (fun g hg => by have := (Byt.Row.lt (h3 y hy) g hg).1; omega), hKx.out⟩
          clear hW hRx hKx hsx
          go_wp2_with fail
          go_ret
          rw [HAE.out]
          exact R.out
end Go.Proofs.Ytompbpiaapenaaa.Po

/- Acks in eight lines, as lists: their order. Conditions: each theorem's own. -/
namespace Go.Proofs.Ytompbpiaapenaaa.Po
open Go.RowKit Hp QuM Qu
/-- An ack; a credit. -/
abbrev qF (p i : Int) : WrM.Frm := ⟨5, 0, 1, p, 0, 0, 0, 0, i, []⟩
abbrev kF (i : Int) : WrM.Frm := ⟨11, 0, 1, 0, 0, 0, 0, 0, i, []⟩
def krF (k m : Nat) : List WrM.Frm := (List.range' k m).map fun (j : Nat) => kF (j : Int)
theorem krF_cons (k m : Nat) : krF k (m + 1) = kF (k : Int) :: krF (k + 1) m := by unfold krF; rw [List.range'_succ, List.map_cons]
theorem krF_snoc (k m : Nat) : krF k (m + 1) = krF k m ++ [kF ((k + m : Nat) : Int)] := by unfold krF; rw [List.range'_concat, List.map_append, Nat.one_mul]; rfl
theorem krF_len (k m : Nat) : (krF k m).length = m := by unfold krF; rw [List.length_map, List.length_range']
theorem sane_ne {x : Bx} (h : x.f.kind ≠ 1) : Sane x := by
  unfold Sane Wr.dl
  rw [if_neg h]
  decide
theorem nb_ne {x : Bx} (h : x.f.kind ≠ 1) : szI (nb x) = 26 := by
  unfold nb szI
  rw [if_neg h]
  decide
theorem sumB_ne : ∀ {L : List Bx}, (∀ x ∈ L, x.f.kind ≠ 1) → sumB L = 26 * (L.length : Int)
  | [], _ => rfl
  | x :: L, h => by
    have h1 := sumB_ne (L := L) (fun y hy => h y (List.mem_cons_of_mem _ hy))
    have h2 := nb_ne (h x List.mem_cons_self)
    show szI (nb x) + sumB L = _
    rw [h1, h2, List.length_cons]
    omega
theorem tot_ne {ls : Nat → List Bx} : ∀ {n : Nat}, (∀ k x, k < n → x ∈ ls k → x.f.kind ≠ 1) → tot ls n = 26 * (cnt ls n : Int)
  | 0, _ => rfl
  | n + 1, h => by
    have h1 := tot_ne (ls := ls) (n := n) (fun k x hk hx => h k x (by omega) hx)
    have h2 := sumB_ne (L := ls n) (fun x hx => h n x (by omega) hx)
    show tot ls n + sumB (ls n) = 26 * ((cnt ls n + (ls n).length : Nat) : Int)
    rw [h1, h2]
    omega
structure Hs (ls : Nat → List Bx) (n : Nat) : Prop where
  mem : ∀ k x, k < 8 → x ∈ ls k → x.f.kind = 5 ∧ x.f.prio = (k : Int) ∧ 0 ≤ x.f.num ∧ x.f.num < n
  srt : ∀ k, k < 8 → (ls k).Pairwise (fun a c => a.f.num < c.f.num)
theorem Hs.tot {ls : Nat → List Bx} {n : Nat} (h : Hs ls n) : tot ls 8 = 26 * (cnt ls 8 : Int) := tot_ne fun k x hk hx => by rw [(h.mem k x hk hx).1]; decide
theorem Hs.push {ls : Nat → List Bx} {n p : Nat} (h : Hs ls n) (hp : p < 8) {y : Bx} (hy : y.f = qF p n) : Hs (upd ls p (ls p ++ [y])) (n + 1) := by
  constructor
  · intro k x hk hx
    by_cases e : k = p
    · subst e
      rw [upd_self] at hx
      rcases List.mem_append.1 hx with hx | hx
      · obtain ⟨h1, h2, h3, h4⟩ := h.mem k x hk hx
        exact ⟨h1, h2, h3, by omega⟩
      · rw [List.mem_singleton] at hx
        subst hx
        rw [hy]
        exact ⟨rfl, rfl, by show (0 : Int) ≤ (n : Int); omega, by show (n : Int) < _; omega⟩
    · rw [upd_ne _ _ e] at hx
      obtain ⟨h1, h2, h3, h4⟩ := h.mem k x hk hx
      exact ⟨h1, h2, h3, by omega⟩
  · intro k hk
    by_cases e : k = p
    · subst e
      rw [upd_self]
      refine List.pairwise_append.2 ⟨h.srt k hk, List.pairwise_singleton _ _, fun a ha c hc => ?_⟩
      rw [List.mem_singleton] at hc
      subst hc
      have := (h.mem k a hk ha).2.2.2
      rw [hy]
      exact this
    · rw [upd_ne _ _ e]; exact h.srt k hk
theorem cnt_push {ls : Nat → List Bx} {p : Nat} (hp : p < 8) (y : Bx) : cnt (upd ls p (ls p ++ [y])) 8 = cnt ls 8 + 1 := by
  have := cnt_upd (ls := ls) (L := ls p ++ [y]) (n := 8) hp
  rw [List.length_append, List.length_singleton] at this
  omega
/-- Those that are there come behind. -/
def Od (ls : Nat → List Bx) (last at_ : Int) : Prop := ∀ k x, k < 8 → x ∈ ls k → (k : Int) < last ∨ ((k : Int) = last ∧ at_ < x.f.num)
theorem pop_ok {ls : Nat → List Bx} {n p : Nat} {x : Bx} {R : List Bx} {last at_ : Int} (h : Hs ls n) (hO : Od ls last at_) (ht : top ls 8 = some p) (hx : ls p = x :: R) :
    p < 8 ∧ x.f.kind = 5 ∧ x.f.prio = (p : Int) ∧ ((p : Int) < last ∨ ((p : Int) = last ∧ at_ < x.f.num)) ∧ Hs (upd ls p R) n ∧ Od (upd ls p R) p x.f.num ∧ cnt (upd ls p R) 8 + 1 = cnt ls 8 := by
  obtain ⟨hp, _, hup⟩ := top_some ht
  have hmem : x ∈ ls p := by rw [hx]; exact List.mem_cons_self
  have hsub : ∀ y, y ∈ R → y ∈ ls p := fun y hy => by rw [hx]; exact List.mem_cons_of_mem _ hy
  obtain ⟨h1, h2, _, _⟩ := h.mem p x hp hmem
  have hs := h.srt p hp
  rw [hx] at hs
  obtain ⟨hs1, hs2⟩ := List.pairwise_cons.1 hs
  refine ⟨hp, h1, h2, hO p x hp hmem, ⟨fun k y hk hy => ?_, fun k hk => ?_⟩, fun k y hk hy => ?_, ?_⟩
  · by_cases e : k = p
    · subst e; rw [upd_self] at hy; exact h.mem k y hk (hsub y hy)
    · rw [upd_ne _ _ e] at hy; exact h.mem k y hk hy
  · by_cases e : k = p
    · subst e; rw [upd_self]; exact hs2
    · rw [upd_ne _ _ e]; exact h.srt k hk
  · by_cases e : k = p
    · subst e; rw [upd_self] at hy; exact Or.inr ⟨rfl, hs1 y hy⟩
    · rw [upd_ne _ _ e] at hy
      left
      rcases Nat.lt_or_ge p k with hlt | hge
      · rw [hup k hlt hk] at hy; cases hy
      · omega
  · have := cnt_upd (ls := ls) (L := R) (n := 8) hp
    rw [hx, List.length_cons] at this
    omega
theorem cnt_zero {ls : Nat → List Bx} (h : cnt ls 8 = 0) {k : Nat} (hk : k < 8) : ls k = [] := by
  have := len_le_cnt (ls := ls) hk
  exact List.length_eq_zero_iff.1 (by omega)
theorem acc_zero {ls : Nat → List Bx} (h : cnt ls 8 = 0) : ∀ n, accL ls [] n = []
  | 0 => rfl
  | n + 1 => by
    show accL ls [] n ++ lnl ls [] n = []
    rw [acc_zero h n]
    unfold lnl
    split
    · rw [cnt_zero h (by omega)]; rfl
    · rfl
theorem top_cnt {ls : Nat → List Bx} (h : cnt ls 8 ≠ 0) : ∃ p x R, top ls 8 = some p ∧ ls p = x :: R := by
  cases ht : top ls 8 with
  | none =>
    exfalso
    have := top_none ht
    apply h
    have : ∀ n, n ≤ 8 → cnt ls n = 0 := fun n => by
      induction n with
      | zero => intro _; rfl
      | succ n ih => intro hn; show cnt ls n + (ls n).length = 0; rw [ih (by omega), this n (by omega)]; rfl
    exact this 8 (Nat.le_refl _)
  | some p =>
    obtain ⟨_, h2, _⟩ := top_some ht
    cases e : ls p with
    | nil => exact absurd e h2
    | cons x R => exact ⟨p, x, R, rfl, e⟩
end Go.Proofs.Ytompbpiaapenaaa.Po

/- A queue in memory: At. Conditions: each theorem's own. -/
namespace Go.Proofs.Ytompbpiaapenaaa.Po
open Go.RowKit Hp QuM QuN Rw Qu
attribute [local go_sem ↓] Go.wp_at_zero Go.wp_at_succ
theorem ring_at {w : World} {v : Value} {f : Nat} {L : List It} (h : RingV w v f L) {k : Nat} {x : It} (hx : L[k]? = some x) :
    ∃ g P, v = .slice (some ⟨g, 0, none⟩) P.length P.length ∧ Blk w g (flat iT P) iT.E ∧ Pow P.length ∧ Ring P f L := by
  cases h with
  | nil => simp at hx
  | lies g P f L blk pow four ring => exact ⟨g, P, rfl, blk, pow, ring⟩
set_option maxRecDepth 100000 in
set_option maxHeartbeats 8000000 in
theorem qat_any {w0 w : World} {b : Nat} {room : Int} {ls : Nat → List Bx} {F : Nat → Prop} (h : St w0 b room ls F w) {p k : Nat} {P K : Int} (hP : P = (p : Nat)) (hK : K = (k : Nat)) (hp : p < 8) {x : Bx} (hx : (ls p)[k]? = some x) (hl : (ls p).length ≤ 100000) :
    Calls Try.prog 84 #[.pointer (some ⟨b, 0, none⟩), .int .i64 P, .int .i64 K] w fun e w' => e = .returned (.tuple #[bv x, .bool true]) ∧ Kept (fun _ => False) w w' := by
  subst hP
  subst hK
  have hkl := (List.getElem?_eq_some_iff.1 hx).1
  obtain ⟨h0, hr0, c, vs, fs, h1, h2, h3, h4⟩ := id h
  have HY := Lib.hid fun (w' : World) (hk : Kept (fun _ => False) w w') => has_yes (p := (p : Nat)) (k := (k : Nat)) rfl hp ((hk.blk h1.blk (fun f => f)).cell (h1.cn p hp)) (by omega) (by omega)
  have hxi : ((ls p).map it)[k]? = some (it x) := by rw [List.getElem?_map, hx]; rfl
  obtain ⟨g, L, hv, hG, hpw, hring⟩ := ring_at (h1.ring p hp) hxi
  have hat := hring.at' k _ hxi
  have hkL : k < L.length := by have := hring.le; rw [List.length_map] at this; omega
  have PL := Lib.hid fun (w' : World) (hk : Kept (fun _ => False) w w') =>
    place_any (w := w') (b := b) (o := 2 + p * 3) (g := g) (f := fs p) (n := L.length) (k := k) (K := (k : Nat)) ((hk.blk h1.blk (fun f => f)).cell (by rw [h1.cv p hp, hv])) ((hk.blk h1.blk (fun f => f)).cell (h1.cf p hp)) hpw hring.f0 hkL rfl
  have HG := Lib.hid hG
  have HAT := Lib.hid hat
  have hp' : (p : Int) < 8 := by omega
  unfold it at HAT
  generalize szI (nb x) = z at *
  clear h0 hr0 h1 h2 h3 h4 hv hG hpw hring hat hkL hxi hx hkl h
  generalize (fs p + k) % L.length = r at *
  go_enter Try.func84, Try.ntmps84
  go_upto_region 1 with fail
  have hO := Blk.new w [.int .i64 0, .int .i64 0, .int .i64 0, .int .i64 0, .int .u64 0, .int .i64 0, .int .i64 0, .int .i64 0, .int .i64 0, .slice none 0 0, .int .i64 0] 40
  have hk1 := (Kept.refl (fun _ => False) w).alloc (.cells [.int .i64 0, .int .i64 0, .int .i64 0, .int .i64 0, .int .u64 0, .int .i64 0, .int .i64 0, .int .i64 0, .int .i64 0, .slice none 0 0, .int .i64 0].toArray 40)
  dsimp only [List.toArray] at hO hk1
  generalize w.alloc (.cells #[.int .i64 0, .int .i64 0, .int .i64 0, .int .i64 0, .int .u64 0, .int .i64 0, .int .i64 0, .int .i64 0, .int .i64 0, .slice none 0 0, .int .i64 0] 40) = w1 at *
  obtain ⟨rb, hrb⟩ : ∃ rb, w.heap.size = rb := ⟨_, rfl⟩
  rw [hrb] at hO
  simp only [hrb]
  have HRB := Lib.hid hrb
  have HO := Lib.hid hO
  have HK := Lib.hid hk1
  clear hrb hO hk1
  go_wp2_with fail
  with_reducible refine Calls.mono (HY.out _ HK.out) ?_
  rintro e w2 ⟨rfl, rfl⟩
  go_wp2_with fail
  with_reducible refine Calls.mono (PL.out _ HK.out) ?_
  rintro e w3 ⟨rfl, hk3⟩
  have hk03 := HK.out.trans hk3
  have hG3 := hk03.blk HG.out (fun f => f)
  have hO3 := hk3.blk HO.out (fun f => f)
  obtain ⟨d0, d1, d2, d3, d4, d5, d6, d7, d8, d9, d10, d11⟩ := it_cells hG3 HAT.out
  obtain ⟨⟨x1, x2, x3, x4, x5, x6, x7, x8, x9, xd⟩, xa, xc, xq⟩ := x
  have n0 := hO3.cell (o := 0) rfl
  have n1 := hO3.cell (o := 1) rfl
  have n2 := hO3.cell (o := 2) rfl
  have n3 := hO3.cell (o := 3) rfl
  have n4 := hO3.cell (o := 4) rfl
  have n5 := hO3.cell (o := 5) rfl
  have n6 := hO3.cell (o := 6) rfl
  have n7 := hO3.cell (o := 7) rfl
  have n8 := hO3.cell (o := 8) rfl
  have n9 := hO3.cell (o := 9) rfl
  have n10 := hO3.cell (o := 10) rfl
  have fz0 := hO3.frozen 0
  have fz1 := hO3.frozen 1
  have fz2 := hO3.frozen 2
  have fz3 := hO3.frozen 3
  have fz4 := hO3.frozen 4
  have fz5 := hO3.frozen 5
  have fz6 := hO3.frozen 6
  have fz7 := hO3.frozen 7
  have fz8 := hO3.frozen 8
  have fz9 := hO3.frozen 9
  have fz10 := hO3.frozen 10
  have hO6 := set11_blk hO3 rfl ⟨⟨x1, x2, x3, x4, x5, x6, x7, x8, x9, xd⟩, xa, xc, xq⟩
  have k6 := set11_kept w3 rb ⟨⟨x1, x2, x3, x4, x5, x6, x7, x8, x9, xd⟩, xa, xc, xq⟩
  have HK6 : Hid (Kept (fun _ => False) w (set11 w3 rb ⟨⟨x1, x2, x3, x4, x5, x6, x7, x8, x9, xd⟩, xa, xc, xq⟩)) := Lib.hid (hk03.trans' k6 (fun i hi e => by have := HRB.out; omega))
  unfold set11 at HK6 hO6
  dsimp only at HK6 hO6
  have z0 := hO6.cell (o := 0) rfl
  have z1 := hO6.cell (o := 1) rfl
  have z2 := hO6.cell (o := 2) rfl
  have z3 := hO6.cell (o := 3) rfl
  have z4 := hO6.cell (o := 4) rfl
  have z5 := hO6.cell (o := 5) rfl
  have z6 := hO6.cell (o := 6) rfl
  have z7 := hO6.cell (o := 7) rfl
  have z8 := hO6.cell (o := 8) rfl
  have z9 := hO6.cell (o := 9) rfl
  have z10 := hO6.cell (o := 10) rfl
  clear hO3 hO6 k6 hk03 hk3 hG3 HY PL HG HAT HO HK d11
  go_wp2_with fail
  exact bodyPost_ret (v := .tuple #[bv ⟨⟨x1, x2, x3, x4, x5, x6, x7, x8, x9, xd⟩, xa, xc, xq⟩, .bool true]) (by simp [results, Try.results84, go_sem, z0, z1, z2, z3, z4, z5, z6, z7, z8, z9, z10]) rfl ⟨rfl, HK6.out⟩
end Go.Proofs.Ytompbpiaapenaaa.Po

/- A port: which one is the k-th. Conditions: each theorem's own. -/
namespace Go.Proofs.Ytompbpiaapenaaa.Po
open Go.RowKit Hp QuM QuN Rw Qu NumM NumC
attribute [local go_sem ↓] Go.wp_at_zero Go.wp_at_succ
variable {w0 w w' : World} {b qf qc pb : Nat} {room most : Int} {trim : Bool} {ls : Nat → List Bx} {cr : List Bx} {now nxt : Int} {Ff Fc F : Nat → Prop}
theorem count_of (hp : Prt w0 b qf qc pb room most trim ls cr now nxt Ff Fc w) {i : Nat} (hi : i < 9) :
    Calls Try.prog 82 #[.pointer (some ⟨(lq qf qc i).1, 0, none⟩), .int .i64 ((lq qf qc i).2 : Nat)] w fun e w' => e = .returned (.int .i64 ((lnl ls cr i).length : Nat)) ∧ w = w' := by
  unfold lq lnl
  split
  · obtain ⟨h0, hr0, c, vs, fs, h1, h2, h3, h4⟩ := hp.fr
    exact count_at rfl (by omega) (h1.blk.cell (h1.cn (7 - i) (by omega)))
  · obtain ⟨h0, hr0, c, vs, fs, h1, h2, h3, h4⟩ := hp.cq
    have := count_at (n := (crl cr 0).length) (p := ((0 : Nat) : Int)) rfl (by decide) (h1.blk.cell (h1.cn 0 (by decide)))
    rw [show crl cr 0 = cr from upd_self _ _ _] at this
    exact this
theorem find_neg {q : Option Addr} {k : Int} (hk : k < 0) (w : World) : Calls Try.prog 52 #[.pointer q, .int .i64 k] w fun e w' => e = .returned (.tuple #[lz, .int .i64 0, .bool false]) ∧ Kept (fun _ => False) w w' := by
  rcases q with _ | a
  · exact find_nil k w
  · go_enter Try.func52, Try.ntmps52
    go_upto_region 1 with fail
    have hO := Blk.new w [.pointer none, .int .i64 0] 99
    have hk1 := (Kept.refl (fun _ => False) w).alloc (.cells [.pointer none, .int .i64 0].toArray 99)
    dsimp only [List.toArray] at hO hk1
    generalize w.alloc (.cells #[.pointer none, .int .i64 0] 99) = w1 at *
    obtain ⟨rb, hrb⟩ : ∃ rb, w.heap.size = rb := ⟨_, rfl⟩
    rw [hrb] at hO
    simp only [hrb]
    have HRB := Lib.hid hrb
    clear hrb
    have n0 := hO.cell (o := 0) rfl
    have n1 := hO.cell (o := 1) rfl
    have f0 := hO.frozen 0
    have f1 := hO.frozen 1
    have hO5 := (hO.set 0 (.pointer none)).set 1 (.int .i64 0)
    have HK5 : Hid (Kept (fun _ => False) w ((w1.setCell ⟨rb, 0, none⟩ (.pointer none)).setCell ⟨rb, 1, none⟩ (.int .i64 0))) := Lib.hid ((hk1.set (b := rb) (fun h => by have := HRB.out; omega) _ _).set (b := rb) (fun h => by have := HRB.out; omega) _ _)
    have z0 := hO5.cell (o := 0) rfl
    have z1 := hO5.cell (o := 1) rfl
    clear hO hO5 hk1
    go_wp2_with fail
    exact bodyPost_ret (v := .tuple #[lz, .int .i64 0, .bool false]) (by simp [results, Try.results52, go_sem, z0, z1]) rfl ⟨rfl, HK5.out⟩
/-- What find tells. -/
def FdR (ls : Nat → List Bx) (cr : List Bx) (qf qc k : Nat) (v : Value) : Prop :=
  (∃ i at_, i < 9 ∧ at_ < (lnl ls cr i).length ∧ (accL ls cr i).length + at_ = k ∧ v = .tuple #[lv (lq qf qc i).1 ((lq qf qc i).2 : Nat), .int .i64 (at_ : Nat), .bool true]) ∨ ((accL ls cr 9).length ≤ k ∧ v = .tuple #[lz, .int .i64 0, .bool false])
theorem acc_succ (ls : Nat → List Bx) (cr : List Bx) (i : Nat) : (accL ls cr (i + 1)).length = (accL ls cr i).length + (lnl ls cr i).length := by
  show (accL ls cr i ++ lnl ls cr i).length = _; rw [List.length_append]
set_option maxRecDepth 100000 in
set_option maxHeartbeats 8000000 in
theorem find_any (hp : Prt w0 b qf qc pb room most trim ls cr now nxt Ff Fc w) {k : Nat} (hk : (k : Int) ≤ 9223372036854775807) (hn : (accL ls cr 9).length ≤ 100000) :
    Calls Try.prog 52 #[.pointer (some ⟨b, 0, none⟩), .int .i64 (k : Nat)] w fun e w' => ∃ v, e = .returned v ∧ FdR ls cr qf qc k v ∧ Kept (fun _ => False) w w' := by
  have HP := Lib.hid hp
  have LI := Lib.hid fun (w' : World) (kk : Kept (fun _ => False) w w') => lines_any (kk.blk hp.blk (fun f => f))
  have HN := Lib.hid hn
  clear hp hn
  go_enter Try.func52, Try.ntmps52
  go_upto_region 1 with fail
  have hO := Blk.new w [.pointer none, .int .i64 0] 99
  have hk1 := (Kept.refl (fun _ => False) w).alloc (.cells [.pointer none, .int .i64 0].toArray 99)
  dsimp only [List.toArray] at hO hk1
  generalize w.alloc (.cells #[.pointer none, .int .i64 0] 99) = w1 at *
  obtain ⟨rb, hrb⟩ : ∃ rb, w.heap.size = rb := ⟨_, rfl⟩
  rw [hrb] at hO
  simp only [hrb]
  have HRB := Lib.hid hrb
  have HO := Lib.hid hO
  have HK := Lib.hid hk1
  clear hrb hO hk1
  go_wp2_with fail
  with_reducible refine Calls.mono (LI.out _ HK.out) ?_
  rintro e w2 ⟨v', rfl, hr1, hk2⟩
  obtain ⟨g, cap, cur, rfl, hg, hL⟩ : ∃ g cap cur, v' = .slice (some ⟨g, 0, none⟩) 9 cap ∧ w1.heap.size ≤ g ∧ Lies lT w2 g cap cur (lsts qf qc 9) := by
    rcases hr1.form with ⟨_, h0⟩ | ⟨g, cap, cur, e, h1, h2⟩
    · have := lsts_len qf qc 9; rw [h0] at this; cases this
    · rw [lsts_len] at e; exact ⟨g, cap, cur, e, h1, h2⟩
  have HL := Lib.hid hL
  have HK2 := Lib.hid (HK.out.trans hk2)
  have HO2 := Lib.hid (hk2.blk HO.out (fun f => f))
  have hcap : 9 ≤ cap := by have := hL.le; rw [lsts_len] at this; exact this
  clear hr1 hk2 hL LI HO HK hg
  go_wp2_with fail
  go_loopg [1, 20] 9 (fun mm s1 s20 wr => ∃ (i r : Nat), Hid (9 - i ≤ mm) ∧ i ≤ 9 ∧ s20 = .int .i64 (i : Nat) ∧ s1 = .int .i64 (r : Nat) ∧ Hid ((accL ls cr i).length + r = k) ∧ Hid (Kept (fun _ => False) w2 wr))
  case atStart => exact ⟨0, k, Lib.hid (by omega), Nat.zero_le _, rfl, rfl, Lib.hid (by show 0 + k = k; omega), Lib.hid (Kept.refl _ _)⟩
  case round =>
    obtain ⟨i, r, hmm, hi, rfl, rfl, hr, hkl⟩ := hrel
    have hrk : (r : Int) ≤ 9223372036854775807 := by have := hr.out; omega
    rcases Nat.lt_or_ge i 9 with hlt | hge
    · have hlt' : (i : Int) < 9 := by omega
      obtain ⟨d0, d1⟩ := ln_cells (HL.out.kept hkl.out (fun f => f)) (i := i) (x := lq qf qc i) (by unfold lsts; rw [List.getElem?_map, List.getElem?_range hlt]; rfl)
      have CN := Lib.hid fun (w' : World) (kk : Kept (fun _ => False) w w') => count_of (HP.out.old kk) hlt
      have hc1 : (lnl ls cr i).length ≤ 100000 := Nat.le_trans (lnl_le (ls := ls) (cr := cr) hlt) HN.out
      have HSU := Lib.hid (acc_succ ls cr i)
      obtain ⟨q, hq⟩ : ∃ q, (lq qf qc i).1 = q := ⟨_, rfl⟩
      obtain ⟨p, hp⟩ : ∃ p, (lq qf qc i).2 = p := ⟨_, rfl⟩
      obtain ⟨cn, hcn⟩ : ∃ cn, (lnl ls cr i).length = cn := ⟨_, rfl⟩
      have HQ := Lib.hid (And.intro hq (And.intro hp hcn))
      rw [hq, hp, hcn] at CN
      rw [hq] at d0
      rw [hp] at d1
      rw [hcn] at hc1 HSU
      clear hq hp hcn
      go_upto_region 6 with fail
      have hQ := Blk.new wr [.pointer (some ⟨q, 0, none⟩), .int .i64 (p : Nat)] 99
      have hkk := (Kept.refl (fun _ => False) wr).alloc (.cells [.pointer (some ⟨q, 0, none⟩), .int .i64 (p : Nat)].toArray 99)
      dsimp only [List.toArray] at hQ hkk
      have HK3 := Lib.hid (hkl.out.trans hkk)
      have hrl : rb < wr.heap.size := by have h1 := HO2.out.lt; have h2 := hkl.out.size; omega
      generalize wr.alloc (.cells #[.pointer (some ⟨q, 0, none⟩), .int .i64 (p : Nat)] 99) = w3 at *
      generalize wr.heap.size = ob at *
      have c0 := hQ.cell (o := 0) rfl
      have c1 := hQ.cell (o := 1) rfl
      clear hQ hkk hkl d0 d1
      go_wp2_with fail
      with_reducible refine Calls.mono (CN.out _ (HK2.out.trans HK3.out)) ?_
      rintro e w4 ⟨rfl, rfl⟩
      by_cases hlt2 : r < cn
      · have hlt3 : (r : Int) < (cn : Int) := by omega
        have hO3 := HK3.out.blk HO2.out (fun f => f)
        have n0 := hO3.cell (o := 0) rfl
        have n1 := hO3.cell (o := 1) rfl
        have f0 := hO3.frozen 0
        have f1 := hO3.frozen 1
        have hO5 := (hO3.set 0 (.pointer (some ⟨q, 0, none⟩))).set 1 (.int .i64 (p : Nat))
        have HK5 : Hid (Kept (fun _ => False) w ((w3.setCell ⟨rb, 0, none⟩ (.pointer (some ⟨q, 0, none⟩))).setCell ⟨rb, 1, none⟩ (.int .i64 (p : Nat)))) := Lib.hid (((HK2.out.trans HK3.out).set (b := rb) (fun h => by have := HRB.out; omega) _ _).set (b := rb) (fun h => by have := HRB.out; omega) _ _)
        have z0 := hO5.cell (o := 0) rfl
        have z1 := hO5.cell (o := 1) rfl
        have R : Hid (FdR ls cr qf qc k (.tuple #[lv q (p : Nat), .int .i64 (r : Nat), .bool true])) := Lib.hid (Or.inl ⟨i, r, hlt, by rw [HQ.out.2.2]; exact hlt2, hr.out, by rw [HQ.out.1, HQ.out.2.1]⟩)
        clear hO3 hO5 HK3 HL hcap
        go_wp2_with fail
        exact bodyPost_ret (v := .tuple #[lv q (p : Nat), .int .i64 (r : Nat), .bool true]) (by simp [results, Try.results52, go_sem, z0, z1]) rfl ⟨_, rfl, R.out, HK5.out⟩
      · have hge2 : ¬ ((r : Int) < (cn : Int)) := by omega
        clear CN
        go_wp2_with fail
        go_roundg (9 - (i + 1))
        case measure => have := hmm.out; omega
        case rel => exact ⟨i + 1, r - cn, Lib.hid (Nat.le_refl _), by omega, by go_num, by go_num, Lib.hid (by have := hr.out; have := HSU.out; omega), HK3⟩
    · obtain rfl : i = 9 := by omega
      have hO3 := hkl.out.blk HO2.out (fun f => f)
      have n0 := hO3.cell (o := 0) rfl
      have n1 := hO3.cell (o := 1) rfl
      have f0 := hO3.frozen 0
      have f1 := hO3.frozen 1
      have hO5 := (hO3.set 0 (.pointer none)).set 1 (.int .i64 0)
      have HK5 : Hid (Kept (fun _ => False) w ((wr.setCell ⟨rb, 0, none⟩ (.pointer none)).setCell ⟨rb, 1, none⟩ (.int .i64 0))) := Lib.hid (((HK2.out.trans hkl.out).set (b := rb) (fun h => by have := HRB.out; omega) _ _).set (b := rb) (fun h => by have := HRB.out; omega) _ _)
      have z0 := hO5.cell (o := 0) rfl
      have z1 := hO5.cell (o := 1) rfl
      have R : Hid (FdR ls cr qf qc k (.tuple #[lz, .int .i64 0, .bool false])) := Lib.hid (Or.inr ⟨by have := hr.out; omega, rfl⟩)
      clear hO3 hO5 hkl HL hcap
      go_wp2_with fail
      exact bodyPost_ret (v := .tuple #[lz, .int .i64 0, .bool false]) (by simp [results, Try.results52, go_sem, z0, z1]) rfl ⟨_, rfl, R.out, HK5.out⟩
end Go.Proofs.Ytompbpiaapenaaa.Po

/- A port: Drop, Double. Conditions: each theorem's own. -/
namespace Go.Proofs.Ytompbpiaapenaaa.Po
open Go.RowKit Hp QuM QuN Rw Qu NumM NumC
attribute [local go_sem ↓] Go.wp_at_zero Go.wp_at_succ
variable {w0 w w' : World} {b qf qc pb : Nat} {room most : Int} {trim : Bool} {ls : Nat → List Bx} {cr : List Bx} {now nxt : Int} {Ff Fc F : Nat → Prop}
/-- One is taken out of a line. -/
def lsE (ls : Nat → List Bx) (i at_ : Nat) : Nat → List Bx := if i < 8 then upd ls (7 - i) ((ls (7 - i)).eraseIdx at_) else ls
def crE (cr : List Bx) (i at_ : Nat) : List Bx := if i < 8 then cr else cr.eraseIdx at_
theorem acc_at {i at_ : Nat} (h : at_ < (lnl ls cr i).length) : ∀ {n : Nat}, i < n → (accL ls cr n)[(accL ls cr i).length + at_]? = (lnl ls cr i)[at_]?
  | 0, hn => by omega
  | n + 1, hn => by
    show (accL ls cr n ++ lnl ls cr n)[_]? = _
    by_cases e : i = n
    · subst e
      rw [List.getElem?_append_right (by omega), Nat.add_sub_cancel_left]
    · have h1 := acc_le (ls := ls) (cr := cr) (n := i + 1) (m := n) (by omega)
      rw [acc_succ] at h1
      rw [List.getElem?_append_left (by omega)]
      exact acc_at h (by omega)
theorem lnl_E {i at_ j : Nat} (hi : i < 9) (hj : j < 9) : lnl (lsE ls i at_) (crE cr i at_) j = if j = i then (lnl ls cr i).eraseIdx at_ else lnl ls cr j := by
  unfold lnl lsE crE
  by_cases hi8 : i < 8
  · by_cases hj8 : j < 8
    · by_cases e : j = i
      · subst e; simp [hi8, upd_self]
      · simp only [if_pos hi8, if_pos hj8, if_neg e]
        exact upd_ne _ _ (by omega)
    · have e : ¬ j = i := by omega
      simp [hi8, hj8, e]
  · by_cases hj8 : j < 8
    · have e : ¬ j = i := by omega
      simp [hi8, hj8, e]
    · have e : j = i := by omega
      subst e; simp [hi8]
theorem erase_app (a c : List Bx) (k : Nat) : (a ++ c).eraseIdx (a.length + k) = a ++ c.eraseIdx k := by
  rw [List.eraseIdx_append_of_length_le (by omega), Nat.add_sub_cancel_left]
theorem acc_E {i at_ : Nat} (hi : i < 9) (h : at_ < (lnl ls cr i).length) : ∀ {n : Nat}, n ≤ 9 → accL (lsE ls i at_) (crE cr i at_) n = if i < n then (accL ls cr n).eraseIdx ((accL ls cr i).length + at_) else accL ls cr n
  | 0, hn => by simp [accL]
  | n + 1, hn => by
    show accL _ _ n ++ lnl _ _ n = _
    rw [acc_E hi h (n := n) (by omega), lnl_E hi (by omega)]
    rcases Nat.lt_trichotomy i n with h1 | h1 | h1
    · have h2 := acc_le (ls := ls) (cr := cr) (n := i + 1) (m := n) (by omega)
      rw [acc_succ] at h2
      rw [if_pos h1, if_neg (by omega), if_pos (by omega)]
      show _ = (accL ls cr n ++ lnl ls cr n).eraseIdx _
      rw [List.eraseIdx_append_of_lt_length (by omega)]
    · subst h1
      rw [if_neg (by omega), if_pos rfl, if_pos (by omega)]
      show _ = (accL ls cr i ++ lnl ls cr i).eraseIdx _
      rw [erase_app]
    · rw [if_neg (by omega), if_neg (by omega), if_neg (by omega)]; rfl
/-- Behind a Drop of the k-th. -/
theorem acc_drop {i at_ k : Nat} (hi : i < 9) (h : at_ < (lnl ls cr i).length) (hk : (accL ls cr i).length + at_ = k) : accL (lsE ls i at_) (crE cr i at_) 9 = (accL ls cr 9).eraseIdx k := by
  rw [acc_E hi h (Nat.le_refl 9), if_pos hi, hk]
theorem lnl_mem {i : Nat} (hi : i < 9) {x : Bx} (hx : x ∈ lnl ls cr i) : (i < 8 ∧ x ∈ ls (7 - i)) ∨ (i = 8 ∧ x ∈ cr) := by
  unfold lnl at hx
  split at hx
  · exact Or.inl ⟨by assumption, hx⟩
  · exact Or.inr ⟨by omega, hx⟩
theorem gd_of (hp : Prt w0 b qf qc pb room most trim ls cr now nxt Ff Fc w) {i : Nat} (hi : i < 9) {x : Bx} (hx : x ∈ lnl ls cr i) : Gd w0 w (own b pb Ff Fc) x := by
  rcases lnl_mem hi hx with ⟨h, hx⟩ | ⟨h, hx⟩
  · exact hp.gf _ x (by omega) hx
  · exact hp.gc x hx
/-- What Remove leaves. -/
def RmP (w0 : World) (b qf qc pb : Nat) (room most : Int) (trim : Bool) (ls : Nat → List Bx) (cr : List Bx) (now nxt : Int) (Ff Fc : Nat → Prop) (w : World) (i at_ : Nat) (w' : World) : Prop :=
  ∃ Ff' Fc' : Nat → Prop, Prt w0 b qf qc pb room most trim (lsE ls i at_) (crE cr i at_) now nxt Ff' Fc' w' ∧ (∀ j, Ff' j → Ff j ∨ w.heap.size ≤ j) ∧ (∀ j, Fc' j → Fc j ∨ w.heap.size ≤ j) ∧ Kept (fun j => Ff j ∨ Fc j) w w'
theorem rem_of (hp : Prt w0 b qf qc pb room most trim ls cr now nxt Ff Fc w) {i at_ : Nat} (hi : i < 9) {x : Bx} (hx : (lnl ls cr i)[at_]? = some x) (hl : (lnl ls cr i).length ≤ 100000) :
    Calls Try.prog 53 #[.pointer (some ⟨(lq qf qc i).1, 0, none⟩), .int .i64 ((lq qf qc i).2 : Nat), .int .i64 (at_ : Nat)] w fun e w' => e = .returned (.tuple #[bv x, .bool true]) ∧ RmP w0 b qf qc pb room most trim ls cr now nxt Ff Fc w i at_ w' := by
  unfold RmP lsE crE
  unfold lnl at hx hl
  unfold lq
  by_cases h8 : i < 8
  · simp only [if_pos h8] at hx hl ⊢
    refine (remove_yes hp.fr (p := 7 - i) (k := at_) rfl rfl (by omega) hx hl).mono ?_
    rintro e w' ⟨rfl, Ff', hS, hN⟩
    exact ⟨rfl, Ff', Fc, hp.turnF hS hN (fun k y hk hy => (mem_upd (ls := ls) (P := fun _ => False) (by omega) (fun z hz => Or.inl (List.mem_of_mem_eraseIdx hz)) hk hy).imp id (fun f => f.elim)), hN.2, fun j f => Or.inl f, hN.1.mono (fun _ _ f => Or.inl f)⟩
  · simp only [if_neg h8] at hx hl ⊢
    have e0 : crl cr 0 = cr := upd_self _ _ _
    refine (remove_yes hp.cq (p := 0) (k := at_) rfl rfl (by decide) (by rw [e0]; exact hx) (by rw [e0]; exact hl)).mono ?_
    rintro e w' ⟨rfl, Fc', hS, hN⟩
    rw [e0, show upd (crl cr) 0 (cr.eraseIdx at_) = crl (cr.eraseIdx at_) from upd_upd _ _ _ _] at hS
    exact ⟨rfl, Ff, Fc', hp.turnC hS hN (fun y hy => hp.kinds y (List.mem_of_mem_eraseIdx hy)) (fun y hy => Or.inl (List.mem_of_mem_eraseIdx hy)), fun j f => Or.inl f, hN.2, hN.1.mono (fun _ _ f => Or.inr f)⟩
theorem at_of (hp : Prt w0 b qf qc pb room most trim ls cr now nxt Ff Fc w) {i at_ : Nat} (hi : i < 9) {x : Bx} (hx : (lnl ls cr i)[at_]? = some x) (hl : (lnl ls cr i).length ≤ 100000) :
    Calls Try.prog 84 #[.pointer (some ⟨(lq qf qc i).1, 0, none⟩), .int .i64 ((lq qf qc i).2 : Nat), .int .i64 (at_ : Nat)] w fun e w' => e = .returned (.tuple #[bv x, .bool true]) ∧ Kept (fun _ => False) w w' := by
  unfold lnl at hx hl
  unfold lq
  by_cases h8 : i < 8
  · simp only [if_pos h8] at hx hl ⊢
    exact qat_any hp.fr (p := 7 - i) (k := at_) rfl rfl (by omega) hx hl
  · simp only [if_neg h8] at hx hl ⊢
    have e0 : crl cr 0 = cr := upd_self _ _ _
    exact qat_any hp.cq (p := 0) (k := at_) rfl rfl (by decide) (by rw [e0]; exact hx) (by rw [e0]; exact hl)
end Go.Proofs.Ytompbpiaapenaaa.Po

