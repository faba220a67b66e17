/- Where a meter's levels are cut. Conditions: each theorem's own. -/
import Derived.Test.YtkggnbibjcogeaaCoMt
set_option linter.unusedVariables false
namespace Go.Proofs.Ytkggnbibjcogeaa.Co
open Go.RowKit Hp CoM CoS NumM NumC
attribute [local go_sem ↓] Go.wp_at_zero Go.wp_at_succ
theorem addI_in {a b : Int} (h0 : 0 ≤ a) (h1 : 0 ≤ b) (h2 : a + b ≤ 1125899906842624) : addI a b = a + b := by
  unfold addI; rw [hold_in h0 (by omega), hold_in h1 (by omega), hold_in (by omega) h2]
theorem mulI_in {a b : Int} (h0 : 0 ≤ a) (h1 : 0 ≤ b) (ha : a ≤ 1125899906842624) (hb : b ≤ 1125899906842624) (h2 : a * b ≤ 1125899906842624) : mulI a b = a * b := by
  unfold mulI; rw [hold_in h0 ha, hold_in h1 hb, hold_in (Int.mul_nonneg h0 h1) h2]
theorem infoI : (Try.prog.info? 3).map (fun i => (i.zero, i.size, i.bytes)) = some (some (.int .i64 0), 1, 8) := by kernel_rfl
theorem madeN (N : Nat) (hN : N ≤ 1000) (w : World) : (Instr.makeSlice 22 (.int .i64 (N : Int)) (.int .i64 (N : Int))).run Try.prog w = .ok (.slice (some ⟨w.heap.size, 0, none⟩) N N) (w.alloc (.cells ((List.replicate N 0).map (Value.int .i64)).toArray 3)) := by
  obtain ⟨ti, hti, hz0, hz1, hz2⟩ := info_parts infoI
  have := run_make (P := Try.prog) (w := w) 22 3 ti (.int .i64 0) Try.underlying22 hti hz0 .i64 .i64 (N : Int) (N : Int) (by omega) (by omega) (by rw [hz2]; omega) (by omega)
  rw [Int.toNat_natCast, hz1, Nat.mul_one] at this
  rw [this]
  have e : madeCells (Value.int .i64 0).cells N = ((List.replicate N 0).map (Value.int .i64)).toArray := by
    apply Array.toList_inj.1
    have := toList_madeCells_one (.int .i64 0) N
    rw [show (Value.int .i64 0).cells = #[.int .i64 0] from rfl, this]
    simp
  rw [e]
theorem row_cell {w : World} {a : Option Addr} {n c : Nat} {zs : List Int} (h : Ro.Row nT w (.slice a n c) zs) {k : Nat} {x : Int} (hx : zs[k]? = some x) : ∃ g o, a = some ⟨g, o, none⟩ ∧ w.cell? ⟨g, o + k, none⟩ = some (.int .i64 x) := by
  rcases h with ⟨_, rfl⟩ | ⟨g, o, cap, cur, e, h2⟩
  · simp at hx
  · refine ⟨g, o, (Value.slice.inj e).1, ?_⟩
    have := h2.cell hx (j := 0) (u := .int .i64 x) rfl
    rwa [Nat.add_zero, Nat.mul_one] at this
/-- How many bytes are unasked, each step within bounds. -/
theorem pr_step {W : Int} (hW : 0 ≤ W) {zs : List Int} (hb : ∀ y ∈ zs, 0 ≤ y ∧ y ≤ 1073741824) (hl : zs.length ≤ 1000) {k : Nat} {x : Int} (hx : zs[k]? = some x) :
    0 ≤ pr W (zs.take k) ∧ 0 ≤ min x W ∧ pr W (zs.take k) + min x W ≤ 1125899906842624 ∧ addI (pr W (zs.take k)) (min x W) = pr W (zs.take (k + 1)) := by
  have h1 := pr_bd hW (l := zs.take k) (fun y hy => hb y (List.mem_of_mem_take hy))
  obtain ⟨hk, e⟩ := List.getElem?_eq_some_iff.1 hx
  have hxb := hb x (e ▸ List.getElem_mem hk)
  rw [List.length_take] at h1
  have h2 : pr W (zs.take k) + min x W ≤ 1125899906842624 := by omega
  exact ⟨h1.1, by omega, h2, by rw [addI_in h1.1 (by omega) h2, pr_take hx]⟩
set_option maxHeartbeats 8000000 in
theorem cuts_any {w : World} {b L M : Nat} {l : List Int} {v : Value} (h : MtV w b L M l v) (window : Int) :
    Calls Try.prog 12 #[.pointer (some ⟨b, 0, none⟩), .int .i64 window] w fun e w' => ∃ v', e = .returned v' ∧ Rw.Row nT w' w.heap.size v' (cuts L (cl window) (srt l)) ∧ Kept (fun _ => False) w w' := by
  have MD := Lib.hid (made_yes h)
  have CL := Lib.hid (clampInt_any window 0 1073741824 w)
  rw [cl_is] at CL
  have hW0 := (cl_bd window).1
  have hW1 := (cl_bd window).2
  obtain ⟨W, hWd⟩ : ∃ W, cl window = W := ⟨_, rfl⟩
  rw [hWd] at CL hW0 hW1 ⊢
  clear hWd
  have hl0 := h.l0
  have hl1 := h.l1
  have HO := Lib.hid h.off
  obtain ⟨zs, f, h1, h2, h3⟩ := h.ex
  have hzm : zs.length ≤ 1000 := Nat.le_trans h3.le h.m1
  have hzb : ∀ y ∈ zs, 0 ≤ y ∧ y ≤ 1073741824 := fun y hy => h.bd y (h3.perm.mem_iff.1 hy)
  have HZB := Lib.hid hzb
  rw [← srt_of h3.perm]
  have c2 := h1.cell (o := 2) rfl
  have HB := Lib.hid h1
  have HR := Lib.hid h2
  obtain ⟨a, c, hv, hc1, hc2⟩ := h2.slice
  subst hv
  unfold maxLen at hc2
  clear h h1 h2 h3 hzb
  obtain ⟨n, hn⟩ : ∃ n, zs.length = n := ⟨_, rfl⟩
  have HN := Lib.hid hn
  rw [hn] at c2 HB HR hc1 HO hzm
  clear hn
  go_enter Try.func12, Try.ntmps12
  go_wp2_with fail
  with_reducible refine Calls.mono MD.out ?_
  rintro e w' ⟨rfl, rfl⟩
  go_wp2_with fail
  with_reducible refine Calls.mono CL.out ?_
  rintro e w' ⟨rfl, rfl⟩
  go_wp2_with fail
  go_loopg [5, 23] n (fun mm s5 s23 wr => ∃ (k : Nat), Hid (n - k ≤ mm) ∧ k ≤ n ∧ s23 = .int .i64 (k : Nat) ∧ s5 = .int .i64 (pr W (zs.take k)) ∧ Hid (Kept (fun _ => False) w wr))
  case atStart => exact ⟨0, Lib.hid (by omega), Nat.zero_le _, rfl, rfl, Lib.hid (Kept.refl _ _)⟩
  case round =>
    obtain ⟨k, hmm, hk, rfl, rfl, hkl⟩ := hrel
    rcases Nat.lt_or_ge k n with hlt | hge
    · obtain ⟨x, hx⟩ : ∃ x, zs[k]? = some x := ⟨_, List.getElem?_eq_getElem (by rw [HN.out]; exact hlt)⟩
      have hst := pr_step hW0 HZB.out (by rw [HN.out]; exact hzm) hx
      obtain ⟨g, o, rfl, hcx⟩ := row_cell (HR.out.old hkl.out) hx
      have HX := Lib.hid hx
      have hlt' : (k : Int) < (n : Int) := by omega
      clear hx
      obtain ⟨q1, q2, q3, q4⟩ := hst
      have HQ4 := Lib.hid q4
      clear q4
      obtain ⟨m, hm⟩ : ∃ m, min x W = m := ⟨_, rfl⟩
      have MN := Lib.hid fun (w' : World) (p : Nat) (hc : w'.cell? ⟨p, 0, none⟩ = some (.int .i64 W)) => IvN.min1 x W m p w' (by rw [← hm]; exact IvN.min_if x W) hc
      rw [hm] at q2 q3 HQ4
      clear hm
      obtain ⟨s, hs⟩ : ∃ s, pr W (zs.take k) = s := ⟨_, rfl⟩
      rw [hs] at q1 q3 HQ4 ⊢
      have HS := Lib.hid hs
      clear hs
      have AD := Lib.hid (addNum_any s m)
      go_upto_region 8 with fail
      have hB1 := Blk.new wr [.int .i64 W] 3
      have hk1 := (Kept.refl (fun _ => False) wr).alloc (.cells [.int .i64 W].toArray 3)
      dsimp only [List.toArray] at hB1 hk1
      have cW := hB1.cell (o := 0) rfl
      have HK1 := Lib.hid (hkl.out.trans hk1)
      clear hcx hkl hB1 hk1
      go_wp2_with fail
      with_reducible refine Calls.mono (MN.out _ _ cW) ?_
      rintro e w2 ⟨rfl, rfl⟩
      go_wp2_with fail
      with_reducible refine Calls.mono (AD.out _) ?_
      rintro e w2 ⟨rfl, rfl⟩
      rw [HQ4.out]
      go_wp2_with fail
      go_roundg (n - (k + 1))
      case measure => have := hmm.out; omega
      case rel => exact ⟨k + 1, Lib.hid (Nat.le_refl _), by omega, by go_num, rfl, HK1⟩
    · obtain rfl : k = n := by omega
      have hpr : pr W (zs.take k) = pr W (srt zs) := by rw [← HN.out, List.take_length]; exact (pr_perm (srt_perm zs)).symm
      rw [hpr]
      clear hpr
      have hs0 := pr_bd hW0 (l := srt zs) (srt_bd HZB.out)
      rw [srt_len, HN.out] at hs0
      obtain ⟨S, hS⟩ : ∃ S, srt zs = S := ⟨_, rfl⟩
      have HSl : Hid (S.length = k ∧ (∀ y ∈ S, 0 ≤ y ∧ y ≤ 1073741824)) := Lib.hid (hS ▸ ⟨by rw [srt_len, HN.out], srt_bd HZB.out⟩)
      rw [hS] at hs0 ⊢
      obtain ⟨B, hBB⟩ : ∃ B, pr W S = B := ⟨_, rfl⟩
      rw [hBB] at hs0 ⊢
      have HBB := Lib.hid hBB
      obtain ⟨hB0, hB1⟩ := hs0
      have hB2 : B ≤ 1073741824000 := by omega
      have HB1 := Lib.hid (HB.out.heap (hkl.out.block _ HB.out.lt (fun f => f)))
      have HR1 := Lib.hid (HR.out.old hkl.out)
      have hkl1 := hkl
      have c0 := HB1.out.cell (o := 0) rfl
      have c2 := HB1.out.cell (o := 2) rfl
      clear HB HR hBB hB1 HZB hge hmm HN hkl
      have hL1 : (L : Int) - 1 = ((L - 1 : Nat) : Int) := by omega
      obtain ⟨J, hJ⟩ : ∃ J, L - 1 = J := ⟨_, rfl⟩
      rw [hJ] at hL1
      have hJ7 : J ≤ 7 := by omega
      have HJ := Lib.hid hJ
      clear hJ
      have MK := fun w => madeN J (by omega) w
      go_upto_region 12 with fail
      clear MK hL1
      have hBC : Blk (wr.alloc (.cells (Array.replicate J (.int .i64 0)) 3)) wr.heap.size ((List.replicate J 0).map (Value.int .i64)) 3 := by
        have := Blk.new wr ((List.replicate J 0).map (Value.int .i64)) 3
        rwa [show ((List.replicate J 0).map (Value.int .i64)).toArray = Array.replicate J (.int .i64 0) by simp] at this
      have hk1 := (Kept.refl (fun _ => False) wr).alloc (.cells (Array.replicate J (.int .i64 0)) 3)
      have HB2 := Lib.hid (HB1.out.heap (hk1.block _ HB1.out.lt (fun f => f)))
      have HR2 := Lib.hid (HR1.out.old hk1)
      have HK2 := Lib.hid (hkl1.out.trans hk1)
      have hcb : w.heap.size ≤ wr.heap.size := hkl1.out.size
      have hbc : b < wr.heap.size := HB1.out.lt
      generalize wr.alloc (.cells (Array.replicate J (.int .i64 0)) 3) = w2 at *
      generalize wr.heap.size = cb at *
      have HBC := Lib.hid hBC
      have c2 := HB2.out.cell (o := 2) rfl
      clear hBC hk1 HB1 HR1 hkl1 c0
      have VL := Lib.hid (values_any (.slice a k c) ⟨a, k, c, rfl⟩ w2)
      go_wp2_with fail
      with_reducible refine Calls.mono VL.out ?_
      rintro e w3 ⟨rfl, hB3, hk3⟩
      have SO := Lib.hid (sorted_any (l := zs) (by rw [← hS, srt_len] at HSl; have := HSl.out.1; omega) hB3 (nums_of (HR2.out.old hk3)))
      rw [hS] at SO
      have HB3 := Lib.hid (HB2.out.heap (hk3.block _ HB2.out.lt (fun f => f)))
      have HBC3 := Lib.hid (HBC.out.heap (hk3.block _ HBC.out.lt (fun f => f)))
      have HK3 := Lib.hid (HK2.out.trans hk3)
      have hs3 : cb < w3.heap.size := HBC3.out.lt
      clear hB3 hk3 HB2 HR2 HK2 HBC VL c2
      go_wp2_with fail
      with_reducible refine Calls.mono SO.out ?_
      rintro e w4 ⟨v4, rfl, hR4, hk4⟩
      have HB4 := Lib.hid (HB3.out.heap (hk4.block _ HB3.out.lt (fun f => f)))
      have HBC4 := Lib.hid (HBC3.out.heap (hk4.block _ HBC3.out.lt (fun f => f)))
      have HK4 := Lib.hid (HK3.out.trans hk4)
      have HR4 : Hid (Ro.Row nT w4 v4 S) := Lib.hid (Ro.of_rw hR4)
      have HV4 : Hid (v4.ownBlock ≠ some cb) := Lib.hid (fun e => by have := (hR4.lt cb e).1; omega)
      obtain ⟨a4, q4, rfl, hq1, hq2⟩ := hR4.slice
      rw [HSl.out.1] at HR4 HV4 hq1
      rw [HSl.out.1]
      unfold maxLen at hq2
      clear hR4 hk4 HB3 HBC3 HK3 SO
      go_wp2_with fail
      have HST := Lib.hid (Cut.start L W S)
      rw [HJ.out] at HST
      have hbc4 : b ≠ cb := by omega
      clear hs3
      go_loopg [9, 10, 47] k (fun mm s9 s10 s47 wr => ∃ (j i : Nat) (x : Int) (cs : List Int), Hid (k - j ≤ mm) ∧ j ≤ k ∧ i ≤ J ∧ s47 = .int .i64 (j : Nat) ∧ s9 = .int .i64 (i : Nat) ∧ s10 = .int .i64 x ∧ Hid (Cut L W S j i x cs) ∧ Hid (Blk wr cb (cs.map (Value.int .i64)) 3) ∧ Hid (Kept (fun q => q = cb) w4 wr))
      case atStart => exact ⟨0, 0, 0, _, Lib.hid (by omega), Nat.zero_le _, Nat.zero_le _, rfl, rfl, rfl, HST, HBC4, Lib.hid (Kept.refl _ _)⟩
      case round =>
        obtain ⟨j, i, y, cs, hmm, hj, hi, rfl, rfl, rfl, hcut, hbk, hkl⟩ := hrel
        rcases Nat.lt_or_ge j k with hlt | hge
        · obtain ⟨x, hx⟩ : ∃ x, S[j]? = some x := ⟨_, List.getElem?_eq_getElem (by rw [HSl.out.1]; exact hlt)⟩
          have hst := pr_step hW0 HSl.out.2 (by rw [HSl.out.1]; exact hzm) hx
          rw [← hcut.out.sum] at hst
          obtain ⟨g, o, rfl, hcx⟩ := row_cell (HR4.out.kept hkl.out (fun g hg e => HV4.out (by rw [hg, e]))) hx
          have hlt' : (j : Int) < (k : Int) := by omega
          obtain ⟨q1, q2, q3, q4⟩ := hst
          have q5 := pr_bd hW0 (l := S.take (j + 1)) (fun y hy => HSl.out.2 y (List.mem_of_mem_take hy))
          rw [← q4] at q5
          have HMD := Lib.hid (hcut.out.mid hx)
          rw [addI_in q1 q2 q3] at q4 q5
          clear q4 hcut
          have q6 : y + min x W ≤ 1073741824000 := by have := q5.2; rw [List.length_take, HSl.out.1] at this; omega
          clear q5
          have HAI := Lib.hid (addI_in q1 q2 q3)
          obtain ⟨m, hm⟩ : ∃ m, min x W = m := ⟨_, rfl⟩
          have MN := Lib.hid fun (w' : World) (p : Nat) (hc : w'.cell? ⟨p, 0, none⟩ = some (.int .i64 W)) => IvN.min1 x W m p w' (by rw [← hm]; exact IvN.min_if x W) hc
          rw [hm] at q2 q3 q6 HAI HMD
          have AD := Lib.hid (addNum_any y m)
          rw [HAI.out] at AD
          clear hm hx
          obtain ⟨z, hz⟩ : ∃ z, y + m = z := ⟨_, rfl⟩
          have hz0 : 0 ≤ z := by omega
          rw [hz] at q6 AD HMD
          clear HAI q3 hz
          go_upto_region 15 with fail
          have hB1 := Blk.new wr [.int .i64 W] 3
          have hk1 := (Kept.refl (fun _ => False) wr).alloc (.cells [.int .i64 W].toArray 3)
          dsimp only [List.toArray] at hB1 hk1
          have cW := hB1.cell (o := 0) rfl
          have HK1 := Lib.hid (hkl.out.trans (hk1.mono (fun _ _ f => f.elim)))
          have HBK1 := Lib.hid (hk1.blk hbk.out (fun f => f))
          clear hcx hkl hB1 hk1 hbk
          go_wp2_with fail
          with_reducible refine Calls.mono (MN.out _ _ cW) ?_
          rintro e w5 ⟨rfl, rfl⟩
          go_wp2_with fail
          with_reducible refine Calls.mono (AD.out _) ?_
          rintro e w5 ⟨rfl, rfl⟩
          clear cW MN AD
          generalize wr.alloc (.cells #[.int .i64 W] 3) = w6 at *
          go_wp2_with fail
          go_loopg [9] J (fun nn s9 wr => ∃ (i : Nat) (cs : List Int), Hid (J - i ≤ nn) ∧ i ≤ J ∧ s9 = .int .i64 (i : Nat) ∧ Hid (Mid L W S j i x z cs) ∧ Hid (Blk wr cb (cs.map (Value.int .i64)) 3) ∧ Hid (Kept (fun q => q = cb) w4 wr))
          case atStart => exact ⟨i, cs, Lib.hid (by omega), hi, rfl, HMD, HBK1, HK1⟩
          case round =>
            clear HMD HBK1 HK1
            clear hi
            obtain ⟨i, cs, hnn, hi, rfl, hmd, hbk, hkl⟩ := hrel
            have hcl : cs.length = J := by rw [hmd.out.len, HJ.out]
            have d0 := (HB4.out.heap (hkl.out.block _ HB4.out.lt (fun e => hbc4 e))).cell (o := 0) rfl
            rcases Nat.lt_or_ge i J with hiJ | hiJ
            · have hiJ' : (i : Int) < (J : Int) := by omega
              have hm1 : 0 ≤ ((i : Int) + 1) * B := Int.mul_nonneg (by omega) hB0
              have hm2 : ((i : Int) + 1) * B ≤ 8 * B := Int.mul_le_mul_of_nonneg_right (by omega) hB0
              have MU := Lib.hid (mulNum_any ((i : Int) + 1) B)
              rw [mulI_in (by omega) hB0 (by omega) (by omega) (by omega)] at MU
              have hth : thr L B (i + 1) = ((i : Int) + 1) * B / (L : Int) := by unfold thr; rw [show (((i + 1 : Nat)) : Int) = (i : Int) + 1 by omega]
              have hth2 := thr_bd (L := L) (i := i + 1) (B := B) hl0 (by have := HJ.out; omega) hB0
              obtain ⟨p, hp⟩ : ∃ p, ((i : Int) + 1) * B = p := ⟨_, rfl⟩
              rw [hp] at hm1 hm2 MU hth
              obtain ⟨t, ht⟩ : ∃ t, p / (L : Int) = t := ⟨_, rfl⟩
              rw [ht] at hth
              rw [hth] at hth2
              have HTH := Lib.hid hth
              clear hp hth
              have hLn : ¬ (L : Int) = 0 := by omega
              have hLn2 : ((L : Int) == 0) = false := by rw [beq_eq_false_iff_ne]; exact hLn
              obtain ⟨ht0, ht1⟩ := hth2
              by_cases hreach : t ≤ z
              · have hr2 : decide (t ≤ z) = true := by simpa using hreach
                go_wp2_with fail
                go_quiet ((go_at_call 38; exact Calls.quiet_of_same ((MU.out _).mono fun _ _ ⟨e1, e2⟩ => ⟨e1, e2.symm⟩)))
                have hB7 := hbk.out.drewN nq
                have hK7 : Kept (fun q => q = cb) w4 (wr.drewN nq) := hkl.out.drewN nq
                have hmd7 := hmd
                have hnn7 := hnn
                clear hkl hbk d0 hmd hnn MU
                generalize wr.drewN nq = w7 at *
                have e0 : w7.cell? ⟨cb, i, none⟩ = some (.int .i64 (cs[i]'(by omega))) := hB7.cell (by rw [List.getElem?_map, List.getElem?_eq_getElem (by omega)]; rfl)
                have f0 := hB7.frozen i
                have hcb7 := hB7.lt
                have HB8 := Lib.hid (hB7.set i (.int .i64 x))
                rw [← List.map_set] at HB8
                have HK8 : Hid (Kept (fun q => q = cb) w4 (w7.setCell ⟨cb, i, none⟩ (.int .i64 x))) := Lib.hid (Kept.set (F := fun q => q = cb) hK7 (b := cb) (fun _ => rfl) i _)
                have HM8 := Lib.hid (hmd7.out.step (by omega) (by rw [HBB.out, HTH.out]; exact hreach))
                go_wp2_with fail
                go_roundg (J - (i + 1))
                case measure => have := hnn7.out; omega
                case rel => exact ⟨i + 1, cs.set i x, Lib.hid (Nat.le_refl _), by omega, by go_num, HM8, HB8, HK8⟩
              · have hr2 : decide (t ≤ z) = false := by simpa using hreach
                go_wp2_with fail
                go_quiet ((go_at_call 38; exact Calls.quiet_of_same ((MU.out _).mono fun _ _ ⟨e1, e2⟩ => ⟨e1, e2.symm⟩)))
                have HB9 := Lib.hid (hbk.out.drewN nq)
                have HK9 : Hid (Kept (fun q => q = cb) w4 (wr.drewN nq)) := Lib.hid (hkl.out.drewN nq)
                have HC9 := Lib.hid (hmd.out.out hl0 (by rw [HBB.out]; exact hB0) (Or.inr (by rw [HBB.out, HTH.out]; omega)))
                clear hkl hbk d0 hmd hnn MU
                generalize wr.drewN nq = w7 at *
                go_wp2_with fail
                go_roundg (k - (j + 1))
                case measure => have := hmm.out; omega
                case rel => exact ⟨j + 1, i, z, cs, Lib.hid (Nat.le_refl _), by omega, hi, by go_num, rfl, rfl, HC9, HB9, HK9⟩
            · obtain rfl : i = J := by omega
              have hr2 : decide ((i : Int) < (i : Int)) = false := by simp
              go_wp2_with fail
              go_quiet (fail)
              have HB9 := Lib.hid (hbk.out.drewN nq)
              have HK9 : Hid (Kept (fun q => q = cb) w4 (wr.drewN nq)) := Lib.hid (hkl.out.drewN nq)
              have HC9 := Lib.hid (hmd.out.out hl0 (by rw [HBB.out]; exact hB0) (Or.inl (by omega)))
              clear hkl hbk d0 hmd hnn
              generalize wr.drewN nq = w7 at *
              go_wp2_with fail
              go_roundg (k - (j + 1))
              case measure => have := hmm.out; omega
              case rel => exact ⟨j + 1, i, z, cs, Lib.hid (Nat.le_refl _), by omega, hi, by go_num, rfl, rfl, HC9, HB9, HK9⟩
        · obtain rfl : j = k := by omega
          have hcc := hcut.out
          rw [← HSl.out.1] at hcc
          have hall := hcc.all
          have hlen : cs.length = J := by rw [hcut.out.len, HJ.out]
          have HALL := Lib.hid hall
          have HLEN := Lib.hid hlen
          have HBK := Lib.hid hbk.out
          have HKL := Lib.hid hkl.out
          clear hall hlen hcc hcut hbk hkl
          go_wp2_with fail
          go_ret
          refine ⟨.slice (some ⟨cb, 0, none⟩) J J, rfl, ?_, HK4.out.trans' HKL.out (fun q hq e => by omega)⟩
          rw [hS, ← HALL.out]
          have hf : Rw.flat nT cs = cs.map (Value.int .i64) := flat_n cs
          have hLi : Rw.Lies nT wr cb J (cs.map (Value.int .i64)) cs := ⟨HBK.out, by rw [HLEN.out]; exact Nat.le_refl _, by unfold maxLen; omega, by rw [List.length_map, HLEN.out, Nat.mul_one], by rw [hf, List.take_of_length_le (by rw [List.length_map, Nat.mul_one]; exact Nat.le_refl _)]⟩
          have := hLi.row hcb
          rwa [HLEN.out] at this
end Go.Proofs.Ytkggnbibjcogeaa.Co
