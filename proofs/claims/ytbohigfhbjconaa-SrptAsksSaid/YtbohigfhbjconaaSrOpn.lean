/- The places of the messages that are open. Conditions: each theorem's own. -/
import Derived.Test.YtbohigfhbjconaaSrCmp
import Derived.Test.YtbohigfhbjconaaTbRw
import Derived.Deep.RegionLaw
set_option linter.unusedVariables false
set_option linter.unusedSimpArgs false
namespace Go.Proofs.Ytbohigfhbjconaa.Sr
open Go.RowKit Hp Go.Proofs.Ytbohigfhbjconaa.End Opn SrM So
/-- Numbers, as elements of rows. -/
@[reducible] def nT : Rw.Ty Int where
  E := 3
  L := 43
  k := 1
  bz := 8
  enc := fun x => [.int .i64 x]
  z := .int .i64 0
  hL := Try.underlying43
  hI := by kernel_rfl
  hz := rfl
  hk := fun x => rfl
  h1 := fun x v hv => by
    simp only [List.mem_cons, List.not_mem_nil, or_false] at hv
    subst hv; rfl
  k0 := by decide
  hb := by decide
theorem nflat : ∀ l : List Int, Rw.flat nT l = l.map I
  | [] => rfl
  | x :: l => by have := nflat l; unfold Rw.flat at this ⊢; rw [List.flatMap_cons, this]; rfl
theorem past {w w1 w2 : World} {v : Value} (h : Kept (fun _ => False) w w1) (k : Kept (fun g => v.ownBlock = some g) w1 w2) (hv : ∀ g, v.ownBlock = some g → w.heap.size ≤ g) : Kept (fun _ => False) w w2 :=
  h.trans' k (fun i hi e => by have := hv i e; omega)
theorem new_kept (w : World) (o : Obj) : Kept (fun _ => False) w (w.alloc o) := (Kept.refl _ w).alloc o
set_option maxHeartbeats 4000000 in
theorem open_any {l : List M} {v : Value} {w : World} (h : Rd w v l) (hl : l.length ≤ 60) :
    Calls Try.prog 23 #[v] w fun e w' => ∃ v', e = .returned v' ∧ Rw.Row nT w' w.heap.size v' (opn l l.length) ∧ Kept (fun _ => False) w w' := by
  obtain ⟨a, c, rfl, hc⟩ := h
  obtain ⟨n, hn⟩ : ∃ n, l.length = n := ⟨_, rfl⟩
  have HN := Lib.hid hn
  have HC := Lib.hid hc
  rw [hn] at hl ⊢
  clear hc hn
  go_enter Try.func23, Try.ntmps23
  go_wp2_with fail
  go_loopg [3, 8] n (fun kx s3 s8 wr => ∃ (i : Nat) (v : Value), s8 = .int .i64 i ∧ s3 = v ∧ i ≤ n ∧ n - i ≤ kx ∧ Hid (Rw.Row nT wr w.heap.size v (opn l i)) ∧ Hid (Kept (fun _ => False) w wr))
  case atStart => exact ⟨0, .slice none 0 0, rfl, rfl, Nat.zero_le _, Nat.le_refl _, Rw.Row.none _ _ _, Lib.hid (Kept.refl _ _)⟩
  case round =>
    obtain ⟨i, v, rfl, rfl, hin, hkx, HR, HK⟩ := hrel
    by_cases hlt : i < n
    · have hltz : (i : Int) < (n : Int) := by omega
      obtain ⟨m, hm⟩ : ∃ m, l[i]? = some m := ⟨_, List.getElem?_eq_getElem (by rw [HN.out]; exact hlt)⟩
      obtain ⟨g, o, rfl, hg, hcc⟩ := HC.out i m hm
      obtain ⟨c0, c1, c2, c3, c4, c5⟩ := hcc.old HK.out hg
      have hok := opn_succ l i
      rw [at_is hm] at hok
      have HOK := Lib.hid hok
      have MA := Lib.hid fun w => may_any m w
      have hgr : g < wr.heap.size := Nat.lt_of_lt_of_le hg HK.out.size
      have RM := Lib.hid fun hm w => rem_any m hm w
      have HO : Hid (ok m = (may m && decide (0 < m.t - m.h))) := rfl
      obtain ⟨bm, hbm⟩ : ∃ b, may m = b := ⟨_, rfl⟩
      rw [hbm] at MA HO
      have HBM := Lib.hid hbm
      obtain ⟨mp, mi, mt, mh, mg, mb⟩ := m
      unfold mv ml at MA RM
      dsimp only at c0 c1 c2 c3 c4 c5 MA RM HO
      clear hm hcc hok hbm hg
      obtain ⟨oi, hoi⟩ : ∃ oi, oi = o + i * 6 := ⟨_, rfl⟩
      go_upto_region 5 with fail
      have hB := Blk.new wr [.int .i64 mp, .int .u64 mi, .int .i64 mt, .int .i64 mh, .int .i64 mg, .int .i64 mb] 39
      have hK1 := new_kept wr (.cells [.int .i64 mp, .int .u64 mi, .int .i64 mt, .int .i64 mh, .int .i64 mg, .int .i64 mb].toArray 39)
      dsimp only [List.toArray] at hB hK1
      generalize wr.alloc (.cells #[.int .i64 mp, .int .u64 mi, .int .i64 mt, .int .i64 mh, .int .i64 mg, .int .i64 mb] 39) = w1 at *
      have HK1 : Hid (Kept (fun _ => False) wr w1) := hK1
      have HB := Lib.hid hB
      have d0 := hB.cell (o := 0) rfl
      have d1 := hB.cell (o := 1) rfl
      have d2 := hB.cell (o := 2) rfl
      have d3 := hB.cell (o := 3) rfl
      have d4 := hB.cell (o := 4) rfl
      have d5 := hB.cell (o := 5) rfl
      clear hB hK1 c0 c1 c2 c3 c4 c5
      generalize wr.heap.size = xb at *
      go_wp2_with fail
      with_reducible refine Calls.mono (MA.out _) ?_
      rintro e w2 ⟨rfl, hw2⟩
      have HK2 : Hid (Kept (fun _ => False) wr w2) := Lib.hid (by rw [hw2]; exact HK1.out.alloc _)
      have hB2 : Blk w2 xb [.int .i64 mp, .int .u64 mi, .int .i64 mt, .int .i64 mh, .int .i64 mg, .int .i64 mb] 39 := by rw [hw2]; exact HB.out.old _
      clear hw2 d0 d1 d2 d3 d4 d5 MA HK1 HB
      have d0 := hB2.cell (o := 0) rfl
      have d1 := hB2.cell (o := 1) rfl
      have d2 := hB2.cell (o := 2) rfl
      have d3 := hB2.cell (o := 3) rfl
      have d4 := hB2.cell (o := 4) rfl
      have d5 := hB2.cell (o := 5) rfl
      clear hB2
      cases bm with
      | false =>
        have NX : Hid (opn l (i + 1) = opn l i) := by
          show _ = _
          rw [HOK.out, HO.out, if_neg (by simp), List.append_nil]
        clear HOK HO
        go_wp2_with fail
        go_roundg (n - (i + 1))
        case measure => omega
        case rel => exact ⟨i + 1, _, by go_num, rfl, by omega, Nat.le_refl _, Lib.hid (by rw [NX.out]; exact HR.out.old HK2.out), Lib.hid (HK.out.trans HK2.out)⟩
      | true =>
        obtain ⟨b1, _, _⟩ := may_bd HBM.out
        have RM2 := Lib.hid (RM.out HBM.out)
        clear RM HBM
        unfold B1 at b1
        dsimp only at b1
        obtain ⟨b1, b2, b3, b4⟩ := b1
        go_wp2_with fail
        with_reducible refine Calls.mono (RM2.out _) ?_
        rintro e w3 ⟨rfl, hw3⟩
        have HK3 : Hid (Kept (fun _ => False) wr w3) := Lib.hid (by rw [hw3]; exact HK2.out.alloc _)
        clear hw3 RM2 HK2 d0 d1 d2 d3 d4 d5
        by_cases hr : 0 < mt - mh
        · have hrd : decide (0 < mt - mh) = true := decide_eq_true hr
          have NX : Hid (opn l (i + 1) = opn l i ++ [(i : Int)]) := by
            show _ = _
            rw [HOK.out, HO.out, hrd, if_pos (by simp)]
          have hr2 : mh < mt := by omega
          clear HOK HO hrd
          go_upto_region 6 with fail
          have hR5 := (HR.out.old HK3.out).old (new_kept w3 (.cells #[.int .i64 (i : Nat)] 3))
          have hS5 := Rw.src_blk (t := nT) (K := [(i : Int)]) 1 (Blk.new w3 [.int .i64 (i : Nat)] 3)
          have hsm : (opn l i).length + [(i : Int)].length ≤ 1000000 := by have := opn_len l i; simp; omega
          have hbase : w.heap.size ≤ (w3.alloc (.cells #[.int .i64 (i : Nat)] 3)).heap.size := by have h1 := HK.out.size; have h2 := HK3.out.size; rw [World.size_alloc]; omega
          have HR5 := Lib.hid hR5
          have HS5 := Lib.hid hS5
          have HSM := Lib.hid hsm
          have HBS := Lib.hid hbase
          clear hR5 hS5 hsm hbase
          go_wp2_with (at_builtin; refine Rw.wpList_app nT rfl _ _ rfl w.heap.size rfl HR5.out rfl HS5.out HSM.out HBS.out ?_; intro v' w5 hA; have HA := Lib.hid hA; clear hA)
          go_roundg (n - (i + 1))
          case measure => omega
          case rel =>
            refine ⟨i + 1, v', by go_num, rfl, by omega, Nat.le_refl _, Lib.hid (by rw [NX.out]; exact HA.out.row), Lib.hid ?_⟩
            exact past ((HK.out.trans HK3.out).trans (new_kept _ _)) HA.out.kept (fun g hg => (HR.out.lt g hg).1)
        · have hrd : decide (0 < mt - mh) = false := decide_eq_false hr
          have NX : Hid (opn l (i + 1) = opn l i) := by
            show _ = _
            rw [HOK.out, HO.out, hrd, if_neg (by simp), List.append_nil]
          have hr2 : mt ≤ mh := by omega
          have hr3 : ¬ mh < mt := by omega
          clear HOK HO hrd
          go_wp2_with fail
          go_roundg (n - (i + 1))
          case measure => omega
          case rel => exact ⟨i + 1, _, by go_num, rfl, by omega, Nat.le_refl _, Lib.hid (by rw [NX.out]; exact HR.out.old HK3.out), Lib.hid (HK.out.trans HK3.out)⟩
    · have hltz : ¬ (i : Int) < (n : Int) := by omega
      obtain rfl : i = n := by omega
      go_wp2_with fail
      go_ret
      exact ⟨_, rfl, HR.out, HK.out⟩
end Go.Proofs.Ytbohigfhbjconaa.Sr
