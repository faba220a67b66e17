/- A port: which one is the k-th. Conditions: each theorem's own. -/
import Derived.Test.YtompbpiaapenaaaPoHi
import Derived.Test.YtompbpiaapenaaaPqAt
set_option linter.unusedVariables false
namespace Go.Proofs.Ytompbpiaapenaaa.Po
open Go.RowKit Hp QuM QuN Rw Qu NumM NumC
attribute [local go_sem ↓] Go.wp_at_zero Go.wp_at_succ
variable {w0 w w' : World} {b qf qc pb : Nat} {room most : Int} {trim : Bool} {ls : Nat → List Bx} {cr : List Bx} {now nxt : Int} {Ff Fc F : Nat → Prop}
theorem count_of (hp : Prt w0 b qf qc pb room most trim ls cr now nxt Ff Fc w) {i : Nat} (hi : i < 9) :
    Calls Try.prog 82 #[.pointer (some ⟨(lq qf qc i).1, 0, none⟩), .int .i64 ((lq qf qc i).2 : Nat)] w fun e w' => e = .returned (.int .i64 ((lnl ls cr i).length : Nat)) ∧ w = w' := by
  unfold lq lnl
  split
  · obtain ⟨h0, hr0, c, vs, fs, h1, h2, h3, h4⟩ := hp.fr
    exact count_at rfl (by omega) (h1.blk.cell (h1.cn (7 - i) (by omega)))
  · obtain ⟨h0, hr0, c, vs, fs, h1, h2, h3, h4⟩ := hp.cq
    have := count_at (n := (crl cr 0).length) (p := ((0 : Nat) : Int)) rfl (by decide) (h1.blk.cell (h1.cn 0 (by decide)))
    rw [show crl cr 0 = cr from upd_self _ _ _] at this
    exact this
theorem find_neg {q : Option Addr} {k : Int} (hk : k < 0) (w : World) : Calls Try.prog 52 #[.pointer q, .int .i64 k] w fun e w' => e = .returned (.tuple #[lz, .int .i64 0, .bool false]) ∧ Kept (fun _ => False) w w' := by
  rcases q with _ | a
  · exact find_nil k w
  · go_enter Try.func52, Try.ntmps52
    go_upto_region 1 with fail
    have hO := Blk.new w [.pointer none, .int .i64 0] 99
    have hk1 := (Kept.refl (fun _ => False) w).alloc (.cells [.pointer none, .int .i64 0].toArray 99)
    dsimp only [List.toArray] at hO hk1
    generalize w.alloc (.cells #[.pointer none, .int .i64 0] 99) = w1 at *
    obtain ⟨rb, hrb⟩ : ∃ rb, w.heap.size = rb := ⟨_, rfl⟩
    rw [hrb] at hO
    simp only [hrb]
    have HRB := Lib.hid hrb
    clear hrb
    have n0 := hO.cell (o := 0) rfl
    have n1 := hO.cell (o := 1) rfl
    have f0 := hO.frozen 0
    have f1 := hO.frozen 1
    have hO5 := (hO.set 0 (.pointer none)).set 1 (.int .i64 0)
    have HK5 : Hid (Kept (fun _ => False) w ((w1.setCell ⟨rb, 0, none⟩ (.pointer none)).setCell ⟨rb, 1, none⟩ (.int .i64 0))) := Lib.hid ((hk1.set (b := rb) (fun h => by have := HRB.out; omega) _ _).set (b := rb) (fun h => by have := HRB.out; omega) _ _)
    have z0 := hO5.cell (o := 0) rfl
    have z1 := hO5.cell (o := 1) rfl
    clear hO hO5 hk1
    go_wp2_with fail
    exact bodyPost_ret (v := .tuple #[lz, .int .i64 0, .bool false]) (by simp [results, Try.results52, go_sem, z0, z1]) rfl ⟨rfl, HK5.out⟩
/-- What find tells. -/
def FdR (ls : Nat → List Bx) (cr : List Bx) (qf qc k : Nat) (v : Value) : Prop :=
  (∃ i at_, i < 9 ∧ at_ < (lnl ls cr i).length ∧ (accL ls cr i).length + at_ = k ∧ v = .tuple #[lv (lq qf qc i).1 ((lq qf qc i).2 : Nat), .int .i64 (at_ : Nat), .bool true]) ∨ ((accL ls cr 9).length ≤ k ∧ v = .tuple #[lz, .int .i64 0, .bool false])
theorem acc_succ (ls : Nat → List Bx) (cr : List Bx) (i : Nat) : (accL ls cr (i + 1)).length = (accL ls cr i).length + (lnl ls cr i).length := by
  show (accL ls cr i ++ lnl ls cr i).length = _; rw [List.length_append]
set_option maxRecDepth 100000 in
set_option maxHeartbeats 8000000 in
theorem find_any (hp : Prt w0 b qf qc pb room most trim ls cr now nxt Ff Fc w) {k : Nat} (hk : (k : Int) ≤ 9223372036854775807) (hn : (accL ls cr 9).length ≤ 100000) :
    Calls Try.prog 52 #[.pointer (some ⟨b, 0, none⟩), .int .i64 (k : Nat)] w fun e w' => ∃ v, e = .returned v ∧ FdR ls cr qf qc k v ∧ Kept (fun _ => False) w w' := by
  have HP := Lib.hid hp
  have LI := Lib.hid fun (w' : World) (kk : Kept (fun _ => False) w w') => lines_any (kk.blk hp.blk (fun f => f))
  have HN := Lib.hid hn
  clear hp hn
  go_enter Try.func52, Try.ntmps52
  go_upto_region 1 with fail
  have hO := Blk.new w [.pointer none, .int .i64 0] 99
  have hk1 := (Kept.refl (fun _ => False) w).alloc (.cells [.pointer none, .int .i64 0].toArray 99)
  dsimp only [List.toArray] at hO hk1
  generalize w.alloc (.cells #[.pointer none, .int .i64 0] 99) = w1 at *
  obtain ⟨rb, hrb⟩ : ∃ rb, w.heap.size = rb := ⟨_, rfl⟩
  rw [hrb] at hO
  simp only [hrb]
  have HRB := Lib.hid hrb
  have HO := Lib.hid hO
  have HK := Lib.hid hk1
  clear hrb hO hk1
  go_wp2_with fail
  with_reducible refine Calls.mono (LI.out _ HK.out) ?_
  rintro e w2 ⟨v', rfl, hr1, hk2⟩
  obtain ⟨g, cap, cur, rfl, hg, hL⟩ : ∃ g cap cur, v' = .slice (some ⟨g, 0, none⟩) 9 cap ∧ w1.heap.size ≤ g ∧ Lies lT w2 g cap cur (lsts qf qc 9) := by
    rcases hr1.form with ⟨_, h0⟩ | ⟨g, cap, cur, e, h1, h2⟩
    · have := lsts_len qf qc 9; rw [h0] at this; cases this
    · rw [lsts_len] at e; exact ⟨g, cap, cur, e, h1, h2⟩
  have HL := Lib.hid hL
  have HK2 := Lib.hid (HK.out.trans hk2)
  have HO2 := Lib.hid (hk2.blk HO.out (fun f => f))
  have hcap : 9 ≤ cap := by have := hL.le; rw [lsts_len] at this; exact this
  clear hr1 hk2 hL LI HO HK hg
  go_wp2_with fail
  go_loopg [1, 20] 9 (fun mm s1 s20 wr => ∃ (i r : Nat), Hid (9 - i ≤ mm) ∧ i ≤ 9 ∧ s20 = .int .i64 (i : Nat) ∧ s1 = .int .i64 (r : Nat) ∧ Hid ((accL ls cr i).length + r = k) ∧ Hid (Kept (fun _ => False) w2 wr))
  case atStart => exact ⟨0, k, Lib.hid (by omega), Nat.zero_le _, rfl, rfl, Lib.hid (by show 0 + k = k; omega), Lib.hid (Kept.refl _ _)⟩
  case round =>
    obtain ⟨i, r, hmm, hi, rfl, rfl, hr, hkl⟩ := hrel
    have hrk : (r : Int) ≤ 9223372036854775807 := by have := hr.out; omega
    rcases Nat.lt_or_ge i 9 with hlt | hge
    · have hlt' : (i : Int) < 9 := by omega
      obtain ⟨d0, d1⟩ := ln_cells (HL.out.kept hkl.out (fun f => f)) (i := i) (x := lq qf qc i) (by unfold lsts; rw [List.getElem?_map, List.getElem?_range hlt]; rfl)
      have CN := Lib.hid fun (w' : World) (kk : Kept (fun _ => False) w w') => count_of (HP.out.old kk) hlt
      have hc1 : (lnl ls cr i).length ≤ 100000 := Nat.le_trans (lnl_le (ls := ls) (cr := cr) hlt) HN.out
      have HSU := Lib.hid (acc_succ ls cr i)
      obtain ⟨q, hq⟩ : ∃ q, (lq qf qc i).1 = q := ⟨_, rfl⟩
      obtain ⟨p, hp⟩ : ∃ p, (lq qf qc i).2 = p := ⟨_, rfl⟩
      obtain ⟨cn, hcn⟩ : ∃ cn, (lnl ls cr i).length = cn := ⟨_, rfl⟩
      have HQ := Lib.hid (And.intro hq (And.intro hp hcn))
      rw [hq, hp, hcn] at CN
      rw [hq] at d0
      rw [hp] at d1
      rw [hcn] at hc1 HSU
      clear hq hp hcn
      go_upto_region 6 with fail
      have hQ := Blk.new wr [.pointer (some ⟨q, 0, none⟩), .int .i64 (p : Nat)] 99
      have hkk := (Kept.refl (fun _ => False) wr).alloc (.cells [.pointer (some ⟨q, 0, none⟩), .int .i64 (p : Nat)].toArray 99)
      dsimp only [List.toArray] at hQ hkk
      have HK3 := Lib.hid (hkl.out.trans hkk)
      have hrl : rb < wr.heap.size := by have h1 := HO2.out.lt; have h2 := hkl.out.size; omega
      generalize wr.alloc (.cells #[.pointer (some ⟨q, 0, none⟩), .int .i64 (p : Nat)] 99) = w3 at *
      generalize wr.heap.size = ob at *
      have c0 := hQ.cell (o := 0) rfl
      have c1 := hQ.cell (o := 1) rfl
      clear hQ hkk hkl d0 d1
      go_wp2_with fail
      with_reducible refine Calls.mono (CN.out _ (HK2.out.trans HK3.out)) ?_
      rintro e w4 ⟨rfl, rfl⟩
      by_cases hlt2 : r < cn
      · have hlt3 : (r : Int) < (cn : Int) := by omega
        have hO3 := HK3.out.blk HO2.out (fun f => f)
        have n0 := hO3.cell (o := 0) rfl
        have n1 := hO3.cell (o := 1) rfl
        have f0 := hO3.frozen 0
        have f1 := hO3.frozen 1
        have hO5 := (hO3.set 0 (.pointer (some ⟨q, 0, none⟩))).set 1 (.int .i64 (p : Nat))
        have HK5 : Hid (Kept (fun _ => False) w ((w3.setCell ⟨rb, 0, none⟩ (.pointer (some ⟨q, 0, none⟩))).setCell ⟨rb, 1, none⟩ (.int .i64 (p : Nat)))) := Lib.hid (((HK2.out.trans HK3.out).set (b := rb) (fun h => by have := HRB.out; omega) _ _).set (b := rb) (fun h => by have := HRB.out; omega) _ _)
        have z0 := hO5.cell (o := 0) rfl
        have z1 := hO5.cell (o := 1) rfl
        have R : Hid (FdR ls cr qf qc k (.tuple #[lv q (p : Nat), .int .i64 (r : Nat), .bool true])) := Lib.hid (Or.inl ⟨i, r, hlt, by rw [HQ.out.2.2]; exact hlt2, hr.out, by rw [HQ.out.1, HQ.out.2.1]⟩)
        clear hO3 hO5 HK3 HL hcap
        go_wp2_with fail
        exact bodyPost_ret (v := .tuple #[lv q (p : Nat), .int .i64 (r : Nat), .bool true]) (by simp [results, Try.results52, go_sem, z0, z1]) rfl ⟨_, rfl, R.out, HK5.out⟩
      · have hge2 : ¬ ((r : Int) < (cn : Int)) := by omega
        clear CN
        go_wp2_with fail
        go_roundg (9 - (i + 1))
        case measure => have := hmm.out; omega
        case rel => exact ⟨i + 1, r - cn, Lib.hid (Nat.le_refl _), by omega, by go_num, by go_num, Lib.hid (by have := hr.out; have := HSU.out; omega), HK3⟩
    · obtain rfl : i = 9 := by omega
      have hO3 := hkl.out.blk HO2.out (fun f => f)
      have n0 := hO3.cell (o := 0) rfl
      have n1 := hO3.cell (o := 1) rfl
      have f0 := hO3.frozen 0
      have f1 := hO3.frozen 1
      have hO5 := (hO3.set 0 (.pointer none)).set 1 (.int .i64 0)
      have HK5 : Hid (Kept (fun _ => False) w ((wr.setCell ⟨rb, 0, none⟩ (.pointer none)).setCell ⟨rb, 1, none⟩ (.int .i64 0))) := Lib.hid (((HK2.out.trans hkl.out).set (b := rb) (fun h => by have := HRB.out; omega) _ _).set (b := rb) (fun h => by have := HRB.out; omega) _ _)
      have z0 := hO5.cell (o := 0) rfl
      have z1 := hO5.cell (o := 1) rfl
      have R : Hid (FdR ls cr qf qc k (.tuple #[lz, .int .i64 0, .bool false])) := Lib.hid (Or.inr ⟨by have := hr.out; omega, rfl⟩)
      clear hO3 hO5 hkl HL hcap
      go_wp2_with fail
      exact bodyPost_ret (v := .tuple #[lz, .int .i64 0, .bool false]) (by simp [results, Try.results52, go_sem, z0, z1]) rfl ⟨_, rfl, R.out, HK5.out⟩
end Go.Proofs.Ytompbpiaapenaaa.Po
