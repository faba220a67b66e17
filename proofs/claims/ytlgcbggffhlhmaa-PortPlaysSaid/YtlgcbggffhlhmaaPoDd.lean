/- A port: Drop and Double, walked. Conditions: each theorem's own. -/
import Derived.Test.YtlgcbggffhlhmaaPoDr
set_option linter.unusedVariables false
namespace Go.Proofs.Ytlgcbggffhlhmaa.Po
open Go.RowKit Hp QuM QuN Rw Qu NumM NumC
attribute [local go_sem ↓] Go.wp_at_zero Go.wp_at_succ
variable {w0 w w' : World} {b qf qc pb : Nat} {room most : Int} {trim : Bool} {ls : Nat → List Bx} {cr : List Bx} {now nxt : Int} {Ff Fc F : Nat → Prop}
/-- The k-th is nowhere. -/
theorem find_out (h : PS w0 b room most trim ls cr now nxt F w) {k : Int} (hk : k < 0 ∨ ((accL ls cr 9).length : Int) ≤ k) (hk2 : k ≤ 9223372036854775807) (hn : (accL ls cr 9).length ≤ 100000) :
    Calls Try.prog 56 #[.pointer (some ⟨b, 0, none⟩), .int .i64 k] w fun e w' => e = .returned (.tuple #[lz, .int .i64 0, .bool false]) ∧ Kept (fun _ => False) w w' := by
  rcases Int.lt_or_le k 0 with h0 | h0
  · exact find_neg h0 w
  · obtain ⟨k, rfl⟩ := Int.eq_ofNat_of_zero_le h0
    obtain ⟨qf, qc, pb, Ff, Fc, hp, rfl⟩ := h
    refine (find_any hp (by omega) hn).mono ?_
    rintro e w' ⟨v, rfl, hF, hk3⟩
    rcases hF with ⟨i, at_, hi, h1, h2, rfl⟩ | ⟨_, rfl⟩
    · exfalso
      have h3 := acc_le (ls := ls) (cr := cr) (n := i + 1) (m := 9) (by omega)
      rw [acc_succ] at h3
      omega
    · exact ⟨rfl, hk3⟩
/-- What Drop leaves. -/
def DropP (w0 : World) (b : Nat) (room most : Int) (trim : Bool) (ls : Nat → List Bx) (cr : List Bx) (now nxt : Int) (F : Nat → Prop) (w : World) (k : Nat) (x : Bx) (w' : World) : Prop :=
  ∃ i at_ F', i < 9 ∧ at_ < (lnl ls cr i).length ∧ (accL ls cr i).length + at_ = k ∧ (lnl ls cr i)[at_]? = some x ∧ PS w0 b room most trim (lsE ls i at_) (crE cr i at_) now nxt F' w' ∧ Qu.Next F w F' w'
set_option maxRecDepth 100000 in
set_option maxHeartbeats 8000000 in
theorem drop_yes (h : PS w0 b room most trim ls cr now nxt F w) {k : Nat} {x : Bx} (hx : (accL ls cr 9)[k]? = some x) (hn : (accL ls cr 9).length ≤ 100000) :
    Calls Try.prog 19 #[.pointer (some ⟨b, 0, none⟩), .int .i64 (k : Nat)] w fun e w' => e = .returned (.tuple #[bv x, .bool true]) ∧ Byt.Row w' w0.heap.size (.slice x.s x.f.data.length x.c) x.f.data ∧ DropP w0 b room most trim ls cr now nxt F w k x w' := by
  obtain ⟨qf, qc, pb, Ff, Fc, hp, rfl⟩ := h
  have hkl := (List.getElem?_eq_some_iff.1 hx).1
  have HP := Lib.hid hp
  have FD := Lib.hid fun (w' : World) (kk : Kept (fun _ => False) w w') => find_any (hp.old kk) (k := k) (by omega) hn
  have HX := Lib.hid hx
  have HN := Lib.hid hn
  have HKL := Lib.hid hkl
  clear hp hx hn hkl
  go_enter Try.func19, Try.ntmps19
  go_upto_region 1 with fail
  have hO := Blk.new w [.int .i64 0, .int .i64 0, .int .i64 0, .int .i64 0, .int .u64 0, .int .i64 0, .int .i64 0, .int .i64 0, .int .i64 0, .slice none 0 0, .int .i64 0] 40
  have hk1 := (Kept.refl (fun _ => False) w).alloc (.cells [.int .i64 0, .int .i64 0, .int .i64 0, .int .i64 0, .int .u64 0, .int .i64 0, .int .i64 0, .int .i64 0, .int .i64 0, .slice none 0 0, .int .i64 0].toArray 40)
  dsimp only [List.toArray] at hO hk1
  generalize w.alloc (.cells #[.int .i64 0, .int .i64 0, .int .i64 0, .int .i64 0, .int .u64 0, .int .i64 0, .int .i64 0, .int .i64 0, .int .i64 0, .slice none 0 0, .int .i64 0] 40) = w1 at *
  obtain ⟨rb, hrb⟩ : ∃ rb, w.heap.size = rb := ⟨_, rfl⟩
  rw [hrb] at hO
  simp only [hrb]
  have HRB := Lib.hid hrb
  have HO := Lib.hid hO
  have HK := Lib.hid hk1
  clear hrb hO hk1
  go_wp2_with fail
  with_reducible refine Calls.mono (FD.out _ HK.out) ?_
  rintro e w2 ⟨v, rfl, hF, hk2⟩
  have HO2 := Lib.hid (hk2.blk HO.out (fun f => f))
  have HK2 := Lib.hid (HK.out.trans hk2)
  clear hk2 HO HK FD
  obtain ⟨i, at_, hi, h1, h2, rfl⟩ : ∃ i at_, i < 9 ∧ at_ < (lnl ls cr i).length ∧ (accL ls cr i).length + at_ = k ∧ v = .tuple #[lv (lq qf qc i).1 ((lq qf qc i).2 : Nat), .int .i64 (at_ : Nat), .bool true] := by
    rcases hF with h | ⟨h, _⟩
    · exact h
    · have := HKL.out; omega
  have hxi : (lnl ls cr i)[at_]? = some x := by
    rw [← acc_at h1 (n := 9) hi, h2]; exact HX.out
  have HI := Lib.hid (And.intro hi (And.intro h1 (And.intro h2 hxi)))
  have hll : (lnl ls cr i).length ≤ 100000 := Nat.le_trans (lnl_le hi) HN.out
  have RM := Lib.hid fun (w' : World) (kk : Kept (fun _ => False) w w') => rem_of (HP.out.old kk) hi hxi hll
  have hgd := gd_of HP.out hi (List.mem_of_getElem? hxi)
  have HGD := Lib.hid hgd
  clear hi h1 h2 hxi hll hgd hF
  generalize (lq qf qc i).1 = q at *
  generalize (lq qf qc i).2 = p at *
  go_upto_region 2 with fail
  have hQ := Blk.new w2 [.pointer (some ⟨q, 0, none⟩), .int .i64 (p : Nat)] 106
  have hkk := (Kept.refl (fun _ => False) w2).alloc (.cells [.pointer (some ⟨q, 0, none⟩), .int .i64 (p : Nat)].toArray 106)
  dsimp only [List.toArray] at hQ hkk
  have HO3 := Lib.hid (hkk.blk HO2.out (fun f => f))
  have HK3 := Lib.hid (HK2.out.trans hkk)
  generalize w2.alloc (.cells #[.pointer (some ⟨q, 0, none⟩), .int .i64 (p : Nat)] 106) = w3 at *
  generalize w2.heap.size = ob at *
  have c0 := hQ.cell (o := 0) rfl
  have c1 := hQ.cell (o := 1) rfl
  clear hQ hkk HK2 HO2
  go_wp2_with fail
  with_reducible refine Calls.mono (RM.out _ HK3.out) ?_
  rintro e w4 ⟨rfl, Ff', Fc', h4, hf, hc, kG⟩
  have hrF : ¬ (Ff rb ∨ Fc rb) := by
    intro e
    have := HRB.out
    rcases e with e | e
    · have := (HP.out.fr.own rb e).2; omega
    · have := (HP.out.cq.own rb e).2; omega
  have hO4 := kG.blk HO3.out hrF
  have hs3 : w.heap.size < w3.heap.size := by have := HO3.out.lt; have := HRB.out; omega
  have R : Hid (∀ w', Kept (fun i => i = w.heap.size) w4 w' → Byt.Row w' w0.heap.size (.slice x.s x.f.data.length x.c) x.f.data ∧ ∃ F', PS w0 b room most trim (lsE ls i at_) (crE cr i at_) now nxt F' w' ∧ Qu.Next (fp b pb ls cr Ff Fc) w F' w') := by
    refine Lib.hid fun w' k5 => ⟨?_, ?_⟩
    · exact row_end HGD.out (HGD.out.kept HK3.out (fun _ _ f => f)) kG (fun g hg e => HGD.out.2.2.2 g hg (Or.inr (Or.inr e))) k5
    · refine take_end HP.out (HK3.out.mono (fun _ _ f => f.elim)) hs3 h4 kG (fun j e => Or.inl (Or.inr (Or.inr e))) (fun j hj => ?_) k5
      obtain ⟨hi, _, _, _⟩ := HI.out
      refine fp_step hf hc (fun kk y hkk hy => Or.inl ?_) (fun y hy => Or.inl ?_) hj
      · unfold lsE at hy
        split at hy
        · exact (mem_upd (ls := ls) (P := fun _ => False) (by omega) (fun z hz => Or.inl (List.mem_of_mem_eraseIdx hz)) hkk hy).elim id (fun f => f.elim)
        · exact ⟨kk, hkk, hy⟩
      · unfold crE at hy
        split at hy
        · exact hy
        · exact List.mem_of_mem_eraseIdx hy
  clear h4 hf hc kG hrF RM HP HX HN HKL HGD c0 c1 HK3 HO3
  obtain ⟨⟨x1, x2, x3, x4, x5, x6, x7, x8, x9, xd⟩, xa, xc, xq⟩ := x
  have n0 := hO4.cell (o := 0) rfl
  have n1 := hO4.cell (o := 1) rfl
  have n2 := hO4.cell (o := 2) rfl
  have n3 := hO4.cell (o := 3) rfl
  have n4 := hO4.cell (o := 4) rfl
  have n5 := hO4.cell (o := 5) rfl
  have n6 := hO4.cell (o := 6) rfl
  have n7 := hO4.cell (o := 7) rfl
  have n8 := hO4.cell (o := 8) rfl
  have n9 := hO4.cell (o := 9) rfl
  have n10 := hO4.cell (o := 10) rfl
  have fz0 := hO4.frozen 0
  have fz1 := hO4.frozen 1
  have fz2 := hO4.frozen 2
  have fz3 := hO4.frozen 3
  have fz4 := hO4.frozen 4
  have fz5 := hO4.frozen 5
  have fz6 := hO4.frozen 6
  have fz7 := hO4.frozen 7
  have fz8 := hO4.frozen 8
  have fz9 := hO4.frozen 9
  have fz10 := hO4.frozen 10
  have hO6 := set11_blk hO4 rfl ⟨⟨x1, x2, x3, x4, x5, x6, x7, x8, x9, xd⟩, xa, xc, xq⟩
  have k6 := set11_kept w4 rb ⟨⟨x1, x2, x3, x4, x5, x6, x7, x8, x9, xd⟩, xa, xc, xq⟩
  have R6 : Hid (Byt.Row (set11 w4 rb ⟨⟨x1, x2, x3, x4, x5, x6, x7, x8, x9, xd⟩, xa, xc, xq⟩) w0.heap.size (.slice xa xd.length xc) xd ∧ ∃ F', PS w0 b room most trim (lsE ls i at_) (crE cr i at_) now nxt F' (set11 w4 rb ⟨⟨x1, x2, x3, x4, x5, x6, x7, x8, x9, xd⟩, xa, xc, xq⟩) ∧ Qu.Next (fp b pb ls cr Ff Fc) w F' (set11 w4 rb ⟨⟨x1, x2, x3, x4, x5, x6, x7, x8, x9, xd⟩, xa, xc, xq⟩)) := Lib.hid (R.out _ (by rw [HRB.out]; exact k6))
  unfold set11 at R6 hO6
  dsimp only at R6 hO6
  have z0 := hO6.cell (o := 0) rfl
  have z1 := hO6.cell (o := 1) rfl
  have z2 := hO6.cell (o := 2) rfl
  have z3 := hO6.cell (o := 3) rfl
  have z4 := hO6.cell (o := 4) rfl
  have z5 := hO6.cell (o := 5) rfl
  have z6 := hO6.cell (o := 6) rfl
  have z7 := hO6.cell (o := 7) rfl
  have z8 := hO6.cell (o := 8) rfl
  have z9 := hO6.cell (o := 9) rfl
  have z10 := hO6.cell (o := 10) rfl
  clear hO4 hO6 k6 R
  go_wp2_with fail
  obtain ⟨hi, h1, h2, h3⟩ := HI.out
  obtain ⟨r1, F', r2, r3⟩ := R6.out
  exact bodyPost_ret (v := .tuple #[bv ⟨⟨x1, x2, x3, x4, x5, x6, x7, x8, x9, xd⟩, xa, xc, xq⟩, .bool true]) (by simp [results, Try.results19, go_sem, z0, z1, z2, z3, z4, z5, z6, z7, z8, z9, z10]) rfl ⟨rfl, r1, i, at_, F', hi, h1, h2, h3, r2, r3⟩
theorem drop_no (h : PS w0 b room most trim ls cr now nxt F w) {k : Int} (hk : k < 0 ∨ ((accL ls cr 9).length : Int) ≤ k) (hk2 : k ≤ 9223372036854775807) (hn : (accL ls cr 9).length ≤ 100000) :
    Calls Try.prog 19 #[.pointer (some ⟨b, 0, none⟩), .int .i64 k] w fun e w' => e = .returned (.tuple #[bv zB, .bool false]) ∧ Kept (fun _ => False) w w' :=
  drop_off fun w' kk => find_out (h.old kk) hk hk2 hn
theorem double_no (h : PS w0 b room most trim ls cr now nxt F w) {k : Int} (hk : k < 0 ∨ ((accL ls cr 9).length : Int) ≤ k) (hk2 : k ≤ 9223372036854775807) (hn : (accL ls cr 9).length ≤ 100000) :
    Calls Try.prog 22 #[.pointer (some ⟨b, 0, none⟩), .int .i64 k] w fun e w' => e = .returned (.bool false) ∧ Kept (fun _ => False) w w' :=
  double_off fun w' kk => find_out (h.old kk) hk hk2 hn
set_option maxRecDepth 100000 in
set_option maxHeartbeats 8000000 in
theorem double_yes (h : PS w0 b room most trim ls cr now nxt F w) {k : Nat} {x : Bx} {r : Int} {Post : World → Prop} (hx : (accL ls cr 9)[k]? = some x) (hn : (accL ls cr 9).length ≤ 100000)
    (hPut : ∀ w', Kept (fun _ => False) w w' → Calls Try.prog 14 #[.pointer (some ⟨b, 0, none⟩), bv x] w' fun e w'' => e = .returned (.int .i64 r) ∧ Post w'') :
    Calls Try.prog 22 #[.pointer (some ⟨b, 0, none⟩), .int .i64 (k : Nat)] w fun e w' => e = .returned (.bool (r != 3)) ∧ Post w' := by
  obtain ⟨qf, qc, pb, Ff, Fc, hp, rfl⟩ := h
  have hkl := (List.getElem?_eq_some_iff.1 hx).1
  have HP := Lib.hid hp
  have FD := Lib.hid (find_any hp (k := k) (by omega) hn)
  have HX := Lib.hid hx
  have HN := Lib.hid hn
  have HKL := Lib.hid hkl
  have HPT := Lib.hid hPut
  clear hp hx hn hkl hPut
  go_enter Try.func22, Try.ntmps22
  go_wp2_with fail
  with_reducible refine Calls.mono FD.out ?_
  rintro e w2 ⟨v, rfl, hF, hk2⟩
  obtain ⟨i, at_, hi, h1, h2, rfl⟩ : ∃ i at_, i < 9 ∧ at_ < (lnl ls cr i).length ∧ (accL ls cr i).length + at_ = k ∧ v = .tuple #[lv (lq qf qc i).1 ((lq qf qc i).2 : Nat), .int .i64 (at_ : Nat), .bool true] := by
    rcases hF with h | ⟨h, _⟩
    · exact h
    · have := HKL.out; omega
  have hxi : (lnl ls cr i)[at_]? = some x := by
    rw [← acc_at h1 (n := 9) hi, h2]; exact HX.out
  have hll : (lnl ls cr i).length ≤ 100000 := Nat.le_trans (lnl_le hi) HN.out
  have AT := Lib.hid fun (w' : World) (kk : Kept (fun _ => False) w w') => at_of (HP.out.old kk) hi hxi hll
  have HK2 := Lib.hid hk2
  clear hi h1 h2 hxi hll hF hk2 FD
  generalize (lq qf qc i).1 = q at *
  generalize (lq qf qc i).2 = p at *
  go_upto_region 2 with fail
  have hQ := Blk.new w2 [.pointer (some ⟨q, 0, none⟩), .int .i64 (p : Nat)] 106
  have hkk := (Kept.refl (fun _ => False) w2).alloc (.cells [.pointer (some ⟨q, 0, none⟩), .int .i64 (p : Nat)].toArray 106)
  dsimp only [List.toArray] at hQ hkk
  have HK3 := Lib.hid (HK2.out.trans hkk)
  generalize w2.alloc (.cells #[.pointer (some ⟨q, 0, none⟩), .int .i64 (p : Nat)] 106) = w3 at *
  generalize w2.heap.size = ob at *
  have c0 := hQ.cell (o := 0) rfl
  have c1 := hQ.cell (o := 1) rfl
  clear hQ hkk HK2
  go_wp2_with fail
  with_reducible refine Calls.mono (AT.out _ HK3.out) ?_
  rintro e w4 ⟨rfl, hk4⟩
  have HK4 := Lib.hid (HK3.out.trans hk4)
  clear hk4 HK3 AT c0 c1 HP HX HN HKL
  obtain ⟨⟨x1, x2, x3, x4, x5, x6, x7, x8, x9, xd⟩, xa, xc, xq⟩ := x
  go_upto_region 5 with fail
  have hB := Blk.new w4 [.int .i64 x1, .int .i64 x2, .int .i64 x3, .int .i64 x4, .int .u64 (x5 : Int), .int .i64 x6, .int .i64 x7, .int .i64 x8, .int .i64 x9, .slice xa xd.length xc, .int .i64 xq] 40
  have hk5 := (Kept.refl (fun _ => False) w4).alloc (.cells [.int .i64 x1, .int .i64 x2, .int .i64 x3, .int .i64 x4, .int .u64 (x5 : Int), .int .i64 x6, .int .i64 x7, .int .i64 x8, .int .i64 x9, .slice xa xd.length xc, .int .i64 xq].toArray 40)
  dsimp only [List.toArray] at hB hk5
  have HK5 := Lib.hid (HK4.out.trans hk5)
  generalize w4.alloc (.cells #[.int .i64 x1, .int .i64 x2, .int .i64 x3, .int .i64 x4, .int .u64 (x5 : Int), .int .i64 x6, .int .i64 x7, .int .i64 x8, .int .i64 x9, .slice xa xd.length xc, .int .i64 xq] 40) = w5 at *
  generalize w4.heap.size = ib at *
  have e0 := hB.cell (o := 0) rfl
  have e1 := hB.cell (o := 1) rfl
  have e2 := hB.cell (o := 2) rfl
  have e3 := hB.cell (o := 3) rfl
  have e4 := hB.cell (o := 4) rfl
  have e5 := hB.cell (o := 5) rfl
  have e6 := hB.cell (o := 6) rfl
  have e7 := hB.cell (o := 7) rfl
  have e8 := hB.cell (o := 8) rfl
  have e9 := hB.cell (o := 9) rfl
  have e10 := hB.cell (o := 10) rfl
  clear hB hk5 HK4
  go_wp2_with fail
  with_reducible refine Calls.mono (HPT.out _ HK5.out) ?_
  rintro e w6 ⟨rfl, hPo⟩
  have HPO := Lib.hid hPo
  clear hPo e0 e1 e2 e3 e4 e5 e6 e7 e8 e9 e10
  go_wp2_with fail
  go_ret
  exact ⟨rfl, HPO.out⟩
end Go.Proofs.Ytlgcbggffhlhmaa.Po
