/- An inbox's take. Conditions: each theorem's own. -/
import Derived.Test.YtpogpibjkolioaaGreatFpK12
import Derived.Test.YtpogpibjkolioaaGreatFpK14
set_option linter.unusedVariables false
set_option linter.unusedSimpArgs false
namespace Go.Proofs.YtpogpibjkolioaaGreat.Fb
open Go.RowKit Hp QuM QuN Rw Qu NumM NumC Po
attribute [local go_sem ↓] Go.wp_at_zero Go.wp_at_succ
abbrev zF : Bx := ⟨⟨0, 0, 0, 0, 0, 0, 0, 0, 0, []⟩, none, 0, 0⟩
abbrev set10 (w : World) (g : Nat) (x : Bx) : World := (((((((((w.setCell ⟨g, 0, none⟩ (.int .i64 x.f.kind)).setCell ⟨g, 1, none⟩ (.int .i64 x.f.src)).setCell ⟨g, 2, none⟩ (.int .i64 x.f.dst)).setCell ⟨g, 3, none⟩ (.int .i64 x.f.prio)).setCell ⟨g, 4, none⟩ (.int .u64 (x.f.msg : Int))).setCell ⟨g, 5, none⟩ (.int .i64 x.f.off)).setCell ⟨g, 6, none⟩ (.int .i64 x.f.len)).setCell ⟨g, 7, none⟩ (.int .i64 x.f.total)).setCell ⟨g, 8, none⟩ (.int .i64 x.f.num)).setCell ⟨g, 9, none⟩ (.slice x.s x.f.data.length x.c)
theorem set10_eq (w : World) (g : Nat) (x : Bx) : set10 w g x = setW w g 0 (fT.enc x) := by
 show _ = setW w g 0 [.int .i64 x.f.kind, .int .i64 x.f.src, .int .i64 x.f.dst, .int .i64 x.f.prio, .int .u64 (x.f.msg : Int), .int .i64 x.f.off, .int .i64 x.f.len, .int .i64 x.f.total, .int .i64 x.f.num, .slice x.s x.f.data.length x.c]
 simp only [setW, Nat.zero_add, Nat.reduceAdd]
theorem set10_kept (w : World) (g : Nat) (x : Bx) : Kept (fun i => i = g) w (set10 w g x) := by
 rw [set10_eq]; exact setW_kept _ w _
theorem set10_blk {w : World} {g : Nat} {T : TypeId} {c : List Value} (h : Blk w g c T) (hc : c.length = 10) (x : Bx) : Blk (set10 w g x) g (fT.enc x) T := by
 rw [set10_eq]
 have := setW_blk (fT.enc x) 0 h
 have e : setsL c 0 (fT.enc x) = fT.enc x := by
  apply List.ext_getElem?
  intro j
  have hl : (fT.enc x).length = 10 := rfl
  by_cases hj : j < 10
  ·have := setsL_in (fT.enc x) c 0 j (by omega) (by omega)
   rw [Nat.zero_add] at this
   exact this
  ·rw [List.getElem?_eq_none (by rw [setsL_len]; omega), List.getElem?_eq_none (by omega)]
 rw [e] at this
 exact this
set_option maxRecDepth 100000 in
set_option maxHeartbeats 4000000 in
theorem itake_none {w : World} {b o n c : Nat} {a : Option Addr} (h0 : w.cell? ⟨b, o, none⟩ = some (.slice a n c)) (h1 : w.cell? ⟨b, o + 1, none⟩ = some (.int .i64 (n : Nat))) (hn : n ≤ 1000000) :
  Calls Tryz.prog 44 #[.pointer (some ⟨b, o, none⟩)] w fun e w' => e = .returned (.tuple #[fv zF, .bool false]) ∧ Kept (fun _ => False) w w' := by
 have CT := Lib.hid fun (w' : World) (kk : Kept (fun _ => False) w w') (hb : b < w.heap.size) => ict_any (w := w') (b := b) (o := o) (n := n) (z := n) (by rw [Byt.keptAt kk hb (fun f => f)]; exact h0) (by rw [Byt.keptAt kk hb (fun f => f)]; exact h1) (Nat.le_refl _) hn
 have hb : b < w.heap.size := by
  rcases Nat.lt_or_ge b w.heap.size with h | h
  ·exact h
  ·rw [World.cell?, Array.getElem?_eq_none h] at h0; simp at h0
 clear h0 h1
 go_enter Tryz.func44, Tryz.ntmps44
 go_upto_region 1 with fail
 have hO := Blk.new w [.int .i64 0, .int .i64 0, .int .i64 0, .int .i64 0, .int .u64 0, .int .i64 0, .int .i64 0, .int .i64 0, .int .i64 0, .slice none 0 0] 35
 have hk1 := (Kept.refl (fun _ => False) w).alloc (.cells [.int .i64 0, .int .i64 0, .int .i64 0, .int .i64 0, .int .u64 0, .int .i64 0, .int .i64 0, .int .i64 0, .int .i64 0, .slice none 0 0].toArray 35)
 dsimp only [List.toArray] at hO hk1
 generalize w.alloc (.cells #[.int .i64 0, .int .i64 0, .int .i64 0, .int .i64 0, .int .u64 0, .int .i64 0, .int .i64 0, .int .i64 0, .int .i64 0, .slice none 0 0] 35) = w1 at *
 obtain ⟨rb, hrb⟩ : ∃ rb, w.heap.size = rb := ⟨_, rfl⟩
 rw [hrb] at hO
 simp only [hrb]
 have HRB := Lib.hid hrb
 have HO := Lib.hid hO
 have HK := Lib.hid hk1
 have HLT := Lib.hid hb
 clear hrb hO hk1 hb
 go_wp2_with fail
 with_reducible refine Calls.mono (CT.out _ HK.out HLT.out) ?_
 rintro e w2 ⟨rfl, m, rfl⟩
 have hO2 := HO.out.drewN m
 have hk2 := HK.out.drewN m
 generalize w1.drewN m = w2 at *
 dsimp only
 rw [Int.sub_self]
 obtain ⟨n0, n1, n2, n3, n4, n5, n6, n7, n8, n9⟩ := cs10 hO2
 obtain ⟨fz0, fz1, fz2, fz3, fz4, fz5, fz6, fz7, fz8, fz9⟩ := fz10 hO2
 have hO6 := set10_blk hO2 rfl zF
 have k6 := set10_kept w2 rb zF
 have HK6 : Hid (Kept (fun _ => False) w (set10 w2 rb zF)) := Lib.hid (hk2.trans' k6 (fun i hi e => by have := HRB.out; omega))
 unfold set10 at HK6 hO6
 dsimp only [List.length_nil, Int.natCast_zero] at HK6 hO6
 obtain ⟨z0, z1, z2, z3, z4, z5, z6, z7, z8, z9⟩ := cs10 hO6
 clear hO2 hO6 k6 hk2 CT
 go_wp2_with fail
 exact bodyPost_ret (v := .tuple #[fv zF, .bool false]) (by simp [results, Tryz.results44, go_sem, z0, z1, z2, z3, z4, z5, z6, z7, z8, z9]) rfl ⟨rfl, HK6.out⟩
def ITk (w : World) (b o base : Nat) (T : TypeId) (cc : List Value) (v : Value) (x : Bx) (L : List Bx) (w' : World) : Prop :=
 ∃ v' c' Z', Blk w' b c' T ∧ (∀ i, i ≠ o → i ≠ o + 1 → c'[i]? = cc[i]?) ∧ c'[o]? = some v' ∧ c'[o + 1]? = some (.int .i64 ((Z' : List Bx).length : Nat)) ∧ Z'.length ≤ L.length ∧ Rw.Row fT w' base v' (Z' ++ L) ∧ Kept (fun i => i = b ∨ v.ownBlock = some i) w w' ∧ ∀ g, v'.ownBlock = some g → v.ownBlock = some g ∨ w.heap.size ≤ g
set_option maxRecDepth 100000 in
set_option maxHeartbeats 4000000 in
theorem itake_some {w : World} {b o base : Nat} {T : TypeId} {cc : List Value} {v : Value} {Z L : List Bx} {x : Bx} (hB : Blk w b cc T) (h0 : cc[o]? = some v) (h1 : cc[o + 1]? = some (.int .i64 (Z.length : Nat))) (hR : Rw.Row fT w base v (Z ++ x :: L)) (hT : ∀ j, v.ownBlock = some j → j = b → False) (hK : (Z ++ x :: L).length ≤ 100000) (hbase : base ≤ w.heap.size) :
  Calls Tryz.prog 44 #[.pointer (some ⟨b, o, none⟩)] w fun e w' => e = .returned (.tuple #[fv x, .bool true]) ∧ ITk w b o base T cc v x L w' := by
 have hlt := hB.lt
 obtain ⟨g, cap, cur, hv, hg, hL⟩ : ∃ g cap cur, v = .slice (some ⟨g, 0, none⟩) (Z ++ x :: L).length cap ∧ base ≤ g ∧ Lies fT w g cap cur (Z ++ x :: L) := by
  rcases hR.form with ⟨_, h⟩ | ⟨g, cap, cur, e, h2, h3⟩
  ·have := congrArg List.length h; rw [List.length_append, List.length_cons] at this; simp at this
  ·exact ⟨g, cap, cur, e, h2, h3⟩
 subst hv
 have hgb : g ≠ b := fun e => hT g rfl e
 clear hT
 have hglt := hL.blk.lt
 have hnl : (Z ++ x :: L).length = Z.length + 1 + L.length := by rw [List.length_append, List.length_cons]; omega
 have hat : (Z ++ x :: L)[Z.length]? = some x := by rw [List.getElem?_append_right (Nat.le_refl _), Nat.sub_self]; rfl
 have HL := Lib.hid hL
 have HB := Lib.hid hB
 have HH := Lib.hid (And.intro h0 h1)
 have HAT := Lib.hid hat
 have CT := Lib.hid fun (w' : World) (kk : Kept (fun _ => False) w w') => ict_any (w := w') (b := b) (o := o) ((kk.blk hB (fun f => f)).cell h0) ((kk.blk hB (fun f => f)).cell h1) (by rw [hnl]; omega) (Nat.le_trans hK (by decide))
 clear hR hB hL hat h0 h1
 obtain ⟨z, hz⟩ : ∃ z, Z.length = z := ⟨_, rfl⟩
 obtain ⟨n, hn⟩ : ∃ n, (Z ++ x :: L).length = n := ⟨_, rfl⟩
 obtain ⟨l, hl⟩ : ∃ l, L.length = l := ⟨_, rfl⟩
 rw [hz, hn] at CT
 rw [hn] at HH
 rw [hz] at HH HAT
 rw [hn] at hK hnl
 rw [hz, hl] at hnl
 have HZ := Lib.hid (And.intro hz (And.intro hn hl))
 clear hz hn hl
 have hw1 : IntKind.i64.wrap ((z : Int) + 1) = ((z : Int) + 1) := by rw [IntKind.wrap_i64]; omega
 go_enter Tryz.func44, Tryz.ntmps44
 go_upto_region 1 with fail
 have hO := Blk.new w [.int .i64 0, .int .i64 0, .int .i64 0, .int .i64 0, .int .u64 0, .int .i64 0, .int .i64 0, .int .i64 0, .int .i64 0, .slice none 0 0] 35
 have hk1 := (Kept.refl (fun _ => False) w).alloc (.cells [.int .i64 0, .int .i64 0, .int .i64 0, .int .i64 0, .int .u64 0, .int .i64 0, .int .i64 0, .int .i64 0, .int .i64 0, .slice none 0 0].toArray 35)
 dsimp only [List.toArray] at hO hk1
 generalize w.alloc (.cells #[.int .i64 0, .int .i64 0, .int .i64 0, .int .i64 0, .int .u64 0, .int .i64 0, .int .i64 0, .int .i64 0, .int .i64 0, .slice none 0 0] 35) = w1 at *
 obtain ⟨rb, hrb⟩ : ∃ rb, w.heap.size = rb := ⟨_, rfl⟩
 rw [hrb] at hO hlt hglt
 simp only [hrb]
 have HRB := Lib.hid hrb
 have HO := Lib.hid hO
 have HK := Lib.hid hk1
 clear hrb hO hk1
 go_wp2_with fail
 with_reducible refine Calls.mono (CT.out _ HK.out) ?_
 rintro e w2 ⟨rfl, m, rfl⟩
 have HO2 := Lib.hid (HO.out.drewN m)
 have HK2 := Lib.hid (HK.out.drewN m)
 generalize w1.drewN m = w2 at *
 have hcmp : (((n : Int) - (z : Nat)) == 0) = false := by rw [beq_eq_false_iff_ne]; omega
 have hB2 := HK2.out.blk HB.out (fun f => f)
 have hL2 := HL.out.kept HK2.out (fun f => f)
 have b0 := hB2.cell HH.out.1
 have b1 := hB2.cell HH.out.2
 obtain ⟨d0, d1, d2, d3, d4, d5, d6, d7, d8, d9⟩ := fr_cells hL2 HAT.out
 have hzn : (z : Int) < (n : Int) := by omega
 have hz0 : (0 : Int) ≤ (z : Int) := Int.natCast_nonneg z
 have HNL := Lib.hid hnl
 clear hB2 hL2 HO HK hnl
 obtain ⟨⟨x1, x2, x3, x4, x5, x6, x7, x8, x9, xd⟩, xa, xc, xq⟩ := x
 dsimp only at d0 d1 d2 d3 d4 d5 d6 d7 d8 d9
 have HS0 : Hid (∀ w', Kept (fun _ => False) w2 w' → w'.cell? ⟨b, o, none⟩ = some (.slice (some ⟨g, 0, none⟩) n cap) ∧ w'.cell? ⟨b, o + 1, none⟩ = some (.int .i64 (z : Nat)) ∧ w'.cell? ⟨g, z * 10, none⟩ = some (.int .i64 x1) ∧ w'.cell? ⟨g, z * 10 + 1, none⟩ = some (.int .i64 x2) ∧ w'.cell? ⟨g, z * 10 + 2, none⟩ = some (.int .i64 x3) ∧ w'.cell? ⟨g, z * 10 + 3, none⟩ = some (.int .i64 x4) ∧ w'.cell? ⟨g, z * 10 + 4, none⟩ = some (.int .u64 (x5 : Int)) ∧ w'.cell? ⟨g, z * 10 + 5, none⟩ = some (.int .i64 x6) ∧ w'.cell? ⟨g, z * 10 + 6, none⟩ = some (.int .i64 x7) ∧ w'.cell? ⟨g, z * 10 + 7, none⟩ = some (.int .i64 x8) ∧ w'.cell? ⟨g, z * 10 + 8, none⟩ = some (.int .i64 x9) ∧ w'.cell? ⟨g, z * 10 + 9, none⟩ = some (.slice xa xd.length xc)) := Lib.hid fun w' kk => by
  have hB3 := kk.blk (HK2.out.blk HB.out (fun f => f)) (fun f => f)
  have hL3 := (HL.out.kept HK2.out (fun f => f)).kept kk (fun f => f)
  obtain ⟨q0, q1, q2, q3, q4, q5, q6, q7, q8, q9⟩ := fr_cells hL3 HAT.out
  exact ⟨hB3.cell HH.out.1, hB3.cell HH.out.2, q0, q1, q2, q3, q4, q5, q6, q7, q8, q9⟩
 go_upto_region 3 with fail
 go_region_held3 (fun w' => w'.cell? ⟨b, o, none⟩ = some (.slice (some ⟨g, 0, none⟩) n cap) ∧ w'.cell? ⟨b, o + 1, none⟩ = some (.int .i64 (z : Nat)) ∧ w'.cell? ⟨g, z * 10, none⟩ = some (.int .i64 x1) ∧ w'.cell? ⟨g, z * 10 + 1, none⟩ = some (.int .i64 x2) ∧ w'.cell? ⟨g, z * 10 + 2, none⟩ = some (.int .i64 x3) ∧ w'.cell? ⟨g, z * 10 + 3, none⟩ = some (.int .i64 x4) ∧ w'.cell? ⟨g, z * 10 + 4, none⟩ = some (.int .u64 (x5 : Int)) ∧ w'.cell? ⟨g, z * 10 + 5, none⟩ = some (.int .i64 x6) ∧ w'.cell? ⟨g, z * 10 + 6, none⟩ = some (.int .i64 x7) ∧ w'.cell? ⟨g, z * 10 + 7, none⟩ = some (.int .i64 x8) ∧ w'.cell? ⟨g, z * 10 + 8, none⟩ = some (.int .i64 x9) ∧ w'.cell? ⟨g, z * 10 + 9, none⟩ = some (.slice xa xd.length xc)) ((refine HS0.out _ ?_; repeat (first | exact Kept.refl _ _ | assumption | (with_reducible refine Kept.drew ?_) | (with_reducible refine Kept.alloc ?_ _)))) (fail)
 have hX0 := (Blk.new w2 [.int .i64 x1, .int .i64 x2, .int .i64 x3, .int .i64 x4, .int .u64 (x5 : Int), .int .i64 x6, .int .i64 x7, .int .i64 x8, .int .i64 x9, .slice xa xd.length xc] 35).drew
 have hk3 := ((Kept.refl (fun _ => False) w2).alloc (.cells [.int .i64 x1, .int .i64 x2, .int .i64 x3, .int .i64 x4, .int .u64 (x5 : Int), .int .i64 x6, .int .i64 x7, .int .i64 x8, .int .i64 x9, .slice xa xd.length xc].toArray 35)).drew
 dsimp only [List.toArray] at hX0 hk3
 have hrb2 := HO2.out.lt
 obtain ⟨tb, htb⟩ : ∃ tb, w2.heap.size = tb := ⟨_, rfl⟩
 rw [htb] at hX0 hrb2
 simp only [htb]
 generalize (w2.alloc (.cells #[.int .i64 x1, .int .i64 x2, .int .i64 x3, .int .i64 x4, .int .u64 (x5 : Int), .int .i64 x6, .int .i64 x7, .int .i64 x8, .int .i64 x9, .slice xa xd.length xc] 35)).drew = w3 at *
 have HTB := Lib.hid htb
 have HX3 := Lib.hid hX0
 have HO3 := Lib.hid (hk3.blk HO2.out (fun f => f))
 have HK3 := Lib.hid (HK2.out.trans hk3)
 have HB3 := Lib.hid (HK3.out.blk HB.out (fun f => f))
 have HL3 := Lib.hid (HL.out.kept HK3.out (fun f => f))
 clear htb hX0 hk3 HS0 b0 b1 d0 d1 d2 d3 d4 d5 d6 d7 d8 d9 HO2 HK2
 have b0 := HB3.out.cell HH.out.1
 have b1 := HB3.out.cell HH.out.2
 obtain ⟨d0, d1, d2, d3, d4, d5, d6, d7, d8, d9⟩ := fr_cells HL3.out HAT.out
 have hblk3 := HL3.out.blk
 have fz0 := hblk3.frozen (z * 10)
 have fz1 := hblk3.frozen (z * 10 + 1)
 have fz2 := hblk3.frozen (z * 10 + 2)
 have fz3 := hblk3.frozen (z * 10 + 3)
 have fz4 := hblk3.frozen (z * 10 + 4)
 have fz5 := hblk3.frozen (z * 10 + 5)
 have fz6 := hblk3.frozen (z * 10 + 6)
 have fz7 := hblk3.frozen (z * 10 + 7)
 have fz8 := hblk3.frozen (z * 10 + 8)
 have fz9 := hblk3.frozen (z * 10 + 9)
 clear hblk3
 go_upto_region 4 with fail
 go_region_with (fail)
 all_goals
  have HL4 : Hid (Lies fT (setF w3 g z zF).drew g cap (setsL cur (z * 10) (fT.enc zF)) ((Z ++ [zF]) ++ L)) := by
   have h1 := setF_lies HL3.out (i := z) (by rw [HZ.out.2.1]; have := HNL.out; omega) zF
   have e : (Z ++ (⟨⟨x1, x2, x3, x4, x5, x6, x7, x8, x9, xd⟩, xa, xc, xq⟩ : Bx) :: L).set z zF = (Z ++ [zF]) ++ L := by
    rw [← HZ.out.1, List.set_append_right _ _ (Nat.le_refl _), Nat.sub_self, List.append_assoc]; rfl
   rw [e] at h1
   exact Lib.hid (h1.kept (Kept.refl (fun _ => False) _).drew (fun f => f))
  have hk4 : Kept (fun i => i = g) w3 (setF w3 g z zF).drew := (setF_kept w3 g z zF).drew
  unfold setF at HL4 hk4
  dsimp only [List.length_nil, Int.natCast_zero] at HL4 hk4
  clear d0 d1 d2 d3 d4 d5 d6 d7 d8 d9 fz0 fz1 fz2 fz3 fz4 fz5 fz6 fz7 fz8 fz9 b0 b1
  generalize ((((((((((w3.setCell ⟨g, z * 10, none⟩ (.int .i64 0)).setCell ⟨g, z * 10 + 1, none⟩ (.int .i64 0)).setCell ⟨g, z * 10 + 2, none⟩ (.int .i64 0)).setCell ⟨g, z * 10 + 3, none⟩ (.int .i64 0)).setCell ⟨g, z * 10 + 4, none⟩ (.int .u64 0)).setCell ⟨g, z * 10 + 5, none⟩ (.int .i64 0)).setCell ⟨g, z * 10 + 6, none⟩ (.int .i64 0)).setCell ⟨g, z * 10 + 7, none⟩ (.int .i64 0)).setCell ⟨g, z * 10 + 8, none⟩ (.int .i64 0)).setCell ⟨g, z * 10 + 9, none⟩ (.slice none 0 0)).drew = w4 at *
  have HB4 := Lib.hid (hk4.blk HB3.out (fun e => hgb e.symm))
  have HX4 := Lib.hid (hk4.blk HX3.out (fun e => by omega))
  have HO4 := Lib.hid (hk4.blk HO3.out (fun e => by omega))
  have HK4 : Hid (Kept (fun i => i = b ∨ (Value.slice (some ⟨g, 0, none⟩) n cap).ownBlock = some i) w w4) := Lib.hid ((HK3.out.mono (fun _ _ f => f.elim)).trans (hk4.mono (fun i _ e => Or.inr (by rw [e]; rfl))))
  clear hk4 HB3 HX3 HO3 HK3 HL3
  have b1 := HB4.out.cell HH.out.2
  have fb1 := HB4.out.frozen (o + 1)
  have HB5 : Hid (Blk (w4.setCell ⟨b, o + 1, none⟩ (.int .i64 ((z : Int) + 1))) b (cc.set (o + 1) (.int .i64 ((z : Int) + 1))) T) := Lib.hid (HB4.out.set _ _)
  have hk5 := Kept.one w4 b (o + 1) (.int .i64 ((z : Int) + 1))
  have HX5 := Lib.hid (hk5.blk HX4.out (fun e => by omega))
  have HO5 := Lib.hid (hk5.blk HO4.out (fun e => by omega))
  have HL5 := Lib.hid (HL4.out.kept hk5 hgb)
  have HK5 := Lib.hid (HK4.out.trans (hk5.mono (fun i _ e => Or.inl e)))
  clear hk5 HB4 HX4 HO4 HL4 HK4
  go_upto_region 6 with fail
  clear b1 fb1
  generalize w4.setCell ⟨b, o + 1, none⟩ (.int .i64 ((z : Int) + 1)) = w5 at *
  have hlo : o + 1 < cc.length := (List.getElem?_eq_some_iff.1 HH.out.2).1
  have c1' : (cc.set (o + 1) (.int .i64 ((z : Int) + 1)))[o + 1]? = some (.int .i64 ((z : Int) + 1)) := List.getElem?_set_self hlo
  have c0' : (cc.set (o + 1) (.int .i64 ((z : Int) + 1)))[o]? = some (.slice (some ⟨g, 0, none⟩) n cap) := by rw [List.getElem?_set_ne (by omega)]; exact HH.out.1
  have HC := Lib.hid (And.intro c0' (And.intro c1' hlo))
  have c1n : (cc.set (o + 1) (.int .i64 ((z : Int) + 1)))[o + 1]? = some (.int .i64 ((z + 1 : Nat) : Int)) := by rw [Int.natCast_add]; exact c1'
  have CT5 : Hid (∀ w', Kept (fun _ => False) w5 w' → Calls Tryz.prog 55 #[.pointer (some ⟨b, o, none⟩)] w' fun e w'' => e = .returned (.int .i64 ((n : Int) - ((z : Int) + 1))) ∧ Kept (fun _ => False) w5 w'') := by
   refine Lib.hid fun w' kk => (ict_any (w := w') (b := b) (o := o) (z := z + 1) ((kk.blk HB5.out (fun f => f)).cell c0') ((kk.blk HB5.out (fun f => f)).cell c1n) (by have := HNL.out; omega) (by omega)).mono ?_
   rintro e w'' ⟨rfl, m, rfl⟩
   exact ⟨rfl, kk.drewN m⟩
  have HS1 : Hid (∀ w', Kept (fun _ => False) w5 w' → w'.cell? ⟨b, o + 1, none⟩ = some (.int .i64 ((z : Int) + 1))) := Lib.hid fun w' kk => (kk.blk HB5.out (fun f => f)).cell HC.out.2.1
  clear c0' c1' c1n hlo CT hw1
  go_region_held3 (fun w' => w'.cell? ⟨b, o + 1, none⟩ = some (.int .i64 ((z : Int) + 1))) ((refine HS1.out _ ?_; repeat (first | exact Kept.refl _ _ | assumption | (with_reducible refine Kept.drew ?_)))) ((go_at_call 55; (with_reducible refine Calls.mono (CT5.out _ (by first | exact Kept.refl _ _ | exact (Kept.refl _ _).drew)) ?_); rintro e w6 ⟨rfl, hk6⟩))
  have HB6 := Lib.hid (hk6.blk HB5.out (fun f => f))
  have HX6 := Lib.hid (hk6.blk HX5.out (fun f => f))
  have HO6 := Lib.hid (hk6.blk HO5.out (fun f => f))
  have HL6 := Lib.hid (HL5.out.kept hk6 (fun f => f))
  have HK6 := Lib.hid (HK5.out.trans (hk6.mono (fun _ _ f => f.elim)))
  clear hk6 HB5 HX5 HO5 HL5 HK5 CT5 HS1
  rcases Int.lt_or_le ((z : Int) + 1) ((n : Int) - ((z : Int) + 1)) with hge | hge
  ·have R : Hid (∀ w7, Kept (fun i => i = rb) w6 w7 → ITk w b o base T cc (.slice (some ⟨g, 0, none⟩) n cap) ⟨⟨x1, x2, x3, x4, x5, x6, x7, x8, x9, xd⟩, xa, xc, xq⟩ L w7) := by
    refine Lib.hid fun w7 k7 => ?_
    have hlen : ((Z ++ [zF]) ++ L).length = n := by rw [← HZ.out.2.1]; simp only [List.length_append, List.length_cons, List.length_nil]; omega
    have hR6 : Rw.Row fT w6 base (.slice (some ⟨g, 0, none⟩) n cap) ((Z ++ [zF]) ++ L) := by
     have := HL6.out.row hg
     rw [hlen] at this
     exact this
    have hzl : (Z ++ [zF]).length = z + 1 := by rw [List.length_append, HZ.out.1]; rfl
    refine ⟨_, _, Z ++ [zF], k7.blk HB6.out (fun e => by omega), fun i h1 h2 => List.getElem?_set_ne (Ne.symm h2), HC.out.1, by rw [hzl, Int.natCast_add]; exact HC.out.2.1, by rw [hzl]; have := HZ.out.2.2; have := HNL.out; omega, hR6.kept k7 (fun j e1 e2 => by have h9 : g = j := Option.some.inj e1; have h10 : j = rb := e2; omega), HK6.out.trans' k7 (fun i hi e => by have h9 : i = rb := e; have := HRB.out; omega), fun j e => Or.inl e⟩
   have hAB : ¬ ((n : Int) - ((z : Int) + 1) ≤ (z : Int) + 1) := by omega
   have hX := HX6.out
   have hO := HO6.out
   obtain ⟨q0, q1, q2, q3, q4, q5, q6, q7, q8, q9⟩ := cs10 hX
   obtain ⟨n0, n1, n2, n3, n4, n5, n6, n7, n8, n9⟩ := cs10 hO
   obtain ⟨fz0, fz1, fz2, fz3, fz4, fz5, fz6, fz7, fz8, fz9⟩ := fz10 hO
   have hO8 := set10_blk hO rfl ⟨⟨x1, x2, x3, x4, x5, x6, x7, x8, x9, xd⟩, xa, xc, xq⟩
   have k8 := set10_kept w6 rb ⟨⟨x1, x2, x3, x4, x5, x6, x7, x8, x9, xd⟩, xa, xc, xq⟩
   have R8 := Lib.hid (R.out _ k8)
   unfold set10 at R8 hO8
   dsimp only at R8 hO8
   obtain ⟨y0, y1, y2, y3, y4, y5, y6, y7, y8, y9⟩ := cs10 hO8
   clear hX hO hO8 k8 R HB6 HX6 HO6 HL6 HK6 hge hzn hz0 hcmp hK hlt hglt hrb2 hg hgb hbase HC HNL HZ HRB HTB HH HAT HL HB
   generalize (n : Int) - ((z : Int) + 1) = B at *
   generalize (z : Int) + 1 = A at *
   have hd : decide (B ≤ A) = false := by rw [decide_eq_false_iff_not]; exact hAB
   rw [hd]
   clear hd hAB
   go_wp2_with fail
   exact bodyPost_ret (v := .tuple #[fv ⟨⟨x1, x2, x3, x4, x5, x6, x7, x8, x9, xd⟩, xa, xc, xq⟩, .bool true]) (by simp [results, Tryz.results44, go_sem, y0, y1, y2, y3, y4, y5, y6, y7, y8, y9]) rfl ⟨rfl, R8.out⟩
  ·have CL : Hid (∀ w', Kept (fun _ => False) w6 w' → Calls Tryz.prog 76 #[.pointer (some ⟨b, o, none⟩)] w' fun e w'' => e = .returned (.tuple #[]) ∧
     ∃ v', Blk w'' b (((cc.set (o + 1) (.int .i64 ((z : Int) + 1))).set o v').set (o + 1) (.int .i64 0)) T ∧ Rw.Row fT w'' base v' L ∧ Kept (fun i => i = b) w' w'' ∧ ∀ g, v'.ownBlock = some g → w'.heap.size ≤ g) := by
    refine Lib.hid fun w' kk => ?_
    have hlen : ((Z ++ [zF]) ++ L).length = n := by rw [← HZ.out.2.1]; simp only [List.length_append, List.length_cons, List.length_nil]; omega
    have hR6 : Rw.Row fT w' base (.slice (some ⟨g, 0, none⟩) n cap) ((Z ++ [zF]) ++ L) := by
     have := (HL6.out.kept kk (fun f => f)).row hg
     rw [hlen] at this
     exact this
    have hzl : (Z ++ [zF]).length = z + 1 := by rw [List.length_append, HZ.out.1]; rfl
    exact iclose_any (Z := Z ++ [zF]) (L := L) (kk.blk HB6.out (fun f => f)) HC.out.1 (by rw [hzl, Int.natCast_add]; exact HC.out.2.1) hR6 (by rw [hlen]; exact hK) (Nat.le_trans hbase (by have := HK6.out.size; have := kk.size; omega))
   have hAB : (n : Int) - ((z : Int) + 1) ≤ (z : Int) + 1 := hge
   clear hge hzn hz0 hcmp
   obtain ⟨B, hBe⟩ : ∃ B, (n : Int) - ((z : Int) + 1) = B := ⟨_, rfl⟩
   obtain ⟨A, hAe⟩ : ∃ A, (z : Int) + 1 = A := ⟨_, rfl⟩
   rw [hBe, hAe] at hAB
   rw [hBe]
   simp only [hAe]
   have HAe := Lib.hid (And.intro hAe hBe)
   clear hAe hBe
   have hd : decide (B ≤ A) = true := by rw [decide_eq_true_iff]; exact hAB
   rw [hd]
   clear hd hAB
   go_wp2_with fail
   with_reducible refine Calls.mono (CL.out _ (Kept.refl _ _)) ?_
   rintro e w7 ⟨rfl, v', hB7, hR7, hk7, hl7⟩
   have HX7 := hk7.blk HX6.out (fun e => by omega)
   have HO7 := hk7.blk HO6.out (fun e => by omega)
   have R : Hid (∀ w8, Kept (fun i => i = rb) w7 w8 → ITk w b o base T cc (.slice (some ⟨g, 0, none⟩) n cap) ⟨⟨x1, x2, x3, x4, x5, x6, x7, x8, x9, xd⟩, xa, xc, xq⟩ L w8) := by
    refine Lib.hid fun w8 k8 => ?_
    have hlo := HC.out.2.2
    refine ⟨v', _, [], k8.blk hB7 (fun e => by omega), fun i h1 h2 => by rw [List.getElem?_set_ne (Ne.symm h2), List.getElem?_set_ne (Ne.symm h1), List.getElem?_set_ne (Ne.symm h2)], ?_, ?_, Nat.zero_le _, hR7.kept k8 (fun j e1 e2 => ?_), (HK6.out.trans (hk7.mono (fun i _ e => Or.inl e))).trans' k8 (fun i hi e => by have h9 : i = rb := e; have := HRB.out; omega), fun j e => Or.inr ?_⟩
    ·rw [List.getElem?_set_ne (by omega), List.getElem?_set_self (by rw [List.length_set]; omega)]
    ·rw [List.getElem?_set_self (by rw [List.length_set, List.length_set]; exact hlo)]; rfl
    ·have h1 := hl7 j e1; have h2 := HO6.out.lt; omega
    ·have h1 := hl7 j e; have h2 := HK6.out.size; omega
   clear hB7 hR7 hk7 hl7 CL HB6 HX6 HO6 HL6 HK6
   obtain ⟨q0, q1, q2, q3, q4, q5, q6, q7, q8, q9⟩ := cs10 HX7
   obtain ⟨n0, n1, n2, n3, n4, n5, n6, n7, n8, n9⟩ := cs10 HO7
   obtain ⟨fz0, fz1, fz2, fz3, fz4, fz5, fz6, fz7, fz8, fz9⟩ := fz10 HO7
   have hO8 := set10_blk HO7 rfl ⟨⟨x1, x2, x3, x4, x5, x6, x7, x8, x9, xd⟩, xa, xc, xq⟩
   have k8 := set10_kept w7 rb ⟨⟨x1, x2, x3, x4, x5, x6, x7, x8, x9, xd⟩, xa, xc, xq⟩
   have R8 := Lib.hid (R.out _ k8)
   unfold set10 at R8 hO8
   dsimp only at R8 hO8
   obtain ⟨y0, y1, y2, y3, y4, y5, y6, y7, y8, y9⟩ := cs10 hO8
   clear HX7 HO7 hO8 k8 R
   go_wp2_with fail
   exact bodyPost_ret (v := .tuple #[fv ⟨⟨x1, x2, x3, x4, x5, x6, x7, x8, x9, xd⟩, xa, xc, xq⟩, .bool true]) (by simp [results, Tryz.results44, go_sem, y0, y1, y2, y3, y4, y5, y6, y7, y8, y9]) rfl ⟨rfl, R8.out⟩
end Go.Proofs.YtpogpibjkolioaaGreat.Fb

/- A fabric's Take. Conditions: each theorem's own. -/
namespace Go.Proofs.YtpogpibjkolioaaGreat.Fb
open Go.RowKit Hp QuM QuN Rw Qu NumM NumC Po Fo FbM TpM Tp
attribute [local go_sem ↓] Go.wp_at_zero Go.wp_at_succ
variable {w0 w w' : World} {K : Cf} {a : Ad} {M : Mo}
set_option maxRecDepth 100000 in
set_option maxHeartbeats 4000000 in
theorem ftake_of {p : Value} {J : Int} {q : Addr} {y : Bx} {r : Bool} {Post : World → World → Prop} (hH : ∀ w', Kept (fun _ => False) w w' → Calls Tryz.prog 31 #[p, .int .i64 J] w' fun e w'' => e = .returned (.pointer (some q)) ∧ w' = w'')
  (hI : ∀ w', Kept (fun _ => False) w w' → w.heap.size < w'.heap.size → Calls Tryz.prog 44 #[.pointer (some q)] w' fun e w'' => e = .returned (.tuple #[fv y, .bool r]) ∧ Post w' w'' ∧ ∃ G : Nat → Prop, Kept G w' w'' ∧ ∀ i, G i → i < w.heap.size) :
  Calls Tryz.prog 12 #[p, .int .i64 J] w fun e w' => e = .returned (.tuple #[fv y, .bool r]) ∧ ∃ w1 w2, Kept (fun _ => False) w w1 ∧ w.heap.size < w1.heap.size ∧ Post w1 w2 ∧ Kept (fun i => i = w.heap.size) w2 w' := by
 have HY := Lib.hid hH
 have IT := Lib.hid hI
 clear hH hI
 obtain ⟨⟨x1, x2, x3, x4, x5, x6, x7, x8, x9, xd⟩, xa, xc, xq⟩ := y
 obtain ⟨qb, qo, qn⟩ := q
 go_enter Tryz.func12, Tryz.ntmps12
 go_upto_region 1 with fail
 have hO := Blk.new w [.int .i64 0, .int .i64 0, .int .i64 0, .int .i64 0, .int .u64 0, .int .i64 0, .int .i64 0, .int .i64 0, .int .i64 0, .slice none 0 0] 35
 have hk1 := (Kept.refl (fun _ => False) w).alloc (.cells [.int .i64 0, .int .i64 0, .int .i64 0, .int .i64 0, .int .u64 0, .int .i64 0, .int .i64 0, .int .i64 0, .int .i64 0, .slice none 0 0].toArray 35)
 dsimp only [List.toArray] at hO hk1
 have hsz : w.heap.size < (w.alloc (.cells #[.int .i64 0, .int .i64 0, .int .i64 0, .int .i64 0, .int .u64 0, .int .i64 0, .int .i64 0, .int .i64 0, .int .i64 0, .slice none 0 0] 35)).heap.size := by simp
 have HSZ := Lib.hid hsz
 clear hsz
 generalize w.alloc (.cells #[.int .i64 0, .int .i64 0, .int .i64 0, .int .i64 0, .int .u64 0, .int .i64 0, .int .i64 0, .int .i64 0, .int .i64 0, .slice none 0 0] 35) = w1 at *
 obtain ⟨rb, hrb⟩ : ∃ rb, w.heap.size = rb := ⟨_, rfl⟩
 rw [hrb] at hO
 simp only [hrb]
 have HRB := Lib.hid hrb
 have HO := Lib.hid hO
 have HK := Lib.hid hk1
 clear hrb hO hk1
 go_wp2_with fail
 with_reducible refine Calls.mono (HY.out _ HK.out) ?_
 rintro e w2 ⟨rfl, rfl⟩
 go_wp2_with fail
 with_reducible refine Calls.mono (IT.out _ HK.out HSZ.out) ?_
 rintro e w3 ⟨rfl, hP, G, kG, hG⟩
 have hO3 := kG.blk HO.out (fun e => by have := hG _ e; have := HRB.out; omega)
 have HP := Lib.hid hP
 clear hP kG hG HY IT
 obtain ⟨n0, n1, n2, n3, n4, n5, n6, n7, n8, n9⟩ := cs10 hO3
 obtain ⟨fz0, fz1, fz2, fz3, fz4, fz5, fz6, fz7, fz8, fz9⟩ := fz10 hO3
 have hO8 := set10_blk hO3 rfl ⟨⟨x1, x2, x3, x4, x5, x6, x7, x8, x9, xd⟩, xa, xc, xq⟩
 have k8 := set10_kept w3 rb ⟨⟨x1, x2, x3, x4, x5, x6, x7, x8, x9, xd⟩, xa, xc, xq⟩
 have R8 : Hid (∃ w1 w2, Kept (fun _ => False) w w1 ∧ w.heap.size < w1.heap.size ∧ Post w1 w2 ∧ Kept (fun i => i = w.heap.size) w2 (set10 w3 rb ⟨⟨x1, x2, x3, x4, x5, x6, x7, x8, x9, xd⟩, xa, xc, xq⟩)) := Lib.hid ⟨w1, w3, HK.out, HSZ.out, HP.out, k8.mono (fun i _ e => by rw [HRB.out]; exact e)⟩
 unfold set10 at R8 hO8
 dsimp only at R8 hO8
 obtain ⟨y0, y1, y2, y3, y4, y5, y6, y7, y8, y9⟩ := cs10 hO8
 clear hO3 hO8 k8
 go_wp2_with fail
 exact bodyPost_ret (v := .tuple #[fv ⟨⟨x1, x2, x3, x4, x5, x6, x7, x8, x9, xd⟩, xa, xc, xq⟩, .bool r]) (by simp [results, Tryz.results12, go_sem, y0, y1, y2, y3, y4, y5, y6, y7, y8, y9]) rfl ⟨rfl, R8.out⟩
set_option maxRecDepth 100000 in
set_option maxHeartbeats 4000000 in
theorem ftake_nil {p : Value} {J : Int} (hH : ∀ w', Kept (fun _ => False) w w' → Calls Tryz.prog 31 #[p, .int .i64 J] w' fun e w'' => e = .returned (.pointer none) ∧ w' = w'') :
  Calls Tryz.prog 12 #[p, .int .i64 J] w fun e w' => e = .returned (.tuple #[fv zF, .bool false]) ∧ Kept (fun _ => False) w w' := by
 have HY := Lib.hid hH
 clear hH
 go_enter Tryz.func12, Tryz.ntmps12
 go_upto_region 1 with fail
 have hO := Blk.new w [.int .i64 0, .int .i64 0, .int .i64 0, .int .i64 0, .int .u64 0, .int .i64 0, .int .i64 0, .int .i64 0, .int .i64 0, .slice none 0 0] 35
 have hk1 := (Kept.refl (fun _ => False) w).alloc (.cells [.int .i64 0, .int .i64 0, .int .i64 0, .int .i64 0, .int .u64 0, .int .i64 0, .int .i64 0, .int .i64 0, .int .i64 0, .slice none 0 0].toArray 35)
 dsimp only [List.toArray] at hO hk1
 generalize w.alloc (.cells #[.int .i64 0, .int .i64 0, .int .i64 0, .int .i64 0, .int .u64 0, .int .i64 0, .int .i64 0, .int .i64 0, .int .i64 0, .slice none 0 0] 35) = w1 at *
 obtain ⟨rb, hrb⟩ : ∃ rb, w.heap.size = rb := ⟨_, rfl⟩
 rw [hrb] at hO
 simp only [hrb]
 have HRB := Lib.hid hrb
 have HO := Lib.hid hO
 have HK := Lib.hid hk1
 clear hrb hO hk1
 go_wp2_with fail
 with_reducible refine Calls.mono (HY.out _ HK.out) ?_
 rintro e w2 ⟨rfl, rfl⟩
 have hO2 := HO.out
 obtain ⟨n0, n1, n2, n3, n4, n5, n6, n7, n8, n9⟩ := cs10 hO2
 obtain ⟨fz0, fz1, fz2, fz3, fz4, fz5, fz6, fz7, fz8, fz9⟩ := fz10 hO2
 have hO6 := set10_blk hO2 rfl zF
 have k6 := set10_kept w1 rb zF
 have HK6 : Hid (Kept (fun _ => False) w (set10 w1 rb zF)) := Lib.hid (HK.out.trans' k6 (fun i hi e => by have h9 : i = rb := e; have := HRB.out; omega))
 unfold set10 at HK6 hO6
 dsimp only [List.length_nil, Int.natCast_zero] at HK6 hO6
 obtain ⟨z0, z1, z2, z3, z4, z5, z6, z7, z8, z9⟩ := cs10 hO6
 clear hO2 hO6 k6 HY
 go_wp2_with fail
 exact bodyPost_ret (v := .tuple #[fv zF, .bool false]) (by simp [results, Tryz.results12, go_sem, z0, z1, z2, z3, z4, z5, z6, z7, z8, z9]) rfl ⟨rfl, HK6.out⟩
theorem ftake_off (h : Fab w0 K a M w) {J : Int} (hj : J < 0 ∨ (K.hn : Int) ≤ J) : Calls Tryz.prog 12 #[ptr a.fb, .int .i64 J] w fun e w' => e = .returned (.tuple #[fv zF, .bool false]) ∧ Kept (fun _ => False) w w' :=
 ftake_nil fun w' kk => host_no (h.old kk) hj
theorem ftake_none (h : Fab w0 K a M w) {j : Nat} (hj : j < K.hn) (hI : M.I j = []) : Calls Tryz.prog 12 #[ptr a.fb, .int .i64 (j : Nat)] w fun e w' => e = .returned (.tuple #[fv zF, .bool false]) ∧ Kept (fun _ => False) w w' := by
 refine (ftake_of (Post := fun w1 w2 => Kept (fun _ => False) w1 w2) (fun w' kk => host_yes (h.old kk) hj) (y := zF) (r := false) ?_).mono ?_
 ·intro w' kk hs
  obtain ⟨c, Z, hz, hzl, hB, e0, e1, hR, hne, fin⟩ := (h.old kk).inbox hj
  rw [hI] at hzl hR
  have hZ : Z = [] := List.length_eq_zero_iff.1 (by simpa using hzl)
  subst hZ
  obtain ⟨av, cv, e, _⟩ := hR.slice
  rw [e] at e0
  refine (itake_none (n := 0) (hB.cell e0) (hB.cell e1) (by decide)).mono ?_
  rintro e w2 ⟨rfl, k2⟩
  exact ⟨rfl, k2, _, k2, fun _ f => f.elim⟩
 ·rintro e w' ⟨rfl, w1, w2, k1, hs, k2, k3⟩
  exact ⟨rfl, (k1.trans k2).trans' k3 (fun i hi e => by have h9 : i = w.heap.size := e; omega)⟩
theorem ftake_some (h : Fab w0 K a M w) {j : Nat} (hj : j < K.hn) (hl : (M.I j).length ≤ 50000) {x : Bx} {L : List Bx} (hI : M.I j = x :: L) :
  Calls Tryz.prog 12 #[ptr a.fb, .int .i64 (j : Nat)] w fun e w' => e = .returned (.tuple #[fv x, .bool true]) ∧ Dat w0 w' x ∧ FabN w0 K a { M with I := upd M.I j L } w w' := by
 have hx : Is K M x := Or.inr ⟨j, hj, by rw [hI]; exact List.mem_cons_self⟩
 refine (ftake_of (Post := fun w1 w2 => FabN w0 K a { M with I := upd M.I j L } w1 w2 ∧ Dat w0 w2 x) (fun w' kk => host_yes (h.old kk) hj) (y := x) (r := true) ?_).mono ?_
 ·intro w' kk hs
  have h1 := h.old kk
  obtain ⟨c, Z, hz, hzl, hB, e0, e1, hR, hne, fin⟩ := h1.inbox hj
  rw [hI] at hR
  have hzl' : Z.length ≤ 50000 := Nat.le_trans hzl hl
  have hl' : L.length + 1 ≤ 50000 := by rw [hI] at hl; exact hl
  refine (itake_some hB e0 e1 hR hne (by rw [List.length_append, List.length_cons]; omega) h1.since.size).mono ?_
  rintro e w2 ⟨rfl, v', c', Z', g1, g2, g3, g4, g5, g6, g7, g8⟩
  obtain ⟨f1, f2⟩ := fin v' c' Z' L w2 g1 g2 g3 g4 g5 g6 g7 g8 (fun y hy => Or.inl (by rw [hI]; exact List.mem_cons_of_mem _ hy))
  refine ⟨rfl, ⟨⟨_, f1, f2, rfl⟩, (h1.dat x hx).1.kept g7 (fun g hg e => ?_), (h1.dat x hx).2⟩, _, g7, fun i e => ?_⟩
  ·refine h1.dsort hx hg ?_
   rcases e with e | e
   ·exact Or.inr (Or.inr (Or.inr (Or.inl e)))
   ·exact Or.inr (Or.inr (Or.inr (Or.inr (Or.inl ⟨j, hj, e⟩))))
  ·refine (h.bound ?_).2
   rcases e with e | e
   ·exact Or.inr (Or.inr (Or.inr (Or.inl e)))
   ·exact Or.inr (Or.inr (Or.inr (Or.inr (Or.inl ⟨j, hj, e⟩))))
 ·rintro e w' ⟨rfl, w1, w2, k1, hs, ⟨⟨a', f1, f2, f3⟩, hd⟩, k3⟩
  have hold : ∀ y, Is K { M with I := upd M.I j L } y → Is K M y := by
   rintro y (hy | ⟨i, hi, hy⟩)
   ·exact Or.inl hy
   ·by_cases e : i = j
    ·subst e
     dsimp only at hy
     rw [upd_self] at hy
     exact Or.inr ⟨i, hi, by rw [hI]; exact List.mem_cons_of_mem _ hy⟩
    ·dsimp only at hy
     rw [upd_ne _ _ e] at hy
     exact Or.inr ⟨i, hi, hy⟩
  have hb := h.since.size
  refine ⟨rfl, ⟨hd.1.kept k3 (fun g hg e => ?_), hd.2⟩, a', f1.far k3 (fun i e f => ?_) (fun y hy g hg e => ?_) (fun i e => by have h9 : i = w.heap.size := e; omega), ⟨(next_in k1 f2).1.trans' k3 (fun i hi e => by exfalso; have h9 : i = w.heap.size := e; omega), (next_in k1 f2).2⟩, f3⟩
  ·have h9 : g = w.heap.size := e
   have := ((h.dat x hx).1.lt g hg).2; omega
  ·have h9 : i = w.heap.size := e
   rcases f2.2 i f with f | f
   ·have := (h.bound f).2; omega
   ·omega
  ·have h9 : g = w.heap.size := e
   have := ((h.dat y (hold y hy)).1.lt g hg).2; omega
end Go.Proofs.YtpogpibjkolioaaGreat.Fb

