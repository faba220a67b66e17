/- The reference's port: push. Conditions: each theorem's own. -/
import Derived.Test.YtpogpibjkolioaaGreatFpK22
import Derived.Test.YtpogpibjkolioaaGreatFpK23
set_option linter.unusedVariables false
set_option linter.unusedSimpArgs false
namespace Go.Proofs.YtpogpibjkolioaaGreat.Rf
open Go.RowKit Hp QuM Rw Qu Po NumM NumC
attribute [local go_sem ↓] Go.wp_at_zero Go.wp_at_succ
variable {w0 w w' : World} {m : Nat} {room most : Int} {trim : Bool} {ls : Nat → List Bx} {cr : List Bx} {now last : Int} {ever : Bool} {vs : Nat → Value} {vc : Value} {R G : Nat → Prop}
def RN (m : Nat) (R : Nat → Prop) (w : World) (R' : Nat → Prop) (w' : World) : Prop := Kept (fun i => i = m) w w' ∧ ∀ i, R' i → R i ∨ w.heap.size ≤ i
set_option maxRecDepth 100000 in
set_option maxHeartbeats 8000000 in
theorem rpush_any (h : Rf w0 m room most trim ls cr now last ever vs vc w) {x : Bx} (hx : Rok w0 x) {p : Nat} {P : Int} (hP : P = (p : Nat)) (hp : p < 8) (hc : cnt ls 8 ≤ 900) {fit : Bool} (hfit : fit = decide (tot ls 8 + szI (nb x) ≤ room)) :
  Calls Tryz.prog 87 #[.pointer (some ⟨m, 0, none⟩), .int .i64 P, bv x] w fun e w' => e = .returned (.bool fit) ∧ (if fit = true then ∃ R', RS w0 m room most trim (upd ls p (ls p ++ [x])) cr now last ever R' w' ∧ RN m (frp m vs vc) w R' w' else Kept (fun _ => False) w w') := by
 subst hP
 have H := Lib.hid h
 have RU := Lib.hid fun (w' : World) (k : Kept (fun _ => False) w w') => rused_of (h.old k) (Nat.le_trans hc (by decide))
 have SZ := Lib.hid fun (w' : World) => rsize_any ⟨hx.1, hx.2.1⟩ w'
 have hzb := sz_bd (x := x) ⟨hx.1, hx.2.1⟩
 have hz1 := hzb.1
 have hz2 := hzb.2.1
 have ht0 := tot_nonneg ls 8
 have ht1 : tot ls 8 ≤ 2000000 := by
  have := tot_bd (ls := ls) (n := 8) (fun k x hk hx => ⟨(h.ok k x hk hx).1, (h.ok k x hk hx).2.1⟩)
  omega
 have HX := Lib.hid hx
 have hml := h.blk.lt
 have hll : (ls p).length ≤ 1000 := by have := len_le_cnt (ls := ls) hp; omega
 obtain ⟨a, cc, hv, hc1, hc2⟩ := (h.row p hp).slice
 have HV := Lib.hid hv
 have hrb := h.lim.1
 have hrb2 := h.lim.2.1
 clear h hx hzb hc hc1 hc2 hv
 obtain ⟨T, hT⟩ : ∃ T, tot ls 8 = T := ⟨_, rfl⟩
 obtain ⟨z, hz⟩ : ∃ z, szI (nb x) = z := ⟨_, rfl⟩
 rw [hT, hz] at hfit
 rw [hT] at RU ht0 ht1
 rw [hz] at SZ hz1 hz2
 have HT := Lib.hid (And.intro hT hz)
 clear hT hz
 have hw : IntKind.i64.wrap (T + z) = T + z := by rw [IntKind.wrap_i64]; omega
 have hg : decide (room < T + z) = !fit := by subst hfit; by_cases h : T + z ≤ room <;> simp [h] <;> omega
 clear hfit
 obtain ⟨⟨x1, x2, x3, x4, x5, x6, x7, x8, x9, xd⟩, xa, xc, xq⟩ := x
 unfold Wr.fv Wr.fcs at SZ
 dsimp only at SZ
 cases fit
 all_goals
  go_enter Tryz.func87, Tryz.ntmps87
  go_upto_region 1 with fail
  have hB := Blk.new w [.int .i64 x1, .int .i64 x2, .int .i64 x3, .int .i64 x4, .int .u64 (x5 : Int), .int .i64 x6, .int .i64 x7, .int .i64 x8, .int .i64 x9, .slice xa xd.length xc, .int .i64 xq] tI
  have hk1 := (Kept.refl (fun _ => False) w).alloc (.cells [.int .i64 x1, .int .i64 x2, .int .i64 x3, .int .i64 x4, .int .u64 (x5 : Int), .int .i64 x6, .int .i64 x7, .int .i64 x8, .int .i64 x9, .slice xa xd.length xc, .int .i64 xq].toArray tI)
  dsimp only [List.toArray] at hB hk1
  generalize w.alloc (.cells #[.int .i64 x1, .int .i64 x2, .int .i64 x3, .int .i64 x4, .int .u64 (x5 : Int), .int .i64 x6, .int .i64 x7, .int .i64 x8, .int .i64 x9, .slice xa xd.length xc, .int .i64 xq] 88) = w1 at *
  obtain ⟨xb, hxb⟩ : ∃ xb, w.heap.size = xb := ⟨_, rfl⟩
  rw [hxb] at hB hml
  simp only [hxb]
  have HXB := Lib.hid hxb
  have HB := Lib.hid hB
  have HK := Lib.hid hk1
  clear hxb hB hk1
  have KS : Hid (∀ w', Kept (fun _ => False) w1 w' → w'.cell? ⟨m, 0, none⟩ = some (.int .i64 room) ∧ w'.cell? ⟨xb, 0, none⟩ = some (.int .i64 x1) ∧ w'.cell? ⟨xb, 1, none⟩ = some (.int .i64 x2) ∧ w'.cell? ⟨xb, 2, none⟩ = some (.int .i64 x3) ∧ w'.cell? ⟨xb, 3, none⟩ = some (.int .i64 x4) ∧ w'.cell? ⟨xb, 4, none⟩ = some (.int .u64 (x5 : Int)) ∧ w'.cell? ⟨xb, 5, none⟩ = some (.int .i64 x6) ∧ w'.cell? ⟨xb, 6, none⟩ = some (.int .i64 x7) ∧ w'.cell? ⟨xb, 7, none⟩ = some (.int .i64 x8) ∧ w'.cell? ⟨xb, 8, none⟩ = some (.int .i64 x9) ∧ w'.cell? ⟨xb, 9, none⟩ = some (.slice xa xd.length xc)) := by
   refine Lib.hid fun w' k => ?_
   have h1 := ((HK.out.trans k).blk H.out.blk (fun f => f))
   have h2 := k.blk HB.out (fun f => f)
   exact ⟨h1.cell rfl, h2.cell rfl, h2.cell rfl, h2.cell rfl, h2.cell rfl, h2.cell rfl, h2.cell rfl, h2.cell rfl, h2.cell rfl, h2.cell rfl, h2.cell rfl⟩
  go_wp2_with fail
  go_region_held3 (fun w' => w'.cell? ⟨m, 0, none⟩ = some (.int .i64 room) ∧ w'.cell? ⟨xb, 0, none⟩ = some (.int .i64 x1) ∧ w'.cell? ⟨xb, 1, none⟩ = some (.int .i64 x2) ∧ w'.cell? ⟨xb, 2, none⟩ = some (.int .i64 x3) ∧ w'.cell? ⟨xb, 3, none⟩ = some (.int .i64 x4) ∧ w'.cell? ⟨xb, 4, none⟩ = some (.int .u64 (x5 : Int)) ∧ w'.cell? ⟨xb, 5, none⟩ = some (.int .i64 x6) ∧ w'.cell? ⟨xb, 6, none⟩ = some (.int .i64 x7) ∧ w'.cell? ⟨xb, 7, none⟩ = some (.int .i64 x8) ∧ w'.cell? ⟨xb, 8, none⟩ = some (.int .i64 x9) ∧ w'.cell? ⟨xb, 9, none⟩ = some (.slice xa xd.length xc))
   (first | exact KS.out _ (Kept.refl _ _) | exact KS.out _ (Kept.refl _ _).drew | exact KS.out _ (by assumption) | exact KS.out _ (Kept.drew (by assumption)))
   (first
    | (go_at_call 98; (with_reducible refine Calls.mono (RU.out _ (HK.out.trans (by first | exact Kept.refl _ _ | exact (Kept.refl _ _).drew | assumption | exact Kept.drew (by assumption)))) ?_); rintro e wu ⟨rfl, hku⟩; have hkk : Kept (fun _ => False) w1 wu := (by first | exact hku | exact ((Kept.refl _ _).drew).trans hku))
    | (go_at_call 99; (with_reducible refine Calls.mono (SZ.out _) ?_); rintro e wz ⟨rfl, hkz⟩; have hkl : Kept (fun _ => False) w1 wz := (by first | exact hkk.trans hkz | exact hkk.drew.trans hkz)))
 ·have HKZ : Hid (Kept (fun _ => False) w wz) := Lib.hid (HK.out.trans hkl)
  clear hkl hkk hku hkz
  go_wp2_with fail
  go_ret
  first | exact ⟨rfl, HKZ.out⟩ | exact ⟨rfl, HKZ.out.drew⟩
 ·have HKZ : Hid (Kept (fun _ => False) w1 wz) := Lib.hid hkl
  clear hkl hkk hku hkz
  go_upto_region 3 with fail
  have fin : ∀ wz' : World, Kept (fun _ => False) w1 wz' → ∀ (v' : Value) (w' w2 : World), Ro.Row rT w' v' (ls p ++ [⟨⟨x1, x2, x3, x4, x5, x6, x7, x8, x9, xd⟩, xa, xc, xq⟩]) → Kept (fun i => wz'.heap.size ≤ i) wz' w' → (∀ g, v'.ownBlock = some g → wz'.heap.size ≤ g) → Kept (fun _ => False) (w'.setCell ⟨m, 3 + p, none⟩ v') w2 →
    ∃ R', RS w0 m room most trim (upd ls p (ls p ++ [⟨⟨x1, x2, x3, x4, x5, x6, x7, x8, x9, xd⟩, xa, xc, xq⟩])) cr now last ever R' w2 ∧ RN m (frp m vs vc) w R' w2 := by
   intro wz' kz v' w' w2 hrow k1 hg' k2
   have hH := H.out.old (HK.out.trans kz)
   have hmz := hH.blk.lt
   have hsz := HK.out.trans kz
   have hH1 := hH.kept k1 (fun i e f => by have := hH.bound f; omega) (fun i e => by have := hH.since.size; omega)
   have ks := Kept.one w' m (3 + p) v'
   have hgm : ∀ g, v'.ownBlock = some g → g ≠ m := fun g e e2 => by have := hg' g e; omega
   have hb2 := hH1.blk.set (3 + p) v'
   rw [rcs_set _ _ _ _ _ _ _ _ hp] at hb2
   have hne : ∀ k g, k < 8 → (vs k).ownBlock = some g → g ≠ m := fun k g hk e => row_ne (hH1.row k hk) hH1.blk e
   have hR : Rf w0 m room most trim (upd ls p (ls p ++ [⟨⟨x1, x2, x3, x4, x5, x6, x7, x8, x9, xd⟩, xa, xc, xq⟩])) cr now last ever (upd vs p v') vc (w'.setCell ⟨m, 3 + p, none⟩ v') := by
    refine ⟨hH1.since.trans' ks (fun i hi e => by have := hH1.low; omega), hb2, fun k hk => ?_, hH1.rowc.kept ks (fun g hg e => row_ne hH1.rowc hH1.blk hg e), hH1.low, fun k y hk hy => ?_, hH1.okc, hH1.lim⟩
    ·by_cases e : k = p
     ·subst e; rw [upd_self, upd_self]; exact hrow.kept ks (fun g hg e => hgm g hg e)
     ·rw [upd_ne _ _ e, upd_ne _ _ e]; exact (hH1.row k hk).kept ks (fun g hg e2 => hne k g hk hg e2)
    ·by_cases e : k = p
     ·subst e
      rw [upd_self] at hy
      rcases List.mem_append.1 hy with hy | hy
      ·exact hH1.ok k y hk hy
      ·rw [List.mem_singleton] at hy; subst hy; exact HX.out
     ·rw [upd_ne _ _ e] at hy; exact hH1.ok k y hk hy
   refine ⟨_, ⟨_, _, hR.old k2, rfl⟩, (((hsz.mono (fun _ _ f => f.elim)).trans' k1 (fun i hi e => by have := hsz.size; omega)).trans ks).trans (k2.mono (fun _ _ f => f.elim)), fun i hi => ?_⟩
   rcases hi with e | ⟨k, hk, e⟩ | e
   ·exact Or.inl (Or.inl e)
   ·by_cases e2 : k = p
    ·subst e2; rw [upd_self] at e; exact Or.inr (Nat.le_trans hsz.size (hg' i e))
    ·rw [upd_ne _ _ e2] at e; exact Or.inl (Or.inr (Or.inl ⟨k, hk, e⟩))
   ·exact Or.inl (Or.inr (Or.inr e))
  have FIN := Lib.hid fin
  have pre : ∀ wz' : World, Kept (fun _ => False) w1 wz' → Ro.Row rT wz' (.slice a (ls p).length cc) (ls p) ∧ wz'.cell? ⟨m, 3 + p, none⟩ = some (.slice a (ls p).length cc) ∧ wz'.frozen? ⟨m, 3 + p, none⟩ = false ∧ m < wz'.heap.size ∧ Blk wz' xb [.int .i64 x1, .int .i64 x2, .int .i64 x3, .int .i64 x4, .int .u64 (x5 : Int), .int .i64 x6, .int .i64 x7, .int .i64 x8, .int .i64 x9, .slice xa xd.length xc, .int .i64 xq] tI ∧ xb ≠ m := by
   intro wz' kz
   have hH := H.out.old (HK.out.trans kz)
   refine ⟨by have := hH.row p hp; rwa [HV.out] at this, by have := hH.blk.cell (rcs_at _ _ _ _ _ _ _ _ hp); rwa [HV.out] at this, hH.blk.frozen _, hH.blk.lt, kz.blk HB.out (fun f => f), by omega⟩
  have hkz : ∀ wz', wz' = wz ∨ wz' = wz.drew → Kept (fun _ => False) w1 wz' := by
   rintro wz' (rfl | rfl)
   ·exact HKZ.out
   ·exact HKZ.out.drew
  have HKK := Lib.hid hkz
  obtain ⟨q1, q2, q3, q4, q5, q6⟩ := pre _ (hkz _ (by first | exact Or.inl rfl | exact Or.inr rfl))
  clear fin pre hkz
  refine push3 _ _ _ _ _ _ _ _ _ _ _ _ _ _ _ _ _ _ _ _ _ _ _ _ _ _ _ _ _ _ _ _ q1 q2 q3 (by omega) hll q4 q5 q6 ?_
  intros
  rename_i v' w' w2 r1 r2 r3 r4
  have R4 := Lib.hid (FIN.out _ (HKK.out _ (by first | exact Or.inl rfl | exact Or.inr rfl)) _ _ _ r1 r2 r3 r4)
  clear r1 r2 r3 r4 q1 q2 q3 q4 q5 q6
  go_wp2_with fail
  go_ret
  exact ⟨rfl, R4.out⟩
end Go.Proofs.YtpogpibjkolioaaGreat.Rf

/- The reference's port: Trimmed, Put. Conditions: each theorem's own. -/
namespace Go.Proofs.YtpogpibjkolioaaGreat.Rf
open Go.RowKit Hp QuM Rw Qu Po NumM NumC
attribute [local go_sem ↓] Go.wp_at_zero Go.wp_at_succ
variable {w0 w w' : World} {m : Nat} {room most : Int} {trim : Bool} {ls : Nat → List Bx} {cr : List Bx} {now last : Int} {ever : Bool} {vs : Nat → Value} {vc : Value} {R G : Nat → Prop}
set_option maxRecDepth 100000 in
set_option maxHeartbeats 4000000 in
theorem rtrim_any (x : Bx) (w : World) : Calls Tryz.prog 89 #[Wr.fv x.f x.s x.c] w fun e w' => e = .returned (.agg #[.int .i64 7, .int .i64 x.f.src, .int .i64 x.f.dst, .int .i64 0, .int .u64 (x.f.msg : Int), .int .i64 x.f.off, .int .i64 x.f.len, .int .i64 x.f.total, .int .i64 x.f.num, .slice none 0 0]) ∧ Kept (fun _ => False) w w' := by
 obtain ⟨⟨x1, x2, x3, x4, x5, x6, x7, x8, x9, xd⟩, xa, xc, xq⟩ := x
 unfold Wr.fv Wr.fcs
 dsimp only
 go_enter Tryz.func89, Tryz.ntmps89
 go_upto_region 1 with fail
 have hB := Blk.new w [.int .i64 x1, .int .i64 x2, .int .i64 x3, .int .i64 x4, .int .u64 (x5 : Int), .int .i64 x6, .int .i64 x7, .int .i64 x8, .int .i64 x9, .slice xa xd.length xc] 35
 have hk1 := (Kept.refl (fun _ => False) w).alloc (.cells [.int .i64 x1, .int .i64 x2, .int .i64 x3, .int .i64 x4, .int .u64 (x5 : Int), .int .i64 x6, .int .i64 x7, .int .i64 x8, .int .i64 x9, .slice xa xd.length xc].toArray 35)
 have hs1 : (w.alloc (.cells #[.int .i64 x1, .int .i64 x2, .int .i64 x3, .int .i64 x4, .int .u64 (x5 : Int), .int .i64 x6, .int .i64 x7, .int .i64 x8, .int .i64 x9, .slice xa xd.length xc] 35)).heap.size = w.heap.size + 1 := by simp
 dsimp only [List.toArray] at hB hk1
 generalize w.alloc (.cells #[.int .i64 x1, .int .i64 x2, .int .i64 x3, .int .i64 x4, .int .u64 (x5 : Int), .int .i64 x6, .int .i64 x7, .int .i64 x8, .int .i64 x9, .slice xa xd.length xc] 35) = w1 at *
 have hO := Blk.new w1 [.int .i64 0, .int .i64 0, .int .i64 0, .int .i64 0, .int .u64 0, .int .i64 0, .int .i64 0, .int .i64 0, .int .i64 0, .slice none 0 0] 35
 have hk2 := (Kept.refl (fun _ => False) w1).alloc (.cells [.int .i64 0, .int .i64 0, .int .i64 0, .int .i64 0, .int .u64 0, .int .i64 0, .int .i64 0, .int .i64 0, .int .i64 0, .slice none 0 0].toArray 35)
 have hB2 := hk2.blk hB (fun f => f)
 dsimp only [List.toArray] at hO hk2 hB2
 rw [hs1] at hO
 generalize w1.alloc (.cells #[.int .i64 0, .int .i64 0, .int .i64 0, .int .i64 0, .int .u64 0, .int .i64 0, .int .i64 0, .int .i64 0, .int .i64 0, .slice none 0 0] 35) = w2 at *
 have HK2 := Lib.hid (hk1.trans hk2)
 obtain ⟨rb, hrb⟩ : ∃ rb, w.heap.size = rb := ⟨_, rfl⟩
 rw [hrb] at hB2 hO
 simp only [hrb]
 have HRB := Lib.hid hrb
 have hO2 := hO
 clear hrb hs1 hk1 hk2 hB hO
 obtain ⟨c0, c1, c2, c3, c4, c5, c6, c7, c8, c9⟩ := cs10 hB2
 obtain ⟨f0, f1, f2, f3, f4, f5, f6, f7, f8, f9⟩ := fz10 hB2
 go_upto_region 4 with fail
 have hB4 := ((hB2.set 0 (.int .i64 7)).set 3 (.int .i64 0)).set 9 (.slice none 0 0)
 dsimp only [List.set] at hB4
 have k4 : Kept (fun i => i = rb) w2 (((w2.setCell ⟨rb, 0, none⟩ (.int .i64 7)).setCell ⟨rb, 3, none⟩ (.int .i64 0)).setCell ⟨rb, 9, none⟩ (.slice none 0 0)) := (((Kept.refl (fun i => i = rb) w2).set (b := rb) (fun _ => rfl) _ _).set (b := rb) (fun _ => rfl) _ _).set (b := rb) (fun _ => rfl) _ _
 have hO4 := k4.blk hO2 (by omega)
 generalize ((w2.setCell ⟨rb, 0, none⟩ (.int .i64 7)).setCell ⟨rb, 3, none⟩ (.int .i64 0)).setCell ⟨rb, 9, none⟩ (.slice none 0 0) = w4 at *
 have HK4 : Hid (Kept (fun _ => False) w w4) := Lib.hid (HK2.out.trans' k4 (fun i hi e => by have := HRB.out; omega))
 clear k4 hB2 hO2 HK2 c0 c1 c2 c3 c4 c5 c6 c7 c8 c9 f0 f1 f2 f3 f4 f5 f6 f7 f8 f9
 obtain ⟨e0, e1, e2, e3, e4, e5, e6, e7, e8, e9⟩ := cs10 hB4
 obtain ⟨n0, n1, n2, n3, n4, n5, n6, n7, n8, n9⟩ := cs10 hO4
 obtain ⟨fz0, fz1, fz2, fz3, fz4, fz5, fz6, fz7, fz8, fz9⟩ := fz10 hO4
 have hO5 := set_all hO4 [.int .i64 7, .int .i64 x2, .int .i64 x3, .int .i64 0, .int .u64 (x5 : Int), .int .i64 x6, .int .i64 x7, .int .i64 x8, .int .i64 x9, .slice none 0 0] rfl
 have k5 := setW_kept (g := rb + 1) [.int .i64 7, .int .i64 x2, .int .i64 x3, .int .i64 0, .int .u64 (x5 : Int), .int .i64 x6, .int .i64 x7, .int .i64 x8, .int .i64 x9, .slice none 0 0] w4 0
 have HK5 : Hid (Kept (fun _ => False) w (setW w4 (rb + 1) 0 [.int .i64 7, .int .i64 x2, .int .i64 x3, .int .i64 0, .int .u64 (x5 : Int), .int .i64 x6, .int .i64 x7, .int .i64 x8, .int .i64 x9, .slice none 0 0])) := Lib.hid (HK4.out.trans' k5 (fun i hi e => by have := HRB.out; omega))
 simp only [setW, Nat.zero_add, Nat.reduceAdd] at hO5 HK5
 obtain ⟨z0, z1, z2, z3, z4, z5, z6, z7, z8, z9⟩ := cs10 hO5
 clear hB4 hO4 hO5 k5 HK4
 go_wp2_with fail
 exact bodyPost_ret (v := .agg #[.int .i64 7, .int .i64 x2, .int .i64 x3, .int .i64 0, .int .u64 (x5 : Int), .int .i64 x6, .int .i64 x7, .int .i64 x8, .int .i64 x9, .slice none 0 0]) (by simp [results, Tryz.results89, go_sem, z0, z1, z2, z3, z4, z5, z6, z7, z8, z9]) rfl ⟨rfl, HK5.out⟩
set_option maxRecDepth 100000 in
set_option maxHeartbeats 8000000 in
theorem rput_credit (h : Rf w0 m room most trim ls cr now last ever vs vc w) {x : Bx} (hx : Rok w0 x) (hk : x.f.kind = 11) (hc : cr.length ≤ 900) {fit : Bool} (hfit : fit = decide ((cr.length : Int) < most)) :
  Calls Tryz.prog 65 #[.pointer (some ⟨m, 0, none⟩), bv x] w fun e w' => e = .returned (.int .i64 (if fit = true then 1 else 3)) ∧ (if fit = true then ∃ R', RS w0 m room most trim ls (cr ++ [x]) now last ever R' w' ∧ RN m (frp m vs vc) w R' w' else Kept (fun _ => False) w w') := by
 have H := Lib.hid h
 have HX := Lib.hid hx
 have hml := h.blk.lt
 obtain ⟨a, cc, hv, hc1, hc2⟩ := h.rowc.slice
 have HV := Lib.hid hv
 clear h hx hc1 hc2 hv
 obtain ⟨n, hn⟩ : ∃ n, cr.length = n := ⟨_, rfl⟩
 have HN := Lib.hid hn
 rw [hn] at hfit hc HV
 clear hn
 have hg : decide (most ≤ (n : Int)) = !fit := by subst hfit; by_cases h : (n : Int) < most <;> simp [h] <;> omega
 clear hfit
 obtain ⟨⟨x1, x2, x3, x4, x5, x6, x7, x8, x9, xd⟩, xa, xc, xq⟩ := x
 dsimp only at hk
 subst hk
 cases fit
 all_goals
  go_enter Tryz.func65, Tryz.ntmps65
  go_upto_region 1 with fail
  have hB := Blk.new w [.int .i64 11, .int .i64 x2, .int .i64 x3, .int .i64 x4, .int .u64 (x5 : Int), .int .i64 x6, .int .i64 x7, .int .i64 x8, .int .i64 x9, .slice xa xd.length xc, .int .i64 xq] tI
  have hk1 := (Kept.refl (fun _ => False) w).alloc (.cells [.int .i64 11, .int .i64 x2, .int .i64 x3, .int .i64 x4, .int .u64 (x5 : Int), .int .i64 x6, .int .i64 x7, .int .i64 x8, .int .i64 x9, .slice xa xd.length xc, .int .i64 xq].toArray tI)
  dsimp only [List.toArray] at hB hk1
  generalize w.alloc (.cells #[.int .i64 11, .int .i64 x2, .int .i64 x3, .int .i64 x4, .int .u64 (x5 : Int), .int .i64 x6, .int .i64 x7, .int .i64 x8, .int .i64 x9, .slice xa xd.length xc, .int .i64 xq] 88) = w1 at *
  obtain ⟨xb, hxb⟩ : ∃ xb, w.heap.size = xb := ⟨_, rfl⟩
  rw [hxb] at hB hml
  simp only [hxb]
  have HXB := Lib.hid hxb
  have HB := Lib.hid hB
  have HK := Lib.hid hk1
  clear hxb hk1
  have c0 := hB.cell (o := 0) rfl
  have hP := HK.out.blk H.out.blk (fun f => f)
  have d1 := hP.cell (o := 1) rfl
  have d11 : w1.cell? ⟨m, 11, none⟩ = some (.slice a n cc) := by rw [← HV.out]; exact hP.cell rfl
  clear hB hP
  go_upto_region 2 with fail
  go_quiet (fail)
 ·go_wp2_with fail
  go_ret
  exact ⟨rfl, HK.out.drewN _⟩
 ·have hkz : Kept (fun _ => False) w1 (w1.drewN nq) := (Kept.refl _ w1).drewN _
  go_upto_region 4 with fail
  generalize w1.drewN nq = wz at *
  have hH := H.out.old (HK.out.trans hkz)
  have q1 : Ro.Row rT wz (.slice a cr.length cc) cr := by have := hH.rowc; rw [HV.out] at this; rwa [HN.out]
  have q2 : wz.cell? ⟨m, 11, none⟩ = some (.slice a cr.length cc) := by have := hH.blk.cell (o := 11) rfl; rw [HV.out] at this; rwa [HN.out]
  have q3 := hH.blk.frozen 11
  have q4 := hH.blk.lt
  have q5 := hkz.blk HB.out (fun f => f)
  have q6 : xb ≠ m := by omega
  have FIN : Hid (∀ (v' : Value) (w' w2 : World), Ro.Row rT w' v' (cr ++ [⟨⟨11, x2, x3, x4, x5, x6, x7, x8, x9, xd⟩, xa, xc, xq⟩]) → Kept (fun i => wz.heap.size ≤ i) wz w' → (∀ g, v'.ownBlock = some g → wz.heap.size ≤ g) → Kept (fun _ => False) (w'.setCell ⟨m, 11, none⟩ v') w2 →
    ∃ R', RS w0 m room most trim ls (cr ++ [⟨⟨11, x2, x3, x4, x5, x6, x7, x8, x9, xd⟩, xa, xc, xq⟩]) now last ever R' w2 ∧ RN m (frp m vs vc) w R' w2) := by
   refine Lib.hid fun v' w' w2 hrow k1 hg' k2 => ?_
   have hmz := hH.blk.lt
   have hsz := HK.out.trans hkz
   have hH1 := hH.kept k1 (fun i e f => by have := hH.bound f; omega) (fun i e => by have := hH.since.size; omega)
   have ks := Kept.one w' m 11 v'
   have hgm : ∀ g, v'.ownBlock = some g → g ≠ m := fun g e e2 => by have := hg' g e; omega
   have hb2 := hH1.blk.set 11 v'
   have hR : Rf w0 m room most trim ls (cr ++ [⟨⟨11, x2, x3, x4, x5, x6, x7, x8, x9, xd⟩, xa, xc, xq⟩]) now last ever vs v' (w'.setCell ⟨m, 11, none⟩ v') := by
    refine ⟨hH1.since.trans' ks (fun i hi e => by have := hH1.low; omega), hb2, fun k hk => (hH1.row k hk).kept ks (fun g hg e2 => row_ne (hH1.row k hk) hH1.blk hg e2), hrow.kept ks (fun g hg e => hgm g hg e), hH1.low, hH1.ok, fun y hy => ?_, hH1.lim⟩
    rcases List.mem_append.1 hy with hy | hy
    ·exact hH1.okc y hy
    ·rw [List.mem_singleton] at hy; subst hy; exact HX.out
   refine ⟨_, ⟨_, _, hR.old k2, rfl⟩, (((hsz.mono (fun _ _ f => f.elim)).trans' k1 (fun i hi e => by have := hsz.size; omega)).trans ks).trans (k2.mono (fun _ _ f => f.elim)), fun i hi => ?_⟩
   rcases hi with e | ⟨k, hk, e⟩ | e
   ·exact Or.inl (Or.inl e)
   ·exact Or.inl (Or.inr (Or.inl ⟨k, hk, e⟩))
   ·exact Or.inr (Nat.le_trans hsz.size (hg' i e))
  have hcl : cr.length ≤ 1000 := by have := HN.out; omega
  clear hH
  refine put4 _ _ _ _ _ _ _ _ _ _ _ _ _ _ _ _ _ _ _ _ _ _ _ _ _ _ _ _ _ _ _ _ _ _ _ _ _ _ _ _ _ _ _ _ _ _ _ _ _ _ _ _ _ _ _ _ _ _ _ q1 q2 q3 hcl q4 q5 q6 ?_
  intros
  rename_i v' w' w2 r1 r2 r3 r4
  have R4 := Lib.hid (FIN.out _ _ _ r1 r2 r3 r4)
  clear r1 r2 r3 r4 q1 q2 q3 q4 q5 q6
  go_wp2_with fail
  go_ret
  exact ⟨rfl, R4.out⟩
end Go.Proofs.YtpogpibjkolioaaGreat.Rf

/- The reference's port: Put of a frame. Conditions: each theorem's own. -/
namespace Go.Proofs.YtpogpibjkolioaaGreat.Rf
open Go.RowKit Hp QuM Rw Qu Po NumM NumC
attribute [local go_sem ↓] Go.wp_at_zero Go.wp_at_succ
variable {w0 w w' : World} {m : Nat} {room most : Int} {trim : Bool} {ls : Nat → List Bx} {cr : List Bx} {now last : Int} {ever : Bool} {vs : Nat → Value} {vc : Value} {R G : Nat → Prop}
def PuP (w0 : World) (m : Nat) (room most : Int) (trim : Bool) (ls : Nat → List Bx) (cr : List Bx) (now last : Int) (ever : Bool) (R : Nat → Prop) (w : World) (x : Bx) (p : Nat) (fit : Bool) (w' : World) : Prop :=
 (fit = true → ∃ R', RS w0 m room most trim (upd ls p (ls p ++ [x])) cr now last ever R' w' ∧ RN m R w R' w') ∧ (fit = false → Kept (fun _ => False) w w')
theorem push_kept {x : Bx} {p : Nat} {fit : Bool} (h : PuP w0 m room most trim ls cr now last ever R w x p fit w') : Kept (fun i => i = m) w w' := by
 cases fit with
 | true => obtain ⟨R', _, h2⟩ := h.1 rfl; exact h2.1
 | false => exact (h.2 rfl).mono (fun _ _ f => f.elim)
theorem rpush_h (h : Rf w0 m room most trim ls cr now last ever vs vc w) {x : Bx} (hx : Rok w0 x) {p : Nat} {P : Int} (hP : P = (p : Nat)) (hp : p < 8) (hc : cnt ls 8 ≤ 900) {fit : Bool} (hfit : fit = decide (tot ls 8 + szI (nb x) ≤ room)) :
  Calls Tryz.prog 87 #[.pointer (some ⟨m, 0, none⟩), .int .i64 P, bv x] w fun e w' => e = .returned (.bool fit) ∧ PuP w0 m room most trim ls cr now last ever (frp m vs vc) w x p fit w' :=
 (rpush_any h hx hP hp hc hfit).mono fun e w' h => ⟨h.1, fun e1 => by have := h.2; rwa [if_pos e1] at this, fun e1 => by have := h.2; rwa [if_neg (by rw [e1]; decide)] at this⟩
theorem rn_in {w1 : World} {R' : Nat → Prop} (k : Kept (fun _ => False) w w1) (h : RN m R w1 R' w') : RN m R w R' w' :=
 ⟨(k.mono (fun _ _ f => f.elim)).trans h.1, fun i hi => (h.2 i hi).imp id (fun e => Nat.le_trans k.size e)⟩
set_option maxRecDepth 100000 in
set_option maxHeartbeats 8000000 in
theorem rput_fit (h : Rf w0 m room most trim ls cr now last ever vs vc w) {x : Bx} (hx : Rok w0 x) (hk : x.f.kind ≠ 11) {p : Nat} (hp : prI x = (p : Nat)) (hc : cnt ls 8 ≤ 900) (hf : tot ls 8 + szI (nb x) ≤ room) :
  Calls Tryz.prog 65 #[.pointer (some ⟨m, 0, none⟩), bv x] w fun e w' => e = .returned (.int .i64 1) ∧ ∃ R', RS w0 m room most trim (upd ls p (ls p ++ [x])) cr now last ever R' w' ∧ RN m (frp m vs vc) w R' w' := by
 have H := Lib.hid h
 have PU := Lib.hid fun (w' : World) (k : Kept (fun _ => False) w w') => rpush_h (h.old k) hx (p := p) (P := ((p : Nat) : Int)) rfl (by have := prI_bd x; omega) hc (fit := true) (by first | rw [decide_eq_true hf] | rw [decide_eq_false hf])
 have CLI := Lib.hid fun (w' : World) => clampRef_any x.f.prio 0 7 w'
 change Hid (∀ w', Calls _ _ _ w' fun e w'' => e = .returned (.int .i64 (prI x)) ∧ w' = w'') at CLI
 rw [hp] at CLI
 have hml := h.blk.lt
 have hx1 : (x.f.kind == 11) = false := by rw [beq_eq_false_iff_ne]; exact hk
 clear hp
 obtain ⟨⟨x1, x2, x3, x4, x5, x6, x7, x8, x9, xd⟩, xa, xc, xq⟩ := x
 dsimp only at hx1 CLI
 clear h hx hk hc hf
 go_enter Tryz.func65, Tryz.ntmps65
 go_upto_region 1 with fail
 have hB := Blk.new w [.int .i64 x1, .int .i64 x2, .int .i64 x3, .int .i64 x4, .int .u64 (x5 : Int), .int .i64 x6, .int .i64 x7, .int .i64 x8, .int .i64 x9, .slice xa xd.length xc, .int .i64 xq] tI
 have hk1 := (Kept.refl (fun _ => False) w).alloc (.cells [.int .i64 x1, .int .i64 x2, .int .i64 x3, .int .i64 x4, .int .u64 (x5 : Int), .int .i64 x6, .int .i64 x7, .int .i64 x8, .int .i64 x9, .slice xa xd.length xc, .int .i64 xq].toArray tI)
 dsimp only [List.toArray] at hB hk1
 generalize w.alloc (.cells #[.int .i64 x1, .int .i64 x2, .int .i64 x3, .int .i64 x4, .int .u64 (x5 : Int), .int .i64 x6, .int .i64 x7, .int .i64 x8, .int .i64 x9, .slice xa xd.length xc, .int .i64 xq] 88) = w1 at *
 obtain ⟨xb, hxb⟩ : ∃ xb, w.heap.size = xb := ⟨_, rfl⟩
 rw [hxb] at hB hml
 simp only [hxb]
 have HXB := Lib.hid hxb
 have HB := Lib.hid hB
 have HK := Lib.hid hk1
 clear hxb hk1
 have c0 := hB.cell (o := 0) rfl
 clear hB
 go_upto_region 6 with fail
 have KS : Hid (∀ w', Kept (fun i => i = m) w1 w' → w'.cell? ⟨xb, 0, none⟩ = some (.int .i64 x1) ∧ w'.cell? ⟨xb, 1, none⟩ = some (.int .i64 x2) ∧ w'.cell? ⟨xb, 2, none⟩ = some (.int .i64 x3) ∧ w'.cell? ⟨xb, 3, none⟩ = some (.int .i64 x4) ∧ w'.cell? ⟨xb, 4, none⟩ = some (.int .u64 (x5 : Int)) ∧ w'.cell? ⟨xb, 5, none⟩ = some (.int .i64 x6) ∧ w'.cell? ⟨xb, 6, none⟩ = some (.int .i64 x7) ∧ w'.cell? ⟨xb, 7, none⟩ = some (.int .i64 x8) ∧ w'.cell? ⟨xb, 8, none⟩ = some (.int .i64 x9) ∧ w'.cell? ⟨xb, 9, none⟩ = some (.slice xa xd.length xc) ∧ w'.cell? ⟨xb, 10, none⟩ = some (.int .i64 xq)) := by
  refine Lib.hid fun w' k => ?_
  have h2 := k.blk HB.out (by omega)
  exact ⟨h2.cell rfl, h2.cell rfl, h2.cell rfl, h2.cell rfl, h2.cell rfl, h2.cell rfl, h2.cell rfl, h2.cell rfl, h2.cell rfl, h2.cell rfl, h2.cell rfl⟩
 clear c0
 go_region_held3 (fun w' => w'.cell? ⟨xb, 0, none⟩ = some (.int .i64 x1) ∧ w'.cell? ⟨xb, 1, none⟩ = some (.int .i64 x2) ∧ w'.cell? ⟨xb, 2, none⟩ = some (.int .i64 x3) ∧ w'.cell? ⟨xb, 3, none⟩ = some (.int .i64 x4) ∧ w'.cell? ⟨xb, 4, none⟩ = some (.int .u64 (x5 : Int)) ∧ w'.cell? ⟨xb, 5, none⟩ = some (.int .i64 x6) ∧ w'.cell? ⟨xb, 6, none⟩ = some (.int .i64 x7) ∧ w'.cell? ⟨xb, 7, none⟩ = some (.int .i64 x8) ∧ w'.cell? ⟨xb, 8, none⟩ = some (.int .i64 x9) ∧ w'.cell? ⟨xb, 9, none⟩ = some (.slice xa xd.length xc) ∧ w'.cell? ⟨xb, 10, none⟩ = some (.int .i64 xq))
  (first | exact KS.out _ (Kept.refl _ _) | exact KS.out _ (Kept.refl _ _).drew | exact KS.out _ (by assumption) | exact KS.out _ (Kept.drew (by assumption)))
  (first
   | (go_at_call 88; refine (CLI.out _).mono ?_; rintro e w' ⟨rfl, rfl⟩)
   | (go_at_call 87; (with_reducible refine Calls.mono (PU.out _ (HK.out.trans (by first | exact Kept.refl _ _ | exact (Kept.refl _ _).drew))) ?_); rintro e wp ⟨rfl, hpu⟩; have hkp : Kept (fun i => i = m) w1 wp := (by first | exact ((Kept.refl _ w1).drew).trans (push_kept hpu) | exact push_kept hpu)))
 all_goals
  have RR : Hid (∃ R', RS w0 m room most trim (upd ls p (ls p ++ [⟨⟨x1, x2, x3, x4, x5, x6, x7, x8, x9, xd⟩, xa, xc, xq⟩])) cr now last ever R' wp ∧ RN m (frp m vs vc) w R' wp) := by
   obtain ⟨R', r1, r2⟩ := hpu.1 rfl
   first | exact Lib.hid ⟨R', r1, rn_in HK.out r2⟩ | exact Lib.hid ⟨R', r1, rn_in HK.out.drew r2⟩
  clear hpu hkp PU KS
  go_wp2_with fail
  go_ret
  obtain ⟨R', r1, r2⟩ := RR.out
  first | exact ⟨rfl, R', r1, r2⟩ | exact ⟨rfl, R', r1.old (Kept.refl _ wp).drew, r2.1.drew, r2.2⟩
set_option maxRecDepth 100000 in
set_option maxHeartbeats 8000000 in
theorem rput_drop (h : Rf w0 m room most trim ls cr now last ever vs vc w) {x : Bx} (hx : Rok w0 x) (hk : x.f.kind ≠ 11) {p : Nat} (hp : prI x = (p : Nat)) (hc : cnt ls 8 ≤ 900) (hf : ¬ tot ls 8 + szI (nb x) ≤ room) (ht : trim = false ∨ x.f.kind ≠ 1) :
  Calls Tryz.prog 65 #[.pointer (some ⟨m, 0, none⟩), bv x] w fun e w' => e = .returned (.int .i64 3) ∧ Kept (fun _ => False) w w' := by
 have ht2 : trim = false ∨ (trim = true ∧ (x.f.kind != 1) = true) := by
  rcases ht with h9 | h9
  ·exact Or.inl h9
  ·have h8 : (x.f.kind != 1) = true := by rw [bne_iff_ne]; exact h9
   cases trim
   ·exact Or.inl rfl
   ·exact Or.inr ⟨rfl, h8⟩
 clear ht
 have H := Lib.hid h
 have PU := Lib.hid fun (w' : World) (k : Kept (fun _ => False) w w') => rpush_h (h.old k) hx (p := p) (P := ((p : Nat) : Int)) rfl (by have := prI_bd x; omega) hc (fit := false) (by first | rw [decide_eq_true hf] | rw [decide_eq_false hf])
 have CLI := Lib.hid fun (w' : World) => clampRef_any x.f.prio 0 7 w'
 change Hid (∀ w', Calls _ _ _ w' fun e w'' => e = .returned (.int .i64 (prI x)) ∧ w' = w'') at CLI
 rw [hp] at CLI
 have hml := h.blk.lt
 have hx1 : (x.f.kind == 11) = false := by rw [beq_eq_false_iff_ne]; exact hk
 clear hp
 obtain ⟨⟨x1, x2, x3, x4, x5, x6, x7, x8, x9, xd⟩, xa, xc, xq⟩ := x
 dsimp only at hx1 CLI ht2
 clear h hx hk hc hf
 go_enter Tryz.func65, Tryz.ntmps65
 go_upto_region 1 with fail
 have hB := Blk.new w [.int .i64 x1, .int .i64 x2, .int .i64 x3, .int .i64 x4, .int .u64 (x5 : Int), .int .i64 x6, .int .i64 x7, .int .i64 x8, .int .i64 x9, .slice xa xd.length xc, .int .i64 xq] tI
 have hk1 := (Kept.refl (fun _ => False) w).alloc (.cells [.int .i64 x1, .int .i64 x2, .int .i64 x3, .int .i64 x4, .int .u64 (x5 : Int), .int .i64 x6, .int .i64 x7, .int .i64 x8, .int .i64 x9, .slice xa xd.length xc, .int .i64 xq].toArray tI)
 dsimp only [List.toArray] at hB hk1
 generalize w.alloc (.cells #[.int .i64 x1, .int .i64 x2, .int .i64 x3, .int .i64 x4, .int .u64 (x5 : Int), .int .i64 x6, .int .i64 x7, .int .i64 x8, .int .i64 x9, .slice xa xd.length xc, .int .i64 xq] 88) = w1 at *
 obtain ⟨xb, hxb⟩ : ∃ xb, w.heap.size = xb := ⟨_, rfl⟩
 rw [hxb] at hB hml
 simp only [hxb]
 have HXB := Lib.hid hxb
 have HB := Lib.hid hB
 have HK := Lib.hid hk1
 clear hxb hk1
 have c0 := hB.cell (o := 0) rfl
 clear hB
 go_upto_region 6 with fail
 have KS : Hid (∀ w', Kept (fun i => i = m) w1 w' → w'.cell? ⟨xb, 0, none⟩ = some (.int .i64 x1) ∧ w'.cell? ⟨xb, 1, none⟩ = some (.int .i64 x2) ∧ w'.cell? ⟨xb, 2, none⟩ = some (.int .i64 x3) ∧ w'.cell? ⟨xb, 3, none⟩ = some (.int .i64 x4) ∧ w'.cell? ⟨xb, 4, none⟩ = some (.int .u64 (x5 : Int)) ∧ w'.cell? ⟨xb, 5, none⟩ = some (.int .i64 x6) ∧ w'.cell? ⟨xb, 6, none⟩ = some (.int .i64 x7) ∧ w'.cell? ⟨xb, 7, none⟩ = some (.int .i64 x8) ∧ w'.cell? ⟨xb, 8, none⟩ = some (.int .i64 x9) ∧ w'.cell? ⟨xb, 9, none⟩ = some (.slice xa xd.length xc) ∧ w'.cell? ⟨xb, 10, none⟩ = some (.int .i64 xq)) := by
  refine Lib.hid fun w' k => ?_
  have h2 := k.blk HB.out (by omega)
  exact ⟨h2.cell rfl, h2.cell rfl, h2.cell rfl, h2.cell rfl, h2.cell rfl, h2.cell rfl, h2.cell rfl, h2.cell rfl, h2.cell rfl, h2.cell rfl, h2.cell rfl⟩
 clear c0
 go_region_held3 (fun w' => w'.cell? ⟨xb, 0, none⟩ = some (.int .i64 x1) ∧ w'.cell? ⟨xb, 1, none⟩ = some (.int .i64 x2) ∧ w'.cell? ⟨xb, 2, none⟩ = some (.int .i64 x3) ∧ w'.cell? ⟨xb, 3, none⟩ = some (.int .i64 x4) ∧ w'.cell? ⟨xb, 4, none⟩ = some (.int .u64 (x5 : Int)) ∧ w'.cell? ⟨xb, 5, none⟩ = some (.int .i64 x6) ∧ w'.cell? ⟨xb, 6, none⟩ = some (.int .i64 x7) ∧ w'.cell? ⟨xb, 7, none⟩ = some (.int .i64 x8) ∧ w'.cell? ⟨xb, 8, none⟩ = some (.int .i64 x9) ∧ w'.cell? ⟨xb, 9, none⟩ = some (.slice xa xd.length xc) ∧ w'.cell? ⟨xb, 10, none⟩ = some (.int .i64 xq))
  (first | exact KS.out _ (Kept.refl _ _) | exact KS.out _ (Kept.refl _ _).drew | exact KS.out _ (by assumption) | exact KS.out _ (Kept.drew (by assumption)))
  (first
   | (go_at_call 88; refine (CLI.out _).mono ?_; rintro e w' ⟨rfl, rfl⟩)
   | (go_at_call 87; (with_reducible refine Calls.mono (PU.out _ (HK.out.trans (by first | exact Kept.refl _ _ | exact (Kept.refl _ _).drew))) ?_); rintro e wp ⟨rfl, hpu⟩; have hkp : Kept (fun i => i = m) w1 wp := (by first | exact ((Kept.refl _ w1).drew).trans (push_kept hpu) | exact push_kept hpu)))
 all_goals
  have HKP : Hid (Kept (fun _ => False) w wp) := by first | exact Lib.hid (HK.out.trans (hpu.2 rfl)) | exact Lib.hid (HK.out.drew.trans (hpu.2 rfl))
  have hB := HKP.out.blk H.out.blk (fun f => f)
  have t2 := hB.cell (o := 2) rfl
  have t2' := hB.drew.cell (o := 2) rfl
  have hX := hkp.blk HB.out (by omega)
  have c0 := hX.cell (o := 0) rfl
  have c0' := hX.drew.cell (o := 0) rfl
  clear hpu hkp PU KS hB hX
  rcases ht2 with rfl | ⟨rfl, hk9⟩
  all_goals
   go_wp2_with fail
   go_ret
   first | exact ⟨rfl, HKP.out⟩ | exact ⟨rfl, HKP.out.drew⟩
set_option maxRecDepth 100000 in
set_option maxHeartbeats 8000000 in
theorem rput_trim (h : Rf w0 m room most true ls cr now last ever vs vc w) {x : Bx} (hx : Rok w0 x) (hk1 : x.f.kind = 1) {p : Nat} (hp : prI x = (p : Nat)) (hc : cnt ls 8 ≤ 900) (hf : ¬ tot ls 8 + szI (nb x) ≤ room) {fit : Bool} (hfit : fit = decide (tot ls 8 + 26 ≤ room)) :
  Calls Tryz.prog 65 #[.pointer (some ⟨m, 0, none⟩), bv x] w fun e w' => e = .returned (.int .i64 (if fit = true then 2 else 3)) ∧ (if fit = true then ∃ R', RS w0 m room most true (upd ls 7 (ls 7 ++ [trX x])) cr now last ever R' w' ∧ RN m (frp m vs vc) w R' w' else Kept (fun _ => False) w w') := by
 have hk : x.f.kind ≠ 11 := by rw [hk1]; decide
 have hxt : Rok w0 (trX x) := ⟨hx.1, hx.2.1, rd_tr w0 x⟩
 have PT := Lib.hid fun (w' : World) (k : Kept (fun _ => False) w w') => rpush_h (h.old k) hxt (p := 7) (P := 7) rfl (by decide) hc (fit := fit) (by rw [nb_tr]; exact hfit)
 have TR := Lib.hid fun (w' : World) => rtrim_any x w'
 clear hfit hxt
 have H := Lib.hid h
 have PU := Lib.hid fun (w' : World) (k : Kept (fun _ => False) w w') => rpush_h (h.old k) hx (p := p) (P := ((p : Nat) : Int)) rfl (by have := prI_bd x; omega) hc (fit := false) (by first | rw [decide_eq_true hf] | rw [decide_eq_false hf])
 have CLI := Lib.hid fun (w' : World) => clampRef_any x.f.prio 0 7 w'
 change Hid (∀ w', Calls _ _ _ w' fun e w'' => e = .returned (.int .i64 (prI x)) ∧ w' = w'') at CLI
 rw [hp] at CLI
 have hml := h.blk.lt
 have hx1 : (x.f.kind == 11) = false := by rw [beq_eq_false_iff_ne]; exact hk
 clear hp
 obtain ⟨⟨x1, x2, x3, x4, x5, x6, x7, x8, x9, xd⟩, xa, xc, xq⟩ := x
 unfold trX at PT
 unfold Wr.fv Wr.fcs at TR
 dsimp only [List.length_nil] at TR PT
 dsimp only at hx1 CLI hk1
 subst hk1
 clear h hx hk hc hf
 go_enter Tryz.func65, Tryz.ntmps65
 go_upto_region 1 with fail
 have hB := Blk.new w [.int .i64 1, .int .i64 x2, .int .i64 x3, .int .i64 x4, .int .u64 (x5 : Int), .int .i64 x6, .int .i64 x7, .int .i64 x8, .int .i64 x9, .slice xa xd.length xc, .int .i64 xq] tI
 have hk1 := (Kept.refl (fun _ => False) w).alloc (.cells [.int .i64 1, .int .i64 x2, .int .i64 x3, .int .i64 x4, .int .u64 (x5 : Int), .int .i64 x6, .int .i64 x7, .int .i64 x8, .int .i64 x9, .slice xa xd.length xc, .int .i64 xq].toArray tI)
 dsimp only [List.toArray] at hB hk1
 generalize w.alloc (.cells #[.int .i64 1, .int .i64 x2, .int .i64 x3, .int .i64 x4, .int .u64 (x5 : Int), .int .i64 x6, .int .i64 x7, .int .i64 x8, .int .i64 x9, .slice xa xd.length xc, .int .i64 xq] 88) = w1 at *
 obtain ⟨xb, hxb⟩ : ∃ xb, w.heap.size = xb := ⟨_, rfl⟩
 rw [hxb] at hB hml
 simp only [hxb]
 have HXB := Lib.hid hxb
 have HB := Lib.hid hB
 have HK := Lib.hid hk1
 clear hxb hk1
 have c0 := hB.cell (o := 0) rfl
 clear hB
 go_upto_region 6 with fail
 have KS : Hid (∀ w', Kept (fun i => i = m) w1 w' → w'.cell? ⟨xb, 0, none⟩ = some (.int .i64 1) ∧ w'.cell? ⟨xb, 1, none⟩ = some (.int .i64 x2) ∧ w'.cell? ⟨xb, 2, none⟩ = some (.int .i64 x3) ∧ w'.cell? ⟨xb, 3, none⟩ = some (.int .i64 x4) ∧ w'.cell? ⟨xb, 4, none⟩ = some (.int .u64 (x5 : Int)) ∧ w'.cell? ⟨xb, 5, none⟩ = some (.int .i64 x6) ∧ w'.cell? ⟨xb, 6, none⟩ = some (.int .i64 x7) ∧ w'.cell? ⟨xb, 7, none⟩ = some (.int .i64 x8) ∧ w'.cell? ⟨xb, 8, none⟩ = some (.int .i64 x9) ∧ w'.cell? ⟨xb, 9, none⟩ = some (.slice xa xd.length xc) ∧ w'.cell? ⟨xb, 10, none⟩ = some (.int .i64 xq)) := by
  refine Lib.hid fun w' k => ?_
  have h2 := k.blk HB.out (by omega)
  exact ⟨h2.cell rfl, h2.cell rfl, h2.cell rfl, h2.cell rfl, h2.cell rfl, h2.cell rfl, h2.cell rfl, h2.cell rfl, h2.cell rfl, h2.cell rfl, h2.cell rfl⟩
 clear c0
 go_region_held3 (fun w' => w'.cell? ⟨xb, 0, none⟩ = some (.int .i64 1) ∧ w'.cell? ⟨xb, 1, none⟩ = some (.int .i64 x2) ∧ w'.cell? ⟨xb, 2, none⟩ = some (.int .i64 x3) ∧ w'.cell? ⟨xb, 3, none⟩ = some (.int .i64 x4) ∧ w'.cell? ⟨xb, 4, none⟩ = some (.int .u64 (x5 : Int)) ∧ w'.cell? ⟨xb, 5, none⟩ = some (.int .i64 x6) ∧ w'.cell? ⟨xb, 6, none⟩ = some (.int .i64 x7) ∧ w'.cell? ⟨xb, 7, none⟩ = some (.int .i64 x8) ∧ w'.cell? ⟨xb, 8, none⟩ = some (.int .i64 x9) ∧ w'.cell? ⟨xb, 9, none⟩ = some (.slice xa xd.length xc) ∧ w'.cell? ⟨xb, 10, none⟩ = some (.int .i64 xq))
  (first | exact KS.out _ (Kept.refl _ _) | exact KS.out _ (Kept.refl _ _).drew | exact KS.out _ (by assumption) | exact KS.out _ (Kept.drew (by assumption)))
  (first
   | (go_at_call 88; refine (CLI.out _).mono ?_; rintro e w' ⟨rfl, rfl⟩)
   | (go_at_call 87; (with_reducible refine Calls.mono (PU.out _ (HK.out.trans (by first | exact Kept.refl _ _ | exact (Kept.refl _ _).drew))) ?_); rintro e wp ⟨rfl, hpu⟩; have hkp : Kept (fun i => i = m) w1 wp := (by first | exact ((Kept.refl _ w1).drew).trans (push_kept hpu) | exact push_kept hpu)))
 all_goals
  have HKP : Hid (Kept (fun _ => False) w wp) := by first | exact Lib.hid (HK.out.trans (hpu.2 rfl)) | exact Lib.hid (HK.out.drew.trans (hpu.2 rfl))
  have hB := HKP.out.blk H.out.blk (fun f => f)
  have t2 := hB.cell (o := 2) rfl
  have t2' := hB.drew.cell (o := 2) rfl
  have hX := hkp.blk HB.out (by omega)
  have HX := Lib.hid hX
  obtain ⟨c0, c1, c2, c3, c4, c5, c6, c7, c8, c9, c10⟩ := cs11 hX
  have hX' := hX.drew
  obtain ⟨cd0, cd1, cd2, cd3, cd4, cd5, cd6, cd7, cd8, cd9, cd10⟩ := cs11 hX'
  clear hpu hkp PU KS hB hX hX'
  go_wp2_with fail
  with_reducible refine Calls.mono (TR.out _) ?_
  rintro e w4 ⟨rfl, hk4⟩
  have HK4 : Hid (Kept (fun _ => False) w w4) := by first | exact Lib.hid (HKP.out.trans hk4) | exact Lib.hid (HKP.out.drew.trans hk4)
  have hX4 := hk4.blk (b := xb) HX.out (fun f => f)
  clear hk4 HKP HX TR t2 t2' c0 c1 c2 c3 c4 c5 c6 c7 c8 c9 c10 cd0 cd1 cd2 cd3 cd4 cd5 cd6 cd7 cd8 cd9 cd10
  go_upto_region 11 with fail
  have hF := Blk.new w4 [.int .i64 7, .int .i64 x2, .int .i64 x3, .int .i64 0, .int .u64 (x5 : Int), .int .i64 x6, .int .i64 x7, .int .i64 x8, .int .i64 x9, .slice none 0 0] 35
  have hk5 := (Kept.refl (fun _ => False) w4).alloc (.cells [.int .i64 7, .int .i64 x2, .int .i64 x3, .int .i64 0, .int .u64 (x5 : Int), .int .i64 x6, .int .i64 x7, .int .i64 x8, .int .i64 x9, .slice none 0 0].toArray 35)
  dsimp only [List.toArray] at hF hk5
  have hX5 := hk5.blk hX4 (fun f => f)
  have HK5 := Lib.hid (HK4.out.trans hk5)
  have hwb : w.heap.size ≤ w4.heap.size := HK4.out.size
  have hxw : xb < w4.heap.size := hX4.lt
  generalize w4.alloc (.cells #[.int .i64 7, .int .i64 x2, .int .i64 x3, .int .i64 0, .int .u64 (x5 : Int), .int .i64 x6, .int .i64 x7, .int .i64 x8, .int .i64 x9, .slice none 0 0] 35) = w5 at *
  obtain ⟨fb, hfb⟩ : ∃ fb, w4.heap.size = fb := ⟨_, rfl⟩
  rw [hfb] at hF hwb hxw
  simp only [hfb]
  clear hfb hk5 hX4 HK4
  have e3 := hF.cell (o := 3) rfl
  have f3 := hF.frozen 3
  have hF6 := hF.set 3 (.int .i64 7)
  dsimp only [List.set] at hF6
  have k6 := Kept.one w5 fb 3 (.int .i64 7)
  have hX6 := k6.blk hX5 (by omega)
  have HK6 : Hid (Kept (fun _ => False) w (w5.setCell ⟨fb, 3, none⟩ (.int .i64 7))) := Lib.hid (HK5.out.trans' k6 (fun i hi e => by omega))
  clear hX5 hF k6 HK5
  go_upto_region 12 with fail
  generalize w5.setCell ⟨fb, 3, none⟩ (.int .i64 7) = w6 at *
  obtain ⟨g0, g1, g2, g3, g4, g5, g6, g7, g8, g9⟩ := cs10 hF6
  have c10 := hX6.cell (o := 10) rfl
  clear e3 f3 hF6 hX6
  go_wp2_with fail
  with_reducible refine Calls.mono (PT.out _ HK6.out) ?_
  rintro e w7 ⟨rfl, h7⟩
  have H7 := h7
  clear h7 PT g0 g1 g2 g3 g4 g5 g6 g7 g8 g9 c10
  cases fit
  ·have HK7 : Hid (Kept (fun _ => False) w w7) := Lib.hid (HK6.out.trans (H7.2 rfl))
   go_wp2_with fail
   go_ret
   exact ⟨rfl, HK7.out⟩
  ·have RR : Hid (∃ R', RS w0 m room most true (upd ls 7 (ls 7 ++ [⟨⟨7, x2, x3, 7, x5, x6, x7, x8, x9, []⟩, none, 0, xq⟩])) cr now last ever R' w7 ∧ RN m (frp m vs vc) w R' w7) := by
    obtain ⟨R', r1, r2⟩ := H7.1 rfl
    exact Lib.hid ⟨R', r1, rn_in HK6.out r2⟩
   go_wp2_with fail
   go_ret
   exact ⟨rfl, RR.out⟩
end Go.Proofs.YtpogpibjkolioaaGreat.Rf

