/- FabricPlays: what both show. Conditions: each theorem's own. -/
import Derived.Test.YtpogpibjkolioaaGreatFpK37
import Derived.Test.YtpogpibjkolioaaGreatFpK28
import Derived.Deep.RegionHeld3
import Derived.Test.YtpogpibjkolioaaGreatFpK1
import Derived.Test.YtpogpibjkolioaaGreatFpK12
import Derived.Test.YtpogpibjkolioaaGreatFpK5
import Derived.Test.YtpogpibjkolioaaGreatFpK20
set_option linter.unusedVariables false
set_option linter.unusedSimpArgs false
namespace Go.Proofs.YtpogpibjkolioaaGreat.Fc
open Go.RowKit Hp QuM QuN Rw Qu Po Fo NumM NumC FbM TpM Tp Go.Proofs.YtpogpibjkolioaaGreat.Fb Rf
attribute [local go_sem ↓] Go.wp_at_zero Go.wp_at_succ
variable {w0 w w' w'' : World} {K : Cf} {M N N' : Mo} {X X' : Nat → Prop} {a : Ar} {fb mb : Nat} {b c : Int}
theorem sm_ky {g : Bx → Int} (hg : ∀ x y, ky x = ky y → g x = g y) : ∀ {A B : List Bx}, A.map ky = B.map ky → sm g A = sm g B
 | [], [], _ => rfl
 | [], y :: B, h => by simp at h
 | x :: A, [], h => by simp at h
 | x :: A, y :: B, h => by
  rw [List.map_cons, List.map_cons] at h
  injection h with h1 h2
  show g x + sm g A = g y + sm g B
  rw [hg x y h1, sm_ky hg h2]
theorem Wt_ky {g : Bx → Int} (hg : ∀ x y, ky x = ky y → g x = g y) {P Q : Nat → Pt} {n : Nat} (h : ∀ p, p < n → (accL (P p).ls (P p).cr 9).map ky = (accL (Q p).ls (Q p).cr 9).map ky) : ∀ i, i ≤ n → Wt g P i = Wt g Q i
 | 0, _ => rfl
 | i + 1, hi => by
  show Wt g P i + wt g (P i) = Wt g Q i + wt g (Q i)
  rw [Wt_ky hg h i (by omega), ← sm_acc g (P i), ← sm_acc g (Q i), sm_ky hg (h i (by omega))]
theorem li_len {I J : Nat → List Bx} (h : ∀ j, (I j).length = (J j).length) : ∀ n, li I n = li J n
 | 0 => rfl
 | n + 1 => by
  show li I n + ((I n).length : Int) = li J n + ((J n).length : Int)
  rw [li_len h n, h n]
theorem am_ones (am : Am K M N) : Wt (fun _ => 1) M.P K.n = Wt (fun _ => 1) N.P K.n := Wt_ky (fun _ _ _ => rfl) (fun p hp => Am.acc am hp) _ (Nat.le_refl _)
theorem am_bytes (am : Am K M N) (J : Int) : Wt (gB J) M.P K.n = Wt (gB J) N.P K.n := Wt_ky (fun x y e => by unfold gB; rw [ky_f e]) (fun p hp => Am.acc am hp) _ (Nat.le_refl _)
theorem zero_none {M : Mo} : Wt (fun _ => 1) M.P K.n + li M.I K.hn = 0 ↔ None_ K M := by
 have h1 : 0 ≤ Wt (fun _ => 1) M.P K.n := Wt_nonneg fun p hp x hx => by decide
 have h2 := li_nonneg M.I K.hn
 constructor
 ·intro h
  refine ⟨fun p hp => ?_, fun j hj => ?_⟩
  ·have := wt_le_Wt (g := fun _ => 1) (M := M.P) (p := p) (n := K.n) hp fun q hq x hx => by decide
   rw [wt_one] at this
   exact List.length_eq_zero_iff.1 (by omega)
  ·have := le_li (I := M.I) hj
   exact List.length_eq_zero_iff.1 (by omega)
 ·rintro ⟨g1, g2⟩
  have a1 : ∀ i, i ≤ K.n → Wt (fun _ => 1) M.P i = 0 := by
   intro i
   induction i with
   | zero => intro _; rfl
   | succ i ih =>
    intro hi
    show Wt (fun _ => 1) M.P i + wt (fun _ => 1) (M.P i) = 0
    rw [ih (by omega), wt_one, g1 i (by omega)]; rfl
  have a2 : ∀ i, i ≤ K.hn → li M.I i = 0 := by
   intro i
   induction i with
   | zero => intro _; rfl
   | succ i ih =>
    intro hi
    show li M.I i + ((M.I i).length : Int) = 0
    rw [ih (by omega), g2 i (by omega)]; rfl
  rw [a1 _ (Nat.le_refl _), a2 _ (Nat.le_refl _)]; rfl
theorem fv_same {f : WrM.Frm} {s1 s2 : Option Addr} {c1 c2 : Nat} {q1 q2 : Int} {w : World} (h1 : Rd w ⟨f, s1, c1, q1⟩) (h2 : Rd w ⟨f, s2, c2, q2⟩) :
  Calls Tryz.prog 14 #[fv ⟨f, s1, c1, q1⟩, fv ⟨f, s2, c2, q2⟩] w fun e w' => e = .returned (.bool true) ∧ Kept (fun _ => False) w w' := by
 obtain ⟨x1, x2, x3, x4, x5, x6, x7, x8, x9, xd⟩ := f
 exact rsame_yes h1.1 h2.1
theorem row_fr {w : World} {base : Nat} {v : Value} {l : List Bx} (h : Rw.Row fT w base v l) {i : Nat} {x : Bx} (hi : l[i]? = some x) : ∃ g cap cur, v = .slice (some ⟨g, 0, none⟩) l.length cap ∧ Rw.Lies fT w g cap cur l := by
 rcases h.form with ⟨_, e⟩ | ⟨g, cap, cur, e, h1, h2⟩
 ·subst e; simp at hi
 ·exact ⟨g, cap, cur, e, h2⟩
theorem ro_fr {w : World} {v : Value} {l : List Bx} (h : Ro.Row fT w v l) {i : Nat} {x : Bx} (hi : l[i]? = some x) : ∃ g o cap cur, v = .slice (some ⟨g, o, none⟩) l.length cap ∧ Ro.Lies fT w g o cap cur l := by
 rcases h with ⟨e, h⟩ | ⟨g, o, cap, cur, e, h2⟩
 ·subst h; simp at hi
 ·exact ⟨g, o, cap, cur, e, h2⟩
set_option maxRecDepth 100000 in
set_option maxHeartbeats 16000000 in
theorem shows_any {E : Nat → Prop} (h : Bo w0 K b fb mb E w) (hb : b ≤ 500) : Calls Tryz.prog 19 #[ptr fb, ptr mb] w fun e w' => e = .returned (.bool true) ∧ Kept (fun _ => False) w w' := by
 obtain ⟨M, N, X, c, h0, h1, ⟨a, rfl, h2⟩, hE, h3⟩ := h
 obtain ⟨mb, hmb⟩ : ∃ mb, a.mb = mb := ⟨_, rfl⟩
 rw [hmb]
 have hc5 : c ≤ 500 := by omega
 have HRB : Hid (∀ w', Kept (fun _ => False) w w' → RB w0 K N X mb w') := Lib.hid fun w' k => ⟨a, hmb, h2.old k⟩
 have HB := Lib.hid h2
 have HF := Lib.hid h1
 have HA := Lib.hid h3
 have HMB := Lib.hid hmb
 obtain ⟨W, hW⟩ : ∃ W, Wt (fun _ => 1) N.P K.n + li N.I K.hn = W := ⟨_, rfl⟩
 obtain ⟨b0, hb0⟩ : ∃ b0, (W == 0) = b0 := ⟨_, rfl⟩
 obtain ⟨n, hn'⟩ : ∃ n, K.n = n := ⟨_, rfl⟩
 obtain ⟨hn, hhn⟩ : ∃ hn, K.hn = hn := ⟨_, rfl⟩
 obtain ⟨L, hL⟩ : ∃ L, N.L = L := ⟨_, rfl⟩
 have HN := Lib.hid hn'
 have HHN := Lib.hid hhn
 have hnn := h1.iv.ok.le
 rw [hn', hhn] at hnn
 have C1 := Lib.hid fun (w' : World) (k : Kept (fun _ => False) w w') => (show Calls Tryz.prog 24 #[ptr fb] w' fun e w2 => e = .returned (.int .i64 (n : Nat)) ∧ w' = w2 from by rw [← hn']; exact fv_ports (h1.old k).fv)
 have C2 := Lib.hid fun (w' : World) (k : Kept (fun _ => False) w w') => (show Calls Tryz.prog 49 #[ptr fb] w' fun e w2 => e = .returned (.int .i64 L) ∧ w' = w2 from by rw [← hL, ← h3.l]; exact fv_lost (h1.old k).fv)
 have C3 := Lib.hid fun (w' : World) (k : Kept (fun _ => False) w w') => (show Calls Tryz.prog 23 #[ptr fb] w' fun e w2 => e = .returned (.bool b0) ∧ Kept (fun _ => False) w w2 from by
  refine (fv_empty (h1.old k).fv (by omega)).mono ?_
  rintro e w2 ⟨r, rfl, hr, k2⟩
  refine ⟨?_, k.trans k2⟩
  have hz := zero_none (K := K) (M := M)
  rw [am_ones h3, li_len (fun j => Am.len h3 j), hW] at hz
  have e9 : r = b0 := by
   rw [← hb0, Bool.eq_iff_iff, hr, ← hz, beq_iff_eq]
  rw [e9])
 have C4 := Lib.hid fun (w' : World) (k : Kept (fun _ => False) w w') => (show Calls Tryz.prog 50 #[ptr mb] w' fun e w2 => e = .returned (.int .i64 W) ∧ Kept (fun _ => False) w w2 from by
  rw [← hW]
  exact (rb_waits (HRB.out w' k) (n_acc h1.iv h3 (by omega)) (fun j hj => by have := in_c h1.iv hj; rw [Am.len h3 j] at this; omega)).mono fun _ _ ⟨e1, e2⟩ => ⟨e1, k.trans e2⟩)
 have hH : K.H = (hn : Int) := by rw [← hhn]; exact h1.iv.ok.hn.symm
 have CB : Hid (∀ w', Kept (fun _ => False) w w' → w'.cell? ⟨mb, 0, none⟩ = some (ptr a.nb) ∧ w'.cell? ⟨mb, 1, none⟩ = some (.slice (some ⟨a.pb, 0, none⟩) n a.cp) ∧ w'.cell? ⟨mb, 2, none⟩ = some (.slice (some ⟨a.ib, 0, none⟩) hn hn) ∧ w'.cell? ⟨mb, 3, none⟩ = some (.int .i64 L) ∧ w'.cell? ⟨a.nb, 0, none⟩ = some (.int .i64 (hn : Nat))) := Lib.hid fun w' k => by
  have g1 := (h2.old k).blk
  have g2 := (h2.old k).mv
  rw [hmb, hn', hhn, hL] at g1
  rw [hH] at g2
  exact ⟨g1.cell rfl, g1.cell rfl, g1.cell rfl, g1.cell rfl, g2.cell rfl⟩
 clear h1 h2 h3 h0 hE hmb hW hn' hhn hL hH
 go_enter Tryz.func19, Tryz.ntmps19
 go_upto_region 1 with fail
 have KS : Hid (∀ w', Kept (fun _ => False) w w' → w'.cell? ⟨mb, 1, none⟩ = some (.slice (some ⟨a.pb, 0, none⟩) n a.cp) ∧ w'.cell? ⟨mb, 3, none⟩ = some (.int .i64 L)) := Lib.hid fun w' k => ⟨(CB.out w' k).2.1, (CB.out w' k).2.2.2.1⟩
 have Z0 : Hid (Kept (fun _ => False) w w.drew) := Lib.hid (Kept.refl _ w).drew
 clear Z0
 go_region_held3 (fun w' => w'.cell? ⟨mb, 1, none⟩ = some (.slice (some ⟨a.pb, 0, none⟩) n a.cp) ∧ w'.cell? ⟨mb, 3, none⟩ = some (.int .i64 L)) ((refine KS.out _ ?_; repeat (first | exact Kept.refl _ _ | assumption | (with_reducible refine Kept.drew ?_)))) (first | (go_at_call 24; (with_reducible refine Calls.mono (C1.out _ (by first | assumption | exact Kept.refl _ _ | (with_reducible refine Kept.drew ?_; first | assumption | exact Kept.refl _ _))) ?_); rintro e y1 ⟨rfl, rfl⟩) | (go_at_call 49; (with_reducible refine Calls.mono (C2.out _ (by first | assumption | exact Kept.refl _ _ | (with_reducible refine Kept.drew ?_; first | assumption | exact Kept.refl _ _))) ?_); rintro e y2 ⟨rfl, rfl⟩) | (go_at_call 23; (with_reducible refine Calls.mono (C3.out _ (by first | assumption | exact Kept.refl _ _ | (with_reducible refine Kept.drew ?_; first | assumption | exact Kept.refl _ _))) ?_); rintro e y3 ⟨rfl, k3⟩) | (go_at_call 50; (with_reducible refine Calls.mono (C4.out _ (by first | assumption | exact Kept.refl _ _ | (with_reducible refine Kept.drew ?_; first | assumption | exact Kept.refl _ _))) ?_); rintro e y4 ⟨rfl, k4⟩))
 have Z0 := Lib.hid k4
 clear k3 k4
 clear KS C1 C2 C3 C4 hb0
 obtain ⟨u0, hu0⟩ : ∃ u0 : World, u0 = y4 := ⟨_, rfl⟩
 subst hu0
 go_wp2_with fail
 go_loopg [5] n (fun mk s5 wr => ∃ (i : Nat), Hid (n - i ≤ mk) ∧ i ≤ n ∧ s5 = .int .i64 (i : Nat) ∧ Hid (Kept (fun _ => False) w wr))
 case atStart => exact ⟨0, Lib.hid (by omega), Nat.zero_le _, rfl, Z0⟩
 case round =>
  clear Z0
  obtain ⟨i, hmk, hi, rfl, hK⟩ := hrel
  have c1 := (CB.out wr hK.out).2.1
  rcases Nat.lt_or_ge i n with hlt | hge
  ·have hii : (i : Int) < (n : Int) := by omega
   have hi0 : (0 : Int) ≤ (i : Int) := by omega
   have hin : i < K.n := by rw [HN.out]; exact hlt
   obtain ⟨q, hq⟩ : ∃ q, (accL (N.P i).ls (N.P i).cr 9).length = q := ⟨_, rfl⟩
   have HQ := Lib.hid hq
   have hqm : (accL (M.P i).ls (M.P i).cr 9).length = q := by rw [Am.accLen HA.out hin]; exact hq
   have WF := Lib.hid fun (w' : World) (k : Kept (fun _ => False) w w') => (show Calls Tryz.prog 20 #[ptr fb, .int .i64 (i : Nat)] w' fun e w2 => e = .returned (.int .i64 (q : Nat)) ∧ Kept (fun _ => False) w w2 from by
    refine (fv_wait (HF.out.old k).fv (by omega) hin).mono ?_
    rintro e w2 ⟨rfl, m, rfl⟩
    exact ⟨by rw [hqm], k.trans ((Kept.refl _ w').drewN m)⟩)
   have WR := Lib.hid fun (w' : World) (k : Kept (fun _ => False) w w') => (show Calls Tryz.prog 48 #[.pointer (some ⟨a.ms i, 0, none⟩)] w' fun e w2 => ∃ av cv, e = .returned (.slice av q cv) ∧ Kept (fun _ => False) w w2 from by
    obtain ⟨R, hR, _⟩ := (HB.out.old k).prt i hin
    refine (rp_wait hR (Nat.le_trans (n_acc HF.out.iv HA.out (by omega) i hin) (by decide))).mono ?_
    rintro e w2 ⟨v, rfl, hr, k2⟩
    obtain ⟨av, cv, e, _⟩ := hr.slice
    rw [hq] at e
    exact ⟨av, cv, by rw [e], k.trans k2⟩)
   have KS : Hid (∀ w', Kept (fun _ => False) w w' → w'.cell? ⟨mb, 1, none⟩ = some (.slice (some ⟨a.pb, 0, none⟩) n a.cp) ∧ w'.cell? ⟨a.pb, i, none⟩ = some (.pointer (some ⟨a.ms i, 0, none⟩))) := Lib.hid fun w' k => ⟨(CB.out w' k).2.1, (HB.out.old k).ports_at hin⟩
   clear hq hqm hin
   go_upto_region 6 with fail
   clear c1
   have Z0 : Hid (Kept (fun _ => False) w wr.drew) := Lib.hid hK.out.drew
   have hz := hK.out
   clear Z0
   go_region_held3 (fun w' => w'.cell? ⟨mb, 1, none⟩ = some (.slice (some ⟨a.pb, 0, none⟩) n a.cp) ∧ w'.cell? ⟨a.pb, i, none⟩ = some (.pointer (some ⟨a.ms i, 0, none⟩))) ((refine KS.out _ ?_; repeat (first | exact Kept.refl _ _ | assumption | (with_reducible refine Kept.drew ?_)))) (first | (go_at_call 20; (with_reducible refine Calls.mono (WF.out _ (by first | assumption | exact Kept.refl _ _ | (with_reducible refine Kept.drew ?_; first | assumption | exact Kept.refl _ _))) ?_); rintro e y1 ⟨rfl, k1⟩) | (go_at_call 48; (with_reducible refine Calls.mono (WR.out _ (by first | assumption | exact Kept.refl _ _ | (with_reducible refine Kept.drew ?_; first | assumption | exact Kept.refl _ _))) ?_); rintro e y2 ⟨av, cv, rfl, k2⟩))
   have Z0 := Lib.hid k2
   clear k1 k2 hz
   clear KS WF WR
   go_wp2_with fail
   go_roundg (n - (i + 1))
   case measure => have := hmk.out; omega
   case rel => exact ⟨i + 1, Lib.hid (Nat.le_refl _), by omega, by go_num, by first | exact Z0 | exact Lib.hid Z0.out.drew⟩
  ·obtain rfl : i = n := by omega
   have hge' : ¬ ((i : Int) < (i : Int)) := by omega
   obtain ⟨u1, hu1⟩ : ∃ u1 : World, u1 = wr := ⟨_, rfl⟩
   subst hu1
   go_wp2_with fail
   go_loopg [6] hn (fun mk s6 wr => ∃ (j : Nat), Hid (hn - j ≤ mk) ∧ j ≤ hn ∧ s6 = .int .i64 (j : Nat) ∧ Hid (Kept (fun _ => False) w wr))
   case atStart => exact ⟨0, Lib.hid (by omega), Nat.zero_le _, rfl, by first | exact hK | exact Lib.hid hK.out.drew⟩
   case round =>
    clear hK c1
    obtain ⟨j, hmk, hj, rfl, hK⟩ := hrel
    obtain ⟨b0c, b1c, b2c, b3c, n0c⟩ := CB.out wr hK.out
    clear b1c b3c
    rcases Nat.lt_or_ge j hn with hlt | hge
    ·have hjj : (j : Int) < (hn : Int) := by omega
     have hj0 : (0 : Int) ≤ (j : Int) := by omega
     have hjn : j < K.hn := by rw [HHN.out]; exact hlt
     have AR := Lib.hid (fv_arr (HF.out.old hK.out).fv (by omega) hjn)
     obtain ⟨l, hl⟩ : ∃ l, (N.I j).length = l := ⟨_, rfl⟩
     have HL := Lib.hid hl
     have hlb : l ≤ 1000 := by rw [← hl]; have := in_c HF.out.iv hjn; rw [Am.len HA.out j] at this; omega
     obtain ⟨B, hB⟩ : ∃ B, Wt (gB (j : Nat)) N.P K.n = B := ⟨_, rfl⟩
     have BF := Lib.hid fun (w' : World) (k : Kept (fun _ => False) w w') => (show Calls Tryz.prog 51 #[ptr fb, .int .i64 (j : Nat)] w' fun e w2 => e = .returned (.int .i64 B) ∧ w' = w2 from by
      rw [← hB, ← am_bytes HA.out, ← HF.out.iv.bytes j]; exact fv_bytes (HF.out.old k).fv hjn)
     have BR := Lib.hid fun (w' : World) (k : Kept (fun _ => False) w w') => (show Calls Tryz.prog 52 #[ptr mb, .int .i64 (j : Nat)] w' fun e w2 => e = .returned (.int .i64 B) ∧ Kept (fun _ => False) w' w2 from by
      rw [← hB]; exact rb_bytes (HRB.out w' k) _ (n_acc HF.out.iv HA.out (by omega)))
     have IB : Hid (∀ w', Kept (fun _ => False) w w' → ∃ av cv, a.iv j = .slice av l cv ∧ w'.cell? ⟨a.ib, j, none⟩ = some (.slice av l cv)) := Lib.hid fun w' k => by
      have g1 := (HB.out.old k).inb_at hjn
      obtain ⟨av, cv, e, _⟩ := ((HB.out.old k).inb j hjn).slice
      rw [hl] at e
      rw [e] at g1
      exact ⟨av, cv, e, g1⟩
     clear hl hB
     go_wp2_with fail
     with_reducible refine Calls.mono AR.out ?_
     rintro e w3 ⟨v, V, rfl, hrow, hmap, hdt, hk3⟩
     obtain ⟨av1, cv1, ev1, _⟩ := hrow.slice
     have hVl : V.length = l := by have := congrArg List.length (hmap.trans (HA.out.i j)); simpa [HL.out] using this
     rw [hVl] at ev1
     have HROW := Lib.hid hrow
     have HMAP := Lib.hid (hmap.trans (HA.out.i j))
     have HDT := Lib.hid hdt
     have HVL := Lib.hid hVl
     have HEV := Lib.hid ev1
     subst ev1
     have HK3 := Lib.hid (hK.out.trans hk3)
     have HK33 := Lib.hid hk3
     clear hrow hmap hdt hVl hk3 AR b0c b2c n0c
     obtain ⟨b0c, b1c, b2c, b3c, n0c⟩ := CB.out w3 HK3.out
     obtain ⟨av2, cv2, ev2, i0c⟩ := IB.out w3 HK3.out
     have HEV2 := Lib.hid ev2
     clear b1c b3c ev2
     go_wp2_with fail
     with_reducible refine Calls.mono (BF.out _ (by first | exact HK3.out | exact HK3.out.drew)) ?_
     rintro e w4 ⟨rfl, rfl⟩
     go_wp2_with fail
     with_reducible refine Calls.mono (BR.out _ (by first | exact HK3.out | exact HK3.out.drew)) ?_
     rintro e w5 ⟨rfl, hk5⟩
     have HK5 : Hid (Kept (fun _ => False) w3 w5) := Lib.hid (by first | exact hk5 | exact (Kept.refl _ w3).drew.trans hk5)
     clear hk5 b0c b2c n0c i0c BF BR IB
     go_wp2_with fail
     go_loopg [8] l (fun mk2 s8 wr => ∃ (k : Nat), Hid (l - k ≤ mk2) ∧ k ≤ l ∧ s8 = .int .i64 (k : Nat) ∧ Hid (Kept (fun _ => False) w3 wr))
     case atStart => exact ⟨0, Lib.hid (by omega), Nat.zero_le _, rfl, by first | exact HK5 | exact Lib.hid HK5.out.drew⟩
     case round =>
      clear HK5
      obtain ⟨k, hmk2, hk, rfl, hK5⟩ := hrel
      rcases Nat.lt_or_ge k l with hlt2 | hge2
      ·have hkk : (k : Int) < (l : Int) := by omega
       have hk0 : (0 : Int) ≤ (k : Int) := by omega
       obtain ⟨x, hx⟩ : ∃ x, V[k]? = some x := ⟨_, List.getElem?_eq_getElem (by rw [HVL.out]; exact hlt2)⟩
       obtain ⟨y, hy⟩ : ∃ y, (N.I j)[k]? = some y := ⟨_, List.getElem?_eq_getElem (by rw [HL.out]; exact hlt2)⟩
       have hxm := List.mem_of_getElem? hx
       have hym := List.mem_of_getElem? hy
       have exy : x.f = y.f := by
        have := congrArg (fun q => q[k]?) HMAP.out
        simp only [List.getElem?_map, hx, hy, Option.map_some, Option.some.injEq] at this
        exact this
       obtain ⟨f, s1, c1, q1⟩ := x
       obtain ⟨f', s2, c2, q2⟩ := y
       obtain rfl : f = f' := exy
       have hry : Rok w0 ⟨f, s2, c2, q2⟩ := HB.out.dat j _ hjn hym
       have HRY := Lib.hid (hry.2.2.old (HF.out.since.trans HK3.out))
       have HRX : Hid (Rd w3 ⟨f, s1, c1, q1⟩) := Lib.hid ⟨(HDT.out _ hxm).src, hry.2.2.2⟩
       have SM := Lib.hid fun (w' : World) (kk : Kept (fun _ => False) w3 w') => (fv_same (HRX.out.old kk) (HRY.out.old kk)).mono fun _ _ ⟨e1, e2⟩ => And.intro e1 (kk.trans e2)
       obtain ⟨g1, cp1, cu1, ev, hLx⟩ := row_fr HROW.out hx
       rw [HVL.out] at ev
       obtain ⟨g2, o2, cp2, cu2, ev2, hLy⟩ := ro_fr ((HB.out.old HK3.out).inb j hjn) hy
       rw [HL.out] at ev2
       have HLX := Lib.hid hLx
       have HLY := Lib.hid hLy
       have HXX := Lib.hid hx
       have HYY := Lib.hid hy
       clear hxm hym hry hLx hLy hx hy
       obtain ⟨x1, x2, x3, x4, x5, x6, x7, x8, x9, xd⟩ := f
       cases ev
       have hev2 := HEV2.out.symm
       rw [ev2] at hev2
       cases hev2
       have HEW := Lib.hid ev2
       clear ev2
       have KS : Hid (∀ w', Kept (fun _ => False) w3 w' → w'.cell? ⟨mb, 2, none⟩ = some (.slice (some ⟨a.ib, 0, none⟩) hn hn) ∧ w'.cell? ⟨a.ib, j, none⟩ = some (.slice (some ⟨g2, o2, none⟩) l cv2) ∧ w'.cell? ⟨g1, k * 10, none⟩ = some (.int .i64 x1) ∧ w'.cell? ⟨g1, k * 10 + 1, none⟩ = some (.int .i64 x2) ∧ w'.cell? ⟨g1, k * 10 + 2, none⟩ = some (.int .i64 x3) ∧ w'.cell? ⟨g1, k * 10 + 3, none⟩ = some (.int .i64 x4) ∧ w'.cell? ⟨g1, k * 10 + 4, none⟩ = some (.int .u64 (x5 : Int)) ∧ w'.cell? ⟨g1, k * 10 + 5, none⟩ = some (.int .i64 x6) ∧ w'.cell? ⟨g1, k * 10 + 6, none⟩ = some (.int .i64 x7) ∧ w'.cell? ⟨g1, k * 10 + 7, none⟩ = some (.int .i64 x8) ∧ w'.cell? ⟨g1, k * 10 + 8, none⟩ = some (.int .i64 x9) ∧ w'.cell? ⟨g1, k * 10 + 9, none⟩ = some (.slice s1 xd.length c1) ∧ w'.cell? ⟨g2, o2 + k * 10, none⟩ = some (.int .i64 x1) ∧ w'.cell? ⟨g2, o2 + k * 10 + 1, none⟩ = some (.int .i64 x2) ∧ w'.cell? ⟨g2, o2 + k * 10 + 2, none⟩ = some (.int .i64 x3) ∧ w'.cell? ⟨g2, o2 + k * 10 + 3, none⟩ = some (.int .i64 x4) ∧ w'.cell? ⟨g2, o2 + k * 10 + 4, none⟩ = some (.int .u64 (x5 : Int)) ∧ w'.cell? ⟨g2, o2 + k * 10 + 5, none⟩ = some (.int .i64 x6) ∧ w'.cell? ⟨g2, o2 + k * 10 + 6, none⟩ = some (.int .i64 x7) ∧ w'.cell? ⟨g2, o2 + k * 10 + 7, none⟩ = some (.int .i64 x8) ∧ w'.cell? ⟨g2, o2 + k * 10 + 8, none⟩ = some (.int .i64 x9) ∧ w'.cell? ⟨g2, o2 + k * 10 + 9, none⟩ = some (.slice s2 xd.length c2)) := Lib.hid fun w' kk => by
        have gx := fr_cells (HLX.out.kept kk (fun f => f)) HXX.out
        have gy := fro_cells (HLY.out.kept kk (fun f => f)) HYY.out
        have g0 := (HB.out.old (HK3.out.trans kk)).inb_at hjn
        rw [HEW.out] at g0
        exact ⟨(CB.out w' (HK3.out.trans kk)).2.2.1, g0, gx.1, gx.2.1, gx.2.2.1, gx.2.2.2.1, gx.2.2.2.2.1, gx.2.2.2.2.2.1, gx.2.2.2.2.2.2.1, gx.2.2.2.2.2.2.2.1, gx.2.2.2.2.2.2.2.2.1, gx.2.2.2.2.2.2.2.2.2, gy⟩
       go_upto_region 17 with fail
       have Z0 : Hid (Kept (fun _ => False) w3 wr.drew) := Lib.hid hK5.out.drew
       have hz := hK5.out
       clear Z0
       go_region_held3 (fun w' => w'.cell? ⟨mb, 2, none⟩ = some (.slice (some ⟨a.ib, 0, none⟩) hn hn) ∧ w'.cell? ⟨a.ib, j, none⟩ = some (.slice (some ⟨g2, o2, none⟩) l cv2) ∧ w'.cell? ⟨g1, k * 10, none⟩ = some (.int .i64 x1) ∧ w'.cell? ⟨g1, k * 10 + 1, none⟩ = some (.int .i64 x2) ∧ w'.cell? ⟨g1, k * 10 + 2, none⟩ = some (.int .i64 x3) ∧ w'.cell? ⟨g1, k * 10 + 3, none⟩ = some (.int .i64 x4) ∧ w'.cell? ⟨g1, k * 10 + 4, none⟩ = some (.int .u64 (x5 : Int)) ∧ w'.cell? ⟨g1, k * 10 + 5, none⟩ = some (.int .i64 x6) ∧ w'.cell? ⟨g1, k * 10 + 6, none⟩ = some (.int .i64 x7) ∧ w'.cell? ⟨g1, k * 10 + 7, none⟩ = some (.int .i64 x8) ∧ w'.cell? ⟨g1, k * 10 + 8, none⟩ = some (.int .i64 x9) ∧ w'.cell? ⟨g1, k * 10 + 9, none⟩ = some (.slice s1 xd.length c1) ∧ w'.cell? ⟨g2, o2 + k * 10, none⟩ = some (.int .i64 x1) ∧ w'.cell? ⟨g2, o2 + k * 10 + 1, none⟩ = some (.int .i64 x2) ∧ w'.cell? ⟨g2, o2 + k * 10 + 2, none⟩ = some (.int .i64 x3) ∧ w'.cell? ⟨g2, o2 + k * 10 + 3, none⟩ = some (.int .i64 x4) ∧ w'.cell? ⟨g2, o2 + k * 10 + 4, none⟩ = some (.int .u64 (x5 : Int)) ∧ w'.cell? ⟨g2, o2 + k * 10 + 5, none⟩ = some (.int .i64 x6) ∧ w'.cell? ⟨g2, o2 + k * 10 + 6, none⟩ = some (.int .i64 x7) ∧ w'.cell? ⟨g2, o2 + k * 10 + 7, none⟩ = some (.int .i64 x8) ∧ w'.cell? ⟨g2, o2 + k * 10 + 8, none⟩ = some (.int .i64 x9) ∧ w'.cell? ⟨g2, o2 + k * 10 + 9, none⟩ = some (.slice s2 xd.length c2)) ((refine KS.out _ ?_; repeat (first | exact Kept.refl _ _ | assumption | (with_reducible refine Kept.drew ?_)))) (first | (go_at_call 14; (with_reducible refine Calls.mono (SM.out _ (by first | assumption | exact Kept.refl _ _ | (with_reducible refine Kept.drew ?_; first | assumption | exact Kept.refl _ _))) ?_); rintro e y7 ⟨rfl, k7⟩))
       have Z0 := Lib.hid k7
       clear k7 hz
       clear KS SM
       go_wp2_with fail
       go_roundg (l - (k + 1))
       case measure => have := hmk2.out; omega
       case rel => exact ⟨k + 1, Lib.hid (Nat.le_refl _), by omega, by go_num, by first | exact Z0 | exact Lib.hid Z0.out.drew⟩
      ·obtain rfl : k = l := by omega
       have hge'' : ¬ ((k : Int) < (k : Int)) := by omega
       have HK6 := Lib.hid (HK3.out.trans hK5.out)
       go_wp2_with fail
       go_roundg (hn - (j + 1))
       case measure => have := hmk.out; omega
       case rel => exact ⟨j + 1, Lib.hid (Nat.le_refl _), by omega, by go_num, by first | exact HK6 | exact Lib.hid HK6.out.drew⟩
    ·obtain rfl : j = hn := by omega
     have hge'' : ¬ ((j : Int) < (j : Int)) := by omega
     go_wp2_with fail
     exact bodyPost_ret (v := .bool true) (by simp [results, Tryz.results19, go_sem]) rfl ⟨rfl, by first | exact hK.out | exact hK.out.drew⟩
end Go.Proofs.YtpogpibjkolioaaGreat.Fc

/- Arguments that are slices of structs of numbers and strings: opened, read. Conditions: each theorem's own. -/
namespace Go.Proofs.YtpogpibjkolioaaGreat.Opn
open Go.ChangeShapes Go.WideShapes Go.RowKit Go.Deep Hp Go.Proofs.YtpogpibjkolioaaGreat.End
def Fit : Option IntKind → Value → Prop
 | some k, v => ∃ n, v = .int k n ∧ (Lit.int k n).wf = true
 | none, v => ∃ s : ByteArray, v = .string s ∧ s.size ≤ maxLen
def Mixed (w : World) (s : Option Addr) (cap : Nat) (Q : List (Option IntKind)) (zs : List (List Value)) : Prop :=
 zs.length ≤ cap ∧ (∀ r ∈ zs, r.length = Q.length ∧ ∀ (j : Nat) q v, Q[j]? = some q → r[j]? = some v → Fit q v) ∧
 (zs = [] ∨ ∃ b off, s = some ⟨b, off, none⟩ ∧ b < w.heap.size ∧ ∀ i, i < zs.length → ∀ (j : Nat) v, (zs.getD i [])[j]? = some v → w.cell? ⟨b, off + i * Q.length + j, none⟩ = some v)
theorem Mixed.row {w : World} {s : Option Addr} {cap : Nat} {Q : List (Option IntKind)} {zs : List (List Value)} (h : Mixed w s cap Q zs) {i : Nat} (hi : i < zs.length) :
  ∃ r b off, zs[i]? = some r ∧ r.length = Q.length ∧ (∀ (j : Nat) q v, Q[j]? = some q → r[j]? = some v → Fit q v) ∧ s = some ⟨b, off, none⟩ ∧ b < w.heap.size ∧
   ∀ w', Old w w' → ∀ (j : Nat) v, r[j]? = some v → w'.cell? ⟨b, off + i * Q.length + j, none⟩ = some v := by
 rcases h.2.2 with rfl | ⟨b, off, rfl, hb, hc⟩
 ·simp at hi
 ·obtain ⟨h1, h2⟩ := h.2.1 zs[i] (List.getElem_mem hi)
  refine ⟨zs[i], b, off, List.getElem?_eq_getElem hi, h1, h2, rfl, hb, fun w' k j v hv => ?_⟩
  rw [keptCell k hb (fun h => h)]
  refine hc i hi j v ?_
  rw [show zs.getD i [] = zs[i] by simp [List.getD, List.getElem?_eq_getElem hi]]
  exact hv
end Go.Proofs.YtpogpibjkolioaaGreat.Opn

/- An argument of steps: opened, read. Conditions: each theorem's own. -/
namespace Go.Proofs.YtpogpibjkolioaaGreat.Opn
open Go.ChangeShapes Go.WideShapes Go.RowKit Go.Deep Hp Go.Proofs.YtpogpibjkolioaaGreat.End Byt WrM Qu Po QuM Fb
set_option maxRecDepth 100000 in
theorem bytes_cell {H : Type} {enc : TypeId × Value → H} {W : World} {n : Nat} {v : Value} {y : DataW H × List MemPlace}
  (hf : DataW.trod enc Tryz.prog W 0 (fun _ => true) true n 33 [v] = some y) : ∃ s cap l, v = .slice s (List.length l) cap ∧ Byts W s cap l := by
 rcases open_ints Tryz.underlying33 Tryz.underlying5 (by kernel_rfl) hf with ⟨hcs, hx⟩ | ⟨a', len', cap', zs, hcs, _, hl, hm, hz, hx, hcell, hwz⟩
 ·simp at hcs
  subst hcs
  exact ⟨none, 0, [], rfl, ⟨none, 0, rfl, Nat.le_refl _, Or.inl rfl, fun _ => rfl⟩, by omega⟩
 ·simp at hcs
  subst hcs
  simp only [if_true] at hz
  unfold maxLen at hm
  have hlen : ((zs.take len').map fun n => UInt8.ofNat n.toNat).length = len' := by rw [List.length_map, List.length_take]; omega
  refine ⟨some a', cap', (zs.take len').map fun n => UInt8.ofNat n.toNat, by rw [hlen], ⟨_, _, rfl, by omega, ?_, fun h => by cases h⟩, by omega⟩
  by_cases h0 : len' = 0
  ·left; rw [h0]; rfl
  ·right
   obtain ⟨b, off, rfl, hc⟩ := ints_at hcell (by omega)
   refine ⟨b, off, rfl, World.block_lt_of_cell? W _ (hc 0 (by omega)), fun j hj => ?_⟩
   rw [hlen] at hj
   rw [hc j (by omega)]
   have hb := range_u8 hwz j
   have e : zs.getD j 0 = zs[j]'(by omega) := by simp [List.getD, List.getElem?_eq_getElem (show j < zs.length by omega)]
   rw [e]
   rw [List.getD_eq_getElem?_getD] at e
   rw [e] at hb
   unfold Byt.bv
   simp only [List.getElem_map, List.getElem_take, UInt8.toNat_ofNat']
   congr 2
   omega
theorem take_one {cs : List Value} {j : Nat} {c : Value} (hj : cs[j]? = some c) : (cs.drop j).take 1 = [c] := by
 obtain ⟨h, rfl⟩ := List.getElem?_eq_some_iff.1 hj
 rw [List.drop_eq_getElem_cons h, List.take_succ_cons, List.take_zero]
theorem bytes_at {H : Type} {enc : TypeId × Value → H} {W : World} {n o j : Nat} {cs : List Value} {ys : List (DataW H × List MemPlace)} {c : Value}
  (hj : cs[o]? = some c) (hy : j < ys.length) (h : DataW.trod enc Tryz.prog W 0 (fun _ => true) true n 33 ((cs.drop o).take (Tryz.prog.cellsOf 33)) = ys[j]?) : ∃ s cap l, c = .slice s (List.length l) cap ∧ Byts W s cap l := by
 rw [show Tryz.prog.cellsOf 33 = 1 by kernel_rfl, take_one hj, List.getElem?_eq_getElem hy] at h
 exact bytes_cell h
theorem int_cell {H : Type} {enc : TypeId × Value → H} {W : World} {n o j : Nat} {k : IntKind} {T : TypeId} {cs : List Value} {ys : List (DataW H × List MemPlace)} {c : Value} (ht : Tryz.prog.underlying T = some (.int k)) (hc : Tryz.prog.cellsOf T = 1)
  (hj : cs[o]? = some c) (hy : j < ys.length) (h : DataW.trod enc Tryz.prog W 0 (fun _ => true) true n T ((cs.drop o).take (Tryz.prog.cellsOf T)) = ys[j]?) : ∃ m, c = .int k m ∧ (Lit.int k m).wf = true := by
 rw [hc, take_one hj, List.getElem?_eq_getElem hy] at h
 obtain ⟨m, e1, _, e3⟩ := DataW.trod_int ht h
 exact ⟨m, by simpa using e1, e3⟩
def scs (z : Int × Int × Bx) : List Value := .int .i64 z.1 :: .int .i64 z.2.1 :: .int .i64 z.2.2.q :: fT.enc z.2.2
theorem scs_len (z : Int × Int × Bx) : (scs z).length = 13 := rfl
def SOk (w : World) (z : Int × Int × Bx) : Prop := Byts w z.2.2.s z.2.2.c z.2.2.f.data ∧ (Lit.int .i64 z.2.2.q).wf = true
def StIn (w : World) (s : Option Addr) (cap : Nat) (l : List (Int × Int × Bx)) : Prop :=
 l.length ≤ cap ∧ cap ≤ 9223372036854775807 ∧ (∀ z ∈ l, SOk w z) ∧
 (l = [] ∨ ∃ b off, s = some ⟨b, off, none⟩ ∧ b < w.heap.size ∧ ∀ i z, l[i]? = some z → ∀ (j : Nat) v, (scs z)[j]? = some v → w.cell? ⟨b, off + i * 13 + j, none⟩ = some v)
set_option maxRecDepth 100000 in
set_option maxHeartbeats 4000000 in
theorem step_of {H : Type} {enc : TypeId × Value → H} {W : World} {n : Nat} {cs : List Value} {y : DataW H × List MemPlace} (hl : cs.length = 13)
  (h : DataW.trod enc Tryz.prog W 0 (fun _ => true) true n 37 cs = some y) : ∃ z, cs = scs z ∧ SOk W z := by
 obtain ⟨c0, c1, c2, c3, c4, c5, c6, c7, c8, c9, c10, c11, c12, rfl⟩ : ∃ c0 c1 c2 c3 c4 c5 c6 c7 c8 c9 c10 c11 c12, cs = [c0, c1, c2, c3, c4, c5, c6, c7, c8, c9, c10, c11, c12] := by
  rcases cs with _ | ⟨c0, _ | ⟨c1, _ | ⟨c2, _ | ⟨c3, _ | ⟨c4, _ | ⟨c5, _ | ⟨c6, _ | ⟨c7, _ | ⟨c8, _ | ⟨c9, _ | ⟨c10, _ | ⟨c11, _ | ⟨c12, _ | ⟨c13, l⟩⟩⟩⟩⟩⟩⟩⟩⟩⟩⟩⟩⟩⟩ <;> first | exact ⟨_, _, _, _, _, _, _, _, _, _, _, _, _, rfl⟩ | (simp at hl)
 obtain ⟨ys, n', _, _, hlen, hyl, hf⟩ := DataW.trod_struct Tryz.underlying37 h
 have hy3 : ys.length = 4 := by simpa using hyl
 obtain ⟨k0, rfl, b0⟩ := int_cell Tryz.underlying3 (by kernel_rfl) (o := 0) (j := 0) rfl (by omega) (hf 0 _ rfl)
 obtain ⟨k1, rfl, b1⟩ := int_cell Tryz.underlying3 (by kernel_rfl) (o := 1) (j := 1) rfl (by omega) (hf 1 _ rfl)
 obtain ⟨k2, rfl, b2⟩ := int_cell Tryz.underlying3 (by kernel_rfl) (o := 2) (j := 2) rfl (by omega) (hf 2 _ rfl)
 have hF := hf 3 _ rfl
 rw [List.getElem?_eq_getElem (show 3 < ys.length by omega)] at hF
 have hF2 : DataW.trod enc Tryz.prog W 0 (fun _ => true) true n' 35 [c3, c4, c5, c6, c7, c8, c9, c10, c11, c12] = some ys[3] := hF
 obtain ⟨zs, n'', _, _, hlen2, hzl, hg⟩ := DataW.trod_struct Tryz.underlying35 hF2
 have hz10 : zs.length = 10 := by simpa using hzl
 obtain ⟨m0, rfl, d0⟩ := int_cell Tryz.underlying3 (by kernel_rfl) (o := 0) (j := 0) rfl (by omega) (hg 0 _ rfl)
 obtain ⟨m1, rfl, d1⟩ := int_cell Tryz.underlying3 (by kernel_rfl) (o := 1) (j := 1) rfl (by omega) (hg 1 _ rfl)
 obtain ⟨m2, rfl, d2⟩ := int_cell Tryz.underlying3 (by kernel_rfl) (o := 2) (j := 2) rfl (by omega) (hg 2 _ rfl)
 obtain ⟨m3, rfl, d3⟩ := int_cell Tryz.underlying3 (by kernel_rfl) (o := 3) (j := 3) rfl (by omega) (hg 3 _ rfl)
 obtain ⟨m4, rfl, d4⟩ := int_cell Tryz.underlying32 (by kernel_rfl) (o := 4) (j := 4) rfl (by omega) (hg 4 _ rfl)
 obtain ⟨m5, rfl, d5⟩ := int_cell Tryz.underlying3 (by kernel_rfl) (o := 5) (j := 5) rfl (by omega) (hg 5 _ rfl)
 obtain ⟨m6, rfl, d6⟩ := int_cell Tryz.underlying3 (by kernel_rfl) (o := 6) (j := 6) rfl (by omega) (hg 6 _ rfl)
 obtain ⟨m7, rfl, d7⟩ := int_cell Tryz.underlying3 (by kernel_rfl) (o := 7) (j := 7) rfl (by omega) (hg 7 _ rfl)
 obtain ⟨m8, rfl, d8⟩ := int_cell Tryz.underlying3 (by kernel_rfl) (o := 8) (j := 8) rfl (by omega) (hg 8 _ rfl)
 obtain ⟨s, cap, l, rfl, hB⟩ := bytes_at (o := 9) (j := 9) rfl (by omega) (hg 9 _ rfl)
 have b4' := bounds_u64 d4
 obtain ⟨q, rfl⟩ : ∃ q : Nat, m4 = q := ⟨m4.toNat, by omega⟩
 exact ⟨(k0, k1, ⟨⟨m0, m1, m2, m3, q, m5, m6, m7, m8, l⟩, s, cap, k2⟩), rfl, hB, b2⟩
set_option maxRecDepth 100000 in
set_option maxHeartbeats 4000000 in
theorem steps_of {H : Type} {enc : TypeId × Value → H} {W : World} {base : Nat} {v : Value} {d : DataW H} {p : List MemPlace}
  (hv : Value.okWide Tryz.prog W .any base 22 v) (h : DataW.Trod enc Tryz.prog W 0 (fun _ => true) true 22 v d p) : ∃ s cap l, v = .slice s (List.length l) cap ∧ StIn W s cap l := by
 obtain ⟨a, len, cap, rfl⟩ := okWide_slice Tryz.underlying22 hv
 obtain ⟨_, hf⟩ := h
 have hC : Tryz.prog.cellsOf 37 = 13 := by kernel_rfl
 rcases open_slice Tryz.underlying22 hf with ⟨hcs, hx⟩ | ⟨a', len', cap', m, n, D, Pl, hcs, _, hl, _, hm, hm2, hi⟩
 ·simp [Value.cells] at hcs
  obtain ⟨rfl, rfl, rfl⟩ := hcs
  exact ⟨none, 0, [], rfl, Nat.le_refl _, by omega, by simp, Or.inl rfl⟩
 ·simp [Value.cells] at hcs
  obtain ⟨rfl, rfl, rfl⟩ := hcs
  simp only [if_true] at hm
  have each : ∀ i, i < len → ∃ z : Int × Int × Bx, SOk W z ∧ ∀ (j : Nat) v, (scs z)[j]? = some v → W.cell? ((a'.add (i * 13)).add j) = some v := by
   intro i hil
   obtain ⟨cs', hc, ht'⟩ := hi i (by omega)
   rw [hC] at hc
   obtain ⟨_, hcl, hat⟩ := World.cells?_some hc
   obtain ⟨z, rfl, hz⟩ := step_of (by omega) ht'
   refine ⟨z, hz, fun j v hj => ?_⟩
   rw [hat j (by have := (List.getElem?_eq_some_iff.1 hj).1; rw [scs_len] at this; exact this), hj]
  have ex : ∃ Z : Nat → Int × Int × Bx, ∀ i, i < len → SOk W (Z i) ∧ ∀ (j : Nat) v, (scs (Z i))[j]? = some v → W.cell? ((a'.add (i * 13)).add j) = some v := by
   classical
   exact ⟨fun i => if h : i < len then (each i h).choose else (0, 0, zB), fun i h => by simp only [dif_pos h]; exact (each i h).choose_spec⟩
  obtain ⟨Z, hZ⟩ := ex
  have hlen : ((List.range len).map Z).length = len := by simp
  refine ⟨some a', cap, (List.range len).map Z, by rw [hlen], by omega, ?_, ?_, ?_⟩
  ·unfold maxLen at *; omega
  ·intro r hr
   obtain ⟨i, hi, rfl⟩ := List.mem_map.1 hr
   exact (hZ i (List.mem_range.1 hi)).1
  ·by_cases hz : len = 0
   ·left; rw [hz]; rfl
   ·right
    have hp : 0 < len := by omega
    have c0 := (hZ 0 hp).2 0 _ rfl
    obtain ⟨b, off, rfl⟩ : ∃ b off, a' = ⟨b, off, none⟩ := by
     obtain ⟨b, off, mm⟩ := a'
     have hspot : mm = none := by simpa [Addr.add] using World.cell?_spot c0
     subst hspot
     exact ⟨b, off, rfl⟩
    refine ⟨b, off, rfl, ?_, fun i z hiz j v hv => ?_⟩
    ·rw [Go.WideShapes.add_plain, Go.WideShapes.add_plain] at c0
     exact World.block_lt_of_cell? W _ c0
    ·have hil : i < len := by have := (List.getElem?_eq_some_iff.1 hiz).1; rwa [hlen] at this
     rw [List.getElem?_map, List.getElem?_range hil] at hiz
     obtain rfl : Z i = z := Option.some.inj hiz
     have := (hZ i hil).2 j v hv
     rw [Go.WideShapes.add_plain, Go.WideShapes.add_plain] at this
     exact this
end Go.Proofs.YtpogpibjkolioaaGreat.Opn

/- The law's own words of a fabric: awake, small. Conditions: each theorem's own. -/
namespace Go.Proofs.YtpogpibjkolioaaGreat.Fb
open Go.RowKit Hp QuM QuN Rw Qu NumM NumC Po Fo FbM TpM Tp Go.Proofs.YtpogpibjkolioaaGreat.End
attribute [local go_sem ↓] Go.wp_at_zero Go.wp_at_succ
abbrev K2 : Cf := ⟨2, 1, 2, 6, 1000, 2, false⟩
theorem k2_ok : K2.Ok := ⟨⟨by decide, by decide, by decide, by decide⟩, by decide, by decide⟩
abbrev f2 : WrM.Frm := ⟨5, 0, 1, 0, 5, 0, 0, 0, 0, []⟩
abbrev y2 (s : Option Addr) (c : Nat) : Bx := ⟨f2, s, c, 0⟩
abbrev m2a (s : Option Addr) (c : Nat) : Mo := putM K2 M0 0 (y2 none 0) s c
abbrev m2b (s : Option Addr) (c : Nat) (s' : Option Addr) (c' : Nat) : Mo := putM K2 (srv1 (m2a s c) 0 0 (y2 s c)) 3 (y2 s c) s' c'
abbrev m2c (s : Option Addr) (c : Nat) (s' : Option Addr) (c' : Nat) : Mo := srv2 (m2b s c s' c') 3 0 (y2 s' c') 1
abbrev m2d (s : Option Addr) (c : Nat) (s' : Option Addr) (c' : Nat) : Mo := { m2c s c s' c' with I := upd (m2c s c s' c').I 1 [] }
theorem aw_t1 (s : Option Addr) (c : Nat) : tkX ((m2a s c).P 0) 0 = some (y2 s c) := by kernel_rfl
theorem aw_t2 (s : Option Addr) (c : Nat) (s' : Option Addr) (c' : Nat) : tkX ((m2b s c s' c').P 3) 0 = some (y2 s' c') := by kernel_rfl
theorem aw_i (s : Option Addr) (c : Nat) (s' : Option Addr) (c' : Nat) : (m2c s c s' c').I 1 = [y2 s' c'] := by kernel_rfl
theorem aw_n0 (s : Option Addr) (c : Nat) (s' : Option Addr) (c' : Nat) : accL ((m2d s c s' c').P 0).ls ((m2d s c s' c').P 0).cr 9 = [] := by kernel_rfl
theorem aw_n1 (s : Option Addr) (c : Nat) (s' : Option Addr) (c' : Nat) : accL ((m2d s c s' c').P 1).ls ((m2d s c s' c').P 1).cr 9 = [] := by kernel_rfl
theorem aw_n2 (s : Option Addr) (c : Nat) (s' : Option Addr) (c' : Nat) : accL ((m2d s c s' c').P 2).ls ((m2d s c s' c').P 2).cr 9 = [] := by kernel_rfl
theorem aw_n3 (s : Option Addr) (c : Nat) (s' : Option Addr) (c' : Nat) : accL ((m2d s c s' c').P 3).ls ((m2d s c s' c').P 3).cr 9 = [] := by kernel_rfl
theorem aw_n4 (s : Option Addr) (c : Nat) (s' : Option Addr) (c' : Nat) : accL ((m2d s c s' c').P 4).ls ((m2d s c s' c').P 4).cr 9 = [] := by kernel_rfl
theorem aw_n5 (s : Option Addr) (c : Nat) (s' : Option Addr) (c' : Nat) : accL ((m2d s c s' c').P 5).ls ((m2d s c s' c').P 5).cr 9 = [] := by kernel_rfl
theorem aw_m0 (s : Option Addr) (c : Nat) (s' : Option Addr) (c' : Nat) : (m2d s c s' c').I 0 = [] := by kernel_rfl
theorem aw_m1 (s : Option Addr) (c : Nat) (s' : Option Addr) (c' : Nat) : (m2d s c s' c').I 1 = [] := by kernel_rfl
theorem aw_n (s : Option Addr) (c : Nat) (s' : Option Addr) (c' : Nat) : None_ K2 (m2d s c s' c') := by
 constructor
 ·intro p hp
  have hp : p < 6 := hp
  have : p = 0 ∨ p = 1 ∨ p = 2 ∨ p = 3 ∨ p = 4 ∨ p = 5 := by omega
  rcases this with rfl | rfl | rfl | rfl | rfl | rfl
  ·exact aw_n0 s c s' c'
  ·exact aw_n1 s c s' c'
  ·exact aw_n2 s c s' c'
  ·exact aw_n3 s c s' c'
  ·exact aw_n4 s c s' c'
  ·exact aw_n5 s c s' c'
 ·intro j hj
  have hj : j < 2 := hj
  have : j = 0 ∨ j = 1 := by omega
  rcases this with rfl | rfl
  ·exact aw_m0 s c s' c'
  ·exact aw_m1 s c s' c'
theorem ok2 : WrM.Ok f2 := by
 refine ⟨by unfold WrM.Fit; decide, fun h => by decide, by unfold WrM.Dat; decide⟩
set_option maxRecDepth 100000 in
set_option maxHeartbeats 8000000 in
theorem awake_any (w : World) : Calls Tryz.prog 5 #[] w fun e w' => e = .returned (.bool true) ∧ Old w w' := by
 have NW := Lib.hid (fv_new (K := K2) k2_ok (by decide) (by decide) (by decide) (by decide) w)
 go_enter Tryz.func5, Tryz.ntmps5
 go_wp2_with fail
 with_reducible refine Calls.mono NW.out ?_
 rintro e w1 ⟨fb, rfl, h1⟩
 have SN : Hid (Calls Tryz.prog 8 #[ptr fb, .int .i64 0, .agg #[.int .i64 5, .int .i64 0, .int .i64 1, .int .i64 0, .int .u64 5, .int .i64 0, .int .i64 0, .int .i64 0, .int .i64 0, .slice none 0 0], .int .i64 0] w1 fun e w' => e = .returned (.tuple #[.int .i64 1, .int .i64 0]) ∧ ∃ s c, FV w K2 (m2a s c) 1 fb w') := by
  have := fv_send_yes h1 (by decide) (J := 0) (q := 0) (x := y2 none 0) ⟨⟨none, 0, rfl, Nat.le_refl _, Or.inl rfl, fun _ => rfl⟩, by show (0 : Nat) ≤ _; decide⟩ ⟨by decide, ok2, by decide, by decide⟩
  exact Lib.hid this
 clear NW h1
 go_wp2_with fail
 with_reducible refine Calls.mono SN.out ?_
 rintro e w2 ⟨rfl, s, c, h2⟩
 have SV : Hid (Calls Tryz.prog 10 #[ptr fb, .int .i64 0, .int .i64 0] w2 fun e w' => e = .returned (.tuple #[.bool true, .int .i64 0]) ∧ ∃ s' c', FV w K2 (m2b s c s' c') 1 fb w') := by
  refine Lib.hid ((fv_serve_some h2 (by decide) (p := 0) (by decide) (t := 0) (aw_t1 s c)).mono ?_)
  rintro e w' ⟨rfl, M', hM, h3⟩
  refine ⟨rfl, ?_⟩
  rcases hM with ⟨e1, _⟩ | ⟨e1, _, _, s', c', rfl⟩
  ·exact absurd (show (false : Bool) = true from e1) (by decide)
  ·exact ⟨s', c', h3⟩
 clear SN h2
 go_wp2_with fail
 with_reducible refine Calls.mono SV.out ?_
 rintro e w3 ⟨rfl, s', c', h3⟩
 have SV2 : Hid (Calls Tryz.prog 10 #[ptr fb, .int .i64 3, .int .i64 0] w3 fun e w' => e = .returned (.tuple #[.bool true, .int .i64 0]) ∧ FV w K2 (m2c s c s' c') 1 fb w') := by
  refine Lib.hid ((fv_serve_some h3 (by decide) (p := 3) (by decide) (t := 0) (aw_t2 s c s' c')).mono ?_)
  rintro e w' ⟨rfl, M', hM, h3⟩
  refine ⟨rfl, ?_⟩
  rcases hM with ⟨e1, _, rfl⟩ | ⟨e1, _⟩
  ·exact h3
  ·exact absurd (show (true : Bool) = false from e1) (by decide)
 clear SV h3
 go_wp2_with fail
 with_reducible refine Calls.mono SV2.out ?_
 rintro e w4 ⟨rfl, h4⟩
 have TK : Hid (Calls Tryz.prog 12 #[ptr fb, .int .i64 1] w4 fun e w' => e = .returned (.tuple #[.agg #[.int .i64 5, .int .i64 0, .int .i64 1, .int .i64 0, .int .u64 5, .int .i64 0, .int .i64 0, .int .i64 0, .int .i64 0, .slice s' 0 c'], .bool true]) ∧ FV w K2 (m2d s c s' c') 0 fb w') := by
  refine Lib.hid ((fv_take_some h4 (by decide) (j := 1) (by decide) (aw_i s c s' c')).mono ?_)
  rintro e w' ⟨rfl, hd, h5⟩
  exact ⟨rfl, h5⟩
 clear SV2 h4
 go_wp2_with fail
 with_reducible refine Calls.mono TK.out ?_
 rintro e w5 ⟨rfl, h5⟩
 clear TK
 go_upto_region 8 with fail
 have hO := Blk.new w5 [.int .i64 5, .int .i64 0, .int .i64 1, .int .i64 0, .int .u64 5, .int .i64 0, .int .i64 0, .int .i64 0, .int .i64 0, .slice s' 0 c'] 35
 have hk := (Kept.refl (fun _ => False) w5).alloc (.cells [.int .i64 5, .int .i64 0, .int .i64 1, .int .i64 0, .int .u64 5, .int .i64 0, .int .i64 0, .int .i64 0, .int .i64 0, .slice s' 0 c'].toArray 35)
 dsimp only [List.toArray] at hO hk
 have H6 := Lib.hid (h5.old hk)
 generalize w5.alloc (.cells #[.int .i64 5, .int .i64 0, .int .i64 1, .int .i64 0, .int .u64 5, .int .i64 0, .int .i64 0, .int .i64 0, .int .i64 0, .slice s' 0 c'] 35) = w6 at *
 generalize w5.heap.size = ob at *
 have c4 := hO.cell (o := 4) rfl
 clear hO hk h5
 go_wp2_with fail
 with_reducible refine Calls.mono (fv_empty H6.out (by decide)) ?_
 rintro e w7 ⟨r, rfl, hr, hk7⟩
 obtain rfl : r = true := hr.2 (aw_n s c s' c')
 have H7 := Lib.hid (H6.out.old hk7)
 clear hr hk7 c4
 go_wp2_with fail
 with_reducible refine Calls.mono (fv_ports H7.out) ?_
 rintro e w8 ⟨rfl, rfl⟩
 have HK := Lib.hid H7.out.since
 go_wp2_with fail
 go_ret
 exact ⟨rfl, HK.out⟩
end Go.Proofs.YtpogpibjkolioaaGreat.Fb

