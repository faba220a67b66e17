/- The document's own fabric: Bytes. Conditions: each theorem's own. -/
import Derived.Test.YtpogpibjkolioaaGreatFpK36
import Derived.Test.YtpogpibjkolioaaGreatFpK33
import Derived.Test.YtpogpibjkolioaaGreatFpK35
set_option linter.unusedVariables false
set_option linter.unusedSimpArgs false
namespace Go.Proofs.YtpogpibjkolioaaGreat.Fc
open Go.RowKit Hp QuM Rw Qu Po Fo NumM NumC FbM TpM Tp Go.Proofs.YtpogpibjkolioaaGreat.Fb Rf
attribute [local go_sem ↓] Go.wp_at_zero Go.wp_at_succ
variable {w0 w w' w'' : World} {K : Cf} {N N' : Mo} {X X' : Nat → Prop} {a : Ar} {mb : Nat}
theorem sm_take (g : Bx → Int) {l : List Bx} {k : Nat} {x : Bx} (h : l[k]? = some x) : sm g (l.take (k + 1)) = sm g (l.take k) + g x := by
 obtain ⟨hk, e⟩ := List.getElem?_eq_some_iff.1 h
 rw [List.take_succ_eq_append_getElem hk, sm_append, e]
 show _ + (g x + 0) = _
 omega
theorem sm_bd {g : Bx → Int} {l : List Bx} (h : ∀ x ∈ l, 0 ≤ g x ∧ g x ≤ 2000) (hl : l.length ≤ 1000) (k : Nat) : 0 ≤ sm g (l.take k) ∧ sm g (l.take k) ≤ 2000000 := by
 have h1 := sm_nonneg (g := g) (L := l.take k) fun x hx => (h x (List.mem_of_mem_take hx)).1
 have h2 := sm_le (g := g) (m := 2000) (L := l.take k) fun x hx => (h x (List.mem_of_mem_take hx)).2
 have h3 : (l.take k).length ≤ 1000 := by rw [List.length_take]; omega
 omega
theorem gB_bd {J : Int} {x : Bx} (h : Rok w0 x) : 0 ≤ gB J x ∧ gB J x ≤ 2000 := by
 unfold gB
 split
 ·exact ⟨h.1, h.2.1⟩
 ·omega
theorem Wt_bytes {J : Int} {P : Nat → Pt} {n : Nat} (h : ∀ p, p < n → (accL (P p).ls (P p).cr 9).length ≤ 1000) (hx : ∀ p, p < n → ∀ x, In (P p).ls (P p).cr x → Rok w0 x) : ∀ i, i ≤ n → 0 ≤ Wt (gB J) P i ∧ Wt (gB J) P i ≤ 2000000 * i
 | 0, _ => ⟨Int.le_refl _, Int.le_refl _⟩
 | i + 1, hi => by
  have h1 := Wt_bytes (J := J) h hx i (by omega)
  have h2 := sm_bd (g := gB J) (l := accL (P i).ls (P i).cr 9) (fun x hxx => gB_bd (hx i (by omega) x (in_acc hxx))) (h i (by omega)) (accL (P i).ls (P i).cr 9).length
  rw [List.take_length, sm_acc] at h2
  show 0 ≤ Wt (gB J) P i + wt (gB J) (P i) ∧ Wt (gB J) P i + wt (gB J) (P i) ≤ _
  omega
theorem Rb.rok (h : Rb w0 K N X a w) : ∀ p, p < K.n → ∀ x, In (N.P p).ls (N.P p).cr x → Rok w0 x := fun p hp x hx => by
 obtain ⟨R, hR, _⟩ := h.prt p hp
 exact rp_ok hR hx
set_option maxRecDepth 100000 in
set_option maxHeartbeats 8000000 in
theorem rb_bytes (h : RB w0 K N X mb w) (J : Int) (hw : ∀ p, p < K.n → (accL (N.P p).ls (N.P p).cr 9).length ≤ 1000) :
  Calls Tryz.prog 52 #[ptr mb, .int .i64 J] w fun e w' => e = .returned (.int .i64 (Wt (gB J) N.P K.n)) ∧ Kept (fun _ => False) w w' := by
 obtain ⟨a, rfl, h⟩ := h
 have h8 := h.cf.le
 have HB := Lib.hid (Wt_bytes (J := J) hw h.rok)
 have HOK := Lib.hid h.rok
 have HW := Lib.hid hw
 have HH := Lib.hid h
 clear h hw
 obtain ⟨n, hn⟩ : ∃ n, K.n = n := ⟨_, rfl⟩
 have HN := Lib.hid hn
 rw [hn] at h8 ⊢
 clear hn
 go_enter Tryz.func52, Tryz.ntmps52
 go_wp2_with fail
 go_loopg [5, 6] n (fun mm s5 s6 wr => ∃ (i : Nat), Hid (n - i ≤ mm) ∧ i ≤ n ∧ s5 = .int .i64 (Wt (gB J) N.P i) ∧ s6 = .int .i64 (i : Nat) ∧ Hid (Kept (fun _ => False) w wr))
 case atStart => exact ⟨0, Lib.hid (by omega), Nat.zero_le _, rfl, rfl, Lib.hid (Kept.refl _ _)⟩
 case round =>
  obtain ⟨i, hmm, hi, rfl, rfl, hK⟩ := hrel
  have H1 := Lib.hid (HH.out.old hK.out)
  have c1 : wr.cell? ⟨a.mb, 1, none⟩ = some (.slice (some ⟨a.pb, 0, none⟩) n a.cp) := by rw [← HN.out]; exact H1.out.blk.cell rfl
  rcases Nat.lt_or_ge i n with hlt | hge
  ·have hii : (i : Int) < (n : Int) := by omega
   have hi0 : (0 : Int) ≤ (i : Int) := by omega
   have hin : i < K.n := by rw [HN.out]; exact hlt
   have cp := H1.out.ports_at hin
   obtain ⟨R, hR, _⟩ := H1.out.prt i hin
   have WT := Lib.hid (rp_wait hR (Nat.le_trans (HW.out i hin) (by omega)))
   have hT := HB.out i (by rw [HN.out]; omega)
   have h3 := HW.out i hin
   have hsb := sm_bd (g := gB J) (l := accL (N.P i).ls (N.P i).cr 9) (fun x hxx => gB_bd (HOK.out i hin x (in_acc hxx))) h3
   have eW : Wt (gB J) N.P (i + 1) = Wt (gB J) N.P i + sm (gB J) (accL (N.P i).ls (N.P i).cr 9) := by rw [sm_acc]; rfl
   obtain ⟨A, hA⟩ : ∃ A, accL (N.P i).ls (N.P i).cr 9 = A := ⟨_, rfl⟩
   rw [hA] at eW h3 hsb WT
   have HSB := Lib.hid hsb
   have EW := Lib.hid eW
   obtain ⟨T, ht⟩ : ∃ T, Wt (gB J) N.P i = T := ⟨_, rfl⟩
   rw [ht] at hT EW ⊢
   clear hR eW ht hA hsb
   have hT1 : 0 ≤ T := hT.1
   have hT2 : T ≤ 96000000 := by omega
   clear hT
   go_wp2_with fail
   with_reducible refine Calls.mono WT.out ?_
   rintro e w3 ⟨v, rfl, hr, hk⟩
   obtain ⟨av, cv, rfl, _⟩ := hr.slice
   have HK := Lib.hid (hK.out.trans hk)
   have HR := Lib.hid hr
   obtain ⟨l, hl⟩ : ∃ l, A.length = l := ⟨_, rfl⟩
   have HL := Lib.hid hl
   rw [hl] at h3 ⊢
   clear hr hk WT c1 cp H1 hK hl
   go_wp2_with fail
   go_loopg [5, 8] l (fun mk s5 s8 wr => ∃ (k : Nat), Hid (l - k ≤ mk) ∧ k ≤ l ∧ s5 = .int .i64 (T + sm (gB J) (A.take k)) ∧ s8 = .int .i64 (k : Nat) ∧ Hid (Kept (fun _ => False) w3 wr))
   case atStart => exact ⟨0, Lib.hid (by omega), Nat.zero_le _, by show _ = Value.int .i64 (T + 0); rw [Int.add_zero], rfl, by first | exact Lib.hid (Kept.refl _ _) | exact Lib.hid (Kept.refl _ _).drew⟩
   case round =>
    obtain ⟨k, hmk, hk, rfl, rfl, hK3⟩ := hrel
    rcases Nat.lt_or_ge k l with hlt | hge
    ·have hkk : (k : Int) < (l : Int) := by omega
     have hk0 : (0 : Int) ≤ (k : Int) := by omega
     have hkA : k < A.length := by rw [HL.out]; exact hlt
     have hx : A[k]? = some A[k] := List.getElem?_eq_getElem hkA
     have HES := Lib.hid (sm_take (gB J) hx)
     have b1 := HSB.out k
     have b2 := HSB.out (k + 1)
     rw [HES.out] at b2
     obtain ⟨g, cap, ev, d0, d1, d2, d3, d4, d5, d6, d7, d8, d9, d10⟩ := rr_cells (HR.out.kept hK3.out (fun _ _ f => f)) hx
     rw [HL.out] at ev
     cases ev
     generalize A[k] = x at *
     clear hx
     obtain ⟨⟨x1, x2, x3, x4, x5, x6, x7, x8, x9, xd⟩, xa, xc, xq⟩ := x
     dsimp only at d0 d1 d2 d3 d4 d5 d6 d7 d8 d9 d10
     obtain ⟨t, ht⟩ : ∃ t, sm (gB J) (A.take k) = t := ⟨_, rfl⟩
     rw [ht] at b1 b2 HES ⊢
     clear ht d1 d3 d4 d5 d7 d8 d9 d10
     by_cases q1 : x1 = 1
     ·by_cases q2 : x3 = J
      ·have hg : gB J ⟨⟨x1, x2, x3, x4, x5, x6, x7, x8, x9, xd⟩, xa, xc, xq⟩ = x7 := if_pos ⟨q1, q2⟩
       rw [hg] at HES b2
       have hwr : IntKind.i64.wrap (T + t + x7) = T + t + x7 := by rw [IntKind.wrap_i64]; omega
       subst q1 q2
       clear hg
       go_wp2_with fail
       go_roundg (l - (k + 1))
       case measure => have := hmk.out; omega
       case rel => exact ⟨k + 1, Lib.hid (Nat.le_refl _), by omega, by rw [HES.out, Int.add_assoc], by go_num, by first | exact hK3 | exact Lib.hid hK3.out.drew⟩
      ·have hg : gB J ⟨⟨x1, x2, x3, x4, x5, x6, x7, x8, x9, xd⟩, xa, xc, xq⟩ = 0 := if_neg (fun h => q2 h.2)
       rw [hg, Int.add_zero] at HES
       have q2' : (x3 == J) = false := by rw [beq_eq_false_iff_ne]; exact q2
       subst q1
       clear hg b1 b2
       go_wp2_with fail
       go_roundg (l - (k + 1))
       case measure => have := hmk.out; omega
       case rel => exact ⟨k + 1, Lib.hid (Nat.le_refl _), by omega, by rw [HES.out], by go_num, by first | exact hK3 | exact Lib.hid hK3.out.drew⟩
     ·have hg : gB J ⟨⟨x1, x2, x3, x4, x5, x6, x7, x8, x9, xd⟩, xa, xc, xq⟩ = 0 := if_neg (fun h => q1 h.1)
      rw [hg, Int.add_zero] at HES
      have q1' : (x1 == 1) = false := by rw [beq_eq_false_iff_ne]; exact q1
      clear hg b1 b2
      go_wp2_with fail
      go_roundg (l - (k + 1))
      case measure => have := hmk.out; omega
      case rel => exact ⟨k + 1, Lib.hid (Nat.le_refl _), by omega, by rw [HES.out], by go_num, by first | exact hK3 | exact Lib.hid hK3.out.drew⟩
    ·obtain rfl : k = l := by omega
     have hge' : ¬ ((k : Int) < (k : Int)) := by omega
     have HK4 := Lib.hid (HK.out.trans hK3.out)
     go_wp2_with fail
     go_roundg (n - (i + 1))
     case measure => have := hmm.out; omega
     case rel => exact ⟨i + 1, Lib.hid (Nat.le_refl _), by omega, by rw [EW.out, ← HL.out, List.take_length], by go_num, by first | exact HK4 | exact Lib.hid HK4.out.drew⟩
  ·obtain rfl : i = n := by omega
   have hge' : ¬ ((i : Int) < (i : Int)) := by omega
   go_wp2_with fail
   go_ret
   exact ⟨rfl, by first | exact hK.out | exact hK.out.drew⟩
end Go.Proofs.YtpogpibjkolioaaGreat.Fc

/- Both fabrics beside each other: a call of each. Conditions: each theorem's own. -/
namespace Go.Proofs.YtpogpibjkolioaaGreat.Fc
open Go.RowKit Hp QuM QuN Rw Qu Po Fo NumM NumC FbM TpM Tp Go.Proofs.YtpogpibjkolioaaGreat.Fb Rf
variable {w0 w w' w'' : World} {K : Cf} {M N N' : Mo} {X X' : Nat → Prop} {a : Ar} {fb mb : Nat} {b c : Int} {E : Nat → Prop}
theorem acc_c (h : Iv K M c) {p : Nat} (hp : p < K.n) : ((accL (M.P p).ls (M.P p).cr 9).length : Int) ≤ c := by
 have h2 := li_nonneg M.I K.hn
 have h3 := h.cnt
 have h4 := h.lost
 unfold al at h3
 have := wt_le_Wt (g := fun _ => 1) (M := M.P) (p := p) (n := K.n) hp fun q hq x hx => by decide
 rw [wt_one] at this
 omega
theorem in_c (h : Iv K M c) {j : Nat} (hj : j < K.hn) : ((M.I j).length : Int) ≤ c := by
 have h1 := h.ones
 have h3 := h.cnt
 have h4 := h.lost
 unfold al at h3
 have := le_li (I := M.I) hj
 omega
theorem lost_c (h : Iv K M c) : 0 ≤ M.L ∧ M.L ≤ c := by
 have h1 := h.ones
 have h2 := li_nonneg M.I K.hn
 have h3 := h.cnt
 have h4 := h.lost
 unfold al at h3
 omega
theorem tw_cnt (ls : Nat → List Bx) : ∀ n, tw (fun _ => 1) ls n = (cnt ls n : Nat)
 | 0 => rfl
 | n + 1 => by
  show tw (fun _ => 1) ls n + sm (fun _ => 1) (ls n) = ((cnt ls n + (ls n).length : Nat) : Int)
  rw [tw_cnt ls n, sm_one]; omega
theorem Am.acc (am : Am K M N) {p : Nat} (hp : p < K.n) : (accL (M.P p).ls (M.P p).cr 9).map ky = (accL (N.P p).ls (N.P p).cr 9).map ky := Al.acc (am.p p hp)
theorem Am.accLen (am : Am K M N) {p : Nat} (hp : p < K.n) : (accL (M.P p).ls (M.P p).cr 9).length = (accL (N.P p).ls (N.P p).cr 9).length := ky_len (Am.acc am hp)
theorem n_acc (h : Iv K M c) (am : Am K M N) (hc : c ≤ 800) : ∀ p, p < K.n → (accL (N.P p).ls (N.P p).cr 9).length ≤ 1000 := fun p hp => by
 have := acc_c h hp
 rw [Am.accLen am hp] at this
 omega
theorem n_fw (h : Iv K M c) (am : Am K M N) (hc : c ≤ 800) {p : Nat} (hp : p < K.n) : Fw (N.P p) := by
 have h1 := acc_c h hp
 rw [Am.accLen am hp] at h1
 have h2 := wt_one (N.P p)
 unfold wt at h2
 rw [tw_cnt, sm_one] at h2
 unfold Fw
 omega
theorem n_lost (h : Iv K M c) (am : Am K M N) (hc : c ≤ 800) : 0 ≤ N.L ∧ N.L ≤ 1000000 := by
 have := lost_c h
 rw [← am.l]; omega
theorem kept_nx (h0 : Kept (fun _ => False) w0 w) (h1 : Kept (fun _ => False) w0 w') (k : Kept (NX X) w w') : Kept (fun i => w0.heap.size ≤ i ∧ ¬ X i) w w' :=
 ⟨k.os, k.tape, k.output, k.size, fun i hi hn => by
  by_cases e : i < w0.heap.size
  ·rw [h1.block i e (fun f => f), h0.block i e (fun f => f)]
  ·exact k.block i hi (fun hx => hn ⟨by omega, hx⟩)⟩
theorem RB.beside (h : RB w0 K N X mb w) (k : Kept (NX X) w w') (h1 : Kept (fun _ => False) w0 w') : RB w0 K N X mb w' := by
 obtain ⟨a, e, h⟩ := h
 exact ⟨a, e, h.kept (kept_nx h.since h1 k) (fun i g x => g.2 x) (fun i g => g.1)⟩
theorem FP.beside (h : FP w0 K M c (fun i => X i ∨ E i) fb w) (hW : Wr X w w') (hX : ∀ i, X i → w0.heap.size ≤ i) : FP w0 K M c (fun i => gro X w w' i ∨ E i) fb w' := by
 have hs := hW.size
 have hl : ∀ i, X i ∨ E i → i < w.heap.size := by
  obtain ⟨_, a, _, _, h4⟩ := h
  exact fun i hi => (h4 i hi).2
 obtain ⟨G, k, h1, h2⟩ := hW
 refine FP.far h k (fun i g => Or.inl (h1 i g)) h2 (fun i g => hX i (h1 i g)) (fun i hi => ?_) (fun i hi => ?_)
 ·rcases hi with (e | e) | e
  ·exact Or.inl (Or.inl e)
  ·exact Or.inr e.1
  ·exact Or.inl (Or.inr e)
 ·rcases hi with (e | e) | e
  ·exact Nat.lt_of_lt_of_le (hl i (Or.inl e)) hs
  ·exact e.2
  ·exact Nat.lt_of_lt_of_le (hl i (Or.inr e)) hs
def Bo (w0 : World) (K : Cf) (b : Int) (fb mb : Nat) (E : Nat → Prop) (w : World) : Prop := ∃ M N X c, c ≤ b ∧ FP w0 K M c (fun i => X i ∨ E i) fb w ∧ RB w0 K N X mb w ∧ (∀ i, E i → X i → False) ∧ Am K M N
theorem Bo.since (h : Bo w0 K b fb mb E w) : Kept (fun _ => False) w0 w := by
 obtain ⟨M, N, X, c, _, h, _⟩ := h
 exact h.since
theorem Bo.old (h : Bo w0 K b fb mb E w) (k : Kept (fun _ => False) w w') : Bo w0 K b fb mb E w' := by
 obtain ⟨M, N, X, c, h0, h1, h2, hE, h3⟩ := h
 exact ⟨M, N, X, c, h0, h1.old k, h2.old k, hE, h3⟩
theorem Bo.le {b' : Int} (h : Bo w0 K b fb mb E w) (hb : b ≤ b') : Bo w0 K b' fb mb E w := by
 obtain ⟨M, N, X, c, h0, h1⟩ := h
 exact ⟨M, N, X, c, by omega, h1⟩
theorem Bo.put (h : Bo w0 K b fb mb (fun _ => False) w) (k : Kept (fun _ => False) w w') {s : Nat} (h1 : w.heap.size ≤ s) (h2 : s < w'.heap.size) : Bo w0 K b fb mb (fun i => i = s) w' := by
 obtain ⟨M, N, X, c, h0, hf, hr, hE, ham⟩ := h
 have hxb := hr.xb
 have hs := k.size
 refine ⟨M, N, X, c, h0, FP.far hf (G := fun _ => False) k (fun _ f => f.elim) (fun _ f => f.elim) (fun _ f => f.elim) (fun i hi => ?_) (fun i hi => ?_), hr.old k, fun i e hx => ?_, ham⟩
 ·rcases hi with e | e
  ·exact Or.inl (Or.inl e)
  ·exact Or.inr (by omega)
 ·rcases hi with e | e
  ·have := (hxb i e).2; omega
  ·omega
 ·have := (hxb i hx).2; omega
theorem Bo.less (h : Bo w0 K b fb mb E w) : Bo w0 K b fb mb (fun _ => False) w := by
 obtain ⟨M, N, X, c, h0, ⟨hi, a, e, hf, hx⟩, hr, hE, ham⟩ := h
 exact ⟨M, N, X, c, h0, ⟨hi, a, e, hf, fun i hi => hx i (Or.inl (hi.elim id (fun f => f.elim)))⟩, hr, fun _ f => f.elim, ham⟩
theorem bo_join (hc : c ≤ b) (h : FP w0 K M c (fun i => X i ∨ E i) fb w) (h0 : RB w0 K N X mb w) (hE : ∀ i, E i → X i → False) (hr : Rc w0 K X mb w N' w') (am : Am K M N') : Bo w0 K b fb mb E w' :=
 ⟨M, N', gro X w w', c, hc, FP.beside h hr.2 (fun i hi => (h0.xb i hi).1), hr.1, fun i e hx => by
  have hl : i < w.heap.size := by obtain ⟨_, a, _, _, h4⟩ := h; exact (h4 i (Or.inr e)).2
  rcases hx with hx | hx
  ·exact hE i e hx
  ·omega, am⟩
theorem nx_sub (k : Kept (NX fun i => X i ∨ E i) w w') : Kept (NX X) w w' := k.mono fun i _ e hx => e (Or.inl hx)
theorem nx_e (k : Kept (NX fun i => X i ∨ E i) w w') : Kept (fun i => ¬ E i) w w' := k.mono fun i _ e hx => e (Or.inr hx)
def Two (A B : FuncId) (xs ys : Array Value) (w : World) (v : Value) (E : Nat → Prop) (Q : World → Prop) : Prop :=
 Calls Tryz.prog A xs w fun e w' => e = .returned v ∧ Kept (fun i => ¬ E i) w w' ∧ ∀ w1, Kept (fun _ => False) w' w1 → Calls Tryz.prog B ys w1 fun e2 w2 => e2 = .returned v ∧ Q w2 ∧ Kept (fun i => ¬ E i) w1 w2
theorem rc_e (hE : ∀ i, E i → X i → False) (hr : Rc w0 K X mb w N' w') : Kept (fun i => ¬ E i) w w' := by
 obtain ⟨_, G, k, h1, _⟩ := hr
 exact k.mono fun i _ g e => hE i e (h1 i g)
theorem send_two (h : Bo w0 K b fb mb E w) (hb : b ≤ 500) (J q : Int) {x : Bx} (hx : Rd w0 x) :
  ∃ r g : Int, Two 8 9 #[ptr fb, .int .i64 J, fv x, .int .i64 q] #[ptr mb, .int .i64 J, fv x, .int .i64 q] w (.tuple #[.int .i64 r, .int .i64 g]) E (Bo w0 K (b + 1) fb mb E) := by
 obtain ⟨M, N, X, c, h0, h1, h2, hE, h3⟩ := h
 rcases send_or K J x.f with hn | hn
 ·refine ⟨0, 1, (fp_send_no h1 hn).mono ?_⟩
  rintro e w' ⟨rfl, g1, g2⟩
  refine ⟨rfl, nx_e g2, fun w1 k => (rb_send_no ((RB.beside h2 (nx_sub g2) g1.since).old k) hn).mono ?_⟩
  rintro e w2 ⟨rfl, k2⟩
  exact ⟨rfl, ⟨M, N, X, c, by omega, (g1.old k).old k2, ((RB.beside h2 (nx_sub g2) g1.since).old k).old k2, hE, h3⟩, k2.mono fun _ _ f => f.elim⟩
 ·obtain ⟨p, rfl⟩ := Int.eq_ofNat_of_zero_le hn.1.1
  have hle := h1.iv.ok.le
  have hH := h1.iv.ok.hn
  have hp : p < K.n := by omega
  have hd : dD K M p ⟨x.f, x.s, x.c, q⟩ = dD K N p ⟨x.f, x.s, x.c, q⟩ := Am.dDe h3 hp rfl
  have hl : 0 ≤ x.f.len ∧ x.f.len ≤ 2000 := by
   have := hn.2.1.1
   unfold WrM.Fit at this
   omega
  refine ⟨(dD K M p ⟨x.f, x.s, x.c, q⟩).1, 0, (fp_send_yes h1 (by omega) (q := q) (hx.old h1.since) hn).mono ?_⟩
  rw [Int.toNat_natCast]
  rintro e w' ⟨rfl, s, cc, g1, g2⟩
  refine ⟨rfl, nx_e g2, fun w1 k => (rb_send_yes (q := q) (x := x) ((RB.beside h2 (nx_sub g2) g1.since).old k) ⟨hl.1, hl.2, hx⟩ ⟨hn.1.2, hn.2.1, hn.2.2.1, hn.2.2.2⟩ (n_fw h1.iv h3 (by omega) hp) (n_lost h1.iv h3 (by omega))).mono ?_⟩
  rintro e w2 ⟨rfl, s', c', hR⟩
  exact ⟨by rw [hd], bo_join (by omega) (g1.old k) ((RB.beside h2 (nx_sub g2) g1.since).old k) hE hR (Am.put h3 hp rfl s s' cc c'), rc_e hE hR⟩
theorem opt_ky {A B : Option Bx} (h : A.map ky = B.map ky) {x : Bx} (hx : A = some x) : ∃ y, B = some y ∧ ky x = ky y := by
 subst hx
 cases B with
 | none => simp at h
 | some y => exact ⟨y, rfl, by simpa using h⟩
theorem serve_two (h : Bo w0 K b fb mb E w) (hb : b ≤ 500) (J t : Int) :
  ∃ (r : Bool) (g : Int), Two 10 11 #[ptr fb, .int .i64 J, .int .i64 t] #[ptr mb, .int .i64 J, .int .i64 t] w (.tuple #[.bool r, .int .i64 g]) E (Bo w0 K b fb mb E) := by
 obtain ⟨M, N, X, c, h0, h1, h2, hE, h3⟩ := h
 by_cases hJ : J < 0 ∨ (K.n : Int) ≤ J
 ·refine ⟨false, 5, (fp_serve_no h1 hJ).mono ?_⟩
  rintro e w' ⟨rfl, g1, g2⟩
  refine ⟨rfl, nx_e g2, fun w1 k => (rb_serve_off ((RB.beside h2 (nx_sub g2) g1.since).old k) hJ).mono ?_⟩
  rintro e w2 ⟨rfl, k2⟩
  exact ⟨rfl, ⟨M, N, X, c, by omega, (g1.old k).old k2, ((RB.beside h2 (nx_sub g2) g1.since).old k).old k2, hE, h3⟩, k2.mono fun _ _ f => f.elim⟩
 obtain ⟨p, rfl⟩ := Int.eq_ofNat_of_zero_le (show 0 ≤ J by omega)
 have hp : p < K.n := by omega
 have hk := Al.tkX (h3.p p hp) t
 have hfw := n_fw h1.iv h3 (by omega) hp
 cases hx : tkX (M.P p) t with
 | none =>
  rw [hx] at hk
  have hy : tkX (N.P p) t = none := by
   cases hh : tkX (N.P p) t with
   | none => rfl
   | some y => rw [hh] at hk; simp at hk
  refine ⟨false, 0, (fp_serve_none h1 (by omega) hp hx).mono ?_⟩
  rintro e w' ⟨rfl, g1, g2⟩
  refine ⟨rfl, nx_e g2, fun w1 k => (rb_serve_none ((RB.beside h2 (nx_sub g2) g1.since).old k) hp hfw hy).mono ?_⟩
  rintro e w2 ⟨rfl, hR⟩
  exact ⟨rfl, bo_join h0 (g1.old k) ((RB.beside h2 (nx_sub g2) g1.since).old k) hE hR (Am.sv0 h3 hp t), rc_e hE hR⟩
 | some x =>
  obtain ⟨y, hy, exy⟩ := opt_ky hk hx
  have ef := ky_f exy
  have eq := ky_q exy
  have hI1 := h1.iv.srv1 hp hx
  refine ⟨true, 0, (fp_serve_some h1 (by omega) hp hx).mono ?_⟩
  rintro e w' ⟨rfl, M', hS, g1, g2⟩
  refine ⟨rfl, nx_e g2, fun w1 k => ?_⟩
  have hB := (RB.beside h2 (nx_sub g2) g1.since).old k
  rcases hS with ⟨s1, s2, rfl⟩ | ⟨s1, s2, s3, s, cc, rfl⟩
  ·rw [ef, eq] at s1
   rw [ef] at s2
   have hf := (h1.iv.fine p hp x (in_tkX hx)).1.2.2
   obtain ⟨d, hd⟩ := Int.eq_ofNat_of_zero_le hf.1
   have hdn : d < K.hn := by have := h1.iv.ok.hn; have := hf.2.1; omega
   have hil := in_c h1.iv hdn
   rw [Am.len h3 d] at hil
   have hyd : y.f.dst = (d : Nat) := by rw [← ef]; exact hd
   refine (rb_serve_in hB hp hfw hy s1 s2 hyd hdn (by omega)).mono ?_
   rintro e w2 ⟨rfl, hR⟩
   have e9 : x.f.dst.toNat = d := by omega
   rw [e9] at g1
   exact ⟨rfl, bo_join h0 (g1.old k) hB hE hR (Am.sv2 h3 hp t ef d), rc_e hE hR⟩
  ·rw [ef, eq] at s1 s2 s3
   obtain ⟨q, hq⟩ := Int.eq_ofNat_of_zero_le s2
   have e9 : (nx K.H K.S (p : Nat) x.f.dst x.q).1.toNat = q := by rw [ef, eq]; omega
   rw [e9] at g1
   have hqn : q < K.n := by omega
   refine (rb_serve_on hB hp hfw hy s1 hq hqn (n_fw hI1 (Am.sv1 (x := x) (y := y) h3 hp t) (by omega) hqn) (n_lost h1.iv h3 (by omega))).mono ?_
   rintro e w2 ⟨rfl, s', c', hR⟩
   exact ⟨rfl, bo_join h0 (g1.old k) hB hE hR (Am.put (Am.sv1 h3 hp t) hqn exy s s' cc c'), rc_e hE hR⟩
theorem take_two (h : Bo w0 K b fb mb E w) (hb : b ≤ 500) (J : Int) :
  ∃ (x y : Bx) (r : Bool), x.f = y.f ∧ Calls Tryz.prog 12 #[ptr fb, .int .i64 J] w fun e w' => e = .returned (.tuple #[fv x, .bool r]) ∧ Kept (fun i => ¬ E i) w w' ∧ ∀ w1, Kept (fun _ => False) w' w1 → Calls Tryz.prog 13 #[ptr mb, .int .i64 J] w1 fun e2 w2 => e2 = .returned (.tuple #[fv y, .bool r]) ∧ Bo w0 K b fb mb E w2 ∧ Rd w2 x ∧ Rd w2 y ∧ Kept (fun i => i < w'.heap.size) w1 w2 := by
 obtain ⟨M, N, X, c, h0, h1, h2, hE, h3⟩ := h
 have hz : ∀ w, Rd w zF := fun w => ⟨⟨none, 0, rfl, Nat.le_refl _, Or.inl rfl, fun _ => rfl⟩, by decide⟩
 have hH := h1.iv.ok.hn
 by_cases hJ : J < 0 ∨ K.H ≤ J
 ·refine ⟨zF, zF, false, rfl, (fp_take_off h1 (by omega)).mono ?_⟩
  rintro e w' ⟨rfl, g1, g2⟩
  refine ⟨rfl, nx_e g2, fun w1 k => (rb_take_no ((RB.beside h2 (nx_sub g2) g1.since).old k) (Or.inl hJ)).mono ?_⟩
  rintro e w2 ⟨rfl, k2⟩
  exact ⟨rfl, ⟨M, N, X, c, by omega, (g1.old k).old k2, ((RB.beside h2 (nx_sub g2) g1.since).old k).old k2, hE, h3⟩, hz _, hz _, k2.mono fun _ _ f => f.elim⟩
 obtain ⟨j, rfl⟩ := Int.eq_ofNat_of_zero_le (show 0 ≤ J by omega)
 have hj : j < K.hn := by omega
 cases hI : M.I j with
 | nil =>
  have hN : N.I j = [] := by have := Am.len h3 j; rw [hI] at this; exact List.length_eq_zero_iff.1 this.symm
  refine ⟨zF, zF, false, rfl, (fp_take_none h1 hj hI).mono ?_⟩
  rintro e w' ⟨rfl, g1, g2⟩
  refine ⟨rfl, nx_e g2, fun w1 k => (rb_take_no ((RB.beside h2 (nx_sub g2) g1.since).old k) (Or.inr ⟨j, rfl, hj, hN⟩)).mono ?_⟩
  rintro e w2 ⟨rfl, k2⟩
  exact ⟨rfl, ⟨M, N, X, c, by omega, (g1.old k).old k2, ((RB.beside h2 (nx_sub g2) g1.since).old k).old k2, hE, h3⟩, hz _, hz _, k2.mono fun _ _ f => f.elim⟩
 | cons x L =>
  obtain ⟨y, L', hN⟩ : ∃ y L', N.I j = y :: L' := by
   cases hh : N.I j with
   | nil => have := Am.len h3 j; rw [hI, hh] at this; simp at this
   | cons y L' => exact ⟨y, L', rfl⟩
  obtain ⟨ef, am⟩ := Am.take h3 hI hN
  have hil := in_c h1.iv hj
  rw [Am.len h3 j] at hil
  refine ⟨x, y, true, ef, (fp_take_some h1 (by omega) hj hI).mono ?_⟩
  rintro e w' ⟨rfl, hd, g1, g2⟩
  refine ⟨rfl, nx_e g2, fun w1 k => ?_⟩
  have hB := (RB.beside h2 (nx_sub g2) g1.since).old k
  refine (rb_take_yes hB hj hN (by omega)).mono ?_
  rintro e w2 ⟨rfl, hok, hR⟩
  have hbo : Bo w0 K b fb mb E w2 := bo_join (by omega) (g1.old k) hB hE hR am
  obtain ⟨G, kG, hG1, hG2⟩ := hR.2
  have hxl := h2.xb
  have hsz := g2.size
  refine ⟨rfl, hbo, ⟨?_, hd.2.1⟩, hok.2.2.old hbo.since, kG.mono fun i _ e => by have := (hxl i (hG1 i e)).2; omega⟩
  have hrow := hd.1.kept k (fun _ _ f => f)
  refine (hrow.kept kG (fun g hg e => ?_)).src
  obtain ⟨cb, hcb⟩ := byt_blk hrow hg
  obtain ⟨C, T, hB2, hT⟩ := hG2 g e hcb.lt
  exact hT (hB2.inj hcb).2
theorem at_ky {A B : List Bx} (h : A.map ky = B.map ky) {k : Nat} {x : Bx} (hx : A[k]? = some x) : ∃ y, B[k]? = some y ∧ ky x = ky y := by
 have := congrArg (fun l => l[k]?) h
 simp only [List.getElem?_map, hx] at this
 exact opt_ky (A := some x) this rfl
theorem which {J k : Int} : ((J < 0 ∨ (K.n : Int) ≤ J) ∨ ∃ p : Nat, J = p ∧ p < K.n ∧ (k < 0 ∨ ((accL (M.P p).ls (M.P p).cr 9).length : Int) ≤ k)) ∨ ∃ (p j : Nat) (x : Bx), J = p ∧ p < K.n ∧ k = j ∧ (accL (M.P p).ls (M.P p).cr 9)[j]? = some x := by
 by_cases hj : J < 0 ∨ (K.n : Int) ≤ J
 ·exact Or.inl (Or.inl hj)
 ·obtain ⟨p, rfl⟩ := Int.eq_ofNat_of_zero_le (show 0 ≤ J by omega)
  by_cases hk : k < 0 ∨ ((accL (M.P p).ls (M.P p).cr 9).length : Int) ≤ k
  ·exact Or.inl (Or.inr ⟨p, rfl, by omega, hk⟩)
  ·obtain ⟨j, rfl⟩ := Int.eq_ofNat_of_zero_le (show 0 ≤ k by omega)
   exact Or.inr ⟨p, j, _, rfl, by omega, rfl, List.getElem?_eq_getElem (by omega)⟩
theorem Am.lnl (am : Am K M N) {p i : Nat} (hp : p < K.n) (hi : i < 9) : (lnl (M.P p).ls (M.P p).cr i).map ky = (lnl (N.P p).ls (N.P p).cr i).map ky := by
 have h := (am.p p hp).1
 unfold Po.lnl
 split
 ·exact h.1 _ (by omega)
 ·exact h.2
theorem Am.accn (am : Am K M N) {p : Nat} (hp : p < K.n) : ∀ i, i ≤ 9 → (accL (M.P p).ls (M.P p).cr i).length = (accL (N.P p).ls (N.P p).cr i).length
 | 0, _ => rfl
 | i + 1, hi => by rw [acc_succ, acc_succ, Am.accn am hp i (by omega), ky_len (Am.lnl am hp (by omega))]
theorem drop_two (h : Bo w0 K b fb mb E w) (hb : b ≤ 500) (J : Int) {k : Int} (hk : k ≤ 9223372036854775807) :
  ∃ g : Int, Two 15 16 #[ptr fb, .int .i64 J, .int .i64 k] #[ptr mb, .int .i64 J, .int .i64 k] w (.int .i64 g) E (Bo w0 K b fb mb E) := by
 obtain ⟨M, N, X, c, h0, h1, h2, hE, h3⟩ := h
 rcases which (K := K) (M := M) (J := J) (k := k) with hn | ⟨p, j, x, rfl, hp, rfl, hx⟩
 ·refine ⟨5, (fp_drop_no h1 (by omega) hn hk).mono ?_⟩
  rintro e w' ⟨rfl, g1, g2⟩
  refine ⟨rfl, nx_e g2, fun w1 kk => ?_⟩
  have hB := (RB.beside h2 (nx_sub g2) g1.since).old kk
  rcases hn with hn | ⟨p, rfl, hp, hn⟩
  ·refine (rb_drop_off hB hn).mono ?_
   rintro e w2 ⟨rfl, k2⟩
   exact ⟨rfl, ⟨M, N, X, c, by omega, (g1.old kk).old k2, hB.old k2, hE, h3⟩, k2.mono fun _ _ f => f.elim⟩
  ·rw [Am.accLen h3 hp] at hn
   refine (rb_drop_no hB hp hn hk (n_acc h1.iv h3 (by omega) p hp)).mono ?_
   rintro e w2 ⟨rfl, hR⟩
   exact ⟨rfl, bo_join h0 (g1.old kk) hB hE hR h3, rc_e hE hR⟩
 ·refine ⟨0, (fp_drop_yes h1 (by omega) hp hx).mono ?_⟩
  rintro e w' ⟨rfl, i, at_, hi, ha, hs, g1, g2⟩
  refine ⟨rfl, nx_e g2, fun w1 kk => ?_⟩
  have hB := (RB.beside h2 (nx_sub g2) g1.since).old kk
  obtain ⟨y, hy, exy⟩ := at_ky (Am.lnl h3 hp hi) ha
  rw [Am.accn h3 hp i (by omega)] at hs
  refine (rb_drop_yes hB hp hi hy hs (n_acc h1.iv h3 (by omega) p hp) (n_lost h1.iv h3 (by omega))).mono ?_
  rintro e w2 ⟨rfl, hR⟩
  exact ⟨rfl, bo_join h0 (g1.old kk) hB hE hR (Am.dr h3 hp at_ hi), rc_e hE hR⟩
theorem double_two (h : Bo w0 K b fb mb E w) (hb : b ≤ 500) (J : Int) {k : Int} (hk : k ≤ 9223372036854775807) :
  ∃ g : Int, Two 17 18 #[ptr fb, .int .i64 J, .int .i64 k] #[ptr mb, .int .i64 J, .int .i64 k] w (.int .i64 g) E (Bo w0 K (b + 1) fb mb E) := by
 obtain ⟨M, N, X, c, h0, h1, h2, hE, h3⟩ := h
 rcases which (K := K) (M := M) (J := J) (k := k) with hn | ⟨p, j, x, rfl, hp, rfl, hx⟩
 ·refine ⟨5, (fp_double_no h1 (by omega) hn hk).mono ?_⟩
  rintro e w' ⟨rfl, g1, g2⟩
  refine ⟨rfl, nx_e g2, fun w1 kk => ?_⟩
  have hB := (RB.beside h2 (nx_sub g2) g1.since).old kk
  rcases hn with hn | ⟨p, rfl, hp, hn⟩
  ·refine (rb_double_off hB hn).mono ?_
   rintro e w2 ⟨rfl, k2⟩
   exact ⟨rfl, ⟨M, N, X, c, by omega, (g1.old kk).old k2, hB.old k2, hE, h3⟩, k2.mono fun _ _ f => f.elim⟩
  ·rw [Am.accLen h3 hp] at hn
   refine (rb_double_no hB hp hn (n_acc h1.iv h3 (by omega) p hp)).mono ?_
   rintro e w2 ⟨rfl, k2⟩
   exact ⟨rfl, ⟨M, N, X, c, by omega, (g1.old kk).old k2, hB.old k2, hE, h3⟩, k2.mono fun _ _ f => f.elim⟩
 ·refine ⟨0, (fp_double_yes h1 (by omega) hp hx).mono ?_⟩
  rintro e w' ⟨rfl, s1, c1, s, cc, g1, g2⟩
  refine ⟨rfl, nx_e g2, fun w1 kk => ?_⟩
  have hB := (RB.beside h2 (nx_sub g2) g1.since).old kk
  obtain ⟨y, hy, exy⟩ := at_ky (Am.acc h3 hp) hx
  refine (rb_double_yes hB hp hy (n_acc h1.iv h3 (by omega) p hp) (n_fw h1.iv h3 (by omega) hp) (n_lost h1.iv h3 (by omega))).mono ?_
  rintro e w2 ⟨rfl, s', c', hR⟩
  exact ⟨rfl, bo_join (by omega) (g1.old kk) hB hE hR (Am.put h3 hp (x := ⟨x.f, s1, c1, x.q⟩) exy s s' cc c'), rc_e hE hR⟩
end Go.Proofs.YtpogpibjkolioaaGreat.Fc

