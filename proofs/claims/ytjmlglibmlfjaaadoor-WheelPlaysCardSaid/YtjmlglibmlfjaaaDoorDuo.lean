/- The program's wheel and the reference's beside each other: what each call answers and leaves. Conditions: each theorem's own. -/
import Derived.Test.YtjmlglibmlfjaaaDoorRefA
import Derived.Test.YtjmlglibmlfjaaaDoorRefC
import Derived.Test.YtjmlglibmlfjaaaDoorSame
set_option linter.unusedVariables false
namespace Go.Proofs.YtjmlglibmlfjaaaDoor.Duo
open Go.RowKit Hp BitsC Tree Im Wk Rf Go.Proofs.YtjmlglibmlfjaaaDoor.End
open Wh (Tab)
/-- Both wheels, and the step's numbers in a block of their own. -/
structure Duo (W : World) (b c x most : Nat) (kd at_ z n : Int) (now last : Nat) (K : List Key) (F : Nat → Prop) (now' last' : Nat) (K' : List Key) (v : Value) (w : World) : Prop where
  wl : Wl w b most now last K F
  rw : RW w W.heap.size c most now' last' K' v
  dc : ¬ F c
  dv : ∀ g, v.ownBlock = some g → ¬ F g
  fb : ∀ k, F k → W.heap.size ≤ k
  cb : W.heap.size ≤ c
  tab : Tab w
  cx : Blk w x [.int .i64 kd, .int .i64 at_, .int .i64 z, .int .i64 n] 33
  xF : ¬ F x
  xc : x ≠ c
  xv : v.ownBlock ≠ some x
  old : Old W w
  t0 : (0) < W.heap.size
variable {W : World} {b c x most : Nat} {kd at_ z n : Int} {now last : Nat} {K : List Key} {F : Nat → Prop} {now' last' : Nat} {K' : List Key} {v : Value} {w : World}
theorem Duo.drew (h : Duo W b c x most kd at_ z n now last K F now' last' K' v w) : Duo W b c x most kd at_ z n now last K F now' last' K' v w.drew :=
  ⟨h.wl.kept ((Kept.refl (fun _ => False) w).drew) (fun _ _ h => h), ⟨h.rw.hb, h.rw.row, h.rw.own⟩, h.dc, h.dv, h.fb, h.cb, h.tab, h.cx, h.xF, h.xc, h.xv, h.old.drew, h.t0⟩
theorem Duo.keep (h : Duo W b c x most kd at_ z n now last K F now' last' K' v w) {w' : World} (k : Kept (fun _ => False) w w') : Duo W b c x most kd at_ z n now last K F now' last' K' v w' :=
  ⟨h.wl.kept k (fun _ _ h => h), ⟨k.blk h.rw.hb (fun h => h), h.rw.row.kept k (fun _ _ h => h), h.rw.own⟩, h.dc, h.dv, h.fb, h.cb, h.tab.kept k (fun h => h), k.blk h.cx (fun h => h), h.xF, h.xc, h.xv, h.old.trans k, h.t0⟩
theorem Duo.prog (h : Duo W b c x most kd at_ z n now last K F now' last' K' v w) {w' : World} {now2 last2 : Nat} {K2 : List Key} {F2 : Nat → Prop} (hw : Wl w' b most now2 last2 K2 F2) (k : Kept F w w') (hF : ∀ i, F2 i → F i ∨ w.heap.size ≤ i) :
    Duo W b c x most kd at_ z n now2 last2 K2 F2 now' last' K' v w' := by
  have hcl := h.rw.hb.lt
  have hxl := h.cx.lt
  refine ⟨hw, ⟨k.blk h.rw.hb h.dc, h.rw.row.kept k h.dv, h.rw.own⟩, fun e => ?_, fun g hg e => ?_, fun i hi => ?_, h.cb, h.tab.kept k (fun e => by have := h.fb _ e; have := h.t0; omega), k.blk h.cx h.xF, fun e => ?_, h.xc, h.xv, h.old.trans' k (fun i hi e => by have := h.fb i e; omega), h.t0⟩
  · rcases hF c e with e | e
    · exact h.dc e
    · omega
  · rcases hF g e with e | e
    · exact h.dv g hg e
    · have := (h.rw.row.lt g hg).2; omega
  · rcases hF i hi with e | e
    · exact h.fb i e
    · exact Nat.le_trans h.old.size e
  · rcases hF x e with e | e
    · exact h.xF e
    · omega
theorem Duo.ref (h : Duo W b c x most kd at_ z n now last K F now' last' K' v w) {w' : World} {now2 last2 : Nat} {K2 : List Key} {v2 : Value} (hr : RW w' w.heap.size c most now2 last2 K2 v2) (k : Kept (fun k => k = c) w w') (hv : ∀ g, v2.ownBlock = some g → w.heap.size ≤ g) :
    Duo W b c x most kd at_ z n now last K F now2 last2 K2 v2 w' :=
  ⟨h.wl.kept k (fun i hi e => h.dc (e ▸ hi)), ⟨hr.hb, hr.row.base (fun g hg => Nat.le_trans h.old.size (hv g hg)), hr.own⟩, h.dc, fun g hg e => by have := hv g hg; have := h.wl.lt g e; omega, h.fb, h.cb,
    h.tab.kept k (fun e => by have := h.cb; have := h.t0; omega), k.blk h.cx (fun e => h.xc e), h.xF, h.xc, fun e => by have := hv x e; have := h.cx.lt; omega, h.old.trans' k (fun i hi e => by have := h.cb; omega), h.t0⟩
/-! ## What is asked of K -/
structure Fine (most now last : Nat) (K : List Key) : Prop where
  srt : Sorted K
  len : K.length ≤ most
  m0 : 1 ≤ most
  m1 : most ≤ 100000
  n1 : now ≤ 1125899906842624
theorem ins_sorted {y : Key} {K : List Key} (h : Sorted K) : Sorted (ins y K) := by
  unfold Sorted ins
  rw [List.pairwise_append, List.pairwise_cons]
  refine ⟨h.filter _, ⟨fun k hk => ?_, h.filter _⟩, fun k hk k' hk' => ?_⟩
  · have := of_decide_eq_true (List.mem_filter.1 hk).2
    omega
  · have h1 := of_decide_eq_true (List.mem_filter.1 hk).2
    rcases List.mem_cons.1 hk' with rfl | hk'
    · exact h1
    · have h2 := of_decide_eq_true (List.mem_filter.1 hk').2
      omega
theorem without_mid {A B : List Key} {y : Key} (hn : ((A ++ y :: B).map (·.2.1)).Nodup) : without y.2.1 (A ++ y :: B) = A ++ B := by
  rw [List.map_append, List.map_cons, List.nodup_append, List.nodup_cons] at hn
  unfold without
  rw [List.filter_append, List.filter_cons_of_neg (by simp)]
  have hA : ∀ x ∈ A, decide (x.2.1 ≠ y.2.1) = true := fun x hx => decide_eq_true (hn.2.2 _ (List.mem_map_of_mem hx) _ (by simp))
  have hB : ∀ x ∈ B, decide (x.2.1 ≠ y.2.1) = true := fun x hx => decide_eq_true (fun e => hn.2.1.1 (by rw [← e]; exact List.mem_map_of_mem hx))
  rw [filter_all hA, filter_all hB]
theorem without_cut {K : List Key} (hn : (K.map (·.2.1)).Nodup) {m id : Nat} (hm : m < K.length) (hid : K[m].2.1 = id) : without id K = K.take m ++ K.drop (m + 1) := by
  obtain ⟨y, hy⟩ : ∃ y, y = K[m] := ⟨_, rfl⟩
  rw [← hy] at hid
  have hs : K.take m ++ y :: K.drop (m + 1) = K := by rw [hy, ← List.drop_eq_getElem_cons hm, List.take_append_drop]
  have := without_mid (A := K.take m) (y := y) (B := K.drop (m + 1)) (by rw [hs]; exact hn)
  rw [hs, hid] at this
  exact this
theorem ids_ne {K : List Key} (hn : (K.map (·.2.1)).Nodup) {m id : Nat} (hm : m < K.length) (hid : K[m].2.1 = id) : ∀ j (hj : j < K.length), j < m → K[j].2.1 ≠ id := fun j hj hjm e => by
  have := List.pairwise_iff_getElem.1 hn j m (by simpa using hj) (by simpa using hm) hjm
  simp at this
  exact this (by rw [e, hid])
theorem row_low {w : World} {B B' : Nat} {v : Value} {K : List Key} (h : Row w B v K) (hB : B' ≤ B) : Row w B' v K := by
  rcases h.2 with ⟨rfl, h0⟩ | ⟨g, cap, cur, rfl, h1, h2⟩
  · exact ⟨h.1, Or.inl ⟨rfl, h0⟩⟩
  · exact ⟨h.1, Or.inr ⟨g, cap, cur, rfl, Nat.le_trans hB h1, h2⟩⟩
section
variable (h : Duo W b c x most kd at_ z n now last K F now' last' K' v w)
include h
theorem addP_yes (a : Nat) (ha : a ≤ 1125899906842624) (hroom : K.length < most) (hlast : last ≤ 1000000000) :
    Calls Tryd.prog 6 #[.pointer (some ⟨b, 0, none⟩), .int .i64 a, .int .i64 z] w fun e w' => e = .returned (.tuple #[.int .i64 ((last + 1 : Nat) : Int), .int .i64 0]) ∧ ∃ F2, Duo W b c x most kd at_ z n now (last + 1) (ins (max a now, last + 1, z) K) F2 now' last' K' v w' :=
  (Wk.add_ok h.wl a z ha hroom hlast).mono fun e w' ⟨F2, e1, h1, h2, h3⟩ => ⟨e1, F2, h.prog h1 h2 h3⟩
theorem addR_yes (a : Nat) (ha : a ≤ 1125899906842624) (hroom : K'.length < most) (hmost : most ≤ 100000) (hlast : last' ≤ 1000000000) (hN : now' ≤ 1125899906842624) (hs : Sorted K') :
    Calls Tryd.prog 7 #[.pointer (some ⟨c, 0, none⟩), .int .i64 a, .int .i64 z] w fun e w' => e = .returned (.tuple #[.int .i64 ((last' + 1 : Nat) : Int), .int .i64 0]) ∧ ∃ v2, Duo W b c x most kd at_ z n now last K F now' (last' + 1) (ins (max a now', last' + 1, z) K') v2 w' :=
  (Rf.add_ok h.rw a z ha hroom hmost hlast hN hs).mono fun e w' ⟨v2, e1, h1, h2, h3⟩ => ⟨e1, v2, h.ref h1 h2 h3⟩
theorem addP_full (a : Nat) (ha : a ≤ 1125899906842624) (hfull : most ≤ K.length) :
    Calls Tryd.prog 6 #[.pointer (some ⟨b, 0, none⟩), .int .i64 a, .int .i64 z] w fun e w' => e = .returned (.tuple #[.int .i64 0, .int .i64 4]) ∧ Duo W b c x most kd at_ z n now last K F now' last' K' v w' :=
  (Wk.add_full h.wl a z ha hfull).mono fun e w' ⟨e1, k, hk⟩ => ⟨e1, by rw [hk]; exact h.keep ((Kept.refl _ w).drewN k)⟩
theorem addR_full (a : Nat) (ha : a ≤ 1125899906842624) (hfull : most ≤ K'.length) (hsm : K'.length ≤ 100000) :
    Calls Tryd.prog 7 #[.pointer (some ⟨c, 0, none⟩), .int .i64 a, .int .i64 z] w fun e w' => e = .returned (.tuple #[.int .i64 0, .int .i64 4]) ∧ Duo W b c x most kd at_ z n now last K F now' last' K' v w' :=
  (Rf.add_full h.rw a z ha hfull hsm).mono fun e w' ⟨e1, k, hk⟩ => ⟨e1, by rw [hk]; exact h.keep ((Kept.refl _ w).drewN k)⟩
theorem canP_yes (id : Nat) (hid : ∃ k ∈ K, k.2.1 = id) :
    Calls Tryd.prog 8 #[.pointer (some ⟨b, 0, none⟩), .int .i64 id] w fun e w' => e = .returned (.int .i64 0) ∧ ∃ F2, Duo W b c x most kd at_ z n now last (without id K) F2 now' last' K' v w' :=
  (Wk.cancel_yes h.wl h.tab id hid).mono fun e w' ⟨F2, e1, h1, h2, h3⟩ => ⟨e1, F2, h.prog h1 h2 fun i hi => Or.inl (h3 i hi)⟩
theorem canR_yes (id : Nat) (hsm : K'.length ≤ 100000) (hn : (K'.map (·.2.1)).Nodup) (hid : ∃ k ∈ K', k.2.1 = id) :
    Calls Tryd.prog 9 #[.pointer (some ⟨c, 0, none⟩), .int .i64 id] w fun e w' => e = .returned (.int .i64 0) ∧ ∃ v2, Duo W b c x most kd at_ z n now last K F now' last' (without id K') v2 w' := by
  obtain ⟨k, hk, hid⟩ := hid
  obtain ⟨m, hm, rfl⟩ := List.mem_iff_getElem.1 hk
  refine (Rf.can_yes h.rw id m hsm hm hid (ids_ne hn hm hid)).mono fun e w' ⟨v2, e1, h1, h2, h3⟩ => ⟨e1, v2, ?_⟩
  rw [without_cut hn hm hid]
  exact h.ref h1 h2 h3
theorem canP_no (id : Int) (hid : ∀ k ∈ K, (k.2.1 : Int) ≠ id) :
    Calls Tryd.prog 8 #[.pointer (some ⟨b, 0, none⟩), .int .i64 id] w fun e w' => e = .returned (.int .i64 5) ∧ Duo W b c x most kd at_ z n now last K F now' last' K' v w' :=
  (Wk.cancel_no h.wl id hid).mono fun e w' ⟨e1, e2⟩ => ⟨e1, e2 ▸ h⟩
theorem canR_no (id : Int) (hsm : K'.length ≤ 100000) (hid : ∀ k ∈ K', (k.2.1 : Int) ≠ id) :
    Calls Tryd.prog 9 #[.pointer (some ⟨c, 0, none⟩), .int .i64 id] w fun e w' => e = .returned (.int .i64 5) ∧ Duo W b c x most kd at_ z n now last K F now' last' K' v w' :=
  (Rf.can_no h.rw id hsm hid).mono fun e w' ⟨e1, e2⟩ => ⟨e1, e2 ▸ h⟩
theorem advP (tgt : Int) (hsm : K.length ≤ 100000) (n2 : Nat) (hn : (n2 : Int) = max (now : Int) (min tgt 1125899906842624)) :
    Calls Tryd.prog 11 #[.pointer (some ⟨b, 0, none⟩), .int .i64 tgt] w fun e w' => ∃ F2 s cap, e = .returned (.slice s (upTo n2 K).length cap) ∧ Row w' w.heap.size (.slice s (upTo n2 K).length cap) (upTo n2 K) ∧ w.heap.size ≤ w'.heap.size ∧ Duo W b c x most kd at_ z n n2 last (past n2 K) F2 now' last' K' v w' :=
  (Wk.advance_any h.wl h.tab tgt hsm n2 hn).mono fun e w' ⟨F2, va, e1, r1, h1, h2, h3⟩ => by
    have r1 : Row w' w.heap.size va (upTo n2 K) := r1
    obtain ⟨s, cap, rfl, _⟩ := r1.shape rfl
    exact ⟨F2, s, cap, e1, r1, h2.size, h.prog h1 h2 fun i hi => Or.inl (h3 i hi)⟩
theorem advR (tgt : Int) (hsm : K'.length ≤ 100000) (hN : now' ≤ 1125899906842624) (hs : Sorted K') (n2 : Nat) (hn : (n2 : Int) = max (now' : Int) (min tgt 1125899906842624)) {B : Nat} {va : Value} {Q : List Key} (hB : W.heap.size ≤ B) (hcB : c < B) (ra : Row w B va Q) :
    Calls Tryd.prog 12 #[.pointer (some ⟨c, 0, none⟩), .int .i64 tgt] w fun e w' => ∃ v2 s cap, e = .returned (.slice s (upTo n2 K').length cap) ∧ RRow w' w.heap.size (.slice s (upTo n2 K').length cap) (upTo n2 K') ∧ Row w' B va Q ∧ Duo W b c x most kd at_ z n now last K F n2 last' (past n2 K') v2 w' :=
  (Rf.adv_any h.rw tgt n2 hn hsm hN hs).mono fun e w' ⟨v1, v2, e1, r1, h1, h2, h3⟩ => by
    obtain ⟨s, cap, rfl, _⟩ := r1.form
    exact ⟨v2, s, cap, e1, r1, ra.kept h2 (fun g hg _ e => by omega), h.ref h1 h2 h3⟩
theorem sameD {B1 B2 : Nat} {Q : List Key} (s1 s2 : Option Addr) (cap1 cap2 : Nat) (hsm : Q.length ≤ 100000) (h1 : Row w B1 (.slice s1 Q.length cap1) Q) (h2 : RRow w B2 (.slice s2 Q.length cap2) Q) :
    Calls Tryd.prog 10 #[.slice s1 Q.length cap1, .slice s2 Q.length cap2] w fun e w' => e = .returned (.bool true) ∧ Duo W b c x most kd at_ z n now last K F now' last' K' v w' :=
  (Rf.same_yes s1 s2 cap1 cap2 hsm h1 h2).mono fun e w' ⟨e1, k⟩ => ⟨e1, h.keep k⟩
theorem nextD : Calls Tryd.prog 13 #[.pointer (some ⟨b, 0, none⟩)] w fun e w' => e = .returned (nextK K) ∧ Duo W b c x most kd at_ z n now last K F now' last' K' v w' :=
  (Wk.next_any h.wl h.tab).mono fun e w' ⟨e1, k, hk⟩ => ⟨e1, by rw [hk]; exact h.keep ((Kept.refl _ w).drewN k)⟩
theorem advP' (hsm : K.length ≤ 100000) (n2 : Nat) (hn : (n2 : Int) = max (now : Int) (min at_ 1125899906842624)) (N : Nat) (hN : N = (upTo n2 K).length) :
    Calls Tryd.prog 11 #[.pointer (some ⟨b, 0, none⟩), .int .i64 at_] w fun e w' => ∃ F2 s cap, e = .returned (.slice s N cap) ∧ Row w' (c + 1) (.slice s (upTo n2 K).length cap) (upTo n2 K) ∧ Duo W b c x most kd at_ z n n2 last (past n2 K) F2 now' last' K' v w' :=
  (advP h at_ hsm n2 hn).mono fun e w' ⟨F2, s, cap, e1, r1, _, h1⟩ => ⟨F2, s, cap, by rw [hN]; exact e1, row_low r1 h.rw.hb.lt, h1⟩
theorem advR' (hsm : K'.length ≤ 100000) (hT : now' ≤ 1125899906842624) (hs : Sorted K') (n2 : Nat) (hn : (n2 : Int) = max (now' : Int) (min at_ 1125899906842624)) (N : Nat) (hN : N = (upTo n2 K').length) {va : Value} {Q : List Key} (ra : Row w (c + 1) va Q) :
    Calls Tryd.prog 12 #[.pointer (some ⟨c, 0, none⟩), .int .i64 at_] w fun e w' => ∃ v2 s cap, e = .returned (.slice s N cap) ∧ RRow w' 0 (.slice s (upTo n2 K').length cap) (upTo n2 K') ∧ Row w' (c + 1) va Q ∧ Duo W b c x most kd at_ z n now last K F n2 last' (past n2 K') v2 w' :=
  (advR h at_ hsm hT hs n2 hn (B := c + 1) (Nat.le_succ_of_le h.cb) (Nat.lt_succ_self c) ra).mono fun e w' ⟨v2, s, cap, e1, r1, r2, h1⟩ => ⟨v2, s, cap, by rw [hN]; exact e1, r1.base (fun g hg => Nat.zero_le g), r2, h1⟩
theorem sameD' {Q : List Key} (N : Nat) (hN : N = Q.length) (s1 s2 : Option Addr) (cap1 cap2 : Nat) (hsm : Q.length ≤ 100000) (h1 : Row w (c + 1) (.slice s1 Q.length cap1) Q) (h2 : RRow w 0 (.slice s2 Q.length cap2) Q) :
    Calls Tryd.prog 10 #[.slice s1 N cap1, .slice s2 N cap2] w fun e w' => e = .returned (.bool true) ∧ Duo W b c x most kd at_ z n now last K F now' last' K' v w' := by
  subst hN
  exact sameD h s1 s2 cap1 cap2 hsm h1 h2
end
end Go.Proofs.YtjmlglibmlfjaaaDoor.Duo
