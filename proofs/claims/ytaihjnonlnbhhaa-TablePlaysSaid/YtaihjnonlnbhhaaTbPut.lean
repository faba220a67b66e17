/- A table: Put. Conditions: each theorem's own. -/
import Derived.Test.YtaihjnonlnbhhaaTbTab
set_option linter.unusedVariables false
namespace Go.Proofs.Ytaihjnonlnbhhaa.Tb
open Go.RowKit Hp TbM TbN TbR
attribute [local go_sem ↓] Go.wp_at_zero Go.wp_at_succ
/-- Room that was made, opened. -/
def RoomO (S : List (Option (Ky × Int))) (v : Value) (c : Nat) (w : World) (e : Ending) (w' : World) : Prop :=
  ∃ (g : Nat) (S' : List (Option (Ky × Int))), e = .returned (.slice (some ⟨g, 0, none⟩) S'.length S'.length) ∧ Blk w' g (fl S') 108 ∧ Fit S' ∧ 2 * c ≤ S'.length ∧ (kvs S').Perm (kvs S) ∧ (v.ownBlock = some g ∨ w.heap.size ≤ g ∧ g < w'.heap.size) ∧ Kept (fun _ => False) w w'
theorem RoomP.opened {S : List (Option (Ky × Int))} {v : Value} {c : Nat} {w w' : World} {e : Ending} (h : RoomP S v c w e w') : RoomO S v c w e w' := by
  obtain ⟨v', S', rfl, hS, hF, hc, hp, ho, hk⟩ := h
  rcases hS with ⟨rfl, _⟩ | ⟨g, rfl, hB⟩
  · have := hF.least; simp at this
  · exact ⟨g, S', rfl, hB, hF, hc, hp, ho g rfl, hk⟩
theorem put_nil (k : Ky) (v : Int) (w : World) : Calls Try.prog 43 #[.pointer none, ky k, ev v] w fun e w' => e = .returned (.int .i64 4) ∧ Kept (fun _ => False) w w' := by
  have C := Lib.hid fun (w' : World) => tfind_nil k w'
  obtain ⟨k1, k2⟩ := k
  go_enter Try.func43, Try.ntmps43
  go_upto_region 1 with fail
  have hR := Blk.new w [.int .i64 k1, .int .u64 k2] 62
  have hk := (Kept.refl (fun _ => False) w).alloc (.cells [.int .i64 k1, .int .u64 k2].toArray 62)
  dsimp only [List.toArray] at hR hk
  have c0 := hR.cell (o := 0) rfl
  have c1 := hR.cell (o := 1) rfl
  have HK := Lib.hid hk
  clear hR hk
  generalize w.alloc (.cells #[.int .i64 k1, .int .u64 k2] 62) = w1 at *
  generalize w.heap.size = rb at *
  go_wp2_with fail
  with_reducible refine Calls.mono (C.out _) ?_
  rintro e w2 ⟨rfl, hk2⟩
  have HK2 := Lib.hid (HK.out.trans hk2)
  clear hk2 c0 c1 C
  go_wp2_with fail
  go_quiet (fail)
  go_wp2_with fail
  go_ret
  exact ⟨rfl, HK2.out.drewN _⟩
set_option maxHeartbeats 4000000 in
theorem put_there {w : World} {base : Nat} {F : Nat → Prop} {b most : Nat} {m : List (Ky × Int)} (h : TabV w base F b most m) {k : Ky} {u : Int} (hm : (k, u) ∈ m) (v : Int) :
    Calls Try.prog 43 #[.pointer (some ⟨b, 0, none⟩), ky k, ev v] w fun e w' => e = .returned (.int .i64 6) ∧ Kept (fun _ => False) w w' := by
  obtain ⟨S, v0, h⟩ := h
  obtain ⟨i, hi⟩ := mem_kvs.1 (h.perm.mem_iff.2 hm)
  have C := Lib.hid fun (w' : World) (hk : Kept (fun _ => False) w w') => tfind_hit (h.old hk) hi
  clear h hi hm
  obtain ⟨k1, k2⟩ := k
  go_enter Try.func43, Try.ntmps43
  go_upto_region 1 with fail
  have hR := Blk.new w [.int .i64 k1, .int .u64 k2] 62
  have hk := (Kept.refl (fun _ => False) w).alloc (.cells [.int .i64 k1, .int .u64 k2].toArray 62)
  dsimp only [List.toArray] at hR hk
  have c0 := hR.cell (o := 0) rfl
  have c1 := hR.cell (o := 1) rfl
  have HK := Lib.hid hk
  clear hR hk
  generalize w.alloc (.cells #[.int .i64 k1, .int .u64 k2] 62) = w1 at *
  generalize w.heap.size = rb at *
  go_wp2_with fail
  with_reducible refine Calls.mono (C.out _ HK.out) ?_
  rintro e w2 ⟨rfl, hk2⟩
  have HK2 := Lib.hid (HK.out.trans hk2)
  clear hk2 c0 c1 C
  go_wp2_with fail
  go_ret
  exact ⟨rfl, HK2.out⟩
set_option maxHeartbeats 4000000 in
theorem put_full {w : World} {base : Nat} {F : Nat → Prop} {b most : Nat} {m : List (Ky × Int)} (h : TabV w base F b most m) {k : Ky} (hno : ∀ u, (k, u) ∉ m) (hm : most ≤ m.length) (v : Int) :
    Calls Try.prog 43 #[.pointer (some ⟨b, 0, none⟩), ky k, ev v] w fun e w' => e = .returned (.int .i64 4) ∧ Kept (fun _ => False) w w' := by
  obtain ⟨S, v0, h⟩ := h
  have C := Lib.hid fun (w' : World) (hk : Kept (fun _ => False) w w') => tfind_miss (h.old hk) hno
  have HT := Lib.hid h.blk
  have hd : decide (most ≤ m.length) = true := decide_eq_true hm
  clear h hno
  obtain ⟨k1, k2⟩ := k
  generalize m.length = ml at *
  go_enter Try.func43, Try.ntmps43
  go_upto_region 1 with fail
  have hR := Blk.new w [.int .i64 k1, .int .u64 k2] 62
  have hk := (Kept.refl (fun _ => False) w).alloc (.cells [.int .i64 k1, .int .u64 k2].toArray 62)
  dsimp only [List.toArray] at hR hk
  have c0 := hR.cell (o := 0) rfl
  have c1 := hR.cell (o := 1) rfl
  have HK := Lib.hid hk
  clear hR hk
  generalize w.alloc (.cells #[.int .i64 k1, .int .u64 k2] 62) = w1 at *
  generalize w.heap.size = rb at *
  go_wp2_with fail
  with_reducible refine Calls.mono (C.out _ HK.out) ?_
  rintro e w2 ⟨⟨i, rfl⟩, hk2⟩
  have HK2 := Lib.hid (HK.out.trans hk2)
  clear hk2 c0 c1 C
  have t0 := (HK2.out.blk HT.out (fun f => f)).cell (o := 0) rfl
  have t1 := (HK2.out.blk HT.out (fun f => f)).cell (o := 1) rfl
  go_wp2_with fail
  go_quiet (fail)
  go_wp2_with fail
  go_ret
  exact ⟨rfl, HK2.out.drewN _⟩
/-- What Put leaves. -/
def PutP (w : World) (base : Nat) (F : Nat → Prop) (b most : Nat) (m : List (Ky × Int)) (k : Ky) (v : Int) (e : Ending) (w' : World) : Prop :=
  e = .returned (.int .i64 0) ∧ TabV w' base (More F w w') b most ((k, v) :: m) ∧ Kept F w w'
set_option maxRecDepth 100000 in
set_option maxHeartbeats 8000000 in
theorem put_new {w : World} {base : Nat} {F : Nat → Prop} {b most : Nat} {m : List (Ky × Int)} (h : TabV w base F b most m) (hbase : base ≤ w.heap.size) {k : Ky} (hno : ∀ u, (k, u) ∉ m) (hm : m.length < most) (hfew : m.length < 1000) (v : Int) :
    Calls Try.prog 43 #[.pointer (some ⟨b, 0, none⟩), ky k, ev v] w (PutP w base F b most m k v) := by
  obtain ⟨S, v0, h⟩ := h
  have C := Lib.hid fun (w' : World) (hk : Kept (fun _ => False) w w') => tfind_miss (h.old hk) hno
  have HT := Lib.hid h.blk
  have hd : decide (most ≤ m.length) = false := by rw [decide_eq_false_iff_not]; omega
  have hp := h.perm.length_eq
  have hr := h.room
  have R := Lib.hid fun (w' : World) (hk : Kept (fun _ => False) w w') => (room_any (h.old hk).slots h.fit h.nd (c := m.length + 1) (by omega) (by omega) (by omega) (Or.inl (by omega))).mono fun _ _ h => RoomP.opened h
  have H := Lib.hid h
  have HNO := Lib.hid hno
  clear h hno hp hr
  obtain ⟨k1, k2⟩ := k
  have hw : IntKind.i64.wrap (((m.length : Nat) : Int) + 1) = ((m.length : Nat) : Int) + 1 := by rw [IntKind.wrap_i64]; omega
  have hcast : ((m.length : Nat) : Int) + 1 = ((m.length + 1 : Nat) : Int) := by omega
  obtain ⟨ml, hml⟩ : ∃ ml, ml = m.length := ⟨_, rfl⟩
  rw [← hml] at hm hd HT hfew hw hcast R
  have HML := Lib.hid hml
  clear hml
  rw [← hcast] at R
  clear hcast
  go_enter Try.func43, Try.ntmps43
  go_upto_region 1 with fail
  have hR := Blk.new w [.int .i64 k1, .int .u64 k2] 62
  have hk := (Kept.refl (fun _ => False) w).alloc (.cells [.int .i64 k1, .int .u64 k2].toArray 62)
  dsimp only [List.toArray] at hR hk
  have c0 := hR.cell (o := 0) rfl
  have c1 := hR.cell (o := 1) rfl
  have HR := Lib.hid hR
  have HK := Lib.hid hk
  clear hR hk
  generalize w.alloc (.cells #[.int .i64 k1, .int .u64 k2] 62) = w1 at *
  obtain ⟨rb, hrb⟩ : ∃ rb, w.heap.size = rb := ⟨_, rfl⟩
  rw [hrb] at c0 c1 HR ⊢
  have HRB := Lib.hid hrb
  clear hrb
  go_wp2_with fail
  with_reducible refine Calls.mono (C.out _ HK.out) ?_
  rintro e w2 ⟨⟨i, rfl⟩, hk2⟩
  have HK2 := Lib.hid (HK.out.trans hk2)
  have HR2 := Lib.hid (hk2.blk HR.out (fun f => f))
  clear hk2 c0 c1 C HR HK
  have t0 := (HK2.out.blk HT.out (fun f => f)).cell (o := 0) rfl
  have t1 := (HK2.out.blk HT.out (fun f => f)).cell (o := 1) rfl
  go_wp2_with fail
  go_quiet (fail)
  go_wp2_with fail
  generalize hw3 : w2.drewN nq = w3
  have HK3 : Hid (Kept (fun _ => False) w w3) := by subst hw3; exact Lib.hid (HK2.out.drewN _)
  have HR3 : Hid (Blk w3 rb [.int .i64 k1, .int .u64 k2] 62) := by subst hw3; exact HR2
  clear hw3 HK2 HR2 t0 t1
  have t1 := (HK3.out.blk HT.out (fun f => f)).cell (o := 1) rfl
  have t2 := (HK3.out.blk HT.out (fun f => f)).cell (o := 2) rfl
  go_region_with (first | (go_at_call 58; (with_reducible refine Calls.mono (R.out _ HK3.out.drew) ?_); rintro e w4 ⟨g, S', rfl, hB4, hF4, hc4, hp4, ho4, hk4⟩; have q2 := (hk4.blk (HK3.out.drew.blk HT.out (fun f => f)) (fun f => f)).cell (o := 2) rfl; have f2 := (hk4.blk (HK3.out.drew.blk HT.out (fun f => f)) (fun f => f)).frozen 2))
  all_goals
    have hkw : Kept (fun _ => False) w w4 := HK3.out.drew.trans hk4
    have hb4 := hkw.blk HT.out (fun f => f)
    have hr4 := hk4.blk HR3.out.drew (fun f => f)
    have hgb : g ≠ b := fun e => by rw [e] at hB4; exact absurd (hB4.inj hb4).2 (by decide)
    have hbl := HT.out.lt
    have hrb : rb ≠ b := fun e => by have := HRB.out; omega
    have hgr : g ≠ rb := fun e => by rw [e] at hB4; exact absurd (hB4.inj hr4).2 (by decide)
    have k45 := Kept.one w4 b 2 (.slice (some ⟨g, 0, none⟩) S'.length S'.length)
    have hb5 := hb4.set 2 (.slice (some ⟨g, 0, none⟩) S'.length S'.length)
    have hB5 := k45.blk hB4 hgb
    have hr5 := k45.blk hr4 hrb
    have hgF : F g ∨ w.heap.size ≤ g ∧ g < w4.heap.size := by
      rcases ho4 with e | ⟨e1, e2⟩
      · exact Or.inl (H.out.fv g e)
      · have := HK3.out.size; exact Or.inr ⟨Nat.le_trans this e1, e2⟩
    have hk05 : Kept F w (w4.setCell ⟨b, 2, none⟩ (.slice (some ⟨g, 0, none⟩) S'.length S'.length)) := (hkw.mono (fun _ _ f => f.elim)).trans' k45 (fun i hi e => e ▸ H.out.fb)
    have hs5 : (w4.setCell ⟨b, 2, none⟩ (.slice (some ⟨g, 0, none⟩) S'.length S'.length)).heap.size = w4.heap.size := by simp
    change Blk _ b [.int .i64 most, .int .i64 ml, .slice (some ⟨g, 0, none⟩) S'.length S'.length] _ at hb5
    generalize w4.setCell ⟨b, 2, none⟩ (.slice (some ⟨g, 0, none⟩) S'.length S'.length) = w5 at *
    obtain ⟨f, hf⟩ := one_free (S := S') (by have e1 := hp4.length_eq; have e2 := H.out.perm.length_eq; have e3 := HML.out; omega)
    have FL := Lib.hid fun (w' : World) (hk : Kept (fun _ => False) w5 w') => fill_any (hk.blk hB5 (fun f => f)) hF4.pow hf (k1, k2) v (fun u hu => HNO.out u (H.out.perm.mem_iff.1 (hp4.mem_iff.1 hu)))
    have r0 := hr5.cell (o := 0) rfl
    have r1 := hr5.cell (o := 1) rfl
    have b2 := hb5.cell (o := 2) rfl
    have HB5 := Lib.hid hb5
    have HF4 := Lib.hid hF4
    have HC4 := Lib.hid hc4
    have HP4 := Lib.hid hp4
    have HK5 := Lib.hid hk05
    have HS5 := Lib.hid hs5
    have HGF := Lib.hid hgF
    clear hkw hb4 hr4 k45 hb5 hB5 hr5 hgF hk05 hs5 hB4 hF4 hc4 hp4 ho4 hk4 hf t1 t2 q2 f2 HK3 HR3 hgr hrb
    go_wp2_with fail
    go_still_tail 6, (by kernel_rfl)
    change wpList _ _ _ _ _ w5.drew
    go_wp2_with fail
    with_reducible refine Calls.mono (FL.out _ (Kept.refl _ w5).drew) ?_
    rintro e w6 hFP
    obtain ⟨S2, hl2, hP2, hp2, hB6, hk6⟩ := hFP.good HF4.out.path
    have he := hFP.1
    subst he
    have hk56 : Kept (fun j => j = g) w5 w6 := ((Kept.refl _ w5).drew).trans hk6
    have hb6 := hk56.blk HB5.out (fun e => hgb e.symm)
    have b1 := hb6.cell (o := 1) rfl
    have g1 := hb6.frozen 1
    clear r0 r1 b2
    have hs6 := hk56.size
    have P : Hid (PutP w base F b most m (k1, k2) v (.returned (.int .i64 0)) (w6.setCell ⟨b, 1, none⟩ (.int .i64 ((ml : Int) + 1)))) := by
      have k67 := Kept.one w6 b 1 (.int .i64 ((ml : Int) + 1))
      have hs7 : (w6.setCell ⟨b, 1, none⟩ (.int .i64 ((ml : Int) + 1))).heap.size = w6.heap.size := by simp
      have hb7 := hb6.set 1 (.int .i64 ((ml : Int) + 1))
      have hB7 := k67.blk hB6 hgb
      generalize w6.setCell ⟨b, 1, none⟩ (.int .i64 ((ml : Int) + 1)) = w7 at *
      have hsz : w.heap.size ≤ w7.heap.size := by have := HK5.out.size; omega
      have e2 := HP4.out.length_eq
      have e3 := HML.out
      have e4 := HC4.out
      refine Lib.hid ⟨rfl, ⟨S2, .slice (some ⟨g, 0, none⟩) S2.length S2.length, ⟨?_, Or.inr ⟨g, rfl, hB7, ⟨by rw [hl2]; exact HF4.out.pow, by rw [hl2]; exact HF4.out.least, by rw [← hl2] at hP2; exact hP2⟩⟩, ?_, ?_, ?_, Or.inl H.out.fb, ?_, ?_, ?_, H.out.most1⟩⟩, ?_⟩
      · rw [hl2]
        change Blk w7 b [.int .i64 most, .int .i64 ((ml : Int) + 1), .slice (some ⟨g, 0, none⟩) S'.length S'.length] _ at hb7
        rw [show (((((k1, k2), v) :: m).length : Nat) : Int) = (ml : Int) + 1 by rw [List.length_cons]; omega]
        exact hb7
      · rw [hl2, List.length_cons]; omega
      · exact hp2.trans ((HP4.out.trans H.out.perm).cons _)
      · rw [List.map_cons, List.nodup_cons]
        refine ⟨fun hmem => ?_, H.out.keys⟩
        obtain ⟨x, hx, hxe⟩ := List.mem_map.1 hmem
        obtain ⟨x1, x2⟩ := x
        simp only at hxe
        subst hxe
        exact HNO.out x2 hx
      · intro g' e
        have : g = g' := Option.some.inj e
        subst this
        rcases HGF.out with h | ⟨h1, h2⟩
        · exact Or.inl h
        · have := HS5.out; exact Or.inr ⟨h1, by omega⟩
      · rintro i (h | h)
        · have := H.out.own i h; exact ⟨this.1, by omega⟩
        · exact ⟨by omega, h.2⟩
      · rw [List.length_cons]; omega
      · refine (HK5.out.trans' hk56 (fun i hi e => ?_)).trans' k67 (fun i hi e => e ▸ H.out.fb)
        subst e
        rcases HGF.out with h | ⟨h1, h2⟩
        · exact h
        · omega
    clear hk56 hb6 hB6 hk6 hFP hs6
    go_wp2_with fail
    go_ret
    exact P.out
end Go.Proofs.Ytaihjnonlnbhhaa.Tb
