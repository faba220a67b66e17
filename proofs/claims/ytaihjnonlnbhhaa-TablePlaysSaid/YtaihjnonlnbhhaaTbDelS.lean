/- A table: Delete. Conditions: each theorem's own. -/
import Derived.Test.YtaihjnonlnbhhaaTbPutS
import Derived.Test.YtaihjnonlnbhhaaTbEmpS
set_option linter.unusedVariables false
namespace Go.Proofs.Ytaihjnonlnbhhaa.TbS
open Go.RowKit Hp TbM TbN TbR
attribute [local go_sem ↓] Go.wp_at_zero Go.wp_at_succ
theorem len_any {w : World} {base : Nat} {F : Nat → Prop} {b most : Nat} {m : List (Ky × ByteArray)} (h : TabV w base F b most m) : Calls Try.prog 33 #[.pointer (some ⟨b, 0, none⟩)] w fun e w' => e = .returned (.int .i64 (m.length : Nat)) ∧ w = w' := by
  obtain ⟨S, v, h⟩ := h
  have c1 := h.blk.cell (o := 1) rfl
  clear h
  go_enter Try.func33, Try.ntmps33
  go_wp2_with fail
  go_ret
  exact ⟨rfl, rfl⟩
theorem del_nil (k : Ky) (w : World) : Calls Try.prog 31 #[.pointer none, ky k] w fun e w' => e = .returned (.int .i64 5) ∧ Kept (fun _ => False) w w' := by
  have C := Lib.hid fun (w' : World) => tfind_nil k w'
  obtain ⟨k1, k2⟩ := k
  go_enter Try.func31, Try.ntmps31
  go_upto_region 1 with fail
  have hR := Blk.new w [.int .i64 k1, .int .u64 k2] 62
  have hk := (Kept.refl (fun _ => False) w).alloc (.cells [.int .i64 k1, .int .u64 k2].toArray 62)
  dsimp only [List.toArray] at hR hk
  have c0 := hR.cell (o := 0) rfl
  have c1 := hR.cell (o := 1) rfl
  have HK := Lib.hid hk
  clear hR hk
  generalize w.alloc (.cells #[.int .i64 k1, .int .u64 k2] 62) = w1 at *
  generalize w.heap.size = rb at *
  go_wp2_with fail
  with_reducible refine Calls.mono (C.out _) ?_
  rintro e w2 ⟨rfl, hk2⟩
  go_wp2_with fail
  go_ret
  exact ⟨rfl, HK.out.trans hk2⟩
set_option maxHeartbeats 4000000 in
theorem del_none {w : World} {base : Nat} {F : Nat → Prop} {b most : Nat} {m : List (Ky × ByteArray)} (h : TabV w base F b most m) {k : Ky} (hno : ∀ u, (k, u) ∉ m) :
    Calls Try.prog 31 #[.pointer (some ⟨b, 0, none⟩), ky k] w fun e w' => e = .returned (.int .i64 5) ∧ Kept (fun _ => False) w w' := by
  obtain ⟨S, v0, h⟩ := h
  have C := Lib.hid fun (w' : World) (hk : Kept (fun _ => False) w w') => tfind_miss (h.old hk) hno
  clear h hno
  obtain ⟨k1, k2⟩ := k
  go_enter Try.func31, Try.ntmps31
  go_upto_region 1 with fail
  have hR := Blk.new w [.int .i64 k1, .int .u64 k2] 62
  have hk := (Kept.refl (fun _ => False) w).alloc (.cells [.int .i64 k1, .int .u64 k2].toArray 62)
  dsimp only [List.toArray] at hR hk
  have c0 := hR.cell (o := 0) rfl
  have c1 := hR.cell (o := 1) rfl
  have HK := Lib.hid hk
  clear hR hk
  generalize w.alloc (.cells #[.int .i64 k1, .int .u64 k2] 62) = w1 at *
  generalize w.heap.size = rb at *
  go_wp2_with fail
  with_reducible refine Calls.mono (C.out _ HK.out) ?_
  rintro e w2 ⟨⟨i, rfl⟩, hk2⟩
  go_wp2_with fail
  go_ret
  exact ⟨rfl, HK.out.trans hk2⟩
/-- What Delete leaves. -/
def DelP (w : World) (base : Nat) (F : Nat → Prop) (b most : Nat) (R : List (Ky × ByteArray)) (e : Ending) (w' : World) : Prop :=
  e = .returned (.int .i64 0) ∧ TabV w' base (More F w w') b most R ∧ Kept F w w'
set_option maxRecDepth 100000 in
set_option maxHeartbeats 8000000 in
theorem del_hit {w : World} {base : Nat} {F : Nat → Prop} {b most : Nat} {m R : List (Ky × ByteArray)} (h : TabV w base F b most m) (hbase : base ≤ w.heap.size) {k : Ky} {u : ByteArray} (hm : m.Perm ((k, u) :: R)) :
    Calls Try.prog 31 #[.pointer (some ⟨b, 0, none⟩), ky k] w (DelP w base F b most R) := by
  obtain ⟨S, v0, h⟩ := h.perm hm
  obtain ⟨i, hi⟩ := mem_kvs.1 (h.perm.mem_iff.2 (List.mem_cons_self ..))
  obtain ⟨g, rfl, hB, hF⟩ : ∃ g, v0 = .slice (some ⟨g, 0, none⟩) S.length S.length ∧ Blk w g (fl S) 94 ∧ Fit S := by
    rcases h.lies with ⟨rfl, _⟩ | ⟨g, e, hB, hF⟩
    · simp at hi
    · exact ⟨g, e, hB, hF⟩
  have C := Lib.hid fun (w' : World) (hk : Kept (fun _ => False) w w') => tfind_hit (h.old hk) hi
  have hil := lt_of_some hi
  have hpr : (kvs (S.set i none)).Perm R := ((kvs_take hi).symm.trans h.perm).cons_inv
  have hrm := h.room
  rw [List.length_cons] at hrm
  obtain ⟨f, hfi, hf⟩ := free_but (S := S.set i none) (g := i) (List.getElem?_set_self hil) (by rw [hpr.length_eq, List.length_set]; omega)
  have E := Lib.hid fun (w' : World) (hk : Kept (fun _ => False) w w') => empty_any (hk.blk hB (fun f => f)) hF.pow hF.path hil hf hfi
  have HT := Lib.hid h.blk
  have HB := Lib.hid hB
  have HF := Lib.hid hF
  have H := Lib.hid h
  have HPR := Lib.hid hpr
  have hfew := h.few
  rw [List.length_cons] at hfew
  have hw : IntKind.i64.wrap (((((k, u) :: R).length : Nat) : Int) - 1) = ((R.length : Nat) : Int) := by rw [IntKind.wrap_i64, List.length_cons]; omega
  have hn0 : ((((k, u) :: R).length : Nat) : Int) = ((R.length : Nat) : Int) + 1 := by rw [List.length_cons]; omega
  rw [hn0] at HT hw
  obtain ⟨ml, hml⟩ : ∃ ml, ml = R.length := ⟨_, rfl⟩
  rw [← hml] at HT hfew hw hrm
  have HML := Lib.hid hml
  have HRM := Lib.hid hrm
  clear h hi hB hm hF hf hpr hn0 hml hrm
  obtain ⟨k1, k2⟩ := k
  go_enter Try.func31, Try.ntmps31
  go_upto_region 1 with fail
  have hR := Blk.new w [.int .i64 k1, .int .u64 k2] 62
  have hk := (Kept.refl (fun _ => False) w).alloc (.cells [.int .i64 k1, .int .u64 k2].toArray 62)
  dsimp only [List.toArray] at hR hk
  have c0 := hR.cell (o := 0) rfl
  have c1 := hR.cell (o := 1) rfl
  have HK := Lib.hid hk
  clear hR hk
  generalize w.alloc (.cells #[.int .i64 k1, .int .u64 k2] 62) = w1 at *
  obtain ⟨rb, hrb⟩ : ∃ rb, w.heap.size = rb := ⟨_, rfl⟩
  rw [hrb] at c0 c1 ⊢
  clear hrb
  go_wp2_with fail
  with_reducible refine Calls.mono (C.out _ HK.out) ?_
  rintro e w2 ⟨rfl, hk2⟩
  have HK2 := Lib.hid (HK.out.trans hk2)
  clear hk2 c0 c1 C
  have hT2 := HK2.out.blk HT.out (fun f => f)
  have hB2 := HK2.out.blk HB.out (fun f => f)
  have hgb : g ≠ b := fun e => by rw [e] at hB2; exact absurd (hB2.inj hT2).2 (by decide)
  have c2 := hT2.cell (o := 2) rfl
  have HT2 := Lib.hid hT2
  clear hB2 hT2
  go_wp2_with fail
  with_reducible refine Calls.mono (E.out _ HK2.out) ?_
  rintro e w3 hE
  obtain ⟨rfl, S1, hl1, hP1, hp1, hB3, hk3⟩ := id hE
  clear hE E c2
  have hT3 := hk3.blk HT2.out (fun e => hgb e.symm)
  have c1 := hT3.cell (o := 1) rfl
  have f1 := hT3.frozen 1
  have hm1 : IntKind.i64.wrap ((ml : Int) + 1 - 1) = (ml : Int) := hw
  have k03 : Kept F w w3 := (HK2.out.mono (fun _ _ f => f.elim)).trans' hk3 (fun j hj e => by have := H.out.fv g rfl; rw [e]; exact this)
  have HB3 := Lib.hid hB3
  have HT3 := Lib.hid hT3
  have K03 := Lib.hid k03
  have HP1 := Lib.hid hP1
  have HL1 := Lib.hid hl1
  have Hp1 := Lib.hid hp1
  clear hB3 hT3 k03 hP1 hl1 hp1 hk3 HT2
  go_upto_region 6 with fail
  have k34 := Kept.one w3 b 1 (.int .i64 (ml : Int))
  have hs4 : (w3.setCell ⟨b, 1, none⟩ (.int .i64 (ml : Int))).heap.size = w3.heap.size := by simp
  have hT4 := HT3.out.set 1 (.int .i64 (ml : Int))
  change Blk _ b [.int .i64 most, .int .i64 (ml : Int), .slice (some ⟨g, 0, none⟩) S.length S.length] _ at hT4
  have hB4 := k34.blk HB3.out hgb
  have k04 := K03.out.trans' k34 (fun j hj e => e ▸ H.out.fb)
  generalize w3.setCell ⟨b, 1, none⟩ (.int .i64 (ml : Int)) = w4 at *
  have hF1 : Fit S1 := ⟨by rw [HL1.out]; exact HF.out.pow, by rw [HL1.out]; exact HF.out.least, by rw [HL1.out]; exact HP1.out⟩
  have hp1R : (kvs S1).Perm R := Hp1.out.trans HPR.out
  have hndR : (R.map Prod.fst).Nodup := by have := H.out.keys; rw [List.map_cons, List.nodup_cons] at this; exact this.2
  have R0 := Lib.hid fun (w' : World) (hk : Kept (fun _ => False) w4 w') => (room_any (v := .slice (some ⟨g, 0, none⟩) S.length S.length) (S := S1) (Or.inr ⟨g, by rw [HL1.out], hk.blk hB4 (fun f => f)⟩) (Or.inr hF1) ((hp1R.map _).nodup_iff.2 hndR) (c := ml) (by omega) (by rw [hp1R.length_eq, ← HML.out]; omega) (by have := HRM.out; have := HL1.out; omega) (Or.inr hF1)).mono fun _ _ h => RoomP.opened h
  have HT4 := Lib.hid hT4
  have K04 := Lib.hid k04
  have HP1R := Lib.hid hp1R
  have HNDR := Lib.hid hndR
  have HS4 := Lib.hid hs4
  clear c1 f1 k34 hT4 hB4 k04 hF1 hp1R hndR hs4 HT3 HB3
  have t1 := HT4.out.cell (o := 1) rfl
  have t2 := HT4.out.cell (o := 2) rfl
  go_region_with (first | (go_at_call 48; (with_reducible refine Calls.mono (R0.out _ (Kept.refl _ w4).drew) ?_); rintro e w5 ⟨g2, S2, rfl, hB5, hF5, hc5, hp5, ho5, hk5⟩; have q2 := (hk5.blk HT4.out.drew (fun f => f)).cell (o := 2) rfl; have f2 := (hk5.blk HT4.out.drew (fun f => f)).frozen 2))
  all_goals
    have hT5 := hk5.blk HT4.out.drew (fun f => f)
    have hgb2 : g2 ≠ b := fun e => by rw [e] at hB5; exact absurd (hB5.inj hT5).2 (by decide)
    have P : Hid (DelP w base F b most R (.returned (.int .i64 0)) (w5.setCell ⟨b, 2, none⟩ (.slice (some ⟨g2, 0, none⟩) S2.length S2.length))) := by
      have k56 := Kept.one w5 b 2 (.slice (some ⟨g2, 0, none⟩) S2.length S2.length)
      have hT6 := hT5.set 2 (.slice (some ⟨g2, 0, none⟩) S2.length S2.length)
      have hB6 := k56.blk hB5 hgb2
      have hs6 : (w5.setCell ⟨b, 2, none⟩ (.slice (some ⟨g2, 0, none⟩) S2.length S2.length)).heap.size = w5.heap.size := by simp
      have hgF : F g2 ∨ w.heap.size ≤ g2 ∧ g2 < w5.heap.size := by
        rcases ho5 with e | ⟨e1, e2⟩
        · exact Or.inl (H.out.fv g2 e)
        · have h1 := K04.out.size
          have h2 : w4.drew.heap.size = w4.heap.size := rfl
          rw [h2] at e1
          exact Or.inr ⟨by omega, e2⟩
      have h2 : w4.drew.heap.size = w4.heap.size := rfl
      have h3 := hk5.size
      have h4 := K04.out.size
      change Blk _ b [.int .i64 most, .int .i64 (ml : Int), .slice (some ⟨g2, 0, none⟩) S2.length S2.length] _ at hT6
      generalize w5.setCell ⟨b, 2, none⟩ (.slice (some ⟨g2, 0, none⟩) S2.length S2.length) = w6 at *
      refine Lib.hid ⟨rfl, ⟨S2, _, ⟨by rw [← HML.out]; exact hT6, Or.inr ⟨g2, rfl, hB6, hF5⟩, by rw [← HML.out]; exact hc5, hp5.trans HP1R.out, HNDR.out, Or.inl H.out.fb, ?_, ?_, by rw [← HML.out]; omega, H.out.most1⟩⟩, ?_⟩
      · intro g' e
        have : g2 = g' := Option.some.inj e
        subst this
        rcases hgF with h | ⟨h1, h2⟩
        · exact Or.inl h
        · exact Or.inr ⟨h1, by omega⟩
      · rintro i (h | h)
        · have := H.out.own i h; exact ⟨this.1, by rw [hs6]; rw [h2] at h3; omega⟩
        · exact ⟨Nat.le_trans hbase h.1, h.2⟩
      · exact ((K04.out.trans (((Kept.refl (fun _ => False) w4).drew.trans hk5).mono (fun _ _ f => f.elim)))).trans' k56 (fun i hi e => e ▸ H.out.fb)
    clear hB5 hF5 hc5 hp5 ho5 hk5 hT5
    go_wp2_with fail
    go_ret
    exact P.out
end Go.Proofs.Ytaihjnonlnbhhaa.TbS
