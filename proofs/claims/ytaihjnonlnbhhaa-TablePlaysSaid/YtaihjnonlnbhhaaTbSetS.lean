/- A table: Set. Conditions: each theorem's own. -/
import Derived.Test.YtaihjnonlnbhhaaTbPutS
set_option linter.unusedVariables false
namespace Go.Proofs.Ytaihjnonlnbhhaa.TbS
open Go.RowKit Hp TbM TbN TbR
attribute [local go_sem ↓] Go.wp_at_zero Go.wp_at_succ
theorem set_nil (k : Ky) (v : ByteArray) (w : World) : Calls Try.prog 30 #[.pointer none, ky k, ev v] w fun e w' => e = .returned (.int .i64 5) ∧ Kept (fun _ => False) w w' := by
  have C := Lib.hid fun (w' : World) => tfind_nil k w'
  obtain ⟨k1, k2⟩ := k
  go_enter Try.func30, Try.ntmps30
  go_upto_region 1 with fail
  have hR := Blk.new w [.int .i64 k1, .int .u64 k2] 62
  have hk := (Kept.refl (fun _ => False) w).alloc (.cells [.int .i64 k1, .int .u64 k2].toArray 62)
  dsimp only [List.toArray] at hR hk
  have c0 := hR.cell (o := 0) rfl
  have c1 := hR.cell (o := 1) rfl
  have HK := Lib.hid hk
  clear hR hk
  generalize w.alloc (.cells #[.int .i64 k1, .int .u64 k2] 62) = w1 at *
  generalize w.heap.size = rb at *
  go_wp2_with fail
  with_reducible refine Calls.mono (C.out _) ?_
  rintro e w2 ⟨rfl, hk2⟩
  go_wp2_with fail
  go_ret
  exact ⟨rfl, HK.out.trans hk2⟩
set_option maxHeartbeats 4000000 in
theorem set_none {w : World} {base : Nat} {F : Nat → Prop} {b most : Nat} {m : List (Ky × ByteArray)} (h : TabV w base F b most m) {k : Ky} (hno : ∀ u, (k, u) ∉ m) (v : ByteArray) :
    Calls Try.prog 30 #[.pointer (some ⟨b, 0, none⟩), ky k, ev v] w fun e w' => e = .returned (.int .i64 5) ∧ Kept (fun _ => False) w w' := by
  obtain ⟨S, v0, h⟩ := h
  have C := Lib.hid fun (w' : World) (hk : Kept (fun _ => False) w w') => tfind_miss (h.old hk) hno
  clear h hno
  obtain ⟨k1, k2⟩ := k
  go_enter Try.func30, Try.ntmps30
  go_upto_region 1 with fail
  have hR := Blk.new w [.int .i64 k1, .int .u64 k2] 62
  have hk := (Kept.refl (fun _ => False) w).alloc (.cells [.int .i64 k1, .int .u64 k2].toArray 62)
  dsimp only [List.toArray] at hR hk
  have c0 := hR.cell (o := 0) rfl
  have c1 := hR.cell (o := 1) rfl
  have HK := Lib.hid hk
  clear hR hk
  generalize w.alloc (.cells #[.int .i64 k1, .int .u64 k2] 62) = w1 at *
  generalize w.heap.size = rb at *
  go_wp2_with fail
  with_reducible refine Calls.mono (C.out _ HK.out) ?_
  rintro e w2 ⟨⟨i, rfl⟩, hk2⟩
  go_wp2_with fail
  go_ret
  exact ⟨rfl, HK.out.trans hk2⟩
theorem set_same {L : List Value} {i : Nat} {a : Value} (h : L[i]? = some a) : L.set i a = L := by
  apply List.ext_getElem?
  intro t
  rw [List.getElem?_set]
  split
  · rename_i e; subst e; rw [h]; have := lt_of_some h; simp [this]
  · rfl
theorem slot_put {w : World} {T : TypeId} {g : Nat} {S : List (Option (Ky × ByteArray))} (h : Blk w g (fl S) T) {i : Nat} {k : Ky} {u : ByteArray} (hi : S[i]? = some (some (k, u))) (v : ByteArray) :
    Blk (w.setCell ⟨g, i * 4 + 3, none⟩ (ev v)) g (fl (S.set i (some (k, v)))) T := by
  have hl := lt_of_some hi
  have e : fl (S.set i (some (k, v))) = (fl S).set (i * 4 + 3) (ev v) := by
    show flat ev zv _ = (flat ev zv S).set _ _
    rw [flat_set ev zv hl (some (k, v)) rfl]
    rw [set_same (i := i * 4) (a := .bool true) (flat_at ev zv hi (j := 0) (by decide)), set_same (flat_at ev zv hi (j := 1) (by decide)), set_same (flat_at ev zv hi (j := 2) (by decide))]
  rw [e]
  exact h.set _ _
theorem path_over {H : Ky → Nat} {S : List (Option (Ky × ByteArray))} (hP : Path H none_ S) {i : Nat} {k : Ky} {u v : ByteArray} (hi : S[i]? = some (some (k, u))) : Path H none_ (S.set i (some (k, v))) := by
  have hl := lt_of_some hi
  have up : ∀ p, Filled S p → Filled (S.set i (some (k, v))) p := by
    rintro p ⟨x, hx⟩
    by_cases e : i = p
    · subst e; exact ⟨_, List.getElem?_set_self hl⟩
    · exact ⟨x, by rw [List.getElem?_set_ne e]; exact hx⟩
  intro j k' u' hj d hd
  rw [List.length_set] at hd ⊢
  by_cases e : i = j
  · subst e
    rw [List.getElem?_set_self hl] at hj
    cases hj
    rcases hP i k u hi d hd with h | h
    · exact Or.inl (up _ h)
    · exact Or.inr h
  · rw [List.getElem?_set_ne e] at hj
    rcases hP j k' u' hj d hd with h | h
    · exact Or.inl (up _ h)
    · exact Or.inr h
/-- What Set leaves. -/
def SetP (w : World) (base : Nat) (F : Nat → Prop) (b most : Nat) (R : List (Ky × ByteArray)) (k : Ky) (v : ByteArray) (e : Ending) (w' : World) : Prop :=
  e = .returned (.int .i64 0) ∧ TabV w' base F b most ((k, v) :: R) ∧ Kept F w w'
set_option maxHeartbeats 4000000 in
theorem set_hit {w : World} {base : Nat} {F : Nat → Prop} {b most : Nat} {m R : List (Ky × ByteArray)} (h : TabV w base F b most m) {k : Ky} {u : ByteArray} (hm : m.Perm ((k, u) :: R)) (v : ByteArray) :
    Calls Try.prog 30 #[.pointer (some ⟨b, 0, none⟩), ky k, ev v] w (SetP w base F b most R k v) := by
  obtain ⟨S, v0, h⟩ := h.perm hm
  obtain ⟨i, hi⟩ := mem_kvs.1 (h.perm.mem_iff.2 (List.mem_cons_self ..))
  obtain ⟨g, rfl, hB, hF⟩ : ∃ g, v0 = .slice (some ⟨g, 0, none⟩) S.length S.length ∧ Blk w g (fl S) 94 ∧ Fit S := by
    rcases h.lies with ⟨rfl, _⟩ | ⟨g, e, hB, hF⟩
    · simp at hi
    · exact ⟨g, e, hB, hF⟩
  have C := Lib.hid fun (w' : World) (hk : Kept (fun _ => False) w w') => tfind_hit (h.old hk) hi
  have HT := Lib.hid h.blk
  have HB := Lib.hid hB
  have HI := Lib.hid hi
  have HF := Lib.hid hF
  have H := Lib.hid h
  have hil := lt_of_some hi
  clear h hi hB hm hF
  obtain ⟨k1, k2⟩ := k
  go_enter Try.func30, Try.ntmps30
  go_upto_region 1 with fail
  have hR := Blk.new w [.int .i64 k1, .int .u64 k2] 62
  have hk := (Kept.refl (fun _ => False) w).alloc (.cells [.int .i64 k1, .int .u64 k2].toArray 62)
  dsimp only [List.toArray] at hR hk
  have c0 := hR.cell (o := 0) rfl
  have c1 := hR.cell (o := 1) rfl
  have HK := Lib.hid hk
  clear hR hk
  generalize w.alloc (.cells #[.int .i64 k1, .int .u64 k2] 62) = w1 at *
  generalize w.heap.size = rb at *
  go_wp2_with fail
  with_reducible refine Calls.mono (C.out _ HK.out) ?_
  rintro e w2 ⟨rfl, hk2⟩
  have HK2 := Lib.hid (HK.out.trans hk2)
  clear hk2 c0 c1 C
  have hT2 := HK2.out.blk HT.out (fun f => f)
  have hB2 := HK2.out.blk HB.out (fun f => f)
  have c2 := hT2.cell (o := 2) rfl
  have q3 := (slot_cells hB2 HI.out rfl).2.2.2
  have f3 := hB2.frozen (i * 4 + 3)
  have P : Hid (SetP w base F b most R (k1, k2) v (.returned (.int .i64 0)) (w2.setCell ⟨g, i * 4 + 3, none⟩ (ev v))) := by
    have hgb : b ≠ g := fun e => by rw [e] at hT2; exact absurd (hT2.inj hB2).2 (by decide)
    have k23 := Kept.one w2 g (i * 4 + 3) (ev v)
    have hgF := H.out.fv g rfl
    have hB3 := slot_put hB2 HI.out v
    have hT3 := k23.blk hT2 hgb
    have hs3 : (w2.setCell ⟨g, i * 4 + 3, none⟩ (ev v)).heap.size = w2.heap.size := by simp
    generalize w2.setCell ⟨g, i * 4 + 3, none⟩ (ev v) = w3 at *
    have hl : (S.set i (some ((k1, k2), v))).length = S.length := List.length_set
    have hpp : (kvs (S.set i (some ((k1, k2), v)))).Perm (((k1, k2), v) :: kvs (S.set i none)) := by
      have := kvs_put (S := S.set i none) (i := i) (x := ((k1, k2), v)) (List.getElem?_set_self hil)
      rwa [List.set_set] at this
    have hpr : (kvs (S.set i none)).Perm R := ((kvs_take HI.out).symm.trans H.out.perm).cons_inv
    refine Lib.hid ⟨rfl, ⟨S.set i (some ((k1, k2), v)), .slice (some ⟨g, 0, none⟩) S.length S.length, ⟨?_, Or.inr ⟨g, by rw [hl], hB3, ⟨by rw [hl]; exact HF.out.pow, by rw [hl]; exact HF.out.least, by rw [hl]; exact path_over HF.out.path HI.out⟩⟩, ?_, hpp.trans (hpr.cons _), ?_, H.out.fb, H.out.fv, ?_, ?_, H.out.most1⟩⟩, ?_⟩
    · rw [show (((k1, k2), v) :: R).length = (((k1, k2), u) :: R).length from rfl]; exact hT3
    · rw [hl]; exact H.out.room
    · have := H.out.keys; rwa [List.map_cons] at this ⊢
    · intro j hj; have := H.out.own j hj; have := HK2.out.size; omega
    · exact H.out.few
    · exact (HK2.out.mono (fun _ _ f => f.elim)).trans' k23 (fun j hj e => e ▸ hgF)
  clear hT2 hB2
  go_wp2_with ((with_reducible refine wpList_index_run rfl 87 _ _ rfl ?_ ?_); exact run_ix g S.length (by assumption) _)
  go_ret
  exact P.out
end Go.Proofs.Ytaihjnonlnbhhaa.TbS
