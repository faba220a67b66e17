/- A table: how it lies; New, Len, Most, Get; a search of it. Conditions: each theorem's own. -/
import Derived.Test.YtaihjnonlnbhhaaTbRoomS
set_option linter.unusedVariables false
namespace Go.Proofs.Ytaihjnonlnbhhaa.TbS
open Go.RowKit Hp TbM TbN TbR
attribute [local go_sem ↓] Go.wp_at_zero Go.wp_at_succ
/-- A table of the things m; F: its blocks. -/
structure Tab (w : World) (base : Nat) (F : Nat → Prop) (b most : Nat) (m : List (Ky × ByteArray)) (S : List (Option (Ky × ByteArray))) (v : Value) : Prop where
  blk : Blk w b [.int .i64 most, .int .i64 (m.length : Nat), v] 89
  lies : (S = [] ∧ v = .slice none 0 0) ∨ ∃ g, v = .slice (some ⟨g, 0, none⟩) S.length S.length ∧ Blk w g (fl S) 94 ∧ Fit S
  room : 2 * m.length ≤ S.length
  perm : (kvs S).Perm m
  keys : (m.map Prod.fst).Nodup
  fb : F b
  fv : ∀ g, v.ownBlock = some g → F g
  own : ∀ k, F k → base ≤ k ∧ k < w.heap.size
  few : m.length ≤ 1000
  most1 : 1 ≤ most ∧ most ≤ 100000
def TabV (w : World) (base : Nat) (F : Nat → Prop) (b most : Nat) (m : List (Ky × ByteArray)) : Prop := ∃ S v, Tab w base F b most m S v
theorem Tab.nd {w : World} {base : Nat} {F : Nat → Prop} {b most : Nat} {m : List (Ky × ByteArray)} {S : List (Option (Ky × ByteArray))} {v : Value} (h : Tab w base F b most m S v) : ((kvs S).map Prod.fst).Nodup := (h.perm.map _).nodup_iff.2 h.keys
theorem Tab.kept {w w' : World} {base : Nat} {F G : Nat → Prop} {b most : Nat} {m : List (Ky × ByteArray)} {S : List (Option (Ky × ByteArray))} {v : Value} (h : Tab w base F b most m S v) (k : Kept G w w') (hG : ∀ i, F i → ¬ G i) : Tab w' base F b most m S v :=
  ⟨k.blk h.blk (hG _ h.fb), h.lies.imp id (fun ⟨g, e, hB, hf⟩ => ⟨g, e, k.blk hB (hG _ (h.fv g (by rw [e]; rfl))), hf⟩), h.room, h.perm, h.keys, h.fb, h.fv, fun i hi => ⟨(h.own i hi).1, Nat.lt_of_lt_of_le (h.own i hi).2 k.size⟩, h.few, h.most1⟩
theorem Tab.old {w w' : World} {base : Nat} {F : Nat → Prop} {b most : Nat} {m : List (Ky × ByteArray)} {S : List (Option (Ky × ByteArray))} {v : Value} (h : Tab w base F b most m S v) (k : Kept (fun _ => False) w w') : Tab w' base F b most m S v := h.kept k (fun _ _ f => f)
theorem TabV.kept {w w' : World} {base : Nat} {F G : Nat → Prop} {b most : Nat} {m : List (Ky × ByteArray)} (h : TabV w base F b most m) (k : Kept G w w') (hG : ∀ i, F i → ¬ G i) : TabV w' base F b most m := by
  obtain ⟨S, v, h⟩ := h; exact ⟨S, v, h.kept k hG⟩
theorem TabV.old {w w' : World} {base : Nat} {F : Nat → Prop} {b most : Nat} {m : List (Ky × ByteArray)} (h : TabV w base F b most m) (k : Kept (fun _ => False) w w') : TabV w' base F b most m := h.kept k (fun _ _ f => f)
theorem TabV.perm {w : World} {base : Nat} {F : Nat → Prop} {b most : Nat} {m m' : List (Ky × ByteArray)} (h : TabV w base F b most m) (p : m.Perm m') : TabV w base F b most m' := by
  obtain ⟨S, v, h⟩ := h
  have hl := p.length_eq
  exact ⟨S, v, by rw [← hl]; exact h.blk, h.lies, by rw [← hl]; exact h.room, h.perm.trans p, (p.map _).nodup_iff.1 h.keys, h.fb, h.fv, h.own, by rw [← hl]; exact h.few, h.most1⟩
/-- What is its own, and what is new. -/
def More (F : Nat → Prop) (w w' : World) (k : Nat) : Prop := F k ∨ (w.heap.size ≤ k ∧ k < w'.heap.size)
theorem Tab.slots {w : World} {base : Nat} {F : Nat → Prop} {b most : Nat} {m : List (Ky × ByteArray)} {S : List (Option (Ky × ByteArray))} {v : Value} (h : Tab w base F b most m S v) : SlV ev zv w 94 v S :=
  h.lies.imp id (fun ⟨g, e, hB, _⟩ => ⟨g, e, hB⟩)
theorem Tab.fit {w : World} {base : Nat} {F : Nat → Prop} {b most : Nat} {m : List (Ky × ByteArray)} {S : List (Option (Ky × ByteArray))} {v : Value} (h : Tab w base F b most m S v) : S = [] ∨ Fit S :=
  h.lies.imp (fun h => h.1) (fun ⟨_, _, _, h⟩ => h)
theorem Tab.free {w : World} {base : Nat} {F : Nat → Prop} {b most : Nat} {m : List (Ky × ByteArray)} {S : List (Option (Ky × ByteArray))} {v : Value} (h : Tab w base F b most m S v) (hf : Fit S) : ∃ f : Nat, S[f]? = some none := by
  have h8 := hf.least
  have hr := h.room
  have hl := h.perm.length_eq
  exact one_free (by omega)
/-- A search that finds. -/
theorem sfind_hit {w : World} {T : TypeId} {g : Nat} {S : List (Option (Ky × ByteArray))} (hB : Blk w g (fl S) T) (hF : Fit S) (hnd : ((kvs S).map Prod.fst).Nodup) {f : Nat} (hf : S[f]? = some none) {k : Ky} {v : ByteArray} {i : Nat} (hi : S[i]? = some (some (k, v))) :
    Calls Try.prog 60 #[.slice (some ⟨g, 0, none⟩) S.length S.length, ky k] w fun e w' => e = .returned (.tuple #[.int .i64 i, .bool true]) ∧ Kept (fun _ => False) w w' := by
  refine (find_any hB hF.pow hf k).mono ?_
  rintro e w' ⟨d, hd, hk, hall, ⟨u, hu, rfl⟩ | ⟨hu, rfl⟩⟩
  · exact ⟨by rw [one_slot hnd hu hi], hk⟩
  · exact absurd (mem_kvs.2 ⟨i, hi⟩) (nowhere hF.path (home_lt hF.pow.pos k) hall hu v)
/-- A search that does not. -/
theorem sfind_miss {w : World} {v : Value} {S : List (Option (Ky × ByteArray))} (h : (S = [] ∧ v = .slice none 0 0) ∨ ∃ g, v = .slice (some ⟨g, 0, none⟩) S.length S.length ∧ Blk w g (fl S) 94 ∧ Fit S) {f : Nat} (hf : Fit S → S[f]? = some none) {k : Ky} (hno : ∀ u, (k, u) ∉ kvs S) :
    Calls Try.prog 60 #[v, ky k] w fun e w' => (∃ i : Nat, e = .returned (.tuple #[.int .i64 i, .bool false])) ∧ Kept (fun _ => False) w w' := by
  rcases h with ⟨rfl, rfl⟩ | ⟨g, rfl, hB, hF⟩
  · exact (find_none k w).mono fun e w' ⟨h1, h2⟩ => ⟨⟨0, h1⟩, h2⟩
  · refine (find_any hB hF.pow (hf hF) k).mono ?_
    rintro e w' ⟨d, hd, hk, hall, ⟨u, hu, rfl⟩ | ⟨hu, rfl⟩⟩
    · exact absurd (mem_kvs.2 ⟨_, hu⟩) (hno u)
    · exact ⟨⟨_, rfl⟩, hk⟩
set_option maxHeartbeats 4000000 in
theorem tfind_hit {w : World} {base : Nat} {F : Nat → Prop} {b most : Nat} {m : List (Ky × ByteArray)} {S : List (Option (Ky × ByteArray))} {v : Value} (h : Tab w base F b most m S v) {k : Ky} {u : ByteArray} {i : Nat} (hi : S[i]? = some (some (k, u))) :
    Calls Try.prog 47 #[.pointer (some ⟨b, 0, none⟩), ky k] w fun e w' => e = .returned (.tuple #[.int .i64 i, .bool true]) ∧ Kept (fun _ => False) w w' := by
  have C := Lib.hid fun (w' : World) (hk : Kept (fun _ => False) w w') => (show Calls Try.prog 60 #[v, ky k] w' fun e w'' => e = .returned (.tuple #[.int .i64 i, .bool true]) ∧ Kept (fun _ => False) w' w'' from by
    rcases h.lies with ⟨rfl, _⟩ | ⟨g, rfl, hB, hF⟩
    · simp at hi
    · obtain ⟨f, hf⟩ := h.free hF
      exact sfind_hit (hk.blk hB (fun f => f)) hF h.nd hf hi)
  have HB := Lib.hid h.blk
  clear hi h
  obtain ⟨k1, k2⟩ := k
  go_enter Try.func47, Try.ntmps47
  go_upto_region 3 with fail
  have hR := Blk.new w [.int .i64 k1, .int .u64 k2] 62
  have hk := (Kept.refl (fun _ => False) w).alloc (.cells [.int .i64 k1, .int .u64 k2].toArray 62)
  dsimp only [List.toArray] at hR hk
  have hb1 := hk.blk HB.out (fun f => f)
  have c0 := hR.cell (o := 0) rfl
  have c1 := hR.cell (o := 1) rfl
  have c2 := hb1.cell (o := 2) rfl
  have HR := Lib.hid hR
  have HK := Lib.hid hk
  have HB1 := Lib.hid hb1
  clear hR hk hb1
  generalize w.alloc (.cells #[.int .i64 k1, .int .u64 k2] 62) = w1 at *
  generalize w.heap.size = rb at *
  go_region_held3 (fun w' => w'.cell? ⟨rb, 0, none⟩ = some (.int .i64 k1) ∧ w'.cell? ⟨rb, 1, none⟩ = some (.int .u64 k2) ∧ w'.cell? ⟨b, 2, none⟩ = some v) (first | exact ⟨c0, c1, c2⟩ | exact ⟨(hk2.blk (Blk.drew HR.out) (fun f => f)).cell rfl, (hk2.blk (Blk.drew HR.out) (fun f => f)).cell rfl, (hk2.blk (Blk.drew HB1.out) (fun f => f)).cell rfl⟩)
    (first | (go_at_call 60; with_reducible refine Calls.mono (C.out _ (by first | exact HK.out | exact HK.out.drew)) ?_; rintro e w2 ⟨rfl, hk2⟩))
  go_wp2_with fail
  go_ret2
  exact ⟨rfl, HK.out.drew.trans hk2⟩
set_option maxHeartbeats 4000000 in
theorem tfind_miss {w : World} {base : Nat} {F : Nat → Prop} {b most : Nat} {m : List (Ky × ByteArray)} {S : List (Option (Ky × ByteArray))} {v : Value} (h : Tab w base F b most m S v) {k : Ky} (hno : ∀ u, (k, u) ∉ m) :
    Calls Try.prog 47 #[.pointer (some ⟨b, 0, none⟩), ky k] w fun e w' => (∃ i : Nat, e = .returned (.tuple #[.int .i64 i, .bool false])) ∧ Kept (fun _ => False) w w' := by
  have C := Lib.hid fun (w' : World) (hk : Kept (fun _ => False) w w') => (show Calls Try.prog 60 #[v, ky k] w' fun e w'' => (∃ i : Nat, e = .returned (.tuple #[.int .i64 i, .bool false])) ∧ Kept (fun _ => False) w' w'' from by
    have hno' : ∀ u, (k, u) ∉ kvs S := fun u hu => hno u (h.perm.mem_iff.1 hu)
    by_cases hF : Fit S
    · obtain ⟨f, hf⟩ := h.free hF
      exact sfind_miss (h.old hk).lies (fun _ => hf) hno'
    · exact sfind_miss (f := 0) (h.old hk).lies (fun e => absurd e hF) hno')
  have HB := Lib.hid h.blk
  clear hno h
  obtain ⟨k1, k2⟩ := k
  go_enter Try.func47, Try.ntmps47
  go_upto_region 3 with fail
  have hR := Blk.new w [.int .i64 k1, .int .u64 k2] 62
  have hk := (Kept.refl (fun _ => False) w).alloc (.cells [.int .i64 k1, .int .u64 k2].toArray 62)
  dsimp only [List.toArray] at hR hk
  have hb1 := hk.blk HB.out (fun f => f)
  have c0 := hR.cell (o := 0) rfl
  have c1 := hR.cell (o := 1) rfl
  have c2 := hb1.cell (o := 2) rfl
  have HR := Lib.hid hR
  have HK := Lib.hid hk
  have HB1 := Lib.hid hb1
  clear hR hk hb1
  generalize w.alloc (.cells #[.int .i64 k1, .int .u64 k2] 62) = w1 at *
  generalize w.heap.size = rb at *
  go_region_held3 (fun w' => w'.cell? ⟨rb, 0, none⟩ = some (.int .i64 k1) ∧ w'.cell? ⟨rb, 1, none⟩ = some (.int .u64 k2) ∧ w'.cell? ⟨b, 2, none⟩ = some v) (first | exact ⟨c0, c1, c2⟩ | exact ⟨(hk2.blk (Blk.drew HR.out) (fun f => f)).cell rfl, (hk2.blk (Blk.drew HR.out) (fun f => f)).cell rfl, (hk2.blk (Blk.drew HB1.out) (fun f => f)).cell rfl⟩)
    (first | (go_at_call 60; with_reducible refine Calls.mono (C.out _ (by first | exact HK.out | exact HK.out.drew)) ?_; rintro e w2 ⟨⟨i, rfl⟩, hk2⟩))
  go_wp2_with fail
  go_ret2
  exact ⟨⟨i, rfl⟩, HK.out.drew.trans hk2⟩
theorem tfind_nil (k : Ky) (w : World) : Calls Try.prog 47 #[.pointer none, ky k] w fun e w' => e = .returned (.tuple #[.int .i64 0, .bool false]) ∧ Kept (fun _ => False) w w' := by
  obtain ⟨k1, k2⟩ := k
  go_enter Try.func47, Try.ntmps47
  go_wp2_with fail
  go_ret2
  exact ⟨rfl, (Kept.refl _ w).alloc _⟩
/-- What New leaves. -/
def NewP (w : World) (most : Nat) (e : Ending) (w' : World) : Prop := ∃ b, e = .returned (.tuple #[.pointer (some ⟨b, 0, none⟩), .int .i64 0]) ∧ TabV w' w.heap.size (fun k => k = b) b most [] ∧ Kept (fun _ => False) w w'
theorem new_yes {most : Nat} (h0 : 1 ≤ most) (h1 : most ≤ 100000) (w : World) : Calls Try.prog 27 #[.int .i64 most] w (NewP w most) := by
  have g1 : ¬ ((most : Int) < 1) := by omega
  have g2 : ¬ ((100000 : Int) < (most : Int)) := by omega
  go_enter Try.func27, Try.ntmps27
  go_wp2_with fail
  go_ret2
  refine ⟨_, rfl, ⟨[], .slice none 0 0, Blk.new w _ _, Or.inl ⟨rfl, rfl⟩, by simp, List.Perm.refl _, by simp, rfl, (fun g e => by cases e), (fun k e => ?_), by simp, h0, h1⟩, (Kept.refl _ w).alloc _⟩
  subst e
  rw [World.size_alloc]; omega
theorem new_no {most : Int} (h : ¬ (1 ≤ most ∧ most ≤ 100000)) (w : World) : Calls Try.prog 27 #[.int .i64 most] w fun e w' => e = .returned (.tuple #[.pointer none, .int .i64 1]) ∧ w = w' := by
  have hc : most < 1 ∨ (¬ most < 1 ∧ 100000 < most) := by omega
  clear h
  rcases hc with h1 | ⟨h1, h2⟩
  all_goals
    go_enter Try.func27, Try.ntmps27
    go_wp2_with fail
    go_ret2
    exact ⟨rfl, rfl⟩
set_option maxHeartbeats 4000000 in
theorem get_hit {w : World} {base : Nat} {F : Nat → Prop} {b most : Nat} {m : List (Ky × ByteArray)} (h : TabV w base F b most m) {k : Ky} {u : ByteArray} (hm : (k, u) ∈ m) :
    Calls Try.prog 32 #[.pointer (some ⟨b, 0, none⟩), ky k] w fun e w' => e = .returned (.tuple #[ev u, .bool true]) ∧ Kept (fun _ => False) w w' := by
  obtain ⟨S, v, h⟩ := h
  obtain ⟨i, hi⟩ := mem_kvs.1 (h.perm.mem_iff.2 hm)
  obtain ⟨g, rfl, hB⟩ : ∃ g, v = .slice (some ⟨g, 0, none⟩) S.length S.length ∧ Blk w g (fl S) 94 := by
    rcases h.lies with ⟨rfl, _⟩ | ⟨g, e, hB, _⟩
    · simp at hi
    · exact ⟨g, e, hB⟩
  have C := Lib.hid fun (w' : World) (hk : Kept (fun _ => False) w w') => tfind_hit (h.old hk) hi
  have HT := Lib.hid h.blk
  have HB := Lib.hid hB
  have HI := Lib.hid hi
  have hil := lt_of_some hi
  clear h hi hB hm
  obtain ⟨k1, k2⟩ := k
  go_enter Try.func32, Try.ntmps32
  go_upto_region 1 with fail
  have hR := Blk.new w [.int .i64 k1, .int .u64 k2] 62
  have hk := (Kept.refl (fun _ => False) w).alloc (.cells [.int .i64 k1, .int .u64 k2].toArray 62)
  dsimp only [List.toArray] at hR hk
  have c0 := hR.cell (o := 0) rfl
  have c1 := hR.cell (o := 1) rfl
  have HK := Lib.hid hk
  clear hR hk
  generalize w.alloc (.cells #[.int .i64 k1, .int .u64 k2] 62) = w1 at *
  generalize w.heap.size = rb at *
  go_wp2_with fail
  with_reducible refine Calls.mono (C.out _ HK.out) ?_
  rintro e w2 ⟨rfl, hk2⟩
  have HK2 := Lib.hid (HK.out.trans hk2)
  clear hk2 c0 c1 C
  have c2 := (HK2.out.blk HT.out (fun f => f)).cell (o := 2) rfl
  obtain ⟨q0, q1, q2, q3⟩ := slot_cells (HK2.out.blk HB.out (fun f => f)) HI.out rfl
  go_wp2_with ((with_reducible refine wpList_index_run rfl 87 _ _ rfl ?_ ?_); exact run_ix g S.length (by assumption) _)
  go_ret2
  exact ⟨rfl, HK2.out⟩
set_option maxHeartbeats 4000000 in
theorem get_miss {w : World} {base : Nat} {F : Nat → Prop} {b most : Nat} {m : List (Ky × ByteArray)} (h : TabV w base F b most m) {k : Ky} (hm : ∀ u, (k, u) ∉ m) :
    Calls Try.prog 32 #[.pointer (some ⟨b, 0, none⟩), ky k] w fun e w' => e = .returned (.tuple #[zv, .bool false]) ∧ Kept (fun _ => False) w w' := by
  obtain ⟨S, v, h⟩ := h
  have C := Lib.hid fun (w' : World) (hk : Kept (fun _ => False) w w') => tfind_miss (h.old hk) hm
  clear h hm
  obtain ⟨k1, k2⟩ := k
  go_enter Try.func32, Try.ntmps32
  go_upto_region 1 with fail
  have hR := Blk.new w [.int .i64 k1, .int .u64 k2] 62
  have hk := (Kept.refl (fun _ => False) w).alloc (.cells [.int .i64 k1, .int .u64 k2].toArray 62)
  dsimp only [List.toArray] at hR hk
  have c0 := hR.cell (o := 0) rfl
  have c1 := hR.cell (o := 1) rfl
  have HK := Lib.hid hk
  clear hR hk
  generalize w.alloc (.cells #[.int .i64 k1, .int .u64 k2] 62) = w1 at *
  generalize w.heap.size = rb at *
  go_wp2_with fail
  with_reducible refine Calls.mono (C.out _ HK.out) ?_
  rintro e w2 ⟨⟨i, rfl⟩, hk2⟩
  have HK2 := Lib.hid (HK.out.trans hk2)
  clear hk2 c0 c1 C
  go_wp2_with fail
  go_ret2
  exact ⟨rfl, HK2.out⟩
theorem get_nil (k : Ky) (w : World) : Calls Try.prog 32 #[.pointer none, ky k] w fun e w' => e = .returned (.tuple #[zv, .bool false]) ∧ Kept (fun _ => False) w w' := by
  have C := Lib.hid fun (w' : World) => tfind_nil k w'
  obtain ⟨k1, k2⟩ := k
  go_enter Try.func32, Try.ntmps32
  go_upto_region 1 with fail
  have hR := Blk.new w [.int .i64 k1, .int .u64 k2] 62
  have hk := (Kept.refl (fun _ => False) w).alloc (.cells [.int .i64 k1, .int .u64 k2].toArray 62)
  dsimp only [List.toArray] at hR hk
  have c0 := hR.cell (o := 0) rfl
  have c1 := hR.cell (o := 1) rfl
  have HK := Lib.hid hk
  clear hR hk
  generalize w.alloc (.cells #[.int .i64 k1, .int .u64 k2] 62) = w1 at *
  generalize w.heap.size = rb at *
  go_wp2_with fail
  with_reducible refine Calls.mono (C.out _) ?_
  rintro e w2 ⟨rfl, hk2⟩
  go_wp2_with fail
  go_ret2
  exact ⟨rfl, HK.out.trans hk2⟩
end Go.Proofs.Ytaihjnonlnbhhaa.TbS
