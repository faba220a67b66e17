/- Slots with open addressing: as many as there is need of. Conditions: each theorem's own. -/
import Derived.Test.YtaihjnonlnbhhaaTbFill
import Derived.Laws.MakeOwn
import Derived.Laws.OwnMore
set_option linter.unusedVariables false
namespace Go.Proofs.Ytaihjnonlnbhhaa.Tb
open Go.RowKit Hp TbM TbN TbR
attribute [local go_sem ↓] Go.wp_at_zero Go.wp_at_succ
theorem infoS : (Try.prog.info? 108).map (fun i => (i.zero, i.size, i.bytes)) = some (some (.agg #[.bool false, .int .i64 0, .int .u64 0, zv]), 4, 32) := by kernel_rfl
theorem made_free (n : Nat) : madeCells (Value.agg #[.bool false, .int .i64 0, .int .u64 0, zv]).cells (n * 4) = (fl (List.replicate n none)).toArray := by
  apply Array.toList_inj.1
  apply List.ext_getElem?
  intro t
  have hl : (fl (List.replicate n none)).length = n * 4 := by show (flat ev zv _).length = _; rw [flat_len, List.length_replicate]
  by_cases ht : t < n * 4
  · obtain ⟨q, r, hr, hq, rfl⟩ : ∃ q r, r < 4 ∧ q < n ∧ t = q * 4 + r := ⟨t / 4, t % 4, by omega, by omega, by omega⟩
    show _ = (fl (List.replicate n none))[q * 4 + r]?
    rw [flat_at ev zv (x := none) (by rw [List.getElem?_replicate, if_pos hq]) hr]
    unfold madeCells
    rw [Array.toList_map, List.getElem?_map, Array.toList_range, List.getElem?_range ht]
    have hm : (q * 4 + r) % 4 = r := by omega
    have h4 : r = 0 ∨ r = 1 ∨ r = 2 ∨ r = 3 := by omega
    show some ((#[Value.bool false, .int .i64 0, .int .u64 0, zv] : Array Value)[(q * 4 + r) % 4]!) = _
    rw [hm]
    rcases h4 with rfl | rfl | rfl | rfl <;> rfl
  · rw [List.getElem?_eq_none (by rw [Array.length_toList, size_madeCells]; omega), List.getElem?_eq_none (by show (fl (List.replicate n none)).length ≤ t; omega)]
theorem run_mk (n : Nat) (hn : n ≤ 1073741824) (w : World) : (Instr.makeSlice 102 (.int .i64 (n : Int)) (.int .i64 (n : Int))).run Try.prog w = .ok (.slice (some ⟨w.heap.size, 0, none⟩) n n) (w.alloc (.cells (fl (List.replicate n none)).toArray 108)) := by
  obtain ⟨ti, hti, hz0, hz1, hz2⟩ := info_parts infoS
  have := run_make (P := Try.prog) (w := w) 102 108 ti _ Try.underlying102 hti hz0 .i64 .i64 (n : Int) (n : Int) (by omega) (by omega) (by rw [hz2]; omega) (by omega)
  rw [Int.toNat_natCast, hz1, made_free] at this
  exact this
/-- What moving leaves: other slots, of the same things. -/
def MovedP (S : List (Option (Ky × Int))) (n : Nat) (w : World) (e : Ending) (w' : World) : Prop :=
  ∃ g S', e = .returned (.slice (some ⟨g, 0, none⟩) n n) ∧ w.heap.size ≤ g ∧ Blk w' g (fl S') 108 ∧ S'.length = n ∧ Path (homeF n) none_ S' ∧ (kvs S').Perm (kvs S) ∧ Kept (fun _ => False) w w'
theorem kvs_take_succ {S : List (Option (Ky × Int))} {i : Nat} {x : Option (Ky × Int)} (h : S[i]? = some x) : kvs (S.take (i + 1)) = kvs (S.take i) ++ kvs [x] := by
  rw [List.take_add_one, h, kvs_append]; rfl
theorem key_new {S : List (Option (Ky × Int))} (hn : ((kvs S).map Prod.fst).Nodup) {i : Nat} {k : Ky} {v : Int} (hi : S[i]? = some (some (k, v))) (u : Int) : (k, u) ∉ kvs (S.take i) := by
  intro h
  obtain ⟨j, hj⟩ := mem_kvs.1 h
  rw [List.getElem?_take] at hj
  split at hj
  · have := one_slot hn hj hi
    omega
  · cases hj
theorem kvs_take_le (S : List (Option (Ky × Int))) (i : Nat) : (kvs (S.take i)).length ≤ (kvs S).length := by
  have : kvs S = kvs (S.take i) ++ kvs (S.drop i) := by rw [← kvs_append, List.take_append_drop]
  rw [this, List.length_append]; omega
/-- What filling leaves, where the slots are as they may be. -/
theorem FillP.good {S : List (Option (Ky × Int))} {k : Ky} {v : Int} {g : Nat} {T : TypeId} {w w' : World} {e : Ending} (h : FillP S k v g T w e w') (hP : Path (homeF S.length) none_ S) :
    ∃ S', S'.length = S.length ∧ Path (homeF S.length) none_ S' ∧ (kvs S').Perm ((k, v) :: kvs S) ∧ Blk w' g (fl S') T ∧ Kept (fun j => j = g) w w' := by
  obtain ⟨_, i, hi, hb, hB, hk⟩ := h
  exact ⟨_, List.length_set, path_put hP hi hb, kvs_put hi, hB, hk⟩
set_option maxRecDepth 100000 in
set_option maxHeartbeats 8000000 in
theorem moved_any {w : World} {v : Value} {S : List (Option (Ky × Int))} (hS : SlV ev zv w 108 v S) (hl : S.length ≤ 1073741824) (hnd : ((kvs S).map Prod.fst).Nodup) {n : Nat} (hn : Pow n) (hfit : (kvs S).length < n) :
    Calls Try.prog 74 #[v, .int .i64 n] w (MovedP S n w) := by
  have h0 := hn.pos
  have hn1 := hn.le
  have hmk := run_mk n hn1
  obtain ⟨a, rfl⟩ : ∃ a, v = .slice a S.length S.length := by
    rcases hS with ⟨rfl, rfl⟩ | ⟨g, rfl, _⟩
    · exact ⟨none, rfl⟩
    · exact ⟨_, rfl⟩
  have HS := Lib.hid hS
  have HND := Lib.hid hnd
  have HFIT := Lib.hid hfit
  clear hS hnd hfit
  go_enter Try.func74, Try.ntmps74
  go_wp2_with fail
  have hB := Blk.new w (fl (List.replicate n none)) 108
  have hk : Kept (fun _ => False) w (w.alloc (.cells (fl (List.replicate n none)).toArray 108)) := (Kept.refl _ w).alloc _
  have HB := Lib.hid hB
  have HK := Lib.hid hk
  have hg : w.heap.size ≤ w.heap.size := Nat.le_refl _
  clear hB hk hmk
  generalize w.alloc (.cells (fl (List.replicate n none)).toArray 108) = w1 at *
  generalize hgg : w.heap.size = g at *
  have HG := Lib.hid hgg
  clear hgg hg
  go_loopg [11] S.length (fun mm s11 wr => ∃ (i : Nat) (S' : List (Option (Ky × Int))), Hid (mm = S.length - i) ∧ i ≤ S.length ∧ s11 = .int .i64 ((i : Nat) : Int) ∧ Hid (Blk wr g (fl S') 108) ∧ Hid (S'.length = n) ∧ Hid (Path (homeF n) none_ S') ∧ Hid ((kvs S').Perm (kvs (S.take i))) ∧ Hid (Kept (fun _ => False) w wr))
  case atStart => exact ⟨0, List.replicate n none, Lib.hid (by omega), Nat.zero_le _, rfl, HB, Lib.hid (by rw [List.length_replicate]), Lib.hid (path_free _ n), Lib.hid (by rw [kvs_free]; exact List.Perm.refl _), HK⟩
  case round =>
    obtain ⟨i, S', hm, hi, rfl, hB, hlen, hP, hperm, hk⟩ := hrel
    rcases Nat.lt_or_ge i S.length with hlt | hge
    · obtain ⟨x, hx⟩ : ∃ x, S[i]? = some x := ⟨S[i], List.getElem?_eq_getElem hlt⟩
      have ht := Lib.hid (kvs_take_succ hx)
      obtain ⟨g0, rfl, hB0⟩ : ∃ g0, a = some ⟨g0, 0, none⟩ ∧ Blk w g0 (fl S) 108 := by
        rcases HS.out with ⟨rfl, _⟩ | ⟨g0, e, h⟩
        · simp at hlt
        · cases e; exact ⟨g0, rfl, h⟩
      have hB1 := hk.out.blk hB0 (fun f => f)
      rcases x with _ | ⟨⟨k1, k2⟩, v⟩
      · obtain ⟨c0, c1, c2, c3⟩ := slot_cells hB1 hx rfl
        have HX := Lib.hid hx
        clear hx hB1 hB0
        go_wp2_with ((with_reducible refine wpList_index_run rfl 102 _ _ rfl (v := .pointer (some ⟨g0, i * 4, none⟩)) ?_ ?_); exact run_ix g0 S.length hlt _)
        go_roundg (S.length - (i + 1))
        case measure => have := hm.out; omega
        case rel => exact ⟨i + 1, S', Lib.hid rfl, by omega, by go_num, hB, hlen, hP, Lib.hid (by rw [ht.out]; simpa [kvs] using hperm.out), hk⟩
      · obtain ⟨c0, c1, c2, c3⟩ := slot_cells hB1 hx rfl
        have HX := Lib.hid hx
        clear hx hB1 hB0
        go_wp2_with ((with_reducible refine wpList_index_run rfl 102 _ _ rfl (v := .pointer (some ⟨g0, i * 4, none⟩)) ?_ ?_); exact run_ix g0 S.length hlt _)
        have hf := Lib.hid (one_free (S := S') (by rw [hlen.out, hperm.out.length_eq]; have := kvs_take_le S i; have := HFIT.out; omega))
        go_still_tail 11, (by kernel_rfl)
        change wpList _ _ _ _ _ wr.drew
        have hB2 := hB.out.drew
        have hk2 := hk.out.drew
        generalize wr.drew = w2 at *
        obtain ⟨f, hff⟩ := hf.out
        have F := Lib.hid (fill_any hB2 (by rw [hlen.out]; exact hn) hff (k1, k2) v (fun u hu => key_new HND.out HX.out u (hperm.out.mem_iff.1 hu)))
        rw [hlen.out] at F
        have HK2 := Lib.hid hk2
        clear hff hB2 hk2 c0 c1 c2 c3
        go_wp2_with fail
        with_reducible refine Calls.mono F.out ?_
        rintro e w3 hF
        obtain ⟨S2, hl2, hP2, hp2, hB3, hk3⟩ := hF.good (by rw [hlen.out]; exact hP.out)
        have he := hF.1
        subst he
        go_wp2_with fail
        go_roundg (S.length - (i + 1))
        case measure => have := hm.out; omega
        case rel => exact ⟨i + 1, S2, Lib.hid rfl, by omega, by go_num, Lib.hid hB3, Lib.hid (hl2.trans hlen.out), Lib.hid (by rw [hlen.out] at hP2; exact hP2), Lib.hid (by
          rw [ht.out]
          refine hp2.trans ?_
          refine (hperm.out.cons _).trans ?_
          exact (List.perm_append_singleton _ _).symm), Lib.hid (HK2.out.trans' hk3 (fun j hj e => by have := HG.out; omega))⟩
    · go_wp2_with fail
      go_ret
      obtain rfl : i = S.length := by omega
      exact ⟨g, S', rfl, by rw [HG.out]; exact Nat.le_refl _, hB.out, hlen.out, hP.out, by have := hperm.out; rwa [List.take_length] at this, hk.out⟩
end Go.Proofs.Ytaihjnonlnbhhaa.Tb
