/- Slots with open addressing: as many as there is need of. Conditions: each theorem's own. -/
import Derived.Test.YtjjamooihddkgaaGreatPmG4
import Derived.Laws.MakeOwn
import Derived.Laws.OwnMore
set_option linter.unusedVariables false
set_option linter.unusedSimpArgs false
namespace Go.Proofs.YtjjamooihddkgaaGreat.TbP
open Go.RowKit Hp TbM TbN TbR
attribute [local go_sem ↓] Go.wp_at_zero Go.wp_at_succ
theorem infoS : (Tryz.prog.info? 210).map (fun i => (i.zero, i.size, i.bytes)) = some (some (.agg #[.bool false, .int .i64 0, .int .u64 0, zv]), 4, 32) := by kernel_rfl
theorem made_free (n : Nat) : madeCells (Value.agg #[.bool false, .int .i64 0, .int .u64 0, zv]).cells (n * 4) = (fl (List.replicate n none)).toArray := by
  apply Array.toList_inj.1
  apply List.ext_getElem?
  intro t
  have hl : (fl (List.replicate n none)).length = n * 4 := by show (flat ev zv _).length = _; rw [flat_len, List.length_replicate]
  by_cases ht : t < n * 4
  · obtain ⟨q, r, hr, hq, rfl⟩ : ∃ q r, r < 4 ∧ q < n ∧ t = q * 4 + r := ⟨t / 4, t % 4, by omega, by omega, by omega⟩
    show _ = (fl (List.replicate n none))[q * 4 + r]?
    rw [flat_at ev zv (x := none) (by rw [List.getElem?_replicate, if_pos hq]) hr]
    unfold madeCells
    rw [Array.toList_map, List.getElem?_map, Array.toList_range, List.getElem?_range ht]
    have hm : (q * 4 + r) % 4 = r := by omega
    have h4 : r = 0 ∨ r = 1 ∨ r = 2 ∨ r = 3 := by omega
    show some ((#[Value.bool false, .int .i64 0, .int .u64 0, zv] : Array Value)[(q * 4 + r) % 4]!) = _
    rw [hm]
    rcases h4 with rfl | rfl | rfl | rfl <;> rfl
  · rw [List.getElem?_eq_none (by rw [Array.length_toList, size_madeCells]; omega), List.getElem?_eq_none (by show (fl (List.replicate n none)).length ≤ t; omega)]
theorem run_mk (n : Nat) (hn : n ≤ 1073741824) (w : World) : (Instr.makeSlice 182 (.int .i64 (n : Int)) (.int .i64 (n : Int))).run Tryz.prog w = .ok (.slice (some ⟨w.heap.size, 0, none⟩) n n) (w.alloc (.cells (fl (List.replicate n none)).toArray 210)) := by
  obtain ⟨ti, hti, hz0, hz1, hz2⟩ := info_parts infoS
  have := run_make (P := Tryz.prog) (w := w) 182 210 ti _ Tryz.underlying182 hti hz0 .i64 .i64 (n : Int) (n : Int) (by omega) (by omega) (by rw [hz2]; omega) (by omega)
  rw [Int.toNat_natCast, hz1, made_free] at this
  exact this
/-- What moving leaves: other slots, of the same things. -/
def MovedP (S : List (Option (Ky × Nat))) (n : Nat) (w : World) (e : Ending) (w' : World) : Prop :=
  ∃ g S', e = .returned (.slice (some ⟨g, 0, none⟩) n n) ∧ w.heap.size ≤ g ∧ Blk w' g (fl S') 210 ∧ S'.length = n ∧ Path (homeF n) none_ S' ∧ (kvs S').Perm (kvs S) ∧ Kept (fun _ => False) w w'
theorem kvs_take_succ {S : List (Option (Ky × Nat))} {i : Nat} {x : Option (Ky × Nat)} (h : S[i]? = some x) : kvs (S.take (i + 1)) = kvs (S.take i) ++ kvs [x] := by
  rw [List.take_add_one, h, kvs_append]; rfl
theorem key_new {S : List (Option (Ky × Nat))} (hn : ((kvs S).map Prod.fst).Nodup) {i : Nat} {k : Ky} {v : Nat} (hi : S[i]? = some (some (k, v))) (u : Nat) : (k, u) ∉ kvs (S.take i) := by
  intro h
  obtain ⟨j, hj⟩ := mem_kvs.1 h
  rw [List.getElem?_take] at hj
  split at hj
  · have := one_slot hn hj hi
    omega
  · cases hj
theorem kvs_take_le (S : List (Option (Ky × Nat))) (i : Nat) : (kvs (S.take i)).length ≤ (kvs S).length := by
  have : kvs S = kvs (S.take i) ++ kvs (S.drop i) := by rw [← kvs_append, List.take_append_drop]
  rw [this, List.length_append]; omega
/-- What filling leaves, where the slots are as they may be. -/
theorem FillP.good {S : List (Option (Ky × Nat))} {k : Ky} {v : Nat} {g : Nat} {T : TypeId} {w w' : World} {e : Ending} (h : FillP S k v g T w e w') (hP : Path (homeF S.length) none_ S) :
    ∃ S', S'.length = S.length ∧ Path (homeF S.length) none_ S' ∧ (kvs S').Perm ((k, v) :: kvs S) ∧ Blk w' g (fl S') T ∧ Kept (fun j => j = g) w w' := by
  obtain ⟨_, i, hi, hb, hB, hk⟩ := h
  exact ⟨_, List.length_set, path_put hP hi hb, kvs_put hi, hB, hk⟩
set_option maxRecDepth 100000 in
set_option maxHeartbeats 8000000 in
theorem moved_any {w : World} {v : Value} {S : List (Option (Ky × Nat))} (hS : SlV ev zv w 210 v S) (hl : S.length ≤ 1073741824) (hnd : ((kvs S).map Prod.fst).Nodup) {n : Nat} (hn : Pow n) (hfit : (kvs S).length < n) :
    Calls Tryz.prog 167 #[v, .int .i64 n] w (MovedP S n w) := by
  have h0 := hn.pos
  have hn1 := hn.le
  have hmk := run_mk n hn1
  obtain ⟨a, rfl⟩ : ∃ a, v = .slice a S.length S.length := by
    rcases hS with ⟨rfl, rfl⟩ | ⟨g, rfl, _⟩
    · exact ⟨none, rfl⟩
    · exact ⟨_, rfl⟩
  have HS := Lib.hid hS
  have HND := Lib.hid hnd
  have HFIT := Lib.hid hfit
  clear hS hnd hfit
  go_enter Tryz.func167, Tryz.ntmps167
  go_wp2_with fail
  have hB := Blk.new w (fl (List.replicate n none)) 210
  have hk : Kept (fun _ => False) w (w.alloc (.cells (fl (List.replicate n none)).toArray 210)) := (Kept.refl _ w).alloc _
  have HB := Lib.hid hB
  have HK := Lib.hid hk
  have hg : w.heap.size ≤ w.heap.size := Nat.le_refl _
  clear hB hk hmk
  generalize w.alloc (.cells (fl (List.replicate n none)).toArray 210) = w1 at *
  generalize hgg : w.heap.size = g at *
  have HG := Lib.hid hgg
  clear hgg hg
  go_loopg [11] S.length (fun mm s11 wr => ∃ (i : Nat) (S' : List (Option (Ky × Nat))), Hid (mm = S.length - i) ∧ i ≤ S.length ∧ s11 = .int .i64 ((i : Nat) : Int) ∧ Hid (Blk wr g (fl S') 210) ∧ Hid (S'.length = n) ∧ Hid (Path (homeF n) none_ S') ∧ Hid ((kvs S').Perm (kvs (S.take i))) ∧ Hid (Kept (fun _ => False) w wr))
  case atStart => exact ⟨0, List.replicate n none, Lib.hid (by omega), Nat.zero_le _, rfl, HB, Lib.hid (by rw [List.length_replicate]), Lib.hid (path_free _ n), Lib.hid (by rw [kvs_free]; exact List.Perm.refl _), HK⟩
  case round =>
    obtain ⟨i, S', hm, hi, rfl, hB, hlen, hP, hperm, hk⟩ := hrel
    rcases Nat.lt_or_ge i S.length with hlt | hge
    · obtain ⟨x, hx⟩ : ∃ x, S[i]? = some x := ⟨S[i], List.getElem?_eq_getElem hlt⟩
      have ht := Lib.hid (kvs_take_succ hx)
      obtain ⟨g0, rfl, hB0⟩ : ∃ g0, a = some ⟨g0, 0, none⟩ ∧ Blk w g0 (fl S) 210 := by
        rcases HS.out with ⟨rfl, _⟩ | ⟨g0, e, h⟩
        · simp at hlt
        · cases e; exact ⟨g0, rfl, h⟩
      have hB1 := hk.out.blk hB0 (fun f => f)
      rcases x with _ | ⟨⟨k1, k2⟩, v⟩
      · obtain ⟨c0, c1, c2, c3⟩ := slot_cells hB1 hx rfl
        have HX := Lib.hid hx
        clear hx hB1 hB0
        go_wp2_with ((with_reducible refine wpList_index_run rfl 182 _ _ rfl (v := .pointer (some ⟨g0, i * 4, none⟩)) ?_ ?_); exact run_ix g0 S.length hlt _)
        go_roundg (S.length - (i + 1))
        case measure => have := hm.out; omega
        case rel => exact ⟨i + 1, S', Lib.hid rfl, by omega, by go_num, hB, hlen, hP, Lib.hid (by rw [ht.out]; simpa [kvs] using hperm.out), hk⟩
      · obtain ⟨c0, c1, c2, c3⟩ := slot_cells hB1 hx rfl
        have HX := Lib.hid hx
        clear hx hB1 hB0
        go_wp2_with ((with_reducible refine wpList_index_run rfl 182 _ _ rfl (v := .pointer (some ⟨g0, i * 4, none⟩)) ?_ ?_); exact run_ix g0 S.length hlt _)
        have hf := Lib.hid (one_free (S := S') (by rw [hlen.out, hperm.out.length_eq]; have := kvs_take_le S i; have := HFIT.out; omega))
        go_still_tail 11, (by kernel_rfl)
        change wpList _ _ _ _ _ wr.drew
        have hB2 := hB.out.drew
        have hk2 := hk.out.drew
        generalize wr.drew = w2 at *
        obtain ⟨f, hff⟩ := hf.out
        have F := Lib.hid (fill_any hB2 (by rw [hlen.out]; exact hn) hff (k1, k2) v (fun u hu => key_new HND.out HX.out u (hperm.out.mem_iff.1 hu)))
        rw [hlen.out] at F
        have HK2 := Lib.hid hk2
        clear hff hB2 hk2 c0 c1 c2 c3
        go_wp2_with fail
        with_reducible refine Calls.mono F.out ?_
        rintro e w3 hF
        obtain ⟨S2, hl2, hP2, hp2, hB3, hk3⟩ := hF.good (by rw [hlen.out]; exact hP.out)
        have he := hF.1
        subst he
        go_wp2_with fail
        go_roundg (S.length - (i + 1))
        case measure => have := hm.out; omega
        case rel => exact ⟨i + 1, S2, Lib.hid rfl, by omega, by go_num, Lib.hid hB3, Lib.hid (hl2.trans hlen.out), Lib.hid (by rw [hlen.out] at hP2; exact hP2), Lib.hid (by
          rw [ht.out]
          refine hp2.trans ?_
          refine (hperm.out.cons _).trans ?_
          exact (List.perm_append_singleton _ _).symm), Lib.hid (HK2.out.trans' hk3 (fun j hj e => by have := HG.out; omega))⟩
    · go_wp2_with fail
      go_ret
      obtain rfl : i = S.length := by omega
      exact ⟨g, S', rfl, by rw [HG.out]; exact Nat.le_refl _, hB.out, hlen.out, hP.out, by have := hperm.out; rwa [List.take_length] at this, hk.out⟩
end Go.Proofs.YtjjamooihddkgaaGreat.TbP

/- Slots with open addressing: neither too few nor too many. Conditions: each theorem's own. -/
namespace Go.Proofs.YtjjamooihddkgaaGreat.TbP
open Go.RowKit Hp TbM TbN TbR
attribute [local go_sem ↓] Go.wp_at_zero Go.wp_at_succ
theorem pow_dbl {n : Nat} (h : Pow n) (hl : n < 1000000) : Pow (2 * n) := by
  obtain ⟨p, hp, rfl⟩ := h
  refine ⟨p + 1, ?_, by rw [Nat.pow_succ]; omega⟩
  rcases Nat.lt_or_ge p 30 with h | h
  · omega
  · have := Nat.pow_le_pow_right (n := 2) (by decide) h
    have e : (2 : Nat) ^ 30 = 1073741824 := by decide
    omega
theorem pow_half {n : Nat} (h : Pow n) (hl : 8 < n) : Pow (n / 2) ∧ 8 ≤ n / 2 ∧ 2 * (n / 2) = n := by
  obtain ⟨p, hp, rfl⟩ := h
  rcases Nat.lt_or_ge p 4 with h | h
  · have h4 : p = 0 ∨ p = 1 ∨ p = 2 ∨ p = 3 := by omega
    rcases h4 with rfl | rfl | rfl | rfl <;> simp at hl
  · obtain ⟨q, rfl⟩ : ∃ q, p = q + 4 := ⟨p - 4, by omega⟩
    have e : 2 ^ (q + 4) = 2 * 2 ^ (q + 3) := by rw [Nat.pow_succ]; omega
    have e2 : 2 ^ (q + 3) = 8 * 2 ^ q := by rw [Nat.pow_succ, Nat.pow_succ, Nat.pow_succ]; omega
    have h0 := Nat.two_pow_pos q
    rw [e, show 2 * 2 ^ (q + 3) / 2 = 2 ^ (q + 3) by omega]
    exact ⟨⟨q + 3, by omega, rfl⟩, by omega, rfl⟩
theorem pow8 : Pow 8 := ⟨3, by decide, rfl⟩
/-- Slots as they may be. -/
structure Fit (S : List (Option (Ky × Nat))) : Prop where
  pow : Pow S.length
  least : 8 ≤ S.length
  path : Path (homeF S.length) none_ S
/-- What making room leaves. -/
def RoomP (S : List (Option (Ky × Nat))) (v : Value) (c : Nat) (w : World) (e : Ending) (w' : World) : Prop :=
  ∃ v' S', e = .returned v' ∧ SlV ev zv w' 210 v' S' ∧ Fit S' ∧ 2 * c ≤ S'.length ∧ (kvs S').Perm (kvs S) ∧ (∀ g, v'.ownBlock = some g → v.ownBlock = some g ∨ w.heap.size ≤ g ∧ g < w'.heap.size) ∧ Kept (fun _ => False) w w'
theorem MovedP.room {S : List (Option (Ky × Nat))} {n c : Nat} {v : Value} {w w' : World} {e : Ending} (h : MovedP S n w e w') (hn : Pow n) (h8 : 8 ≤ n) (hc : 2 * c ≤ n) : RoomP S v c w e w' := by
  obtain ⟨g, S', rfl, hg, hB, hl, hP, hp, hk⟩ := h
  subst hl
  refine ⟨_, S', rfl, Or.inr ⟨g, rfl, hB⟩, ⟨hn, h8, hP⟩, hc, hp, fun g' e => ?_, hk⟩
  have : g = g' := Option.some.inj e
  subst this
  exact Or.inr ⟨hg, hB.lt⟩
set_option maxHeartbeats 4000000 in
theorem room_grow {w : World} {v : Value} {S : List (Option (Ky × Nat))} (hS : SlV ev zv w 210 v S) (hf : S = [] ∨ Fit S) (hnd : ((kvs S).map Prod.fst).Nodup) {c : Nat} (hc : c ≤ 100000) (hcS : (kvs S).length ≤ c) (h2 : 2 * c ≤ S.length + 2) (hg : S.length < 2 * c) :
    Calls Tryz.prog 142 #[v, .int .i64 c] w (RoomP S v c w) := by
  obtain ⟨a, rfl⟩ : ∃ a, v = .slice a S.length S.length := by
    rcases hS with ⟨rfl, rfl⟩ | ⟨g, rfl, _⟩
    · exact ⟨none, rfl⟩
    · exact ⟨_, rfl⟩
  obtain ⟨m, hm, hm1, hm2, hm3⟩ : ∃ m : Nat, (if (8 : Int) < 2 * (S.length : Int) then 2 * (S.length : Int) else 8) = (m : Int) ∧ Pow m ∧ 8 ≤ m ∧ 2 * c ≤ m := by
    rcases hf with rfl | hf
    · exact ⟨8, rfl, pow8, by omega, by simp at h2; omega⟩
    · have := hf.least
      refine ⟨2 * S.length, ?_, pow_dbl hf.pow (by omega), by omega, by omega⟩
      rw [if_pos (by omega)]; omega
  have M := Lib.hid (moved_any hS (by omega) hnd hm1 (by omega))
  have hcI : (c : Int) * 2 = ((2 * c : Nat) : Int) := by omega
  have HM1 := Lib.hid hm1
  have g1 : ((S.length : Nat) : Int) < (c : Int) * 2 := by omega
  clear hS hf hnd hcS hm1 hcI
  go_enter Tryz.func142, Tryz.ntmps142
  go_wp2_with fail
  with_reducible refine Calls.mono M.out ?_
  rintro e w' hM
  obtain ⟨g, S', rfl, _⟩ := id hM
  have P := Lib.hid (hM.room (v := .slice a S.length S.length) HM1.out hm2 hm3)
  clear hM
  go_wp2_with fail
  go_ret
  exact P.out
set_option maxHeartbeats 4000000 in
theorem room_shrink {w : World} {v : Value} {S : List (Option (Ky × Nat))} (hS : SlV ev zv w 210 v S) (hf : Fit S) (hnd : ((kvs S).map Prod.fst).Nodup) {c : Nat} (hc : c ≤ 100000) (hcS : (kvs S).length ≤ c) (h2 : 8 * c < S.length) (hg : 8 < S.length) :
    Calls Tryz.prog 142 #[v, .int .i64 c] w (RoomP S v c w) := by
  obtain ⟨a, rfl⟩ : ∃ a, v = .slice a S.length S.length := by
    rcases hS with ⟨rfl, rfl⟩ | ⟨g, rfl, _⟩
    · exact ⟨none, rfl⟩
    · exact ⟨_, rfl⟩
  obtain ⟨q1, q2, q3⟩ := pow_half hf.pow hg
  have hle := hf.pow.le
  have M := Lib.hid (moved_any hS hle hnd q1 (by omega))
  have hdiv : ((S.length : Nat) : Int) / 2 = ((S.length / 2 : Nat) : Int) := by omega
  have HM1 := Lib.hid q1
  have g1 : ¬ ((S.length : Nat) : Int) < (c : Int) * 2 := by omega
  have g2 : (c : Int) * 8 < ((S.length : Nat) : Int) := by omega
  have g3 : (8 : Int) < ((S.length : Nat) : Int) := by omega
  have hm3 : 2 * c ≤ S.length / 2 := by omega
  have hml : S.length / 2 ≤ S.length := by omega
  clear hS hf hnd hcS q1 q3 h2
  generalize S.length / 2 = m at *
  go_enter Tryz.func142, Tryz.ntmps142
  go_wp2_with fail
  with_reducible refine Calls.mono M.out ?_
  rintro e w' hM
  obtain ⟨g, S', rfl, _⟩ := id hM
  have P := Lib.hid (hM.room (v := .slice a S.length S.length) HM1.out q2 hm3)
  clear hM
  go_wp2_with fail
  go_ret
  exact P.out
set_option maxHeartbeats 4000000 in
theorem room_stay {w : World} {v : Value} {S : List (Option (Ky × Nat))} (hS : SlV ev zv w 210 v S) (hf : Fit S) {c : Nat} (hc : 2 * c ≤ S.length) (h2 : S.length ≤ 8 * c ∨ S.length ≤ 8) :
    Calls Tryz.prog 142 #[v, .int .i64 c] w (RoomP S v c w) := by
  have P := Lib.hid (show RoomP S v c w (.returned v) w from ⟨v, S, rfl, hS, hf, hc, List.Perm.refl _, fun g e => Or.inl e, Kept.refl _ w⟩)
  obtain ⟨a, rfl⟩ : ∃ a, v = .slice a S.length S.length := by
    rcases hS with ⟨rfl, rfl⟩ | ⟨g, rfl, _⟩
    · exact ⟨none, rfl⟩
    · exact ⟨_, rfl⟩
  have hle := hf.pow.le
  have g1 : ¬ ((S.length : Nat) : Int) < (c : Int) * 2 := by omega
  have hcl : c ≤ 1073741824 := by omega
  have h2' : ¬ ((c : Int) * 8 < ((S.length : Nat) : Int)) ∨ ((c : Int) * 8 < ((S.length : Nat) : Int) ∧ decide ((8 : Int) < ((S.length : Nat) : Int)) = false) := by
    rw [decide_eq_false_iff_not]; omega
  clear hS hf h2
  rcases h2' with g2 | ⟨g2, g3⟩
  all_goals
    go_enter Tryz.func142, Tryz.ntmps142
    go_wp2_with fail
    go_ret
    exact P.out
/-- Room for c. -/
theorem room_any {w : World} {v : Value} {S : List (Option (Ky × Nat))} (hS : SlV ev zv w 210 v S) (hf : S = [] ∨ Fit S) (hnd : ((kvs S).map Prod.fst).Nodup) {c : Nat} (hc : c ≤ 100000) (hcS : (kvs S).length ≤ c) (h2 : 2 * c ≤ S.length + 2) (h1 : 1 ≤ c ∨ Fit S) :
    Calls Tryz.prog 142 #[v, .int .i64 c] w (RoomP S v c w) := by
  rcases Nat.lt_or_ge S.length (2 * c) with h | h
  · exact room_grow hS hf hnd hc hcS h2 h
  · have hF : Fit S := by
      rcases hf with rfl | hf
      · rcases h1 with h1 | h1
        · simp at h; omega
        · exact h1
      · exact hf
    by_cases h3 : 8 * c < S.length ∧ 8 < S.length
    · exact room_shrink hS hF hnd hc hcS h3.1 h3.2
    · exact room_stay hS hF h (by omega)
end Go.Proofs.YtjjamooihddkgaaGreat.TbP

/- A table: how it lies; New, Len, Most, Get; a search of it. Conditions: each theorem's own. -/
namespace Go.Proofs.YtjjamooihddkgaaGreat.TbP
open Go.RowKit Hp TbM TbN TbR
attribute [local go_sem ↓] Go.wp_at_zero Go.wp_at_succ
/-- A table of the things m; F: its blocks. -/
structure Tab (w : World) (base : Nat) (F : Nat → Prop) (b most : Nat) (m : List (Ky × Nat)) (S : List (Option (Ky × Nat))) (v : Value) : Prop where
  blk : Blk w b [.int .i64 most, .int .i64 (m.length : Nat), v] 184
  lies : (S = [] ∧ v = .slice none 0 0) ∨ ∃ g, v = .slice (some ⟨g, 0, none⟩) S.length S.length ∧ Blk w g (fl S) 210 ∧ Fit S
  room : 2 * m.length ≤ S.length
  perm : (kvs S).Perm m
  keys : (m.map Prod.fst).Nodup
  fb : F b
  fv : ∀ g, v.ownBlock = some g → F g
  own : ∀ k, F k → base ≤ k ∧ k < w.heap.size
  few : m.length ≤ 1000
  most1 : 1 ≤ most ∧ most ≤ 100000
def TabV (w : World) (base : Nat) (F : Nat → Prop) (b most : Nat) (m : List (Ky × Nat)) : Prop := ∃ S v, Tab w base F b most m S v
theorem Tab.nd {w : World} {base : Nat} {F : Nat → Prop} {b most : Nat} {m : List (Ky × Nat)} {S : List (Option (Ky × Nat))} {v : Value} (h : Tab w base F b most m S v) : ((kvs S).map Prod.fst).Nodup := (h.perm.map _).nodup_iff.2 h.keys
theorem Tab.kept {w w' : World} {base : Nat} {F G : Nat → Prop} {b most : Nat} {m : List (Ky × Nat)} {S : List (Option (Ky × Nat))} {v : Value} (h : Tab w base F b most m S v) (k : Kept G w w') (hG : ∀ i, F i → ¬ G i) : Tab w' base F b most m S v :=
  ⟨k.blk h.blk (hG _ h.fb), h.lies.imp id (fun ⟨g, e, hB, hf⟩ => ⟨g, e, k.blk hB (hG _ (h.fv g (by rw [e]; rfl))), hf⟩), h.room, h.perm, h.keys, h.fb, h.fv, fun i hi => ⟨(h.own i hi).1, Nat.lt_of_lt_of_le (h.own i hi).2 k.size⟩, h.few, h.most1⟩
theorem Tab.old {w w' : World} {base : Nat} {F : Nat → Prop} {b most : Nat} {m : List (Ky × Nat)} {S : List (Option (Ky × Nat))} {v : Value} (h : Tab w base F b most m S v) (k : Kept (fun _ => False) w w') : Tab w' base F b most m S v := h.kept k (fun _ _ f => f)
theorem TabV.kept {w w' : World} {base : Nat} {F G : Nat → Prop} {b most : Nat} {m : List (Ky × Nat)} (h : TabV w base F b most m) (k : Kept G w w') (hG : ∀ i, F i → ¬ G i) : TabV w' base F b most m := by
  obtain ⟨S, v, h⟩ := h; exact ⟨S, v, h.kept k hG⟩
theorem TabV.old {w w' : World} {base : Nat} {F : Nat → Prop} {b most : Nat} {m : List (Ky × Nat)} (h : TabV w base F b most m) (k : Kept (fun _ => False) w w') : TabV w' base F b most m := h.kept k (fun _ _ f => f)
theorem TabV.perm {w : World} {base : Nat} {F : Nat → Prop} {b most : Nat} {m m' : List (Ky × Nat)} (h : TabV w base F b most m) (p : m.Perm m') : TabV w base F b most m' := by
  obtain ⟨S, v, h⟩ := h
  have hl := p.length_eq
  exact ⟨S, v, by rw [← hl]; exact h.blk, h.lies, by rw [← hl]; exact h.room, h.perm.trans p, (p.map _).nodup_iff.1 h.keys, h.fb, h.fv, h.own, by rw [← hl]; exact h.few, h.most1⟩
/-- What is its own, and what is new. -/
def More (F : Nat → Prop) (w w' : World) (k : Nat) : Prop := F k ∨ (w.heap.size ≤ k ∧ k < w'.heap.size)
theorem Tab.slots {w : World} {base : Nat} {F : Nat → Prop} {b most : Nat} {m : List (Ky × Nat)} {S : List (Option (Ky × Nat))} {v : Value} (h : Tab w base F b most m S v) : SlV ev zv w 210 v S :=
  h.lies.imp id (fun ⟨g, e, hB, _⟩ => ⟨g, e, hB⟩)
theorem Tab.fit {w : World} {base : Nat} {F : Nat → Prop} {b most : Nat} {m : List (Ky × Nat)} {S : List (Option (Ky × Nat))} {v : Value} (h : Tab w base F b most m S v) : S = [] ∨ Fit S :=
  h.lies.imp (fun h => h.1) (fun ⟨_, _, _, h⟩ => h)
theorem Tab.free {w : World} {base : Nat} {F : Nat → Prop} {b most : Nat} {m : List (Ky × Nat)} {S : List (Option (Ky × Nat))} {v : Value} (h : Tab w base F b most m S v) (hf : Fit S) : ∃ f : Nat, S[f]? = some none := by
  have h8 := hf.least
  have hr := h.room
  have hl := h.perm.length_eq
  exact one_free (by omega)
/-- A search that finds. -/
theorem sfind_hit {w : World} {T : TypeId} {g : Nat} {S : List (Option (Ky × Nat))} (hB : Blk w g (fl S) T) (hF : Fit S) (hnd : ((kvs S).map Prod.fst).Nodup) {f : Nat} (hf : S[f]? = some none) {k : Ky} {v : Nat} {i : Nat} (hi : S[i]? = some (some (k, v))) :
    Calls Tryz.prog 163 #[.slice (some ⟨g, 0, none⟩) S.length S.length, ky k] w fun e w' => e = .returned (.tuple #[.int .i64 i, .bool true]) ∧ Kept (fun _ => False) w w' := by
  refine (find_any hB hF.pow hf k).mono ?_
  rintro e w' ⟨d, hd, hk, hall, ⟨u, hu, rfl⟩ | ⟨hu, rfl⟩⟩
  · exact ⟨by rw [one_slot hnd hu hi], hk⟩
  · exact absurd (mem_kvs.2 ⟨i, hi⟩) (nowhere hF.path (home_lt hF.pow.pos k) hall hu v)
/-- A search that does not. -/
theorem sfind_miss {w : World} {v : Value} {S : List (Option (Ky × Nat))} (h : (S = [] ∧ v = .slice none 0 0) ∨ ∃ g, v = .slice (some ⟨g, 0, none⟩) S.length S.length ∧ Blk w g (fl S) 210 ∧ Fit S) {f : Nat} (hf : Fit S → S[f]? = some none) {k : Ky} (hno : ∀ u, (k, u) ∉ kvs S) :
    Calls Tryz.prog 163 #[v, ky k] w fun e w' => (∃ i : Nat, e = .returned (.tuple #[.int .i64 i, .bool false])) ∧ Kept (fun _ => False) w w' := by
  rcases h with ⟨rfl, rfl⟩ | ⟨g, rfl, hB, hF⟩
  · exact (find_none k w).mono fun e w' ⟨h1, h2⟩ => ⟨⟨0, h1⟩, h2⟩
  · refine (find_any hB hF.pow (hf hF) k).mono ?_
    rintro e w' ⟨d, hd, hk, hall, ⟨u, hu, rfl⟩ | ⟨hu, rfl⟩⟩
    · exact absurd (mem_kvs.2 ⟨_, hu⟩) (hno u)
    · exact ⟨⟨_, rfl⟩, hk⟩
set_option maxHeartbeats 4000000 in
theorem tfind_hit {w : World} {base : Nat} {F : Nat → Prop} {b most : Nat} {m : List (Ky × Nat)} {S : List (Option (Ky × Nat))} {v : Value} (h : Tab w base F b most m S v) {k : Ky} {u : Nat} {i : Nat} (hi : S[i]? = some (some (k, u))) :
    Calls Tryz.prog 140 #[.pointer (some ⟨b, 0, none⟩), ky k] w fun e w' => e = .returned (.tuple #[.int .i64 i, .bool true]) ∧ Kept (fun _ => False) w w' := by
  have C := Lib.hid fun (w' : World) (hk : Kept (fun _ => False) w w') => (show Calls Tryz.prog 163 #[v, ky k] w' fun e w'' => e = .returned (.tuple #[.int .i64 i, .bool true]) ∧ Kept (fun _ => False) w' w'' from by
    rcases h.lies with ⟨rfl, _⟩ | ⟨g, rfl, hB, hF⟩
    · simp at hi
    · obtain ⟨f, hf⟩ := h.free hF
      exact sfind_hit (hk.blk hB (fun f => f)) hF h.nd hf hi)
  have HB := Lib.hid h.blk
  clear hi h
  obtain ⟨k1, k2⟩ := k
  go_enter Tryz.func140, Tryz.ntmps140
  go_upto_region 3 with fail
  have hR := Blk.new w [.int .i64 k1, .int .u64 k2] 95
  have hk := (Kept.refl (fun _ => False) w).alloc (.cells [.int .i64 k1, .int .u64 k2].toArray 95)
  dsimp only [List.toArray] at hR hk
  have hb1 := hk.blk HB.out (fun f => f)
  have c0 := hR.cell (o := 0) rfl
  have c1 := hR.cell (o := 1) rfl
  have c2 := hb1.cell (o := 2) rfl
  have HR := Lib.hid hR
  have HK := Lib.hid hk
  have HB1 := Lib.hid hb1
  clear hR hk hb1
  generalize w.alloc (.cells #[.int .i64 k1, .int .u64 k2] 95) = w1 at *
  generalize w.heap.size = rb at *
  go_region_held3 (fun w' => w'.cell? ⟨rb, 0, none⟩ = some (.int .i64 k1) ∧ w'.cell? ⟨rb, 1, none⟩ = some (.int .u64 k2) ∧ w'.cell? ⟨b, 2, none⟩ = some v) (first | exact ⟨c0, c1, c2⟩ | exact ⟨(hk2.blk (Blk.drew HR.out) (fun f => f)).cell rfl, (hk2.blk (Blk.drew HR.out) (fun f => f)).cell rfl, (hk2.blk (Blk.drew HB1.out) (fun f => f)).cell rfl⟩)
    (first | (go_at_call 163; with_reducible refine Calls.mono (C.out _ (by first | exact HK.out | exact HK.out.drew)) ?_; rintro e w2 ⟨rfl, hk2⟩))
  go_wp2_with fail
  go_ret2
  exact ⟨rfl, HK.out.drew.trans hk2⟩
set_option maxHeartbeats 4000000 in
theorem tfind_miss {w : World} {base : Nat} {F : Nat → Prop} {b most : Nat} {m : List (Ky × Nat)} {S : List (Option (Ky × Nat))} {v : Value} (h : Tab w base F b most m S v) {k : Ky} (hno : ∀ u, (k, u) ∉ m) :
    Calls Tryz.prog 140 #[.pointer (some ⟨b, 0, none⟩), ky k] w fun e w' => (∃ i : Nat, e = .returned (.tuple #[.int .i64 i, .bool false])) ∧ Kept (fun _ => False) w w' := by
  have C := Lib.hid fun (w' : World) (hk : Kept (fun _ => False) w w') => (show Calls Tryz.prog 163 #[v, ky k] w' fun e w'' => (∃ i : Nat, e = .returned (.tuple #[.int .i64 i, .bool false])) ∧ Kept (fun _ => False) w' w'' from by
    have hno' : ∀ u, (k, u) ∉ kvs S := fun u hu => hno u (h.perm.mem_iff.1 hu)
    by_cases hF : Fit S
    · obtain ⟨f, hf⟩ := h.free hF
      exact sfind_miss (h.old hk).lies (fun _ => hf) hno'
    · exact sfind_miss (f := 0) (h.old hk).lies (fun e => absurd e hF) hno')
  have HB := Lib.hid h.blk
  clear hno h
  obtain ⟨k1, k2⟩ := k
  go_enter Tryz.func140, Tryz.ntmps140
  go_upto_region 3 with fail
  have hR := Blk.new w [.int .i64 k1, .int .u64 k2] 95
  have hk := (Kept.refl (fun _ => False) w).alloc (.cells [.int .i64 k1, .int .u64 k2].toArray 95)
  dsimp only [List.toArray] at hR hk
  have hb1 := hk.blk HB.out (fun f => f)
  have c0 := hR.cell (o := 0) rfl
  have c1 := hR.cell (o := 1) rfl
  have c2 := hb1.cell (o := 2) rfl
  have HR := Lib.hid hR
  have HK := Lib.hid hk
  have HB1 := Lib.hid hb1
  clear hR hk hb1
  generalize w.alloc (.cells #[.int .i64 k1, .int .u64 k2] 95) = w1 at *
  generalize w.heap.size = rb at *
  go_region_held3 (fun w' => w'.cell? ⟨rb, 0, none⟩ = some (.int .i64 k1) ∧ w'.cell? ⟨rb, 1, none⟩ = some (.int .u64 k2) ∧ w'.cell? ⟨b, 2, none⟩ = some v) (first | exact ⟨c0, c1, c2⟩ | exact ⟨(hk2.blk (Blk.drew HR.out) (fun f => f)).cell rfl, (hk2.blk (Blk.drew HR.out) (fun f => f)).cell rfl, (hk2.blk (Blk.drew HB1.out) (fun f => f)).cell rfl⟩)
    (first | (go_at_call 163; with_reducible refine Calls.mono (C.out _ (by first | exact HK.out | exact HK.out.drew)) ?_; rintro e w2 ⟨⟨i, rfl⟩, hk2⟩))
  go_wp2_with fail
  go_ret2
  exact ⟨⟨i, rfl⟩, HK.out.drew.trans hk2⟩
theorem tfind_nil (k : Ky) (w : World) : Calls Tryz.prog 140 #[.pointer none, ky k] w fun e w' => e = .returned (.tuple #[.int .i64 0, .bool false]) ∧ Kept (fun _ => False) w w' := by
  obtain ⟨k1, k2⟩ := k
  go_enter Tryz.func140, Tryz.ntmps140
  go_wp2_with fail
  go_ret2
  exact ⟨rfl, (Kept.refl _ w).alloc _⟩
/-- What New leaves. -/
def NewP (w : World) (most : Nat) (e : Ending) (w' : World) : Prop := ∃ b, e = .returned (.tuple #[.pointer (some ⟨b, 0, none⟩), .int .i64 0]) ∧ TabV w' w.heap.size (fun k => k = b) b most [] ∧ Kept (fun _ => False) w w'
theorem new_yes {most : Nat} (h0 : 1 ≤ most) (h1 : most ≤ 100000) (w : World) : Calls Tryz.prog 80 #[.int .i64 most] w (NewP w most) := by
  have g1 : ¬ ((most : Int) < 1) := by omega
  have g2 : ¬ ((100000 : Int) < (most : Int)) := by omega
  go_enter Tryz.func80, Tryz.ntmps80
  go_wp2_with fail
  go_ret2
  refine ⟨_, rfl, ⟨[], .slice none 0 0, Blk.new w _ _, Or.inl ⟨rfl, rfl⟩, by simp, List.Perm.refl _, by simp, rfl, (fun g e => by cases e), (fun k e => ?_), by simp, h0, h1⟩, (Kept.refl _ w).alloc _⟩
  subst e
  rw [World.size_alloc]; omega
theorem new_no {most : Int} (h : ¬ (1 ≤ most ∧ most ≤ 100000)) (w : World) : Calls Tryz.prog 80 #[.int .i64 most] w fun e w' => e = .returned (.tuple #[.pointer none, .int .i64 1]) ∧ w = w' := by
  have hc : most < 1 ∨ (¬ most < 1 ∧ 100000 < most) := by omega
  clear h
  rcases hc with h1 | ⟨h1, h2⟩
  all_goals
    go_enter Tryz.func80, Tryz.ntmps80
    go_wp2_with fail
    go_ret2
    exact ⟨rfl, rfl⟩
set_option maxHeartbeats 4000000 in
theorem get_hit {w : World} {base : Nat} {F : Nat → Prop} {b most : Nat} {m : List (Ky × Nat)} (h : TabV w base F b most m) {k : Ky} {u : Nat} (hm : (k, u) ∈ m) :
    Calls Tryz.prog 121 #[.pointer (some ⟨b, 0, none⟩), ky k] w fun e w' => e = .returned (.tuple #[ev u, .bool true]) ∧ Kept (fun _ => False) w w' := by
  obtain ⟨S, v, h⟩ := h
  obtain ⟨i, hi⟩ := mem_kvs.1 (h.perm.mem_iff.2 hm)
  obtain ⟨g, rfl, hB⟩ : ∃ g, v = .slice (some ⟨g, 0, none⟩) S.length S.length ∧ Blk w g (fl S) 210 := by
    rcases h.lies with ⟨rfl, _⟩ | ⟨g, e, hB, _⟩
    · simp at hi
    · exact ⟨g, e, hB⟩
  have C := Lib.hid fun (w' : World) (hk : Kept (fun _ => False) w w') => tfind_hit (h.old hk) hi
  have HT := Lib.hid h.blk
  have HB := Lib.hid hB
  have HI := Lib.hid hi
  have hil := lt_of_some hi
  clear h hi hB hm
  obtain ⟨k1, k2⟩ := k
  go_enter Tryz.func121, Tryz.ntmps121
  go_upto_region 1 with fail
  have hR := Blk.new w [.int .i64 k1, .int .u64 k2] 95
  have hk := (Kept.refl (fun _ => False) w).alloc (.cells [.int .i64 k1, .int .u64 k2].toArray 95)
  dsimp only [List.toArray] at hR hk
  have c0 := hR.cell (o := 0) rfl
  have c1 := hR.cell (o := 1) rfl
  have HK := Lib.hid hk
  clear hR hk
  generalize w.alloc (.cells #[.int .i64 k1, .int .u64 k2] 95) = w1 at *
  generalize w.heap.size = rb at *
  go_wp2_with fail
  with_reducible refine Calls.mono (C.out _ HK.out) ?_
  rintro e w2 ⟨rfl, hk2⟩
  have HK2 := Lib.hid (HK.out.trans hk2)
  clear hk2 c0 c1 C
  have c2 := (HK2.out.blk HT.out (fun f => f)).cell (o := 2) rfl
  obtain ⟨q0, q1, q2, q3⟩ := slot_cells (HK2.out.blk HB.out (fun f => f)) HI.out rfl
  go_wp2_with ((with_reducible refine wpList_index_run rfl 182 _ _ rfl ?_ ?_); exact run_ix g S.length (by assumption) _)
  go_ret2
  exact ⟨rfl, HK2.out⟩
set_option maxHeartbeats 4000000 in
theorem get_miss {w : World} {base : Nat} {F : Nat → Prop} {b most : Nat} {m : List (Ky × Nat)} (h : TabV w base F b most m) {k : Ky} (hm : ∀ u, (k, u) ∉ m) :
    Calls Tryz.prog 121 #[.pointer (some ⟨b, 0, none⟩), ky k] w fun e w' => e = .returned (.tuple #[zv, .bool false]) ∧ Kept (fun _ => False) w w' := by
  obtain ⟨S, v, h⟩ := h
  have C := Lib.hid fun (w' : World) (hk : Kept (fun _ => False) w w') => tfind_miss (h.old hk) hm
  clear h hm
  obtain ⟨k1, k2⟩ := k
  go_enter Tryz.func121, Tryz.ntmps121
  go_upto_region 1 with fail
  have hR := Blk.new w [.int .i64 k1, .int .u64 k2] 95
  have hk := (Kept.refl (fun _ => False) w).alloc (.cells [.int .i64 k1, .int .u64 k2].toArray 95)
  dsimp only [List.toArray] at hR hk
  have c0 := hR.cell (o := 0) rfl
  have c1 := hR.cell (o := 1) rfl
  have HK := Lib.hid hk
  clear hR hk
  generalize w.alloc (.cells #[.int .i64 k1, .int .u64 k2] 95) = w1 at *
  generalize w.heap.size = rb at *
  go_wp2_with fail
  with_reducible refine Calls.mono (C.out _ HK.out) ?_
  rintro e w2 ⟨⟨i, rfl⟩, hk2⟩
  have HK2 := Lib.hid (HK.out.trans hk2)
  clear hk2 c0 c1 C
  go_wp2_with fail
  go_ret2
  exact ⟨rfl, HK2.out⟩
theorem get_nil (k : Ky) (w : World) : Calls Tryz.prog 121 #[.pointer none, ky k] w fun e w' => e = .returned (.tuple #[zv, .bool false]) ∧ Kept (fun _ => False) w w' := by
  have C := Lib.hid fun (w' : World) => tfind_nil k w'
  obtain ⟨k1, k2⟩ := k
  go_enter Tryz.func121, Tryz.ntmps121
  go_upto_region 1 with fail
  have hR := Blk.new w [.int .i64 k1, .int .u64 k2] 95
  have hk := (Kept.refl (fun _ => False) w).alloc (.cells [.int .i64 k1, .int .u64 k2].toArray 95)
  dsimp only [List.toArray] at hR hk
  have c0 := hR.cell (o := 0) rfl
  have c1 := hR.cell (o := 1) rfl
  have HK := Lib.hid hk
  clear hR hk
  generalize w.alloc (.cells #[.int .i64 k1, .int .u64 k2] 95) = w1 at *
  generalize w.heap.size = rb at *
  go_wp2_with fail
  with_reducible refine Calls.mono (C.out _) ?_
  rintro e w2 ⟨rfl, hk2⟩
  go_wp2_with fail
  go_ret2
  exact ⟨rfl, HK.out.trans hk2⟩
end Go.Proofs.YtjjamooihddkgaaGreat.TbP

/- A table: Put. Conditions: each theorem's own. -/
namespace Go.Proofs.YtjjamooihddkgaaGreat.TbP
open Go.RowKit Hp TbM TbN TbR
attribute [local go_sem ↓] Go.wp_at_zero Go.wp_at_succ
/-- Room that was made, opened. -/
def RoomO (S : List (Option (Ky × Nat))) (v : Value) (c : Nat) (w : World) (e : Ending) (w' : World) : Prop :=
  ∃ (g : Nat) (S' : List (Option (Ky × Nat))), e = .returned (.slice (some ⟨g, 0, none⟩) S'.length S'.length) ∧ Blk w' g (fl S') 210 ∧ Fit S' ∧ 2 * c ≤ S'.length ∧ (kvs S').Perm (kvs S) ∧ (v.ownBlock = some g ∨ w.heap.size ≤ g ∧ g < w'.heap.size) ∧ Kept (fun _ => False) w w'
theorem RoomP.opened {S : List (Option (Ky × Nat))} {v : Value} {c : Nat} {w w' : World} {e : Ending} (h : RoomP S v c w e w') : RoomO S v c w e w' := by
  obtain ⟨v', S', rfl, hS, hF, hc, hp, ho, hk⟩ := h
  rcases hS with ⟨rfl, _⟩ | ⟨g, rfl, hB⟩
  · have := hF.least; simp at this
  · exact ⟨g, S', rfl, hB, hF, hc, hp, ho g rfl, hk⟩
theorem put_nil (k : Ky) (v : Nat) (w : World) : Calls Tryz.prog 126 #[.pointer none, ky k, ev v] w fun e w' => e = .returned (.int .i64 4) ∧ Kept (fun _ => False) w w' := by
  have C := Lib.hid fun (w' : World) => tfind_nil k w'
  obtain ⟨k1, k2⟩ := k
  go_enter Tryz.func126, Tryz.ntmps126
  go_upto_region 1 with fail
  have hR := Blk.new w [.int .i64 k1, .int .u64 k2] 95
  have hk := (Kept.refl (fun _ => False) w).alloc (.cells [.int .i64 k1, .int .u64 k2].toArray 95)
  dsimp only [List.toArray] at hR hk
  have c0 := hR.cell (o := 0) rfl
  have c1 := hR.cell (o := 1) rfl
  have HK := Lib.hid hk
  clear hR hk
  generalize w.alloc (.cells #[.int .i64 k1, .int .u64 k2] 95) = w1 at *
  generalize w.heap.size = rb at *
  go_wp2_with fail
  with_reducible refine Calls.mono (C.out _) ?_
  rintro e w2 ⟨rfl, hk2⟩
  have HK2 := Lib.hid (HK.out.trans hk2)
  clear hk2 c0 c1 C
  go_wp2_with fail
  go_quiet (fail)
  go_wp2_with fail
  go_ret
  exact ⟨rfl, HK2.out.drewN _⟩
set_option maxHeartbeats 4000000 in
theorem put_there {w : World} {base : Nat} {F : Nat → Prop} {b most : Nat} {m : List (Ky × Nat)} (h : TabV w base F b most m) {k : Ky} {u : Nat} (hm : (k, u) ∈ m) (v : Nat) :
    Calls Tryz.prog 126 #[.pointer (some ⟨b, 0, none⟩), ky k, ev v] w fun e w' => e = .returned (.int .i64 6) ∧ Kept (fun _ => False) w w' := by
  obtain ⟨S, v0, h⟩ := h
  obtain ⟨i, hi⟩ := mem_kvs.1 (h.perm.mem_iff.2 hm)
  have C := Lib.hid fun (w' : World) (hk : Kept (fun _ => False) w w') => tfind_hit (h.old hk) hi
  clear h hi hm
  obtain ⟨k1, k2⟩ := k
  go_enter Tryz.func126, Tryz.ntmps126
  go_upto_region 1 with fail
  have hR := Blk.new w [.int .i64 k1, .int .u64 k2] 95
  have hk := (Kept.refl (fun _ => False) w).alloc (.cells [.int .i64 k1, .int .u64 k2].toArray 95)
  dsimp only [List.toArray] at hR hk
  have c0 := hR.cell (o := 0) rfl
  have c1 := hR.cell (o := 1) rfl
  have HK := Lib.hid hk
  clear hR hk
  generalize w.alloc (.cells #[.int .i64 k1, .int .u64 k2] 95) = w1 at *
  generalize w.heap.size = rb at *
  go_wp2_with fail
  with_reducible refine Calls.mono (C.out _ HK.out) ?_
  rintro e w2 ⟨rfl, hk2⟩
  have HK2 := Lib.hid (HK.out.trans hk2)
  clear hk2 c0 c1 C
  go_wp2_with fail
  go_ret
  exact ⟨rfl, HK2.out⟩
set_option maxHeartbeats 4000000 in
theorem put_full {w : World} {base : Nat} {F : Nat → Prop} {b most : Nat} {m : List (Ky × Nat)} (h : TabV w base F b most m) {k : Ky} (hno : ∀ u, (k, u) ∉ m) (hm : most ≤ m.length) (v : Nat) :
    Calls Tryz.prog 126 #[.pointer (some ⟨b, 0, none⟩), ky k, ev v] w fun e w' => e = .returned (.int .i64 4) ∧ Kept (fun _ => False) w w' := by
  obtain ⟨S, v0, h⟩ := h
  have C := Lib.hid fun (w' : World) (hk : Kept (fun _ => False) w w') => tfind_miss (h.old hk) hno
  have HT := Lib.hid h.blk
  have hd : decide (most ≤ m.length) = true := decide_eq_true hm
  clear h hno
  obtain ⟨k1, k2⟩ := k
  generalize m.length = ml at *
  go_enter Tryz.func126, Tryz.ntmps126
  go_upto_region 1 with fail
  have hR := Blk.new w [.int .i64 k1, .int .u64 k2] 95
  have hk := (Kept.refl (fun _ => False) w).alloc (.cells [.int .i64 k1, .int .u64 k2].toArray 95)
  dsimp only [List.toArray] at hR hk
  have c0 := hR.cell (o := 0) rfl
  have c1 := hR.cell (o := 1) rfl
  have HK := Lib.hid hk
  clear hR hk
  generalize w.alloc (.cells #[.int .i64 k1, .int .u64 k2] 95) = w1 at *
  generalize w.heap.size = rb at *
  go_wp2_with fail
  with_reducible refine Calls.mono (C.out _ HK.out) ?_
  rintro e w2 ⟨⟨i, rfl⟩, hk2⟩
  have HK2 := Lib.hid (HK.out.trans hk2)
  clear hk2 c0 c1 C
  have t0 := (HK2.out.blk HT.out (fun f => f)).cell (o := 0) rfl
  have t1 := (HK2.out.blk HT.out (fun f => f)).cell (o := 1) rfl
  go_wp2_with fail
  go_quiet (fail)
  go_wp2_with fail
  go_ret
  exact ⟨rfl, HK2.out.drewN _⟩
/-- What Put leaves. -/
def PutP (w : World) (base : Nat) (F : Nat → Prop) (b most : Nat) (m : List (Ky × Nat)) (k : Ky) (v : Nat) (e : Ending) (w' : World) : Prop :=
  e = .returned (.int .i64 0) ∧ TabV w' base (More F w w') b most ((k, v) :: m) ∧ Kept F w w'
set_option maxRecDepth 100000 in
set_option maxHeartbeats 8000000 in
theorem put_new {w : World} {base : Nat} {F : Nat → Prop} {b most : Nat} {m : List (Ky × Nat)} (h : TabV w base F b most m) (hbase : base ≤ w.heap.size) {k : Ky} (hno : ∀ u, (k, u) ∉ m) (hm : m.length < most) (hfew : m.length < 1000) (v : Nat) :
    Calls Tryz.prog 126 #[.pointer (some ⟨b, 0, none⟩), ky k, ev v] w (PutP w base F b most m k v) := by
  obtain ⟨S, v0, h⟩ := h
  have C := Lib.hid fun (w' : World) (hk : Kept (fun _ => False) w w') => tfind_miss (h.old hk) hno
  have HT := Lib.hid h.blk
  have hd : decide (most ≤ m.length) = false := by rw [decide_eq_false_iff_not]; omega
  have hp := h.perm.length_eq
  have hr := h.room
  have R := Lib.hid fun (w' : World) (hk : Kept (fun _ => False) w w') => (room_any (h.old hk).slots h.fit h.nd (c := m.length + 1) (by omega) (by omega) (by omega) (Or.inl (by omega))).mono fun _ _ h => RoomP.opened h
  have H := Lib.hid h
  have HNO := Lib.hid hno
  clear h hno hp hr
  obtain ⟨k1, k2⟩ := k
  have hw : IntKind.i64.wrap (((m.length : Nat) : Int) + 1) = ((m.length : Nat) : Int) + 1 := by rw [IntKind.wrap_i64]; omega
  have hcast : ((m.length : Nat) : Int) + 1 = ((m.length + 1 : Nat) : Int) := by omega
  obtain ⟨ml, hml⟩ : ∃ ml, ml = m.length := ⟨_, rfl⟩
  rw [← hml] at hm hd HT hfew hw hcast R
  have HML := Lib.hid hml
  clear hml
  rw [← hcast] at R
  clear hcast
  go_enter Tryz.func126, Tryz.ntmps126
  go_upto_region 1 with fail
  have hR := Blk.new w [.int .i64 k1, .int .u64 k2] 95
  have hk := (Kept.refl (fun _ => False) w).alloc (.cells [.int .i64 k1, .int .u64 k2].toArray 95)
  dsimp only [List.toArray] at hR hk
  have c0 := hR.cell (o := 0) rfl
  have c1 := hR.cell (o := 1) rfl
  have HR := Lib.hid hR
  have HK := Lib.hid hk
  clear hR hk
  generalize w.alloc (.cells #[.int .i64 k1, .int .u64 k2] 95) = w1 at *
  obtain ⟨rb, hrb⟩ : ∃ rb, w.heap.size = rb := ⟨_, rfl⟩
  rw [hrb] at c0 c1 HR ⊢
  have HRB := Lib.hid hrb
  clear hrb
  go_wp2_with fail
  with_reducible refine Calls.mono (C.out _ HK.out) ?_
  rintro e w2 ⟨⟨i, rfl⟩, hk2⟩
  have HK2 := Lib.hid (HK.out.trans hk2)
  have HR2 := Lib.hid (hk2.blk HR.out (fun f => f))
  clear hk2 c0 c1 C HR HK
  have t0 := (HK2.out.blk HT.out (fun f => f)).cell (o := 0) rfl
  have t1 := (HK2.out.blk HT.out (fun f => f)).cell (o := 1) rfl
  go_wp2_with fail
  go_quiet (fail)
  go_wp2_with fail
  generalize hw3 : w2.drewN nq = w3
  have HK3 : Hid (Kept (fun _ => False) w w3) := by subst hw3; exact Lib.hid (HK2.out.drewN _)
  have HR3 : Hid (Blk w3 rb [.int .i64 k1, .int .u64 k2] 95) := by subst hw3; exact HR2
  clear hw3 HK2 HR2 t0 t1
  have t1 := (HK3.out.blk HT.out (fun f => f)).cell (o := 1) rfl
  have t2 := (HK3.out.blk HT.out (fun f => f)).cell (o := 2) rfl
  go_region_with (first | (go_at_call 142; (with_reducible refine Calls.mono (R.out _ HK3.out.drew) ?_); rintro e w4 ⟨g, S', rfl, hB4, hF4, hc4, hp4, ho4, hk4⟩; have q2 := (hk4.blk (HK3.out.drew.blk HT.out (fun f => f)) (fun f => f)).cell (o := 2) rfl; have f2 := (hk4.blk (HK3.out.drew.blk HT.out (fun f => f)) (fun f => f)).frozen 2))
  all_goals
    have hkw : Kept (fun _ => False) w w4 := HK3.out.drew.trans hk4
    have hb4 := hkw.blk HT.out (fun f => f)
    have hr4 := hk4.blk HR3.out.drew (fun f => f)
    have hgb : g ≠ b := fun e => by rw [e] at hB4; exact absurd (hB4.inj hb4).2 (by decide)
    have hbl := HT.out.lt
    have hrb : rb ≠ b := fun e => by have := HRB.out; omega
    have hgr : g ≠ rb := fun e => by rw [e] at hB4; exact absurd (hB4.inj hr4).2 (by decide)
    have k45 := Kept.one w4 b 2 (.slice (some ⟨g, 0, none⟩) S'.length S'.length)
    have hb5 := hb4.set 2 (.slice (some ⟨g, 0, none⟩) S'.length S'.length)
    have hB5 := k45.blk hB4 hgb
    have hr5 := k45.blk hr4 hrb
    have hgF : F g ∨ w.heap.size ≤ g ∧ g < w4.heap.size := by
      rcases ho4 with e | ⟨e1, e2⟩
      · exact Or.inl (H.out.fv g e)
      · have := HK3.out.size; exact Or.inr ⟨Nat.le_trans this e1, e2⟩
    have hk05 : Kept F w (w4.setCell ⟨b, 2, none⟩ (.slice (some ⟨g, 0, none⟩) S'.length S'.length)) := (hkw.mono (fun _ _ f => f.elim)).trans' k45 (fun i hi e => e ▸ H.out.fb)
    have hs5 : (w4.setCell ⟨b, 2, none⟩ (.slice (some ⟨g, 0, none⟩) S'.length S'.length)).heap.size = w4.heap.size := by simp
    change Blk _ b [.int .i64 most, .int .i64 ml, .slice (some ⟨g, 0, none⟩) S'.length S'.length] _ at hb5
    generalize w4.setCell ⟨b, 2, none⟩ (.slice (some ⟨g, 0, none⟩) S'.length S'.length) = w5 at *
    obtain ⟨f, hf⟩ := one_free (S := S') (by have e1 := hp4.length_eq; have e2 := H.out.perm.length_eq; have e3 := HML.out; omega)
    have FL := Lib.hid fun (w' : World) (hk : Kept (fun _ => False) w5 w') => fill_any (hk.blk hB5 (fun f => f)) hF4.pow hf (k1, k2) v (fun u hu => HNO.out u (H.out.perm.mem_iff.1 (hp4.mem_iff.1 hu)))
    have r0 := hr5.cell (o := 0) rfl
    have r1 := hr5.cell (o := 1) rfl
    have b2 := hb5.cell (o := 2) rfl
    have HB5 := Lib.hid hb5
    have HF4 := Lib.hid hF4
    have HC4 := Lib.hid hc4
    have HP4 := Lib.hid hp4
    have HK5 := Lib.hid hk05
    have HS5 := Lib.hid hs5
    have HGF := Lib.hid hgF
    clear hkw hb4 hr4 k45 hb5 hB5 hr5 hgF hk05 hs5 hB4 hF4 hc4 hp4 ho4 hk4 hf t1 t2 q2 f2 HK3 HR3 hgr hrb
    go_wp2_with fail
    go_still_tail 6, (by kernel_rfl)
    change wpList _ _ _ _ _ w5.drew
    go_wp2_with fail
    with_reducible refine Calls.mono (FL.out _ (Kept.refl _ w5).drew) ?_
    rintro e w6 hFP
    obtain ⟨S2, hl2, hP2, hp2, hB6, hk6⟩ := hFP.good HF4.out.path
    have he := hFP.1
    subst he
    have hk56 : Kept (fun j => j = g) w5 w6 := ((Kept.refl _ w5).drew).trans hk6
    have hb6 := hk56.blk HB5.out (fun e => hgb e.symm)
    have b1 := hb6.cell (o := 1) rfl
    have g1 := hb6.frozen 1
    clear r0 r1 b2
    have hs6 := hk56.size
    have P : Hid (PutP w base F b most m (k1, k2) v (.returned (.int .i64 0)) (w6.setCell ⟨b, 1, none⟩ (.int .i64 ((ml : Int) + 1)))) := by
      have k67 := Kept.one w6 b 1 (.int .i64 ((ml : Int) + 1))
      have hs7 : (w6.setCell ⟨b, 1, none⟩ (.int .i64 ((ml : Int) + 1))).heap.size = w6.heap.size := by simp
      have hb7 := hb6.set 1 (.int .i64 ((ml : Int) + 1))
      have hB7 := k67.blk hB6 hgb
      generalize w6.setCell ⟨b, 1, none⟩ (.int .i64 ((ml : Int) + 1)) = w7 at *
      have hsz : w.heap.size ≤ w7.heap.size := by have := HK5.out.size; omega
      have e2 := HP4.out.length_eq
      have e3 := HML.out
      have e4 := HC4.out
      refine Lib.hid ⟨rfl, ⟨S2, .slice (some ⟨g, 0, none⟩) S2.length S2.length, ⟨?_, Or.inr ⟨g, rfl, hB7, ⟨by rw [hl2]; exact HF4.out.pow, by rw [hl2]; exact HF4.out.least, by rw [← hl2] at hP2; exact hP2⟩⟩, ?_, ?_, ?_, Or.inl H.out.fb, ?_, ?_, ?_, H.out.most1⟩⟩, ?_⟩
      · rw [hl2]
        change Blk w7 b [.int .i64 most, .int .i64 ((ml : Int) + 1), .slice (some ⟨g, 0, none⟩) S'.length S'.length] _ at hb7
        rw [show (((((k1, k2), v) :: m).length : Nat) : Int) = (ml : Int) + 1 by rw [List.length_cons]; omega]
        exact hb7
      · rw [hl2, List.length_cons]; omega
      · exact hp2.trans ((HP4.out.trans H.out.perm).cons _)
      · rw [List.map_cons, List.nodup_cons]
        refine ⟨fun hmem => ?_, H.out.keys⟩
        obtain ⟨x, hx, hxe⟩ := List.mem_map.1 hmem
        obtain ⟨x1, x2⟩ := x
        simp only at hxe
        subst hxe
        exact HNO.out x2 hx
      · intro g' e
        have : g = g' := Option.some.inj e
        subst this
        rcases HGF.out with h | ⟨h1, h2⟩
        · exact Or.inl h
        · have := HS5.out; exact Or.inr ⟨h1, by omega⟩
      · rintro i (h | h)
        · have := H.out.own i h; exact ⟨this.1, by omega⟩
        · exact ⟨by omega, h.2⟩
      · rw [List.length_cons]; omega
      · refine (HK5.out.trans' hk56 (fun i hi e => ?_)).trans' k67 (fun i hi e => e ▸ H.out.fb)
        subst e
        rcases HGF.out with h | ⟨h1, h2⟩
        · exact h
        · omega
    clear hk56 hb6 hB6 hk6 hFP hs6
    go_wp2_with fail
    go_ret
    exact P.out
end Go.Proofs.YtjjamooihddkgaaGreat.TbP

