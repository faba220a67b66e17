/- A table: Keys. Conditions: each theorem's own. -/
import Derived.Test.YtaihjnonlnbhhaaTbTabS
import Derived.Test.YtaihjnonlnbhhaaTbSrt
set_option linter.unusedVariables false
namespace Go.Proofs.Ytaihjnonlnbhhaa.TbS
open Go.RowKit Hp TbM TbN TbR TbK
attribute [local go_sem ↓] Go.wp_at_zero Go.wp_at_succ
theorem keys_nil (w : World) : Calls Try.prog 34 #[.pointer none] w fun e w' => e = .returned (.slice none 0 0) ∧ w = w' := by
  go_enter Try.func34, Try.ntmps34
  go_wp2_with fail
  go_ret
  exact ⟨rfl, rfl⟩
/-- What Keys answers: new memory, all keys, in their order. -/
def KeysP (m : List (Ky × ByteArray)) (w : World) (e : Ending) (w' : World) : Prop :=
  ∃ (g cap : Nat) (cur : List Value) (l : List Ky), e = .returned (.slice (some ⟨g, 0, none⟩) l.length cap) ∧ Rw.Lies kT w' g cap cur l ∧ l.Perm (m.map Prod.fst) ∧ Sorted l ∧ w.heap.size ≤ g ∧ Kept (fun _ => False) w w'
theorem kvs_take_succ' {S : List (Option (Ky × ByteArray))} {i : Nat} {x : Option (Ky × ByteArray)} (h : S[i]? = some x) : kvs (S.take (i + 1)) = kvs (S.take i) ++ kvs [x] := by
  rw [List.take_add_one, h, kvs_append]; rfl
theorem kvs_take_len (S : List (Option (Ky × ByteArray))) (i : Nat) : (kvs (S.take i)).length ≤ (kvs S).length := by
  have : kvs S = kvs (S.take i) ++ kvs (S.drop i) := by rw [← kvs_append, List.take_append_drop]
  rw [this, List.length_append]; omega
set_option maxHeartbeats 8000000 in
theorem keys_any {w : World} {base : Nat} {F : Nat → Prop} {b most : Nat} {m : List (Ky × ByteArray)} (h : TabV w base F b most m) : Calls Try.prog 34 #[.pointer (some ⟨b, 0, none⟩)] w (KeysP m w) := by
  obtain ⟨S, v0, h⟩ := h
  have hfew := h.few
  have hpl := h.perm.length_eq
  obtain ⟨a, rfl⟩ : ∃ a, v0 = .slice a S.length S.length := by
    rcases h.lies with ⟨rfl, rfl⟩ | ⟨g, rfl, _⟩
    · exact ⟨none, rfl⟩
    · exact ⟨_, rfl⟩
  have H := Lib.hid h
  have c1 := h.blk.cell (o := 1) rfl
  have hSl : S.length ≤ 1073741824 := by
    rcases h.fit with rfl | hf
    · simp
    · exact hf.pow.le
  clear h
  generalize hml : m.length = ml at *
  have HML := Lib.hid hml
  have HPL := Lib.hid hpl
  clear hml hpl
  go_enter Try.func34, Try.ntmps34
  go_upto_region 4 with (at_make; refine Rw.wpList_make kT rfl _ _ rfl _ ml rfl rfl rfl (by omega) ?_; intro w1 hR1 hk1)
  have HR1 := Lib.hid hR1
  have HK1 := Lib.hid hk1
  have c2 := (H.out.old hk1).blk.cell (o := 2) rfl
  clear hR1 hk1 c1
  obtain ⟨g0, hg0⟩ : ∃ g0, w.heap.size = g0 := ⟨_, rfl⟩
  rw [hg0] at HR1
  simp only [hg0]
  have HG0 := Lib.hid hg0
  clear hg0
  go_wp2_with fail
  go_loopg [3, 17] S.length (fun mm s3 s17 wr => ∃ (i : Nat) (l : List Ky) (v : Value), Hid (mm = S.length - i) ∧ i ≤ S.length ∧ v = s3 ∧ s17 = .int .i64 ((i : Nat) : Int) ∧ Hid (l = (kvs (S.take i)).map Prod.fst) ∧ Hid (Rw.Row kT wr g0 v l) ∧ Hid (v ≠ .slice none 0 0) ∧ Hid (Kept (fun _ => False) w wr))
  case atStart => exact ⟨0, [], _, Lib.hid (by omega), Nat.zero_le _, rfl, rfl, Lib.hid (by simp [kvs]), HR1, Lib.hid (by simp), HK1⟩
  case round =>
    obtain ⟨i, l, v, hm, hi, rfl, rfl, hl, hR, hne, hk⟩ := hrel
    have c2 := (H.out.old hk.out).blk.cell (o := 2) rfl
    rcases Nat.lt_or_ge i S.length with hlt | hge
    · obtain ⟨x, hx⟩ : ∃ x, S[i]? = some x := ⟨S[i], List.getElem?_eq_getElem hlt⟩
      have ht := Lib.hid (kvs_take_succ' hx)
      obtain ⟨sb, rfl, hB0⟩ : ∃ sb, a = some ⟨sb, 0, none⟩ ∧ Blk w sb (fl S) 94 := by
        rcases H.out.lies with ⟨rfl, _⟩ | ⟨sb, e, h, _⟩
        · simp at hlt
        · cases e; exact ⟨sb, rfl, h⟩
      have hB1 := hk.out.blk hB0 (fun f => f)
      rcases x with _ | ⟨⟨k1, k2⟩, u⟩
      · obtain ⟨q0, q1, q2, q3⟩ := slot_cells hB1 hx rfl
        have HX := Lib.hid hx
        clear hx hB1 hB0
        go_wp2_with ((with_reducible refine wpList_index_run rfl 87 _ _ rfl ?_ ?_); exact run_ix sb S.length (by assumption) _)
        go_roundg (S.length - (i + 1))
        case measure => have := hm.out; omega
        case rel => exact ⟨i + 1, l, _, Lib.hid rfl, by omega, rfl, by go_num, Lib.hid (by rw [ht.out, hl.out]; simp [kvs]), hR, hne, hk⟩
      · obtain ⟨q0, q1, q2, q3⟩ := slot_cells hB1 hx rfl
        have HX := Lib.hid hx
        have hS : Rw.Src kT (wr.alloc (.cells #[.int .i64 k1, .int .u64 k2] 62)) (.slice (some ⟨wr.heap.size, 0, none⟩) 1 1) [(k1, k2)] := Rw.src_blk (t := kT) (K := [(k1, k2)]) 1 (Blk.new wr [.int .i64 k1, .int .u64 k2] 62)
        have hka := (Kept.refl (fun _ => False) wr).alloc (.cells #[.int .i64 k1, .int .u64 k2] 62)
        have hRa := hR.out.old hka
        have HS := Lib.hid hS
        have HRa := Lib.hid hRa
        have HKa := Lib.hid (hk.out.trans hka)
        have hll : Hid (l.length ≤ 1000) := Lib.hid (by rw [hl.out, List.length_map]; have := kvs_take_len S i; have := HPL.out; omega)
        clear hx hB1 hB0 hS hka hRa
        go_wp2_with (first | ((with_reducible refine wpList_index_run rfl 87 _ _ rfl ?_ ?_); exact run_ix sb S.length (by assumption) _) | (at_builtin; refine Rw.wpList_app kT rfl _ _ rfl g0 (K2 := [(k1, k2)]) rfl HRa.out rfl HS.out (by have := hll.out; simp; omega) (by have := HKa.out.size; have := HG0.out; omega) ?_; intro v' w' hA))
        have HA := Lib.hid hA
        clear hA
        go_roundg (S.length - (i + 1))
        case measure => have := hm.out; omega
        case rel => exact ⟨i + 1, l ++ [(k1, k2)], _, Lib.hid rfl, by omega, rfl, by go_num, Lib.hid (by rw [ht.out, hl.out, List.map_append]; rfl), Lib.hid HA.out.row, Lib.hid (fun e => by have h1 := HA.out.row; rw [e] at h1; have := h1.slice; obtain ⟨_, _, e2, _⟩ := this; simp at e2), Lib.hid (HKa.out.trans' HA.out.kept (fun j hj e => by have := (HRa.out.lt j e).1; have := HG0.out; omega))⟩
    · obtain rfl : i = S.length := by omega
      obtain ⟨g, cap, cur, rfl, hg, hL⟩ : ∃ g cap cur, v = .slice (some ⟨g, 0, none⟩) l.length cap ∧ g0 ≤ g ∧ Rw.Lies kT wr g cap cur l := by
        rcases hR.out.form with ⟨e, _⟩ | h
        · exact absurd e hne.out
        · exact h
      have hll : l.length ≤ 1000 := by rw [hl.out, List.length_map, List.take_length, HPL.out]; exact hfew
      have hcur : cur = kflat l ++ cur.drop (l.length * 2) := by
        have h1 : cur.take (l.length * 2) = kflat l := hL.head
        have h2 := List.take_append_drop (l.length * 2) cur
        rw [h1] at h2
        exact h2.symm
      have hB := hL.blk
      rw [hcur] at hB
      have SO := Lib.hid (sort_any hB (by omega) cap)
      have HL := Lib.hid hL
      have HCUR := Lib.hid hcur
      clear hL hcur hB
      go_wp2_with fail
      with_reducible refine Calls.mono SO.out ?_
      rintro e w' ⟨rfl, l', hp, hs, hB', hk'⟩
      have P : Hid (KeysP m w (.returned (.slice (some ⟨g, 0, none⟩) l.length cap)) w') := by
        have hpl := hp.length_eq
        refine Lib.hid ⟨g, cap, kflat l' ++ cur.drop (l.length * 2), l', by rw [hpl], ⟨hB', by rw [hpl]; exact HL.out.le, HL.out.most, ?_, ?_⟩, ?_, hs, by have := HG0.out; omega, hk.out.trans' hk' (fun j hj e => by have := HG0.out; omega)⟩
        · have h1 := HL.out.len
          rw [HCUR.out, List.length_append, kflat_len] at h1
          rw [List.length_append, kflat_len, hpl]
          exact h1
        · rw [List.take_append_of_le_length (by rw [kflat_len]; exact Nat.le_refl _), List.take_of_length_le (by rw [kflat_len]; exact Nat.le_refl _)]
          rfl
        · rw [hl.out, List.take_length] at hp
          exact hp.trans (H.out.perm.map _)
      clear hB' hk' hs hp
      go_wp2_with fail
      go_ret
      exact P.out
end Go.Proofs.Ytaihjnonlnbhhaa.TbS
