/- Slots with open addressing: one is freed. Conditions: each theorem's own. -/
import Derived.Test.YtaihjnonlnbhhaaTbRoomS
set_option linter.unusedVariables false
namespace Go.Proofs.Ytaihjnonlnbhhaa.TbS
open Go.RowKit Hp TbM TbN TbR
attribute [local go_sem ↓] Go.wp_at_zero Go.wp_at_succ
theorem steps_any {n c i j : Nat} (h : Pow n) (hi : i < n) (hj : j < n) (a : Option Addr) (w : World) : Calls Try.prog 63 #[.slice a n c, .int .i64 i, .int .i64 j] w fun e w' => e = .returned (.int .i64 (dist n i j : Nat)) ∧ w = w' := by
  have hl := h.le
  have hb := and_i64 h ((j : Int) - (i : Int))
  rw [mod_dist hi hj] at hb
  have hm := dist_lt hi hj
  generalize dist n i j = m at *
  have e1 : IntKind.i64.wrap ((n : Int) - 1) = (n : Int) - 1 := by rw [IntKind.wrap_i64]; omega
  have e2 : IntKind.i64.wrap ((j : Int) - (i : Int)) = (j : Int) - (i : Int) := by rw [IntKind.wrap_i64]; omega
  clear h
  go_enter Try.func63, Try.ntmps63
  go_wp2_with fail
  go_ret
  exact ⟨rfl, rfl⟩
theorem run_bz (w : World) : (Instr.build 94 #[]).run Try.prog w = .ok (.agg #[.bool false, .int .i64 0, .int .u64 0, zv]) w := by
  kernel_rfl
/-- What freeing leaves. -/
def EmptyP (S : List (Option (Ky × ByteArray))) (hole : Nat) (g : Nat) (T : TypeId) (w : World) (e : Ending) (w' : World) : Prop :=
  e = .returned (.tuple #[]) ∧ ∃ S', S'.length = S.length ∧ Path (homeF S.length) none_ S' ∧ (kvs S').Perm (kvs (S.set hole none)) ∧ Blk w' g (fl S') T ∧ Kept (fun j => j = g) w w'
/-- While one is freed. -/
structure Frees (S : List (Option (Ky × ByteArray))) (n hole0 f g : Nat) (T : TypeId) (w : World) (A : List (Option (Ky × ByteArray))) (hole i : Nat) (wr : World) : Prop where
  len : A.length = n
  inv : Freeing (homeF n) (A.set hole none) hole i f
  perm : (kvs (A.set hole none)).Perm (kvs (S.set hole0 none))
  blk : Blk wr g (fl A) T
  kept : Kept (fun j => j = g) w wr
theorem Frees.i_lt {S : List (Option (Ky × ByteArray))} {n hole0 f g : Nat} {T : TypeId} {w : World} {A : List (Option (Ky × ByteArray))} {hole i : Nat} {wr : World} (h : Frees S n hole0 f g T w A hole i wr) : i < n := by
  have := h.inv.i_lt; rw [List.length_set, h.len] at this; exact this
theorem Frees.hole_lt {S : List (Option (Ky × ByteArray))} {n hole0 f g : Nat} {T : TypeId} {w : World} {A : List (Option (Ky × ByteArray))} {hole i : Nat} {wr : World} (h : Frees S n hole0 f g T w A hole i wr) : hole < n := by
  have := h.inv.hole_lt; rw [List.length_set, h.len] at this; exact this
theorem Frees.same {S : List (Option (Ky × ByteArray))} {n hole0 f g : Nat} {T : TypeId} {w : World} {A : List (Option (Ky × ByteArray))} {hole i : Nat} {wr : World} (h : Frees S n hole0 f g T w A hole i wr) : (A.set hole none)[i]? = A[i]? :=
  List.getElem?_set_ne h.inv.apart.symm
theorem Frees.stay {S : List (Option (Ky × ByteArray))} {n hole0 f g : Nat} {T : TypeId} {w w' wr : World} {A : List (Option (Ky × ByteArray))} {hole i : Nat} (h : Frees S n hole0 f g T w A hole i wr) {k : Ky} {v : ByteArray} (hi : A[i]? = some (some (k, v))) (hs : dist n (homeF n k) i < dist n hole i) (hk : Kept (fun _ => False) wr w') :
    Frees S n hole0 f g T w A hole (nxt n i) w' ∧ dist n (nxt n i) f < dist n i f := by
  have hl : (A.set hole none).length = n := by rw [List.length_set, h.len]
  have h1 := h.inv.stay (by rw [h.same]; exact hi) (by rw [hl]; exact hs)
  have h2 := (h.inv.next (by rw [h.same]; exact hi)).2.1
  rw [hl] at h1 h2
  exact ⟨⟨h.len, h1, h.perm, hk.blk h.blk (fun f => f), h.kept.trans (hk.mono (fun _ _ f => f.elim))⟩, by omega⟩
theorem Frees.move {S : List (Option (Ky × ByteArray))} {n hole0 f g : Nat} {T : TypeId} {w w' wr : World} {A : List (Option (Ky × ByteArray))} {hole i : Nat} (h : Frees S n hole0 f g T w A hole i wr) (hn : 0 < n) {k : Ky} {v : ByteArray} (hi : A[i]? = some (some (k, v))) (hs : dist n hole i ≤ dist n (homeF n k) i) (hb : Blk w' g (fl (A.set hole (some (k, v)))) T) (hk : Kept (fun j => j = g) wr w') :
    Frees S n hole0 f g T w (A.set hole (some (k, v))) i (nxt n i) w' ∧ dist n (nxt n i) f < dist n i f := by
  have hl : (A.set hole none).length = n := by rw [List.length_set, h.len]
  have h1 := h.inv.move (fun k => by rw [hl]; exact home_lt hn k) (by rw [h.same]; exact hi) (by rw [hl]; exact hs)
  have h2 := (h.inv.next (by rw [h.same]; exact hi)).2.1
  have h3 := h.inv.same (by rw [h.same]; exact hi)
  rw [hl] at h1 h2
  rw [List.set_set] at h1 h3
  exact ⟨⟨by rw [List.length_set, h.len], h1, h3.trans h.perm, hb, h.kept.trans hk⟩, by omega⟩
set_option maxHeartbeats 8000000 in
theorem empty_any {w : World} {T : TypeId} {g : Nat} {S : List (Option (Ky × ByteArray))} (hB : Blk w g (fl S) T) (hn : Pow S.length) (hP : Path (homeF S.length) none_ S) {hole0 f : Nat} (hh : hole0 < S.length) (hf : (S.set hole0 none)[f]? = some none) (hne : f ≠ hole0) :
    Calls Try.prog 50 #[.slice (some ⟨g, 0, none⟩) S.length S.length, .int .i64 hole0] w (EmptyP S hole0 g T w) := by
  have h0 := hn.pos
  have hl := hn.le
  have FS := freeing_start hP hh hf hne
  obtain ⟨n, hnn⟩ : ∃ n, S.length = n := ⟨_, rfl⟩
  have HN := Lib.hid hnn
  rw [hnn] at h0 hl FS hn hh ⊢
  have F0 : Hid (Frees S n hole0 f g T w S hole0 (nxt n hole0) w) := Lib.hid ⟨hnn, FS, List.Perm.refl _, hB, Kept.refl _ w⟩
  have HO := Lib.hid fun k w => home_any (c := n) hn (some ⟨g, 0, none⟩) k w
  have AF := Lib.hid fun i (hi : i < n) w => after_any (c := n) hn hi (some ⟨g, 0, none⟩) w
  have ST := Lib.hid fun i j (hi : i < n) (hj : j < n) w => steps_any (c := n) hn hi hj (some ⟨g, 0, none⟩) w
  have HH := Lib.hid fun k => home_lt h0 k
  have A0 := Lib.hid (AF.out hole0 hh)
  have hbz := Lib.hid run_bz
  clear hB hP hf FS hnn hn
  go_enter Try.func50, Try.ntmps50
  go_wp2_with fail
  with_reducible refine Calls.mono (A0.out _) ?_
  rintro e w' ⟨rfl, rfl⟩
  go_wp2_with fail
  clear A0
  go_loopg [1, 4] (dist n (nxt n hole0) f) (fun mm s1 s4 wr => ∃ (A : List (Option (Ky × ByteArray))) (hole i : Nat), Hid (mm = dist n i f) ∧ s1 = .int .i64 ((hole : Nat) : Int) ∧ s4 = .int .i64 ((i : Nat) : Int) ∧ Hid (Frees S n hole0 f g T w A hole i wr))
  case atStart => exact ⟨S, hole0, nxt n hole0, Lib.hid rfl, rfl, rfl, F0⟩
  case round =>
    obtain ⟨A, hole, i, hm, rfl, rfl, hF⟩ := hrel
    have hi := hF.out.i_lt
    have hh' := hF.out.hole_lt
    clear hh
    have hh := hh'
    clear hh'
    have hil : i < A.length := by rw [hF.out.len]; exact hi
    obtain ⟨x, hx⟩ : ∃ x, A[i]? = some x := ⟨A[i], List.getElem?_eq_getElem hil⟩
    clear hil
    rcases x with _ | ⟨⟨k1, k2⟩, v⟩
    · obtain ⟨c0, c1, c2, c3⟩ := slot_cells hF.out.blk hx rfl
      have P : Hid (EmptyP S hole0 g T w (.returned (.tuple #[])) ((((wr.setCell ⟨g, hole * 4, none⟩ (.bool false)).setCell ⟨g, hole * 4 + 1, none⟩ (.int .i64 0)).setCell ⟨g, hole * 4 + 2, none⟩ (.int .u64 0)).setCell ⟨g, hole * 4 + 3, none⟩ zv)) := by
        have hl2 : (A.set hole none).length = n := by rw [List.length_set, hF.out.len]
        have hd := hF.out.inv.done (fun k => by rw [hl2]; exact HH.out k) (by rw [hF.out.same]; exact hx)
        exact Lib.hid ⟨rfl, A.set hole none, by rw [hl2, HN.out], by rw [HN.out]; exact hd, hF.out.perm, slot_set hF.out.blk (by rw [hF.out.len]; exact hh) _ rfl, hF.out.kept.trans (slot_kept wr g _ _ _ _ _)⟩
      have HX := Lib.hid hx
      obtain ⟨y, hy⟩ : ∃ y, A[hole]? = some y := ⟨A[hole]'(by rw [hF.out.len]; exact hh), List.getElem?_eq_getElem _⟩
      obtain ⟨a, b, c, d, hyc⟩ : ∃ a b c d, sc ev zv y = [a, b, c, d] := by rcases y with _ | ⟨k, v⟩ <;> exact ⟨_, _, _, _, rfl⟩
      obtain ⟨q0, q1, q2, q3⟩ := slot_cells hF.out.blk hy hyc
      have f0 := hF.out.blk.frozen (hole * 4)
      have f1 := hF.out.blk.frozen (hole * 4 + 1)
      have f2 := hF.out.blk.frozen (hole * 4 + 2)
      have f3 := hF.out.blk.frozen (hole * 4 + 3)
      clear hx hy hyc
      go_upto_region 6 with ((with_reducible refine wpList_index_run rfl 87 _ _ rfl (v := .pointer (some ⟨g, i * 4, none⟩)) ?_ ?_); exact run_ix g n hi _)
      go_wp2_with (first | ((with_reducible refine wpList_build_run rfl 94 _ rfl (v := .agg #[.bool false, .int .i64 0, .int .u64 0, zv]) ?_ ?_); (simp only [List.map_toArray, List.map_nil]; exact hbz.out _)) | ((with_reducible refine wpList_index_run rfl 87 _ _ rfl (v := .pointer (some ⟨g, hole * 4, none⟩)) ?_ ?_); exact run_ix g n hh _))
      go_end0
      exact P.out
    · obtain ⟨c0, c1, c2, c3⟩ := slot_cells hF.out.blk hx rfl
      have HX := Lib.hid hx
      clear hx
      have N0 := Lib.hid (AF.out i hi)
      have S1 := Lib.hid (ST.out (homeF n (k1, k2)) i (HH.out _) hi)
      have S2 := Lib.hid (ST.out hole i hh hi)
      have O1 := Lib.hid (HO.out (k1, k2))
      have hd1 := dist_lt (HH.out (k1, k2)) hi
      have hd2 := dist_lt hh hi
      have D1 := Lib.hid (show dist n (homeF n (k1, k2)) i = dist n (homeF n (k1, k2)) i from rfl)
      rcases Nat.lt_or_ge (dist n (homeF n (k1, k2)) i) (dist n hole i) with hs | hs
      · have G := Lib.hid (fun w' => hF.out.stay (w' := w') HX.out hs)
        go_wp2_with ((with_reducible refine wpList_index_run rfl 87 _ _ rfl (v := .pointer (some ⟨g, i * 4, none⟩)) ?_ ?_); exact run_ix g n hi _)
        with_reducible refine Calls.mono (O1.out _) ?_
        rintro e w1 ⟨rfl, hk1⟩
        have HK1 := Lib.hid hk1
        clear hk1
        go_wp2_with fail
        with_reducible refine Calls.mono (S1.out _) ?_
        rintro e w2 ⟨rfl, rfl⟩
        go_wp2_with fail
        with_reducible refine Calls.mono (S2.out _) ?_
        rintro e w2 ⟨rfl, rfl⟩
        go_wp2_with fail
        with_reducible refine Calls.mono (N0.out _) ?_
        rintro e w2 ⟨rfl, rfl⟩
        go_wp2_with fail
        have hG := G.out _ HK1.out
        go_roundg (dist n (nxt n i) f)
        case measure => have := hm.out; have := hG.2; omega
        case rel => exact ⟨A, hole, nxt n i, Lib.hid rfl, rfl, rfl, Lib.hid hG.1⟩
      · have hhl : hole < A.length := by rw [hF.out.len]; exact hh
        have G := Lib.hid (fun w1 w' (hk1 : Kept (fun _ => False) wr w1) hb hk => hF.out.move (w' := w') h0 HX.out hs hb ((hk1.mono (fun _ _ f => f.elim)).trans hk))
        obtain ⟨y, hy⟩ : ∃ y, A[hole]? = some y := ⟨A[hole]'hhl, List.getElem?_eq_getElem hhl⟩
        obtain ⟨a, b, c, d, hyc⟩ : ∃ a b c d, sc ev zv y = [a, b, c, d] := by rcases y with _ | ⟨k, v⟩ <;> exact ⟨_, _, _, _, rfl⟩
        have HY := Lib.hid hy
        have HYC := Lib.hid hyc
        have HHL := Lib.hid hhl
        clear hy hyc hhl
        go_wp2_with ((with_reducible refine wpList_index_run rfl 87 _ _ rfl (v := .pointer (some ⟨g, i * 4, none⟩)) ?_ ?_); exact run_ix g n hi _)
        with_reducible refine Calls.mono (O1.out _) ?_
        rintro e w1 ⟨rfl, hk1⟩
        have HK1 := Lib.hid hk1
        have hB1 := hk1.blk hF.out.blk (fun f => f)
        have HB1 := Lib.hid hB1
        clear hk1 hB1
        go_wp2_with fail
        with_reducible refine Calls.mono (S1.out _) ?_
        rintro e w2 ⟨rfl, rfl⟩
        go_wp2_with fail
        with_reducible refine Calls.mono (S2.out _) ?_
        rintro e w2 ⟨rfl, rfl⟩
        clear c0 c1 c2 c3
        obtain ⟨c0, c1, c2, c3⟩ := slot_cells HB1.out HX.out rfl
        obtain ⟨q0, q1, q2, q3⟩ := slot_cells HB1.out HY.out HYC.out
        have f0 := HB1.out.frozen (hole * 4)
        have f1 := HB1.out.frozen (hole * 4 + 1)
        have f2 := HB1.out.frozen (hole * 4 + 2)
        have f3 := HB1.out.frozen (hole * 4 + 3)
        have hG := Lib.hid (G.out _ _ HK1.out (slot_set HB1.out HHL.out (some ((k1, k2), v)) rfl) (slot_kept w1 g hole _ _ _ _))
        clear G
        go_wp2_with ((with_reducible refine wpList_index_run rfl 87 _ _ rfl ?_ ?_); exact run_ix g n (by assumption) _)
        with_reducible refine Calls.mono (N0.out _) ?_
        rintro e w2 ⟨rfl, rfl⟩
        go_wp2_with fail
        go_roundg (dist n (nxt n i) f)
        case measure => have := hm.out; have := hG.out.2; omega
        case rel => exact ⟨_, i, nxt n i, Lib.hid rfl, rfl, rfl, Lib.hid hG.out.1⟩
end Go.Proofs.Ytaihjnonlnbhhaa.TbS
