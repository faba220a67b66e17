/- Slots with open addressing: one is freed. Conditions: each theorem's own. -/
import Derived.Test.YtjjamooihddkgaaGreatPmG5
import Derived.Test.YtjjamooihddkgaaGreatPmG2
import Derived.Test.YtjjamooihddkgaaGreatPmG4
import Derived.Below
import Derived.ChangeSame
import Derived.ProofKit
set_option linter.unusedVariables false
set_option linter.unusedSimpArgs false
namespace Go.Proofs.YtjjamooihddkgaaGreat.TbP
open Go.RowKit Hp TbM TbN TbR
attribute [local go_sem ↓] Go.wp_at_zero Go.wp_at_succ
theorem steps_any {n c i j : Nat} (h : Pow n) (hi : i < n) (hj : j < n) (a : Option Addr) (w : World) : Calls Tryz.prog 165 #[.slice a n c, .int .i64 i, .int .i64 j] w fun e w' => e = .returned (.int .i64 (dist n i j : Nat)) ∧ w = w' := by
  have hl := h.le
  have hb := and_i64 h ((j : Int) - (i : Int))
  rw [mod_dist hi hj] at hb
  have hm := dist_lt hi hj
  generalize dist n i j = m at *
  have e1 : IntKind.i64.wrap ((n : Int) - 1) = (n : Int) - 1 := by rw [IntKind.wrap_i64]; omega
  have e2 : IntKind.i64.wrap ((j : Int) - (i : Int)) = (j : Int) - (i : Int) := by rw [IntKind.wrap_i64]; omega
  clear h
  go_enter Tryz.func165, Tryz.ntmps165
  go_wp2_with fail
  go_ret
  exact ⟨rfl, rfl⟩
theorem run_bz (w : World) : (Instr.build 210 #[]).run Tryz.prog w = .ok (.agg #[.bool false, .int .i64 0, .int .u64 0, zv]) w := by
  kernel_rfl
/-- What freeing leaves. -/
def EmptyP (S : List (Option (Ky × Nat))) (hole : Nat) (g : Nat) (T : TypeId) (w : World) (e : Ending) (w' : World) : Prop :=
  e = .returned (.tuple #[]) ∧ ∃ S', S'.length = S.length ∧ Path (homeF S.length) none_ S' ∧ (kvs S').Perm (kvs (S.set hole none)) ∧ Blk w' g (fl S') T ∧ Kept (fun j => j = g) w w'
/-- While one is freed. -/
structure Frees (S : List (Option (Ky × Nat))) (n hole0 f g : Nat) (T : TypeId) (w : World) (A : List (Option (Ky × Nat))) (hole i : Nat) (wr : World) : Prop where
  len : A.length = n
  inv : Freeing (homeF n) (A.set hole none) hole i f
  perm : (kvs (A.set hole none)).Perm (kvs (S.set hole0 none))
  blk : Blk wr g (fl A) T
  kept : Kept (fun j => j = g) w wr
theorem Frees.i_lt {S : List (Option (Ky × Nat))} {n hole0 f g : Nat} {T : TypeId} {w : World} {A : List (Option (Ky × Nat))} {hole i : Nat} {wr : World} (h : Frees S n hole0 f g T w A hole i wr) : i < n := by
  have := h.inv.i_lt; rw [List.length_set, h.len] at this; exact this
theorem Frees.hole_lt {S : List (Option (Ky × Nat))} {n hole0 f g : Nat} {T : TypeId} {w : World} {A : List (Option (Ky × Nat))} {hole i : Nat} {wr : World} (h : Frees S n hole0 f g T w A hole i wr) : hole < n := by
  have := h.inv.hole_lt; rw [List.length_set, h.len] at this; exact this
theorem Frees.same {S : List (Option (Ky × Nat))} {n hole0 f g : Nat} {T : TypeId} {w : World} {A : List (Option (Ky × Nat))} {hole i : Nat} {wr : World} (h : Frees S n hole0 f g T w A hole i wr) : (A.set hole none)[i]? = A[i]? :=
  List.getElem?_set_ne h.inv.apart.symm
theorem Frees.stay {S : List (Option (Ky × Nat))} {n hole0 f g : Nat} {T : TypeId} {w w' wr : World} {A : List (Option (Ky × Nat))} {hole i : Nat} (h : Frees S n hole0 f g T w A hole i wr) {k : Ky} {v : Nat} (hi : A[i]? = some (some (k, v))) (hs : dist n (homeF n k) i < dist n hole i) (hk : Kept (fun _ => False) wr w') :
    Frees S n hole0 f g T w A hole (nxt n i) w' ∧ dist n (nxt n i) f < dist n i f := by
  have hl : (A.set hole none).length = n := by rw [List.length_set, h.len]
  have h1 := h.inv.stay (by rw [h.same]; exact hi) (by rw [hl]; exact hs)
  have h2 := (h.inv.next (by rw [h.same]; exact hi)).2.1
  rw [hl] at h1 h2
  exact ⟨⟨h.len, h1, h.perm, hk.blk h.blk (fun f => f), h.kept.trans (hk.mono (fun _ _ f => f.elim))⟩, by omega⟩
theorem Frees.move {S : List (Option (Ky × Nat))} {n hole0 f g : Nat} {T : TypeId} {w w' wr : World} {A : List (Option (Ky × Nat))} {hole i : Nat} (h : Frees S n hole0 f g T w A hole i wr) (hn : 0 < n) {k : Ky} {v : Nat} (hi : A[i]? = some (some (k, v))) (hs : dist n hole i ≤ dist n (homeF n k) i) (hb : Blk w' g (fl (A.set hole (some (k, v)))) T) (hk : Kept (fun j => j = g) wr w') :
    Frees S n hole0 f g T w (A.set hole (some (k, v))) i (nxt n i) w' ∧ dist n (nxt n i) f < dist n i f := by
  have hl : (A.set hole none).length = n := by rw [List.length_set, h.len]
  have h1 := h.inv.move (fun k => by rw [hl]; exact home_lt hn k) (by rw [h.same]; exact hi) (by rw [hl]; exact hs)
  have h2 := (h.inv.next (by rw [h.same]; exact hi)).2.1
  have h3 := h.inv.same (by rw [h.same]; exact hi)
  rw [hl] at h1 h2
  rw [List.set_set] at h1 h3
  exact ⟨⟨by rw [List.length_set, h.len], h1, h3.trans h.perm, hb, h.kept.trans hk⟩, by omega⟩
set_option maxHeartbeats 8000000 in
theorem empty_any {w : World} {T : TypeId} {g : Nat} {S : List (Option (Ky × Nat))} (hB : Blk w g (fl S) T) (hn : Pow S.length) (hP : Path (homeF S.length) none_ S) {hole0 f : Nat} (hh : hole0 < S.length) (hf : (S.set hole0 none)[f]? = some none) (hne : f ≠ hole0) :
    Calls Tryz.prog 141 #[.slice (some ⟨g, 0, none⟩) S.length S.length, .int .i64 hole0] w (EmptyP S hole0 g T w) := by
  have h0 := hn.pos
  have hl := hn.le
  have FS := freeing_start hP hh hf hne
  obtain ⟨n, hnn⟩ : ∃ n, S.length = n := ⟨_, rfl⟩
  have HN := Lib.hid hnn
  rw [hnn] at h0 hl FS hn hh ⊢
  have F0 : Hid (Frees S n hole0 f g T w S hole0 (nxt n hole0) w) := Lib.hid ⟨hnn, FS, List.Perm.refl _, hB, Kept.refl _ w⟩
  have HO := Lib.hid fun k w => home_any (c := n) hn (some ⟨g, 0, none⟩) k w
  have AF := Lib.hid fun i (hi : i < n) w => after_any (c := n) hn hi (some ⟨g, 0, none⟩) w
  have ST := Lib.hid fun i j (hi : i < n) (hj : j < n) w => steps_any (c := n) hn hi hj (some ⟨g, 0, none⟩) w
  have HH := Lib.hid fun k => home_lt h0 k
  have A0 := Lib.hid (AF.out hole0 hh)
  have hbz := Lib.hid run_bz
  clear hB hP hf FS hnn hn
  go_enter Tryz.func141, Tryz.ntmps141
  go_wp2_with fail
  with_reducible refine Calls.mono (A0.out _) ?_
  rintro e w' ⟨rfl, rfl⟩
  go_wp2_with fail
  clear A0
  go_loopg [1, 4] (dist n (nxt n hole0) f) (fun mm s1 s4 wr => ∃ (A : List (Option (Ky × Nat))) (hole i : Nat), Hid (mm = dist n i f) ∧ s1 = .int .i64 ((hole : Nat) : Int) ∧ s4 = .int .i64 ((i : Nat) : Int) ∧ Hid (Frees S n hole0 f g T w A hole i wr))
  case atStart => exact ⟨S, hole0, nxt n hole0, Lib.hid rfl, rfl, rfl, F0⟩
  case round =>
    obtain ⟨A, hole, i, hm, rfl, rfl, hF⟩ := hrel
    have hi := hF.out.i_lt
    have hh' := hF.out.hole_lt
    clear hh
    have hh := hh'
    clear hh'
    have hil : i < A.length := by rw [hF.out.len]; exact hi
    obtain ⟨x, hx⟩ : ∃ x, A[i]? = some x := ⟨A[i], List.getElem?_eq_getElem hil⟩
    clear hil
    rcases x with _ | ⟨⟨k1, k2⟩, v⟩
    · obtain ⟨c0, c1, c2, c3⟩ := slot_cells hF.out.blk hx rfl
      have P : Hid (EmptyP S hole0 g T w (.returned (.tuple #[])) ((((wr.setCell ⟨g, hole * 4, none⟩ (.bool false)).setCell ⟨g, hole * 4 + 1, none⟩ (.int .i64 0)).setCell ⟨g, hole * 4 + 2, none⟩ (.int .u64 0)).setCell ⟨g, hole * 4 + 3, none⟩ zv)) := by
        have hl2 : (A.set hole none).length = n := by rw [List.length_set, hF.out.len]
        have hd := hF.out.inv.done (fun k => by rw [hl2]; exact HH.out k) (by rw [hF.out.same]; exact hx)
        exact Lib.hid ⟨rfl, A.set hole none, by rw [hl2, HN.out], by rw [HN.out]; exact hd, hF.out.perm, slot_set hF.out.blk (by rw [hF.out.len]; exact hh) _ rfl, hF.out.kept.trans (slot_kept wr g _ _ _ _ _)⟩
      have HX := Lib.hid hx
      obtain ⟨y, hy⟩ : ∃ y, A[hole]? = some y := ⟨A[hole]'(by rw [hF.out.len]; exact hh), List.getElem?_eq_getElem _⟩
      obtain ⟨a, b, c, d, hyc⟩ : ∃ a b c d, sc ev zv y = [a, b, c, d] := by rcases y with _ | ⟨k, v⟩ <;> exact ⟨_, _, _, _, rfl⟩
      obtain ⟨q0, q1, q2, q3⟩ := slot_cells hF.out.blk hy hyc
      have f0 := hF.out.blk.frozen (hole * 4)
      have f1 := hF.out.blk.frozen (hole * 4 + 1)
      have f2 := hF.out.blk.frozen (hole * 4 + 2)
      have f3 := hF.out.blk.frozen (hole * 4 + 3)
      clear hx hy hyc
      go_upto_region 6 with ((with_reducible refine wpList_index_run rfl 182 _ _ rfl (v := .pointer (some ⟨g, i * 4, none⟩)) ?_ ?_); exact run_ix g n hi _)
      go_wp2_with (first | ((with_reducible refine wpList_build_run rfl 210 _ rfl (v := .agg #[.bool false, .int .i64 0, .int .u64 0, zv]) ?_ ?_); (simp only [List.map_toArray, List.map_nil]; exact hbz.out _)) | ((with_reducible refine wpList_index_run rfl 182 _ _ rfl (v := .pointer (some ⟨g, hole * 4, none⟩)) ?_ ?_); exact run_ix g n hh _))
      go_end0
      exact P.out
    · obtain ⟨c0, c1, c2, c3⟩ := slot_cells hF.out.blk hx rfl
      have HX := Lib.hid hx
      clear hx
      have N0 := Lib.hid (AF.out i hi)
      have S1 := Lib.hid (ST.out (homeF n (k1, k2)) i (HH.out _) hi)
      have S2 := Lib.hid (ST.out hole i hh hi)
      have O1 := Lib.hid (HO.out (k1, k2))
      have hd1 := dist_lt (HH.out (k1, k2)) hi
      have hd2 := dist_lt hh hi
      have D1 := Lib.hid (show dist n (homeF n (k1, k2)) i = dist n (homeF n (k1, k2)) i from rfl)
      rcases Nat.lt_or_ge (dist n (homeF n (k1, k2)) i) (dist n hole i) with hs | hs
      · have G := Lib.hid (fun w' => hF.out.stay (w' := w') HX.out hs)
        go_wp2_with ((with_reducible refine wpList_index_run rfl 182 _ _ rfl (v := .pointer (some ⟨g, i * 4, none⟩)) ?_ ?_); exact run_ix g n hi _)
        with_reducible refine Calls.mono (O1.out _) ?_
        rintro e w1 ⟨rfl, hk1⟩
        have HK1 := Lib.hid hk1
        clear hk1
        go_wp2_with fail
        with_reducible refine Calls.mono (S1.out _) ?_
        rintro e w2 ⟨rfl, rfl⟩
        go_wp2_with fail
        with_reducible refine Calls.mono (S2.out _) ?_
        rintro e w2 ⟨rfl, rfl⟩
        go_wp2_with fail
        with_reducible refine Calls.mono (N0.out _) ?_
        rintro e w2 ⟨rfl, rfl⟩
        go_wp2_with fail
        have hG := G.out _ HK1.out
        go_roundg (dist n (nxt n i) f)
        case measure => have := hm.out; have := hG.2; omega
        case rel => exact ⟨A, hole, nxt n i, Lib.hid rfl, rfl, rfl, Lib.hid hG.1⟩
      · have hhl : hole < A.length := by rw [hF.out.len]; exact hh
        have G := Lib.hid (fun w1 w' (hk1 : Kept (fun _ => False) wr w1) hb hk => hF.out.move (w' := w') h0 HX.out hs hb ((hk1.mono (fun _ _ f => f.elim)).trans hk))
        obtain ⟨y, hy⟩ : ∃ y, A[hole]? = some y := ⟨A[hole]'hhl, List.getElem?_eq_getElem hhl⟩
        obtain ⟨a, b, c, d, hyc⟩ : ∃ a b c d, sc ev zv y = [a, b, c, d] := by rcases y with _ | ⟨k, v⟩ <;> exact ⟨_, _, _, _, rfl⟩
        have HY := Lib.hid hy
        have HYC := Lib.hid hyc
        have HHL := Lib.hid hhl
        clear hy hyc hhl
        go_wp2_with ((with_reducible refine wpList_index_run rfl 182 _ _ rfl (v := .pointer (some ⟨g, i * 4, none⟩)) ?_ ?_); exact run_ix g n hi _)
        with_reducible refine Calls.mono (O1.out _) ?_
        rintro e w1 ⟨rfl, hk1⟩
        have HK1 := Lib.hid hk1
        have hB1 := hk1.blk hF.out.blk (fun f => f)
        have HB1 := Lib.hid hB1
        clear hk1 hB1
        go_wp2_with fail
        with_reducible refine Calls.mono (S1.out _) ?_
        rintro e w2 ⟨rfl, rfl⟩
        go_wp2_with fail
        with_reducible refine Calls.mono (S2.out _) ?_
        rintro e w2 ⟨rfl, rfl⟩
        clear c0 c1 c2 c3
        obtain ⟨c0, c1, c2, c3⟩ := slot_cells HB1.out HX.out rfl
        obtain ⟨q0, q1, q2, q3⟩ := slot_cells HB1.out HY.out HYC.out
        have f0 := HB1.out.frozen (hole * 4)
        have f1 := HB1.out.frozen (hole * 4 + 1)
        have f2 := HB1.out.frozen (hole * 4 + 2)
        have f3 := HB1.out.frozen (hole * 4 + 3)
        have hG := Lib.hid (G.out _ _ HK1.out (slot_set HB1.out HHL.out (some ((k1, k2), v)) rfl) (slot_kept w1 g hole _ _ _ _))
        clear G
        go_wp2_with ((with_reducible refine wpList_index_run rfl 182 _ _ rfl ?_ ?_); exact run_ix g n (by assumption) _)
        with_reducible refine Calls.mono (N0.out _) ?_
        rintro e w2 ⟨rfl, rfl⟩
        go_wp2_with fail
        go_roundg (dist n (nxt n i) f)
        case measure => have := hm.out; have := hG.out.2; omega
        case rel => exact ⟨_, i, nxt n i, Lib.hid rfl, rfl, rfl, Lib.hid hG.out.1⟩
end Go.Proofs.YtjjamooihddkgaaGreat.TbP

/- A table: Delete. Conditions: each theorem's own. -/
namespace Go.Proofs.YtjjamooihddkgaaGreat.TbP
open Go.RowKit Hp TbM TbN TbR
attribute [local go_sem ↓] Go.wp_at_zero Go.wp_at_succ
theorem len_any {w : World} {base : Nat} {F : Nat → Prop} {b most : Nat} {m : List (Ky × Nat)} (h : TabV w base F b most m) : Calls Tryz.prog 100 #[.pointer (some ⟨b, 0, none⟩)] w fun e w' => e = .returned (.int .i64 (m.length : Nat)) ∧ w = w' := by
  obtain ⟨S, v, h⟩ := h
  have c1 := h.blk.cell (o := 1) rfl
  clear h
  go_enter Tryz.func100, Tryz.ntmps100
  go_wp2_with fail
  go_ret
  exact ⟨rfl, rfl⟩
theorem del_nil (k : Ky) (w : World) : Calls Tryz.prog 97 #[.pointer none, ky k] w fun e w' => e = .returned (.int .i64 5) ∧ Kept (fun _ => False) w w' := by
  have C := Lib.hid fun (w' : World) => tfind_nil k w'
  obtain ⟨k1, k2⟩ := k
  go_enter Tryz.func97, Tryz.ntmps97
  go_upto_region 1 with fail
  have hR := Blk.new w [.int .i64 k1, .int .u64 k2] 95
  have hk := (Kept.refl (fun _ => False) w).alloc (.cells [.int .i64 k1, .int .u64 k2].toArray 95)
  dsimp only [List.toArray] at hR hk
  have c0 := hR.cell (o := 0) rfl
  have c1 := hR.cell (o := 1) rfl
  have HK := Lib.hid hk
  clear hR hk
  generalize w.alloc (.cells #[.int .i64 k1, .int .u64 k2] 95) = w1 at *
  generalize w.heap.size = rb at *
  go_wp2_with fail
  with_reducible refine Calls.mono (C.out _) ?_
  rintro e w2 ⟨rfl, hk2⟩
  go_wp2_with fail
  go_ret
  exact ⟨rfl, HK.out.trans hk2⟩
set_option maxHeartbeats 4000000 in
theorem del_none {w : World} {base : Nat} {F : Nat → Prop} {b most : Nat} {m : List (Ky × Nat)} (h : TabV w base F b most m) {k : Ky} (hno : ∀ u, (k, u) ∉ m) :
    Calls Tryz.prog 97 #[.pointer (some ⟨b, 0, none⟩), ky k] w fun e w' => e = .returned (.int .i64 5) ∧ Kept (fun _ => False) w w' := by
  obtain ⟨S, v0, h⟩ := h
  have C := Lib.hid fun (w' : World) (hk : Kept (fun _ => False) w w') => tfind_miss (h.old hk) hno
  clear h hno
  obtain ⟨k1, k2⟩ := k
  go_enter Tryz.func97, Tryz.ntmps97
  go_upto_region 1 with fail
  have hR := Blk.new w [.int .i64 k1, .int .u64 k2] 95
  have hk := (Kept.refl (fun _ => False) w).alloc (.cells [.int .i64 k1, .int .u64 k2].toArray 95)
  dsimp only [List.toArray] at hR hk
  have c0 := hR.cell (o := 0) rfl
  have c1 := hR.cell (o := 1) rfl
  have HK := Lib.hid hk
  clear hR hk
  generalize w.alloc (.cells #[.int .i64 k1, .int .u64 k2] 95) = w1 at *
  generalize w.heap.size = rb at *
  go_wp2_with fail
  with_reducible refine Calls.mono (C.out _ HK.out) ?_
  rintro e w2 ⟨⟨i, rfl⟩, hk2⟩
  go_wp2_with fail
  go_ret
  exact ⟨rfl, HK.out.trans hk2⟩
/-- What Delete leaves. -/
def DelP (w : World) (base : Nat) (F : Nat → Prop) (b most : Nat) (R : List (Ky × Nat)) (e : Ending) (w' : World) : Prop :=
  e = .returned (.int .i64 0) ∧ TabV w' base (More F w w') b most R ∧ Kept F w w'
set_option maxRecDepth 100000 in
set_option maxHeartbeats 8000000 in
theorem del_hit {w : World} {base : Nat} {F : Nat → Prop} {b most : Nat} {m R : List (Ky × Nat)} (h : TabV w base F b most m) (hbase : base ≤ w.heap.size) {k : Ky} {u : Nat} (hm : m.Perm ((k, u) :: R)) :
    Calls Tryz.prog 97 #[.pointer (some ⟨b, 0, none⟩), ky k] w (DelP w base F b most R) := by
  obtain ⟨S, v0, h⟩ := h.perm hm
  obtain ⟨i, hi⟩ := mem_kvs.1 (h.perm.mem_iff.2 (List.mem_cons_self ..))
  obtain ⟨g, rfl, hB, hF⟩ : ∃ g, v0 = .slice (some ⟨g, 0, none⟩) S.length S.length ∧ Blk w g (fl S) 210 ∧ Fit S := by
    rcases h.lies with ⟨rfl, _⟩ | ⟨g, e, hB, hF⟩
    · simp at hi
    · exact ⟨g, e, hB, hF⟩
  have C := Lib.hid fun (w' : World) (hk : Kept (fun _ => False) w w') => tfind_hit (h.old hk) hi
  have hil := lt_of_some hi
  have hpr : (kvs (S.set i none)).Perm R := ((kvs_take hi).symm.trans h.perm).cons_inv
  have hrm := h.room
  rw [List.length_cons] at hrm
  obtain ⟨f, hfi, hf⟩ := free_but (S := S.set i none) (g := i) (List.getElem?_set_self hil) (by rw [hpr.length_eq, List.length_set]; omega)
  have E := Lib.hid fun (w' : World) (hk : Kept (fun _ => False) w w') => empty_any (hk.blk hB (fun f => f)) hF.pow hF.path hil hf hfi
  have HT := Lib.hid h.blk
  have HB := Lib.hid hB
  have HF := Lib.hid hF
  have H := Lib.hid h
  have HPR := Lib.hid hpr
  have hfew := h.few
  rw [List.length_cons] at hfew
  have hw : IntKind.i64.wrap (((((k, u) :: R).length : Nat) : Int) - 1) = ((R.length : Nat) : Int) := by rw [IntKind.wrap_i64, List.length_cons]; omega
  have hn0 : ((((k, u) :: R).length : Nat) : Int) = ((R.length : Nat) : Int) + 1 := by rw [List.length_cons]; omega
  rw [hn0] at HT hw
  obtain ⟨ml, hml⟩ : ∃ ml, ml = R.length := ⟨_, rfl⟩
  rw [← hml] at HT hfew hw hrm
  have HML := Lib.hid hml
  have HRM := Lib.hid hrm
  clear h hi hB hm hF hf hpr hn0 hml hrm
  obtain ⟨k1, k2⟩ := k
  go_enter Tryz.func97, Tryz.ntmps97
  go_upto_region 1 with fail
  have hR := Blk.new w [.int .i64 k1, .int .u64 k2] 95
  have hk := (Kept.refl (fun _ => False) w).alloc (.cells [.int .i64 k1, .int .u64 k2].toArray 95)
  dsimp only [List.toArray] at hR hk
  have c0 := hR.cell (o := 0) rfl
  have c1 := hR.cell (o := 1) rfl
  have HK := Lib.hid hk
  clear hR hk
  generalize w.alloc (.cells #[.int .i64 k1, .int .u64 k2] 95) = w1 at *
  obtain ⟨rb, hrb⟩ : ∃ rb, w.heap.size = rb := ⟨_, rfl⟩
  rw [hrb] at c0 c1 ⊢
  clear hrb
  go_wp2_with fail
  with_reducible refine Calls.mono (C.out _ HK.out) ?_
  rintro e w2 ⟨rfl, hk2⟩
  have HK2 := Lib.hid (HK.out.trans hk2)
  clear hk2 c0 c1 C
  have hT2 := HK2.out.blk HT.out (fun f => f)
  have hB2 := HK2.out.blk HB.out (fun f => f)
  have hgb : g ≠ b := fun e => by rw [e] at hB2; exact absurd (hB2.inj hT2).2 (by decide)
  have c2 := hT2.cell (o := 2) rfl
  have HT2 := Lib.hid hT2
  clear hB2 hT2
  go_wp2_with fail
  with_reducible refine Calls.mono (E.out _ HK2.out) ?_
  rintro e w3 hE
  obtain ⟨rfl, S1, hl1, hP1, hp1, hB3, hk3⟩ := id hE
  clear hE E c2
  have hT3 := hk3.blk HT2.out (fun e => hgb e.symm)
  have c1 := hT3.cell (o := 1) rfl
  have f1 := hT3.frozen 1
  have hm1 : IntKind.i64.wrap ((ml : Int) + 1 - 1) = (ml : Int) := hw
  have k03 : Kept F w w3 := (HK2.out.mono (fun _ _ f => f.elim)).trans' hk3 (fun j hj e => by have := H.out.fv g rfl; rw [e]; exact this)
  have HB3 := Lib.hid hB3
  have HT3 := Lib.hid hT3
  have K03 := Lib.hid k03
  have HP1 := Lib.hid hP1
  have HL1 := Lib.hid hl1
  have Hp1 := Lib.hid hp1
  clear hB3 hT3 k03 hP1 hl1 hp1 hk3 HT2
  go_upto_region 6 with fail
  have k34 := Kept.one w3 b 1 (.int .i64 (ml : Int))
  have hs4 : (w3.setCell ⟨b, 1, none⟩ (.int .i64 (ml : Int))).heap.size = w3.heap.size := by simp
  have hT4 := HT3.out.set 1 (.int .i64 (ml : Int))
  change Blk _ b [.int .i64 most, .int .i64 (ml : Int), .slice (some ⟨g, 0, none⟩) S.length S.length] _ at hT4
  have hB4 := k34.blk HB3.out hgb
  have k04 := K03.out.trans' k34 (fun j hj e => e ▸ H.out.fb)
  generalize w3.setCell ⟨b, 1, none⟩ (.int .i64 (ml : Int)) = w4 at *
  have hF1 : Fit S1 := ⟨by rw [HL1.out]; exact HF.out.pow, by rw [HL1.out]; exact HF.out.least, by rw [HL1.out]; exact HP1.out⟩
  have hp1R : (kvs S1).Perm R := Hp1.out.trans HPR.out
  have hndR : (R.map Prod.fst).Nodup := by have := H.out.keys; rw [List.map_cons, List.nodup_cons] at this; exact this.2
  have R0 := Lib.hid fun (w' : World) (hk : Kept (fun _ => False) w4 w') => (room_any (v := .slice (some ⟨g, 0, none⟩) S.length S.length) (S := S1) (Or.inr ⟨g, by rw [HL1.out], hk.blk hB4 (fun f => f)⟩) (Or.inr hF1) ((hp1R.map _).nodup_iff.2 hndR) (c := ml) (by omega) (by rw [hp1R.length_eq, ← HML.out]; omega) (by have := HRM.out; have := HL1.out; omega) (Or.inr hF1)).mono fun _ _ h => RoomP.opened h
  have HT4 := Lib.hid hT4
  have K04 := Lib.hid k04
  have HP1R := Lib.hid hp1R
  have HNDR := Lib.hid hndR
  have HS4 := Lib.hid hs4
  clear c1 f1 k34 hT4 hB4 k04 hF1 hp1R hndR hs4 HT3 HB3
  have t1 := HT4.out.cell (o := 1) rfl
  have t2 := HT4.out.cell (o := 2) rfl
  go_region_with (first | (go_at_call 142; (with_reducible refine Calls.mono (R0.out _ (Kept.refl _ w4).drew) ?_); rintro e w5 ⟨g2, S2, rfl, hB5, hF5, hc5, hp5, ho5, hk5⟩; have q2 := (hk5.blk HT4.out.drew (fun f => f)).cell (o := 2) rfl; have f2 := (hk5.blk HT4.out.drew (fun f => f)).frozen 2))
  all_goals
    have hT5 := hk5.blk HT4.out.drew (fun f => f)
    have hgb2 : g2 ≠ b := fun e => by rw [e] at hB5; exact absurd (hB5.inj hT5).2 (by decide)
    have P : Hid (DelP w base F b most R (.returned (.int .i64 0)) (w5.setCell ⟨b, 2, none⟩ (.slice (some ⟨g2, 0, none⟩) S2.length S2.length))) := by
      have k56 := Kept.one w5 b 2 (.slice (some ⟨g2, 0, none⟩) S2.length S2.length)
      have hT6 := hT5.set 2 (.slice (some ⟨g2, 0, none⟩) S2.length S2.length)
      have hB6 := k56.blk hB5 hgb2
      have hs6 : (w5.setCell ⟨b, 2, none⟩ (.slice (some ⟨g2, 0, none⟩) S2.length S2.length)).heap.size = w5.heap.size := by simp
      have hgF : F g2 ∨ w.heap.size ≤ g2 ∧ g2 < w5.heap.size := by
        rcases ho5 with e | ⟨e1, e2⟩
        · exact Or.inl (H.out.fv g2 e)
        · have h1 := K04.out.size
          have h2 : w4.drew.heap.size = w4.heap.size := rfl
          rw [h2] at e1
          exact Or.inr ⟨by omega, e2⟩
      have h2 : w4.drew.heap.size = w4.heap.size := rfl
      have h3 := hk5.size
      have h4 := K04.out.size
      change Blk _ b [.int .i64 most, .int .i64 (ml : Int), .slice (some ⟨g2, 0, none⟩) S2.length S2.length] _ at hT6
      generalize w5.setCell ⟨b, 2, none⟩ (.slice (some ⟨g2, 0, none⟩) S2.length S2.length) = w6 at *
      refine Lib.hid ⟨rfl, ⟨S2, _, ⟨by rw [← HML.out]; exact hT6, Or.inr ⟨g2, rfl, hB6, hF5⟩, by rw [← HML.out]; exact hc5, hp5.trans HP1R.out, HNDR.out, Or.inl H.out.fb, ?_, ?_, by rw [← HML.out]; omega, H.out.most1⟩⟩, ?_⟩
      · intro g' e
        have : g2 = g' := Option.some.inj e
        subst this
        rcases hgF with h | ⟨h1, h2⟩
        · exact Or.inl h
        · exact Or.inr ⟨h1, by omega⟩
      · rintro i (h | h)
        · have := H.out.own i h; exact ⟨this.1, by rw [hs6]; rw [h2] at h3; omega⟩
        · exact ⟨Nat.le_trans hbase h.1, h.2⟩
      · exact ((K04.out.trans (((Kept.refl (fun _ => False) w4).drew.trans hk5).mono (fun _ _ f => f.elim)))).trans' k56 (fun i hi e => e ▸ H.out.fb)
    clear hB5 hF5 hc5 hp5 ho5 hk5 hT5
    go_wp2_with fail
    go_ret
    exact P.out
end Go.Proofs.YtjjamooihddkgaaGreat.TbP

/- A table beside all that was there ahead of it: what each call leaves. Conditions: each theorem's own. -/
namespace Go.Proofs.YtjjamooihddkgaaGreat.TbP
open Go.RowKit Hp TbM TbN TbR
/-- A table of the things m, made since w, its blocks are F; all of w is as it was. -/
def St (w : World) (b most : Nat) (m : List (Ky × Nat)) (F : Nat → Prop) (wr : World) : Prop := Kept (fun _ => False) w wr ∧ TabV wr w.heap.size F b most m
/-- What a call that turns the table leaves of all else. -/
def Next (F : Nat → Prop) (wr : World) (F' : Nat → Prop) (w' : World) : Prop := Kept F wr w' ∧ ∀ i, F' i → F i ∨ wr.heap.size ≤ i
/-- A block that is none of the table's. -/
def Off (F : Nat → Prop) (w : World) (x : Nat) (c : List Value) (T : TypeId) : Prop := Blk w x c T ∧ ¬ F x
theorem Off.next {F F' : Nat → Prop} {wr w' : World} {x : Nat} {c : List Value} {T : TypeId} (h : Off F wr x c T) (n : Next F wr F' w') : Off F' w' x c T :=
  ⟨n.1.blk h.1 h.2, fun e => (n.2 x e).elim h.2 (fun h2 => by have := h.1.lt; omega)⟩
theorem Off.old {F : Nat → Prop} {wr w' : World} {x : Nat} {c : List Value} {T : TypeId} (h : Off F wr x c T) (k : Kept (fun _ => False) wr w') : Off F w' x c T := ⟨k.blk h.1 (fun f => f), h.2⟩
theorem St.off_new {w wr : World} {b most : Nat} {m : List (Ky × Nat)} {F : Nat → Prop} (h : St w b most m F wr) (c : List Value) (T : TypeId) : Off F (wr.alloc (.cells c.toArray T)) wr.heap.size c T := by
  refine ⟨Blk.new wr c T, fun e => ?_⟩
  obtain ⟨_, _, _, h⟩ := h
  have := (h.own _ e).2
  omega
theorem St.old {w wr w' : World} {b most : Nat} {m : List (Ky × Nat)} {F : Nat → Prop} (h : St w b most m F wr) (k : Kept (fun _ => False) wr w') : St w b most m F w' := ⟨h.1.trans k, h.2.old k⟩
theorem St.perm {w wr : World} {b most : Nat} {m m' : List (Ky × Nat)} {F : Nat → Prop} (h : St w b most m F wr) (p : m.Perm m') : St w b most m' F wr := ⟨h.1, h.2.perm p⟩
theorem St.keys {w wr : World} {b most : Nat} {m : List (Ky × Nat)} {F : Nat → Prop} (h : St w b most m F wr) : (m.map Prod.fst).Nodup := by obtain ⟨_, _, _, h⟩ := h; exact h.keys
theorem St.few {w wr : World} {b most : Nat} {m : List (Ky × Nat)} {F : Nat → Prop} (h : St w b most m F wr) : m.length ≤ 1000 := by obtain ⟨_, _, _, h⟩ := h; exact h.few
theorem St.far {w wr : World} {b most : Nat} {m : List (Ky × Nat)} {F : Nat → Prop} (h : St w b most m F wr) : ∀ i, i < w.heap.size → F i → False := by
  obtain ⟨_, _, _, h⟩ := h
  intro i hi e
  have := h.own i e
  omega
theorem new_st {most : Nat} (h0 : 1 ≤ most) (h1 : most ≤ 100000) (w : World) : Calls Tryz.prog 80 #[.int .i64 most] w fun e w' => ∃ b F, e = .returned (.tuple #[.pointer (some ⟨b, 0, none⟩), .int .i64 0]) ∧ St w b most [] F w' :=
  (new_yes h0 h1 w).mono fun e w' ⟨b, h1, h2, h3⟩ => ⟨b, _, h1, h3, h2⟩
theorem put_st {w wr : World} {b most : Nat} {m : List (Ky × Nat)} {F : Nat → Prop} (h : St w b most m F wr) {k : Ky} (hno : ∀ u, (k, u) ∉ m) (hm : m.length < most) (hfew : m.length < 1000) (v : Nat) :
    Calls Tryz.prog 126 #[.pointer (some ⟨b, 0, none⟩), ky k, ev v] wr fun e w' => e = .returned (.int .i64 0) ∧ ∃ F', St w b most ((k, v) :: m) F' w' ∧ Next F wr F' w' :=
  (put_new h.2 h.1.size hno hm hfew v).mono fun e w' ⟨h1, h2, h3⟩ => ⟨h1, _, ⟨h.1.trans' h3 h.far, h2⟩, h3, fun i hi => hi.imp id (fun h => h.1)⟩
theorem full_st {w wr : World} {b most : Nat} {m : List (Ky × Nat)} {F : Nat → Prop} (h : St w b most m F wr) {k : Ky} (hno : ∀ u, (k, u) ∉ m) (hm : most ≤ m.length) (v : Nat) :
    Calls Tryz.prog 126 #[.pointer (some ⟨b, 0, none⟩), ky k, ev v] wr fun e w' => e = .returned (.int .i64 4) ∧ Kept (fun _ => False) wr w' :=
  put_full h.2 hno hm v
theorem there_st {w wr : World} {b most : Nat} {m : List (Ky × Nat)} {F : Nat → Prop} (h : St w b most m F wr) {k : Ky} {u : Nat} (hm : (k, u) ∈ m) (v : Nat) :
    Calls Tryz.prog 126 #[.pointer (some ⟨b, 0, none⟩), ky k, ev v] wr fun e w' => e = .returned (.int .i64 6) ∧ Kept (fun _ => False) wr w' :=
  put_there h.2 hm v
theorem get_st {w wr : World} {b most : Nat} {m : List (Ky × Nat)} {F : Nat → Prop} (h : St w b most m F wr) {k : Ky} {u : Nat} (hm : (k, u) ∈ m) :
    Calls Tryz.prog 121 #[.pointer (some ⟨b, 0, none⟩), ky k] wr fun e w' => e = .returned (.tuple #[ev u, .bool true]) ∧ Kept (fun _ => False) wr w' :=
  get_hit h.2 hm
theorem got_st {w wr : World} {b most : Nat} {m : List (Ky × Nat)} {F : Nat → Prop} (h : St w b most m F wr) {k : Ky} (hno : ∀ u, (k, u) ∉ m) :
    Calls Tryz.prog 121 #[.pointer (some ⟨b, 0, none⟩), ky k] wr fun e w' => e = .returned (.tuple #[zv, .bool false]) ∧ Kept (fun _ => False) wr w' :=
  get_miss h.2 hno
theorem len_st {w wr : World} {b most : Nat} {m : List (Ky × Nat)} {F : Nat → Prop} (h : St w b most m F wr) :
    Calls Tryz.prog 100 #[.pointer (some ⟨b, 0, none⟩)] wr fun e w' => e = .returned (.int .i64 (m.length : Nat)) ∧ wr = w' :=
  len_any h.2
theorem del_st {w wr : World} {b most : Nat} {m : List (Ky × Nat)} {F : Nat → Prop} (h : St w b most m F wr) {R : List (Ky × Nat)} {k : Ky} {u : Nat} (hm : m.Perm ((k, u) :: R)) :
    Calls Tryz.prog 97 #[.pointer (some ⟨b, 0, none⟩), ky k] wr fun e w' => e = .returned (.int .i64 0) ∧ ∃ F', St w b most R F' w' ∧ Next F wr F' w' :=
  (del_hit h.2 h.1.size hm).mono fun e w' ⟨h1, h2, h3⟩ => ⟨h1, _, ⟨h.1.trans' h3 h.far, h2⟩, h3, fun i hi => hi.imp id (fun h => h.1)⟩
theorem gone_st {w wr : World} {b most : Nat} {m : List (Ky × Nat)} {F : Nat → Prop} (h : St w b most m F wr) {k : Ky} (hno : ∀ u, (k, u) ∉ m) :
    Calls Tryz.prog 97 #[.pointer (some ⟨b, 0, none⟩), ky k] wr fun e w' => e = .returned (.int .i64 5) ∧ Kept (fun _ => False) wr w' :=
  del_none h.2 hno
end Go.Proofs.YtjjamooihddkgaaGreat.TbP

/- A shelf: a table of pieced messages, beside it each host's numbers: how it lies; get, all, of. Conditions: each theorem's own. -/
namespace Go.Proofs.YtjjamooihddkgaaGreat.Ph
open Go.RowKit Hp TbM TbN TbP Po
open IdM (Asc place ins has)
attribute [local go_sem ↓] Go.wp_at_zero Go.wp_at_succ
abbrev ptr (b : Nat) : Value := .pointer (some ⟨b, 0, none⟩)
/-- The numbers of one host. -/
def idsOf (K : List (Ky × Nat)) (i : Nat) : List Int := (K.filter fun x => x.1.1 == (i : Int)).map fun x => x.1.2
/-- A shelf of the things K, the rows of numbers I; O: whose a block is (2 its own, 3 the table's, 4 and on the rows'). -/
structure Sh (w : World) (base : Nat) (O : Nat → Nat) (s tb most : Nat) (K : List (Ky × Nat)) (I : Nat → List Int) (vs : List Value) : Prop where
  blk : Blk w s (ptr tb :: vs) 147
  len : vs.length = 8
  os : O s = 2
  tab : TabV w base (fun k => O k = 3) tb most K
  row : ∀ i v, vs[i]? = some v → Ro.Row Pn.nT w v (I i) ∧ ∀ g, v.ownBlock = some g → O g = 4 + i
  asc : ∀ i, i < 8 → Asc (I i)
  ow : Ow w base O
/-- The rows hold the numbers of the things. -/
def Ids (K : List (Ky × Nat)) (I : Nat → List Int) : Prop := ∀ i, i < 8 → (I i).Perm (idsOf K i)
/-- The shelf's own parts. -/
def Mine (j : Nat) : Prop := 2 ≤ j ∧ j < 12
variable {w w' : World} {base : Nat} {O O' : Nat → Nat} {s tb most : Nat} {K : List (Ky × Nat)} {I : Nat → List Int} {vs : List Value}
theorem Sh.lt8 (h : Sh w base O s tb most K I vs) {i : Nat} {v : Value} (hv : vs[i]? = some v) : i < 8 := by
  rw [← h.len]; exact (List.getElem?_eq_some_iff.1 hv).1
/-- What others' calls leave of it. -/
theorem Sh.fr {A : Nat → Prop} (h : Sh w base O s tb most K I vs) (f : Fr A w O w' O') (hb : base ≤ w.heap.size) (hA : ∀ j, Mine j → ¬ A j) : Sh w' base O' s tb most K I vs := by
  have h3 : (fun k => O' k = 3) = fun k => O k = 3 := f.part (by decide) (hA 3 ⟨by decide, by decide⟩)
  refine ⟨f.blk' h.blk (by rw [h.os]; exact hA 2 ⟨by decide, by decide⟩), h.len, (f.same 2 (by decide) (hA 2 ⟨by decide, by decide⟩) s).2 h.os, ?_, fun i v hv => ?_, h.asc, f.ow h.ow hb⟩
  · rw [h3]
    exact h.tab.kept f.kept (fun i hi a => hA 3 ⟨by decide, by decide⟩ (by rw [show O i = 3 from hi] at a; exact a))
  · have hi := h.lt8 hv
    have hm : ¬ A (4 + i) := hA _ ⟨by omega, by omega⟩
    obtain ⟨h1, h2⟩ := h.row i v hv
    exact ⟨h1.kept f.kept (fun g hg a => hm (by rw [h2 g hg] at a; exact a)), fun g hg => (f.same _ (by omega) hm g).2 (h2 g hg)⟩
theorem Sh.old (h : Sh w base O s tb most K I vs) (k : Kept (fun _ => False) w w') (hb : base ≤ w.heap.size) : Sh w' base O s tb most K I vs :=
  h.fr (A := fun _ => False) (Fr.old k) hb (fun _ _ f => f)
theorem Ids.few {K : List (Ky × Nat)} {I : Nat → List Int} (h : Ids K I) {i : Nat} (hi : i < 8) : (I i).length ≤ K.length := by
  rw [(h i hi).length_eq]
  unfold idsOf
  rw [List.length_map]
  exact List.length_filter_le _ _
theorem Sh.k1000 (h : Sh w base O s tb most K I vs) : K.length ≤ 1000 := by obtain ⟨_, _, h⟩ := h.tab; exact h.few
theorem Sh.keys (h : Sh w base O s tb most K I vs) : (K.map Prod.fst).Nodup := by obtain ⟨_, _, h⟩ := h.tab; exact h.keys
theorem Sh.own (h : Sh w base O s tb most K I vs) {g : Nat} (hg : O g ≠ 0) : base ≤ g ∧ g < w.heap.size := h.ow g hg
theorem mem_ids {K : List (Ky × Nat)} {i : Nat} {id : Int} : id ∈ idsOf K i ↔ ∃ u, (((i : Int), id), u) ∈ K := by
  unfold idsOf
  rw [List.mem_map]
  constructor
  · rintro ⟨⟨⟨a, b⟩, u⟩, hx, rfl⟩
    rw [List.mem_filter] at hx
    obtain ⟨h1, h2⟩ := hx
    have : a = (i : Int) := by simpa using h2
    exact ⟨u, this ▸ h1⟩
  · rintro ⟨u, hu⟩
    exact ⟨(((i : Int), id), u), List.mem_filter.2 ⟨hu, by simp⟩, rfl⟩
set_option maxHeartbeats 4000000 in
/-- What the table answers. -/
theorem get_any (h : Sh w base O s tb most K I vs) (hb : base ≤ w.heap.size) (k : Ky) (r : Value) (ok : Bool)
    (hC : ∀ w', Kept (fun _ => False) w w' → Calls Tryz.prog 121 #[ptr tb, ky k] w' fun e w'' => e = .returned (.tuple #[r, .bool ok]) ∧ Kept (fun _ => False) w' w'') :
    Calls Tryz.prog 83 #[ptr s, ky k] w fun e w' => e = .returned (.tuple #[r, .bool ok]) ∧ Kept (fun _ => False) w w' := by
  have C := Lib.hid hC
  have HB := Lib.hid h.blk
  clear hC h
  obtain ⟨k1, k2⟩ := k
  go_enter Tryz.func83, Tryz.ntmps83
  go_upto_region 1 with fail
  have hR := Blk.new w [.int .i64 k1, .int .u64 k2] 95
  have hk := (Kept.refl (fun _ => False) w).alloc (.cells [.int .i64 k1, .int .u64 k2].toArray 95)
  dsimp only [List.toArray] at hR hk
  have hb1 := hk.blk HB.out (fun f => f)
  have c0 := hR.cell (o := 0) rfl
  have c1 := hR.cell (o := 1) rfl
  have c2 := hb1.cell (o := 0) rfl
  have HR := Lib.hid hR
  have HK := Lib.hid hk
  have HB1 := Lib.hid hb1
  clear hR hk hb1
  generalize w.alloc (.cells #[.int .i64 k1, .int .u64 k2] 95) = w1 at *
  generalize w.heap.size = rb at *
  go_region_held3 (fun w' => w'.cell? ⟨rb, 0, none⟩ = some (.int .i64 k1) ∧ w'.cell? ⟨rb, 1, none⟩ = some (.int .u64 k2) ∧ w'.cell? ⟨s, 0, none⟩ = some (ptr tb)) (first | exact ⟨c0, c1, c2⟩ | exact ⟨(hk2.blk (Blk.drew HR.out) (fun f => f)).cell rfl, (hk2.blk (Blk.drew HR.out) (fun f => f)).cell rfl, (hk2.blk (Blk.drew HB1.out) (fun f => f)).cell rfl⟩)
    (first | (go_at_call 121; with_reducible refine Calls.mono (C.out _ (by first | exact HK.out | exact HK.out.drew)) ?_; rintro e w2 ⟨rfl, hk2⟩))
  go_wp2_with fail
  go_ret2
  exact ⟨rfl, HK.out.drew.trans hk2⟩
theorem get_yes (h : Sh w base O s tb most K I vs) (hb : base ≤ w.heap.size) {k : Ky} {u : Nat} (hu : (k, u) ∈ K) :
    Calls Tryz.prog 83 #[ptr s, ky k] w fun e w' => e = .returned (.tuple #[ptr u, .bool true]) ∧ Kept (fun _ => False) w w' :=
  get_any h hb k _ true (fun w' hk => get_hit (h.old hk hb).tab hu)
theorem get_no (h : Sh w base O s tb most K I vs) (hb : base ≤ w.heap.size) {k : Ky} (hu : ∀ u, (k, u) ∉ K) :
    Calls Tryz.prog 83 #[ptr s, ky k] w fun e w' => e = .returned (.tuple #[.pointer none, .bool false]) ∧ Kept (fun _ => False) w w' :=
  get_any h hb k _ false (fun w' hk => get_miss (h.old hk hb).tab hu)
theorem all_any (h : Sh w base O s tb most K I vs) : Calls Tryz.prog 68 #[ptr s] w fun e w' => e = .returned (.int .i64 (K.length : Nat)) ∧ w = w' := by
  have c0 := h.blk.cell (o := 0) rfl
  have L := Lib.hid (len_any h.tab)
  clear h
  go_enter Tryz.func68, Tryz.ntmps68
  go_wp2_with fail
  with_reducible refine Calls.mono L.out ?_
  rintro e w1 ⟨rfl, rfl⟩
  go_wp2_with fail
  go_ret
  exact ⟨rfl, rfl⟩
theorem of_any (h : Sh w base O s tb most K I vs) {i : Nat} (hi : i < 8) : Calls Tryz.prog 124 #[ptr s, .int .i64 (i : Nat)] w fun e w' => e = .returned (.int .i64 ((I i).length : Nat)) ∧ w = w' := by
  obtain ⟨v, hv⟩ : ∃ v, vs[i]? = some v := ⟨vs[i]'(by rw [h.len]; exact hi), List.getElem?_eq_getElem _⟩
  obtain ⟨a, c, rfl, _, _⟩ := (h.row i v hv).1.slice
  have c0 := h.blk.cell (o := i + 1) (by rw [List.getElem?_cons_succ]; exact hv)
  have c1 : w.cell? ⟨s, 1 + i, none⟩ = some (.slice a (I i).length c) := by rw [Nat.add_comm]; exact c0
  have g1 : (0 : Int) ≤ (i : Int) := by omega
  have g2 : (i : Int) < 8 := by omega
  clear h hv
  generalize (I i).length = n at *
  go_enter Tryz.func124, Tryz.ntmps124
  go_wp2_with fail
  go_ret
  exact ⟨rfl, rfl⟩
end Go.Proofs.YtjjamooihddkgaaGreat.Ph

/- A shelf: one is put in, one is taken out. Conditions: each theorem's own. -/
namespace Go.Proofs.YtjjamooihddkgaaGreat.Ph
open Go.RowKit Hp TbM TbN TbP Po
open IdM (Asc place ins has)
attribute [local go_sem ↓] Go.wp_at_zero Go.wp_at_succ
variable {w w' : World} {base : Nat} {O O' : Nat → Nat} {s tb most : Nat} {K K' : List (Ky × Nat)} {I : Nat → List Int} {vs : List Value}
/-- The table has turned. -/
theorem Sh.table (h : Sh w base O s tb most K I vs) (hb : base ≤ w.heap.size) (ht : TabV w' base (More (fun k => O k = 3) w w') tb most K') (hk : Kept (fun k => O k = 3) w w') :
    ∃ O', Sh w' base O' s tb most K' I vs ∧ Fr (fun j => j = 3) w O w' O' := by
  obtain ⟨O', hr⟩ := re_ex O 3 (More (fun k => O k = 3) w w')
  have f := Fr.of hr (by decide) h.ow hk (fun k h => h)
  refine ⟨O', ⟨f.blk' h.blk (by rw [h.os]; decide), h.len, (f.same 2 (by decide) (by decide) s).2 h.os, ?_, fun i v hv => ?_, h.asc, f.ow h.ow hb⟩, f⟩
  · rw [hr.self (by decide)]; exact ht
  · obtain ⟨h1, h2⟩ := h.row i v hv
    have hm : ¬ (4 + i = 3) := by omega
    exact ⟨h1.kept f.kept (fun g hg a => hm (by rw [h2 g hg] at a; exact a)), fun g hg => (f.same _ (by omega) hm g).2 (h2 g hg)⟩
/-- A row has turned, and its place in the shelf. -/
theorem Sh.put_row {w1 : World} (h : Sh w base O s tb most K I vs) (hb : base ≤ w.heap.size) {i : Nat} {v v' : Value} {l' : List Int} (hv : vs[i]? = some v) (hA : Ro.Apd Pn.nT w v l' v' w1) (ha : Asc l') :
    ∃ O', Sh (w1.setCell ⟨s, 1 + i, none⟩ v') base O' s tb most K (fun j => if j = i then l' else I j) (vs.set i v') ∧ Fr (fun j => j = 2 ∨ j = 4 + i) w O (w1.setCell ⟨s, 1 + i, none⟩ v') O' := by
  have hi := h.lt8 hv
  obtain ⟨h1, h2⟩ := h.row i v hv
  obtain ⟨O', hr⟩ := re_ex O (4 + i) (fun k => v'.ownBlock = some k)
  have f1 : Fr (fun j => j = 4 + i) w O w1 O' := Fr.of hr (by omega) h.ow (hA.kept.mono (fun k _ e => h2 k e)) (fun k e => by
    rcases hA.lies k e with e2 | e2
    · exact Or.inl (h2 k e2)
    · exact Or.inr ⟨e2, hA.row.lt k e⟩)
  have hs' : O' s = 2 := (f1.same 2 (by decide) (by omega) s).2 h.os
  have f2 : Fr (fun j => j = 2) w1 O' (w1.setCell ⟨s, 1 + i, none⟩ v') O' := ⟨(Kept.one w1 s (1 + i) v').mono (fun k _ e => by rw [e]; exact hs'), fun _ _ _ _ => Iff.rfl, fun k h0 h => Or.inl ⟨h0, h⟩⟩
  have f : Fr (fun j => j = 2 ∨ j = 4 + i) w O (w1.setCell ⟨s, 1 + i, none⟩ v') O' := (f1.mono (fun _ e => Or.inr e)).trans (f2.mono (fun _ e => Or.inl e))
  have h3 : (fun k => O' k = 3) = fun k => O k = 3 := f.part (by decide) (by omega)
  have hb1 := f1.blk' h.blk (by rw [h.os]; omega)
  have hb2 := hb1.set (1 + i) v'
  rw [Nat.add_comm 1 i, List.set_cons_succ] at hb2
  refine ⟨O', ⟨by rw [Nat.add_comm 1 i]; exact hb2, by rw [List.length_set]; exact h.len, hs', ?_, fun j u hu => ?_, fun j hj => ?_, f.ow h.ow hb⟩, f⟩
  · rw [h3]
    exact h.tab.kept f.kept (fun k hk a => by rw [show O k = 3 from hk] at a; omega)
  · by_cases e : i = j
    · subst e
      rw [List.getElem?_set_self (by rw [h.len]; exact hi)] at hu
      cases hu
      have hO : ∀ g, v'.ownBlock = some g → O' g = 4 + i := fun g hg => hr.yes g hg
      show Ro.Row Pn.nT _ v' (if i = i then l' else I i) ∧ _
      rw [if_pos rfl]
      exact ⟨hA.row.kept (Kept.one w1 s (1 + i) v') (fun g hg e => by have := hO g hg; have e' : g = s := e; rw [e', hs'] at this; omega), hO⟩
    · rw [List.getElem?_set_ne e] at hu
      obtain ⟨g1, g2⟩ := h.row j u hu
      show Ro.Row Pn.nT _ u (if j = i then l' else I j) ∧ _
      rw [if_neg (fun e2 => e e2.symm)]
      exact ⟨g1.kept f.kept (fun g hg a => by have := g2 g hg; have a' : O g = 2 ∨ O g = 4 + i := a; omega), fun g hg => (f.same _ (by omega) (by omega) g).2 (g2 g hg)⟩
  · show Asc (if j = i then l' else I j)
    split
    · exact ha
    · exact h.asc j hj
theorem Ids.put {K : List (Ky × Nat)} {I : Nat → List Int} (h : Ids K I) {i : Nat} {id : Int} (u : Nat) : Ids ((((i : Int), id), u) :: K) (fun j => if j = i then ins id (I i) else I j) := by
  intro j hj
  show (if j = i then ins id (I i) else I j).Perm _
  by_cases e : j = i
  · subst e
    rw [if_pos rfl]
    have h1 : idsOf ((((j : Int), id), u) :: K) j = id :: idsOf K j := by
      unfold idsOf
      rw [List.filter_cons, if_pos (by simp), List.map_cons]
    rw [h1]
    have h2 : (ins id (I j)).Perm (id :: I j) := by
      have h := (List.perm_middle (a := id) (l₁ := (I j).take (place id (I j))) (l₂ := (I j).drop (place id (I j))))
      rw [List.take_append_drop] at h
      exact h
    exact h2.trans ((h j hj).cons _)
  · rw [if_neg e]
    have h1 : idsOf ((((i : Int), id), u) :: K) j = idsOf K j := by
      unfold idsOf
      rw [List.filter_cons, if_neg (by simp; omega)]
    rw [h1]
    exact h j hj
theorem idsOf_perm {K K' : List (Ky × Nat)} (h : K.Perm K') (i : Nat) : (idsOf K i).Perm (idsOf K' i) := (h.filter _).map _
theorem Ids.drop {K R : List (Ky × Nat)} {I : Nat → List Int} (h : Ids K I) {i : Nat} (hi : i < 8) {id : Int} {u : Nat} (hK : K.Perm ((((i : Int), id), u) :: R)) {A B : List Int} (hA : I i = A ++ id :: B) :
    Ids R (fun j => if j = i then A ++ B else I j) := by
  intro j hj
  show (if j = i then A ++ B else I j).Perm _
  have h0 := (h j hj).trans (idsOf_perm hK j)
  by_cases e : j = i
  · subst e
    rw [if_pos rfl]
    have h1 : idsOf ((((j : Int), id), u) :: R) j = id :: idsOf R j := by
      unfold idsOf
      rw [List.filter_cons, if_pos (by simp), List.map_cons]
    rw [h1, hA] at h0
    exact (List.perm_middle.symm.trans h0).cons_inv
  · rw [if_neg e]
    have h1 : idsOf ((((i : Int), id), u) :: R) j = idsOf R j := by
      unfold idsOf
      rw [List.filter_cons, if_neg (by simp; omega)]
    rw [h1] at h0
    exact h0
/-- What a call leaves that turns the table and one row. -/
def TurnP (w : World) (base : Nat) (O : Nat → Nat) (s tb most : Nat) (K' : List (Ky × Nat)) (I : Nat → List Int) (i : Nat) (l' : List Int) (e : Ending) (w' : World) : Prop :=
  e = .returned (.tuple #[]) ∧ ∃ O' vs', Sh w' base O' s tb most K' (fun j => if j = i then l' else I j) vs' ∧ Fr (fun j => j = 2 ∨ j = 3 ∨ j = 4 + i) w O w' O'
set_option maxHeartbeats 8000000 in
set_option maxRecDepth 100000 in
theorem put_any (h : Sh w base O s tb most K I vs) (hids : Ids K I) (hb : base ≤ w.heap.size) {i : Nat} (hi : i < 8) {id : Int} (u : Nat) (hno : ∀ u, (((i : Int), id), u) ∉ K) (hm : K.length < most) (hf : K.length < 1000) (hl : (I i).length ≤ 900000) :
    Calls Tryz.prog 86 #[ptr s, ky ((i : Int), id), ptr u] w (TurnP w base O s tb most ((((i : Int), id), u) :: K) I i (ins id (I i))) := by
  obtain ⟨v, hv⟩ : ∃ v, vs[i]? = some v := ⟨vs[i]'(by rw [h.len]; exact hi), List.getElem?_eq_getElem _⟩
  have hO0 : O w.heap.size = 0 := by
    rcases Nat.eq_zero_or_pos (O w.heap.size) with h0 | h0
    · exact h0
    · have := (h.ow w.heap.size (by omega)).2; omega
  have C := Lib.hid fun (w1 : World) (hk : Kept (fun _ => False) w w1) => (show Calls Tryz.prog 126 #[ptr tb, ky ((i : Int), id), ptr u] w1 (fun e w2 => e = .returned (.int .i64 0) ∧ TabV w2 base (More (fun k => O k = 3) w1 w2) tb most ((((i : Int), id), u) :: K) ∧ Kept (fun k => O k = 3) w1 w2) from
    put_new (h.old hk hb).tab (by have := hk.size; omega) hno hm hf u)
  have H := Lib.hid h
  have HV := Lib.hid hv
  have HB := Lib.hid hb
  have g1 : (0 : Int) ≤ (i : Int) := by omega
  have g2 : (i : Int) < 8 := by omega
  have HL := Lib.hid hl
  have HNO := Lib.hid (fun hm : id ∈ I i => by
    obtain ⟨u, hu⟩ := mem_ids.1 ((hids i hi).mem_iff.1 hm)
    exact hno u hu)
  clear hids h hv hno hm hf hb hl
  go_enter Tryz.func86, Tryz.ntmps86
  go_upto_region 1 with fail
  have hR := Blk.new w [.int .i64 (i : Int), .int .u64 id] 95
  have hk := (Kept.refl (fun _ => False) w).alloc (.cells [.int .i64 (i : Int), .int .u64 id].toArray 95)
  dsimp only [List.toArray] at hR hk
  have hb1 := hk.blk H.out.blk (fun f => f)
  have c0 := hR.cell (o := 0) rfl
  have c1 := hR.cell (o := 1) rfl
  have c2 := hb1.cell (o := 0) rfl
  have HR := Lib.hid hR
  have HK := Lib.hid hk
  have HB1 := Lib.hid hb1
  have HO := Lib.hid hO0
  clear hR hk hb1 hO0
  generalize w.alloc (.cells #[.int .i64 (i : Int), .int .u64 id] 95) = w1 at *
  obtain ⟨rb, hrb⟩ : ∃ rb, w.heap.size = rb := ⟨_, rfl⟩
  rw [hrb] at c0 c1 HR HO ⊢
  clear hrb
  go_region_held3 (fun w' => w'.cell? ⟨rb, 0, none⟩ = some (.int .i64 (i : Int)) ∧ w'.cell? ⟨rb, 1, none⟩ = some (.int .u64 id) ∧ w'.cell? ⟨s, 0, none⟩ = some (ptr tb)) (first | exact ⟨c0, c1, c2⟩ | exact ⟨(hk2.blk (Blk.drew HR.out) (fun f => by rw [HO.out] at f; omega)).cell rfl, (hk2.blk (Blk.drew HR.out) (fun f => by rw [HO.out] at f; omega)).cell rfl, (hk2.blk (Blk.drew HB1.out) (fun f => by rw [H.out.os] at f; omega)).cell rfl⟩)
    (first | (go_at_call 126; with_reducible refine Calls.mono (C.out _ (by first | exact HK.out | exact HK.out.drew)) ?_; rintro e w2 ⟨rfl, hT2, hk2⟩))
  have hb1 : base ≤ w1.drew.heap.size := by have := HK.out.size; have := HB.out; show base ≤ w1.heap.size; omega
  obtain ⟨O2, h2, F2⟩ := (H.out.old HK.out.drew HB.out).table hb1 hT2 hk2
  have hR2 := hk2.blk HR.out.drew (fun f => by rw [HO.out] at f; omega)
  have hk02 : Fr (fun j => j = 3) w O w2 O2 := (Fr.old HK.out.drew).trans F2
  have hs2 := hk2.size
  have HOR := Lib.hid (show O2 rb = 3 → False from fun e => by
    rcases F2.more rb (by omega) e with ⟨h1, _⟩ | h1
    · rw [HO.out] at h1; omega
    · have h2 : w1.drew.heap.size = w1.heap.size := rfl
      have := HR.out.lt; omega)
  clear hT2 hk2 F2 c0 c1 c2 HR HB1
  obtain ⟨va, vn, vc, rfl⟩ := Pn.sl (h2.row i v HV.out).1
  have r0 := hR2.cell (o := 0) rfl
  have r1 := hR2.cell (o := 1) rfl
  have s0 : w2.cell? ⟨s, 1 + i, none⟩ = some (.slice va vn vc) := by
    have := h2.blk.cell (o := i + 1) (v := .slice va vn vc) (by rw [List.getElem?_cons_succ]; exact HV.out)
    rw [Nat.add_comm 1 i]; exact this
  have H2 := Lib.hid h2
  have F2 := Lib.hid hk02
  have HS := Lib.hid (show base ≤ w2.heap.size by have : w1.drew.heap.size = w1.heap.size := rfl; omega)
  clear h2 hk02 hb1 hs2
  have hkd := (Kept.refl (fun _ => False) w2).drew
  have W := Lib.hid (Pn.with_any ((H2.out.old hkd HS.out).row i _ HV.out).1 (H2.out.asc i hi) HL.out id)
  have HR2 := Lib.hid hR2
  clear hkd hR2
  have hsr : rb ≠ s := fun e => by have h1 := H2.out.blk; rw [← e] at h1; exact absurd (h1.inj HR2.out).2 (by decide)
  have hO2 : ∀ g, (Value.slice va vn vc).ownBlock = some g → O2 g = 4 + i := (H2.out.row i _ HV.out).2
  have HO2 := Lib.hid hO2
  have hOr : O2 rb = 0 := by
    rcases Nat.eq_zero_or_pos (O2 rb) with h0 | h0
    · exact h0
    · exfalso
      by_cases e : O2 rb = 3
      · exact HOR.out e
      · have := (F2.out.same (O2 rb) (by omega) e rb).1 rfl
        rw [HO.out] at this; omega
  have HOr := Lib.hid hOr
  clear hO2 hOr
  have W2 : Hid (Calls Tryz.prog 43 #[.slice va vn vc, .int .u64 id] w2.drew fun e w4 => ∃ a n c, e = .returned (.slice a n c) ∧ w4.cell? ⟨rb, 0, none⟩ = some (.int .i64 (i : Int)) ∧ w4.cell? ⟨rb, 1, none⟩ = some (.int .u64 id) ∧
      w4.cell? ⟨s, 1 + i, none⟩ = some (.slice va vn vc) ∧ w4.frozen? ⟨s, 1 + i, none⟩ = false ∧ Ro.Apd Pn.nT w2.drew (.slice va vn vc) (ins id (I i)) (.slice a n c) w4) := by
    refine Lib.hid (W.out.mono ?_)
    rintro e w4 ⟨v', rfl, hA⟩
    obtain ⟨va', vn', vc', rfl⟩ := Pn.sl hA.row
    have hb4 := hA.kept.blk H2.out.blk.drew (fun e => by have := HO2.out s e; rw [H2.out.os] at this; omega)
    have hr4 := hA.kept.blk HR2.out.drew (fun e => by have := HO2.out rb e; rw [HOr.out] at this; omega)
    refine ⟨_, _, _, rfl, hr4.cell (o := 0) rfl, hr4.cell (o := 1) rfl, ?_, hb4.frozen _, hA⟩
    rw [Nat.add_comm 1 i]; exact hb4.cell (o := i + 1) (v := .slice va vn vc) (by rw [List.getElem?_cons_succ]; exact HV.out)
  clear W
  go_wp2_with fail
  go_region_with (first | (go_at_call 43; (with_reducible refine Calls.mono W2.out ?_); rintro e w4 ⟨va', vn', vc', rfl, q0, q1, s4, g4, hA⟩))
  all_goals
    have hkd := (Kept.refl (fun _ => False) w2).drew
    obtain ⟨O5, h5, f5⟩ := (H2.out.old hkd HS.out).put_row HS.out HV.out hA (IdM.ins_asc (H2.out.asc i hi) (fun hm => HNO.out hm))
    have P : Hid (TurnP w base O s tb most ((((i : Int), id), u) :: K) I i (ins id (I i)) (.returned (.tuple #[])) (w4.setCell ⟨s, 1 + i, none⟩ (.slice va' vn' vc'))) :=
      Lib.hid ⟨rfl, O5, _, h5, ((F2.out.trans (Fr.old hkd)).mono (fun _ e => Or.inr (Or.inl e))).trans (f5.mono (fun j e => e.elim Or.inl (fun e => Or.inr (Or.inr e))))⟩
    clear hA h5 f5 W2 hkd
    go_wp2_with fail
    go_end0
    exact P.out
end Go.Proofs.YtjjamooihddkgaaGreat.Ph

/- A shelf: one is taken out. Conditions: each theorem's own. -/
namespace Go.Proofs.YtjjamooihddkgaaGreat.Ph
open Go.RowKit Hp TbM TbN TbP Po
open IdM (Asc place ins has)
attribute [local go_sem ↓] Go.wp_at_zero Go.wp_at_succ
variable {w w' : World} {base : Nat} {O O' : Nat → Nat} {s tb most : Nat} {K K' : List (Ky × Nat)} {I : Nat → List Int} {vs : List Value}
set_option maxHeartbeats 8000000 in
set_option maxRecDepth 100000 in
theorem drop_any {R : List (Ky × Nat)} (h : Sh w base O s tb most K I vs) (hb : base ≤ w.heap.size) {i : Nat} (hi : i < 8) {id : Int} {u : Nat} (hK : K.Perm ((((i : Int), id), u) :: R)) {A B : List Int} (hAB : I i = A ++ id :: B) (hl : (I i).length ≤ 900000) :
    Calls Tryz.prog 92 #[ptr s, ky ((i : Int), id)] w (TurnP w base O s tb most R I i (A ++ B)) := by
  obtain ⟨v, hv⟩ : ∃ v, vs[i]? = some v := ⟨vs[i]'(by rw [h.len]; exact hi), List.getElem?_eq_getElem _⟩
  have hO0 : O w.heap.size = 0 := by
    rcases Nat.eq_zero_or_pos (O w.heap.size) with h0 | h0
    · exact h0
    · have := (h.ow w.heap.size (by omega)).2; omega
  have C := Lib.hid fun (w1 : World) (hk : Kept (fun _ => False) w w1) => (show Calls Tryz.prog 97 #[ptr tb, ky ((i : Int), id)] w1 (fun e w2 => e = .returned (.int .i64 0) ∧ TabV w2 base (More (fun k => O k = 3) w1 w2) tb most R ∧ Kept (fun k => O k = 3) w1 w2) from
    del_hit (h.old hk hb).tab (by have := hk.size; omega) hK)
  have H := Lib.hid h
  have HV := Lib.hid hv
  have HB := Lib.hid hb
  have g1 : (0 : Int) ≤ (i : Int) := by omega
  have g2 : (i : Int) < 8 := by omega
  have HL := Lib.hid hl
  have HAB := Lib.hid hAB
  clear h hv hK hb hl hAB
  go_enter Tryz.func92, Tryz.ntmps92
  go_upto_region 1 with fail
  have hR := Blk.new w [.int .i64 (i : Int), .int .u64 id] 95
  have hk := (Kept.refl (fun _ => False) w).alloc (.cells [.int .i64 (i : Int), .int .u64 id].toArray 95)
  dsimp only [List.toArray] at hR hk
  have hb1 := hk.blk H.out.blk (fun f => f)
  have c0 := hR.cell (o := 0) rfl
  have c1 := hR.cell (o := 1) rfl
  have c2 := hb1.cell (o := 0) rfl
  have HR := Lib.hid hR
  have HK := Lib.hid hk
  have HB1 := Lib.hid hb1
  have HO := Lib.hid hO0
  clear hR hk hb1 hO0
  generalize w.alloc (.cells #[.int .i64 (i : Int), .int .u64 id] 95) = w1 at *
  obtain ⟨rb, hrb⟩ : ∃ rb, w.heap.size = rb := ⟨_, rfl⟩
  rw [hrb] at c0 c1 HR HO ⊢
  clear hrb
  go_region_held3 (fun w' => w'.cell? ⟨rb, 0, none⟩ = some (.int .i64 (i : Int)) ∧ w'.cell? ⟨rb, 1, none⟩ = some (.int .u64 id) ∧ w'.cell? ⟨s, 0, none⟩ = some (ptr tb)) (first | exact ⟨c0, c1, c2⟩ | exact ⟨(hk2.blk (Blk.drew HR.out) (fun f => by rw [HO.out] at f; omega)).cell rfl, (hk2.blk (Blk.drew HR.out) (fun f => by rw [HO.out] at f; omega)).cell rfl, (hk2.blk (Blk.drew HB1.out) (fun f => by rw [H.out.os] at f; omega)).cell rfl⟩)
    (first | (go_at_call 97; with_reducible refine Calls.mono (C.out _ (by first | exact HK.out | exact HK.out.drew)) ?_; rintro e w2 ⟨rfl, hT2, hk2⟩))
  have hb1 : base ≤ w1.drew.heap.size := by have := HK.out.size; have := HB.out; show base ≤ w1.heap.size; omega
  obtain ⟨O2, h2, F2⟩ := (H.out.old HK.out.drew HB.out).table hb1 hT2 hk2
  have hR2 := hk2.blk HR.out.drew (fun f => by rw [HO.out] at f; omega)
  have hk02 : Fr (fun j => j = 3) w O w2 O2 := (Fr.old HK.out.drew).trans F2
  have hs2 := hk2.size
  have HOR := Lib.hid (show O2 rb = 3 → False from fun e => by
    rcases F2.more rb (by omega) e with ⟨h1, _⟩ | h1
    · rw [HO.out] at h1; omega
    · have h2 : w1.drew.heap.size = w1.heap.size := rfl
      have := HR.out.lt; omega)
  clear hT2 hk2 F2 c0 c1 c2 HR HB1
  obtain ⟨va, vn, vc, rfl⟩ := Pn.sl (h2.row i v HV.out).1
  have r0 := hR2.cell (o := 0) rfl
  have r1 := hR2.cell (o := 1) rfl
  have s0 : w2.cell? ⟨s, 1 + i, none⟩ = some (.slice va vn vc) := by
    have := h2.blk.cell (o := i + 1) (v := .slice va vn vc) (by rw [List.getElem?_cons_succ]; exact HV.out)
    rw [Nat.add_comm 1 i]; exact this
  have H2 := Lib.hid h2
  have F2 := Lib.hid hk02
  have HS := Lib.hid (show base ≤ w2.heap.size by have : w1.drew.heap.size = w1.heap.size := rfl; omega)
  clear h2 hk02 hb1 hs2
  have hkd := (Kept.refl (fun _ => False) w2).drew
  have W := Lib.hid (Pn.without_any (A := A) (B := B) (id := id) (by have := ((H2.out.old hkd HS.out).row i _ HV.out).1; rw [HAB.out] at this; exact this) (by have := H2.out.asc i hi; rw [HAB.out] at this; exact this) (by rw [← HAB.out]; exact HL.out))
  have HR2 := Lib.hid hR2
  clear hkd hR2
  have hsr : rb ≠ s := fun e => by have h1 := H2.out.blk; rw [← e] at h1; exact absurd (h1.inj HR2.out).2 (by decide)
  have hO2 : ∀ g, (Value.slice va vn vc).ownBlock = some g → O2 g = 4 + i := (H2.out.row i _ HV.out).2
  have HO2 := Lib.hid hO2
  have hOr : O2 rb = 0 := by
    rcases Nat.eq_zero_or_pos (O2 rb) with h0 | h0
    · exact h0
    · exfalso
      by_cases e : O2 rb = 3
      · exact HOR.out e
      · have := (F2.out.same (O2 rb) (by omega) e rb).1 rfl
        rw [HO.out] at this; omega
  have HOr := Lib.hid hOr
  clear hO2 hOr
  have W2 : Hid (Calls Tryz.prog 47 #[.slice va vn vc, .int .u64 id] w2.drew fun e w4 => ∃ a n c, e = .returned (.slice a n c) ∧ w4.cell? ⟨rb, 0, none⟩ = some (.int .i64 (i : Int)) ∧ w4.cell? ⟨rb, 1, none⟩ = some (.int .u64 id) ∧
      w4.cell? ⟨s, 1 + i, none⟩ = some (.slice va vn vc) ∧ w4.frozen? ⟨s, 1 + i, none⟩ = false ∧ Ro.Apd Pn.nT w2.drew (.slice va vn vc) (A ++ B) (.slice a n c) w4) := by
    refine Lib.hid (W.out.mono ?_)
    rintro e w4 ⟨v', rfl, hA⟩
    obtain ⟨va', vn', vc', rfl⟩ := Pn.sl hA.row
    have hb4 := hA.kept.blk H2.out.blk.drew (fun e => by have := HO2.out s e; rw [H2.out.os] at this; omega)
    have hr4 := hA.kept.blk HR2.out.drew (fun e => by have := HO2.out rb e; rw [HOr.out] at this; omega)
    refine ⟨_, _, _, rfl, hr4.cell (o := 0) rfl, hr4.cell (o := 1) rfl, ?_, hb4.frozen _, hA⟩
    rw [Nat.add_comm 1 i]; exact hb4.cell (o := i + 1) (v := .slice va vn vc) (by rw [List.getElem?_cons_succ]; exact HV.out)
  clear W
  go_wp2_with fail
  go_region_with (first | (go_at_call 47; (with_reducible refine Calls.mono W2.out ?_); rintro e w4 ⟨va', vn', vc', rfl, q0, q1, s4, g4, hA⟩))
  all_goals
    have hkd := (Kept.refl (fun _ => False) w2).drew
    obtain ⟨O5, h5, f5⟩ := (H2.out.old hkd HS.out).put_row HS.out HV.out hA (by have := H2.out.asc i hi; rw [HAB.out] at this; exact List.Pairwise.sublist (List.Sublist.append_left (List.sublist_cons_self _ _) _) this)
    have P : Hid (TurnP w base O s tb most R I i (A ++ B) (.returned (.tuple #[])) (w4.setCell ⟨s, 1 + i, none⟩ (.slice va' vn' vc'))) :=
      Lib.hid ⟨rfl, O5, _, h5, ((F2.out.trans (Fr.old hkd)).mono (fun _ e => Or.inr (Or.inl e))).trans (f5.mono (fun j e => e.elim Or.inl (fun e => Or.inr (Or.inr e))))⟩
    clear hA h5 f5 W2 hkd
    go_wp2_with fail
    go_end0
    exact P.out
end Go.Proofs.YtjjamooihddkgaaGreat.Ph

/- A law's end where what is known of the world is that all that was there is as it was. Conditions: each theorem's own. -/
namespace Go.Proofs.YtjjamooihddkgaaGreat.End
open Go.RowKit Go.WideShapes Go.ChangeShapes Hp
/-- Nothing that was there has turned. -/
def Old (W W' : World) : Prop := Kept (fun _ => False) W W'
theorem Old.below {W W' : World} (h : Old W W') : Below W.heap.size W W' := ⟨h.os, h.tape, h.output, h.size, fun k hk => h.block k hk (fun f => f)⟩
theorem Old.refl (W : World) : Old W W := Kept.refl _ W
section
variable {H : Type} {enc : TypeId × Value → H} {P : Program} {f : Func} {s : ChangeSpec} {apart fresh handsOn again : Bool} {W W' : World} {args : Array Value} {v : Value} {ds gs : List (DataW H)} {pa pv : List MemPlace}
theorem post_of_old (hW : DataW.Whole enc P f.params.toList s.vars apart W args.toList ds gs (pa ++ pv))
    (hres : ∀ (b : Nat) (sp : Nat → Bool) (hd : Bool), DataW.TrodAll enc P W' b sp hd f.resultTypes.toList (v.resultList f.resultTypes.size) (s.fn H (ds ++ gs)).results [])
    (hargs : ∀ sp : Nat → Bool, (∀ p ∈ pa ++ pv, sp p.block = true) → DataW.TrodAll enc P W' 0 sp true f.params.toList args.toList (s.fn H (ds ++ gs)).args pa)
    (hvars : ∀ sp : Nat → Bool, (∀ p ∈ pa ++ pv, sp p.block = true) → DataW.TrodVars enc P W' sp s.vars (s.fn H (ds ++ gs)).vars pv)
    (hb : Old W W')
    (hok : ∀ (j : Nat) (t : TypeId) (r : Value), f.resultTypes[j]? = some t → (v.resultList f.resultTypes.size)[j]? = some r → Value.okWide P W' .any 0 t r) :
    s.post enc P f apart fresh handsOn again W args v W' := by
  have B := hb.below
  have old : ∀ p ∈ pa ++ pv, p.block < W.heap.size := fun p hp => hW.lt p hp
  have inOld : ∀ p ∈ pa ++ pv, (fun b => decide (b < W.heap.size)) p.block = true := fun p hp => by simp [old p hp]
  have all : ∀ p ∈ pa ++ pv, (fun _ : Nat => true) p.block = true := fun _ _ => rfl
  obtain ⟨_, _, _, _, _, hz, hn⟩ := id hW
  refine ⟨ds, gs, pa ++ pv, [], pa, pv, hW, hres _ _ _, hargs _ inOld, hvars _ inOld, World.keptBut_mono (fun p hp => ⟨hp, Or.inr (List.mem_append.1 hp)⟩) (B.frame _), fun _ => ⟨hok, _, _, [] ++ pa ++ pv, ⟨[] ++ pa, pv, trodAll_append (hargs _ all) (hres _ _ _), hvars _ all, rfl, ?_, ?_⟩, ?_⟩⟩
  · intro b off hp
    have hp' : MemPlace.cell b off ∈ pa ++ pv := by simpa using hp
    exact (B.frozen (p := ⟨b, off, none⟩) (old _ hp')).trans (hz b off hp')
  · intro ha; simpa using hn ha
  · intro p hp _; simpa using hp
end
end Go.Proofs.YtjjamooihddkgaaGreat.End

