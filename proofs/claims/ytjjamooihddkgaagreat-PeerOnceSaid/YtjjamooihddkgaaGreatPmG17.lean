/- Slots with open addressing: one is freed. Conditions: each theorem's own. -/
import Derived.Test.YtjjamooihddkgaaGreatPmG16
import Derived.Test.YtjjamooihddkgaaGreatPmG10
import Derived.Test.YtjjamooihddkgaaGreatPmG2
import Derived.Lib.SliceRun
import Derived.Deep.DrawnRows
import Derived.Deep.RegionHeld3
import Derived.LoopTactic
import Derived.Deep.LoopGhost
import Derived.Deep.RegionLaw
import Derived.Deep.CutBlock
import Derived.Deep.RegionWith
import Derived.Deep.DeepCutAuto
import Derived.WalkLawsBesides
import Derived.Test.YtjjamooihddkgaaGreatPmG9
import Derived.Test.YtjjamooihddkgaaGreatPmG12
set_option linter.unusedVariables false
set_option linter.unusedSimpArgs false
namespace Go.Proofs.YtjjamooihddkgaaGreat.TbO
open Go.RowKit Hp TbM TbN TbRO
open Ps (Ob)
attribute [local go_sem ↓] Go.wp_at_zero Go.wp_at_succ
theorem steps_any {n c i j : Nat} (h : Pow n) (hi : i < n) (hj : j < n) (a : Option Addr) (w : World) : Calls Tryz.prog 108 #[.slice a n c, .int .i64 i, .int .i64 j] w fun e w' => e = .returned (.int .i64 (dist n i j : Nat)) ∧ w = w' := by
  have hl := h.le
  have hb := and_i64 h ((j : Int) - (i : Int))
  rw [mod_dist hi hj] at hb
  have hm := dist_lt hi hj
  generalize dist n i j = m at *
  have e1 : IntKind.i64.wrap ((n : Int) - 1) = (n : Int) - 1 := by rw [IntKind.wrap_i64]; omega
  have e2 : IntKind.i64.wrap ((j : Int) - (i : Int)) = (j : Int) - (i : Int) := by rw [IntKind.wrap_i64]; omega
  clear h
  go_enter Tryz.func108, Tryz.ntmps108
  go_wp2_with fail
  go_ret
  exact ⟨rfl, rfl⟩
theorem run_bz (w : World) : (Instr.build 138 #[]).run Tryz.prog w = .ok (.agg #[.bool false, .int .i64 0, .int .u64 0, .int .u64 0, .int .i64 0, .slice none 0 0, .int .i64 0, .bool false]) w := by
  kernel_rfl
/-- What freeing leaves. -/
def EmptyP (S : List (Option (Ky × Ob))) (hole : Nat) (g : Nat) (T : TypeId) (w : World) (e : Ending) (w' : World) : Prop :=
  e = .returned (.tuple #[]) ∧ ∃ S', S'.length = S.length ∧ Path (homeF S.length) none_ S' ∧ (kvs S').Perm (kvs (S.set hole none)) ∧ Blk w' g (fl S') T ∧ Kept (fun j => j = g) w w'
/-- While one is freed. -/
structure Frees (S : List (Option (Ky × Ob))) (n hole0 f g : Nat) (T : TypeId) (w : World) (A : List (Option (Ky × Ob))) (hole i : Nat) (wr : World) : Prop where
  len : A.length = n
  inv : Freeing (homeF n) (A.set hole none) hole i f
  perm : (kvs (A.set hole none)).Perm (kvs (S.set hole0 none))
  blk : Blk wr g (fl A) T
  kept : Kept (fun j => j = g) w wr
theorem Frees.i_lt {S : List (Option (Ky × Ob))} {n hole0 f g : Nat} {T : TypeId} {w : World} {A : List (Option (Ky × Ob))} {hole i : Nat} {wr : World} (h : Frees S n hole0 f g T w A hole i wr) : i < n := by
  have := h.inv.i_lt; rw [List.length_set, h.len] at this; exact this
theorem Frees.hole_lt {S : List (Option (Ky × Ob))} {n hole0 f g : Nat} {T : TypeId} {w : World} {A : List (Option (Ky × Ob))} {hole i : Nat} {wr : World} (h : Frees S n hole0 f g T w A hole i wr) : hole < n := by
  have := h.inv.hole_lt; rw [List.length_set, h.len] at this; exact this
theorem Frees.same {S : List (Option (Ky × Ob))} {n hole0 f g : Nat} {T : TypeId} {w : World} {A : List (Option (Ky × Ob))} {hole i : Nat} {wr : World} (h : Frees S n hole0 f g T w A hole i wr) : (A.set hole none)[i]? = A[i]? :=
  List.getElem?_set_ne h.inv.apart.symm
theorem Frees.stay {S : List (Option (Ky × Ob))} {n hole0 f g : Nat} {T : TypeId} {w w' wr : World} {A : List (Option (Ky × Ob))} {hole i : Nat} (h : Frees S n hole0 f g T w A hole i wr) {k : Ky} {v : Ob} (hi : A[i]? = some (some (k, v))) (hs : dist n (homeF n k) i < dist n hole i) (hk : Kept (fun _ => False) wr w') :
    Frees S n hole0 f g T w A hole (nxt n i) w' ∧ dist n (nxt n i) f < dist n i f := by
  have hl : (A.set hole none).length = n := by rw [List.length_set, h.len]
  have h1 := h.inv.stay (by rw [h.same]; exact hi) (by rw [hl]; exact hs)
  have h2 := (h.inv.next (by rw [h.same]; exact hi)).2.1
  rw [hl] at h1 h2
  exact ⟨⟨h.len, h1, h.perm, hk.blk h.blk (fun f => f), h.kept.trans (hk.mono (fun _ _ f => f.elim))⟩, by omega⟩
theorem Frees.move {S : List (Option (Ky × Ob))} {n hole0 f g : Nat} {T : TypeId} {w w' wr : World} {A : List (Option (Ky × Ob))} {hole i : Nat} (h : Frees S n hole0 f g T w A hole i wr) (hn : 0 < n) {k : Ky} {v : Ob} (hi : A[i]? = some (some (k, v))) (hs : dist n hole i ≤ dist n (homeF n k) i) (hb : Blk w' g (fl (A.set hole (some (k, v)))) T) (hk : Kept (fun j => j = g) wr w') :
    Frees S n hole0 f g T w (A.set hole (some (k, v))) i (nxt n i) w' ∧ dist n (nxt n i) f < dist n i f := by
  have hl : (A.set hole none).length = n := by rw [List.length_set, h.len]
  have h1 := h.inv.move (fun k => by rw [hl]; exact home_lt hn k) (by rw [h.same]; exact hi) (by rw [hl]; exact hs)
  have h2 := (h.inv.next (by rw [h.same]; exact hi)).2.1
  have h3 := h.inv.same (by rw [h.same]; exact hi)
  rw [hl] at h1 h2
  rw [List.set_set] at h1 h3
  exact ⟨⟨by rw [List.length_set, h.len], h1, h3.trans h.perm, hb, h.kept.trans hk⟩, by omega⟩
set_option maxHeartbeats 8000000 in
theorem empty_any {w : World} {T : TypeId} {g : Nat} {S : List (Option (Ky × Ob))} (hB : Blk w g (fl S) T) (hn : Pow S.length) (hP : Path (homeF S.length) none_ S) {hole0 f : Nat} (hh : hole0 < S.length) (hf : (S.set hole0 none)[f]? = some none) (hne : f ≠ hole0) :
    Calls Tryz.prog 77 #[.slice (some ⟨g, 0, none⟩) S.length S.length, .int .i64 hole0] w (EmptyP S hole0 g T w) := by
  have h0 := hn.pos
  have hl := hn.le
  have FS := freeing_start hP hh hf hne
  obtain ⟨n, hnn⟩ : ∃ n, S.length = n := ⟨_, rfl⟩
  have HN := Lib.hid hnn
  rw [hnn] at h0 hl FS hn hh ⊢
  have F0 : Hid (Frees S n hole0 f g T w S hole0 (nxt n hole0) w) := Lib.hid ⟨hnn, FS, List.Perm.refl _, hB, Kept.refl _ w⟩
  have HO := Lib.hid fun k w => home_any (c := n) hn (some ⟨g, 0, none⟩) k w
  have AF := Lib.hid fun i (hi : i < n) w => after_any (c := n) hn hi (some ⟨g, 0, none⟩) w
  have ST := Lib.hid fun i j (hi : i < n) (hj : j < n) w => steps_any (c := n) hn hi hj (some ⟨g, 0, none⟩) w
  have HH := Lib.hid fun k => home_lt h0 k
  have A0 := Lib.hid (AF.out hole0 hh)
  have hbz := Lib.hid run_bz
  clear hB hP hf FS hnn hn
  go_enter Tryz.func77, Tryz.ntmps77
  go_wp2_with fail
  with_reducible refine Calls.mono (A0.out _) ?_
  rintro e w' ⟨rfl, rfl⟩
  go_wp2_with fail
  clear A0
  go_loopg [1, 4] (dist n (nxt n hole0) f) (fun mm s1 s4 wr => ∃ (A : List (Option (Ky × Ob))) (hole i : Nat), Hid (mm = dist n i f) ∧ s1 = .int .i64 ((hole : Nat) : Int) ∧ s4 = .int .i64 ((i : Nat) : Int) ∧ Hid (Frees S n hole0 f g T w A hole i wr))
  case atStart => exact ⟨S, hole0, nxt n hole0, Lib.hid rfl, rfl, rfl, F0⟩
  case round =>
    obtain ⟨A, hole, i, hm, rfl, rfl, hF⟩ := hrel
    have hi := hF.out.i_lt
    have hh' := hF.out.hole_lt
    clear hh
    have hh := hh'
    clear hh'
    have hil : i < A.length := by rw [hF.out.len]; exact hi
    obtain ⟨x, hx⟩ : ∃ x, A[i]? = some x := ⟨A[i], List.getElem?_eq_getElem hil⟩
    clear hil
    rcases x with _ | ⟨⟨k1, k2⟩, v⟩
    · obtain ⟨c0, c1, c2, c3, c4, c5, c6, c7⟩ := slot_cells hF.out.blk hx rfl
      have P : Hid (EmptyP S hole0 g T w (.returned (.tuple #[])) ((((((((wr.setCell ⟨g, hole * 8, none⟩ (.bool false)).setCell ⟨g, hole * 8 + 1, none⟩ (.int .i64 0)).setCell ⟨g, hole * 8 + 2, none⟩ (.int .u64 0)).setCell ⟨g, hole * 8 + 3, none⟩ (.int .u64 0)).setCell ⟨g, hole * 8 + 4, none⟩ (.int .i64 0)).setCell ⟨g, hole * 8 + 5, none⟩ (.slice none 0 0)).setCell ⟨g, hole * 8 + 6, none⟩ (.int .i64 0)).setCell ⟨g, hole * 8 + 7, none⟩ (.bool false))) := by
        have hl2 : (A.set hole none).length = n := by rw [List.length_set, hF.out.len]
        have hd := hF.out.inv.done (fun k => by rw [hl2]; exact HH.out k) (by rw [hF.out.same]; exact hx)
        exact Lib.hid ⟨rfl, A.set hole none, by rw [hl2, HN.out], by rw [HN.out]; exact hd, hF.out.perm, slot_set hF.out.blk (by rw [hF.out.len]; exact hh) _ rfl, hF.out.kept.trans (slot_kept wr g _ _ _ _ _ _ _ _ _)⟩
      have HX := Lib.hid hx
      obtain ⟨y, hy⟩ : ∃ y, A[hole]? = some y := ⟨A[hole]'(by rw [hF.out.len]; exact hh), List.getElem?_eq_getElem _⟩
      obtain ⟨a0, a1, a2, a3, a4, a5, a6, a7, hyc⟩ : ∃ a0 a1 a2 a3 a4 a5 a6 a7, sc y = [a0, a1, a2, a3, a4, a5, a6, a7] := by rcases y with _ | ⟨k, v⟩ <;> exact ⟨_, _, _, _, _, _, _, _, rfl⟩
      obtain ⟨q0, q1, q2, q3, q4, q5, q6, q7⟩ := slot_cells hF.out.blk hy hyc
      have f0 := hF.out.blk.frozen (hole * 8)
      have f1 := hF.out.blk.frozen (hole * 8 + 1)
      have f2 := hF.out.blk.frozen (hole * 8 + 2)
      have f3 := hF.out.blk.frozen (hole * 8 + 3)
      have f4 := hF.out.blk.frozen (hole * 8 + 4)
      have f5 := hF.out.blk.frozen (hole * 8 + 5)
      have f6 := hF.out.blk.frozen (hole * 8 + 6)
      have f7 := hF.out.blk.frozen (hole * 8 + 7)
      clear hx hy hyc
      go_upto_region 6 with ((with_reducible refine wpList_index_run rfl 125 _ _ rfl (v := .pointer (some ⟨g, i * 8, none⟩)) ?_ ?_); exact run_ix g n hi _)
      go_wp2_with (first | ((with_reducible refine wpList_build_run rfl 138 _ rfl (v := .agg #[.bool false, .int .i64 0, .int .u64 0, .int .u64 0, .int .i64 0, .slice none 0 0, .int .i64 0, .bool false]) ?_ ?_); (simp only [List.map_toArray, List.map_nil]; exact hbz.out _)) | ((with_reducible refine wpList_index_run rfl 125 _ _ rfl (v := .pointer (some ⟨g, hole * 8, none⟩)) ?_ ?_); exact run_ix g n hh _))
      go_end0
      exact P.out
    · obtain ⟨c0, c1, c2, c3, c4, c5, c6, c7⟩ := slot_cells hF.out.blk hx rfl
      have HX := Lib.hid hx
      clear hx
      have N0 := Lib.hid (AF.out i hi)
      have S1 := Lib.hid (ST.out (homeF n (k1, k2)) i (HH.out _) hi)
      have S2 := Lib.hid (ST.out hole i hh hi)
      have O1 := Lib.hid (HO.out (k1, k2))
      have hd1 := dist_lt (HH.out (k1, k2)) hi
      have hd2 := dist_lt hh hi
      have D1 := Lib.hid (show dist n (homeF n (k1, k2)) i = dist n (homeF n (k1, k2)) i from rfl)
      rcases Nat.lt_or_ge (dist n (homeF n (k1, k2)) i) (dist n hole i) with hs | hs
      · have G := Lib.hid (fun w' => hF.out.stay (w' := w') HX.out hs)
        go_wp2_with ((with_reducible refine wpList_index_run rfl 125 _ _ rfl (v := .pointer (some ⟨g, i * 8, none⟩)) ?_ ?_); exact run_ix g n hi _)
        with_reducible refine Calls.mono (O1.out _) ?_
        rintro e w1 ⟨rfl, hk1⟩
        have HK1 := Lib.hid hk1
        clear hk1
        go_wp2_with fail
        with_reducible refine Calls.mono (S1.out _) ?_
        rintro e w2 ⟨rfl, rfl⟩
        go_wp2_with fail
        with_reducible refine Calls.mono (S2.out _) ?_
        rintro e w2 ⟨rfl, rfl⟩
        go_wp2_with fail
        with_reducible refine Calls.mono (N0.out _) ?_
        rintro e w2 ⟨rfl, rfl⟩
        go_wp2_with fail
        have hG := G.out _ HK1.out
        go_roundg (dist n (nxt n i) f)
        case measure => have := hm.out; have := hG.2; omega
        case rel => exact ⟨A, hole, nxt n i, Lib.hid rfl, rfl, rfl, Lib.hid hG.1⟩
      · have hhl : hole < A.length := by rw [hF.out.len]; exact hh
        have G := Lib.hid (fun w1 w' (hk1 : Kept (fun _ => False) wr w1) hb hk => hF.out.move (w' := w') h0 HX.out hs hb ((hk1.mono (fun _ _ f => f.elim)).trans hk))
        obtain ⟨y, hy⟩ : ∃ y, A[hole]? = some y := ⟨A[hole]'hhl, List.getElem?_eq_getElem hhl⟩
        obtain ⟨a0, a1, a2, a3, a4, a5, a6, a7, hyc⟩ : ∃ a0 a1 a2 a3 a4 a5 a6 a7, sc y = [a0, a1, a2, a3, a4, a5, a6, a7] := by rcases y with _ | ⟨k, v⟩ <;> exact ⟨_, _, _, _, _, _, _, _, rfl⟩
        have HY := Lib.hid hy
        have HYC := Lib.hid hyc
        have HHL := Lib.hid hhl
        clear hy hyc hhl
        go_wp2_with ((with_reducible refine wpList_index_run rfl 125 _ _ rfl (v := .pointer (some ⟨g, i * 8, none⟩)) ?_ ?_); exact run_ix g n hi _)
        with_reducible refine Calls.mono (O1.out _) ?_
        rintro e w1 ⟨rfl, hk1⟩
        have HK1 := Lib.hid hk1
        have hB1 := hk1.blk hF.out.blk (fun f => f)
        have HB1 := Lib.hid hB1
        clear hk1 hB1
        go_wp2_with fail
        with_reducible refine Calls.mono (S1.out _) ?_
        rintro e w2 ⟨rfl, rfl⟩
        go_wp2_with fail
        with_reducible refine Calls.mono (S2.out _) ?_
        rintro e w2 ⟨rfl, rfl⟩
        clear c0 c1 c2 c3 c4 c5 c6 c7
        obtain ⟨c0, c1, c2, c3, c4, c5, c6, c7⟩ := slot_cells HB1.out HX.out rfl
        obtain ⟨q0, q1, q2, q3, q4, q5, q6, q7⟩ := slot_cells HB1.out HY.out HYC.out
        have f0 := HB1.out.frozen (hole * 8)
        have f1 := HB1.out.frozen (hole * 8 + 1)
        have f2 := HB1.out.frozen (hole * 8 + 2)
        have f3 := HB1.out.frozen (hole * 8 + 3)
        have f4 := HB1.out.frozen (hole * 8 + 4)
        have f5 := HB1.out.frozen (hole * 8 + 5)
        have f6 := HB1.out.frozen (hole * 8 + 6)
        have f7 := HB1.out.frozen (hole * 8 + 7)
        have hG := Lib.hid (G.out _ _ HK1.out (slot_set HB1.out HHL.out (some ((k1, k2), v)) rfl) (slot_kept w1 g hole _ _ _ _ _ _ _ _))
        clear G
        go_wp2_with ((with_reducible refine wpList_index_run rfl 125 _ _ rfl ?_ ?_); exact run_ix g n (by assumption) _)
        with_reducible refine Calls.mono (N0.out _) ?_
        rintro e w2 ⟨rfl, rfl⟩
        go_wp2_with fail
        go_roundg (dist n (nxt n i) f)
        case measure => have := hm.out; have := hG.out.2; omega
        case rel => exact ⟨_, i, nxt n i, Lib.hid rfl, rfl, rfl, Lib.hid hG.out.1⟩
end Go.Proofs.YtjjamooihddkgaaGreat.TbO

/- A table: Delete. Conditions: each theorem's own. -/
namespace Go.Proofs.YtjjamooihddkgaaGreat.TbO
open Go.RowKit Hp TbM TbN TbRO
open Ps (Ob)
attribute [local go_sem ↓] Go.wp_at_zero Go.wp_at_succ
theorem len_any {w : World} {base : Nat} {F : Nat → Prop} {b most : Nat} {m : List (Ky × Ob)} (h : TabV w base F b most m) : Calls Tryz.prog 40 #[.pointer (some ⟨b, 0, none⟩)] w fun e w' => e = .returned (.int .i64 (m.length : Nat)) ∧ w = w' := by
  obtain ⟨S, v, h⟩ := h
  have c1 := h.blk.cell (o := 1) rfl
  clear h
  go_enter Tryz.func40, Tryz.ntmps40
  go_wp2_with fail
  go_ret
  exact ⟨rfl, rfl⟩
theorem del_nil (k : Ky) (w : World) : Calls Tryz.prog 50 #[.pointer none, ky k] w fun e w' => e = .returned (.int .i64 5) ∧ Kept (fun _ => False) w w' := by
  have C := Lib.hid fun (w' : World) => tfind_nil k w'
  obtain ⟨k1, k2⟩ := k
  go_enter Tryz.func50, Tryz.ntmps50
  go_upto_region 1 with fail
  have hR := Blk.new w [.int .i64 k1, .int .u64 k2] 95
  have hk := (Kept.refl (fun _ => False) w).alloc (.cells [.int .i64 k1, .int .u64 k2].toArray 95)
  dsimp only [List.toArray] at hR hk
  have c0 := hR.cell (o := 0) rfl
  have c1 := hR.cell (o := 1) rfl
  have HK := Lib.hid hk
  clear hR hk
  generalize w.alloc (.cells #[.int .i64 k1, .int .u64 k2] 95) = w1 at *
  generalize w.heap.size = rb at *
  go_wp2_with fail
  with_reducible refine Calls.mono (C.out _) ?_
  rintro e w2 ⟨rfl, hk2⟩
  go_wp2_with fail
  go_ret
  exact ⟨rfl, HK.out.trans hk2⟩
set_option maxHeartbeats 4000000 in
theorem del_none {w : World} {base : Nat} {F : Nat → Prop} {b most : Nat} {m : List (Ky × Ob)} (h : TabV w base F b most m) {k : Ky} (hno : ∀ u, (k, u) ∉ m) :
    Calls Tryz.prog 50 #[.pointer (some ⟨b, 0, none⟩), ky k] w fun e w' => e = .returned (.int .i64 5) ∧ Kept (fun _ => False) w w' := by
  obtain ⟨S, v0, h⟩ := h
  have C := Lib.hid fun (w' : World) (hk : Kept (fun _ => False) w w') => tfind_miss (h.old hk) hno
  clear h hno
  obtain ⟨k1, k2⟩ := k
  go_enter Tryz.func50, Tryz.ntmps50
  go_upto_region 1 with fail
  have hR := Blk.new w [.int .i64 k1, .int .u64 k2] 95
  have hk := (Kept.refl (fun _ => False) w).alloc (.cells [.int .i64 k1, .int .u64 k2].toArray 95)
  dsimp only [List.toArray] at hR hk
  have c0 := hR.cell (o := 0) rfl
  have c1 := hR.cell (o := 1) rfl
  have HK := Lib.hid hk
  clear hR hk
  generalize w.alloc (.cells #[.int .i64 k1, .int .u64 k2] 95) = w1 at *
  generalize w.heap.size = rb at *
  go_wp2_with fail
  with_reducible refine Calls.mono (C.out _ HK.out) ?_
  rintro e w2 ⟨⟨i, rfl⟩, hk2⟩
  go_wp2_with fail
  go_ret
  exact ⟨rfl, HK.out.trans hk2⟩
/-- What Delete leaves. -/
def DelP (w : World) (base : Nat) (F : Nat → Prop) (b most : Nat) (R : List (Ky × Ob)) (e : Ending) (w' : World) : Prop :=
  e = .returned (.int .i64 0) ∧ TabV w' base (More F w w') b most R ∧ Kept F w w'
set_option maxRecDepth 100000 in
set_option maxHeartbeats 8000000 in
theorem del_hit {w : World} {base : Nat} {F : Nat → Prop} {b most : Nat} {m R : List (Ky × Ob)} (h : TabV w base F b most m) (hbase : base ≤ w.heap.size) {k : Ky} {u : Ob} (hm : m.Perm ((k, u) :: R)) :
    Calls Tryz.prog 50 #[.pointer (some ⟨b, 0, none⟩), ky k] w (DelP w base F b most R) := by
  obtain ⟨S, v0, h⟩ := h.perm hm
  obtain ⟨i, hi⟩ := mem_kvs.1 (h.perm.mem_iff.2 (List.mem_cons_self ..))
  obtain ⟨g, rfl, hB, hF⟩ : ∃ g, v0 = .slice (some ⟨g, 0, none⟩) S.length S.length ∧ Blk w g (fl S) 138 ∧ Fit S := by
    rcases h.lies with ⟨rfl, _⟩ | ⟨g, e, hB, hF⟩
    · simp at hi
    · exact ⟨g, e, hB, hF⟩
  have C := Lib.hid fun (w' : World) (hk : Kept (fun _ => False) w w') => tfind_hit (h.old hk) hi
  have hil := lt_of_some hi
  have hpr : (kvs (S.set i none)).Perm R := ((kvs_take hi).symm.trans h.perm).cons_inv
  have hrm := h.room
  rw [List.length_cons] at hrm
  obtain ⟨f, hfi, hf⟩ := free_but (S := S.set i none) (g := i) (List.getElem?_set_self hil) (by rw [hpr.length_eq, List.length_set]; omega)
  have E := Lib.hid fun (w' : World) (hk : Kept (fun _ => False) w w') => empty_any (hk.blk hB (fun f => f)) hF.pow hF.path hil hf hfi
  have HT := Lib.hid h.blk
  have HB := Lib.hid hB
  have HF := Lib.hid hF
  have H := Lib.hid h
  have HPR := Lib.hid hpr
  have hfew := h.few
  rw [List.length_cons] at hfew
  have hw : IntKind.i64.wrap (((((k, u) :: R).length : Nat) : Int) - 1) = ((R.length : Nat) : Int) := by rw [IntKind.wrap_i64, List.length_cons]; omega
  have hn0 : ((((k, u) :: R).length : Nat) : Int) = ((R.length : Nat) : Int) + 1 := by rw [List.length_cons]; omega
  rw [hn0] at HT hw
  obtain ⟨ml, hml⟩ : ∃ ml, ml = R.length := ⟨_, rfl⟩
  rw [← hml] at HT hfew hw hrm
  have HML := Lib.hid hml
  have HRM := Lib.hid hrm
  clear h hi hB hm hF hf hpr hn0 hml hrm
  obtain ⟨k1, k2⟩ := k
  go_enter Tryz.func50, Tryz.ntmps50
  go_upto_region 1 with fail
  have hR := Blk.new w [.int .i64 k1, .int .u64 k2] 95
  have hk := (Kept.refl (fun _ => False) w).alloc (.cells [.int .i64 k1, .int .u64 k2].toArray 95)
  dsimp only [List.toArray] at hR hk
  have c0 := hR.cell (o := 0) rfl
  have c1 := hR.cell (o := 1) rfl
  have HK := Lib.hid hk
  clear hR hk
  generalize w.alloc (.cells #[.int .i64 k1, .int .u64 k2] 95) = w1 at *
  obtain ⟨rb, hrb⟩ : ∃ rb, w.heap.size = rb := ⟨_, rfl⟩
  rw [hrb] at c0 c1 ⊢
  clear hrb
  go_wp2_with fail
  with_reducible refine Calls.mono (C.out _ HK.out) ?_
  rintro e w2 ⟨rfl, hk2⟩
  have HK2 := Lib.hid (HK.out.trans hk2)
  clear hk2 c0 c1 C
  have hT2 := HK2.out.blk HT.out (fun f => f)
  have hB2 := HK2.out.blk HB.out (fun f => f)
  have hgb : g ≠ b := fun e => by rw [e] at hB2; exact absurd (hB2.inj hT2).2 (by decide)
  have c2 := hT2.cell (o := 2) rfl
  have HT2 := Lib.hid hT2
  clear hB2 hT2
  go_wp2_with fail
  with_reducible refine Calls.mono (E.out _ HK2.out) ?_
  rintro e w3 hE
  obtain ⟨rfl, S1, hl1, hP1, hp1, hB3, hk3⟩ := id hE
  clear hE E c2
  have hT3 := hk3.blk HT2.out (fun e => hgb e.symm)
  have c1 := hT3.cell (o := 1) rfl
  have f1 := hT3.frozen 1
  have hm1 : IntKind.i64.wrap ((ml : Int) + 1 - 1) = (ml : Int) := hw
  have k03 : Kept F w w3 := (HK2.out.mono (fun _ _ f => f.elim)).trans' hk3 (fun j hj e => by have := H.out.fv g rfl; rw [e]; exact this)
  have HB3 := Lib.hid hB3
  have HT3 := Lib.hid hT3
  have K03 := Lib.hid k03
  have HP1 := Lib.hid hP1
  have HL1 := Lib.hid hl1
  have Hp1 := Lib.hid hp1
  clear hB3 hT3 k03 hP1 hl1 hp1 hk3 HT2
  go_upto_region 6 with fail
  have k34 := Kept.one w3 b 1 (.int .i64 (ml : Int))
  have hs4 : (w3.setCell ⟨b, 1, none⟩ (.int .i64 (ml : Int))).heap.size = w3.heap.size := by simp
  have hT4 := HT3.out.set 1 (.int .i64 (ml : Int))
  change Blk _ b [.int .i64 most, .int .i64 (ml : Int), .slice (some ⟨g, 0, none⟩) S.length S.length] _ at hT4
  have hB4 := k34.blk HB3.out hgb
  have k04 := K03.out.trans' k34 (fun j hj e => e ▸ H.out.fb)
  generalize w3.setCell ⟨b, 1, none⟩ (.int .i64 (ml : Int)) = w4 at *
  have hF1 : Fit S1 := ⟨by rw [HL1.out]; exact HF.out.pow, by rw [HL1.out]; exact HF.out.least, by rw [HL1.out]; exact HP1.out⟩
  have hp1R : (kvs S1).Perm R := Hp1.out.trans HPR.out
  have hndR : (R.map Prod.fst).Nodup := by have := H.out.keys; rw [List.map_cons, List.nodup_cons] at this; exact this.2
  have R0 := Lib.hid fun (w' : World) (hk : Kept (fun _ => False) w4 w') => (room_any (v := .slice (some ⟨g, 0, none⟩) S.length S.length) (S := S1) (Or.inr ⟨g, by rw [HL1.out], hk.blk hB4 (fun f => f)⟩) (Or.inr hF1) ((hp1R.map _).nodup_iff.2 hndR) (c := ml) (by omega) (by rw [hp1R.length_eq, ← HML.out]; omega) (by have := HRM.out; have := HL1.out; omega) (Or.inr hF1)).mono fun _ _ h => RoomP.opened h
  have HT4 := Lib.hid hT4
  have K04 := Lib.hid k04
  have HP1R := Lib.hid hp1R
  have HNDR := Lib.hid hndR
  have HS4 := Lib.hid hs4
  clear c1 f1 k34 hT4 hB4 k04 hF1 hp1R hndR hs4 HT3 HB3
  have t1 := HT4.out.cell (o := 1) rfl
  have t2 := HT4.out.cell (o := 2) rfl
  go_region_with (first | (go_at_call 72; (with_reducible refine Calls.mono (R0.out _ (Kept.refl _ w4).drew) ?_); rintro e w5 ⟨g2, S2, rfl, hB5, hF5, hc5, hp5, ho5, hk5⟩; have q2 := (hk5.blk HT4.out.drew (fun f => f)).cell (o := 2) rfl; have f2 := (hk5.blk HT4.out.drew (fun f => f)).frozen 2))
  all_goals
    have hT5 := hk5.blk HT4.out.drew (fun f => f)
    have hgb2 : g2 ≠ b := fun e => by rw [e] at hB5; exact absurd (hB5.inj hT5).2 (by decide)
    have P : Hid (DelP w base F b most R (.returned (.int .i64 0)) (w5.setCell ⟨b, 2, none⟩ (.slice (some ⟨g2, 0, none⟩) S2.length S2.length))) := by
      have k56 := Kept.one w5 b 2 (.slice (some ⟨g2, 0, none⟩) S2.length S2.length)
      have hT6 := hT5.set 2 (.slice (some ⟨g2, 0, none⟩) S2.length S2.length)
      have hB6 := k56.blk hB5 hgb2
      have hs6 : (w5.setCell ⟨b, 2, none⟩ (.slice (some ⟨g2, 0, none⟩) S2.length S2.length)).heap.size = w5.heap.size := by simp
      have hgF : F g2 ∨ w.heap.size ≤ g2 ∧ g2 < w5.heap.size := by
        rcases ho5 with e | ⟨e1, e2⟩
        · exact Or.inl (H.out.fv g2 e)
        · have h1 := K04.out.size
          have h2 : w4.drew.heap.size = w4.heap.size := rfl
          rw [h2] at e1
          exact Or.inr ⟨by omega, e2⟩
      have h2 : w4.drew.heap.size = w4.heap.size := rfl
      have h3 := hk5.size
      have h4 := K04.out.size
      change Blk _ b [.int .i64 most, .int .i64 (ml : Int), .slice (some ⟨g2, 0, none⟩) S2.length S2.length] _ at hT6
      generalize w5.setCell ⟨b, 2, none⟩ (.slice (some ⟨g2, 0, none⟩) S2.length S2.length) = w6 at *
      refine Lib.hid ⟨rfl, ⟨S2, _, ⟨by rw [← HML.out]; exact hT6, Or.inr ⟨g2, rfl, hB6, hF5⟩, by rw [← HML.out]; exact hc5, hp5.trans HP1R.out, HNDR.out, Or.inl H.out.fb, ?_, ?_, by rw [← HML.out]; omega, H.out.most1⟩⟩, ?_⟩
      · intro g' e
        have : g2 = g' := Option.some.inj e
        subst this
        rcases hgF with h | ⟨h1, h2⟩
        · exact Or.inl h
        · exact Or.inr ⟨h1, by omega⟩
      · rintro i (h | h)
        · have := H.out.own i h; exact ⟨this.1, by rw [hs6]; rw [h2] at h3; omega⟩
        · exact ⟨Nat.le_trans hbase h.1, h.2⟩
      · exact ((K04.out.trans (((Kept.refl (fun _ => False) w4).drew.trans hk5).mono (fun _ _ f => f.elim)))).trans' k56 (fun i hi e => e ▸ H.out.fb)
    clear hB5 hF5 hc5 hp5 ho5 hk5 hT5
    go_wp2_with fail
    go_ret
    exact P.out
end Go.Proofs.YtjjamooihddkgaaGreat.TbO

/- A table: Set. Conditions: each theorem's own. -/
namespace Go.Proofs.YtjjamooihddkgaaGreat.TbO
open Go.RowKit Hp TbM TbN TbRO
open Ps (Ob)
attribute [local go_sem ↓] Go.wp_at_zero Go.wp_at_succ
theorem set_nil (k : Ky) (v : Ob) (w : World) : Calls Tryz.prog 48 #[.pointer none, ky k, ev v] w fun e w' => e = .returned (.int .i64 5) ∧ Kept (fun _ => False) w w' := by
  have C := Lib.hid fun (w' : World) => tfind_nil k w'
  obtain ⟨k1, k2⟩ := k
  go_enter Tryz.func48, Tryz.ntmps48
  go_upto_region 1 with fail
  have hR := (Blk.new w [.int .i64 k1, .int .u64 k2] 95).old (.cells (oc v).toArray 45)
  have hV := Blk.new (w.alloc (.cells [.int .i64 k1, .int .u64 k2].toArray 95)) (oc v) 45
  rw [World.size_alloc] at hV
  have hk := ((Kept.refl (fun _ => False) w).alloc (.cells [.int .i64 k1, .int .u64 k2].toArray 95)).alloc (.cells (oc v).toArray 45)
  dsimp only [List.toArray, oc] at hR hV hk
  have c0 := hR.cell (o := 0) rfl
  have c1 := hR.cell (o := 1) rfl
  have HK := Lib.hid hk
  clear hR hV hk
  generalize (w.alloc (.cells #[.int .i64 k1, .int .u64 k2] 95)).alloc (.cells #[.int .u64 (v.id : Int), .int .i64 v.dst, .slice v.s v.d.length v.c, .int .i64 v.st, .bool (v.st == 2)] 45) = w1 at *
  generalize w.heap.size = rb at *
  go_wp2_with fail
  with_reducible refine Calls.mono (C.out _) ?_
  rintro e w2 ⟨rfl, hk2⟩
  go_wp2_with fail
  go_ret
  exact ⟨rfl, HK.out.trans hk2⟩
set_option maxHeartbeats 4000000 in
theorem set_none {w : World} {base : Nat} {F : Nat → Prop} {b most : Nat} {m : List (Ky × Ob)} (h : TabV w base F b most m) {k : Ky} (hno : ∀ u, (k, u) ∉ m) (v : Ob) :
    Calls Tryz.prog 48 #[.pointer (some ⟨b, 0, none⟩), ky k, ev v] w fun e w' => e = .returned (.int .i64 5) ∧ Kept (fun _ => False) w w' := by
  obtain ⟨S, v0, h⟩ := h
  have C := Lib.hid fun (w' : World) (hk : Kept (fun _ => False) w w') => tfind_miss (h.old hk) hno
  clear h hno
  obtain ⟨k1, k2⟩ := k
  go_enter Tryz.func48, Tryz.ntmps48
  go_upto_region 1 with fail
  have hR := (Blk.new w [.int .i64 k1, .int .u64 k2] 95).old (.cells (oc v).toArray 45)
  have hV := Blk.new (w.alloc (.cells [.int .i64 k1, .int .u64 k2].toArray 95)) (oc v) 45
  rw [World.size_alloc] at hV
  have hk := ((Kept.refl (fun _ => False) w).alloc (.cells [.int .i64 k1, .int .u64 k2].toArray 95)).alloc (.cells (oc v).toArray 45)
  dsimp only [List.toArray, oc] at hR hV hk
  have c0 := hR.cell (o := 0) rfl
  have c1 := hR.cell (o := 1) rfl
  have HK := Lib.hid hk
  clear hR hV hk
  generalize (w.alloc (.cells #[.int .i64 k1, .int .u64 k2] 95)).alloc (.cells #[.int .u64 (v.id : Int), .int .i64 v.dst, .slice v.s v.d.length v.c, .int .i64 v.st, .bool (v.st == 2)] 45) = w1 at *
  generalize w.heap.size = rb at *
  go_wp2_with fail
  with_reducible refine Calls.mono (C.out _ HK.out) ?_
  rintro e w2 ⟨⟨i, rfl⟩, hk2⟩
  go_wp2_with fail
  go_ret
  exact ⟨rfl, HK.out.trans hk2⟩
theorem set_same {L : List Value} {i : Nat} {a : Value} (h : L[i]? = some a) : L.set i a = L := by
  apply List.ext_getElem?
  intro t
  rw [List.getElem?_set]
  split
  · rename_i e; subst e; rw [h]; have := lt_of_some h; simp [this]
  · rfl
theorem slot_put {w : World} {T : TypeId} {g : Nat} {S : List (Option (Ky × Ob))} (h : Blk w g (fl S) T) {i : Nat} {k : Ky} {u : Ob} (hi : S[i]? = some (some (k, u))) (v : Ob) :
    Blk (((((w.setCell ⟨g, i * 8 + 3, none⟩ (.int .u64 (v.id : Int))).setCell ⟨g, i * 8 + 4, none⟩ (.int .i64 v.dst)).setCell ⟨g, i * 8 + 5, none⟩ (.slice v.s v.d.length v.c)).setCell ⟨g, i * 8 + 6, none⟩ (.int .i64 v.st)).setCell ⟨g, i * 8 + 7, none⟩ (.bool (v.st == 2))) g (fl (S.set i (some (k, v)))) T := by
  have hl := lt_of_some hi
  have e : fl (S.set i (some (k, v))) = ((((((fl S).set (i * 8 + 3) (.int .u64 (v.id : Int))).set (i * 8 + 4) (.int .i64 v.dst)).set (i * 8 + 5) (.slice v.s v.d.length v.c)).set (i * 8 + 6) (.int .i64 v.st)).set (i * 8 + 7) (.bool (v.st == 2))) := by
    show flat _ = _
    rw [flat_set hl (some (k, v)) rfl]
    rw [set_same (i := i * 8) (a := .bool true) (flat_at hi (j := 0) (by decide)), set_same (flat_at hi (j := 1) (by decide)), set_same (flat_at hi (j := 2) (by decide))]
  rw [e]
  exact ((((h.set _ _).set _ _).set _ _).set _ _).set _ _
theorem slot_put_kept (w : World) (g i : Nat) (v : Ob) : Kept (fun k => k = g) w (((((w.setCell ⟨g, i * 8 + 3, none⟩ (.int .u64 (v.id : Int))).setCell ⟨g, i * 8 + 4, none⟩ (.int .i64 v.dst)).setCell ⟨g, i * 8 + 5, none⟩ (.slice v.s v.d.length v.c)).setCell ⟨g, i * 8 + 6, none⟩ (.int .i64 v.st)).setCell ⟨g, i * 8 + 7, none⟩ (.bool (v.st == 2))) :=
  (((((Kept.refl (fun k => k = g) w).set (b := g) (fun _ => rfl) _ _).set (b := g) (fun _ => rfl) _ _).set (b := g) (fun _ => rfl) _ _).set (b := g) (fun _ => rfl) _ _).set (b := g) (fun _ => rfl) _ _
theorem path_over {H : Ky → Nat} {S : List (Option (Ky × Ob))} (hP : Path H none_ S) {i : Nat} {k : Ky} {u v : Ob} (hi : S[i]? = some (some (k, u))) : Path H none_ (S.set i (some (k, v))) := by
  have hl := lt_of_some hi
  have up : ∀ p, Filled S p → Filled (S.set i (some (k, v))) p := by
    rintro p ⟨x, hx⟩
    by_cases e : i = p
    · subst e; exact ⟨_, List.getElem?_set_self hl⟩
    · exact ⟨x, by rw [List.getElem?_set_ne e]; exact hx⟩
  intro j k' u' hj d hd
  rw [List.length_set] at hd ⊢
  by_cases e : i = j
  · subst e
    rw [List.getElem?_set_self hl] at hj
    cases hj
    rcases hP i k u hi d hd with h | h
    · exact Or.inl (up _ h)
    · exact Or.inr h
  · rw [List.getElem?_set_ne e] at hj
    rcases hP j k' u' hj d hd with h | h
    · exact Or.inl (up _ h)
    · exact Or.inr h
/-- What Set leaves. -/
def SetP (w : World) (base : Nat) (F : Nat → Prop) (b most : Nat) (R : List (Ky × Ob)) (k : Ky) (v : Ob) (e : Ending) (w' : World) : Prop :=
  e = .returned (.int .i64 0) ∧ TabV w' base F b most ((k, v) :: R) ∧ Kept F w w'
set_option maxRecDepth 100000 in
set_option maxHeartbeats 4000000 in
theorem set_hit {w : World} {base : Nat} {F : Nat → Prop} {b most : Nat} {m R : List (Ky × Ob)} (h : TabV w base F b most m) {k : Ky} {u : Ob} (hm : m.Perm ((k, u) :: R)) (v : Ob) :
    Calls Tryz.prog 48 #[.pointer (some ⟨b, 0, none⟩), ky k, ev v] w (SetP w base F b most R k v) := by
  obtain ⟨S, v0, h⟩ := h.perm hm
  obtain ⟨i, hi⟩ := mem_kvs.1 (h.perm.mem_iff.2 (List.mem_cons_self ..))
  obtain ⟨g, rfl, hB, hF⟩ : ∃ g, v0 = .slice (some ⟨g, 0, none⟩) S.length S.length ∧ Blk w g (fl S) 138 ∧ Fit S := by
    rcases h.lies with ⟨rfl, _⟩ | ⟨g, e, hB, hF⟩
    · simp at hi
    · exact ⟨g, e, hB, hF⟩
  have C := Lib.hid fun (w' : World) (hk : Kept (fun _ => False) w w') => tfind_hit (h.old hk) hi
  have HT := Lib.hid h.blk
  have HB := Lib.hid hB
  have HI := Lib.hid hi
  have HF := Lib.hid hF
  have H := Lib.hid h
  have hil := lt_of_some hi
  clear h hi hB hm hF
  obtain ⟨k1, k2⟩ := k
  go_enter Tryz.func48, Tryz.ntmps48
  go_upto_region 1 with fail
  have hR := (Blk.new w [.int .i64 k1, .int .u64 k2] 95).old (.cells (oc v).toArray 45)
  have hV := Blk.new (w.alloc (.cells [.int .i64 k1, .int .u64 k2].toArray 95)) (oc v) 45
  rw [World.size_alloc] at hV
  have hk := ((Kept.refl (fun _ => False) w).alloc (.cells [.int .i64 k1, .int .u64 k2].toArray 95)).alloc (.cells (oc v).toArray 45)
  dsimp only [List.toArray, oc] at hR hV hk
  have c0 := hR.cell (o := 0) rfl
  have c1 := hR.cell (o := 1) rfl
  have HV := Lib.hid hV
  have HK := Lib.hid hk
  clear hR hV hk
  generalize (w.alloc (.cells #[.int .i64 k1, .int .u64 k2] 95)).alloc (.cells #[.int .u64 (v.id : Int), .int .i64 v.dst, .slice v.s v.d.length v.c, .int .i64 v.st, .bool (v.st == 2)] 45) = w1 at *
  generalize w.heap.size = rb at *
  go_wp2_with fail
  with_reducible refine Calls.mono (C.out _ HK.out) ?_
  rintro e w2 ⟨rfl, hk2⟩
  have hV2 := hk2.blk HV.out (fun f => f)
  have s0 := hV2.cell (o := 0) rfl
  have s1 := hV2.cell (o := 1) rfl
  have s2 := hV2.cell (o := 2) rfl
  have s3 := hV2.cell (o := 3) rfl
  have s4 := hV2.cell (o := 4) rfl
  have c2 := ((HK.out.trans hk2).blk HT.out (fun f => f)).cell (o := 2) rfl
  clear hV2 c0 c1
  go_wp2_with fail
  go_still_tail 6, (by kernel_rfl)
  change wpList _ _ _ _ _ w2.drew
  clear s0 s1 s2 s3 s4 c2
  have hk3 := hk2.drew
  clear hk2
  generalize w2.drew = w3 at *
  have HK2 := Lib.hid (HK.out.trans hk3)
  clear hk3 C
  have hT2 := HK2.out.blk HT.out (fun f => f)
  have hB2 := HK2.out.blk HB.out (fun f => f)
  obtain ⟨q0, q1, q2, q3, q4, q5, q6, q7⟩ := slot_cells hB2 HI.out rfl
  have f3 := hB2.frozen (i * 8 + 3)
  have f4 := hB2.frozen (i * 8 + 4)
  have f5 := hB2.frozen (i * 8 + 5)
  have f6 := hB2.frozen (i * 8 + 6)
  have f7 := hB2.frozen (i * 8 + 7)
  have P : Hid (SetP w base F b most R (k1, k2) v (.returned (.int .i64 0)) (((((w3.setCell ⟨g, i * 8 + 3, none⟩ (.int .u64 (v.id : Int))).setCell ⟨g, i * 8 + 4, none⟩ (.int .i64 v.dst)).setCell ⟨g, i * 8 + 5, none⟩ (.slice v.s v.d.length v.c)).setCell ⟨g, i * 8 + 6, none⟩ (.int .i64 v.st)).setCell ⟨g, i * 8 + 7, none⟩ (.bool (v.st == 2)))) := by
    have hgb : b ≠ g := fun e => by rw [e] at hT2; exact absurd (hT2.inj hB2).2 (by decide)
    have k34 := slot_put_kept w3 g i v
    have hgF := H.out.fv g rfl
    have hB3 := slot_put hB2 HI.out v
    have hT3 := k34.blk hT2 hgb
    have hs3 : (((((w3.setCell ⟨g, i * 8 + 3, none⟩ (.int .u64 (v.id : Int))).setCell ⟨g, i * 8 + 4, none⟩ (.int .i64 v.dst)).setCell ⟨g, i * 8 + 5, none⟩ (.slice v.s v.d.length v.c)).setCell ⟨g, i * 8 + 6, none⟩ (.int .i64 v.st)).setCell ⟨g, i * 8 + 7, none⟩ (.bool (v.st == 2))).heap.size = w3.heap.size := by simp
    generalize (((((w3.setCell ⟨g, i * 8 + 3, none⟩ (.int .u64 (v.id : Int))).setCell ⟨g, i * 8 + 4, none⟩ (.int .i64 v.dst)).setCell ⟨g, i * 8 + 5, none⟩ (.slice v.s v.d.length v.c)).setCell ⟨g, i * 8 + 6, none⟩ (.int .i64 v.st)).setCell ⟨g, i * 8 + 7, none⟩ (.bool (v.st == 2))) = w4 at *
    have hl : (S.set i (some ((k1, k2), v))).length = S.length := List.length_set
    have hpp : (kvs (S.set i (some ((k1, k2), v)))).Perm (((k1, k2), v) :: kvs (S.set i none)) := by
      have := kvs_put (S := S.set i none) (i := i) (x := ((k1, k2), v)) (List.getElem?_set_self hil)
      rwa [List.set_set] at this
    have hpr : (kvs (S.set i none)).Perm R := ((kvs_take HI.out).symm.trans H.out.perm).cons_inv
    refine Lib.hid ⟨rfl, ⟨S.set i (some ((k1, k2), v)), .slice (some ⟨g, 0, none⟩) S.length S.length, ⟨?_, Or.inr ⟨g, by rw [hl], hB3, ⟨by rw [hl]; exact HF.out.pow, by rw [hl]; exact HF.out.least, by rw [hl]; exact path_over HF.out.path HI.out⟩⟩, ?_, hpp.trans (hpr.cons _), ?_, H.out.fb, H.out.fv, ?_, ?_, H.out.most1⟩⟩, ?_⟩
    · rw [show (((k1, k2), v) :: R).length = (((k1, k2), u) :: R).length from rfl]; exact hT3
    · rw [hl]; exact H.out.room
    · have := H.out.keys; rwa [List.map_cons] at this ⊢
    · intro j hj; have := H.out.own j hj; have := HK2.out.size; omega
    · exact H.out.few
    · exact (HK2.out.mono (fun _ _ f => f.elim)).trans' k34 (fun j hj e => e ▸ hgF)
  clear hT2 hB2
  go_wp2_with ((with_reducible refine wpList_index_run rfl 125 _ _ rfl ?_ ?_); exact run_ix g S.length (by assumption) _)
  go_ret
  exact P.out
end Go.Proofs.YtjjamooihddkgaaGreat.TbO

/- A table beside all that was there ahead of it: what each call leaves. Conditions: each theorem's own. -/
namespace Go.Proofs.YtjjamooihddkgaaGreat.TbO
open Go.RowKit Hp TbM TbN TbRO
open Ps (Ob)
/-- A table of the things m, made since w, its blocks are F; all of w is as it was. -/
def St (w : World) (b most : Nat) (m : List (Ky × Ob)) (F : Nat → Prop) (wr : World) : Prop := Kept (fun _ => False) w wr ∧ TabV wr w.heap.size F b most m
/-- What a call that turns the table leaves of all else. -/
def Next (F : Nat → Prop) (wr : World) (F' : Nat → Prop) (w' : World) : Prop := Kept F wr w' ∧ ∀ i, F' i → F i ∨ wr.heap.size ≤ i
/-- A block that is none of the table's. -/
def Off (F : Nat → Prop) (w : World) (x : Nat) (c : List Value) (T : TypeId) : Prop := Blk w x c T ∧ ¬ F x
theorem Off.next {F F' : Nat → Prop} {wr w' : World} {x : Nat} {c : List Value} {T : TypeId} (h : Off F wr x c T) (n : Next F wr F' w') : Off F' w' x c T :=
  ⟨n.1.blk h.1 h.2, fun e => (n.2 x e).elim h.2 (fun h2 => by have := h.1.lt; omega)⟩
theorem Off.old {F : Nat → Prop} {wr w' : World} {x : Nat} {c : List Value} {T : TypeId} (h : Off F wr x c T) (k : Kept (fun _ => False) wr w') : Off F w' x c T := ⟨k.blk h.1 (fun f => f), h.2⟩
theorem St.off_new {w wr : World} {b most : Nat} {m : List (Ky × Ob)} {F : Nat → Prop} (h : St w b most m F wr) (c : List Value) (T : TypeId) : Off F (wr.alloc (.cells c.toArray T)) wr.heap.size c T := by
  refine ⟨Blk.new wr c T, fun e => ?_⟩
  obtain ⟨_, _, _, h⟩ := h
  have := (h.own _ e).2
  omega
theorem St.old {w wr w' : World} {b most : Nat} {m : List (Ky × Ob)} {F : Nat → Prop} (h : St w b most m F wr) (k : Kept (fun _ => False) wr w') : St w b most m F w' := ⟨h.1.trans k, h.2.old k⟩
theorem St.perm {w wr : World} {b most : Nat} {m m' : List (Ky × Ob)} {F : Nat → Prop} (h : St w b most m F wr) (p : m.Perm m') : St w b most m' F wr := ⟨h.1, h.2.perm p⟩
theorem St.keys {w wr : World} {b most : Nat} {m : List (Ky × Ob)} {F : Nat → Prop} (h : St w b most m F wr) : (m.map Prod.fst).Nodup := by obtain ⟨_, _, _, h⟩ := h; exact h.keys
theorem St.few {w wr : World} {b most : Nat} {m : List (Ky × Ob)} {F : Nat → Prop} (h : St w b most m F wr) : m.length ≤ 20000 := by obtain ⟨_, _, _, h⟩ := h; exact h.few
theorem St.far {w wr : World} {b most : Nat} {m : List (Ky × Ob)} {F : Nat → Prop} (h : St w b most m F wr) : ∀ i, i < w.heap.size → F i → False := by
  obtain ⟨_, _, _, h⟩ := h
  intro i hi e
  have := h.own i e
  omega
theorem new_st {most : Nat} (h0 : 1 ≤ most) (h1 : most ≤ 100000) (w : World) : Calls Tryz.prog 37 #[.int .i64 most] w fun e w' => ∃ b F, e = .returned (.tuple #[.pointer (some ⟨b, 0, none⟩), .int .i64 0]) ∧ St w b most [] F w' :=
  (new_yes h0 h1 w).mono fun e w' ⟨b, h1, h2, h3⟩ => ⟨b, _, h1, h3, h2⟩
theorem put_st {w wr : World} {b most : Nat} {m : List (Ky × Ob)} {F : Nat → Prop} (h : St w b most m F wr) {k : Ky} (hno : ∀ u, (k, u) ∉ m) (hm : m.length < most) (hfew : m.length < 20000) (v : Ob) :
    Calls Tryz.prog 44 #[.pointer (some ⟨b, 0, none⟩), ky k, ev v] wr fun e w' => e = .returned (.int .i64 0) ∧ ∃ F', St w b most ((k, v) :: m) F' w' ∧ Next F wr F' w' :=
  (put_new h.2 h.1.size hno hm hfew v).mono fun e w' ⟨h1, h2, h3⟩ => ⟨h1, _, ⟨h.1.trans' h3 h.far, h2⟩, h3, fun i hi => hi.imp id (fun h => h.1)⟩
theorem full_st {w wr : World} {b most : Nat} {m : List (Ky × Ob)} {F : Nat → Prop} (h : St w b most m F wr) {k : Ky} (hno : ∀ u, (k, u) ∉ m) (hm : most ≤ m.length) (v : Ob) :
    Calls Tryz.prog 44 #[.pointer (some ⟨b, 0, none⟩), ky k, ev v] wr fun e w' => e = .returned (.int .i64 4) ∧ Kept (fun _ => False) wr w' :=
  put_full h.2 hno hm v
theorem there_st {w wr : World} {b most : Nat} {m : List (Ky × Ob)} {F : Nat → Prop} (h : St w b most m F wr) {k : Ky} {u : Ob} (hm : (k, u) ∈ m) (v : Ob) :
    Calls Tryz.prog 44 #[.pointer (some ⟨b, 0, none⟩), ky k, ev v] wr fun e w' => e = .returned (.int .i64 6) ∧ Kept (fun _ => False) wr w' :=
  put_there h.2 hm v
theorem get_st {w wr : World} {b most : Nat} {m : List (Ky × Ob)} {F : Nat → Prop} (h : St w b most m F wr) {k : Ky} {u : Ob} (hm : (k, u) ∈ m) :
    Calls Tryz.prog 74 #[.pointer (some ⟨b, 0, none⟩), ky k] wr fun e w' => e = .returned (.tuple #[ev u, .bool true]) ∧ Kept (fun _ => False) wr w' :=
  get_hit h.2 hm
theorem got_st {w wr : World} {b most : Nat} {m : List (Ky × Ob)} {F : Nat → Prop} (h : St w b most m F wr) {k : Ky} (hno : ∀ u, (k, u) ∉ m) :
    Calls Tryz.prog 74 #[.pointer (some ⟨b, 0, none⟩), ky k] wr fun e w' => e = .returned (.tuple #[zv, .bool false]) ∧ Kept (fun _ => False) wr w' :=
  get_miss h.2 hno
theorem len_st {w wr : World} {b most : Nat} {m : List (Ky × Ob)} {F : Nat → Prop} (h : St w b most m F wr) :
    Calls Tryz.prog 40 #[.pointer (some ⟨b, 0, none⟩)] wr fun e w' => e = .returned (.int .i64 (m.length : Nat)) ∧ wr = w' :=
  len_any h.2
theorem del_st {w wr : World} {b most : Nat} {m : List (Ky × Ob)} {F : Nat → Prop} (h : St w b most m F wr) {R : List (Ky × Ob)} {k : Ky} {u : Ob} (hm : m.Perm ((k, u) :: R)) :
    Calls Tryz.prog 50 #[.pointer (some ⟨b, 0, none⟩), ky k] wr fun e w' => e = .returned (.int .i64 0) ∧ ∃ F', St w b most R F' w' ∧ Next F wr F' w' :=
  (del_hit h.2 h.1.size hm).mono fun e w' ⟨h1, h2, h3⟩ => ⟨h1, _, ⟨h.1.trans' h3 h.far, h2⟩, h3, fun i hi => hi.imp id (fun h => h.1)⟩
theorem gone_st {w wr : World} {b most : Nat} {m : List (Ky × Ob)} {F : Nat → Prop} (h : St w b most m F wr) {k : Ky} (hno : ∀ u, (k, u) ∉ m) :
    Calls Tryz.prog 50 #[.pointer (some ⟨b, 0, none⟩), ky k] wr fun e w' => e = .returned (.int .i64 5) ∧ Kept (fun _ => False) wr w' :=
  del_none h.2 hno
theorem set_st {w wr : World} {b most : Nat} {m : List (Ky × Ob)} {F : Nat → Prop} (h : St w b most m F wr) {R : List (Ky × Ob)} {k : Ky} {u : Ob} (hm : m.Perm ((k, u) :: R)) (v : Ob) :
    Calls Tryz.prog 48 #[.pointer (some ⟨b, 0, none⟩), ky k, ev v] wr fun e w' => e = .returned (.int .i64 0) ∧ ∃ F', St w b most ((k, v) :: R) F' w' ∧ Next F wr F' w' :=
  (set_hit h.2 hm v).mono fun e w' ⟨h1, h2, h3⟩ => ⟨h1, F, ⟨h.1.trans' h3 h.far, h2⟩, h3, fun i hi => Or.inl hi⟩
theorem unset_st {w wr : World} {b most : Nat} {m : List (Ky × Ob)} {F : Nat → Prop} (h : St w b most m F wr) {k : Ky} (hno : ∀ u, (k, u) ∉ m) (v : Ob) :
    Calls Tryz.prog 48 #[.pointer (some ⟨b, 0, none⟩), ky k, ev v] wr fun e w' => e = .returned (.int .i64 5) ∧ Kept (fun _ => False) wr w' :=
  set_none h.2 hno v
end Go.Proofs.YtjjamooihddkgaaGreat.TbO

/- Bytes copied. Conditions: each theorem's own. -/
namespace Go.Proofs.YtjjamooihddkgaaGreat.Cln
open Go.RowKit Hp
attribute [local go_sem ↓] Go.wp_at_zero Go.wp_at_succ
/-- Bytes that are copied. -/
def CloneP (w : World) (l : List UInt8) (e : Ending) (w' : World) : Prop := ∃ s c, e = .returned (.slice s l.length c) ∧ Byt.Row w' w.heap.size (.slice s l.length c) l ∧ Kept (fun _ => False) w w'
theorem clone_any {w : World} {v : Value} {l : List UInt8} (h : Byt.Src w v l) (hsm : l.length ≤ 900000000) : Calls Tryz.prog 45 #[v] w (CloneP w l) := by
  have hS := Lib.hid (h.kept ((Kept.refl _ w).alloc (.cells #[] 5)))
  have hR := Lib.hid (Byt.row_new w)
  obtain ⟨s, c, rfl, hc, hs, hn⟩ := h
  cases s with
  | none =>
    obtain rfl := hn rfl
    obtain rfl : l = [] := List.length_eq_zero_iff.1 (by omega)
    have hnil := fun (w : World) => Lib.run_eql_slice_nil (P := Tryz.prog) w 25 5 none 0 0 0 0 Tryz.underlying25
    clear hs hn hS hR
    go_enter Tryz.func45, Tryz.ntmps45
    go_wp2_with fail
    go_ret
    exact ⟨_, _, rfl, Byt.row_nil _ _, Kept.refl _ w⟩
  | some a =>
    have hnil := fun (w : World) => Lib.run_eql_slice_nil (P := Tryz.prog) w 25 5 (some a) l.length c 0 0 Tryz.underlying25
    clear hs hn
    go_enter Tryz.func45, Tryz.ntmps45
    go_wp2_with (at_builtin; refine Byt.wpList_app rfl _ _ rfl w.heap.size (v := .slice (some ⟨w.heap.size, 0, none⟩) 0 0) rfl hR.out rfl hS.out (by simp; omega) (by simp) ?_; intro v' w' hA)
    have hrow : Byt.Row w' w.heap.size v' l := by simpa using hA.row
    obtain ⟨s', c', e, _⟩ := hrow.slice
    subst e
    go_ret
    exact ⟨_, _, rfl, hrow, ((Kept.refl (fun _ => False) w).alloc (.cells #[] 5)).trans' hA.kept (fun i hi e => by cases e; exact absurd hi (Nat.lt_irrefl _))⟩
end Go.Proofs.YtjjamooihddkgaaGreat.Cln

/- Arguments that are slices of numbers without a sign: opened, read. Conditions: each theorem's own. -/
namespace Go.Proofs.YtjjamooihddkgaaGreat.Opn
open Go.ChangeShapes Go.WideShapes Go.RowKit Go.Deep Hp Go.Proofs.YtjjamooihddkgaaGreat.End
/-- A slice of numbers without a sign that was there at the call. -/
def Uints (w : World) (s : Option Addr) (cap : Nat) (zs : List Int) : Prop :=
  zs.length ≤ cap ∧ (∀ n ∈ zs, (Lit.int .u64 n).wf = true) ∧ (zs = [] ∨ ∃ b off, s = some ⟨b, off, none⟩ ∧ b < w.heap.size ∧ ∀ j, j < zs.length → w.cell? ⟨b, off + j, none⟩ = some (.int .u64 (zs.getD j 0)))
theorem Uints.at {w w' : World} {s : Option Addr} {cap : Nat} {zs : List Int} (h : Uints w s cap zs) (k : Old w w') {j : Nat} (hj : j < zs.length) :
    ∃ b off, s = some ⟨b, off, none⟩ ∧ b < w.heap.size ∧ w'.cell? ⟨b, off + j, none⟩ = some (.int .u64 zs[j]) := by
  rcases h.2.2 with rfl | ⟨b, off, rfl, hb, hc⟩
  · simp at hj
  · refine ⟨b, off, rfl, hb, ?_⟩
    rw [keptCell k hb (fun h => h) (off + j), hc j hj]
    simp [List.getD, List.getElem?_eq_getElem hj]
set_option maxRecDepth 100000 in
theorem uints_of {H : Type} {enc : TypeId × Value → H} {W : World} {base : Nat} {t e : TypeId} {v : Value} {d : DataW H} {p : List MemPlace} (ht : Tryz.prog.underlying t = some (.slice e)) (he : Tryz.prog.underlying e = some (.int .u64)) (hC : Tryz.prog.cellsOf e = 1)
    (hv : Value.okWide Tryz.prog W .any base t v) (h : DataW.Trod enc Tryz.prog W 0 (fun _ => true) true t v d p) : ∃ s cap zs, v = .slice s (List.length zs) cap ∧ Uints W s cap zs := by
  obtain ⟨a, len, cap, rfl⟩ := okWide_slice ht hv
  obtain ⟨_, hf⟩ := h
  rcases open_ints ht he hC hf with ⟨hcs, hx⟩ | ⟨a', len', cap', zs, hcs, _, hl, hm, hz, hx, hcell, hwz⟩
  · simp [Value.cells] at hcs
    obtain ⟨rfl, rfl, rfl⟩ := hcs
    exact ⟨none, 0, [], rfl, Nat.le_refl _, by simp, Or.inl rfl⟩
  · simp [Value.cells] at hcs
    obtain ⟨rfl, rfl, rfl⟩ := hcs
    simp only [if_true] at hz
    have hlen : (zs.take len).length = len := by rw [List.length_take]; omega
    refine ⟨some a', cap, zs.take len, by rw [hlen], by omega, fun n hn => hwz n (List.mem_of_mem_take hn), ?_⟩
    by_cases h0 : len = 0
    · left; rw [h0]; rfl
    · right
      obtain ⟨b, off, rfl, hc⟩ := ints_at hcell (by omega)
      refine ⟨b, off, rfl, ?_, fun j hj => ?_⟩
      · exact World.block_lt_of_cell? W _ (hc 0 (by omega))
      · rw [hc j (by omega)]
        have : j < len := by omega
        simp [List.getD, this]
end Go.Proofs.YtjjamooihddkgaaGreat.Opn

/- Givers; nothing's answers; what the document fixes. Conditions: each theorem's own. -/
namespace Go.Proofs.YtjjamooihddkgaaGreat.Idw
open Go.RowKit Hp IdM Ro Go.Proofs.YtjjamooihddkgaaGreat.End
attribute [local go_sem ↓] Go.wp_at_zero Go.wp_at_succ
/-- A giver: the last one that it may give, the last one that it gave. -/
def Gv (w : World) (b : Nat) (last given : Int) : Prop := Blk w b [.int .u64 last, .int .u64 given] 123
theorem give_yes {last : Int} (h0 : 1 ≤ last) (h1 : last ≤ top) (w : World) : Calls Tryz.prog 35 #[.int .u64 last] w fun e w' => ∃ b, e = .returned (.tuple #[.pointer (some ⟨b, 0, none⟩), .int .i64 0]) ∧ Gv w' b last 0 ∧ Kept (fun _ => False) w w' ∧ w.heap.size ≤ b := by
  have g1 : decide (last < 1) = false := by rw [decide_eq_false_iff_not]; omega
  have g2 : decide ((1152921504606846976 : Int) < last) = false := by
    have : (top : Int) = 1152921504606846976 := rfl
    rw [decide_eq_false_iff_not]; omega
  clear h0 h1
  go_enter Tryz.func35, Tryz.ntmps35
  go_wp2_with fail
  go_ret2
  exact ⟨_, rfl, Blk.new w [.int .u64 last, .int .u64 0] 123, (Kept.refl _ w).alloc _, Nat.le_refl _⟩
theorem give_no {last : Int} (h : ¬ (1 ≤ last ∧ last ≤ top)) (w : World) : Calls Tryz.prog 35 #[.int .u64 last] w fun e w' => e = .returned (.tuple #[.pointer none, .int .i64 1]) ∧ w = w' := by
  have hc : last < 1 ∨ (decide (last < 1) = false ∧ 1152921504606846976 < last) := by
    have : (top : Int) = 1152921504606846976 := rfl
    rw [decide_eq_false_iff_not]; omega
  clear h
  rcases hc with h1 | ⟨h1, h2⟩
  all_goals
    go_enter Tryz.func35, Tryz.ntmps35
    go_wp2_with fail
    go_ret2
    exact ⟨rfl, rfl⟩
theorem next_yes {w : World} {b : Nat} {last given : Int} (h : Gv w b last given) (h0 : 0 ≤ given) (h1 : given < last) (h2 : last ≤ top) : Calls Tryz.prog 42 #[.pointer (some ⟨b, 0, none⟩)] w fun e w' => e = .returned (.tuple #[.int .u64 (given + 1), .int .i64 0]) ∧ Gv w' b last (given + 1) ∧ Kept (fun k => k = b) w w' := by
  unfold Gv at *
  have c0 := h.cell (o := 0) rfl
  have c1 := h.cell (o := 1) rfl
  have f1 := h.frozen 1
  have hb := h.lt
  have g1 : decide (last ≤ given) = false := by rw [decide_eq_false_iff_not]; omega
  have hw : IntKind.u64.wrap (given + 1) = given + 1 := by
    have : (top : Int) = 1152921504606846976 := rfl
    rw [IntKind.wrap_u64]; omega
  have H := Lib.hid h
  clear h h0 h1 h2
  go_enter Tryz.func42, Tryz.ntmps42
  go_wp2_with fail
  go_quiet (fail)
  go_wp2_with fail
  go_ret2
  exact ⟨rfl, (H.out.drewN nq).set 1 _, ((Kept.refl (fun k => k = b) w).drewN nq).set (fun _ => rfl) 1 _⟩
theorem next_no {w : World} {b : Nat} {last given : Int} (h : Gv w b last given) (h1 : last ≤ given) : Calls Tryz.prog 42 #[.pointer (some ⟨b, 0, none⟩)] w fun e w' => e = .returned (.tuple #[.int .u64 0, .int .i64 7]) ∧ Kept (fun _ => False) w w' := by
  unfold Gv at *
  have c0 := h.cell (o := 0) rfl
  have c1 := h.cell (o := 1) rfl
  clear h
  go_enter Tryz.func42, Tryz.ntmps42
  go_wp2_with fail
  go_quiet (fail)
  go_wp2_with fail
  go_ret2
  exact ⟨rfl, (Kept.refl _ w).drewN nq⟩
theorem next_nil (w : World) : Calls Tryz.prog 42 #[.pointer none] w fun e w' => e = .returned (.tuple #[.int .u64 0, .int .i64 7]) ∧ Kept (fun _ => False) w w' := by
  go_enter Tryz.func42, Tryz.ntmps42
  go_wp2_with fail
  go_quiet (fail)
  go_wp2_with fail
  go_ret2
  exact ⟨rfl, (Kept.refl _ w).drewN nq⟩
theorem last_any {w : World} {b : Nat} {last given : Int} (h : Gv w b last given) : Calls Tryz.prog 52 #[.pointer (some ⟨b, 0, none⟩)] w fun e w' => e = .returned (.int .u64 given) ∧ w = w' := by
  unfold Gv at *
  have c1 := h.cell (o := 1) rfl
  clear h
  go_enter Tryz.func52, Tryz.ntmps52
  go_wp2_with fail
  go_ret
  exact ⟨rfl, rfl⟩
theorem last_nil (w : World) : Calls Tryz.prog 52 #[.pointer none] w fun e w' => e = .returned (.int .u64 0) ∧ w = w' := by
  go_enter Tryz.func52, Tryz.ntmps52
  go_wp2_with fail
  go_ret
  exact ⟨rfl, rfl⟩
/-- The least of one and some others. -/
def least (m : Int) (l : List Int) : Int := l.foldl (fun m x => if x < m then x else m) m
theorem least_succ (m : Int) {l : List Int} {i : Nat} {x : Int} (h : l[i]? = some x) : least m (l.take (i + 1)) = if x < least m (l.take i) then x else least m (l.take i) := by
  unfold least
  rw [List.take_add_one, h, List.foldl_append]
  rfl
theorem done_nil (id : Int) (r : Int) (hr : r = if id < 1 ∨ top < id then 1 else 4) (w : World) : Calls Tryz.prog 93 #[.pointer none, .int .u64 id] w fun e w' => e = .returned (.int .i64 r) ∧ w = w' := by
  have hc : (id < 1 ∧ r = 1) ∨ (decide (id < 1) = false ∧ 1152921504606846976 < id ∧ r = 1) ∨ (decide (id < 1) = false ∧ decide ((1152921504606846976 : Int) < id) = false ∧ r = 4) := by
    have : (top : Int) = 1152921504606846976 := rfl
    rw [decide_eq_false_iff_not, decide_eq_false_iff_not]
    split at hr <;> omega
  have MD := Lib.hid (made_nil w)
  clear hr
  rcases hc with ⟨h1, rfl⟩ | ⟨h1, h2, rfl⟩ | ⟨h1, h2, rfl⟩
  all_goals
    go_enter Tryz.func93, Tryz.ntmps93
    go_wp2_with fail
    try (with_reducible refine Calls.mono MD.out ?_; rintro e w1 ⟨rfl, rfl⟩; go_wp2_with fail)
    go_ret
    exact ⟨rfl, rfl⟩
theorem is_nil (id : Int) (w : World) : Calls Tryz.prog 56 #[.pointer none, .int .u64 id] w fun e w' => e = .returned (.bool false) ∧ w = w' := by
  have MD := Lib.hid (made_nil w)
  go_enter Tryz.func56, Tryz.ntmps56
  go_wp2_with fail
  with_reducible refine Calls.mono MD.out ?_
  rintro e w1 ⟨rfl, rfl⟩
  go_wp2_with fail
  go_ret
  exact ⟨rfl, rfl⟩
theorem retire_nil (id : Int) (w : World) : Calls Tryz.prog 63 #[.pointer none, .int .u64 id] w fun e w' => e = .returned (.int .i64 0) ∧ w = w' := by
  have MD := Lib.hid (made_nil w)
  obtain ⟨t, ht⟩ : ∃ t, (if (1152921504606846977 : Int) < id then (1152921504606846977 : Int) else id) = t := ⟨_, rfl⟩
  go_enter Tryz.func63, Tryz.ntmps63
  go_wp2_with fail
  with_reducible refine Calls.mono MD.out ?_
  rintro e w1 ⟨rfl, rfl⟩
  go_wp2_with fail
  go_ret
  exact ⟨rfl, rfl⟩
theorem mark_nil (w : World) : Calls Tryz.prog 122 #[.pointer none] w fun e w' => e = .returned (.int .u64 0) ∧ w = w' := by
  have MD := Lib.hid (made_nil w)
  go_enter Tryz.func122, Tryz.ntmps122
  go_wp2_with fail
  with_reducible refine Calls.mono MD.out ?_
  rintro e w1 ⟨rfl, rfl⟩
  go_wp2_with fail
  go_ret
  exact ⟨rfl, rfl⟩
theorem len_nil (w : World) : Calls Tryz.prog 123 #[.pointer none] w fun e w' => e = .returned (.int .i64 0) ∧ w = w' := by
  have MD := Lib.hid (made_nil w)
  go_enter Tryz.func123, Tryz.ntmps123
  go_wp2_with fail
  with_reducible refine Calls.mono MD.out ?_
  rintro e w1 ⟨rfl, rfl⟩
  go_wp2_with fail
  go_ret
  exact ⟨rfl, rfl⟩
end Go.Proofs.YtjjamooihddkgaaGreat.Idw

