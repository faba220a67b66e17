/- Receivers: Data of one that has ended, that finds no room, that is new, that is known. Conditions: each theorem's own. -/
import Derived.Test.YtjjamooihddkgaaGreatPmG14
import Derived.Test.YtjjamooihddkgaaGreatPmG2
import Derived.Test.YtjjamooihddkgaaGreatPmG6
import Derived.LoopTactic
import Derived.Deep.LoopGhost
import Derived.Deep.RegionLaw
import Derived.Deep.RegionHeld3
import Derived.Deep.CutBlock
import Derived.Deep.RegionWith
import Derived.Deep.DeepCutAuto
import Derived.Deep.DrawnRows
import Derived.WalkLawsBesides
import Derived.Test.YtjjamooihddkgaaGreatPmG4
import Derived.ProofKit
import Derived.StillTailTactics
import Derived.Laws.StructEq
import Derived.Deep.MidRow
set_option linter.unusedVariables false
set_option linter.unusedSimpArgs false
namespace Go.Proofs.YtjjamooihddkgaaGreat.Pr
open Go.RowKit Hp TbM TbN Po Ph
open Pl (Ms Ch En)
open Rm (BufA Agree)
open Idw (WnV)
open IdM (ins)
attribute [local go_sem ↓] Go.wp_at_zero Go.wp_at_succ
variable {w w' w1 w2 : World} {base : Nat} {O O' O1 O2 : Nat → Nat} {b s tb most mx : Nat} {K R : List (Ky × Nat)} {I I' : Nat → List Int} {vs vs' : List Value} {ws : List Nat} {W : Nat → Int × List Int} {L : List (Nat × Ms)} {Q : Nat → List UInt8} {B : Nat → Bf} {A : Nat → Prop}
set_option maxHeartbeats 8000000 in
theorem data_ended (h : Rc w base O b s tb most mx K I vs ws W L Q B) {i : Nat} (hi : i < 8) {id : Int} (hid : 1 ≤ id ∧ id ≤ 1152921504606846976) {a : Option Addr} {n off m c : Nat} (hle : off + m ≤ n) (hn : n ≤ 1000000) (hE : IdM.isE (W i).1 (W i).2 id = true) :
    Calls Tryz.prog 28 #[ptr b, .int .i64 (i : Int), .int .u64 id, .int .i64 (n : Int), .int .i64 (off : Int), .slice a m c] w fun e w' => e = .returned (.tuple #[.int .i64 0, .bool true, .int .i64 0]) ∧ w = w' := by
  obtain ⟨wb, hwb⟩ := h.wb hi
  obtain ⟨wv, wa, hW, _, _⟩ := h.win i wb hwb
  have IH := Lib.hid fun w => isHost_any (i : Int) true (by simp; omega) w
  have MD := Lib.hid (made_any h)
  have IE := Idw.is_eq hW id
  rw [hE] at IE
  have IE := Lib.hid IE
  have c3 := h.cw hwb
  have g1 : (0 : Int) ≤ (i : Int) := by omega
  have g2 : (i : Int) < 8 := by omega
  have g3 : decide (id < 1) = false := by rw [decide_eq_false_iff_not]; omega
  have g4 : decide ((1152921504606846976 : Int) < id) = false := by rw [decide_eq_false_iff_not]; omega
  have g5 : decide (((n : Nat) : Int) < 0) = false := by rw [decide_eq_false_iff_not]; omega
  have g6 : decide (((off : Nat) : Int) < 0) = false := by rw [decide_eq_false_iff_not]; omega
  have g7 : IntKind.i64.wrap (((n : Nat) : Int) - (off : Int)) = ((n : Nat) : Int) - (off : Int) := by rw [IntKind.wrap_i64]; omega
  have g8 : decide (((n : Nat) : Int) - (off : Int) < ((m : Nat) : Int)) = false := by rw [decide_eq_false_iff_not]; omega
  clear h hW hE
  go_enter Tryz.func28, Tryz.ntmps28
  go_wp2_with fail
  with_reducible refine Calls.mono (IH.out _) ?_
  rintro e w1 ⟨rfl, rfl⟩
  go_wp2_with fail
  with_reducible refine Calls.mono MD.out ?_
  rintro e w1 ⟨rfl, rfl⟩
  go_wp2_with fail
  with_reducible refine Calls.mono IE.out ?_
  rintro e w1 ⟨rfl, rfl⟩
  go_wp2_with fail
  go_ret3
  exact ⟨rfl, rfl⟩
set_option maxHeartbeats 16000000 in
set_option maxRecDepth 100000 in
theorem buffer_full (h : Rc w base O b s tb most mx K I vs ws W L Q B) {i : Nat} (hi : i < 8) {id : Int} (hno : ∀ u, (((i : Int), id), u) ∉ K) (n : Int) (hf : most ≤ K.length) :
    Calls Tryz.prog 57 #[ptr b, TbP.ky ((i : Int), id), .int .i64 n] w fun e w' => e = .returned (.tuple #[.pointer none, .int .i64 4]) ∧ Kept (fun _ => False) w w' := by
  have C := Lib.hid fun (w' : World) (hk : Kept (fun _ => False) w w') => get_no (h.old hk).sh (h.old hk).size hno
  have FU := Lib.hid fun (w' : World) (hk : Kept (fun _ => False) w w') => full_all (h.old hk) (i : Int) id hf
  have HB := Lib.hid h.blk
  have hl := h.wl
  have hen : (En (pre most mx s ws) L)[2]? = some (ptr s) := by
    unfold En
    rw [List.getElem?_append_left (by rw [pre_len hl]; omega)]
    rfl
  clear h hno hf
  go_enter Tryz.func57, Tryz.ntmps57
  go_upto_region 1 with fail
  have hR := Blk.new w [.int .i64 (i : Int), .int .u64 id] 95
  have hk := (Kept.refl (fun _ => False) w).alloc (.cells [.int .i64 (i : Int), .int .u64 id].toArray 95)
  dsimp only [List.toArray] at hR hk
  have hb1 := hk.blk HB.out (fun f => f)
  have c0 := hR.cell (o := 0) rfl
  have c1 := hR.cell (o := 1) rfl
  have c2 := hb1.cell hen
  have HR := Lib.hid hR
  have HK := Lib.hid hk
  have HB1 := Lib.hid hb1
  clear hR hk hb1
  generalize w.alloc (.cells #[.int .i64 (i : Int), .int .u64 id] 95) = w1 at *
  generalize w.heap.size = rb at *
  go_region_held3 (fun w' => w'.cell? ⟨rb, 0, none⟩ = some (.int .i64 (i : Int)) ∧ w'.cell? ⟨rb, 1, none⟩ = some (.int .u64 id) ∧ w'.cell? ⟨b, 2, none⟩ = some (ptr s)) (first | exact ⟨c0, c1, c2⟩ | exact ⟨(hk2.blk (Blk.drew HR.out) (fun f => f)).cell rfl, (hk2.blk (Blk.drew HR.out) (fun f => f)).cell rfl, (hk2.blk (Blk.drew HB1.out) (fun f => f)).cell hen⟩)
    (first | (go_at_call 83; with_reducible refine Calls.mono (C.out _ (by first | exact HK.out | exact HK.out.drew)) ?_; rintro e w2 ⟨rfl, hk2⟩))
  have HK2 := Lib.hid (HK.out.drew.trans hk2)
  have hR2 := hk2.blk HR.out.drew (fun f => f)
  clear hk2 c0 c1 c2 HR HB1 HK
  have c0 := hR2.cell (o := 0) rfl
  have c1 := hR2.cell (o := 1) rfl
  have F2 := Lib.hid (FU.out _ HK2.out)
  clear hR2 FU C
  go_wp2_with fail
  with_reducible refine Calls.mono F2.out ?_
  rintro e w3 ⟨rfl, hk3⟩
  go_wp2_with fail
  go_ret2
  exact ⟨rfl, HK2.out.trans hk3⟩
set_option maxHeartbeats 16000000 in
set_option maxRecDepth 100000 in
theorem data_full (h : Rc w base O b s tb most mx K I vs ws W L Q B) {i : Nat} (hi : i < 8) {id : Int} (hid : 1 ≤ id ∧ id ≤ 1152921504606846976) {a : Option Addr} {n off m c : Nat} (hle : off + m ≤ n) (hn : n ≤ mx) (hE : IdM.isE (W i).1 (W i).2 id = false) (hno : ∀ u, (((i : Int), id), u) ∉ K) (hf : most ≤ K.length) :
    Calls Tryz.prog 28 #[ptr b, .int .i64 (i : Int), .int .u64 id, .int .i64 (n : Int), .int .i64 (off : Int), .slice a m c] w fun e w' => e = .returned (.tuple #[.int .i64 0, .bool false, .int .i64 4]) ∧ Kept (fun _ => False) w w' := by
  obtain ⟨wb, hwb⟩ := h.wb hi
  obtain ⟨wv, wa, hW, _, _⟩ := h.win i wb hwb
  have hmx := h.mx1
  have IH := Lib.hid fun w => isHost_any (i : Int) true (by simp; omega) w
  have MD := Lib.hid (made_any h)
  have IE := Idw.is_eq hW id
  rw [hE] at IE
  have IE := Lib.hid IE
  have c1 := h.cell (j := 1) rfl
  have c3 := h.cw hwb
  have BF := Lib.hid fun (w1 : World) (k : Kept (fun _ => False) w w1) => buffer_full (h.old k) hi hno (n : Int) hf
  have g1 : (0 : Int) ≤ (i : Int) := by omega
  have g2 : (i : Int) < 8 := by omega
  have g3 : decide (id < 1) = false := by rw [decide_eq_false_iff_not]; omega
  have g4 : decide ((1152921504606846976 : Int) < id) = false := by rw [decide_eq_false_iff_not]; omega
  have g5 : decide (((n : Nat) : Int) < 0) = false := by rw [decide_eq_false_iff_not]; omega
  have g6 : decide (((off : Nat) : Int) < 0) = false := by rw [decide_eq_false_iff_not]; omega
  have g7 : IntKind.i64.wrap (((n : Nat) : Int) - (off : Int)) = ((n : Nat) : Int) - (off : Int) := by rw [IntKind.wrap_i64]; omega
  have g8 : decide (((n : Nat) : Int) - (off : Int) < ((m : Nat) : Int)) = false := by rw [decide_eq_false_iff_not]; omega
  have g9 : ¬ (mx < n) := by omega
  have g10 : ¬ (((mx : Nat) : Int) < ((n : Nat) : Int)) := by omega
  clear h hW hE hno hf
  go_enter Tryz.func28, Tryz.ntmps28
  go_wp2_with fail
  with_reducible refine Calls.mono (IH.out _) ?_
  rintro e w1 ⟨rfl, rfl⟩
  go_wp2_with fail
  with_reducible refine Calls.mono MD.out ?_
  rintro e w1 ⟨rfl, rfl⟩
  go_wp2_with fail
  with_reducible refine Calls.mono IE.out ?_
  rintro e w1 ⟨rfl, rfl⟩
  go_upto_region 10 with fail
  have hR := Blk.new w [.int .i64 (i : Int), .int .u64 id] 95
  have hk := (Kept.refl (fun _ => False) w).alloc (.cells [.int .i64 (i : Int), .int .u64 id].toArray 95)
  dsimp only [List.toArray] at hR hk
  have c0 := hR.cell (o := 0) rfl
  have c1 := hR.cell (o := 1) rfl
  have HK := Lib.hid hk
  clear hR hk c3 IH MD IE
  generalize w.alloc (.cells #[.int .i64 (i : Int), .int .u64 id] 95) = w1 at *
  generalize w.heap.size = rb at *
  have B1 := Lib.hid (BF.out w1 HK.out)
  clear BF
  go_wp2_with fail
  with_reducible refine Calls.mono B1.out ?_
  rintro e w2 ⟨rfl, k2⟩
  go_wp2_with fail
  go_ret3
  exact ⟨rfl, HK.out.trans k2⟩
/-- Receivers of the things K, wherever the rest lies. -/
def RcE (w : World) (base : Nat) (O : Nat → Nat) (b most mx : Nat) (K : List (Ky × Nat)) (W : Nat → Int × List Int) (L : List (Nat × Ms)) (Q : Nat → List UInt8) (B : Nat → Bf) : Prop :=
  ∃ s tb I vs ws, Rc w base O b s tb most mx K I vs ws W L Q B
theorem RcE.out {G : Nat → Prop} (h : RcE w base O b most mx K W L Q B) (k : Kept G w w') (hG : ∀ i, O i ≠ 0 → ¬ G i) : RcE w' base O b most mx K W L Q B := by
  obtain ⟨s, tb, I, vs, ws, h⟩ := h; exact ⟨s, tb, I, vs, ws, h.out k hG⟩
theorem RcE.old (h : RcE w base O b most mx K W L Q B) (k : Kept (fun _ => False) w w') : RcE w' base O b most mx K W L Q B := h.out k (fun _ _ f => f)
theorem RcE.ow (h : RcE w base O b most mx K W L Q B) : Ow w base O := by obtain ⟨s, tb, I, vs, ws, h⟩ := h; exact h.sh.ow
theorem RcE.keys (h : RcE w base O b most mx K W L Q B) : (K.map Prod.fst).Nodup := by obtain ⟨s, tb, I, vs, ws, h⟩ := h; exact h.keys
theorem RcE.size (h : RcE w base O b most mx K W L Q B) : base ≤ w.heap.size := by obtain ⟨s, tb, I, vs, ws, h⟩ := h; exact h.size
theorem RcE.winOf (h : RcE w base O b most mx K W L Q B) {i : Nat} (hi : i < 8) : IdM.Win most (W i).1 (W i).2 := by
  obtain ⟨s, tb, I, vs, ws, h⟩ := h
  obtain ⟨wb, hwb⟩ := h.wb hi
  obtain ⟨_, _, hW, _⟩ := h.win i wb hwb
  exact hW.win
theorem newE {most mx : Nat} (h0 : 1 ≤ most) (h1 : most ≤ 1000) (h2 : mx ≤ 1000) (w : World) : Calls Tryz.prog 26 #[.int .i64 (most : Nat), .int .i64 (mx : Nat)] w fun e w' =>
    ∃ b O, e = .returned (.tuple #[ptr b, .int .i64 0]) ∧ RcE w' w.heap.size O b most mx [] (fun _ => (1, [])) [] (fun _ => []) (fun _ => ⟨0, [], []⟩) ∧ Kept (fun _ => False) w w' :=
  (new_any h0 h1 h2 w).mono fun e w' ⟨b, s, tb, ws, O, h1, h2, h3⟩ => ⟨b, O, h1, ⟨s, tb, _, _, ws, h2⟩, h3⟩
theorem endedE (h : RcE w base O b most mx K W L Q B) {i : Nat} (hi : i < 8) {id : Int} (hid : 1 ≤ id ∧ id ≤ 1152921504606846976) {a : Option Addr} {n off m c : Nat} (hle : off + m ≤ n) (hn : n ≤ 1000000) (hE : IdM.isE (W i).1 (W i).2 id = true) :
    Calls Tryz.prog 28 #[ptr b, .int .i64 (i : Int), .int .u64 id, .int .i64 (n : Int), .int .i64 (off : Int), .slice a m c] w fun e w' => e = .returned (.tuple #[.int .i64 0, .bool true, .int .i64 0]) ∧ w = w' := by
  obtain ⟨s, tb, I, vs, ws, h⟩ := h; exact data_ended h hi hid hle hn hE
theorem fullE (h : RcE w base O b most mx K W L Q B) {i : Nat} (hi : i < 8) {id : Int} (hid : 1 ≤ id ∧ id ≤ 1152921504606846976) {a : Option Addr} {n off m c : Nat} (hle : off + m ≤ n) (hn : n ≤ mx) (hE : IdM.isE (W i).1 (W i).2 id = false) (hno : ∀ u, (((i : Int), id), u) ∉ K) (hf : most ≤ K.length) :
    Calls Tryz.prog 28 #[ptr b, .int .i64 (i : Int), .int .u64 id, .int .i64 (n : Int), .int .i64 (off : Int), .slice a m c] w fun e w' => e = .returned (.tuple #[.int .i64 0, .bool false, .int .i64 4]) ∧ Kept (fun _ => False) w w' := by
  obtain ⟨s, tb, I, vs, ws, h⟩ := h; exact data_full h hi hid hle hn hE hno hf
theorem lenE (h : RcE w base O b most mx K W L Q B) : Calls Tryz.prog 33 #[ptr b] w fun e w' => e = .returned (.int .i64 (K.length : Nat)) ∧ w = w' := by
  obtain ⟨s, tb, I, vs, ws, h⟩ := h; exact len_any h
theorem waitE (h : RcE w base O b most mx K W L Q B) : Calls Tryz.prog 34 #[ptr b] w fun e w' => e = .returned (.int .i64 (L.length : Nat)) ∧ w = w' := by
  obtain ⟨s, tb, I, vs, ws, h⟩ := h; exact waiting_any h
theorem pollN (h : RcE w base O b most mx K W [] Q B) : Calls Tryz.prog 29 #[ptr b] w fun e w' => e = .returned (.tuple #[.agg #[.int .i64 0, .int .u64 0, .slice none 0 0], .bool false]) ∧ Kept (fun _ => False) w w' := by
  obtain ⟨s, tb, I, vs, ws, h⟩ := h; exact poll_none h
theorem pollE {g : Nat} {m : Ms} (h : RcE w base O b most mx K W ((g, m) :: L) Q B) (hL : L.length ≤ 1000000) : Calls Tryz.prog 29 #[ptr b] w fun e w' =>
    e = .returned (.tuple #[.agg #[.int .i64 m.fr, .int .u64 m.id, .slice m.a m.n m.c], .bool true]) ∧ RcE w' base O b most mx K W L Q B ∧ Byt.Src w' (mb m) (Q g) ∧ Kept (fun k => O k ≠ 0) w w' := by
  obtain ⟨s, tb, I, vs, ws, h⟩ := h
  exact (poll_some h hL).mono fun e w' ⟨h1, h2, h3, h4⟩ => ⟨h1, ⟨s, tb, I, vs, ws, h2⟩, h3, h4⟩
theorem retireE (h : RcE w base O b most mx K W L Q B) {i : Nat} (hi : i < 8) (id : Int) : Calls Tryz.prog 30 #[ptr b, .int .i64 (i : Int), .int .u64 id] w fun e w' =>
    ∃ X R O', e = .returned (.int .i64 (X.length : Nat)) ∧ (∀ x, x ∈ X ↔ x < id ∧ ∃ u, (((i : Int), x), u) ∈ K) ∧ Ph.Left K R i X ∧ RcE w' base O' b most mx R (fun j => if j = i then (IdM.retire (W i).1 (W i).2 id).2 else W j) L Q B ∧ Fr (fun j => j ≠ 0) w O w' O' := by
  obtain ⟨s, tb, I, vs, ws, h⟩ := h
  refine (retire_any h hi id).mono ?_
  rintro e w' ⟨rfl, R, O', vs', hl, hR, hf⟩
  have hpl := IdM.place_le id (I i)
  refine ⟨(I i).take (IdM.place id (I i)), R, O', by rw [List.length_take, Nat.min_eq_left hpl], fun x => ?_, hl, ⟨s, tb, _, vs', ws, hR⟩, hf⟩
  rw [← mem_ids, ← (h.ids i hi).mem_iff]
  constructor
  · intro hx
    obtain ⟨j, hj⟩ := List.mem_iff_getElem?.1 hx
    rw [List.getElem?_take] at hj
    split at hj
    · exact ⟨IdM.place_lt id (I i) j x (by assumption) hj, List.mem_of_getElem? hj⟩
    · cases hj
  · rintro ⟨h1, h2⟩
    obtain ⟨j, hj⟩ := List.mem_iff_getElem?.1 h2
    refine List.mem_iff_getElem?.2 ⟨j, ?_⟩
    rw [List.getElem?_take, if_pos ?_, hj]
    rcases Nat.lt_or_ge j (IdM.place id (I i)) with h3 | h3
    · exact h3
    · have := IdM.place_ge (h.sh.asc i hi) h3 hj; omega
/-- What Data answers and leaves, of a message T that is in K1, at B1 u, when the piece comes. -/
def DataE (w : World) (base : Nat) (O : Nat → Nat) (b most mx : Nat) (W : Nat → Int × List Int) (L : List (Nat × Ms)) (Q : Nat → List UInt8) (i : Nat) (id : Int) (T : List UInt8) (off m : Nat) (u : Nat) (K1 : List (Ky × Nat)) (B1 : Nat → Bf) (e : Ending) (w' : World) : Prop :=
  ∃ O' l2 D2, Agree l2 D2 T ∧ (∀ x, IvM.Has l2 x ↔ IvM.Has (B1 u).l x ∨ ((off : Int) ≤ x ∧ x < (off : Int) + (m : Nat))) ∧ Fr (fun j => j ≠ 0) w O w' O' ∧
    (((∃ x : Int, 0 ≤ x ∧ x < (T.length : Nat) ∧ ¬ IvM.Has l2 x) ∧ e = .returned (.tuple #[.int .i64 (RmM.fr (B1 u).l off ((off : Int) + (m : Nat))), .bool false, .int .i64 0]) ∧
        RcE w' base O' b most mx K1 W L Q (fun j => if j = u then ⟨T.length, l2, D2⟩ else B1 j)) ∨
     ((∀ x : Int, 0 ≤ x → x < (T.length : Nat) → IvM.Has l2 x) ∧ e = .returned (.tuple #[.int .i64 (RmM.fr (B1 u).l off ((off : Int) + (m : Nat))), .bool true, .int .i64 0]) ∧
        ∃ R g a c B', K1.Perm ((((i : Int), id), u) :: R) ∧ (∀ j, j ≠ u → B' j = B1 j) ∧
          RcE w' base O' b most mx R (fun j => if j = i then (IdM.done most (W i).1 (W i).2 id).2 else W j) (L ++ [(g, ⟨(i : Int), id, a, T.length, c⟩)]) (fun j => if j = g then T else Q j) B'))
theorem knownE (h : RcE w base O b most mx K W L Q B) {i : Nat} (hi : i < 8) {id : Int} (hid : 1 ≤ id ∧ id ≤ 1152921504606846976) {T : List UInt8} {v : Value} {off m : Nat} (hp : Piece w O v T off m) (hT : T.length ≤ mx) (hE : IdM.isE (W i).1 (W i).2 id = false) (hL : L.length ≤ 100000)
    {u : Nat} (hu : (((i : Int), id), u) ∈ K) (hn : (B u).n = T.length) (ha : Agree (B u).l (B u).D T) :
    Calls Tryz.prog 28 #[ptr b, .int .i64 (i : Int), .int .u64 id, .int .i64 (T.length : Nat), .int .i64 (off : Int), v] w (DataE w base O b most mx W L Q i id T off m u K B) := by
  obtain ⟨s, tb, I, vs, ws, h⟩ := h
  refine (data_any h hi hid hp hT hE hL (fun u' K' I' B' => u' = u ∧ K' = K ∧ I' = I ∧ B' = B) (fun w1 k => (buffer_known (h.old k) hu hn).mono ?_)).mono ?_
  · rintro e w2 ⟨rfl, k2⟩
    exact ⟨u, O, K, I, vs, B, rfl, ⟨rfl, rfl, rfl, rfl⟩, hu, hn, ha, (h.old k).old k2, Fr.old k2⟩
  · rintro e w' ⟨u', O', K1, I1, B1, l2, D2, ⟨rfl, rfl, rfl, rfl⟩, hu1, ha2, hx, hf, h4⟩
    refine ⟨O', l2, D2, ha2, hx, hf, ?_⟩
    rcases h4 with ⟨h5, h6, vs', h7⟩ | ⟨h5, h6, R, Y, Z, g, a, c, vs', B', h7, h8, h9, h10⟩
    · exact Or.inl ⟨h5, h6, ⟨s, tb, _, vs', ws, h7⟩⟩
    · exact Or.inr ⟨h5, h6, R, g, a, c, B', h7, h9, ⟨s, tb, _, vs', ws, h10⟩⟩
theorem freshE (h : RcE w base O b most mx K W L Q B) {i : Nat} (hi : i < 8) {id : Int} (hid : 1 ≤ id ∧ id ≤ 1152921504606846976) {T : List UInt8} {v : Value} {off m : Nat} (hp : Piece w O v T off m) (hT : T.length ≤ mx) (hE : IdM.isE (W i).1 (W i).2 id = false) (hL : L.length ≤ 100000)
    (hno : ∀ u, (((i : Int), id), u) ∉ K) (hf : K.length < most) (hr : (W i).2.length + K.length < most) :
    Calls Tryz.prog 28 #[ptr b, .int .i64 (i : Int), .int .u64 id, .int .i64 (T.length : Nat), .int .i64 (off : Int), v] w fun e w' =>
      ∃ u, u ∉ K.map Prod.snd ∧ DataE w base O b most mx W L Q i id T off m u ((((i : Int), id), u) :: K) (fun j => if j = u then ⟨T.length, [], List.replicate T.length 0⟩ else B j) e w' := by
  obtain ⟨s, tb, I, vs, ws, h⟩ := h
  have hfew := h.ids.few hi
  refine (data_any h hi hid hp hT hE hL (fun u K' I' B' => u ∉ K.map Prod.snd ∧ K' = (((i : Int), id), u) :: K ∧ B' = fun j => if j = u then ⟨T.length, [], List.replicate T.length 0⟩ else B j) (fun w1 k => (buffer_new (h.old k) hi hno hT hf (Or.inr (by omega))).mono ?_)).mono ?_
  · rintro e w2 ⟨u, O2, vs2, rfl, hu, h2, f2⟩
    refine ⟨u, O2, _, _, vs2, _, rfl, ⟨hu, rfl, rfl⟩, List.mem_cons_self .., ?_, ?_, h2, f2⟩
    · show (if u = u then (⟨T.length, [], List.replicate T.length 0⟩ : Bf) else B u).n = _
      rw [if_pos rfl]
    · show Agree (if u = u then (⟨T.length, [], List.replicate T.length 0⟩ : Bf) else B u).l (if u = u then (⟨T.length, [], List.replicate T.length 0⟩ : Bf) else B u).D T
      rw [if_pos rfl]
      exact Rm.agree_nil _ _
  · rintro e w' ⟨u, O', K1, I1, B1, l2, D2, ⟨hu, rfl, rfl⟩, hu1, ha2, hx, hf, h4⟩
    refine ⟨u, hu, O', l2, D2, ha2, hx, hf, ?_⟩
    rcases h4 with ⟨h5, h6, vs', h7⟩ | ⟨h5, h6, R, Y, Z, g, a, c, vs', B', h7, h8, h9, h10⟩
    · exact Or.inl ⟨h5, h6, ⟨s, tb, _, vs', ws, h7⟩⟩
    · exact Or.inr ⟨h5, h6, R, g, a, c, B', h7, h9, ⟨s, tb, _, vs', ws, h10⟩⟩
end Go.Proofs.YtjjamooihddkgaaGreat.Pr

/- The document's own senders: how they lie; NewSenders, find. Conditions: each theorem's own. -/
namespace Go.Proofs.YtjjamooihddkgaaGreat.Ps
open Go.RowKit Hp Rw
attribute [local go_sem ↓] Go.wp_at_zero Go.wp_at_succ
/-- One that is kept: its number, whose it is, its bytes, its state; where its bytes lie. -/
structure Ob where
  id : Nat
  dst : Int
  d : List UInt8
  st : Int
  s : Option Addr
  c : Nat
@[reducible] def oT : Rw.Ty Ob where
  E := 49
  L := 53
  k := 4
  bz := 48
  enc x := [.int .u64 (x.id : Int), .int .i64 x.dst, .slice x.s x.d.length x.c, .int .i64 x.st]
  z := .agg #[.int .u64 0, .int .i64 0, .slice none 0 0, .int .i64 0]
  hL := Tryz.underlying53
  hI := by kernel_rfl
  hz := rfl
  hk _ := rfl
  h1 x v hv := by simp at hv; rcases hv with rfl | rfl | rfl | rfl <;> rfl
  k0 := by decide
  hb := by decide
structure RS (w : World) (b : Nat) (M B : Int) (T g : Nat) (l : List Ob) (v : Value) : Prop where
  blk : Blk w b [.int .i64 M, .int .i64 B, .int .u64 (T : Int), .int .u64 (g : Int), v] 55
  row : Ro.Row oT w v l
  ne : ∀ i, v.ownBlock = some i → i ≠ b
theorem RS.kept {w w' : World} {F : Nat → Prop} {b : Nat} {M B : Int} {T g : Nat} {l : List Ob} {v : Value} (h : RS w b M B T g l v) (k : Kept F w w') (h1 : ¬ F b) (h2 : ∀ i, v.ownBlock = some i → ¬ F i) : RS w' b M B T g l v := ⟨k.blk h.blk h1, h.row.kept k h2, h.ne⟩
theorem RS.old {w w' : World} {b : Nat} {M B : Int} {T g : Nat} {l : List Ob} {v : Value} (h : RS w b M B T g l v) (k : Kept (fun _ => False) w w') : RS w' b M B T g l v := h.kept k (fun f => f) (fun _ _ f => f)
theorem row_at {w : World} {a : Option Addr} {n c : Nat} {l : List Ob} (h : Ro.Row oT w (.slice a n c) l) {i : Nat} {x : Ob} (hx : l[i]? = some x) :
    ∃ g o, a = some ⟨g, o, none⟩ ∧ g < w.heap.size ∧ w.cell? ⟨g, o + i * 4, none⟩ = some (.int .u64 (x.id : Int)) ∧ w.cell? ⟨g, o + i * 4 + 1, none⟩ = some (.int .i64 x.dst) ∧ w.cell? ⟨g, o + i * 4 + 2, none⟩ = some (.slice x.s x.d.length x.c) ∧ w.cell? ⟨g, o + i * 4 + 3, none⟩ = some (.int .i64 x.st) := by
  rcases h with ⟨e, rfl⟩ | ⟨g, o, cap, cur, e, h2⟩
  · simp at hx
  · obtain ⟨rfl, rfl, rfl⟩ := Value.slice.inj e
    exact ⟨g, o, rfl, h2.blk.lt, h2.cell hx (j := 0) rfl, h2.cell hx (j := 1) rfl, h2.cell hx (j := 2) rfl, h2.cell hx (j := 3) rfl⟩
/-- The place of a number. -/
def fi (id : Nat) (l : List Ob) : Option Nat := l.findIdx? fun x => x.id == id
def fz (id : Nat) (l : List Ob) : Int := match fi id l with
  | some k => k
  | none => -1
theorem fi_found {id i : Nat} {l : List Ob} {x : Ob} (hx : l[i]? = some x) (e : x.id = id) (hn : ∀ k (y : Ob), k < i → l[k]? = some y → y.id ≠ id) : fi id l = some i := by
  unfold fi
  rw [List.findIdx?_eq_some_iff_getElem]
  obtain ⟨hi, e1⟩ := List.getElem?_eq_some_iff.1 hx
  refine ⟨hi, by rw [e1]; simp [e], fun j hj => ?_⟩
  have := hn j l[j] hj (List.getElem?_eq_getElem (by omega))
  simpa using this
theorem fi_none {id : Nat} {l : List Ob} (hn : ∀ (k : Nat) (y : Ob), l[k]? = some y → y.id ≠ id) : fi id l = none := by
  unfold fi
  rw [List.findIdx?_eq_none_iff]
  intro x hx
  obtain ⟨k, hk⟩ := List.mem_iff_getElem?.1 hx
  simpa using hn k x hk
theorem fi_some {id k : Nat} {l : List Ob} (h : fi id l = some k) : ∃ x, l[k]? = some x ∧ x.id = id := by
  unfold fi at h
  rw [List.findIdx?_eq_some_iff_getElem] at h
  obtain ⟨hk, e, _⟩ := h
  exact ⟨l[k], List.getElem?_eq_getElem hk, by simpa using e⟩
/-- May senders of these numbers be? -/
def okN (M B : Int) (T : Nat) : Prop := 1 ≤ M ∧ M ≤ 10000 ∧ 0 ≤ B ∧ B ≤ 20000 ∧ 1 ≤ T ∧ T ≤ 1152921504606846976
instance (M B : Int) (T : Nat) : Decidable (okN M B T) := by unfold okN; infer_instance
set_option maxHeartbeats 4000000 in
theorem rnew_yes {M B : Int} {T : Nat} (h : okN M B T) (w : World) : Calls Tryz.prog 11 #[.int .i64 M, .int .i64 B, .int .u64 (T : Int)] w fun e w' => ∃ b, e = .returned (.tuple #[.pointer (some ⟨b, 0, none⟩), .int .i64 0]) ∧ RS w' b M B T 0 [] (.slice none 0 0) ∧ Kept (fun _ => False) w w' ∧ w.heap.size ≤ b := by
  obtain ⟨h1, h2, h3, h4, h5, h6⟩ := h
  have g1 : decide (M < 1) = false := by rw [decide_eq_false_iff_not]; omega
  have g2 : decide (10000 < M) = false := by rw [decide_eq_false_iff_not]; omega
  have g3 : decide (B < 0) = false := by rw [decide_eq_false_iff_not]; omega
  have g4 : decide (20000 < B) = false := by rw [decide_eq_false_iff_not]; omega
  have g5 : decide ((T : Int) < 1) = false := by rw [decide_eq_false_iff_not]; omega
  have g6 : decide ((1152921504606846976 : Int) < (T : Int)) = false := by rw [decide_eq_false_iff_not]; omega
  go_enter Tryz.func11, Tryz.ntmps11
  go_wp2_with fail
  go_ret2
  exact ⟨_, rfl, ⟨Blk.new w [.int .i64 M, .int .i64 B, .int .u64 (T : Int), .int .u64 0, .slice none 0 0] 55, Ro.Row.none _ _, fun i e => by simp [Value.ownBlock] at e⟩, (Kept.refl _ w).alloc _, Nat.le_refl _⟩
set_option maxHeartbeats 4000000 in
theorem rnew_no {M B : Int} {T : Nat} (h : ¬ okN M B T) (w : World) : Calls Tryz.prog 11 #[.int .i64 M, .int .i64 B, .int .u64 (T : Int)] w fun e w' => e = .returned (.tuple #[.pointer none, .int .i64 1]) ∧ w = w' := by
  have hc : M < 1 ∨ (decide (M < 1) = false ∧ 10000 < M) ∨ (decide (M < 1) = false ∧ decide (10000 < M) = false ∧ B < 0) ∨ (decide (M < 1) = false ∧ decide (10000 < M) = false ∧ decide (B < 0) = false ∧ 20000 < B)
      ∨ (decide (M < 1) = false ∧ decide (10000 < M) = false ∧ decide (B < 0) = false ∧ decide (20000 < B) = false ∧ (T : Int) < 1) ∨ (decide (M < 1) = false ∧ decide (10000 < M) = false ∧ decide (B < 0) = false ∧ decide (20000 < B) = false ∧ decide ((T : Int) < 1) = false ∧ (1152921504606846976 : Int) < (T : Int)) := by
    unfold okN at h
    simp only [decide_eq_false_iff_not]; omega
  clear h
  rcases hc with h1 | ⟨h1, h2⟩ | ⟨h1, h2, h3⟩ | ⟨h1, h2, h3, h4⟩ | ⟨h1, h2, h3, h4, h5⟩ | ⟨h1, h2, h3, h4, h5, h6⟩
  all_goals
    go_enter Tryz.func11, Tryz.ntmps11
    go_wp2_with fail
    go_ret2
    exact ⟨rfl, rfl⟩
set_option maxHeartbeats 4000000 in
theorem find_any {w : World} {b : Nat} {M B : Int} {T g : Nat} {l : List Ob} {v : Value} (h : RS w b M B T g l v) (hl : l.length ≤ 10000) (id : Nat) :
    Calls Tryz.prog 49 #[.pointer (some ⟨b, 0, none⟩), .int .u64 (id : Int)] w fun e w' => e = .returned (.int .i64 (fz id l)) ∧ w = w' := by
  have HR := Lib.hid h.row
  have c4 := h.blk.cell (o := 4) rfl
  clear h
  obtain ⟨a, c, rfl, hc1, hc2⟩ := HR.out.slice
  have HF := Lib.hid fun (j : Nat) (x : Ob) (h1 : l[j]? = some x) (h2 : x.id = id) (h3 : ∀ k (y : Ob), k < j → l[k]? = some y → y.id ≠ id) => show fz id l = (j : Int) by unfold fz; rw [fi_found h1 h2 h3]
  have HN := Lib.hid fun (h : ∀ (k : Nat) (y : Ob), l[k]? = some y → y.id ≠ id) => show fz id l = -1 by unfold fz; rw [fi_none (id := id) (l := l) h]
  obtain ⟨n, hn⟩ : ∃ n, l.length = n := ⟨_, rfl⟩
  have HL := Lib.hid hn
  rw [hn] at hl c4 HR hc1
  clear hn hc1 hc2
  generalize fz id l = r at HF HN ⊢
  go_enter Tryz.func49, Tryz.ntmps49
  go_wp2_with fail
  go_loopg [5] n (fun kx s5 wr => ∃ (i : Nat), s5 = .int .i64 i ∧ i ≤ n ∧ n - i ≤ kx ∧ Hid (∀ k (y : Ob), k < i → l[k]? = some y → y.id ≠ id) ∧ w = wr)
  case atStart => exact ⟨0, rfl, Nat.zero_le _, Nat.le_refl _, Lib.hid (fun k y hk => by omega), rfl⟩
  case round =>
    obtain ⟨i, rfl, hin, hkx, HI, rfl⟩ := hrel
    by_cases hlt : i < n
    · have hltz : (i : Int) < (n : Int) := by omega
      obtain ⟨x, hx⟩ : ∃ x, l[i]? = some x := ⟨_, List.getElem?_eq_getElem (by rw [HL.out]; exact hlt)⟩
      obtain ⟨g', o, rfl, _, hcy, _⟩ := row_at HR.out hx
      have HX := Lib.hid hx
      clear hx
      by_cases hxy : x.id = id
      · have hb : ((x.id : Int) == (id : Int)) = true := by simp [hxy]
        have HR2 : Hid (r = (i : Int)) := Lib.hid (HF.out i x HX.out hxy HI.out)
        clear hxy
        go_wp2_with fail
        go_ret
        exact ⟨congrArg (fun z => Ending.returned (Value.int .i64 z)) HR2.out.symm, rfl⟩
      · have hb : ((x.id : Int) == (id : Int)) = false := by simp only [beq_eq_false_iff_ne, ne_eq]; omega
        have hw : IntKind.i64.wrap ((i : Int) + 1) = (i : Int) + 1 := by rw [IntKind.wrap_i64]; omega
        have HI2 : Hid (∀ k (y : Ob), k < i + 1 → l[k]? = some y → y.id ≠ id) := Lib.hid fun k y hk hy => by
          by_cases e : k = i
          · subst e
            rw [HX.out] at hy
            cases hy
            exact hxy
          · exact HI.out k y (by omega) hy
        clear hxy
        go_wp2_with fail
        go_roundg (n - (i + 1))
        case measure => omega
        case rel => exact ⟨i + 1, by go_num, by omega, Nat.le_refl _, HI2, rfl⟩
    · have hltz : ¬ (i : Int) < (n : Int) := by omega
      have HR2 : Hid (r = -1) := Lib.hid (HN.out fun k y hy => HI.out k y (by have := (List.getElem?_eq_some_iff.1 hy).1; rw [HL.out] at this; omega) hy)
      go_wp2_with fail
      go_ret
      exact ⟨congrArg (fun z => Ending.returned (Value.int .i64 z)) HR2.out.symm, rfl⟩
end Go.Proofs.YtjjamooihddkgaaGreat.Ps

/- Slots in memory: eight cells each. Conditions: each theorem's own. -/
namespace Go.Proofs.YtjjamooihddkgaaGreat.TbRO
open Go.RowKit Hp TbM TbN
open Ps (Ob)
/-- What is kept, its cells. -/
abbrev oc (v : Ob) : List Value := [.int .u64 (v.id : Int), .int .i64 v.dst, .slice v.s v.d.length v.c, .int .i64 v.st, .bool (v.st == 2)]
abbrev zc : List Value := [.int .u64 0, .int .i64 0, .slice none 0 0, .int .i64 0, .bool false]
/-- A slot's eight cells. -/
def sc : Option (Ky × Ob) → List Value
  | none => [.bool false, .int .i64 0, .int .u64 0, .int .u64 0, .int .i64 0, .slice none 0 0, .int .i64 0, .bool false]
  | some (k, v) => [.bool true, .int .i64 k.1, .int .u64 k.2, .int .u64 (v.id : Int), .int .i64 v.dst, .slice v.s v.d.length v.c, .int .i64 v.st, .bool (v.st == 2)]
def flat (S : List (Option (Ky × Ob))) : List Value := S.flatMap (sc)
theorem sc_len (x : Option (Ky × Ob)) : (sc x).length = 8 := by
  rcases x with _ | ⟨k, v⟩ <;> rfl
theorem flat_len : ∀ S : List (Option (Ky × Ob)), (flat S).length = S.length * 8
  | [] => rfl
  | x :: S => by
    have := flat_len S
    unfold flat at this ⊢
    rw [List.flatMap_cons, List.length_append, this, sc_len, List.length_cons]; omega
theorem flat_at : ∀ {S : List (Option (Ky × Ob))} {i : Nat} {x : Option (Ky × Ob)} (h : S[i]? = some x) {j : Nat} (hj : j < 8), (flat S)[i * 8 + j]? = (sc x)[j]?
  | [], i, x, h, j, hj => by simp at h
  | y :: S, 0, x, h, j, hj => by
    simp at h; subst h
    unfold flat
    rw [List.flatMap_cons, List.getElem?_append_left (by rw [sc_len]; omega)]
    congr 1; omega
  | y :: S, i + 1, x, h, j, hj => by
    have := flat_at (S := S) (i := i) (x := x) (by simpa using h) hj
    unfold flat at this ⊢
    rw [List.flatMap_cons, List.getElem?_append_right (by rw [sc_len]; omega), sc_len, show (i + 1) * 8 + j - 8 = i * 8 + j by omega, this]
theorem flat_set {S : List (Option (Ky × Ob))} {i : Nat} (hi : i < S.length) (x : Option (Ky × Ob)) {a0 a1 a2 a3 a4 a5 a6 a7 : Value} (hx : sc x = [a0, a1, a2, a3, a4, a5, a6, a7]) :
    flat (S.set i x) = (((((((((flat S).set (i * 8) a0).set (i * 8 + 1) a1).set (i * 8 + 2) a2).set (i * 8 + 3) a3).set (i * 8 + 4) a4).set (i * 8 + 5) a5).set (i * 8 + 6) a6).set (i * 8 + 7) a7) := by
  have hl := flat_len S
  apply List.ext_getElem?
  intro t
  by_cases ht : t < S.length * 8
  · have hq : t / 8 < S.length := by omega
    obtain ⟨q, r, hr, rfl⟩ : ∃ q r, r < 8 ∧ t = q * 8 + r := ⟨t / 8, t % 8, by omega, by omega⟩
    have hq : q < S.length := by omega
    by_cases e : i = q
    · subst e
      rw [flat_at (x := x) (by rw [List.getElem?_set_self hi]) hr, hx]
      have h4 : r = 0 ∨ r = 1 ∨ r = 2 ∨ r = 3 ∨ r = 4 ∨ r = 5 ∨ r = 6 ∨ r = 7 := by omega
      rcases h4 with rfl | rfl | rfl | rfl | rfl | rfl | rfl | rfl <;> simp [List.getElem?_set, hl] <;> omega
    · rw [flat_at (x := S[q]) (by rw [List.getElem?_set_ne e, List.getElem?_eq_getElem hq]) hr]
      rw [List.getElem?_set_ne (by omega), List.getElem?_set_ne (by omega), List.getElem?_set_ne (by omega), List.getElem?_set_ne (by omega), List.getElem?_set_ne (by omega), List.getElem?_set_ne (by omega), List.getElem?_set_ne (by omega), List.getElem?_set_ne (by omega)]
      rw [flat_at (x := S[q]) (List.getElem?_eq_getElem hq) hr]
  · rw [List.getElem?_eq_none (by rw [flat_len, List.length_set]; omega), List.getElem?_eq_none (by simp [hl]; omega)]
theorem flat_free (n : Nat) : flat (List.replicate n none) = (List.replicate n (sc none)).flatten := by
  induction n with
  | zero => rfl
  | succ n ih => unfold flat at ih ⊢; rw [List.replicate_succ, List.replicate_succ, List.flatMap_cons, List.flatten_cons, ih]
/-- Slots, as they lie. -/
def SlV (w : World) (T : TypeId) (v : Value) (S : List (Option (Ky × Ob))) : Prop :=
  (S = [] ∧ v = .slice none 0 0) ∨ ∃ g, v = .slice (some ⟨g, 0, none⟩) S.length S.length ∧ Blk w g (flat S) T
theorem SlV.kept {w w' : World} {T : TypeId} {v : Value} {S : List (Option (Ky × Ob))} {F : Nat → Prop} (h : SlV w T v S) (k : Kept F w w') (hF : ∀ g, v.ownBlock = some g → ¬ F g) : SlV w' T v S := by
  rcases h with h | ⟨g, rfl, h⟩
  · exact Or.inl h
  · exact Or.inr ⟨g, rfl, k.blk h (hF g rfl)⟩
theorem slot_cell {w : World} {T : TypeId} {g : Nat} {S : List (Option (Ky × Ob))} (h : Blk w g (flat S) T) {i : Nat} {x : Option (Ky × Ob)} (hi : S[i]? = some x) {j : Nat} (hj : j < 8) {u : Value} (hu : (sc x)[j]? = some u) :
    w.cell? ⟨g, i * 8 + j, none⟩ = some u := h.cell (by rw [flat_at hi hj, hu])
theorem slot_cells {w : World} {T : TypeId} {g : Nat} {S : List (Option (Ky × Ob))} (h : Blk w g (flat S) T) {i : Nat} {x : Option (Ky × Ob)} (hi : S[i]? = some x) {a0 a1 a2 a3 a4 a5 a6 a7 : Value} (hx : sc x = [a0, a1, a2, a3, a4, a5, a6, a7]) :
    w.cell? ⟨g, i * 8, none⟩ = some a0 ∧ w.cell? ⟨g, i * 8 + 1, none⟩ = some a1 ∧ w.cell? ⟨g, i * 8 + 2, none⟩ = some a2 ∧ w.cell? ⟨g, i * 8 + 3, none⟩ = some a3 ∧ w.cell? ⟨g, i * 8 + 4, none⟩ = some a4 ∧ w.cell? ⟨g, i * 8 + 5, none⟩ = some a5 ∧ w.cell? ⟨g, i * 8 + 6, none⟩ = some a6 ∧ w.cell? ⟨g, i * 8 + 7, none⟩ = some a7 :=
  ⟨slot_cell h hi (j := 0) (by decide) (by rw [hx]; rfl), slot_cell h hi (j := 1) (by decide) (by rw [hx]; rfl), slot_cell h hi (j := 2) (by decide) (by rw [hx]; rfl), slot_cell h hi (j := 3) (by decide) (by rw [hx]; rfl), slot_cell h hi (j := 4) (by decide) (by rw [hx]; rfl), slot_cell h hi (j := 5) (by decide) (by rw [hx]; rfl), slot_cell h hi (j := 6) (by decide) (by rw [hx]; rfl), slot_cell h hi (j := 7) (by decide) (by rw [hx]; rfl)⟩
theorem slot_set {w : World} {T : TypeId} {g : Nat} {S : List (Option (Ky × Ob))} (h : Blk w g (flat S) T) {i : Nat} (hi : i < S.length) (x : Option (Ky × Ob)) {a0 a1 a2 a3 a4 a5 a6 a7 : Value} (hx : sc x = [a0, a1, a2, a3, a4, a5, a6, a7]) :
    Blk ((((((((w.setCell ⟨g, i * 8, none⟩ a0).setCell ⟨g, i * 8 + 1, none⟩ a1).setCell ⟨g, i * 8 + 2, none⟩ a2).setCell ⟨g, i * 8 + 3, none⟩ a3).setCell ⟨g, i * 8 + 4, none⟩ a4).setCell ⟨g, i * 8 + 5, none⟩ a5).setCell ⟨g, i * 8 + 6, none⟩ a6).setCell ⟨g, i * 8 + 7, none⟩ a7) g (flat (S.set i x)) T := by
  rw [flat_set hi x hx]
  exact ((((((((h.set _ _).set _ _).set _ _).set _ _).set _ _).set _ _).set _ _).set _ _)
theorem slot_kept (w : World) (g i : Nat) (a0 a1 a2 a3 a4 a5 a6 a7 : Value) :
    Kept (fun k => k = g) w ((((((((w.setCell ⟨g, i * 8, none⟩ a0).setCell ⟨g, i * 8 + 1, none⟩ a1).setCell ⟨g, i * 8 + 2, none⟩ a2).setCell ⟨g, i * 8 + 3, none⟩ a3).setCell ⟨g, i * 8 + 4, none⟩ a4).setCell ⟨g, i * 8 + 5, none⟩ a5).setCell ⟨g, i * 8 + 6, none⟩ a6).setCell ⟨g, i * 8 + 7, none⟩ a7) :=
  ((((((((Kept.refl (fun k => k = g) w).set (b := g) (fun _ => rfl) _ _).set (b := g) (fun _ => rfl) _ _).set (b := g) (fun _ => rfl) _ _).set (b := g) (fun _ => rfl) _ _).set (b := g) (fun _ => rfl) _ _).set (b := g) (fun _ => rfl) _ _).set (b := g) (fun _ => rfl) _ _).set (b := g) (fun _ => rfl) _ _
end Go.Proofs.YtjjamooihddkgaaGreat.TbRO

/- Slots with open addressing: where a search begins, one on, how far, a search. Conditions: each theorem's own. -/
namespace Go.Proofs.YtjjamooihddkgaaGreat.TbO
open Go.RowKit Hp TbM TbN TbRO
open Ps (Ob)
attribute [local go_sem ↓] Go.wp_at_zero Go.wp_at_succ
abbrev ky (k : Ky) : Value := .agg #[.int .i64 k.1, .int .u64 k.2]
set_option maxHeartbeats 1000000 in
theorem home_any {n c : Nat} (h : Pow n) (a : Option Addr) (k : Ky) (w : World) : Calls Tryz.prog 109 #[.slice a n c, ky k] w fun e w' => e = .returned (.int .i64 (homeF n k : Nat)) ∧ Kept (fun _ => False) w w' := by
  obtain ⟨k1, k2⟩ := k
  have M := Lib.hid mix_any
  have h0 := h.pos
  have hl := h.le
  have hm := home_lt h0 (k1, k2)
  have r1 : 0 ≤ IntKind.u64.wrap k1 ∧ IntKind.u64.wrap k1 < 18446744073709551616 := by rw [IntKind.wrap_u64]; omega
  have r2 : 0 ≤ IntKind.u64.wrap (mixF (IntKind.u64.wrap k1) + k2) ∧ IntKind.u64.wrap (mixF (IntKind.u64.wrap k1) + k2) < 18446744073709551616 := by rw [IntKind.wrap_u64]; omega
  have e1 : IntKind.i64.wrap ((n : Int) - 1) = (n : Int) - 1 := by rw [IntKind.wrap_i64]; omega
  have e2 : IntKind.u64.wrap ((n : Int) - 1) = (n : Int) - 1 := by rw [IntKind.wrap_u64]; omega
  have E := Lib.hid (show wrap64 (bits .and .u64 (mixF (IntKind.u64.wrap (mixF (IntKind.u64.wrap k1) + k2))) ((n : Int) - 1)) = (homeF n (k1, k2) : Nat) by
    rw [and_u64 h]
    have := home_int h0 (k1, k2)
    unfold hashF at this
    rw [this]
    unfold wrap64
    omega)
  generalize homeF n (k1, k2) = m at *
  have M1 := Lib.hid (fun w => M.out (IntKind.u64.wrap k1) w r1.1 r1.2)
  have M2 := Lib.hid (fun w => M.out (IntKind.u64.wrap (mixF (IntKind.u64.wrap k1) + k2)) w r2.1 r2.2)
  clear r1 r2 M h
  go_enter Tryz.func109, Tryz.ntmps109
  go_upto_region 1 with fail
  have hR := Blk.new w [.int .i64 k1, .int .u64 k2] 95
  have hk := (Kept.refl (fun _ => False) w).alloc (.cells [.int .i64 k1, .int .u64 k2].toArray 95)
  dsimp only [List.toArray] at hR hk
  have c0 := hR.cell (o := 0) rfl
  have c1 := hR.cell (o := 1) rfl
  have HK := Lib.hid hk
  clear hR hk
  generalize w.alloc (.cells #[.int .i64 k1, .int .u64 k2] 95) = w1 at *
  generalize w.heap.size = rb at *
  go_quiet ((go_at_call 145; first | (with_reducible exact Calls.quiet_of_same ((M1.out _).mono fun _ _ ⟨e1, e2⟩ => ⟨e1, e2.symm⟩)) | (with_reducible exact Calls.quiet_of_same ((M2.out _).mono fun _ _ ⟨e1, e2⟩ => ⟨e1, e2.symm⟩))))
  go_wp2_with fail
  go_ret
  exact ⟨congrArg (fun z => Ending.returned (.int .i64 z)) E.out, HK.out.drewN _⟩
theorem after_any {n c i : Nat} (h : Pow n) (hi : i < n) (a : Option Addr) (w : World) : Calls Tryz.prog 107 #[.slice a n c, .int .i64 i] w fun e w' => e = .returned (.int .i64 (nxt n i : Nat)) ∧ w = w' := by
  have hl := h.le
  have hb := and_i64 h ((i : Int) + 1)
  rw [mod_nxt hi] at hb
  have hm := nxt_lt hi
  generalize nxt n i = m at *
  have e1 : IntKind.i64.wrap ((n : Int) - 1) = (n : Int) - 1 := by rw [IntKind.wrap_i64]; omega
  have e2 : IntKind.i64.wrap ((i : Int) + 1) = (i : Int) + 1 := by rw [IntKind.wrap_i64]; omega
  clear h
  go_enter Tryz.func107, Tryz.ntmps107
  go_wp2_with fail
  go_ret
  exact ⟨rfl, rfl⟩
end Go.Proofs.YtjjamooihddkgaaGreat.TbO

/- Slots with open addressing: a search. Conditions: each theorem's own. -/
namespace Go.Proofs.YtjjamooihddkgaaGreat.TbO
open Go.RowKit Hp TbM TbN TbRO
open Ps (Ob)
attribute [local go_sem ↓] Go.wp_at_zero Go.wp_at_succ
/-- A value, as it lies. -/
abbrev ev (v : Ob) : Value := .agg #[.int .u64 (v.id : Int), .int .i64 v.dst, .slice v.s v.d.length v.c, .int .i64 v.st, .bool (v.st == 2)]
abbrev zv : Value := .agg #[.int .u64 0, .int .i64 0, .slice none 0 0, .int .i64 0, .bool false]
abbrev fl (S : List (Option (Ky × Ob))) : List Value := flat S
theorem key_struct : Tryz.prog.underlying 95 = some (.struct (Tryz.prog.fieldsOf 95)) := by kernel_rfl
theorem neq_key (a b c d : Int) (r : Bool) (hr : r = !(a == c && b == d)) (w : World) : (binOp .neq 95 (.agg #[.int .i64 a, .int .u64 b]) (.agg #[.int .i64 c, .int .u64 d])).run Tryz.prog w = .ok (.bool r) w := by
  have hp : Tryz.prog.stoodInHeld 95 = false := by kernel_rfl
  rw [run_neq_struct, show (10000 : Nat) = 9999 + 1 from rfl, run_equalIn_agg w 9999 95 _ _ key_struct hp]
  simp only [Program.fieldsOf, Tryz.underlying95]
  have u3 := Tryz.underlying3
  have u4 := Tryz.underlying22
  have a3 := Tryz.isAgg3
  have z3 := Tryz.sizeOf3
  have a4 := Tryz.isAgg22
  have z4 := Tryz.sizeOf22
  go_simp
  subst hr
  by_cases h1 : a = c <;> by_cases h2 : b = d <;> simp [h1, h2]
/-- What a search answers that begins at h. -/
def FindP (S : List (Option (Ky × Ob))) (k : Ky) (h : Nat) (w : World) (e : Ending) (w' : World) : Prop :=
  ∃ d : Nat, d < S.length ∧ Kept (fun _ => False) w w' ∧ (∀ e, e < d → ∃ k' u, k' ≠ k ∧ S[pos S.length h e]? = some (some (k', u))) ∧
    ((∃ v, S[pos S.length h d]? = some (some (k, v)) ∧ e = .returned (.tuple #[.int .i64 (pos S.length h d : Nat), .bool true])) ∨
     (S[pos S.length h d]? = some none ∧ e = .returned (.tuple #[.int .i64 (pos S.length h d : Nat), .bool false])))
theorem find_none (k : Ky) (w : World) : Calls Tryz.prog 105 #[.slice none 0 0, ky k] w fun e w' => e = .returned (.tuple #[.int .i64 0, .bool false]) ∧ Kept (fun _ => False) w w' := by
  obtain ⟨k1, k2⟩ := k
  go_enter Tryz.func105, Tryz.ntmps105
  go_wp2_with fail
  go_ret2
  exact ⟨rfl, (Kept.refl _ w).alloc _⟩
set_option maxHeartbeats 4000000 in
theorem find_any {w : World} {T : TypeId} {g : Nat} {S : List (Option (Ky × Ob))} (hB : Blk w g (fl S) T) (hn : Pow S.length) {f : Nat} (hf : S[f]? = some none) (k : Ky) :
    Calls Tryz.prog 105 #[.slice (some ⟨g, 0, none⟩) S.length S.length, ky k] w (FindP S k (homeF S.length k) w) := by
  obtain ⟨k1, k2⟩ := k
  have h0 := hn.pos
  have hl := hn.le
  have hH := home_lt h0 (k1, k2)
  have HO := Lib.hid fun w => home_any (c := S.length) hn (some ⟨g, 0, none⟩) (k1, k2) w
  have AF := Lib.hid fun i (hi : i < S.length) w => after_any (c := S.length) hn hi (some ⟨g, 0, none⟩) w
  generalize homeF S.length (k1, k2) = h at *
  have hfl := lt_of_some hf
  have hz : ((S.length : Int) == 0) = false := by rw [beq_eq_false_iff_ne]; omega
  have HB := Lib.hid hB
  have HF := Lib.hid hf
  clear hB hf
  go_enter Tryz.func105, Tryz.ntmps105
  go_upto_region 3 with fail
  have hR := Blk.new w [.int .i64 k1, .int .u64 k2] 95
  have hk := (Kept.refl (fun _ => False) w).alloc (.cells [.int .i64 k1, .int .u64 k2].toArray 95)
  dsimp only [List.toArray] at hR hk
  have c0 := hR.cell (o := 0) rfl
  have c1 := hR.cell (o := 1) rfl
  have HR := Lib.hid hR
  have HK := Lib.hid hk
  clear hR hk
  generalize w.alloc (.cells #[.int .i64 k1, .int .u64 k2] 95) = w1 at *
  generalize w.heap.size = rb at *
  go_wp2_with fail
  with_reducible refine Calls.mono (HO.out _) ?_
  rintro e w2 ⟨rfl, k2'⟩
  have HK2 := Lib.hid (HK.out.trans k2')
  have HR2 := Lib.hid (k2'.blk HR.out (fun f => f))
  clear k2' HK HR c0 c1 HO
  go_wp2_with fail
  have e0 : pos S.length h 0 = h := pos_zero hH
  go_loopg [6] S.length (fun mm s6 wr => ∃ d : Nat, Hid (mm = S.length - d) ∧ d < S.length ∧ s6 = .int .i64 (pos S.length h d : Nat) ∧ Hid (∀ e, e < d → ∃ k' u, k' ≠ (k1, k2) ∧ S[pos S.length h e]? = some (some (k', u))) ∧ Hid (Kept (fun _ => False) w wr) ∧ Hid (Blk wr rb [.int .i64 k1, .int .u64 k2] 95))
  case atStart => exact ⟨0, Lib.hid (by omega), h0, by rw [e0], Lib.hid (fun e he => by omega), HK2, HR2⟩
  case round =>
    obtain ⟨d, hm, hd, rfl, hall, hk, hr⟩ := hrel
    have hp := pos_lt hH hd
    have hB := hk.out.blk (show Blk w g (fl S) T from HB.out) (fun f => f)
    have r0 := hr.out.cell (o := 0) rfl
    have r1 := hr.out.cell (o := 1) rfl
    rcases hx : S[pos S.length h d]? with _ | _ | ⟨⟨a, b⟩, v⟩
    · exfalso; rw [List.getElem?_eq_none_iff] at hx; omega
    · obtain ⟨c0, c1, c2, c3, c4, c5, c6, c7⟩ := slot_cells hB hx rfl
      have HX := Lib.hid hx
      have HP : Hid (∀ p, p = pos S.length h d → S[p]? = some none) := Lib.hid (fun p e => e ▸ HX.out)
      clear hx hB
      obtain ⟨p, hpe⟩ : ∃ p, p = pos S.length h d := ⟨_, rfl⟩
      have HPE := Lib.hid hpe
      rw [← hpe] at c0 c1 c2 c3 hp ⊢
      clear hpe HX
      go_wp2_with fail
      go_quiet (fail)
      go_wp2_with fail
      go_quiet (fail)
      go_wp2_with fail
      go_ret2
      exact ⟨d, hd, (hk.out.drewN _).drewN _, hall.out, Or.inr ⟨by rw [← HPE.out]; exact HP.out p HPE.out, congrArg (fun p : Nat => Ending.returned (.tuple #[.int .i64 (p : Int), .bool false])) HPE.out⟩⟩
    · obtain ⟨c0, c1, c2, c3, c4, c5, c6, c7⟩ := slot_cells hB hx rfl
      have HX := Lib.hid hx
      have HP : Hid (∀ p, p = pos S.length h d → S[p]? = some (some ((a, b), v))) := Lib.hid (fun p e => e ▸ HX.out)
      clear hx hB
      by_cases hkk : (a, b) = (k1, k2)
      · cases hkk
        have nk := neq_key k1 k2 k1 k2 false (by simp)
        obtain ⟨p, hpe⟩ : ∃ p, p = pos S.length h d := ⟨_, rfl⟩
        have HPE := Lib.hid hpe
        rw [← hpe] at c0 c1 c2 c3 hp ⊢
        clear hpe HX
        go_wp2_with fail
        go_quiet (fail)
        go_wp2_with fail
        go_quiet (fail)
        go_wp2_with fail
        go_ret2
        exact ⟨d, hd, (hk.out.drewN _).drewN _, hall.out, Or.inl ⟨v, by rw [← HPE.out]; exact HP.out p HPE.out, congrArg (fun p : Nat => Ending.returned (.tuple #[.int .i64 (p : Int), .bool true])) HPE.out⟩⟩
      · have nk := neq_key a b k1 k2 true (by rw [eq_comm, Bool.not_eq_true', Bool.and_eq_false_iff, beq_eq_false_iff_ne, beq_eq_false_iff_ne]; by_cases e : a = k1 <;> simp_all)
        have hd1 : d + 1 < S.length := by
          rcases Nat.lt_or_ge (d + 1) S.length with h1 | h1
          · exact h1
          · exfalso
            have h2 := dist_lt hH hfl
            have h3 := pos_dist hH hfl
            rcases Nat.lt_or_ge (dist S.length h f) d with h4 | h4
            · obtain ⟨k', u, _, h5⟩ := hall.out _ h4
              rw [h3] at h5
              have := HF.out; rw [h5] at this; cases this
            · have h5 : dist S.length h f = d := by omega
              rw [h5] at h3
              have := HP.out f h3.symm; rw [HF.out] at this; cases this
        have HN := Lib.hid (pos_succ hH hd1)
        have HKK := Lib.hid hkk
        clear hkk HF hfl
        obtain ⟨p, hpe⟩ : ∃ p, p = pos S.length h d := ⟨_, rfl⟩
        have HPE := Lib.hid hpe
        rw [← hpe] at c0 c1 c2 c3 hp ⊢
        clear hpe HX
        have A := Lib.hid (AF.out p hp)
        go_wp2_with fail
        go_quiet (fail)
        go_wp2_with fail
        with_reducible refine Calls.mono (A.out _) ?_
        rintro e w' ⟨rfl, rfl⟩
        go_wp2_with fail
        go_roundg (S.length - (d + 1))
        case measure => have := hm.out; omega
        case rel => exact ⟨d + 1, Lib.hid rfl, hd1, by rw [HN.out, HPE.out], Lib.hid (fun e he => by
          rcases Nat.lt_or_ge e d with h4 | h4
          · exact hall.out e h4
          · obtain rfl : e = d := by omega
            exact ⟨(a, b), v, HKK.out, by rw [← HPE.out]; exact HP.out p HPE.out⟩), Lib.hid (hk.out.drewN _), Lib.hid (hr.out.drewN _)⟩
end Go.Proofs.YtjjamooihddkgaaGreat.TbO

/- Slots with open addressing: one is put where its search ends. Conditions: each theorem's own. -/
namespace Go.Proofs.YtjjamooihddkgaaGreat.TbO
open Go.RowKit Hp TbM TbN TbRO
open Ps (Ob)
attribute [local go_sem ↓] Go.wp_at_zero Go.wp_at_succ
theorem run_bd (k1 k2 : Int) (v : Ob) (w : World) : (Instr.build 138 #[(0, .bool true), (1, .agg #[.int .i64 k1, .int .u64 k2]), (2, ev v)]).run Tryz.prog w = .ok (.agg #[.bool true, .int .i64 k1, .int .u64 k2, .int .u64 (v.id : Int), .int .i64 v.dst, .slice v.s v.d.length v.c, .int .i64 v.st, .bool (v.st == 2)]) w := by
  kernel_rfl
theorem wpList_build_run {w : World} {ops : Array Oper} {rest : List Oper} {o : Oper} {a : Act} {Q : Exit → Act → World → Prop} (hgd : o.guard = none) (t : TypeId) (parts : Array (Nat × Operand)) (ho : o.op = .build t parts) {v : Value}
    (hr : (Instr.build t (parts.map fun (i, x) => (i, a.eval x))).run Tryz.prog w = .ok v w) (h : wpList Tryz.prog ops Q rest (a.put o.dst v) w) : wpList Tryz.prog ops Q (o :: rest) a w :=
  wpList_plain hgd fun _ hK => by
    unfold Oper.wp execOp
    simp only [ho, Sem.run_bind, hr, Result.andThen_ok]
    exact hK _ _ h
theorem wpList_index_run {w : World} {ops : Array Oper} {rest : List Oper} {o : Oper} {a : Act} {Q : Exit → Act → World → Prop} (hgd : o.guard = none) (t : TypeId) (x y : Operand) (ho : o.op = .indexAddr t x y) {v : Value}
    (hr : (Instr.indexAt t (a.eval x) (a.eval y)).run Tryz.prog w = .ok v w) (h : wpList Tryz.prog ops Q rest (a.put o.dst v) w) : wpList Tryz.prog ops Q (o :: rest) a w :=
  wpList_plain hgd fun _ hK => by
    unfold Oper.wp execOp
    simp only [ho, Sem.run_bind, hr, Result.andThen_ok]
    exact hK _ _ h
/-- A slot's place. -/
theorem run_ix (g c : Nat) {n p : Nat} (h : p < n) (w : World) : (Instr.indexAt 125 (.slice (some ⟨g, 0, none⟩) n c) (.int .i64 p)).run Tryz.prog w = .ok (.pointer (some ⟨g, p * 8, none⟩)) w := by
  have hs := Tryz.sizeOf138
  simp only [Instr.indexAt, Sem.run_bind, run_underlying Tryz.underlying125, Result.andThen_ok, asIntOf]
  simp only [Sem.run_pure, Result.andThen_ok]
  have hb : (0 : Int) ≤ (p : Int) ∧ (p : Int) < (n : Int) := ⟨by omega, by omega⟩
  rw [if_pos hb]
  simp only [Sem.run_bind, hs, Sem.run_pure, Result.andThen_ok, Go.WideShapes.add_plain, Int.toNat_natCast, Nat.zero_add]
/-- What filling leaves. -/
def FillP (S : List (Option (Ky × Ob))) (k : Ky) (v : Ob) (g : Nat) (T : TypeId) (w : World) (e : Ending) (w' : World) : Prop :=
  e = .returned (.tuple #[]) ∧ ∃ i, S[i]? = some none ∧ (∀ d, d < dist S.length (homeF S.length k) i → Filled S (pos S.length (homeF S.length k) d)) ∧ Blk w' g (fl (S.set i (some (k, v)))) T ∧ Kept (fun j => j = g) w w'
set_option maxHeartbeats 4000000 in
theorem fill_any {w : World} {T : TypeId} {g : Nat} {S : List (Option (Ky × Ob))} (hB : Blk w g (fl S) T) (hn : Pow S.length) {f : Nat} (hf : S[f]? = some none) (k : Ky) (v : Ob) (hk : ∀ u, (k, u) ∉ kvs S) :
    Calls Tryz.prog 73 #[.slice (some ⟨g, 0, none⟩) S.length S.length, ky k, ev v] w (FillP S k v g T w) := by
  have F := Lib.hid fun (w' : World) (h : Kept (fun _ => False) w w') => find_any (h.blk hB (fun f => f)) hn hf k
  have HB := Lib.hid hB
  have HKN := Lib.hid hk
  have h0 := hn.pos
  have hl := hn.le
  have hH := home_lt h0 k
  clear hB hk hf
  obtain ⟨k1, k2⟩ := k
  go_enter Tryz.func73, Tryz.ntmps73
  go_upto_region 1 with fail
  have hR := (Blk.new w [.int .i64 k1, .int .u64 k2] 95).old (.cells (oc v).toArray 45)
  have hV := Blk.new (w.alloc (.cells [.int .i64 k1, .int .u64 k2].toArray 95)) (oc v) 45
  rw [World.size_alloc] at hV
  have hk := ((Kept.refl (fun _ => False) w).alloc (.cells [.int .i64 k1, .int .u64 k2].toArray 95)).alloc (.cells (oc v).toArray 45)
  dsimp only [List.toArray, oc] at hR hV hk
  have c0 := hR.cell (o := 0) rfl
  have c1 := hR.cell (o := 1) rfl
  have HR := Lib.hid hR
  have HV := Lib.hid hV
  have HK := Lib.hid hk
  clear hR hV hk
  generalize (w.alloc (.cells #[.int .i64 k1, .int .u64 k2] 95)).alloc (.cells #[.int .u64 (v.id : Int), .int .i64 v.dst, .slice v.s v.d.length v.c, .int .i64 v.st, .bool (v.st == 2)] 45) = w1 at *
  generalize w.heap.size = rb at *
  go_wp2_with fail
  with_reducible refine Calls.mono (F.out _ HK.out) ?_
  rintro e w2 ⟨d, hd, k2', hall, hres⟩
  rcases hres with ⟨u, hu, rfl⟩ | ⟨hu, rfl⟩
  · exact absurd (mem_kvs.2 ⟨_, hu⟩) (HKN.out u)
  · have hR2 := k2'.blk HR.out (fun f => f)
    have k02 := HK.out.trans k2'
    have hB2 := k02.blk HB.out (fun f => f)
    clear c0 c1
    have hV2 := k2'.blk HV.out (fun f => f)
    have c0 := hR2.cell (o := 0) rfl
    have c1 := hR2.cell (o := 1) rfl
    have v0 := hV2.cell (o := 0) rfl
    have v1 := hV2.cell (o := 1) rfl
    have v2 := hV2.cell (o := 2) rfl
    have v3 := hV2.cell (o := 3) rfl
    have v4 := hV2.cell (o := 4) rfl
    have hp := pos_lt hH hd
    have hdist := dist_pos hH hd
    have P : Hid (FillP S (k1, k2) v g T w (.returned (.tuple #[])) ((((((((w2.setCell ⟨g, pos S.length (homeF S.length (k1, k2)) d * 8, none⟩ (.bool true)).setCell ⟨g, pos S.length (homeF S.length (k1, k2)) d * 8 + 1, none⟩ (.int .i64 k1)).setCell ⟨g, pos S.length (homeF S.length (k1, k2)) d * 8 + 2, none⟩ (.int .u64 k2)).setCell ⟨g, pos S.length (homeF S.length (k1, k2)) d * 8 + 3, none⟩ (.int .u64 (v.id : Int))).setCell ⟨g, pos S.length (homeF S.length (k1, k2)) d * 8 + 4, none⟩ (.int .i64 v.dst)).setCell ⟨g, pos S.length (homeF S.length (k1, k2)) d * 8 + 5, none⟩ (.slice v.s v.d.length v.c)).setCell ⟨g, pos S.length (homeF S.length (k1, k2)) d * 8 + 6, none⟩ (.int .i64 v.st)).setCell ⟨g, pos S.length (homeF S.length (k1, k2)) d * 8 + 7, none⟩ (.bool (v.st == 2)))) :=
      Lib.hid ⟨rfl, _, hu, fun e he => by rw [hdist] at he; obtain ⟨k', u', _, h⟩ := hall e he; exact ⟨_, h⟩, slot_set hB2 hp _ rfl, (k02.mono (fun _ _ f => f.elim)).trans (slot_kept w2 g _ _ _ _ _ _ _ _ _)⟩
    obtain ⟨q0, q1, q2, q3, q4, q5, q6, q7⟩ := slot_cells hB2 hu rfl
    have f0 := hB2.frozen (pos S.length (homeF S.length (k1, k2)) d * 8)
    have f1 := hB2.frozen (pos S.length (homeF S.length (k1, k2)) d * 8 + 1)
    have f2 := hB2.frozen (pos S.length (homeF S.length (k1, k2)) d * 8 + 2)
    have f3 := hB2.frozen (pos S.length (homeF S.length (k1, k2)) d * 8 + 3)
    have f4 := hB2.frozen (pos S.length (homeF S.length (k1, k2)) d * 8 + 4)
    have f5 := hB2.frozen (pos S.length (homeF S.length (k1, k2)) d * 8 + 5)
    have f6 := hB2.frozen (pos S.length (homeF S.length (k1, k2)) d * 8 + 6)
    have f7 := hB2.frozen (pos S.length (homeF S.length (k1, k2)) d * 8 + 7)
    have hbd := Lib.hid (run_bd k1 k2 v)
    clear hall hu hR2 hV2 k02 hB2 k2' HK HR HV hdist HKN F
    generalize pos S.length (homeF S.length (k1, k2)) d = p at *
    go_wp2_with (first | ((with_reducible refine wpList_index_run rfl 125 _ _ rfl (v := .pointer (some ⟨g, p * 8, none⟩)) ?_ ?_); exact run_ix g S.length hp _) | ((with_reducible refine wpList_build_run rfl 138 _ rfl (v := .agg #[.bool true, .int .i64 k1, .int .u64 k2, .int .u64 (v.id : Int), .int .i64 v.dst, .slice v.s v.d.length v.c, .int .i64 v.st, .bool (v.st == 2)]) ?_ ?_); (simp only [List.map_toArray, List.map_cons, List.map_nil]; exact hbd.out _)))
    go_end0
    exact P.out
end Go.Proofs.YtjjamooihddkgaaGreat.TbO

