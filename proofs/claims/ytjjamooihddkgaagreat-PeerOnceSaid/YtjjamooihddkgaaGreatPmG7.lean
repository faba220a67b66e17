/- A line of messages, linked: put, take. Conditions: each theorem's own. -/
import Derived.Test.YtjjamooihddkgaaGreatPmG6
import Derived.LoopTactic
import Derived.Deep.LoopGhost
import Derived.Deep.RegionLaw
import Derived.Deep.RegionHeld3
import Derived.Deep.CutBlock
import Derived.Deep.RegionWith
import Derived.Deep.DeepCutAuto
import Derived.Deep.DrawnRows
import Derived.WalkLawsBesides
import Derived.Test.YtjjamooihddkgaaGreatPmG2
import Derived.Test.YtjjamooihddkgaaGreatPmG1
import Derived.Laws.CopyOwn
import Derived.Laws.AppendOwn
import Derived.Laws.AppendOwnNone
import Derived.Lib.AppendZeros
import Derived.Lib.Overlaps
import Derived.Laws.Externs
import Derived.Maps.AppendAt
import Derived.Carry
set_option linter.unusedVariables false
set_option linter.unusedSimpArgs false
namespace Go.Proofs.YtjjamooihddkgaaGreat.Pl
open Go.RowKit Hp
attribute [local go_sem ↓] Go.wp_at_zero Go.wp_at_succ
/-- A message: whose, its number, where its bytes lie. -/
structure Ms where
  fr : Int
  id : Int
  a : Option Addr
  n : Nat
  c : Nat
/-- As a value. -/
abbrev mv (m : Ms) : Value := .agg #[.int .i64 m.fr, .int .u64 m.id, .slice m.a m.n m.c]
/-- A link's cells. -/
abbrev mc (m : Ms) (v : Value) : List Value := [.int .i64 m.fr, .int .u64 m.id, .slice m.a m.n m.c, v]
abbrev at_ (g : Nat) : Value := .pointer (some ⟨g, 0, none⟩)
def nx : List (Nat × Ms) → Value
  | [] => .pointer none
  | x :: _ => at_ x.1
def lst : List (Nat × Ms) → Value
  | [] => .pointer none
  | [x] => at_ x.1
  | _ :: y :: L => lst (y :: L)
/-- How they lie. -/
def Ch (w : World) : List (Nat × Ms) → Prop
  | [] => True
  | x :: L => Blk w x.1 (mc x.2 (nx L)) 166 ∧ Ch w L
theorem lst_push : ∀ (L : List (Nat × Ms)) (x : Nat × Ms), lst (L ++ [x]) = at_ x.1
  | [], x => rfl
  | [y], x => rfl
  | y :: z :: L, x => lst_push (z :: L) x
theorem nx_two (L : List (Nat × Ms)) (x y : Nat × Ms) : nx (L ++ [x, y]) = nx (L ++ [x]) := by cases L <;> rfl
theorem nx_push (L : List (Nat × Ms)) (y : Nat × Ms) (h : L ≠ []) : nx (L ++ [y]) = nx L := by
  cases L
  · exact absurd rfl h
  · rfl
theorem lst_cons (x : Nat × Ms) (L : List (Nat × Ms)) (h : L ≠ []) : lst (x :: L) = lst L := by
  cases L
  · exact absurd rfl h
  · rfl
theorem Ch.kept {w w' : World} {F : Nat → Prop} (k : Kept F w w') : ∀ {L : List (Nat × Ms)}, Ch w L → (∀ x ∈ L, ¬ F x.1) → Ch w' L
  | [], _, _ => trivial
  | x :: L, h, hF => ⟨k.blk h.1 (hF x (List.mem_cons_self ..)), Ch.kept k h.2 (fun y hy => hF y (List.mem_cons_of_mem _ hy))⟩
theorem Ch.lt {w : World} : ∀ {L : List (Nat × Ms)}, Ch w L → ∀ x ∈ L, x.1 < w.heap.size
  | [], _, x, hx => by simp at hx
  | y :: L, h, x, hx => by
    rcases List.mem_cons.1 hx with rfl | hx
    · exact h.1.lt
    · exact Ch.lt h.2 x hx
theorem Ch.last {w : World} : ∀ {L : List (Nat × Ms)} {x : Nat × Ms}, Ch w (L ++ [x]) → Blk w x.1 (mc x.2 (.pointer none)) 166
  | [], x, h => h.1
  | y :: L, x, h => Ch.last h.2
theorem ch_push {w w' : World} {x y : Nat × Ms} (hx : Blk w' x.1 (mc x.2 (at_ y.1)) 166) (hy : Blk w' y.1 (mc y.2 (.pointer none)) 166) :
    ∀ {L : List (Nat × Ms)}, Ch w (L ++ [x]) → (∀ z ∈ L, ∀ c, Blk w z.1 c 166 → Blk w' z.1 c 166) → Ch w' (L ++ [x, y])
  | [], h, _ => ⟨hx, hy, trivial⟩
  | z :: L, h, hk => by
    refine ⟨?_, ch_push hx hy h.2 (fun u hu => hk u (List.mem_cons_of_mem _ hu))⟩
    have := hk z (List.mem_cons_self ..) _ h.1
    show Blk w' z.1 (mc z.2 (nx (L ++ [x, y]))) _
    rw [nx_two]
    exact this
section
variable {α : Type} (p : List α) (f l n : α)
theorem end0 : (p ++ [f, l, n])[p.length]? = some f := by simp
theorem end1 : (p ++ [f, l, n])[p.length + 1]? = some l := by rw [List.getElem?_append_right (by omega)]; simp
theorem end2 : (p ++ [f, l, n])[p.length + 2]? = some n := by rw [List.getElem?_append_right (by omega)]; simp
theorem sete0 (x : α) : (p ++ [f, l, n]).set p.length x = p ++ [x, l, n] := by simp
theorem sete1 (x : α) : (p ++ [f, l, n]).set (p.length + 1) x = p ++ [f, x, n] := by rw [List.set_append_right _ _ (by omega)]; simp
theorem sete2 (x : α) : (p ++ [f, l, n]).set (p.length + 2) x = p ++ [f, l, x] := by rw [List.set_append_right _ _ (by omega)]; simp
end
/-- A line at the end of a block. -/
def En (pre : List Value) (L : List (Nat × Ms)) : List Value := pre ++ [nx L, lst L, .int .i64 (L.length : Nat)]
/-- What put leaves. -/
def PutL (w : World) (b : Nat) (pre : List Value) (T : TypeId) (L : List (Nat × Ms)) (m : Ms) (e : Ending) (w' : World) : Prop :=
  e = .returned (.tuple #[]) ∧ ∃ g, w.heap.size ≤ g ∧ g < w'.heap.size ∧ Blk w' b (En pre (L ++ [(g, m)])) T ∧ Ch w' (L ++ [(g, m)]) ∧ Kept (fun k => k = b ∨ ∃ x ∈ L, k = x.1) w w'
set_option maxHeartbeats 4000000 in
theorem put_nil {w : World} {b : Nat} {pre : List Value} {T : TypeId} (hB : Blk w b (En pre []) T) (m : Ms) :
    Calls Tryz.prog 94 #[.pointer (some ⟨b, pre.length, none⟩), mv m] w (PutL w b pre T [] m) := by
  have hbl := hB.lt
  have k2 : Kept (fun _ => False) w ((w.alloc (.cells #[.int .i64 m.fr, .int .u64 m.id, .slice m.a m.n m.c] 70)).alloc (.cells #[.int .i64 m.fr, .int .u64 m.id, .slice m.a m.n m.c, .pointer none] 166)) := ((Kept.refl (fun _ => False) w).alloc _).alloc _
  have hG := Blk.new (w.alloc (.cells #[.int .i64 m.fr, .int .u64 m.id, .slice m.a m.n m.c] 70)) (mc m (.pointer none)) 166
  rw [World.size_alloc] at hG
  dsimp only [List.toArray, mc] at hG
  obtain ⟨o, ho⟩ : ∃ o, pre.length = o := ⟨_, rfl⟩
  rw [ho]
  have HO := Lib.hid ho
  clear ho
  go_enter Tryz.func94, Tryz.ntmps94
  go_upto_region 2 with fail
  generalize (w.alloc (.cells #[.int .i64 m.fr, .int .u64 m.id, .slice m.a m.n m.c] 70)).alloc (.cells #[.int .i64 m.fr, .int .u64 m.id, .slice m.a m.n m.c, .pointer none] 166) = w2 at *
  have hB2 := k2.blk hB (fun f => f)
  have c0 := hB2.cell (end0 _ _ _ _)
  have c1 := hB2.cell (end1 _ _ _ _)
  have c2 := hB2.cell (end2 _ _ _ _)
  have f0 := hB2.frozen pre.length
  have f1 := hB2.frozen (pre.length + 1)
  have f2 := hB2.frozen (pre.length + 2)
  rw [HO.out] at c0 c1 c2 f0 f1 f2
  dsimp only [nx, lst, List.length_nil] at c0 c1 c2
  have P : Hid (PutL w b pre T [] m (.returned (.tuple #[])) (((w2.setCell ⟨b, o, none⟩ (at_ (w.heap.size + 1))).setCell ⟨b, o + 1, none⟩ (at_ (w.heap.size + 1))).setCell ⟨b, o + 2, none⟩ (.int .i64 1))) := by
    have hs : w.heap.size + 1 < w2.heap.size := hG.lt
    have e := ((hB2.set pre.length (at_ (w.heap.size + 1))).set (pre.length + 1) (at_ (w.heap.size + 1))).set (pre.length + 2) (.int .i64 1)
    unfold En at e
    rw [sete0, sete1, sete2, HO.out] at e
    have hne : b ≠ w.heap.size + 1 := by omega
    exact Lib.hid ⟨rfl, w.heap.size + 1, by omega, by simpa using hs, e, ⟨((hG.far hne _ _).far hne _ _).far hne _ _, trivial⟩, (((k2.mono (fun _ _ f => f.elim)).set (fun _ => Or.inl rfl) _ _).set (fun _ => Or.inl rfl) _ _).set (fun _ => Or.inl rfl) _ _⟩
  clear hB hG k2 hB2 HO
  go_wp2_with fail
  go_end0
  exact P.out
set_option maxHeartbeats 4000000 in
theorem put_more {w : World} {b : Nat} {pre : List Value} {T : TypeId} {L : List (Nat × Ms)} {x : Nat × Ms} (hB : Blk w b (En pre (L ++ [x])) T) (hC : Ch w (L ++ [x])) (hnd : ((L ++ [x]).map Prod.fst).Nodup) (hb : ∀ z ∈ L ++ [x], z.1 ≠ b) (hl : (L ++ [x]).length ≤ 1000000) (m : Ms) :
    Calls Tryz.prog 94 #[.pointer (some ⟨b, pre.length, none⟩), mv m] w (PutL w b pre T (L ++ [x]) m) := by
  have hxl := hC.last.lt
  have hxb := hb x (by simp)
  have hbl := hB.lt
  have k2 : Kept (fun _ => False) w ((w.alloc (.cells #[.int .i64 m.fr, .int .u64 m.id, .slice m.a m.n m.c] 70)).alloc (.cells #[.int .i64 m.fr, .int .u64 m.id, .slice m.a m.n m.c, .pointer none] 166)) := ((Kept.refl (fun _ => False) w).alloc _).alloc _
  have hG := Blk.new (w.alloc (.cells #[.int .i64 m.fr, .int .u64 m.id, .slice m.a m.n m.c] 70)) (mc m (.pointer none)) 166
  rw [World.size_alloc] at hG
  dsimp only [List.toArray, mc] at hG
  obtain ⟨o, ho⟩ : ∃ o, pre.length = o := ⟨_, rfl⟩
  rw [ho]
  have HO := Lib.hid ho
  clear ho
  go_enter Tryz.func94, Tryz.ntmps94
  go_upto_region 2 with fail
  generalize (w.alloc (.cells #[.int .i64 m.fr, .int .u64 m.id, .slice m.a m.n m.c] 70)).alloc (.cells #[.int .i64 m.fr, .int .u64 m.id, .slice m.a m.n m.c, .pointer none] 166) = w2 at *
  have hB2 := k2.blk hB (fun f => f)
  have hC2 := hC.kept k2 (fun _ _ f => f)
  have hX2 := hC2.last
  have c0 := hB2.cell (end0 _ _ _ _)
  have c1 := hB2.cell (end1 _ _ _ _)
  have c2 := hB2.cell (end2 _ _ _ _)
  have f1 := hB2.frozen (pre.length + 1)
  have f2 := hB2.frozen (pre.length + 2)
  rw [HO.out] at c0 c1 c2 f1 f2
  have x3 := hX2.cell (o := 3) rfl
  have fx := hX2.frozen 3
  obtain ⟨xg, xm⟩ := x
  rw [lst_push] at c1
  obtain ⟨y, hy⟩ : ∃ y, nx (L ++ [(xg, xm)]) = at_ y := by cases L <;> exact ⟨_, rfl⟩
  rw [hy] at c0
  obtain ⟨n, hn⟩ : ∃ n, (L ++ [(xg, xm)]).length = n := ⟨_, rfl⟩
  rw [hn] at c2 hl
  have hw : IntKind.i64.wrap ((n : Int) + 1) = (n : Int) + 1 := by rw [IntKind.wrap_i64]; omega
  have P : Hid (PutL w b pre T (L ++ [(xg, xm)]) m (.returned (.tuple #[])) (((w2.setCell ⟨xg, 3, none⟩ (at_ (w.heap.size + 1))).setCell ⟨b, o + 1, none⟩ (at_ (w.heap.size + 1))).setCell ⟨b, o + 2, none⟩ (.int .i64 ((n : Int) + 1)))) := by
    have hs : w.heap.size + 1 < w2.heap.size := hG.lt
    have hxb' : xg ≠ b := hxb
    have e := (((hB2.far hxb' 3 (at_ (w.heap.size + 1))).set (pre.length + 1) (at_ (w.heap.size + 1))).set (pre.length + 2) (.int .i64 ((n : Int) + 1)))
    unfold En at e
    rw [sete1, sete2, HO.out] at e
    have hne : b ≠ w.heap.size + 1 := by omega
    have hxl' : xg < w.heap.size := hxl
    have hne2 : xg ≠ w.heap.size + 1 := by omega
    have hX3 := ((hX2.set 3 (at_ (w.heap.size + 1))).far (fun e => hxb' e.symm) (o + 1) (at_ (w.heap.size + 1))).far (fun e => hxb' e.symm) (o + 2) (.int .i64 ((n : Int) + 1))
    have hG3 := ((hG.far hne2 3 (at_ (w.heap.size + 1))).far hne (o + 1) (at_ (w.heap.size + 1))).far hne (o + 2) (.int .i64 ((n : Int) + 1))
    have hz : ∀ z ∈ L, xg ≠ z.1 := by
      intro z hz e
      rw [List.map_append, List.nodup_append] at hnd
      exact hnd.2.2 z.1 (List.mem_map_of_mem hz) xg (by simp) e.symm
    have hC3 := ch_push (x := (xg, xm)) (y := (w.heap.size + 1, m)) hX3 hG3 hC2 (fun z hzm c hc => ((hc.far (hz z hzm) _ _).far (fun e => hb z (by simp [hzm]) e.symm) _ _).far (fun e => hb z (by simp [hzm]) e.symm) _ _)
    refine Lib.hid ⟨rfl, w.heap.size + 1, by omega, by simpa using hs, ?_, ?_, ?_⟩
    · unfold En
      rw [nx_push _ _ (by simp), lst_push, List.length_append, hn]
      exact e
    · rw [List.append_assoc]; exact hC3
    · exact (((k2.mono (fun _ _ f => f.elim)).set (fun _ => Or.inr ⟨(xg, xm), by simp, rfl⟩) _ _).set (fun _ => Or.inl rfl) _ _).set (fun _ => Or.inl rfl) _ _
  have hbx : b ≠ xg := fun e => hxb e.symm
  have hxb2 : xg ≠ b := hxb
  clear hB hG k2 hB2 hC hC2 hX2 hnd hb hy hn hxb HO
  go_wp2_with fail
  go_end0
  exact P.out
theorem put_any {w : World} {b : Nat} {pre : List Value} {T : TypeId} {L : List (Nat × Ms)} (hB : Blk w b (En pre L) T) (hC : Ch w L) (hnd : (L.map Prod.fst).Nodup) (hb : ∀ z ∈ L, z.1 ≠ b) (hl : L.length ≤ 1000000) (m : Ms) :
    Calls Tryz.prog 94 #[.pointer (some ⟨b, pre.length, none⟩), mv m] w (PutL w b pre T L m) := by
  rcases List.eq_nil_or_concat L with rfl | ⟨L0, x, rfl⟩
  · exact put_nil hB m
  · rw [List.concat_eq_append] at *
    exact put_more hB hC hnd hb hl m
end Go.Proofs.YtjjamooihddkgaaGreat.Pl

/- A line of messages, linked: take. Conditions: each theorem's own. -/
namespace Go.Proofs.YtjjamooihddkgaaGreat.Pl
open Go.RowKit Hp
attribute [local go_sem ↓] Go.wp_at_zero Go.wp_at_succ
theorem results_msg {fn : Func} {p u : Tmp} (h : fn.results = #[.cell p 70, .tmp u]) (tmps : Array Value) (w : World) (g : Nat) {c0 c1 c2 : Value}
    (hp : tmps.getD p undef = .pointer (some ⟨g, 0, none⟩)) (hB : Blk w g [c0, c1, c2] 70) : (results fn tmps).run Tryz.prog w = .ok (.tuple #[.agg #[c0, c1, c2], tmps.getD u undef]) w := by
  rw [results_cell_tmp h, hp]
  simp only [asAddr, Sem.run_pure, Result.andThen_ok]
  rw [run_loadVar_row w g 70 70 _ _ _ hB Tryz.underlying70 rfl (by kernel_rfl)]
  rfl
theorem chain_blk {w : World} : ∀ {L : List (Nat × Ms)}, Ch w L → ∀ {x : Nat × Ms}, x ∈ L → ∃ c, Blk w x.1 c 166
  | [], _, x, hx => by simp at hx
  | y :: L, h, x, hx => by
    rcases List.mem_cons.1 hx with rfl | hx
    · exact ⟨_, h.1⟩
    · exact chain_blk h.2 hx
abbrev mz : List Value := [.int .i64 0, .int .u64 0, .slice none 0 0]
set_option maxHeartbeats 4000000 in
theorem take_nil {w : World} {b o : Nat} {cur : List Value} {T : TypeId} (hB : Blk w b cur T) (h0 : cur[o]? = some (.pointer none)) :
    Calls Tryz.prog 61 #[.pointer (some ⟨b, o, none⟩)] w fun e w' => e = .returned (.tuple #[.agg #[.int .i64 0, .int .u64 0, .slice none 0 0], .bool false]) ∧ Kept (fun _ => False) w w' := by
  have k1 : Kept (fun _ => False) w (w.alloc (.cells #[.int .i64 0, .int .u64 0, .slice none 0 0] 70)) := (Kept.refl (fun _ => False) w).alloc _
  have hR := Blk.new w mz 70
  dsimp only [List.toArray, mz] at hR
  go_enter Tryz.func61, Tryz.ntmps61
  go_upto_region 1 with fail
  generalize w.alloc (.cells #[.int .i64 0, .int .u64 0, .slice none 0 0] 70) = w1 at *
  have c0 := (k1.blk hB (fun f => f)).cell h0
  obtain ⟨r, hr⟩ : ∃ r, w.heap.size = r := ⟨_, rfl⟩
  rw [hr] at hR ⊢
  have hnr : r < w.heap.size → False := fun e => by omega
  have k2 := k1.alloc (.cells #[.int .i64 0, .int .u64 0, .slice none 0 0] 70)
  have hR2 := hR.old (.cells #[.int .i64 0, .int .u64 0, .slice none 0 0] 70)
  have hZ := Blk.new w1 mz 70
  dsimp only [List.toArray, mz] at hZ
  have HNR := Lib.hid hnr
  clear hB h0 hR hr k1 hnr
  go_upto_region 3 with fail
  generalize w1.alloc (.cells #[.int .i64 0, .int .u64 0, .slice none 0 0] 70) = w2 at *
  generalize w1.heap.size = z at *
  have z0 := hZ.cell (o := 0) rfl
  have z1 := hZ.cell (o := 1) rfl
  have z2 := hZ.cell (o := 2) rfl
  have r0 := hR2.cell (o := 0) rfl
  have r1 := hR2.cell (o := 1) rfl
  have r2 := hR2.cell (o := 2) rfl
  have f0 := hR2.frozen 0
  have f1 := hR2.frozen 1
  have f2 := hR2.frozen 2
  have hE := ((hR2.set 0 (.int .i64 0)).set 1 (.int .u64 0)).set 2 (.slice none 0 0)
  have hK := Lib.hid (((k2.set (b := r) (fun e => (HNR.out e)) 0 (.int .i64 0)).set (b := r) (fun e => HNR.out e) 1 (.int .u64 0)).set (b := r) (fun e => HNR.out e) 2 (.slice none 0 0))
  have HE := Lib.hid hE
  clear hE hZ hR2 k2 HNR c0
  go_wp2_with fail
  exact bodyPost_ret (results_msg Tryz.results61 _ _ _ rfl HE.out) rfl ⟨rfl, hK.out⟩
/-- What take leaves. -/
def TakeL (w : World) (b : Nat) (pre : List Value) (T : TypeId) (m : Ms) (L : List (Nat × Ms)) (e : Ending) (w' : World) : Prop :=
  e = .returned (.tuple #[mv m, .bool true]) ∧ Blk w' b (En pre L) T ∧ Ch w' L ∧ Kept (fun k => k = b) w w'
set_option maxHeartbeats 8000000 in
theorem take_some {w : World} {b : Nat} {pre : List Value} {T : TypeId} {L : List (Nat × Ms)} {g : Nat} {m : Ms} (hB : Blk w b (En pre ((g, m) :: L)) T) (hC : Ch w ((g, m) :: L)) (hb : ∀ z ∈ (g, m) :: L, z.1 ≠ b) (hl : L.length ≤ 1000000) :
    Calls Tryz.prog 61 #[.pointer (some ⟨b, pre.length, none⟩)] w (TakeL w b pre T m L) := by
  have k1 : Kept (fun _ => False) w (w.alloc (.cells #[.int .i64 0, .int .u64 0, .slice none 0 0] 70)) := (Kept.refl (fun _ => False) w).alloc _
  have hR := Blk.new w mz 70
  dsimp only [List.toArray, mz] at hR
  have hbl := hB.lt
  obtain ⟨o, ho⟩ : ∃ o, pre.length = o := ⟨_, rfl⟩
  rw [ho]
  have HO := Lib.hid ho
  clear ho
  go_enter Tryz.func61, Tryz.ntmps61
  go_upto_region 1 with fail
  generalize w.alloc (.cells #[.int .i64 0, .int .u64 0, .slice none 0 0] 70) = w1 at *
  have hB1 := k1.blk hB (fun f => f)
  have hC1 := hC.kept k1 (fun _ _ f => f)
  have c0 := hB1.cell (end0 _ _ _ _)
  rw [HO.out] at c0
  dsimp only [nx] at c0
  have hX := hC1.1
  have x0 := hX.cell (o := 0) rfl
  have x1 := hX.cell (o := 1) rfl
  have x2 := hX.cell (o := 2) rfl
  dsimp only at x0 x1 x2
  obtain ⟨r, hr⟩ : ∃ r, w.heap.size = r := ⟨_, rfl⟩
  rw [hr] at hR ⊢
  have hnr : r < w.heap.size → False := fun e => by omega
  have hbr : b ≠ r := by omega
  have HNR := Lib.hid hnr
  clear hnr hr
  go_upto_region 5 with fail
  have hT := Blk.new w1 [.int .i64 m.fr, .int .u64 m.id, .slice m.a m.n m.c] 70
  have k2 := k1.alloc (.cells #[.int .i64 m.fr, .int .u64 m.id, .slice m.a m.n m.c] 70)
  have k12 : Kept (fun _ => False) w1 (w1.alloc (.cells #[.int .i64 m.fr, .int .u64 m.id, .slice m.a m.n m.c] 70)) := (Kept.refl _ w1).alloc _
  dsimp only [List.toArray] at hT
  have hR2 := k12.blk hR (fun f => f)
  have hB2 := k12.blk hB1 (fun f => f)
  have hC2 := hC1.kept k12 (fun _ _ f => f)
  have hbt : b ≠ w1.heap.size := by have := hB1.lt; omega
  have hrt : r ≠ w1.heap.size := by have := hR.lt; omega
  clear x0 x1 x2 c0 hX hC1 hB1 hR k1 k12 hB hC
  generalize w1.alloc (.cells #[.int .i64 m.fr, .int .u64 m.id, .slice m.a m.n m.c] 70) = w2 at *
  generalize w1.heap.size = t at *
  have hX := hC2.1
  have x3 := hX.cell (o := 3) rfl
  have c0 := hB2.cell (end0 _ _ _ _)
  have c1 := hB2.cell (end1 _ _ _ _)
  have c2 := hB2.cell (end2 _ _ _ _)
  have f0 := hB2.frozen pre.length
  have f1 := hB2.frozen (pre.length + 1)
  have f2 := hB2.frozen (pre.length + 2)
  rw [HO.out] at c0 c1 c2 f0 f1 f2
  have t0 := hT.cell (o := 0) rfl
  have t1 := hT.cell (o := 1) rfl
  have t2 := hT.cell (o := 2) rfl
  have r0 := hR2.cell (o := 0) rfl
  have r1 := hR2.cell (o := 1) rfl
  have r2 := hR2.cell (o := 2) rfl
  have q0 := hR2.frozen 0
  have q1 := hR2.frozen 1
  have q2 := hR2.frozen 2
  have hgb : g ≠ b := hb (g, m) (List.mem_cons_self ..)
  have hbg : b ≠ g := fun e => hgb e.symm
  have hrb : r ≠ b := fun e => hbr e.symm
  have htr : t ≠ r := fun e => hrt e.symm
  have htb : t ≠ b := fun e => hbt e.symm
  dsimp only [nx, List.length_cons] at c0 c2 x3
  obtain ⟨n, hn⟩ : ∃ n, L.length = n := ⟨_, rfl⟩
  rw [hn] at c2 hl
  have hw : IntKind.i64.wrap (((n + 1 : Nat) : Int) - 1) = (n : Int) := by rw [IntKind.wrap_i64]; omega
  have hw2 : IntKind.i64.wrap ((n : Int) + 1 - 1) = (n : Int) := by rw [IntKind.wrap_i64]; omega
  have HN := Lib.hid hn
  have fin : ∀ w3, Blk w3 b (En pre L) T → Ch w3 L → Kept (fun k => k = b) w w3 → Blk w3 r [.int .i64 0, .int .u64 0, .slice none 0 0] 70 →
      Hid (Blk (((w3.setCell ⟨r, 0, none⟩ (.int .i64 m.fr)).setCell ⟨r, 1, none⟩ (.int .u64 m.id)).setCell ⟨r, 2, none⟩ (.slice m.a m.n m.c)) r [.int .i64 m.fr, .int .u64 m.id, .slice m.a m.n m.c] 70 ∧
        Blk (((w3.setCell ⟨r, 0, none⟩ (.int .i64 m.fr)).setCell ⟨r, 1, none⟩ (.int .u64 m.id)).setCell ⟨r, 2, none⟩ (.slice m.a m.n m.c)) b (En pre L) T ∧
        Ch (((w3.setCell ⟨r, 0, none⟩ (.int .i64 m.fr)).setCell ⟨r, 1, none⟩ (.int .u64 m.id)).setCell ⟨r, 2, none⟩ (.slice m.a m.n m.c)) L ∧
        Kept (fun k => k = b) w (((w3.setCell ⟨r, 0, none⟩ (.int .i64 m.fr)).setCell ⟨r, 1, none⟩ (.int .u64 m.id)).setCell ⟨r, 2, none⟩ (.slice m.a m.n m.c))) := by
    intro w3 h1 h2 h3 h4
    have k3 : Kept (fun k => k = r) w3 (((w3.setCell ⟨r, 0, none⟩ (.int .i64 m.fr)).setCell ⟨r, 1, none⟩ (.int .u64 m.id)).setCell ⟨r, 2, none⟩ (.slice m.a m.n m.c)) := (((Kept.refl (fun k => k = r) w3).set (fun _ => rfl) _ _).set (fun _ => rfl) _ _).set (fun _ => rfl) _ _
    refine Lib.hid ⟨((h4.set 0 _).set 1 _).set 2 _, k3.blk h1 hbr, h2.kept k3 (fun x hx e => ?_), h3.trans' k3 (fun i hi e => (HNR.out (e ▸ hi)).elim)⟩
    have h5 : x.1 = r := e
    obtain ⟨c, hc⟩ := chain_blk h2 hx
    rw [h5] at hc
    exact absurd (hc.inj h4).2 (by decide)
  have HF := Lib.hid fin
  have HB2 := Lib.hid hB2
  have HC2 := Lib.hid hC2
  have HK2 := Lib.hid k2
  have HR2 := Lib.hid hR2
  rcases L with _ | ⟨⟨g2, m2⟩, L⟩
  · have e := ((hB2.set pre.length (.pointer none)).set (pre.length + 1) (.pointer none)).set (pre.length + 2) (.int .i64 (n : Int))
    unfold En at e
    rw [sete0, sete1, sete2, HO.out] at e
    have k3 : Kept (fun k => k = b) w (((w2.setCell ⟨b, o, none⟩ (.pointer none)).setCell ⟨b, o + 1, none⟩ (.pointer none)).setCell ⟨b, o + 2, none⟩ (.int .i64 (n : Int))) := (((k2.mono (G := fun k => k = b) (fun _ _ f => f.elim)).set (b := b) (fun _ => rfl) _ _).set (b := b) (fun _ => rfl) _ _).set (b := b) (fun _ => rfl) _ _
    have h4 := ((hR2.far hbr o (.pointer none)).far hbr (o + 1) (.pointer none)).far hbr (o + 2) (.int .i64 (n : Int))
    have E := HF.out _ (by unfold En; rw [← HN.out] at e ⊢; exact e) trivial k3 h4
    obtain rfl : n = 0 := HN.out.symm
    clear hn fin HF e k3 h4 hB2 hC2 hX hT k2 hR2 HB2 HC2 HK2 HR2 hb HO HN HNR
    go_wp2_with fail
    exact bodyPost_ret (results_msg Tryz.results61 _ _ _ rfl E.out.1) rfl ⟨rfl, E.out.2.1, E.out.2.2.1, E.out.2.2.2⟩
  · have e := (hB2.set pre.length (at_ g2)).set (pre.length + 2) (.int .i64 (n : Int))
    unfold En at e
    rw [sete0, sete2, HO.out] at e
    have k23 : Kept (fun k => k = b) w2 ((w2.setCell ⟨b, o, none⟩ (at_ g2)).setCell ⟨b, o + 2, none⟩ (.int .i64 (n : Int))) := ((Kept.refl (fun k => k = b) w2).set (b := b) (fun _ => rfl) _ _).set (b := b) (fun _ => rfl) _ _
    have h4 := k23.blk hR2 (fun e => hbr e.symm)
    have E := HF.out _ (by unfold En; rw [← HN.out] at e ⊢; exact e) (hC2.2.kept k23 (fun x hx => hb x (List.mem_cons_of_mem _ hx))) ((k2.mono (fun _ _ f => f.elim)).trans k23) h4
    dsimp only [nx] at x3
    clear hn fin HF e k23 h4 hB2 hC2 hX hT k2 hR2 HB2 HC2 HK2 HR2 hb HO HN HNR
    go_wp2_with fail
    exact bodyPost_ret (results_msg Tryz.results61 _ _ _ rfl E.out.1) rfl ⟨rfl, E.out.2.1, E.out.2.2.1, E.out.2.2.2⟩
end Go.Proofs.YtjjamooihddkgaaGreat.Pl

/- Rows of ranges in memory: how they lie; copy, clear, append over them. Conditions: each theorem's own. -/
set_option maxRecDepth 100000
namespace Go.Proofs.YtjjamooihddkgaaGreat.IvR
open Go.RowKit Hp IvM
theorem infoR : (Tryz.prog.info? 196).map (fun i => (i.zero, i.size, i.bytes)) = some (some (.agg #[.int .i64 0, .int .i64 0]), 2, 16) := by kernel_rfl
/-- A range's two cells. -/
def rc (p : Rg) : List Value := [.int .i64 p.1, .int .i64 p.2]
def flat (l : List Rg) : List Value := l.flatMap rc
theorem flat_len : ∀ l : List Rg, (flat l).length = l.length * 2
  | [] => rfl
  | p :: l => by have := flat_len l; unfold flat at this ⊢; rw [List.flatMap_cons, List.length_append, this]; simp [rc]; omega
theorem flat_append (a b : List Rg) : flat (a ++ b) = flat a ++ flat b := by unfold flat; rw [List.flatMap_append]
theorem flat_take : ∀ (l : List Rg) (k : Nat), (flat l).take (k * 2) = flat (l.take k)
  | [], k => by simp [flat]
  | p :: l, 0 => by simp [flat]
  | p :: l, k + 1 => by
    have := flat_take l k
    unfold flat at this ⊢
    rw [List.take_succ_cons, List.flatMap_cons, List.flatMap_cons, ← this, show (k + 1) * 2 = 2 + k * 2 by omega]
    rw [List.take_append, List.take_of_length_le (by simp [rc])]
    simp [rc]
theorem flat_drop : ∀ (l : List Rg) (k : Nat), (flat l).drop (k * 2) = flat (l.drop k)
  | [], k => by simp [flat]
  | p :: l, 0 => by simp [flat]
  | p :: l, k + 1 => by
    have := flat_drop l k
    unfold flat at this ⊢
    rw [List.drop_succ_cons, List.flatMap_cons, ← this, show (k + 1) * 2 = 2 + k * 2 by omega, ← List.drop_drop]
    simp [rc]
theorem flat_at : ∀ (l : List Rg) (i : Nat) (h : i < l.length), (flat l)[i * 2]? = some (.int .i64 l[i].1) ∧ (flat l)[i * 2 + 1]? = some (.int .i64 l[i].2)
  | p :: l, 0, h => by simp [flat, rc]
  | p :: l, i + 1, h => by
    have := flat_at l i (by simpa using h)
    unfold flat at this ⊢
    rw [List.flatMap_cons, List.getElem?_append_right (by simp [rc]; omega), List.getElem?_append_right (by simp [rc]; omega)]
    rw [show (i + 1) * 2 - (rc p).length = i * 2 by simp [rc]; omega, show (i + 1) * 2 + 1 - (rc p).length = i * 2 + 1 by simp [rc]; omega]
    simpa using this
theorem flat_one {l : List Rg} : ∀ u ∈ flat l, u.oneCell' = true := by
  intro u hu
  obtain ⟨k, _, hk⟩ := List.mem_flatMap.1 hu
  simp only [rc, List.mem_cons, List.not_mem_nil, or_false] at hk
  rcases hk with rfl | rfl <;> rfl
/-- A row of ranges. -/
def Row (w : World) (base : Nat) (v : Value) (l : List Rg) : Prop := w.ownsRow base 196 2 v l.length (flat l)
/-- A row that has a block of its own. -/
structure Lies (w : World) (g cap : Nat) (cur : List Value) (l : List Rg) : Prop where
  blk : Blk w g cur 196
  le : l.length ≤ cap
  most : cap ≤ maxLen
  len : cur.length = cap * 2
  head : cur.take (l.length * 2) = flat l
theorem Row.form {w : World} {base : Nat} {v : Value} {l : List Rg} (h : Row w base v l) :
    (v = .slice none 0 0 ∧ l = []) ∨ ∃ g cap cur, v = .slice (some ⟨g, 0, none⟩) l.length cap ∧ base ≤ g ∧ Lies w g cap cur l := by
  rcases h.2 with ⟨rfl, h0⟩ | ⟨g, cap, cur, rfl, h1, h2, h3, h4, h5, h6⟩
  · exact Or.inl ⟨rfl, List.length_eq_zero_iff.1 h0⟩
  · exact Or.inr ⟨g, cap, cur.toList, rfl, h1, ⟨by unfold Blk; simpa using h2, h3, h4, by simpa using h5, h6⟩⟩
theorem Lies.row {w : World} {g cap base : Nat} {cur : List Value} {l : List Rg} (h : Lies w g cap cur l) (hb : base ≤ g) : Row w base (.slice (some ⟨g, 0, none⟩) l.length cap) l :=
  ⟨flat_len l, Or.inr ⟨g, cap, cur.toArray, rfl, hb, h.blk, h.le, h.most, by simpa using h.len, h.head⟩⟩
theorem Lies.cur_at {w : World} {g cap : Nat} {cur : List Value} {l : List Rg} (h : Lies w g cap cur l) {j : Nat} (hj : j < l.length * 2) : cur[j]? = (flat l)[j]? := by
  rw [← h.head, List.getElem?_take, if_pos hj]
theorem Lies.at {w : World} {g cap : Nat} {cur : List Value} {l : List Rg} (h : Lies w g cap cur l) {i : Nat} (hi : i < l.length) :
    w.cell? ⟨g, i * 2, none⟩ = some (.int .i64 l[i].1) ∧ w.cell? ⟨g, i * 2 + 1, none⟩ = some (.int .i64 l[i].2) := by
  have := flat_at l i hi
  exact ⟨h.blk.cell (by rw [h.cur_at (by omega)]; exact this.1), h.blk.cell (by rw [h.cur_at (by omega)]; exact this.2)⟩
/-- The cells of a part. -/
theorem Lies.part {w : World} {g cap : Nat} {cur : List Value} {l : List Rg} (h : Lies w g cap cur l) (k : Nat) : ∀ j u, (flat (l.drop k))[j]? = some u → w.cell? ((⟨g, k * 2, none⟩ : Addr).add j) = some u := by
  intro j u hj
  rw [← flat_drop, List.getElem?_drop] at hj
  rw [Go.WideShapes.add_plain]
  refine h.blk.cell ?_
  rw [h.cur_at (by have := (List.getElem?_eq_some_iff.1 hj).1; rw [flat_len] at this; omega)]
  exact hj
theorem Lies.kept {w w' : World} {F : Nat → Prop} {g cap : Nat} {cur : List Value} {l : List Rg} (h : Lies w g cap cur l) (k : Kept F w w') (hF : ¬ F g) : Lies w' g cap cur l := ⟨k.blk h.blk hF, h.le, h.most, h.len, h.head⟩
theorem Row.kept {w w' : World} {F : Nat → Prop} {base : Nat} {v : Value} {l : List Rg} (h : Row w base v l) (k : Kept F w w') (hF : ∀ g, v.ownBlock = some g → ¬ F g) : Row w' base v l := by
  rcases h.form with ⟨rfl, rfl⟩ | ⟨g, cap, cur, rfl, h1, h2⟩
  · exact ⟨rfl, Or.inl ⟨rfl, rfl⟩⟩
  · exact (h2.kept k (hF g rfl)).row h1
theorem Row.lt {w : World} {base : Nat} {v : Value} {l : List Rg} (h : Row w base v l) : ∀ g, v.ownBlock = some g → base ≤ g ∧ g < w.heap.size := fun g hg => World.ownsRow.lt h g hg
theorem Row.base {w : World} {b b' : Nat} {v : Value} {l : List Rg} (h : Row w b v l) (hb : ∀ g, v.ownBlock = some g → b' ≤ g) : Row w b' v l := by
  rcases h.form with ⟨rfl, rfl⟩ | ⟨g, cap, cur, rfl, h1, h2⟩
  · exact ⟨rfl, Or.inl ⟨rfl, rfl⟩⟩
  · exact h2.row (hb g rfl)
theorem Row.none (w : World) (b : Nat) : Row w b (.slice none 0 0) [] := ⟨rfl, Or.inl ⟨rfl, rfl⟩⟩
theorem row_set {w : World} {g : Nat} {cur : List Value} (hB : Blk w g cur 196) (cs : List Value) : Blk (w.setRow g cs.toArray) g cs 196 ∧ Kept (fun k => k = g) w (w.setRow g cs.toArray) :=
  ⟨setRow_heap w g _ _ _ _ hB, ⟨rfl, rfl, rfl, by simp [World.setRow], fun k _ hk => setRow_other w g k _ (fun e => hk e)⟩⟩
theorem run_cp {w : World} {g : Nat} {cur : List Value} (hB : Blk w g cur 196) (ty : TypeId) (o dLen dCap : Nat) (a : Addr) (sLen sCap n : Nat) (cs : List Value) (hn : n = Nat.min sLen dLen) (hl : cs.length = n * 2)
    (hsrc : ∀ j v, cs[j]? = some v → w.cell? (a.add j) = some v) (hfit : o + cs.length ≤ cur.length) (h1 : ∀ v ∈ cs, v.oneCell' = true) :
    ∃ w', (Builtin.copy_ #[191, 191] ty #[.slice (some ⟨g, o, none⟩) dLen dCap, .slice (some a) sLen sCap]).run Tryz.prog w = .ok (goInt n) w' ∧ Blk w' g (splice cur o cs) 196 ∧ Kept (fun k => k = g) w w' := by
  obtain ⟨i, hi, hz0, hz1, hz2⟩ := info_parts infoR
  have hld := run_loadCells_list (P := Tryz.prog) w a cs hsrc
  have hst := run_storeCells_at Tryz.prog g o 196 cs 0 cur.toArray w hB (by simpa using hfit) h1
  simp only [Nat.add_zero] at hst
  have hs := row_set hB (splice cur o cs)
  refine ⟨_, ?_, hs.1, hs.2⟩
  have e : Nat.min sLen dLen * 2 = cs.length := by rw [hl, hn]
  have e2 : cur.toArray.toList.take o ++ cs ++ cur.toArray.toList.drop (o + cs.length) = splice cur o cs := by simp [splice]
  rw [e2] at hst
  simp [Builtin.copy_, run_underlying Tryz.underlying191, Builtin.lenOf, Builtin.firstCells, sizeOf, typeInfo, hi, hz1, e, hld, hst, hn]
theorem zeroR (w : World) : (zeroValue 196).run Tryz.prog w = .ok (.agg #[.int .i64 0, .int .i64 0]) w := by kernel_rfl
/-- So many zero cells. -/
def zeros (n : Nat) : List Value := (Builtin.zeroCells (Value.agg #[.int .i64 0, .int .i64 0]).cells n).toList
theorem zeros_len (n : Nat) : (zeros n).length = n * 2 := by unfold zeros; rw [Array.length_toList, size_zeroCells]; rfl
theorem zeros_one (n : Nat) : ∀ v ∈ zeros n, v.oneCell' = true := by
  intro v hv
  unfold zeros Builtin.zeroCells at hv
  simp only [Array.toList_map, List.mem_map] at hv
  obtain ⟨i, _, rfl⟩ := hv
  have : i % (Value.agg #[.int .i64 0, .int .i64 0]).cells.size = 0 ∨ i % (Value.agg #[.int .i64 0, .int .i64 0]).cells.size = 1 := by
    show i % 2 = 0 ∨ i % 2 = 1
    omega
  rcases this with h | h <;> rw [h] <;> rfl
theorem run_clr {w : World} {g : Nat} {cur : List Value} (hB : Blk w g cur 196) (ty : TypeId) (o n c : Nat) (h0 : 0 < n) (hfit : o + n * 2 ≤ cur.length) :
    ∃ w', (Builtin.clear_ #[191] ty #[.slice (some ⟨g, o, none⟩) n c]).run Tryz.prog w = .ok (.tuple #[]) w' ∧ Blk w' g (splice cur o (zeros n)) 196 ∧ Kept (fun k => k = g) w w' := by
  have hst := run_storeCells_at Tryz.prog g o 196 (zeros n) 0 cur.toArray w hB (by rw [zeros_len]; simpa using hfit) (zeros_one n)
  simp only [Nat.add_zero] at hst
  have hs := row_set hB (splice cur o (zeros n))
  refine ⟨_, ?_, hs.1, hs.2⟩
  have e2 : cur.toArray.toList.take o ++ zeros n ++ cur.toArray.toList.drop (o + (zeros n).length) = splice cur o (zeros n) := by simp [splice]
  rw [e2] at hst
  obtain ⟨m, rfl⟩ : ∃ m, n = m + 1 := ⟨n - 1, by omega⟩
  unfold zeros at hst
  have hz := zeroR w
  simp [Builtin.clear_, run_underlying Tryz.underlying191, hz]
  rw [hst]
  rfl
theorem run_clr0 (w : World) (ty : TypeId) (a : Option Addr) (c : Nat) : (Builtin.clear_ #[191] ty #[.slice a 0 c]).run Tryz.prog w = .ok (.tuple #[]) w := by
  cases a <;> simp [Builtin.clear_, run_underlying Tryz.underlying191]
/-- 'append(s[:i], make([]T, m)...)' where it must grow. -/
theorem run_zeros {w : World} {g cap : Nat} {cur : List Value} {l : List Rg} (h : Lies w g cap cur l) (ty : TypeId) (i m : Nat) (hi : i ≤ l.length) (hg : cap < i + m) (hsm : i + m ≤ 1000000) :
    ∃ c' r, (Builtin.append_ #[191, 3] ty #[.slice (some ⟨g, 0, none⟩) i cap, .int .i64 (m : Int)]).run Tryz.prog w =
      .ok (.slice (some ⟨w.heap.size, 0, none⟩) (i + m) c') (w.drew.alloc (.cells (flat (l.take i) ++ (zeros m ++ zeros r)).toArray 196)) ∧ i + m + r = c' ∧ c' ≤ maxLen := by
  obtain ⟨ti, hti, hz0, hz1, hz2⟩ := info_parts infoR
  have hge := grownCap_ge w (i + m) cap 196
  refine ⟨grownCap w (i + m) cap 196, grownCap w (i + m) cap 196 - (i + m), ?_, by omega, grownCap_le_maxLen w (i + m) cap _ (by unfold maxLen; omega)⟩
  have hw : IntKind.i64.wrap (m : Int) = m := by rw [IntKind.wrap_i64]; omega
  have hneg : ¬ ((m : Int) < 0) := by omega
  have hm : 0 < m := by have := h.le; omega
  have hns : ¬ (m * 2 = 0) := by omega
  have hn : ¬ (i + m ≤ cap) := by omega
  have h63' : ¬ (9223372036854775807 < ((i : Int) + (m : Int))) := by omega
  have h48i : ¬ (281474976710656 < (m : Int) * 16) := by omega
  have h48' : ¬ (281474976710656 < Builtin.nextslicecap (i + m) cap * 16) := by have := growslice_fits (bytes := 16) hg (by omega); omega
  have hfo := run_firstCells_some (P := Tryz.prog) w.drew 2 i ⟨g, 0, none⟩ i cap (flat (l.take i)) (by rw [flat_len, List.length_take]; congr 1; omega) (fun j v hj => by
    have hj' := (List.getElem?_eq_some_iff.1 hj).1
    rw [flat_len, List.length_take] at hj'
    rw [Go.WideShapes.add_plain, Nat.zero_add]
    refine Blk.cell (Blk.drew h.blk) ?_
    rw [h.cur_at (by omega), ← hj, ← flat_take, List.getElem?_take, if_pos (by omega)])
  unfold zeros
  simp [Builtin.append_, run_underlying Tryz.underlying191, run_underlying Tryz.underlying3, sizeOf, typeInfo, zeroValue, hti, hz0, hz1, hz2, asInt, asIntOf, hw, hneg, hns, h48i, hn, h63', h48', Question.forced, hfo, newRow, grownCap]
  try (congr 2)
  try (apply Array.ext'; simp)
/-- 'append(s[:i], v...)' where there is room. -/
theorem run_room {w : World} {g cap : Nat} {cur : List Value} {l : List Rg} (h : Lies w g cap cur l) (ty : TypeId) (i : Nat) (hi : i ≤ l.length) (hr : i + 1 ≤ cap) (a : Addr) (c : Nat) (p : Rg) (hp : ∀ j u, (rc p)[j]? = some u → w.cell? (a.add j) = some u) :
    ∃ w', (Builtin.append_ #[191, 191] ty #[.slice (some ⟨g, 0, none⟩) i cap, .slice (some a) 1 c]).run Tryz.prog w = .ok (.slice (some ⟨g, 0, none⟩) (i + 1) cap) w' ∧ Blk w' g (splice cur (i * 2) (rc p)) 196 ∧ Kept (fun k => k = g) w w' := by
  obtain ⟨ti, hti, hz0, hz1, hz2⟩ := info_parts infoR
  have hl := h.len
  have hs := row_set h.blk (splice cur (i * 2) (rc p))
  refine ⟨_, ?_, hs.1, hs.2⟩
  have := run_append_room (P := Tryz.prog) w 191 ty 196 ti Tryz.underlying191 hti g i cap cur.toArray h.blk a 1 c (rc p) (by rw [hz1]; rfl) hp (by intro u hu; simp [rc] at hu; rcases hu with rfl | rfl <;> rfl) hr (by rw [hz1]; simp [rc]; omega)
  rw [this, hz1]
  congr 3
  simp [splice]
theorem splice_take_end {L cs : List Value} {o : Nat} (ho : o ≤ L.length) (k : Nat) (hk : k = o + cs.length) : (splice L o cs).take k = L.take o ++ cs := by
  unfold splice
  have : (L.take o ++ cs).length = k := by rw [List.length_append, List.length_take]; omega
  rw [← List.append_assoc, ← this, List.take_left]
theorem splice_take_more {L cs : List Value} {o : Nat} (ho : o ≤ L.length) (k m : Nat) (hk : k = o + cs.length + m) : (splice L o cs).take k = L.take o ++ (cs ++ (L.drop (o + cs.length)).take m) := by
  unfold splice
  have e : (L.take o).length = o := by rw [List.length_take]; omega
  rw [List.take_append, List.take_of_length_le (l := L.take o) (by rw [e]; omega), e, List.take_append, List.take_of_length_le (l := cs) (by omega)]
  congr 3
  omega
theorem splice_take_le {L cs : List Value} {o : Nat} (ho : o ≤ L.length) {k : Nat} (hk : k ≤ o) : (splice L o cs).take k = L.take k := by
  unfold splice
  have e : (L.take o).length = o := by rw [List.length_take]; omega
  rw [List.take_append_of_le_length (by omega), List.take_take]
  congr 1; omega
theorem splice_mid {L cs : List Value} {o : Nat} (ho : o ≤ L.length) (k : Nat) (hk : k = cs.length) : ((splice L o cs).drop o).take k = cs := by
  unfold splice
  have e : (L.take o).length = o := by rw [List.length_take]; omega
  subst hk
  rw [List.drop_append_of_le_length (by omega), List.drop_of_length_le (by omega), List.nil_append, List.take_left]
theorem splice_get {L cs : List Value} {o : Nat} (ho : o ≤ L.length) {k : Nat} (hk : o + cs.length ≤ k) : (splice L o cs)[k]? = L[k]? := by
  unfold splice
  have e : (L.take o).length = o := by rw [List.length_take]; omega
  rw [List.getElem?_append_right (by omega), e, List.getElem?_append_right (by omega), List.getElem?_drop]
  congr 1; omega
/-- What 'append' adds. -/
def Src (w : World) (v : Value) (K : List Rg) : Prop :=
  (K = [] ∧ v = .slice none 0 0) ∨ ∃ a c, v = .slice (some a) K.length c ∧ ∀ j u, (flat K)[j]? = some u → w.cell? (a.add j) = some u
/-- What an append leaves: a row that was there or is new. -/
structure Apd (w : World) (base : Nat) (v : Value) (l : List Rg) (v' : Value) (w' : World) : Prop where
  row : Row w' base v' l
  kept : Kept (fun k => v.ownBlock = some k) w w'
  lies : ∀ g, v'.ownBlock = some g → v.ownBlock = some g ∨ w.heap.size ≤ g
theorem grown_kept {w w' : World} {row : Option Nat} (h : w.grownBy w' row) : Kept (fun k => row = some k) w w' := ⟨h.os, h.tape, h.output, h.size, fun k hk hr => h.block k hk (fun e => hr e.symm)⟩
theorem run_app {w : World} (base : Nat) {v v2 : Value} {K K2 : List Rg} (ty : TypeId) (h1 : Row w base v K) (h2 : Src w v2 K2) (hsm : K.length + K2.length ≤ 1000000) (hbase : base ≤ w.heap.size) :
    ∃ v' w', (Builtin.append_ #[191, 191] ty #[v, v2]).run Tryz.prog w = .ok v' w' ∧ Apd w base v (K ++ K2) v' w' := by
  obtain ⟨ti, hti, hz0, hz1, hz2⟩ := info_parts infoR
  rcases h2 with ⟨rfl, rfl⟩ | ⟨a, c, rfl, hc⟩
  · have hr := run_append_owned_none (P := Tryz.prog) w base 191 ty 196 ti 2 Tryz.underlying191 hti v _ _ h1
    exact ⟨v, w, hr, ⟨by rw [List.append_nil]; exact h1, Kept.refl _ w, fun g hg => Or.inl hg⟩⟩
  · obtain ⟨v', w', hr, r2, r3, _, r5⟩ := run_append_own_at (P := Tryz.prog) w base 191 ty 196 ti _ 2 16 Tryz.underlying191 hti hz0 hz1 hz2 rfl (by decide) v _ _ h1 a K2.length c _ (flat_len K2) hc flat_one (by unfold maxLen; omega) (by omega) hbase
    refine ⟨v', w', hr, ⟨?_, grown_kept r3, fun g hg => ?_⟩⟩
    · unfold Row
      rw [List.length_append, flat_append]
      exact r2
    · rcases r5 with r5 | r5
      · left; rw [← r5]; exact hg
      · right
        rw [r5] at hg
        cases hg
        exact Nat.le_refl _
theorem wp_app {w : World} {o : Oper} {a : Act} {K0 : Act → World → Prop} {Q : Exit → Act → World → Prop} (s x : Operand)
    (ho : o.op = .call { callee := .builtin .append, args := #[s, x], argTypes := #[191, 191] })
    (base : Nat) {v v2 : Value} {K K2 : List Rg} (hs : a.eval s = v) (h1 : Row w base v K) (hx : a.eval x = v2) (h2 : Src w v2 K2) (hsm : K.length + K2.length ≤ 1000000) (hbase : base ≤ w.heap.size)
    (h : ∀ v' w', Apd w base v (K ++ K2) v' w' → K0 (a.put o.dst v') w') : o.wp Tryz.prog a w K0 Q := by
  obtain ⟨v', w', hr, hA⟩ := run_app base o.type h1 h2 hsm hbase
  unfold Oper.wp execOp
  simp only [ho, resolve, invoke, builtin, Sem.run_bind, Sem.run_pure, Result.andThen_ok, List.map_toArray, List.map_cons, List.map_nil, hs, hx, hr]
  exact h v' w' hA
/-- In a plain region. -/
theorem wpList_app {w : World} {ops : Array Oper} {rest : List Oper} {o : Oper} {a : Act} {Q : Exit → Act → World → Prop} (hgd : o.guard = none) (s x : Operand)
    (ho : o.op = .call { callee := .builtin .append, args := #[s, x], argTypes := #[191, 191] })
    (base : Nat) {v v2 : Value} {K K2 : List Rg} (hs : a.eval s = v) (h1 : Row w base v K) (hx : a.eval x = v2) (h2 : Src w v2 K2) (hsm : K.length + K2.length ≤ 1000000) (hbase : base ≤ w.heap.size)
    (h : ∀ v' w', Apd w base v (K ++ K2) v' w' → wpList Tryz.prog ops Q rest (a.put o.dst v') w') : wpList Tryz.prog ops Q (o :: rest) a w :=
  wpList_plain hgd fun _ hK => wp_app s x ho base hs h1 hx h2 hsm hbase fun v' w' hA => hK _ _ (h v' w' hA)
theorem wp_copy_run {w : World} {o : Oper} {a : Act} {K : Act → World → Prop} {Q : Exit → Act → World → Prop} (d s : Operand) (t t' : TypeId)
    (ho : o.op = .call { callee := .builtin .copy, args := #[d, s], argTypes := #[t, t'] }) {v u : Value} (hd : a.eval d = v) (hs : a.eval s = u) {v' : Value} {w' : World}
    (hr : (Builtin.copy_ #[t, t'] o.type #[v, u]).run Tryz.prog w = .ok v' w') (h : K (a.put o.dst v') w') : o.wp Tryz.prog a w K Q := by
  unfold Oper.wp execOp
  simp only [ho, resolve, invoke, builtin, Sem.run_bind, Sem.run_pure, Result.andThen_ok, List.map_toArray, List.map_cons, List.map_nil, hd, hs, hr]
  exact h
theorem wpList_copy_run {w : World} {ops : Array Oper} {rest : List Oper} {o : Oper} {a : Act} {Q : Exit → Act → World → Prop} (hgd : o.guard = none) (d s : Operand) (t t' : TypeId)
    (ho : o.op = .call { callee := .builtin .copy, args := #[d, s], argTypes := #[t, t'] }) {v u : Value} (hd : a.eval d = v) (hs : a.eval s = u) {v' : Value} {w' : World}
    (hr : (Builtin.copy_ #[t, t'] o.type #[v, u]).run Tryz.prog w = .ok v' w') (h : wpList Tryz.prog ops Q rest (a.put o.dst v') w') : wpList Tryz.prog ops Q (o :: rest) a w :=
  wpList_plain hgd fun _ hK => wp_copy_run d s t t' ho hd hs hr (hK _ _ h)
theorem step_copy_run {ops : Array Oper} {o : Oper} {a : Act} {w : World} {K : Act → World → Prop} {Q : Exit → Act → World → Prop} {E : Prop}
    (hg : o.guard = none) (d x : Operand) (dT sT : TypeId) (hop : o.op = Op.call { callee := Callee.builtin Builtin.copy, args := #[d, x], argTypes := #[dT, sT] })
    {v u : Value} (hd : a.eval d = v) (hx : a.eval x = u) {v' : Value} {w' : World} (hr : (Builtin.copy_ #[dT, sT] o.type #[v, u]).run Tryz.prog w = .ok v' w') (hK : K (a.put o.dst v') w') :
    if Region.wanted o (yielded ops a.tmps) = true then Oper.wp Tryz.prog o a w K Q else E := by
  have hw : Region.wanted o (yielded ops a.tmps) = true := by simp [Region.wanted, hg]
  rw [if_pos hw]
  exact wp_copy_run d x dT sT hop hd hx hr hK
theorem wpList_clear_run {w : World} {ops : Array Oper} {rest : List Oper} {o : Oper} {a : Act} {Q : Exit → Act → World → Prop} (hgd : o.guard = none) (d : Operand) (t : TypeId)
    (ho : o.op = .call { callee := .builtin .clear, args := #[d], argTypes := #[t] }) {v : Value} (hd : a.eval d = v) {v' : Value} {w' : World}
    (hr : (Builtin.clear_ #[t] o.type #[v]).run Tryz.prog w = .ok v' w') (h : wpList Tryz.prog ops Q rest (a.put o.dst v') w') : wpList Tryz.prog ops Q (o :: rest) a w :=
  wpList_plain hgd fun _ hK => by
    unfold Oper.wp execOp
    simp only [ho, resolve, invoke, builtin, Sem.run_bind, Sem.run_pure, Result.andThen_ok, List.map_toArray, List.map_cons, List.map_nil, hd, hr]
    exact hK _ _ h
end Go.Proofs.YtjjamooihddkgaaGreat.IvR

