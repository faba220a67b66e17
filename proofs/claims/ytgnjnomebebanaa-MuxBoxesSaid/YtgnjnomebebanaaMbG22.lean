/- Offer, Take, Len, New of boxes of ints. Conditions: each theorem's own. -/
import Derived.Test.YtgnjnomebebanaaMbG21
import Derived.KernelRfl
set_option linter.unusedVariables false
set_option linter.unusedSimpArgs false
namespace Go.Proofs.Ytgnjnomebebanaa.MoS
open Go.Conc Go.RowKit Hp Mo
theorem offer_room {w : World} {b c room : Nat} {ps : List Nat} {vs : List ByteArray} (h : Bx w b c room ps vs) (hr : vs.length < room) (v : ByteArray) :
    Calls Try.prog 15 #[ptr b, .string v] w fun e w' => e = .returned (.bool true) ∧ Bx w' b c room (ps ++ [w.heap.size]) (vs ++ [v]) ∧ Kept (fun i => i = c) w w' := by
  refine calls_of_wpn Try.func15 rfl ?_
  simp only [Try.ntmps15, List.size_toArray, List.length_cons, List.length_nil, Nat.reduceAdd, Nat.reduceSub, Array.replicate_succ, Array.replicate_zero, List.push_toArray, List.append_toArray, List.nil_append, List.cons_append]
  refine Wpn.seq fun K1 hK1 => Wpn.of ?_
  go_wp2
  have hbx := h.box.old (.cells #[.string v] 9)
  refine Wpn.seq fun K1 hK1 => Wpn.of ?_
  go_wp2_with (go_at_call 19; (refine Calls.mono (chan_box hbx) ?_); rintro e w2 ⟨rfl, rfl⟩)
  obtain ⟨s, r, hc⟩ := h.chan
  have hlt := h.lt
  have hc1 := (heap_old w (.cells #[.string v] 9) hlt).trans hc
  have hz : (execOp (Act.eval ⟨#[ptr b, .string v, undef, .pointer (some ⟨w.heap.size, 0, none⟩), .bool false, ptr b, .chan (some c), undef, undef, undef], []⟩) { dst := some 7, op := Op.select #[{ chan := Operand.tmp 6, send := some (Operand.tmp 3), elem := 63 }] false, type := 0, pos := "box.go:34", after := #[], guard := none }).run Try.prog (w.alloc (.cells #[.string v] 9)) = .ok (.comm #[scase c (ptr w.heap.size) (.pointer none)] false .select) (w.alloc (.cells #[.string v] 9)) := by
    simp [go_sem, execOp, scase, Act.eval, ptr]
  refine Wpn.seq fun K1 hK1 => ?_
  refine Wpn.comm rfl hz (fun fr cs es he => step_lone_select_send_room he hc1 (by simpa [h.len] using hr)) ?_
  dsimp only [Act.put]
  simp only [List.setIfInBounds_toArray, List.set_cons_succ, List.set_cons_zero]
  go_wp2
  refine Wpn.of ?_
  go_wp2
  go_ret
  have hk : Kept (fun i => i = c) w ((w.alloc (.cells #[.string v] 9)).setChan c room ((ps.map ptr) ++ [ptr w.heap.size]).toArray false (s + 1) r false) :=
    ((Kept.refl (fun i => i = c) w).alloc _).trans (kept_setChan _ _ _ _ _ _ _ _)
  have hne : ∀ {p : Nat} {l : List Value} {T : TypeId}, Blk w p l T → ¬ p = c := fun hp => h.ne hp
  refine ⟨rfl, ⟨hk.blk h.box (hne h.box), ⟨s + 1, r, ?_⟩, by simp [h.len], ?_⟩, hk⟩
  · rw [heap_setChan _ _ _ _ _ _ _ _ (by simp; omega)]
    simp
  · intro i p u hp hu
    rcases Nat.lt_or_ge i ps.length with hi | hi
    · rw [List.getElem?_append_left hi] at hp
      rw [List.getElem?_append_left (by have := h.len; omega)] at hu
      exact hk.blk (h.cells i p u hp hu) (hne (h.cells i p u hp hu))
    · rw [List.getElem?_append_right hi] at hp
      rw [List.getElem?_append_right (by have := h.len; omega)] at hu
      have h0 : i - ps.length = 0 := by
        rcases Nat.eq_zero_or_pos (i - ps.length) with e | e
        · exact e
        · rw [List.getElem?_eq_none (by simp; omega)] at hp; cases hp
      have h1 : i - vs.length = 0 := by have := h.len; omega
      rw [h0] at hp
      rw [h1] at hu
      simp only [List.getElem?_cons_zero, Option.some.injEq] at hp hu
      subst hp hu
      exact (Blk.new w [.string v] 9).heap (setChan_other _ _ _ _ _ _ _ _ _ (by omega))
theorem offer_full {w : World} {b c room : Nat} {ps : List Nat} {vs : List ByteArray} (h : Bx w b c room ps vs) (hr : room ≤ vs.length) (v : ByteArray) :
    Calls Try.prog 15 #[ptr b, .string v] w fun e w' => e = .returned (.bool false) ∧ Kept (fun _ => False) w w' := by
  refine calls_of_wpn Try.func15 rfl ?_
  simp only [Try.ntmps15, List.size_toArray, List.length_cons, List.length_nil, Nat.reduceAdd, Nat.reduceSub, Array.replicate_succ, Array.replicate_zero, List.push_toArray, List.append_toArray, List.nil_append, List.cons_append]
  refine Wpn.seq fun K1 hK1 => Wpn.of ?_
  go_wp2
  have hbx := h.box.old (.cells #[.string v] 9)
  refine Wpn.seq fun K1 hK1 => Wpn.of ?_
  go_wp2_with (go_at_call 19; (refine Calls.mono (chan_box hbx) ?_); rintro e w2 ⟨rfl, rfl⟩)
  obtain ⟨s, r, hc⟩ := h.chan
  have hlt := h.lt
  have hc1 := (heap_old w (.cells #[.string v] 9) hlt).trans hc
  have hz : (execOp (Act.eval ⟨#[ptr b, .string v, undef, .pointer (some ⟨w.heap.size, 0, none⟩), .bool false, ptr b, .chan (some c), undef, undef, undef], []⟩) { dst := some 7, op := Op.select #[{ chan := Operand.tmp 6, send := some (Operand.tmp 3), elem := 63 }] false, type := 0, pos := "box.go:34", after := #[], guard := none }).run Try.prog (w.alloc (.cells #[.string v] 9)) = .ok (.comm #[scase c (ptr w.heap.size) (.pointer none)] false .select) (w.alloc (.cells #[.string v] 9)) := by
    simp [go_sem, execOp, scase, Act.eval, ptr]
  refine Wpn.seq fun K1 hK1 => ?_
  refine Wpn.comm rfl hz (fun fr cs es he => step_lone_select_send_full he hc1 (by have := h.len; simp; omega)) ?_
  dsimp only [Act.put]
  simp only [List.setIfInBounds_toArray, List.set_cons_succ, List.set_cons_zero]
  go_wp2
  refine Wpn.of ?_
  go_wp2
  go_ret
  exact ⟨rfl, (Kept.refl _ w).alloc _⟩
end Go.Proofs.Ytgnjnomebebanaa.MoS

/- Take of a box of ints. Conditions: each theorem's own. -/
namespace Go.Proofs.Ytgnjnomebebanaa.MoS
open Go.Conc Go.RowKit Hp Mo
theorem take_first {w : World} {b c room : Nat} {p : Nat} {ps : List Nat} {v : ByteArray} {vs : List ByteArray} (h : Bx w b c room (p :: ps) (v :: vs)) :
    Calls Try.prog 16 #[ptr b] w fun e w' => e = .returned (.tuple #[.string v, .bool true]) ∧ Bx w' b c room ps vs ∧ Kept (fun i => i = c) w w' := by
  refine calls_of_wpn Try.func16 rfl ?_
  simp only [Try.ntmps16, List.size_toArray, List.length_cons, List.length_nil, Nat.reduceAdd, Nat.reduceSub, Array.replicate_succ, Array.replicate_zero, List.push_toArray, List.append_toArray, List.nil_append, List.cons_append]
  refine Wpn.seq fun K1 hK1 => Wpn.of ?_
  go_wp2
  refine Wpn.seq fun K1 hK1 => Wpn.of ?_
  go_wp2_with (go_at_call 19; (refine Calls.mono (chan_box h.box) ?_); rintro e w2 ⟨rfl, rfl⟩)
  obtain ⟨s, r, hc⟩ := h.chan
  have hlt := h.lt
  have hz : (execOp (Act.eval ⟨#[ptr b, undef, .string ⟨#[]⟩, .bool false, undef, undef, ptr b, .chan (some c), undef, undef, undef, undef, undef, undef, undef, undef], []⟩) { dst := some 8, op := Op.select #[{ chan := Operand.tmp 7, send := none, elem := 63 }] false, type := 0, pos := "box.go:44", after := #[], guard := none }).run Try.prog w = .ok (.comm #[rcase c (.pointer none)] false .select) w := by
    simp [go_sem, execOp, rcase, Act.eval, ptr]
  refine Wpn.seq fun K1 hK1 => ?_
  refine Wpn.comm rfl hz (fun fr cs es he => step_lone_select_recv_buf he hc (by simp)) ?_
  have hk := kept_setChan w c room (ps.map ptr).toArray false s (r + 1) false
  have hne : ∀ {p : Nat} {l : List Value} {T : TypeId}, Blk w p l T → ¬ p = c := fun hp => h.ne hp
  have h0 := h.cells 0 p v rfl rfl
  have hp1 := (hk.blk h0 (hne h0)).cell (o := 0) rfl
  have hx : ((p :: ps).map ptr).toArray.extract 1 ((p :: ps).map ptr).toArray.size = (ps.map ptr).toArray := by simp [List.take_of_length_le]
  have hy : ((p :: ps).map ptr).toArray.getD 0 undef = .pointer (some ⟨p, 0, none⟩) := by simp [ptr]
  rw [hx, hy]
  have hB : Bx (w.setChan c room (ps.map ptr).toArray false s (r + 1) false) b c room ps vs :=
    ⟨hk.blk h.box (hne h.box), ⟨s, r + 1, heap_setChan _ _ _ _ _ _ _ _ hlt⟩, by simpa using h.len, fun i q u hq hu => hk.blk (h.cells (i + 1) q u (by simpa using hq) (by simpa using hu)) (hne (h.cells (i + 1) q u (by simpa using hq) (by simpa using hu)))⟩
  generalize w.setChan c room (ps.map ptr).toArray false s (r + 1) false = w1 at *
  dsimp only [Act.put]
  simp only [List.setIfInBounds_toArray, List.set_cons_succ, List.set_cons_zero]
  go_wp2
  refine Wpn.of ?_
  go_wp2
  go_ret2
  exact ⟨rfl, hB, hk⟩
theorem take_empty {w : World} {b c room : Nat} (h : Bx w b c room [] []) :
    Calls Try.prog 16 #[ptr b] w fun e w' => e = .returned (.tuple #[.string ⟨#[]⟩, .bool false]) ∧ w = w' := by
  refine calls_of_wpn Try.func16 rfl ?_
  simp only [Try.ntmps16, List.size_toArray, List.length_cons, List.length_nil, Nat.reduceAdd, Nat.reduceSub, Array.replicate_succ, Array.replicate_zero, List.push_toArray, List.append_toArray, List.nil_append, List.cons_append]
  refine Wpn.seq fun K1 hK1 => Wpn.of ?_
  go_wp2
  refine Wpn.seq fun K1 hK1 => Wpn.of ?_
  go_wp2_with (go_at_call 19; (refine Calls.mono (chan_box h.box) ?_); rintro e w2 ⟨rfl, rfl⟩)
  obtain ⟨s, r, hc⟩ := h.chan
  have hz : (execOp (Act.eval ⟨#[ptr b, undef, .string ⟨#[]⟩, .bool false, undef, undef, ptr b, .chan (some c), undef, undef, undef, undef, undef, undef, undef, undef], []⟩) { dst := some 8, op := Op.select #[{ chan := Operand.tmp 7, send := none, elem := 63 }] false, type := 0, pos := "box.go:44", after := #[], guard := none }).run Try.prog w = .ok (.comm #[rcase c (.pointer none)] false .select) w := by
    simp [go_sem, execOp, rcase, Act.eval, ptr]
  refine Wpn.seq fun K1 hK1 => ?_
  refine Wpn.comm rfl hz (fun fr cs es he => step_lone_select_default he hc) ?_
  dsimp only [Act.put]
  simp only [List.setIfInBounds_toArray, List.set_cons_succ, List.set_cons_zero]
  go_wp2
  refine Wpn.of ?_
  go_wp2
  go_ret2
  exact ⟨rfl, rfl⟩
end Go.Proofs.Ytgnjnomebebanaa.MoS

/- New and Len of boxes of ints. Conditions: each theorem's own. -/
namespace Go.Proofs.Ytgnjnomebebanaa.MoS
open Go.Conc Go.RowKit Hp Mo
theorem bytesPtr : ∃ i, Try.prog.info? 63 = some i ∧ i.bytes = 8 := by
  have h : (Try.prog.info? 63).map (·.bytes) = some 8 := by kernel_rfl
  obtain ⟨i, hi, hb⟩ := Option.map_eq_some_iff.1 h
  exact ⟨i, hi, hb⟩
theorem mkBox {n : Int} (h0 : 0 ≤ n) (h1 : n ≤ 10000) (w : World) : (Instr.makeChan 59 (.int .i64 n)).run Try.prog w = .ok (.chan (some w.heap.size)) (w.alloc (.chan n.toNat #[] false 0 0 false)) := by
  obtain ⟨i, hi, hb⟩ := bytesPtr
  obtain ⟨k, rfl⟩ := Int.eq_ofNat_of_zero_le h0
  simpa using run_makeChan (P := Try.prog) (w := w) Try.underlying59 hi .i64 k (by omega) (by rw [hb]; omega)
theorem new_ok {n : Int} (h0 : 0 ≤ n) (h1 : n ≤ 10000) (w : World) : Calls Try.prog 14 #[.int .i64 n] w fun e w' => e = .returned (.tuple #[ptr (w.heap.size + 1), .int .i64 0]) ∧ Bx w' (w.heap.size + 1) w.heap.size n.toNat [] [] ∧ Kept (fun _ => False) w w' ∧ w'.heap.size = w.heap.size + 2 := by
  have hmc := mkBox h0 h1
  go_enter Try.func14, Try.ntmps14
  go_wp2
  go_ret2
  have hB := Blk.new (w.alloc (.chan n.toNat #[] false 0 0 false)) [.chan (some w.heap.size)] 61
  have hk := ((Kept.refl (fun _ => False) w).alloc (.chan n.toNat #[] false 0 0 false)).alloc (.cells #[.chan (some w.heap.size)] 61)
  simp only [World.size_alloc] at hB
  refine ⟨rfl, ⟨hB, ⟨0, 0, ?_⟩, rfl, fun i p v hp => by simp at hp⟩, hk, by simp⟩
  rw [heap_old _ _ (by simp)]
  exact heap_alloc_new w _
end Go.Proofs.Ytgnjnomebebanaa.MoS

/- awake behind its call of Gather, walked alone. Conditions: each theorem's own. -/
namespace Go.Proofs.Ytgnjnomebebanaa.Mx
open Go.Conc Go.Conc.Lib Br Go.RowKit Hp Rw Ro
/-- What awake's tail leaves. -/
def Rt (w : World) (_ : FuncId) (t : Array Value) (w' : World) : Prop := t.size = 79 ∧ t.getD 0 undef = .bool true ∧ Kept (fun _ => False) w w'
def a1 : ByteArray := ⟨#[97]⟩
def b1 : ByteArray := ⟨#[98]⟩
/-- awake's slots behind Gather. -/
inductive FW (al : Value) : Array Value → Prop
  | mk (u2 u3 u4 u5 u6 u7 u8 u9 u10 u11 u12 u13 u14 u15 u16 u17 u18 u19 u20 u21 u22 u23 u24 u25 u26 u27 u28 u29 u30 u31 u32 u33 u34 u35 u36 u37 u38 u39 u40 u41 u42 u43 u44 u45 u46 u47 u48 u49 u50 u51 u52 u53 u54 u55 u56 u57 u58 u59 u60 u61 u62 u63 u64 u65 u66 u67 u68 u69 u70 u71 u72 u73 u74 u75 u76 u77 u78 : Value) : FW al #[.bool false, al, u2, u3, u4, u5, u6, u7, u8, u9, u10, u11, u12, u13, u14, u15, u16, u17, u18, u19, u20, u21, u22, u23, u24, u25, u26, u27, u28, u29, u30, u31, u32, u33, u34, u35, u36, u37, u38, u39, u40, u41, u42, u43, u44, u45, u46, u47, u48, u49, u50, u51, u52, u53, u54, u55, u56, u57, u58, u59, u60, u61, u62, u63, u64, u65, u66, u67, u68, u69, u70, u71, u72, u73, u74, u75, u76, u77, u78]
theorem squiet {w w' : World} {b c room : Nat} {ps : List Nat} {vs : List ByteArray} (h : MoS.Bx w b c room ps vs) (k : Kept (fun _ => False) w w') : MoS.Bx w' b c room ps vs := by
  obtain ⟨s, r, h2⟩ := h.chan
  exact ⟨k.blk h.box (fun f => f), ⟨s, r, (k.block c h.lt (fun f => f)).trans h2⟩, h.len, fun i p v h3 h4 => k.blk (h.cells i p v h3 h4) (fun f => f)⟩
set_option maxHeartbeats 4000000 in
set_option maxRecDepth 100000 in
theorem tail_wp {c : Code} (hc : aw2 awB = c) (w : World) {b : Nat} {al : Value} (hr : Rw.Row iT w b al [(0, 0, 1), (0, 1, 2), (2, 0, 3)]) {t : Array Value} (ht : FW al t) :
    c.wp Try.prog (fun e a' w' => (e = .ret ∨ e = .normal) ∧ Rt w 4 a'.tmps w') ⟨t, []⟩ w := by
  obtain ⟨u2, u3, u4, u5, u6, u7, u8, u9, u10, u11, u12, u13, u14, u15, u16, u17, u18, u19, u20, u21, u22, u23, u24, u25, u26, u27, u28, u29, u30, u31, u32, u33, u34, u35, u36, u37, u38, u39, u40, u41, u42, u43, u44, u45, u46, u47, u48, u49, u50, u51, u52, u53, u54, u55, u56, u57, u58, u59, u60, u61, u62, u63, u64, u65, u66, u67, u68, u69, u70, u71, u72, u73, u74, u75, u76, u77, u78⟩ := ht
  conv at hc => lhs; whnf
  subst hc
  rcases hr.form with ⟨_, h0⟩ | ⟨g, cap, cur, rfl, h1, hL⟩
  · cases h0
  clear hr h1
  have hl3 : ([(0, 0, 1), (0, 1, 2), (2, 0, 3)] : List It).length = 3 := rfl
  rw [hl3]
  have HL := Lib.hid hL
  clear hL hl3
  go_wp2_with fail
  with_reducible refine Calls.mono (MoS.new_ok (by decide) (by decide) w) ?_
  rintro e w1 ⟨rfl, b1, k1, z1⟩
  have C2 := Lib.hid (Mo.new_bad (n := -1) (.inl (by decide)) w1)
  have C3 := Lib.hid (MoS.offer_room b1 (by decide) ⟨#[97]⟩)
  have K1 := Lib.hid k1
  clear b1 k1 z1
  go_wp2_with fail
  with_reducible refine Calls.mono C2.out ?_
  rintro e w2 ⟨rfl, rfl⟩
  clear C2
  go_wp2_with fail
  with_reducible refine Calls.mono C3.out ?_
  rintro e w3 ⟨rfl, b3, k3⟩
  clear C3
  have K3 := Lib.hid (K1.out.trans' k3 (fun i hi e => absurd (e ▸ hi) (by omega)))
  have C4 := Lib.hid (MoS.offer_full b3 (by decide) ⟨#[98]⟩)
  have B3 := Lib.hid b3
  clear b3 k3 K1
  go_wp2_with fail
  with_reducible refine Calls.mono C4.out ?_
  rintro e w4 ⟨rfl, k4⟩
  clear C4
  have C5 := Lib.hid (MoS.take_first (squiet B3.out k4))
  have K4 := Lib.hid (K3.out.trans k4)
  clear k4 K3 B3
  go_wp2_with fail
  with_reducible refine Calls.mono C5.out ?_
  rintro e w5 ⟨rfl, b5, k5⟩
  clear C5 b5
  have k := K4.out.trans' k5 (fun i hi e => absurd (e ▸ hi) (by omega))
  have L5 := HL.out.kept k (fun f => f)
  have c1 : w5.cell? ⟨g, 5, none⟩ = some (.int .i64 2) := L5.cell (i := 1) (j := 2) rfl rfl
  have c2 : w5.cell? ⟨g, 6, none⟩ = some (.int .i64 2) := L5.cell (i := 2) (j := 0) rfl rfl
  have c3 : w5.cell? ⟨g, 7, none⟩ = some (.int .i64 0) := L5.cell (i := 2) (j := 1) rfl rfl
  have HK := Lib.hid k
  clear L5 k k5 K4 HL
  go_wp2_with fail
  exact ⟨rfl, rfl, HK.out⟩
end Go.Proofs.Ytgnjnomebebanaa.Mx

/- awake behind its group: back to its text, and on to its return. Conditions: each theorem's own. -/
namespace Go.Proofs.Ytgnjnomebebanaa.Mx
open Go.Conc Go.Conc.Lib Br Go.RowKit Hp Rw Ro So
open Go.ConcN (sumTo upd sumTo_upd upd_ne upd_same)
/-- awake's slots at its call of Gather. -/
inductive FAw : Array Value → Prop
  | mk (u1 u2 u3 u4 u5 u6 u7 u8 u9 u10 u11 u12 u13 u14 u15 u16 u17 u18 u19 u20 u21 u22 u23 u24 u25 u26 u27 u28 u29 u30 u31 u32 u33 u34 u35 u36 u37 u38 u39 u40 u41 u42 u43 u44 u45 u46 u47 u48 u49 u50 u51 u52 u53 u54 u55 u56 u57 u58 u59 u60 u61 u62 u63 u64 u65 u66 u67 u68 u69 u70 u71 u72 u73 u74 u75 u76 u77 u78 : Value) : FAw #[.bool false, u1, u2, u3, u4, u5, u6, u7, u8, u9, u10, u11, u12, u13, u14, u15, u16, u17, u18, u19, u20, u21, u22, u23, u24, u25, u26, u27, u28, u29, u30, u31, u32, u33, u34, u35, u36, u37, u38, u39, u40, u41, u42, u43, u44, u45, u46, u47, u48, u49, u50, u51, u52, u53, u54, u55, u56, u57, u58, u59, u60, u61, u62, u63, u64, u65, u66, u67, u68, u69, u70, u71, u72, u73, u74, u75, u76, u77, u78]
/-- Gather's frame while it waits for atOnce. -/
noncomputable def gaF (t : Array Value) : Frame := (base 13).at ⟨t, []⟩ (.inRegion (ga5 gaL) [10, 11] :: .inBlock 1 :: .code (ga4 gaL) :: .inLoop gaL :: .inBlock 0 :: .code (gaE gaB) :: [])
/-- awake's goroutine behind its first line. -/
def AtTail (H : Nat) (vM W : World) (cs : List Frame) (g : Goroutine) (w : World) : Prop := ∃ al t v, g = G ((base 4).at ⟨t, []⟩ [.code (aw2 awB)]) cs ∧ FW al t ∧ Behind H vM W al w v
/-- At awake's return. -/
def AtRet (S : Sh) (K : World → Prop) (cs : List Frame) (g : Goroutine) (w : World) : Prop :=
  ∃ fr v, g = G fr cs ∧ fr.defers = [] ∧ fr.kind = .normal ∧ fr.roundOf = none ∧ fr.mode = .returning ∧ fr.fn = 4 ∧ fr.tmps.getD 0 undef = .bool true ∧ Like S w v ∧ K v
theorem Behind.at_ {H : Nat} {vM W w v w₁ : World} {al : Value} (h : Behind H vM W al w v) (hr : AtR w w₁) : Behind H vM W al w₁ v := ⟨(like_atR hr h.like).1, h.row, h.size, h.same⟩
section
variable {H : Nat} {vM W : World} {al : Value}
set_option maxRecDepth 100000 in
set_option maxHeartbeats 4000000 in
theorem awBack {t : Array Value} (ht : FAw t) {cs : List Frame} {w v : World} (hb : Behind H vM W al w v) {cB : Code} (hcB : awB = cB) :
    SG (DA H W) (AtTail H vM W cs) 2 (G ((base 4).at (Act.put ⟨t, []⟩ (((aw1 cB)[3]?).bind (·.dst)) al) (.inRegion (aw1 cB) [4] :: [.code (aw2 cB)])) cs) w := by
  obtain ⟨u1, u2, u3, u4, u5, u6, u7, u8, u9, u10, u11, u12, u13, u14, u15, u16, u17, u18, u19, u20, u21, u22, u23, u24, u25, u26, u27, u28, u29, u30, u31, u32, u33, u34, u35, u36, u37, u38, u39, u40, u41, u42, u43, u44, u45, u46, u47, u48, u49, u50, u51, u52, u53, u54, u55, u56, u57, u58, u59, u60, u61, u62, u63, u64, u65, u66, u67, u68, u69, u70, u71, u72, u73, u74, u75, u76, u77, u78⟩ := ht
  have hcB' := hcB
  conv at hcB => lhs; whnf
  subst hcB
  refine SG.pure (y := al) rfl rfl rfl (fun w => rfl) ?_
  refine SG.regEnd ?_
  refine SG.stop fun w₁ hr => ⟨al, #[.bool false, al, u2, u3, u4, u5, u6, u7, u8, u9, u10, u11, u12, al, u14, u15, u16, u17, u18, u19, u20, u21, u22, u23, u24, u25, u26, u27, u28, u29, u30, u31, u32, u33, u34, u35, u36, u37, u38, u39, u40, u41, u42, u43, u44, u45, u46, u47, u48, u49, u50, u51, u52, u53, u54, u55, u56, u57, u58, u59, u60, u61, u62, u63, u64, u65, u66, u67, u68, u69, u70, u71, u72, u73, u74, u75, u76, u77, u78], v, ?_, .mk .., hb.at_ hr⟩
  rw [hcB']
  rfl
theorem backGoes {tg tw : Array Value} (hg : FG H tg) (hw : FAw tw) {cs : List Frame} {w v : World} (hb : Behind H vM W al w v) {t : Array Value} (ht : FT (gA H) al (H + 4) 4 0 4 t) {a : Goroutine}
    (hs : Slips a (G ((base 18).at (Act.put ⟨t, []⟩ (((tk17 (sndOf spa))[0]?).bind (·.dst)) (.tuple #[])) (.inRegion (tk17 (sndOf spa)) [] :: .code (sndOf (sndOf spa)) :: []))
      (gaF tg :: (base 4).at ⟨tw, []⟩ (.inRegion (aw1 awB) [3, 4] :: [.code (aw2 awB)]) :: cs))) : ∃ n, SG (DA H W) (AtTail H vM W cs) n a w := by
  obtain ⟨n, hs⟩ := hs
  refine ⟨n + ((2 + 60) + 20), SG.slip ?_ hs⟩
  refine atOnceBack ht (fun w v hb => ?_) hb rfl
  refine gatherBack hg (fun w v hb => ?_) hb rfl rfl
  exact awBack hw hb rfl
theorem awOk : okCode Try.prog Mo.Fs (aw2 awB) = true := by kernel_rfl
/-- awake's tail, beside whoever draws. -/
theorem tail_ev {t : Array Value} (ht : FW al t) {cs : List Frame} {w v : World} (hb : Behind H vM W al w v) :
    Ev Try.prog (DA H W) cs (StopG Try.prog [] (DA H W) (fun f t v' => f = 4 ∧ t.getD 0 undef = .bool true ∧ ∃ v₁, v₁.heap = v.heap ∧ Kept (fun _ => False) v₁ v')) ⟨(base 4).at ⟨t, []⟩ [.code (aw2 awB)], [], w⟩ := by
  refine ev_gates Mo.noEarly Mo.funs (br := (base 4).at ⟨t, []⟩ [.code (aw2 awB)]) (bg := (base 4).at ⟨t, []⟩ [.code (aw2 awB)]) ?_ hb.like ?_
  · exact ⟨rfl, rfl, rfl, rfl, rfl, rfl, rfl, rfl, rfl, .code (.same (okCode_ok awOk)) .nil⟩
  · intro v1 h1
    have hh := like_same hb.like h1
    obtain ⟨N, fr, v', h1, h2, h3, h4⟩ := lone_of_wp (b := base 4) (R := fun f t v' => (f = 4 ∧ t.getD 0 undef = .bool true) ∧ Kept (fun _ => False) v1 v') (Code.wp_mono (fun e a' w' h => ⟨h.1, ⟨rfl, h.2.2.1⟩, h.2.2.2⟩) (tail_wp rfl v1 (row_heap hb.row hh) ht))
    exact ⟨N, fr, v', h1, h2, h3.1, h3.2, v1, hh, h4⟩
theorem lands_then {P : Program} {Shun : Loc → Prop} {St St' : Goroutine → World → Prop} {gs : Array Goroutine} {w₁ : World} {sl : Option (Nat × Nat)} {t : Trace} (h : Lands P Shun St gs w₁ sl t)
    (k : ∀ gs' g w' sl' t' q', gs'.size = gs.size → gs'[0]? = some g → St g w' → Leavers P t' gs' q' → Past Shun w'.heap.size t' → Lands P Shun St' gs' w' sl' t') : Lands P Shun St' gs w₁ sl t := by
  obtain ⟨N, gs', g, w', sl', t', q', hr, hs, h0, hS, hL, hP⟩ := h
  obtain ⟨N2, gs2, g2, w2, sl2, t2, q2, hr2, hs2, h02, hS2, hL2, hP2⟩ := k gs' g w' sl' t' q' hs h0 hS hL hP
  exact ⟨N + N2, gs2, g2, w2, sl2, t2, q2, runNT_then hr hr2, hs2.trans hs, h02, hS2, hL2, hP2⟩
/-- From awake's tail to its return. -/
theorem tailLands {cs : List Frame} {gs : Array Goroutine} {g : Goroutine} {w : World} {sl : Option (Nat × Nat)} {t : Trace} {q : Nat → Nat} (h0 : gs[0]? = some g) (hS : AtTail H vM W cs g w) (hL : Leavers Try.prog t gs q) (hP : Past (fun l => False ∨ OfG (H + 3) l) w.heap.size t) :
    Lands Try.prog (fun l => False ∨ OfG (H + 3) l) (AtRet (DA H W) (fun v => H + 20 ≤ v.heap.size ∧ ∀ b, b < H + 3 → v.heap[b]? = vM.heap[b]?) cs) gs w sl t := by
  obtain ⟨al, tt, v, rfl, ht, hb⟩ := hS
  obtain ⟨N, gs', y, sl', t', q', hr, hs, h0', hSt, hL', hP'⟩ := ev_beside (shunA H W) (fun x d h => stopG_at x d h) (tail_ev ht hb) _ gs w sl t q ⟨w.drawn, rfl⟩ (Nat.le_refl _) h0 hL hP
  refine ⟨N, gs', _, y.w, sl', t', q', hr, hs, h0', ?_, hL', hP'⟩
  obtain ⟨s1, s2, s3, s4, s5⟩ := hSt
  rcases s5 with ⟨s5, v', hl, e1, e2, v1, e3, k⟩ | ⟨_, ops, i, kk, hm, _⟩
  · refine ⟨y.fr, v', by rw [s1]; rfl, s2, s3, s4, s5, e1, e2, hl, ?_, fun b hb' => ?_⟩
    · have := k.size
      rw [e3] at this
      have := hb.size
      omega
    · rw [k.block b (by rw [e3]; have := hb.size; omega) (fun f => f), e3]
      exact hb.same b hb'
  · cases hm
end
end Go.Proofs.Ytgnjnomebebanaa.Mx

/- awake from its entry to the making of its group. Conditions: each theorem's own. -/
namespace Go.Proofs.Ytgnjnomebebanaa.Mx
open Go.Conc Go.Conc.Lib Br Go.RowKit Hp Rw Ro So
open Go.ConcN (sumTo upd sumTo_upd upd_ne upd_same)
noncomputable def atB : Code := Try.f18.body.getD .skip
/-- atOnce's slots at the making of its group. -/
inductive FA0 (H : Nat) : Array Value → Prop
  | mk (u3 u4 u5 u6 u7 u8 u9 u10 u11 u12 u13 u14 u15 u16 u17 u18 u19 u20 u21 u22 u23 u24 u25 u26 u27 u28 u29 u30 u31 u32 u33 u34 u35 u36 u37 u38 u39 u40 u41 u42 u43 u44 u45 u46 u47 u48 u49 u50 u51 u52 u53 u54 u55 u56 u57 u58 u59 u60 u61 u62 u63 u64 u65 u66 u67 u68 u69 u70 u71 u72 u73 u74 u75 u76 u77 u78 : Value) : FA0 H #[nilS, .int .i64 0, .slice (some ⟨H + 2, 0, none⟩) 3 3, u3, u4, u5, u6, u7, u8, u9, u10, u11, u12, u13, u14, u15, u16, u17, u18, u19, u20, u21, u22, u23, u24, u25, u26, u27, u28, u29, u30, u31, u32, u33, u34, u35, u36, u37, u38, u39, u40, u41, u42, u43, u44, u45, u46, u47, u48, u49, u50, u51, u52, u53, u54, u55, u56, u57, u58, u59, u60, u61, u62, u63, u64, u65, u66, u67, u68, u69, u70, u71, u72, u73, u74, u75, u76, u77, u78]
/-- awake's goroutine there. -/
def AtAlloc (H : Nat) (vI W : World) (cs : List Frame) (g : Goroutine) (w : World) : Prop :=
  ∃ tA tg tw v, g = G ((base 18).at ⟨tA, []⟩ (.inRegion (aw1 atB) [0] :: .code (aw2 atB) :: [])) (gaF tg :: (base 4).at ⟨tw, []⟩ (.inRegion (aw1 awB) [3, 4] :: [.code (aw2 awB)]) :: cs) ∧
    FA0 H tA ∧ FG H tg ∧ FAw tw ∧ Like (sh0 W) w v ∧ v.heap = ((vI.heap.push (.cells #[.int .i64 1, .int .i64 2] 3)).push (.cells #[.int .i64 3] 3)).push (.cells (rowsA H).toArray 22)
section
variable (w : World) (f : Operand → Value)
theorem ln1 {a : Option Addr} (h1 : f (.tmp 17) = .slice a 3 3) : (execOp f { dst := some 18, op := .call { callee := .builtin .len, args := #[.tmp 17], argTypes := #[26] }, type := 3, pos := "mux.go:86", after := #[{ on := 6, ground := .data }], guard := none }).run Try.prog w = .ok (.value (.int .i64 3)) w := by
  have e : (Builtin.len_ #[26] 3 #[.slice a 3 3]).run Try.prog w = .ok (.int .i64 3) w := by kernel_rfl
  simp [execOp, h1, go_sem, e]
theorem mn1 (h1 : f (.tmp 16) = .int .i64 1000) (h2 : f (.tmp 18) = .int .i64 3) : (execOp f { dst := some 19, op := .call { callee := .builtin .min, args := #[.tmp 16, .tmp 18], argTypes := #[3, 3] }, type := 3, pos := "mux.go:86", after := #[{ on := 5, ground := .data }, { on := 7, ground := .data }], guard := none }).run Try.prog w = .ok (.value (.int .i64 3)) w := by
  have e : (Builtin.min_ #[3, 3] 3 #[.int .i64 1000, .int .i64 3]).run Try.prog w = .ok (.int .i64 3) w := by kernel_rfl
  simp [execOp, h1, h2, go_sem, e]
theorem sl1 {b : Nat} (h1 : f (.tmp 13) = .slice (some ⟨b, 0, none⟩) 3 3) (h2 : f (.tmp 14) = .int .i64 0) (h3 : f (.tmp 19) = .int .i64 3) : (execOp f { dst := some 20, op := .slice 26 (.tmp 13) (some (.tmp 14)) (some (.tmp 19)) none, type := 26, pos := "mux.go:86", after := #[{ on := 2, ground := .data }, { on := 3, ground := .data }, { on := 8, ground := .data }], guard := none }).run Try.prog w = .ok (.value (.slice (some ⟨b, 0, none⟩) 3 3)) w := by
  have e : (Instr.slice 26 (.slice (some ⟨b, 0, none⟩) 3 3) (some (.int .i64 0)) (some (.int .i64 3)) none).run Try.prog w = .ok (.slice (some ⟨b, 0, none⟩) 3 3) w := by kernel_rfl
  simp [execOp, h1, h2, h3, go_sem, e]
theorem bs1 (h1 : f (.const (.int .i64 1)) = .int .i64 1) (h2 : f (.const (.int .i64 2)) = .int .i64 2) : (execOp f { dst := some 10, op := .buildSlice 22 2 #[(0, .const (.int .i64 1)), (1, .const (.int .i64 2))], type := 22, pos := "law.go:14", after := #[], guard := none }).run Try.prog w = .ok (.value (.slice (some ⟨w.heap.size, 0, none⟩) 2 2)) (w.alloc (.cells #[.int .i64 1, .int .i64 2] 3)) := by
  simp [execOp, h1, h2, go_sem]
theorem bs2 (h1 : f (.const (.int .i64 3)) = .int .i64 3) : (execOp f { dst := some 11, op := .buildSlice 22 1 #[(0, .const (.int .i64 3))], type := 22, pos := "law.go:14", after := #[], guard := none }).run Try.prog w = .ok (.value (.slice (some ⟨w.heap.size, 0, none⟩) 1 1)) (w.alloc (.cells #[.int .i64 3] 3)) := by
  simp [execOp, h1, go_sem]
theorem bs3 {a b : Option Addr} {n m : Nat} (h1 : f (.tmp 10) = .slice a n n) (h2 : f (.const (.slice none 0 0)) = .slice none 0 0) (h3 : f (.tmp 11) = .slice b m m) : (execOp f { dst := some 12, op := .buildSlice 26 3 #[(0, .tmp 10), (1, .const (.slice none 0 0)), (2, .tmp 11)], type := 26, pos := "law.go:14", after := #[{ on := 0, ground := .data }, { on := 1, ground := .data }], guard := none }).run Try.prog w = .ok (.value (.slice (some ⟨w.heap.size, 0, none⟩) 3 3)) (w.alloc (.cells #[.slice a n n, .slice none 0 0, .slice b m m] 22)) := by
  simp [execOp, h1, h2, h3, go_sem]
end
section
variable {H : Nat} {vI W : World} {St : Goroutine → World → Prop} {m : Nat}
set_option maxRecDepth 100000 in
set_option maxHeartbeats 4000000 in
/-- From awake's entry to its call of Gather. -/
theorem awIn {cs : List Frame} {w v : World} (hl : Like (sh0 W) w v) (hH : v.heap.size = H) {cB : Code} (hcB : awB = cB)
    (hnext : ∀ tw w' v', FAw tw → Like (sh0 W) w' v' → v'.heap = ((v.heap.push (.cells #[.int .i64 1, .int .i64 2] 3)).push (.cells #[.int .i64 3] 3)).push (.cells (rowsA H).toArray 22) →
      SG (sh0 W) St m (G ((base 13).at { tmps := #[.slice (some ⟨H + 2, 0, none⟩) 3 3] ++ Array.replicate 22 undef, defers := [] } [.code gaB]) ((base 4).at ⟨tw, []⟩ (.inRegion (aw1 cB) [3, 4] :: [.code (aw2 cB)]) :: cs)) w') :
    SG (sh0 W) St (m + 20) (G ((base 4).at { tmps := #[] ++ Array.replicate 79 undef, defers := [] } [.code cB]) cs) w := by
  conv at hcB => lhs; whnf
  subst hcB
  refine SG.le (m := 1 + 2 + ((m + 1) + 1 + 1 + 1 + 1 + 1) + 1) ?_ (by omega)
  refine SG.seq ?_
  show SG (sh0 W) St _ (G ((base 4).at ⟨#[undef, undef, undef, undef, undef, undef, undef, undef, undef, undef, undef, undef, undef, undef, undef, undef, undef, undef, undef, undef, undef, undef, undef, undef, undef, undef, undef, undef, undef, undef, undef, undef, undef, undef, undef, undef, undef, undef, undef, undef, undef, undef, undef, undef, undef, undef, undef, undef, undef, undef, undef, undef, undef, undef, undef, undef, undef, undef, undef, undef, undef, undef, undef, undef, undef, undef, undef, undef, undef, undef, undef, undef, undef, undef, undef, undef, undef, undef, undef], []⟩ _) _) w
  refine SG.region (m := (m + 1) + 1 + 1 + 1 + 1 + 1) (R := fun t v' => t = #[.bool false, undef, undef, undef, undef, undef, undef, undef, undef, undef, undef, undef, undef, undef, undef, undef, undef, undef, undef, undef, undef, undef, undef, undef, undef, undef, undef, undef, undef, undef, undef, undef, undef, undef, undef, undef, undef, undef, undef, undef, undef, undef, undef, undef, undef, undef, undef, undef, undef, undef, undef, undef, undef, undef, undef, undef, undef, undef, undef, undef, undef, undef, undef, undef, undef, undef, undef, undef, undef, undef, undef, undef, undef, undef, undef, undef, undef, undef, undef] ∧ v'.heap = v.heap)
    rfl (by kernel_rfl) rfl hl (fun v1 h1 => ?_) (fun a4 w4 v4 hd hl4 hR4 => ?_)
  · have hh := Lib.hid (like_same hl h1)
    clear hl hnext
    go_wp2
    exact hh.out
  obtain ⟨t4, d4⟩ := a4
  obtain rfl : d4 = [] := hd
  obtain ⟨ht, e4⟩ := hR4
  have ht1 : t4 = #[.bool false, undef, undef, undef, undef, undef, undef, undef, undef, undef, undef, undef, undef, undef, undef, undef, undef, undef, undef, undef, undef, undef, undef, undef, undef, undef, undef, undef, undef, undef, undef, undef, undef, undef, undef, undef, undef, undef, undef, undef, undef, undef, undef, undef, undef, undef, undef, undef, undef, undef, undef, undef, undef, undef, undef, undef, undef, undef, undef, undef, undef, undef, undef, undef, undef, undef, undef, undef, undef, undef, undef, undef, undef, undef, undef, undef, undef, undef, undef] := ht
  subst ht1
  clear ht
  refine SG.seq ?_
  refine SG.reg ?_
  refine SG.one (R := fun y v' => y = .slice (some ⟨H, 0, none⟩) 2 2 ∧ v'.heap = v.heap.push (.cells #[.int .i64 1, .int .i64 2] 3)) rfl rfl rfl (by kernel_rfl) hl4 (fun v1 h1 => ⟨_, _, .inl (bs1 v1 _ rfl rfl), ?_⟩) (fun y1 w5 v5 hl5 hR5 => ?_)
  · have e := (like_same hl4 h1).trans e4
    exact ⟨by rw [e, hH], by simp only [World.alloc]; rw [e]⟩
  obtain ⟨rfl, e5⟩ := hR5
  refine SG.one (R := fun y v' => y = .slice (some ⟨H + 1, 0, none⟩) 1 1 ∧ v'.heap = (v.heap.push (.cells #[.int .i64 1, .int .i64 2] 3)).push (.cells #[.int .i64 3] 3)) rfl rfl rfl (by kernel_rfl) hl5 (fun v1 h1 => ⟨_, _, .inl (bs2 v1 _ rfl), ?_⟩) (fun y1 w6 v6 hl6 hR6 => ?_)
  · have e := (like_same hl5 h1).trans e5
    exact ⟨by rw [e, Array.size_push, hH], by simp only [World.alloc]; rw [e]⟩
  obtain ⟨rfl, e6⟩ := hR6
  refine SG.one (R := fun y v' => y = .slice (some ⟨H + 2, 0, none⟩) 3 3 ∧ v'.heap = ((v.heap.push (.cells #[.int .i64 1, .int .i64 2] 3)).push (.cells #[.int .i64 3] 3)).push (.cells (rowsA H).toArray 22)) rfl rfl rfl (by kernel_rfl) hl6 (fun v1 h1 => ⟨_, _, .inl (bs3 v1 _ (a := some ⟨H, 0, none⟩) (b := some ⟨H + 1, 0, none⟩) (n := 2) (m := 1) rfl rfl rfl), ?_⟩) (fun y1 w7 v7 hl7 hR7 => ?_)
  · have e := (like_same hl6 h1).trans e6
    exact ⟨by rw [e, Array.size_push, Array.size_push, hH], by simp only [World.alloc]; rw [e]; rfl⟩
  obtain ⟨rfl, e7⟩ := hR7
  refine SG.call' (f := 13) (vals := #[.slice (some ⟨H + 2, 0, none⟩) 3 3]) rfl rfl rfl rfl Try.func13 (by kernel_rfl) rfl (by simp [Act.eval, Act.put]) ?_
  exact hnext _ w7 v7 (.mk ..) hl7 e7
end
end Go.Proofs.Ytgnjnomebebanaa.Mx

/- Gather from its entry to its call of atOnce; atOnce to the making of its group. Conditions: each theorem's own. -/
namespace Go.Proofs.Ytgnjnomebebanaa.Mx
open Go.Conc Go.Conc.Lib Br Go.RowKit Hp Rw Ro So
open Go.ConcN (sumTo upd sumTo_upd upd_ne upd_same)
section
variable {H : Nat} {vI W : World} {St : Goroutine → World → Prop} {m : Nat}
set_option maxRecDepth 100000 in
set_option maxHeartbeats 1000000 in
/-- From Gather's entry to its call of atOnce. -/
theorem gatherIn {cs : List Frame} {w v : World} (hl : Like (sh0 W) w v) {cB cL : Code} (hcB : gaB = cB) (hcL : gaL = cL)
    (hnext : ∀ (tg : Array Value) (w' v' : World), FG H tg → Like (sh0 W) w' v' → v'.heap = v.heap →
      SG (sh0 W) St m (G ((base 18).at { tmps := #[nilS, .int .i64 0, .slice (some ⟨H + 2, 0, none⟩) 3 3] ++ Array.replicate 76 undef, defers := [] } [.code atB])
        ((base 13).at ⟨tg, []⟩ (.inRegion (ga5 cL) [10, 11] :: .inBlock 1 :: .code (ga4 cL) :: .inLoop cL :: .inBlock 0 :: .code (gaE cB) :: []) :: cs)) w') :
    SG (sh0 W) St (m + 60) (G ((base 13).at { tmps := #[.slice (some ⟨H + 2, 0, none⟩) 3 3] ++ Array.replicate 22 undef, defers := [] } [.code cB]) cs) w := by
  conv at hcL => lhs; whnf
  subst hcL
  conv at hcB => lhs; whnf
  subst hcB
  refine SG.le (m := 1 + 2 + (1 + 2 + (1 + 2 + (4 + 2 + ((m + 1) + 1 + 1 + 1 + 1 + 1 + 1 + 1 + 1 + 1 + 1 + 1 + 1 + 1 + 1 + 1) + 1 + 1 + 1 + 1) + 1 + 1) + 1) + 1) ?_ (by omega)
  refine SG.seq ?_
  have e0 : (#[.slice (some ⟨H + 2, 0, none⟩) 3 3] ++ Array.replicate 22 undef : Array Value) = #[.slice (some ⟨H + 2, 0, none⟩) 3 3, undef, undef, undef, undef, undef, undef, undef, undef, undef, undef, undef, undef, undef, undef, undef, undef, undef, undef, undef, undef, undef, undef] := by kernel_rfl
  rw [e0]
  refine SG.region (m := 1 + 2 + (1 + 2 + (4 + 2 + ((m + 1) + 1 + 1 + 1 + 1 + 1 + 1 + 1 + 1 + 1 + 1 + 1 + 1 + 1 + 1 + 1) + 1 + 1 + 1 + 1) + 1 + 1) + 1) (R := fun t v' => t = #[.slice (some ⟨H + 2, 0, none⟩) 3 3, undef, nilS, undef, undef, undef, undef, undef, undef, undef, undef, undef, undef, undef, undef, undef, undef, undef, undef, undef, undef, undef, undef] ∧ v'.heap = v.heap)
    rfl (by kernel_rfl) rfl hl (fun v1 h1 => ?_) (fun a4 w4 v4 hd hl4 hR4 => ?_)
  · have hh := Lib.hid (like_same hl h1)
    clear hl hnext
    go_wp2
    exact hh.out
  obtain ⟨t4, d4⟩ := a4
  obtain rfl : d4 = [] := hd
  obtain ⟨ht, e4⟩ := hR4
  have ht1 : t4 = #[.slice (some ⟨H + 2, 0, none⟩) 3 3, undef, nilS, undef, undef, undef, undef, undef, undef, undef, undef, undef, undef, undef, undef, undef, undef, undef, undef, undef, undef, undef, undef] := ht
  subst ht1
  clear ht
  refine SG.seq ?_
  refine SG.region (m := 1 + 2 + (4 + 2 + ((m + 1) + 1 + 1 + 1 + 1 + 1 + 1 + 1 + 1 + 1 + 1 + 1 + 1 + 1 + 1 + 1) + 1 + 1 + 1 + 1) + 1 + 1) (R := fun t v' => t = #[.slice (some ⟨H + 2, 0, none⟩) 3 3, undef, nilS, nilS, undef, undef, undef, undef, undef, undef, undef, undef, undef, undef, undef, undef, undef, undef, undef, undef, undef, undef, undef] ∧ v'.heap = v.heap)
    rfl (by kernel_rfl) rfl hl4 (fun v1 h1 => ?_) (fun a5 w5 v5 hd hl5 hR5 => ?_)
  · have hh := Lib.hid ((like_same hl4 h1).trans e4)
    clear hl4 hnext
    go_wp2
    exact hh.out
  obtain ⟨t5, d5⟩ := a5
  obtain rfl : d5 = [] := hd
  obtain ⟨ht, e5⟩ := hR5
  have ht1 : t5 = #[.slice (some ⟨H + 2, 0, none⟩) 3 3, undef, nilS, nilS, undef, undef, undef, undef, undef, undef, undef, undef, undef, undef, undef, undef, undef, undef, undef, undef, undef, undef, undef] := ht
  subst ht1
  clear ht
  refine SG.seq ?_
  refine SG.seq ?_
  refine SG.region (m := 4 + 2 + ((m + 1) + 1 + 1 + 1 + 1 + 1 + 1 + 1 + 1 + 1 + 1 + 1 + 1 + 1 + 1 + 1) + 1 + 1 + 1 + 1) (R := fun t v' => t = #[.slice (some ⟨H + 2, 0, none⟩) 3 3, undef, nilS, nilS, .int .i64 0, undef, undef, undef, undef, undef, undef, undef, undef, undef, undef, undef, undef, undef, undef, undef, undef, undef, undef] ∧ v'.heap = v.heap)
    rfl (by kernel_rfl) rfl hl5 (fun v1 h1 => ?_) (fun a6 w6 v6 hd hl6 hR6 => ?_)
  · have hh := Lib.hid ((like_same hl5 h1).trans e5)
    clear hl5 hnext
    go_wp2
    exact hh.out
  obtain ⟨t6, d6⟩ := a6
  obtain rfl : d6 = [] := hd
  obtain ⟨ht, e6⟩ := hR6
  have ht1 : t6 = #[.slice (some ⟨H + 2, 0, none⟩) 3 3, undef, nilS, nilS, .int .i64 0, undef, undef, undef, undef, undef, undef, undef, undef, undef, undef, undef, undef, undef, undef, undef, undef, undef, undef] := ht
  subst ht1
  clear ht
  refine SG.block ?_
  refine SG.loop ?_
  refine SG.seq ?_
  refine SG.seq ?_
  refine SG.region (m := (m + 1) + 1 + 1 + 1 + 1 + 1 + 1 + 1 + 1 + 1 + 1 + 1 + 1 + 1 + 1 + 1) (R := fun t v' => t = #[.slice (some ⟨H + 2, 0, none⟩) 3 3, undef, nilS, nilS, .int .i64 0, .int .i64 0, .slice (some ⟨H + 2, 0, none⟩) 3 3, .int .i64 3, .bool true, undef, undef, undef, undef, undef, undef, undef, undef, undef, undef, undef, undef, undef, undef] ∧ v'.heap = v.heap)
    rfl (by kernel_rfl) rfl hl6 (fun v1 h1 => ?_) (fun a7 w7 v7 hd hl7 hR7 => ?_)
  · have hh := Lib.hid ((like_same hl6 h1).trans e6)
    clear hl6 hnext
    go_wp2
    exact hh.out
  obtain ⟨t7, d7⟩ := a7
  obtain rfl : d7 = [] := hd
  obtain ⟨ht, e7⟩ := hR7
  have ht1 : t7 = #[.slice (some ⟨H + 2, 0, none⟩) 3 3, undef, nilS, nilS, .int .i64 0, .int .i64 0, .slice (some ⟨H + 2, 0, none⟩) 3 3, .int .i64 3, .bool true, undef, undef, undef, undef, undef, undef, undef, undef, undef, undef, undef, undef, undef, undef] := ht
  subst ht1
  clear ht
  refine SG.condT rfl ?_
  refine SG.skip ?_
  refine SG.seq ?_
  refine SG.block ?_
  refine SG.reg ?_
  refine SG.pure (y := nilS) rfl rfl rfl (fun w => by rfl) ?_
  show SG (sh0 W) St _ (G ((base 13).at ⟨#[.slice (some ⟨H + 2, 0, none⟩) 3 3, undef, nilS, nilS, .int .i64 0, .int .i64 0, .slice (some ⟨H + 2, 0, none⟩) 3 3, .int .i64 3, .bool true, undef, undef, nilS, undef, undef, undef, undef, undef, undef, undef, undef, undef, undef, undef], []⟩ _) _) w7
  refine SG.pure (y := .int .i64 0) rfl rfl rfl (fun w => by rfl) ?_
  show SG (sh0 W) St _ (G ((base 13).at ⟨#[.slice (some ⟨H + 2, 0, none⟩) 3 3, undef, nilS, nilS, .int .i64 0, .int .i64 0, .slice (some ⟨H + 2, 0, none⟩) 3 3, .int .i64 3, .bool true, undef, undef, nilS, .int .i64 0, undef, undef, undef, undef, undef, undef, undef, undef, undef, undef], []⟩ _) _) w7
  refine SG.pure (y := .slice (some ⟨H + 2, 0, none⟩) 3 3) rfl rfl rfl (fun w => by rfl) ?_
  show SG (sh0 W) St _ (G ((base 13).at ⟨#[.slice (some ⟨H + 2, 0, none⟩) 3 3, undef, nilS, nilS, .int .i64 0, .int .i64 0, .slice (some ⟨H + 2, 0, none⟩) 3 3, .int .i64 3, .bool true, undef, undef, nilS, .int .i64 0, .slice (some ⟨H + 2, 0, none⟩) 3 3, undef, undef, undef, undef, undef, undef, undef, undef, undef], []⟩ _) _) w7
  refine SG.pure (y := .int .i64 0) rfl rfl rfl (fun w => by rfl) ?_
  show SG (sh0 W) St _ (G ((base 13).at ⟨#[.slice (some ⟨H + 2, 0, none⟩) 3 3, undef, nilS, nilS, .int .i64 0, .int .i64 0, .slice (some ⟨H + 2, 0, none⟩) 3 3, .int .i64 3, .bool true, undef, undef, nilS, .int .i64 0, .slice (some ⟨H + 2, 0, none⟩) 3 3, .int .i64 0, undef, undef, undef, undef, undef, undef, undef, undef], []⟩ _) _) w7
  refine SG.pure (y := .int .i64 0) rfl rfl rfl (fun w => by rfl) ?_
  show SG (sh0 W) St _ (G ((base 13).at ⟨#[.slice (some ⟨H + 2, 0, none⟩) 3 3, undef, nilS, nilS, .int .i64 0, .int .i64 0, .slice (some ⟨H + 2, 0, none⟩) 3 3, .int .i64 3, .bool true, undef, undef, nilS, .int .i64 0, .slice (some ⟨H + 2, 0, none⟩) 3 3, .int .i64 0, .int .i64 0, undef, undef, undef, undef, undef, undef, undef], []⟩ _) _) w7
  refine SG.pure (y := .int .i64 1000) rfl rfl rfl (fun w => by rfl) ?_
  show SG (sh0 W) St _ (G ((base 13).at ⟨#[.slice (some ⟨H + 2, 0, none⟩) 3 3, undef, nilS, nilS, .int .i64 0, .int .i64 0, .slice (some ⟨H + 2, 0, none⟩) 3 3, .int .i64 3, .bool true, undef, undef, nilS, .int .i64 0, .slice (some ⟨H + 2, 0, none⟩) 3 3, .int .i64 0, .int .i64 0, .int .i64 1000, undef, undef, undef, undef, undef, undef], []⟩ _) _) w7
  refine SG.pure (y := .slice (some ⟨H + 2, 0, none⟩) 3 3) rfl rfl rfl (fun w => by rfl) ?_
  show SG (sh0 W) St _ (G ((base 13).at ⟨#[.slice (some ⟨H + 2, 0, none⟩) 3 3, undef, nilS, nilS, .int .i64 0, .int .i64 0, .slice (some ⟨H + 2, 0, none⟩) 3 3, .int .i64 3, .bool true, undef, undef, nilS, .int .i64 0, .slice (some ⟨H + 2, 0, none⟩) 3 3, .int .i64 0, .int .i64 0, .int .i64 1000, .slice (some ⟨H + 2, 0, none⟩) 3 3, undef, undef, undef, undef, undef], []⟩ _) _) w7
  refine SG.one (R := fun y v' => y = .int .i64 3 ∧ v'.heap = v7.heap) rfl rfl rfl (by kernel_rfl) hl7 (fun v1 h1 => ⟨_, _, .inl (ln1 v1 _ rfl), rfl, like_same hl7 h1⟩) (fun y1 w8 v8 hl8 hR8 => ?_)
  obtain ⟨rfl, e8⟩ := hR8
  show SG (sh0 W) St _ (G ((base 13).at ⟨#[.slice (some ⟨H + 2, 0, none⟩) 3 3, undef, nilS, nilS, .int .i64 0, .int .i64 0, .slice (some ⟨H + 2, 0, none⟩) 3 3, .int .i64 3, .bool true, undef, undef, nilS, .int .i64 0, .slice (some ⟨H + 2, 0, none⟩) 3 3, .int .i64 0, .int .i64 0, .int .i64 1000, .slice (some ⟨H + 2, 0, none⟩) 3 3, .int .i64 3, undef, undef, undef, undef], []⟩ _) _) w8
  refine SG.one (R := fun y v' => y = .int .i64 3 ∧ v'.heap = v8.heap) rfl rfl rfl (by kernel_rfl) hl8 (fun v1 h1 => ⟨_, _, .inl (mn1 v1 _ rfl rfl), rfl, like_same hl8 h1⟩) (fun y1 w9 v9 hl9 hR9 => ?_)
  obtain ⟨rfl, e9⟩ := hR9
  show SG (sh0 W) St _ (G ((base 13).at ⟨#[.slice (some ⟨H + 2, 0, none⟩) 3 3, undef, nilS, nilS, .int .i64 0, .int .i64 0, .slice (some ⟨H + 2, 0, none⟩) 3 3, .int .i64 3, .bool true, undef, undef, nilS, .int .i64 0, .slice (some ⟨H + 2, 0, none⟩) 3 3, .int .i64 0, .int .i64 0, .int .i64 1000, .slice (some ⟨H + 2, 0, none⟩) 3 3, .int .i64 3, .int .i64 3, undef, undef, undef], []⟩ _) _) w9
  refine SG.one (R := fun y v' => y = .slice (some ⟨H + 2, 0, none⟩) 3 3 ∧ v'.heap = v9.heap) rfl rfl rfl (by kernel_rfl) hl9 (fun v1 h1 => ⟨_, _, .inl (sl1 v1 _ rfl rfl rfl), rfl, like_same hl9 h1⟩) (fun y1 w10 v10 hl10 hR10 => ?_)
  obtain ⟨rfl, e10⟩ := hR10
  show SG (sh0 W) St _ (G ((base 13).at ⟨#[.slice (some ⟨H + 2, 0, none⟩) 3 3, undef, nilS, nilS, .int .i64 0, .int .i64 0, .slice (some ⟨H + 2, 0, none⟩) 3 3, .int .i64 3, .bool true, undef, undef, nilS, .int .i64 0, .slice (some ⟨H + 2, 0, none⟩) 3 3, .int .i64 0, .int .i64 0, .int .i64 1000, .slice (some ⟨H + 2, 0, none⟩) 3 3, .int .i64 3, .int .i64 3, .slice (some ⟨H + 2, 0, none⟩) 3 3, undef, undef], []⟩ _) _) w10
  refine SG.call' (f := 18) (vals := #[nilS, .int .i64 0, .slice (some ⟨H + 2, 0, none⟩) 3 3]) rfl rfl rfl rfl Try.func18 (by kernel_rfl) rfl (by simp [Act.eval, Act.put]) ?_
  exact hnext _ w10 v10 (.mk ..) hl10 (e10.trans (e9.trans (e8.trans e7)))
end
end Go.Proofs.Ytgnjnomebebanaa.Mx

/- atOnce to the making of its group; awake's way in as one. Conditions: each theorem's own. -/
namespace Go.Proofs.Ytgnjnomebebanaa.Mx
open Go.Conc Go.Conc.Lib Br Go.RowKit Hp Rw Ro So
open Go.ConcN (sumTo upd sumTo_upd upd_ne upd_same)
section
variable {H : Nat} {vI W : World} {St : Goroutine → World → Prop} {m : Nat}
set_option maxRecDepth 100000 in
set_option maxHeartbeats 1000000 in
theorem atIn {cs : List Frame} {w v : World} (hl : Like (sh0 W) w v) {cB : Code} (hcB : atB = cB)
    (hnext : ∀ (tA : Array Value) (w' v' : World), FA0 H tA → Like (sh0 W) w' v' → v'.heap = v.heap →
      SG (sh0 W) St m (G ((base 18).at ⟨tA, []⟩ (.inRegion (aw1 cB) [0] :: .code (aw2 cB) :: [])) cs) w') :
    SG (sh0 W) St (m + 10) (G ((base 18).at { tmps := #[nilS, .int .i64 0, .slice (some ⟨H + 2, 0, none⟩) 3 3] ++ Array.replicate 76 undef, defers := [] } [.code cB]) cs) w := by
  conv at hcB => lhs; whnf
  subst hcB
  refine SG.le (m := 1 + 2 + (m + 1 + 1) + 1) ?_ (by omega)
  refine SG.seq ?_
  have e0 : (#[nilS, .int .i64 0, .slice (some ⟨H + 2, 0, none⟩) 3 3] ++ Array.replicate 76 undef : Array Value) = #[nilS, .int .i64 0, .slice (some ⟨H + 2, 0, none⟩) 3 3, undef, undef, undef, undef, undef, undef, undef, undef, undef, undef, undef, undef, undef, undef, undef, undef, undef, undef, undef, undef, undef, undef, undef, undef, undef, undef, undef, undef, undef, undef, undef, undef, undef, undef, undef, undef, undef, undef, undef, undef, undef, undef, undef, undef, undef, undef, undef, undef, undef, undef, undef, undef, undef, undef, undef, undef, undef, undef, undef, undef, undef, undef, undef, undef, undef, undef, undef, undef, undef, undef, undef, undef, undef, undef, undef, undef] := by kernel_rfl
  rw [e0]
  refine SG.region (m := m + 1 + 1) (R := fun t v' => t = #[nilS, .int .i64 0, .slice (some ⟨H + 2, 0, none⟩) 3 3, undef, undef, undef, nilS, undef, undef, undef, undef, undef, undef, undef, undef, undef, undef, undef, undef, undef, undef, undef, undef, undef, undef, undef, undef, undef, undef, undef, undef, undef, undef, undef, undef, undef, undef, undef, undef, undef, undef, undef, undef, undef, undef, undef, undef, undef, undef, undef, undef, undef, undef, undef, undef, undef, undef, undef, undef, undef, undef, undef, undef, undef, undef, undef, undef, undef, undef, undef, undef, undef, undef, undef, undef, undef, undef, undef, undef] ∧ v'.heap = v.heap)
    rfl (by kernel_rfl) rfl hl (fun v1 h1 => ?_) (fun a4 w4 v4 hd hl4 hR4 => ?_)
  · have hh := Lib.hid (like_same hl h1)
    clear hl hnext
    go_wp2
    exact hh.out
  obtain ⟨t4, d4⟩ := a4
  obtain rfl : d4 = [] := hd
  obtain ⟨ht, e4⟩ := hR4
  have ht1 : t4 = #[nilS, .int .i64 0, .slice (some ⟨H + 2, 0, none⟩) 3 3, undef, undef, undef, nilS, undef, undef, undef, undef, undef, undef, undef, undef, undef, undef, undef, undef, undef, undef, undef, undef, undef, undef, undef, undef, undef, undef, undef, undef, undef, undef, undef, undef, undef, undef, undef, undef, undef, undef, undef, undef, undef, undef, undef, undef, undef, undef, undef, undef, undef, undef, undef, undef, undef, undef, undef, undef, undef, undef, undef, undef, undef, undef, undef, undef, undef, undef, undef, undef, undef, undef, undef, undef, undef, undef, undef, undef] := ht
  subst ht1
  clear ht
  refine SG.seq ?_
  refine SG.reg ?_
  exact hnext _ w4 v4 (.mk ..) hl4 e4
/-- awake from its entry to the making of its group. -/
theorem awEnter {cs : List Frame} {w v : World} (hl : Like (sh0 W) w v) : SG (sh0 W) (AtAlloc v.heap.size v W cs) ((0 + 10 + 60) + 20) (G ((base 4).at { tmps := #[] ++ Array.replicate 79 undef, defers := [] } [.code awB]) cs) w := by
  refine awIn hl rfl rfl fun tw w1 v1 hw hl1 e1 => ?_
  refine gatherIn hl1 rfl rfl fun tg w2 v2 hg hl2 e2 => ?_
  refine atIn hl2 rfl fun tA w3 v3 hA hl3 e3 => ?_
  exact SG.stop fun w₁ hr => ⟨tA, tg, tw, v3, rfl, hA, hg, hw, (like_atR hr hl3).1, e3.trans (e2.trans e1)⟩
end
end Go.Proofs.Ytgnjnomebebanaa.Mx

/- awake's group: made, carried out, and awake at its return. Conditions: each theorem's own. -/
namespace Go.Proofs.Ytgnjnomebebanaa.Mx
open Go.Conc Go.Conc.Lib Br Go.RowKit Hp Rw Ro So
open Go.ConcR (WgAt wgBlock)
open Go.ConcN (sumTo upd sumTo_upd upd_ne upd_same)
/-- One step of a goroutine that is alone, without a word. -/
theorem solo_step {P : Program} {gs : Array Goroutine} {w : World} {sl : Option (Nat × Nat)} {t : Trace} {q : Nat → Nat} {g g' : Goroutine} {K : World → Prop} (hsz : gs.size = 1) (h0 : gs[0]? = some g) (hrun : g.status = .running) (hL : Leavers P t gs q)
    (hgo : ∀ d, ∃ w', stepG P true g (w.at d) = .go g' w' #[] ∧ K w') : ∃ N gs' w' sl', runNT P N (crowd gs w sl) t = (.next (crowd gs' w' sl'), t) ∧ gs'.size = 1 ∧ gs'[0]? = some g' ∧ Leavers P t gs' q ∧ K w' := by
  have haw : ∀ g ∈ gs, awake g := by
    intro g1 hg
    obtain ⟨i, hi, rfl⟩ := Array.mem_iff_getElem.1 hg
    obtain rfl : i = 0 := by omega
    have : gs[0] = g := by simpa [Array.getElem?_eq_getElem hi] using h0
    rw [this]; exact awake_of (.inl hrun)
  obtain ⟨i, g1, d, sl', hi, hg, hst⟩ := crowd_pick (P := P) (w := w) (sl := sl) haw ⟨0, _, h0, hrun⟩
  obtain rfl : i = 0 := by have := (Array.getElem?_eq_some_iff.1 hi).1; omega
  obtain rfl : g1 = g := by rw [h0] at hi; exact (Option.some.inj hi).symm
  obtain ⟨w', e, hK⟩ := hgo d
  have hrunT := runT_crowd_go (P := P) (sl := sl') (i := 0) hi (show stepG P (0 == 0) _ (w.at d) = _ from e)
  refine ⟨1, (gs.map (woken P g1 g' w')).setIfInBounds 0 g', w', sl', ?_, by simp [hsz], by simp [hsz], ⟨fun j y hj hy => ?_, fun j hj => ?_⟩, hK⟩
  · simp only [runNT, hst.trans hrunT]
    simp [MemOp.ofEvents]
  · have := (Array.getElem?_eq_some_iff.1 hy).1
    simp [hsz] at this
    omega
  · exact hL.above j (by simpa [hsz] using hj)
/-- An operation without a word, as a step. -/
theorem step_plain {b : Frame} {a : Act} {ops : Array Oper} {i : Nat} {rest : List Nat} {k : List Item} {cs : List Frame} {w w' : World} {o : Oper} {y : Value} (ho : ops[i]? = some o) (hw : Region.wanted o (yielded ops a.tmps) = true) (hb : b.kind = .normal) (hr : (execOp a.eval o).runT Try.prog w #[] = (.ok (.value y) w', #[])) :
    stepG Try.prog true (G (b.at a (.inRegion ops (i :: rest) :: k)) cs) w = .go (G (b.at (a.put o.dst y) (.inRegion ops rest :: k)) cs) w' #[] := by
  rw [stepG_oper ho hw]
  have hR : (execOp a.eval o).run Try.prog w = .ok (.value y) w' := by rw [← Sem.runT_fst Try.prog _ w #[], hr]
  have hE : (execOp a.eval o).events Try.prog w #[] = #[] := by unfold Sem.events; rw [hr]
  have hf : (b.at a (.inRegion ops (i :: rest) :: k)).finish y = b.at (a.put o.dst y) (.inRegion ops rest :: k) := by rw [Frame.finish_at, ho]; rfl
  have hk' : ((b.at a (.inRegion ops (i :: rest) :: k)).kind == CallKind.early) = false := by
    show (b.kind == CallKind.early) = false
    rw [hb]; rfl
  simp [stepG.apply, hR, hE, GStep.after, hk', G, hf, seen_nil]
theorem alW (w : World) (f : Operand → Value) : (execOp f { dst := some 7, op := .alloc 73, type := 0, pos := "mux.go:65", after := #[], guard := none }).runT Try.prog w #[] = (.ok (.value (.pointer (some ⟨w.heap.size, 0, none⟩))) (w.alloc (wgBlock lnk.tWg 0 0)), #[]) := by kernel_rfl
end Go.Proofs.Ytgnjnomebebanaa.Mx

/- awake's group: made, carried out, and awake at its return. Conditions: each theorem's own. -/
namespace Go.Proofs.Ytgnjnomebebanaa.Mx
open Go.Conc Go.Conc.Lib Br Go.RowKit Hp Rw Ro So
open Go.ConcR (WgAt wgBlock)
open Go.ConcN (sumTo upd sumTo_upd upd_ne upd_same)
theorem at2_eq : aw2 atB = at2 := by kernel_rfl
/-- The lone world of the phase. -/
def wM (H : Nat) (v : World) : World := { v.alloc (wgBlock lnk.tWg 0 0) with heap := (v.alloc (wgBlock lnk.tWg 0 0)).heap.setIfInBounds (H + 3) (.coro none) }
section
variable {H : Nat} {vI w v W : World}
theorem push_new {h : Array Obj} {o : Obj} {n : Nat} (hn : h.size = n) : (h.push o)[n]? = some o := by subst hn; simp
theorem s0_heap (hl : Like (sh0 W) w v) : v.heap = w.heap := Array.ext_getElem? fun b => hl.off b (fun f => f)
theorem wM_size (hs : v.heap.size = H + 3) : (wM H v).heap.size = H + 4 := by
  show ((v.heap.push _).setIfInBounds (H + 3) _).size = _
  simp [hs]
theorem wM_old (hs : v.heap.size = H + 3) {b : Nat} (hb : b < H + 3) : (wM H v).heap[b]? = v.heap[b]? := by
  show ((v.heap.push _).setIfInBounds (H + 3) _)[b]? = _
  rw [Array.getElem?_setIfInBounds_ne (by omega), push_old (by omega)]
theorem like_wM (hl : Like (sh0 W) w v) (hs : v.heap.size = H + 3) (d : Nat) : Like ((gA H).Sd (sh0 W) 0) ((w.at d).alloc (wgBlock lnk.tWg 0 0)) (wM H v) := by
  have hw : w.heap.size = H + 3 := by rw [← hl.size, hs]
  have hsd : ∀ b, (gA H).Sd (sh0 W) 0 b ↔ b = H + 3 := fun b => ⟨fun h => by
    rcases h with h | h | ⟨k, h, _⟩
    · exact h.elim
    · exact h
    · omega, fun h => .inr (.inl h)⟩
  refine ⟨by rw [wM_size hs]; show _ = (w.heap.push _).size; simp [hw], hl.os, hl.out, hl.osx, hl.outx, fun b hb => ?_, fun b hb => ?_, fun b hb => ?_⟩
  · have hb' : b ≠ H + 3 := fun e => hb ((hsd b).2 e)
    show ((v.heap.push _).setIfInBounds (H + 3) _)[b]? = (w.heap.push _)[b]?
    rw [Array.getElem?_setIfInBounds_ne (by omega), s0_heap hl]
  · obtain rfl := (hsd b).1 hb
    show ((v.heap.push _).setIfInBounds (H + 3) _)[H + 3]? = _
    rw [Array.getElem?_setIfInBounds_self_of_lt (by simp [hs])]
  · obtain rfl := (hsd b).1 hb
    refine ⟨wgBlock lnk.tWg 0 0, ?_, .inl ⟨_, _, rfl, by simp⟩⟩
    show (w.heap.push _)[H + 3]? = _
    rw [← hw]; simp
theorem wa_wM (hs : vI.heap.size = H) (e : v.heap = ((vI.heap.push (.cells #[.int .i64 1, .int .i64 2] 3)).push (.cells #[.int .i64 3] 3)).push (.cells (rowsA H).toArray 22)) : WA H (wM H v) ∧ ∀ b, b < H → (wM H v).heap[b]? = vI.heap[b]? := by
  have hv : v.heap.size = H + 3 := by rw [e]; simp [hs]
  have p0 : v.heap[H]? = some (.cells #[.int .i64 1, .int .i64 2] 3) := by
    rw [e, push_old (by simp only [Array.size_push]; omega), push_old (by simp only [Array.size_push]; omega), push_new hs]
  have p1 : v.heap[H + 1]? = some (.cells #[.int .i64 3] 3) := by
    rw [e, push_old (by simp only [Array.size_push]; omega), push_new (by simp only [Array.size_push]; omega)]
  have p2 : v.heap[H + 2]? = some (.cells (rowsA H).toArray 22) := by
    rw [e, push_new (by simp only [Array.size_push]; omega)]
  refine ⟨⟨(wM_old hv (by omega)).trans p0, (wM_old hv (by omega)).trans p1, (wM_old hv (by omega)).trans p2, wM_size hv⟩, fun b hb => ?_⟩
  rw [wM_old hv (by omega), e, push_old (by simp only [Array.size_push]; omega), push_old (by simp only [Array.size_push]; omega), push_old (by omega)]
end
theorem al_step {b : Frame} (hb : b.kind = .normal) {tA : Array Value} {k : List Item} {cs : List Frame} (w : World) (d : Nat) : stepG Try.prog true (G (b.at ⟨tA, []⟩ (.inRegion (aw1 atB) [0] :: k)) cs) (w.at d) = .go (G (b.at (Act.put ⟨tA, []⟩ (some 7) (.pointer (some ⟨w.heap.size, 0, none⟩))) (.inRegion (aw1 atB) [] :: k)) cs) ((w.at d).alloc (wgBlock lnk.tWg 0 0)) #[] :=
  step_plain (o := { dst := some 7, op := .alloc 73, type := 0, pos := "mux.go:65", after := #[], guard := none }) (by kernel_rfl) rfl hb (alW (w.at d) _)
/-- awake, carried out from its entry by a goroutine that is alone. -/
theorem awakeLands {cs : List Frame} {gs : Array Goroutine} {w v W : World} {sl : Option (Nat × Nat)} {t : Trace} {q : Nat → Nat} (hl : Like (sh0 W) w v) (hsz : gs.size = 1) (h0 : gs[0]? = some (G ((base 4).at { tmps := #[] ++ Array.replicate 79 undef, defers := [] } [.code awB]) cs)) (hL : Leavers Try.prog t gs q) (hP : Past (fun _ => False) w.heap.size t) :
    ∃ N gs' g w' sl' t' q', runNT Try.prog N (crowd gs w sl) t = (.next (crowd gs' w' sl'), t') ∧ gs'[0]? = some g ∧ AtRet (DA v.heap.size W) (fun v' => v.heap.size + 20 ≤ v'.heap.size ∧ ∀ b, b < v.heap.size → v'.heap[b]? = v.heap[b]?) cs g w' ∧ Leavers Try.prog t' gs' q' ∧ Past (fun l => False ∨ OfG (v.heap.size + 3) l) w'.heap.size t' := by
  obtain ⟨N1, gs1, g1, w1, sl1, t1, q1, r1, s1, h1, ⟨tA, tg, tw, v1, rfl, hA, hg, hw, hl1, e1⟩, hL1, hP1⟩ := goes_beside (S := (sh0 W)) (Shun := fun _ => False) (fun l h => h.elim) _ _ _ (awEnter hl) _ gs w sl t q (atR_refl w) (Nat.le_refl _) h0 hL hP
  generalize hH : v.heap.size = H at *
  have hv1 : v1.heap.size = H + 3 := by rw [e1]; simp [hH]
  have hw1 : w1.heap.size = H + 3 := by rw [← hl1.size, hv1]
  obtain ⟨N2, gs2, w2, sl2, r2, s2, h2, hL2, d2, rfl⟩ := solo_step (K := fun w' => ∃ d, w' = (w1.at d).alloc (wgBlock lnk.tWg 0 0)) (s1.trans hsz) h1 rfl hL1 (fun d => ⟨_, al_step rfl w1 d, d, rfl⟩)
  obtain ⟨N3, gs3, w3, sl3, r3, s3, h3, hL3, d3, rfl⟩ := solo_step (K := fun w' => ∃ d, w' = ((w1.at d2).alloc (wgBlock lnk.tWg 0 0)).at d) s2 h2 rfl hL2 (fun d => ⟨_, stepG_region_end, d, rfl⟩)
  obtain ⟨tF, eF, hF⟩ : ∃ tF, Act.put ⟨tA, []⟩ (some 7) (.pointer (some ⟨w1.heap.size, 0, none⟩)) = ⟨tF, []⟩ ∧ FA H tF := by
    rw [hw1]
    obtain ⟨u3, u4, u5, u6, u7, u8, u9, u10, u11, u12, u13, u14, u15, u16, u17, u18, u19, u20, u21, u22, u23, u24, u25, u26, u27, u28, u29, u30, u31, u32, u33, u34, u35, u36, u37, u38, u39, u40, u41, u42, u43, u44, u45, u46, u47, u48, u49, u50, u51, u52, u53, u54, u55, u56, u57, u58, u59, u60, u61, u62, u63, u64, u65, u66, u67, u68, u69, u70, u71, u72, u73, u74, u75, u76, u77, u78⟩ := hA
    exact ⟨_, rfl, .mk ..⟩
  rw [eF, at2_eq] at h3
  obtain ⟨hWA, hWo⟩ := wa_wM hH e1
  have hlk := like_wM hl1 hv1 d2
  have hlk3 : Like ((gA H).Sd (sh0 W) 0) (((w1.at d2).alloc (wgBlock lnk.tWg 0 0)).at d3) (wM H v1) := like_at hlk d3
  have hwg : WgAt lnk.tWg (H + 3) (((w1.at d2).alloc (wgBlock lnk.tWg 0 0)).at d3) 0 0 := by
    show (w1.heap.push _)[H + 3]? = _
    rw [push_new hw1]
  rw [hw1] at hP1
  obtain ⟨N4, m4, t4, r4, hD⟩ := groupRuns hWA (bA := base 18) rfl hF hlk3 hwg h3 s3 hL3 hP1 (sl := sl3)
  obtain ⟨gs5, w5, sl5, a5, q5, tT, al, v5, rfl, h5, hL5, hP5, hB, hT, hS⟩ := groupDone hD
  obtain ⟨n, hG⟩ := backGoes hg hw hB hT hS
  obtain ⟨N6, gs6, g6, w6, sl6, t6, q6, r6, s6, h6, hS6, hL6, hP6⟩ := goes_beside (shunA H W) _ _ _ hG _ gs5 w5 sl5 t4 q5 (atR_refl w5) (Nat.le_refl _) h5 hL5 hP5
  obtain ⟨N7, gs7, g7, w7, sl7, t7, q7, r7, s7, h7, hS7, hL7, hP7⟩ := tailLands (sl := sl6) h6 hS6 hL6 hP6
  obtain ⟨fr, v7, x1, x2, x3, x4, x5, x6, x7, x8, x9, x10⟩ := hS7
  refine ⟨_, gs7, g7, w7, sl7, t7, q7, runNT_then r1 (runNT_then r2 (runNT_then r3 (runNT_then r4 (runNT_then r6 r7)))), h7, ⟨fr, v7, x1, x2, x3, x4, x5, x6, x7, x8, x9, fun b hb => ?_⟩, hL7, hP7⟩
  rw [x10 b (by omega)]
  exact hWo b hb
end Go.Proofs.Ytgnjnomebebanaa.Mx

