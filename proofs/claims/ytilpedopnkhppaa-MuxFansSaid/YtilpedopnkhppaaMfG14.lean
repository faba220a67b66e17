/- Offer, Take, Len, New of boxes of ints. Conditions: each theorem's own. -/
import Derived.Test.YtilpedopnkhppaaMfG13
import Derived.KernelRfl
set_option linter.unusedVariables false
set_option linter.unusedSimpArgs false
namespace Go.Proofs.Ytilpedopnkhppaa.MoS
open Go.Conc Go.RowKit Hp Mo
theorem offer_room {w : World} {b c room : Nat} {ps : List Nat} {vs : List ByteArray} (h : Bx w b c room ps vs) (hr : vs.length < room) (v : ByteArray) :
  Calls Try.prog 24 #[ptr b, .string v] w fun e w' => e = .returned (.bool true) ∧ Bx w' b c room (ps ++ [w.heap.size]) (vs ++ [v]) ∧ Kept (fun i => i = c) w w' := by
 refine calls_of_wpn Try.func24 rfl ?_
 simp only [Try.ntmps24, List.size_toArray, List.length_cons, List.length_nil, Nat.reduceAdd, Nat.reduceSub, Array.replicate_succ, Array.replicate_zero, List.push_toArray, List.append_toArray, List.nil_append, List.cons_append]
 refine Wpn.seq fun K1 hK1 => Wpn.of ?_
 go_wp2
 have hbx := h.box.old (.cells #[.string v] 9)
 refine Wpn.seq fun K1 hK1 => Wpn.of ?_
 go_wp2_with (go_at_call 31; (refine Calls.mono (chan_box hbx) ?_); rintro e w2 ⟨rfl, rfl⟩)
 obtain ⟨s, r, hc⟩ := h.chan
 have hlt := h.lt
 have hc1 := (heap_old w (.cells #[.string v] 9) hlt).trans hc
 have hz : (execOp (Act.eval ⟨#[ptr b, .string v, undef, .pointer (some ⟨w.heap.size, 0, none⟩), .bool false, ptr b, .chan (some c), undef, undef, undef], []⟩) { dst := some 7, op := Op.select #[{ chan := Operand.tmp 6, send := some (Operand.tmp 3), elem := 80 }] false, type := 0, pos := "box.go:34", after := #[], guard := none }).run Try.prog (w.alloc (.cells #[.string v] 9)) = .ok (.comm #[scase c (ptr w.heap.size) (.pointer none)] false .select) (w.alloc (.cells #[.string v] 9)) := by
  simp [go_sem, execOp, scase, Act.eval, ptr]
 refine Wpn.seq fun K1 hK1 => ?_
 refine Wpn.comm rfl hz (fun fr cs es he => step_lone_select_send_room he hc1 (by simpa [h.len] using hr)) ?_
 dsimp only [Act.put]
 simp only [List.setIfInBounds_toArray, List.set_cons_succ, List.set_cons_zero]
 go_wp2
 refine Wpn.of ?_
 go_wp2
 go_ret
 have hk : Kept (fun i => i = c) w ((w.alloc (.cells #[.string v] 9)).setChan c room ((ps.map ptr) ++ [ptr w.heap.size]).toArray false (s + 1) r false) :=
  ((Kept.refl (fun i => i = c) w).alloc _).trans (kept_setChan _ _ _ _ _ _ _ _)
 have hne : ∀ {p : Nat} {l : List Value} {T : TypeId}, Blk w p l T → ¬ p = c := fun hp => h.ne hp
 refine ⟨rfl, ⟨hk.blk h.box (hne h.box), ⟨s + 1, r, ?_⟩, by simp [h.len], ?_⟩, hk⟩
 ·rw [heap_setChan _ _ _ _ _ _ _ _ (by simp; omega)]
  simp
 ·intro i p u hp hu
  rcases Nat.lt_or_ge i ps.length with hi | hi
  ·rw [List.getElem?_append_left hi] at hp
   rw [List.getElem?_append_left (by have := h.len; omega)] at hu
   exact hk.blk (h.cells i p u hp hu) (hne (h.cells i p u hp hu))
  ·rw [List.getElem?_append_right hi] at hp
   rw [List.getElem?_append_right (by have := h.len; omega)] at hu
   have h0 : i - ps.length = 0 := by
    rcases Nat.eq_zero_or_pos (i - ps.length) with e | e
    ·exact e
    ·rw [List.getElem?_eq_none (by simp; omega)] at hp; cases hp
   have h1 : i - vs.length = 0 := by have := h.len; omega
   rw [h0] at hp
   rw [h1] at hu
   simp only [List.getElem?_cons_zero, Option.some.injEq] at hp hu
   subst hp hu
   exact (Blk.new w [.string v] 9).heap (setChan_other _ _ _ _ _ _ _ _ _ (by omega))
theorem offer_full {w : World} {b c room : Nat} {ps : List Nat} {vs : List ByteArray} (h : Bx w b c room ps vs) (hr : room ≤ vs.length) (v : ByteArray) :
  Calls Try.prog 24 #[ptr b, .string v] w fun e w' => e = .returned (.bool false) ∧ Kept (fun _ => False) w w' := by
 refine calls_of_wpn Try.func24 rfl ?_
 simp only [Try.ntmps24, List.size_toArray, List.length_cons, List.length_nil, Nat.reduceAdd, Nat.reduceSub, Array.replicate_succ, Array.replicate_zero, List.push_toArray, List.append_toArray, List.nil_append, List.cons_append]
 refine Wpn.seq fun K1 hK1 => Wpn.of ?_
 go_wp2
 have hbx := h.box.old (.cells #[.string v] 9)
 refine Wpn.seq fun K1 hK1 => Wpn.of ?_
 go_wp2_with (go_at_call 31; (refine Calls.mono (chan_box hbx) ?_); rintro e w2 ⟨rfl, rfl⟩)
 obtain ⟨s, r, hc⟩ := h.chan
 have hlt := h.lt
 have hc1 := (heap_old w (.cells #[.string v] 9) hlt).trans hc
 have hz : (execOp (Act.eval ⟨#[ptr b, .string v, undef, .pointer (some ⟨w.heap.size, 0, none⟩), .bool false, ptr b, .chan (some c), undef, undef, undef], []⟩) { dst := some 7, op := Op.select #[{ chan := Operand.tmp 6, send := some (Operand.tmp 3), elem := 80 }] false, type := 0, pos := "box.go:34", after := #[], guard := none }).run Try.prog (w.alloc (.cells #[.string v] 9)) = .ok (.comm #[scase c (ptr w.heap.size) (.pointer none)] false .select) (w.alloc (.cells #[.string v] 9)) := by
  simp [go_sem, execOp, scase, Act.eval, ptr]
 refine Wpn.seq fun K1 hK1 => ?_
 refine Wpn.comm rfl hz (fun fr cs es he => step_lone_select_send_full he hc1 (by have := h.len; simp; omega)) ?_
 dsimp only [Act.put]
 simp only [List.setIfInBounds_toArray, List.set_cons_succ, List.set_cons_zero]
 go_wp2
 refine Wpn.of ?_
 go_wp2
 go_ret
 exact ⟨rfl, (Kept.refl _ w).alloc _⟩
end Go.Proofs.Ytilpedopnkhppaa.MoS

/- Take of a box of ints. Conditions: each theorem's own. -/
namespace Go.Proofs.Ytilpedopnkhppaa.MoS
open Go.Conc Go.RowKit Hp Mo
theorem take_first {w : World} {b c room : Nat} {p : Nat} {ps : List Nat} {v : ByteArray} {vs : List ByteArray} (h : Bx w b c room (p :: ps) (v :: vs)) :
  Calls Try.prog 25 #[ptr b] w fun e w' => e = .returned (.tuple #[.string v, .bool true]) ∧ Bx w' b c room ps vs ∧ Kept (fun i => i = c) w w' := by
 refine calls_of_wpn Try.func25 rfl ?_
 simp only [Try.ntmps25, List.size_toArray, List.length_cons, List.length_nil, Nat.reduceAdd, Nat.reduceSub, Array.replicate_succ, Array.replicate_zero, List.push_toArray, List.append_toArray, List.nil_append, List.cons_append]
 refine Wpn.seq fun K1 hK1 => Wpn.of ?_
 go_wp2
 refine Wpn.seq fun K1 hK1 => Wpn.of ?_
 go_wp2_with (go_at_call 31; (refine Calls.mono (chan_box h.box) ?_); rintro e w2 ⟨rfl, rfl⟩)
 obtain ⟨s, r, hc⟩ := h.chan
 have hlt := h.lt
 have hz : (execOp (Act.eval ⟨#[ptr b, undef, .string ⟨#[]⟩, .bool false, undef, undef, ptr b, .chan (some c), undef, undef, undef, undef, undef, undef, undef, undef], []⟩) { dst := some 8, op := Op.select #[{ chan := Operand.tmp 7, send := none, elem := 80 }] false, type := 0, pos := "box.go:44", after := #[], guard := none }).run Try.prog w = .ok (.comm #[rcase c (.pointer none)] false .select) w := by
  simp [go_sem, execOp, rcase, Act.eval, ptr]
 refine Wpn.seq fun K1 hK1 => ?_
 refine Wpn.comm rfl hz (fun fr cs es he => step_lone_select_recv_buf he hc (by simp)) ?_
 have hk := kept_setChan w c room (ps.map ptr).toArray false s (r + 1) false
 have hne : ∀ {p : Nat} {l : List Value} {T : TypeId}, Blk w p l T → ¬ p = c := fun hp => h.ne hp
 have h0 := h.cells 0 p v rfl rfl
 have hp1 := (hk.blk h0 (hne h0)).cell (o := 0) rfl
 have hx : ((p :: ps).map ptr).toArray.extract 1 ((p :: ps).map ptr).toArray.size = (ps.map ptr).toArray := by simp [List.take_of_length_le]
 have hy : ((p :: ps).map ptr).toArray.getD 0 undef = .pointer (some ⟨p, 0, none⟩) := by simp [ptr]
 rw [hx, hy]
 have hB : Bx (w.setChan c room (ps.map ptr).toArray false s (r + 1) false) b c room ps vs :=
  ⟨hk.blk h.box (hne h.box), ⟨s, r + 1, heap_setChan _ _ _ _ _ _ _ _ hlt⟩, by simpa using h.len, fun i q u hq hu => hk.blk (h.cells (i + 1) q u (by simpa using hq) (by simpa using hu)) (hne (h.cells (i + 1) q u (by simpa using hq) (by simpa using hu)))⟩
 generalize w.setChan c room (ps.map ptr).toArray false s (r + 1) false = w1 at *
 dsimp only [Act.put]
 simp only [List.setIfInBounds_toArray, List.set_cons_succ, List.set_cons_zero]
 go_wp2
 refine Wpn.of ?_
 go_wp2
 go_ret2
 exact ⟨rfl, hB, hk⟩
end Go.Proofs.Ytilpedopnkhppaa.MoS

/- New and Len of boxes of ints. Conditions: each theorem's own. -/
namespace Go.Proofs.Ytilpedopnkhppaa.MoS
open Go.Conc Go.RowKit Hp Mo
theorem bytesPtr : ∃ i, Try.prog.info? 80 = some i ∧ i.bytes = 8 := by
 have h : (Try.prog.info? 80).map (·.bytes) = some 8 := by kernel_rfl
 obtain ⟨i, hi, hb⟩ := Option.map_eq_some_iff.1 h
 exact ⟨i, hi, hb⟩
theorem mkBox {n : Int} (h0 : 0 ≤ n) (h1 : n ≤ 10000) (w : World) : (Instr.makeChan 76 (.int .i64 n)).run Try.prog w = .ok (.chan (some w.heap.size)) (w.alloc (.chan n.toNat #[] false 0 0 false)) := by
 obtain ⟨i, hi, hb⟩ := bytesPtr
 obtain ⟨k, rfl⟩ := Int.eq_ofNat_of_zero_le h0
 simpa using run_makeChan (P := Try.prog) (w := w) Try.underlying76 hi .i64 k (by omega) (by rw [hb]; omega)
theorem new_ok {n : Int} (h0 : 0 ≤ n) (h1 : n ≤ 10000) (w : World) : Calls Try.prog 23 #[.int .i64 n] w fun e w' => e = .returned (.tuple #[ptr (w.heap.size + 1), .int .i64 0]) ∧ Bx w' (w.heap.size + 1) w.heap.size n.toNat [] [] ∧ Kept (fun _ => False) w w' ∧ w'.heap.size = w.heap.size + 2 := by
 have hmc := mkBox h0 h1
 go_enter Try.func23, Try.ntmps23
 go_wp2
 go_ret2
 have hB := Blk.new (w.alloc (.chan n.toNat #[] false 0 0 false)) [.chan (some w.heap.size)] 78
 have hk := ((Kept.refl (fun _ => False) w).alloc (.chan n.toNat #[] false 0 0 false)).alloc (.cells #[.chan (some w.heap.size)] 78)
 simp only [World.size_alloc] at hB
 refine ⟨rfl, ⟨hB, ⟨0, 0, ?_⟩, rfl, fun i p v hp => by simp at hp⟩, hk, by simp⟩
 rw [heap_old _ _ (by simp)]
 exact heap_alloc_new w _
end Go.Proofs.Ytilpedopnkhppaa.MoS

/- atOnce's first loop, by the starter, in company: each round starts a sender. Conditions: each theorem's own. -/
namespace Go.Proofs.Ytilpedopnkhppaa.MxS
open Go.Conc Go.Conc.Lib Br Go.Proofs.Ytilpedopnkhppaa.Mx
def findBody (k : Nat) : Code → Option Code
 | .loop c => findBody k c
 | .seq a b => match findBody k a with
   | some c => some c
   | none => findBody k b
 | .block j (.loop c) => if j = k then some c else findBody k c
 | .block _ c => findBody k c
 | .scope c => findBody k c
 | .cond _ a b => match findBody k a with
   | some c => some c
   | none => findBody k b
 | _ => none
section
variable {s : Grp} {X : Sh} {z al : Value} {Anch Post : Goroutine → World → Prop} {j lb lo cl wy N : Nat} {first : Int}
def wayV (s : Grp) (first : Int) (j i : Nat) : Value := if i / 3 < j then (if i % 3 = 0 then .int .i64 (first + ((i / 3 : Nat) : Int)) else if i % 3 = 1 then .chan (some (s.chan (i / 3))) else .slice none 0 0) else (if i % 3 = 0 then .int .i64 0 else if i % 3 = 1 then .chan none else .slice none 0 0)
def wayC (s : Grp) (first : Int) (j N : Nat) : List Value := (List.range (3 * N)).map (wayV s first j)
theorem wayC_get (s : Grp) (first : Int) (j : Nat) {N i : Nat} (h : i < 3 * N) : (wayC s first j N)[i]? = some (wayV s first j i) := by
 unfold wayC
 simp [h]
theorem wayC_set (s : Grp) (first : Int) {j N : Nat} (h : j < N) : (((wayC s first j N).set (j * 3) (.int .i64 (first + (j : Int)))).set (j * 3 + 1) (.chan (some (s.chan j)))).set (j * 3 + 2) (.slice none 0 0) = wayC s first (j + 1) N := by
 have hl : (wayC s first j N).length = 3 * N := by simp [wayC]
 refine List.ext_getElem? fun i => ?_
 rcases Nat.lt_or_ge i (3 * N) with hi | hi
 ·rw [wayC_get s first (j + 1) hi]
  simp only [List.getElem?_set, List.length_set, hl]
  by_cases h2 : j * 3 + 2 = i
  ·subst h2
   simp [wayV, hi, show (j * 3 + 2) / 3 = j by omega, show (j * 3 + 2) % 3 = 2 by omega]
  ·by_cases h1 : j * 3 + 1 = i
   ·subst h1
    simp [wayV, hi, show (j * 3 + 1) / 3 = j by omega, show (j * 3 + 1) % 3 = 1 by omega]
   ·by_cases h0 : j * 3 = i
    ·subst h0
     simp [wayV, hi]
    ·simp only [h2, h1, h0, if_false]
     rw [wayC_get s first j hi]
     have e : (i / 3 < j) = (i / 3 < j + 1) := by
      apply propext
      omega
     simp only [wayV, e]
 ·rw [List.getElem?_eq_none (by simp [hl]; omega), List.getElem?_eq_none (by simp [wayC]; omega)]
theorem push_old {a : Array Obj} {o : Obj} {b : Nat} (h : b < a.size) : (a.push o)[b]? = a[b]? := by
 rw [Array.getElem?_push_lt h]
 simp [h]
structure SpI (s : Grp) (lb lo wy N : Nat) (first : Int) (Rest : World → Prop) (j : Nat) (v : World) : Prop where
 lists : ∀ k, k < s.n → v.cell? ⟨lb, lo + k, none⟩ = some (.slice (s.ad k) (s.len k) (s.cp k))
 ways : Hp.Blk v wy (wayC s first j N) 117
 rest : Rest v
theorem set_far {w : World} {b p : Nat} (hp : b ≠ p) (o : Nat) (v : Value) : (w.setCell ⟨p, o, none⟩ v).heap[b]? = w.heap[b]? := by
 simp only [World.setCell, Array.getElem?_modify]
 rw [if_neg (by simpa using fun e => hp e.symm)]
noncomputable def goF (s : Grp) (j : Nat) (u5 : Value) : Frame := (base 32).at ⟨#[.pointer (some s.wga), s.lit 57 j, .pointer (some (s.gbox j)), .pointer (some (s.fbox j)), .pointer (some s.wga), u5, .func (.func 43) #[] #[.pointer (some (s.gbox j)), .pointer (some (s.fbox j))]], []⟩ [.inRegion (match (Try.f32).body with | some (.seq _ (.seq _ (.region _ ops _))) => ops | _ => #[]) []]
theorem SpI.same {s : Grp} {lb lo wy N : Nat} {first : Int} {Rest : World → Prop} {j : Nat} {v v' : World} (hwM : wy < s.M) (hlM : lb < s.M) (hR : ∀ v v' : World, (∀ b, b < s.M → b ≠ wy → v'.heap[b]? = v.heap[b]?) → Rest v → Rest v') (e : ∀ b, b < s.M → v'.heap[b]? = v.heap[b]?) (h : SpI s lb lo wy N first Rest j v) : SpI s lb lo wy N first Rest j v' :=
 ⟨fun k hk => by
  have := h.lists k hk
  unfold World.cell? at this ⊢
  rw [e lb hlM]
  exact this, h.ways.heap (e wy hwM), hR v v' (fun b hb _ => e b hb) h.rest⟩
noncomputable def spc : Code := ((Try.f41.body.bind (findBody 0)).getD .skip)
def spt : Code → Code
 | .seq _ (.seq _ (.seq _ r)) => r
 | c => c
def spo : Code → Array Oper
 | .seq _ (.seq _ (.seq (.block _ (.seq _ (.seq _ (.seq _ (.region _ ops _))))) _)) => ops
 | _ => #[]
set_option maxRecDepth 100000 in
set_option maxHeartbeats 4000000 in
theorem round (hX : ShunIn X s.Shun) (hXM : ∀ b, X b → b < s.M) (hk : (phI s z Anch Post).Ok) (hj : j < s.n) (hB : s.M + 5 * s.n ≤ s.B) (hWM : s.Wg < s.M) (hwM : wy < s.M) (hlM : lb < s.M) (hlw : lb ≠ wy) (hn9 : s.n < 9223372036854775807)
  (hz : ∀ k, s.ad k = none → s.len k = 0) (hn : ∀ k, s.len k < 9223372036854775807) (hNn : s.n ≤ N) (hN9 : N < 9223372036854775807) (hf0 : 0 ≤ first) (hf1 : first + (s.n : Int) < 9223372036854775807)
  {Rest : World → Prop} (hR : ∀ v v' : World, (∀ b, b < s.M → b ≠ wy → v'.heap[b]? = v.heap[b]?) → Rest v → Rest v')
  {b₀ : Frame} (hb₀ : b₀.kind = .normal) {k : List Item} {cs : List Frame} {Next : Goroutine → World → Prop} (u3 u4 u5 u6 u9 u10 u11 u12 u13 u14 u15 u16 u17 u18 u19 u20 u21 u25 u26 u27 u28 u29 u30 u31 u32 u33 u34 u35 u36 u37 u38 u39 u40 u41 u42 u43 u44 u45 u46 u47 u48 u49 u50 u51 u52 u53 u54 u55 u56 u57 u58 u59 u60 u61 u62 u63 u64 u65 u66 u67 u68 u69 u70 u71 u72 u73 u74 u75 u76 u77 u78 : Value)
  (hnext : ∀ w g5, Rdy s X j (SpI s lb lo wy N first Rest (j + 1)) w → (phI s z Anch Post).Live w → Next (G (goF s j g5) (b₀.at ⟨#[al, .int .i64 first, .slice (some ⟨lb, lo, none⟩) s.n cl, u3, u4, u5, u6, .pointer (some s.wga), .slice (some ⟨wy, 0, none⟩) N N, .int .i64 (j : Int), .pointer (some ⟨s.M + 5 * j, 0, none⟩), .pointer (some (s.ibox j)), u12, u13, u14, u15, u16, u17, u18, u19, u20, u21, .slice (some ⟨lb, lo, none⟩) s.n cl, .int .i64 (s.n : Int), .int .i64 (j : Int), .bool true, .int .i64 (j : Int), .pointer (some ⟨lb, lo + j, none⟩), .slice (s.ad j) (s.len j) (s.cp j), .slice (s.ad j) (s.len j) (s.cp j), .int .i64 (s.len j : Int), .int .i64 ((min (s.len j) 64 : Nat) : Int), .chan (some (s.chan j)), .slice (some ⟨wy, 0, none⟩) N N, .int .i64 (j : Int), .int .i64 first, .int .i64 (j : Int), .int .i64 (first + (j : Int)), .chan (some (s.chan j)), .agg #[.int .i64 (first + (j : Int)), .chan (some (s.chan j)), .slice none 0 0], .pointer (some ⟨wy, j * 3, none⟩), s.lit 57 j, u42, u43, u44, u45, u46, u47, u48, u49, u50, u51, u52, u53, u54, u55, u56, u57, u58, u59, u60, u61, u62, u63, u64, u65, u66, u67, u68, u69, u70, u71, u72, u73, u74, u75, u76, u77, u78], []⟩ (.inRegion (spo spc) [1] :: .inBlock 1 :: .code (spt spc) :: k) :: cs)) w)
  {w v : World} (hl : Like (s.Sd X j) w v) (hsz : v.heap.size = s.M + 5 * j) (hi : SpI s lb lo wy N first Rest j v) (hlive : (phI s z Anch Post).Live w) {c : Code} (hc : spc = c) :
  Goes Try.prog true ((phI s z Anch Post).Far j) ((phI s z Anch Post).DM j) ((phI s z Anch Post).U1 j Next) 1000 (G (b₀.at ⟨#[al, .int .i64 first, .slice (some ⟨lb, lo, none⟩) s.n cl, u3, u4, u5, u6, .pointer (some s.wga), .slice (some ⟨wy, 0, none⟩) N N, u9, u10, u11, u12, u13, u14, u15, u16, u17, u18, u19, u20, u21, .slice (some ⟨lb, lo, none⟩) s.n cl, .int .i64 (s.n : Int), .int .i64 (j : Int), u25, u26, u27, u28, u29, u30, u31, u32, u33, u34, u35, u36, u37, u38, u39, u40, u41, u42, u43, u44, u45, u46, u47, u48, u49, u50, u51, u52, u53, u54, u55, u56, u57, u58, u59, u60, u61, u62, u63, u64, u65, u66, u67, u68, u69, u70, u71, u72, u73, u74, u75, u76, u77, u78], []⟩ (.code c :: k)) cs) w := by
 have hlists := Lib.hid hi.lists
 have hways := Lib.hid hi.ways
 conv at hc => lhs; whnf
 subst hc
 show MG (phI s z Anch Post) j _ (999 + 1) _ _
 refine MG.seq ?_
 refine m_region (m := 996) (R := fun t v' => t = #[al, .int .i64 first, .slice (some ⟨lb, lo, none⟩) s.n cl, u3, u4, u5, u6, .pointer (some s.wga), .slice (some ⟨wy, 0, none⟩) N N, u9, u10, u11, u12, u13, u14, u15, u16, u17, u18, u19, u20, u21, .slice (some ⟨lb, lo, none⟩) s.n cl, .int .i64 (s.n : Int), .int .i64 (j : Int), .bool true, u26, u27, u28, u29, u30, u31, u32, u33, u34, u35, u36, u37, u38, u39, u40, u41, u42, u43, u44, u45, u46, u47, u48, u49, u50, u51, u52, u53, u54, u55, u56, u57, u58, u59, u60, u61, u62, u63, u64, u65, u66, u67, u68, u69, u70, u71, u72, u73, u74, u75, u76, u77, u78] ∧ v'.heap = v.heap)
  hX hb₀ (by kernel_rfl) rfl hlive hl (fun v1 h1 => ?_) (fun a' w' v' hd hi' hl' hR' => ?_)
 ·have hh := Lib.hid (like_same hl h1)
  have hjn : (j : Int) < (s.n : Int) := by omega
  clear h1 hl
  go_wp2
  exact hh.out
 obtain ⟨t4, d4⟩ := a'
 have hd1 : d4 = [] := hd
 subst hd1
 obtain ⟨ht, hv4⟩ := hR'
 have ht1 : t4 = #[al, .int .i64 first, .slice (some ⟨lb, lo, none⟩) s.n cl, u3, u4, u5, u6, .pointer (some s.wga), .slice (some ⟨wy, 0, none⟩) N N, u9, u10, u11, u12, u13, u14, u15, u16, u17, u18, u19, u20, u21, .slice (some ⟨lb, lo, none⟩) s.n cl, .int .i64 (s.n : Int), .int .i64 (j : Int), .bool true, u26, u27, u28, u29, u30, u31, u32, u33, u34, u35, u36, u37, u38, u39, u40, u41, u42, u43, u44, u45, u46, u47, u48, u49, u50, u51, u52, u53, u54, u55, u56, u57, u58, u59, u60, u61, u62, u63, u64, u65, u66, u67, u68, u69, u70, u71, u72, u73, u74, u75, u76, u77, u78] := ht
 subst ht1
 clear ht hd
 show MG (phI s z Anch Post) j _ (995 + 1) _ _
 refine MG.seq ?_
 refine MG.condT rfl ?_
 refine MG.skip ?_
 refine MG.seq ?_
 refine MG.block ?_
 refine MG.seq ?_
 refine m_region (m := 982) (R := fun t v' => t = #[al, .int .i64 first, .slice (some ⟨lb, lo, none⟩) s.n cl, u3, u4, u5, u6, .pointer (some s.wga), .slice (some ⟨wy, 0, none⟩) N N, .int .i64 (j : Int), .pointer (some ⟨s.M + 5 * j, 0, none⟩), u11, u12, u13, u14, u15, u16, u17, u18, u19, u20, u21, .slice (some ⟨lb, lo, none⟩) s.n cl, .int .i64 (s.n : Int), .int .i64 (j : Int), .bool true, .int .i64 (j : Int), .pointer (some ⟨lb, lo + j, none⟩), .slice (s.ad j) (s.len j) (s.cp j), u29, u30, u31, u32, u33, u34, u35, u36, u37, u38, u39, u40, u41, u42, u43, u44, u45, u46, u47, u48, u49, u50, u51, u52, u53, u54, u55, u56, u57, u58, u59, u60, u61, u62, u63, u64, u65, u66, u67, u68, u69, u70, u71, u72, u73, u74, u75, u76, u77, u78] ∧ v'.heap = v.heap.push (.cells #[.slice (s.ad j) (s.len j) (s.cp j)] 53))
  hX hb₀ (by kernel_rfl) rfl hi' hl' (fun v1 h1 => ?_) (fun a5 w5 v5 hd hi5 hl5 hR5 => ?_)
 ·have hh := Lib.hid ((like_same hl' h1).trans hv4)
  have hjn : (j : Int) < (s.n : Int) := by omega
  have hjl : v1.cell? ⟨lb, lo + j, none⟩ = some (.slice (s.ad j) (s.len j) (s.cp j)) := by
   have := hlists.out j hj
   unfold World.cell? at this ⊢
   rw [hh.out]
   exact this
  have hsz1 : v1.heap.size = s.M + 5 * j := by rw [hh.out, hsz]
  clear h1 hl hl' hlists hways hnext hv4 hi hsz
  go_wp2
  show v1.heap.push _ = _
  rw [hh.out]
 obtain ⟨t5, d5⟩ := a5
 have hd1 : d5 = [] := hd
 subst hd1
 obtain ⟨ht, hv5⟩ := hR5
 have ht1 : t5 = #[al, .int .i64 first, .slice (some ⟨lb, lo, none⟩) s.n cl, u3, u4, u5, u6, .pointer (some s.wga), .slice (some ⟨wy, 0, none⟩) N N, .int .i64 (j : Int), .pointer (some ⟨s.M + 5 * j, 0, none⟩), u11, u12, u13, u14, u15, u16, u17, u18, u19, u20, u21, .slice (some ⟨lb, lo, none⟩) s.n cl, .int .i64 (s.n : Int), .int .i64 (j : Int), .bool true, .int .i64 (j : Int), .pointer (some ⟨lb, lo + j, none⟩), .slice (s.ad j) (s.len j) (s.cp j), u29, u30, u31, u32, u33, u34, u35, u36, u37, u38, u39, u40, u41, u42, u43, u44, u45, u46, u47, u48, u49, u50, u51, u52, u53, u54, u55, u56, u57, u58, u59, u60, u61, u62, u63, u64, u65, u66, u67, u68, u69, u70, u71, u72, u73, u74, u75, u76, u77, u78] := ht
 subst ht1
 clear ht hd
 show MG (phI s z Anch Post) j _ (981 + 1) _ _
 refine MG.seq ?_
 refine m_region (m := 973) (R := fun t v' => t = #[al, .int .i64 first, .slice (some ⟨lb, lo, none⟩) s.n cl, u3, u4, u5, u6, .pointer (some s.wga), .slice (some ⟨wy, 0, none⟩) N N, .int .i64 (j : Int), .pointer (some ⟨s.M + 5 * j, 0, none⟩), .pointer (some (s.ibox j)), u12, u13, u14, u15, u16, u17, u18, u19, u20, u21, .slice (some ⟨lb, lo, none⟩) s.n cl, .int .i64 (s.n : Int), .int .i64 (j : Int), .bool true, .int .i64 (j : Int), .pointer (some ⟨lb, lo + j, none⟩), .slice (s.ad j) (s.len j) (s.cp j), .slice (s.ad j) (s.len j) (s.cp j), .int .i64 (s.len j : Int), .int .i64 ((min (s.len j) 64 : Nat) : Int), .chan (some (s.chan j)), u33, u34, u35, u36, u37, u38, u39, u40, u41, u42, u43, u44, u45, u46, u47, u48, u49, u50, u51, u52, u53, u54, u55, u56, u57, u58, u59, u60, u61, u62, u63, u64, u65, u66, u67, u68, u69, u70, u71, u72, u73, u74, u75, u76, u77, u78] ∧ v'.heap = (v5.heap.push (.chan (min (s.len j) 64) #[] false 0 0 false)).push (.cells #[.chan (some (s.chan j))] 76))
  hX hb₀ (by kernel_rfl) rfl hi5 hl5 (fun v1 h1 => ?_) (fun a6 w6 v6 hd hi6 hl6 hR6 => ?_)
 ·have hh := Lib.hid ((like_same hl5 h1))
  have hmin : (if (64 : Int) < (s.len j : Int) then (64 : Int) else (s.len j : Int)) = ((min (s.len j) 64 : Nat) : Int) := by
   split <;> omega
  have hjl : v1.cell? ⟨s.M + 5 * j, 0, none⟩ = some (.slice (s.ad j) (s.len j) (s.cp j)) := by
   unfold World.cell?
   rw [hh.out, hv5, show s.M + 5 * j = v.heap.size from hsz.symm, Array.getElem?_push_size]
   rfl
  have hsz1 : v1.heap.size = s.M + 5 * j + 1 := by rw [hh.out, hv5]; simp [hsz]
  have hmc := MoS.mkBox (n := ((min (s.len j) 64 : Nat) : Int)) (by omega) (by omega)
  clear h1 hl hl' hlists hways hnext hv4 hi hsz hl5 hv5
  go_wp2
  refine ⟨⟨rfl, rfl⟩, ?_⟩
  rw [← hh.out]
  rfl
 obtain ⟨t6, d6⟩ := a6
 have hd1 : d6 = [] := hd
 subst hd1
 obtain ⟨ht, hv6⟩ := hR6
 have ht1 : t6 = #[al, .int .i64 first, .slice (some ⟨lb, lo, none⟩) s.n cl, u3, u4, u5, u6, .pointer (some s.wga), .slice (some ⟨wy, 0, none⟩) N N, .int .i64 (j : Int), .pointer (some ⟨s.M + 5 * j, 0, none⟩), .pointer (some (s.ibox j)), u12, u13, u14, u15, u16, u17, u18, u19, u20, u21, .slice (some ⟨lb, lo, none⟩) s.n cl, .int .i64 (s.n : Int), .int .i64 (j : Int), .bool true, .int .i64 (j : Int), .pointer (some ⟨lb, lo + j, none⟩), .slice (s.ad j) (s.len j) (s.cp j), .slice (s.ad j) (s.len j) (s.cp j), .int .i64 (s.len j : Int), .int .i64 ((min (s.len j) 64 : Nat) : Int), .chan (some (s.chan j)), u33, u34, u35, u36, u37, u38, u39, u40, u41, u42, u43, u44, u45, u46, u47, u48, u49, u50, u51, u52, u53, u54, u55, u56, u57, u58, u59, u60, u61, u62, u63, u64, u65, u66, u67, u68, u69, u70, u71, u72, u73, u74, u75, u76, u77, u78] := ht
 subst ht1
 clear ht hd
 show MG (phI s z Anch Post) j _ (972 + 1) _ _
 refine MG.seq ?_
 refine m_region (m := 961) (R := fun t v' => t = #[al, .int .i64 first, .slice (some ⟨lb, lo, none⟩) s.n cl, u3, u4, u5, u6, .pointer (some s.wga), .slice (some ⟨wy, 0, none⟩) N N, .int .i64 (j : Int), .pointer (some ⟨s.M + 5 * j, 0, none⟩), .pointer (some (s.ibox j)), u12, u13, u14, u15, u16, u17, u18, u19, u20, u21, .slice (some ⟨lb, lo, none⟩) s.n cl, .int .i64 (s.n : Int), .int .i64 (j : Int), .bool true, .int .i64 (j : Int), .pointer (some ⟨lb, lo + j, none⟩), .slice (s.ad j) (s.len j) (s.cp j), .slice (s.ad j) (s.len j) (s.cp j), .int .i64 (s.len j : Int), .int .i64 ((min (s.len j) 64 : Nat) : Int), .chan (some (s.chan j)), .slice (some ⟨wy, 0, none⟩) N N, .int .i64 (j : Int), .int .i64 first, .int .i64 (j : Int), .int .i64 (first + (j : Int)), .chan (some (s.chan j)), .agg #[.int .i64 (first + (j : Int)), .chan (some (s.chan j)), .slice none 0 0], .pointer (some ⟨wy, j * 3, none⟩), u41, u42, u43, u44, u45, u46, u47, u48, u49, u50, u51, u52, u53, u54, u55, u56, u57, u58, u59, u60, u61, u62, u63, u64, u65, u66, u67, u68, u69, u70, u71, u72, u73, u74, u75, u76, u77, u78] ∧ v'.heap.size = s.M + 5 * j + 3 ∧ Hp.Blk v' wy (wayC s first (j + 1) N) 117 ∧ ∀ b, b ≠ wy → v'.heap[b]? = v6.heap[b]?)
  hX hb₀ (by kernel_rfl) rfl hi6 hl6 (fun v1 h1 => ?_) (fun a7 w7 v7 hd hi7 hl7 hR7 => ?_)
 ·have hh := Lib.hid ((like_same hl6 h1))
  have hs5 : v5.heap.size = s.M + 5 * j + 1 := by rw [hv5]; simp [hsz]
  have hsz1 : v1.heap.size = s.M + 5 * j + 3 := by rw [hh.out, hv6]; simp [hs5]
  have hjl : v1.cell? (s.ibox j) = some (.chan (some (s.chan j))) := by
   unfold World.cell? Grp.ibox
   rw [hh.out, hv6, show s.M + 5 * j + 2 = (v5.heap.push (.chan (min (s.len j) 64) #[] false 0 0 false)).size by simp [hs5], Array.getElem?_push_size]
   rfl
  have hw1 : Hp.Blk v1 wy (wayC s first j N) 117 := hways.out.heap (by
   rw [hh.out, hv6, hv5]
   rw [push_old (by simp; omega), push_old (by simp; omega), push_old (by omega)])
  have k0 := wayC_get s first j (N := N) (i := j * 3) (by omega)
  have k1 := wayC_get s first j (N := N) (i := j * 3 + 1) (by omega)
  have k2 := wayC_get s first j (N := N) (i := j * 3 + 2) (by omega)
  have B1 := hw1.set (j * 3) (.int .i64 (first + (j : Int)))
  have B2 := B1.set (j * 3 + 1) (.chan (some (s.chan j)))
  have B3 := Lib.hid (B2.set (j * 3 + 2) (.slice none 0 0))
  have f0 := hw1.cell k0
  have f1 := B1.cell ((List.getElem?_set_ne (by omega)).trans k1)
  have f2 := B2.cell ((List.getElem?_set_ne (by omega)).trans ((List.getElem?_set_ne (by omega)).trans k2))
  have z0 := hw1.frozen (j * 3)
  have z1 := B1.frozen (j * 3 + 1)
  have z2 := B2.frozen (j * 3 + 2)
  clear k0 k1 k2 hw1 B1 B2
  have hjN : (j : Int) < (N : Int) := by omega
  clear h1 hl hl' hlists hways hnext hv4 hi hl5 hl6 hv5 hv6
  go_wp2
  refine ⟨by rw [← wayC_set s first (by omega : j < N)]; exact B3.out, fun b hb => ?_⟩
  rw [set_far hb, set_far hb, set_far hb, hh.out]
 obtain ⟨t7, d7⟩ := a7
 have hd1 : d7 = [] := hd
 subst hd1
 obtain ⟨ht, hs7, hB7, ho7⟩ := hR7
 have ht1 : t7 = #[al, .int .i64 first, .slice (some ⟨lb, lo, none⟩) s.n cl, u3, u4, u5, u6, .pointer (some s.wga), .slice (some ⟨wy, 0, none⟩) N N, .int .i64 (j : Int), .pointer (some ⟨s.M + 5 * j, 0, none⟩), .pointer (some (s.ibox j)), u12, u13, u14, u15, u16, u17, u18, u19, u20, u21, .slice (some ⟨lb, lo, none⟩) s.n cl, .int .i64 (s.n : Int), .int .i64 (j : Int), .bool true, .int .i64 (j : Int), .pointer (some ⟨lb, lo + j, none⟩), .slice (s.ad j) (s.len j) (s.cp j), .slice (s.ad j) (s.len j) (s.cp j), .int .i64 (s.len j : Int), .int .i64 ((min (s.len j) 64 : Nat) : Int), .chan (some (s.chan j)), .slice (some ⟨wy, 0, none⟩) N N, .int .i64 (j : Int), .int .i64 first, .int .i64 (j : Int), .int .i64 (first + (j : Int)), .chan (some (s.chan j)), .agg #[.int .i64 (first + (j : Int)), .chan (some (s.chan j)), .slice none 0 0], .pointer (some ⟨wy, j * 3, none⟩), u41, u42, u43, u44, u45, u46, u47, u48, u49, u50, u51, u52, u53, u54, u55, u56, u57, u58, u59, u60, u61, u62, u63, u64, u65, u66, u67, u68, u69, u70, u71, u72, u73, u74, u75, u76, u77, u78] := ht
 subst ht1
 clear ht hd
 have hs5 : v5.heap.size = s.M + 5 * j + 1 := by rw [hv5]; simp [hsz]
 have hs6 : v6.heap.size = s.M + 5 * j + 3 := by rw [hv6]; simp [hs5]
 have old : ∀ b, b < s.M + 5 * j → b ≠ wy → v7.heap[b]? = v.heap[b]? := fun b hb hw => by
  rw [ho7 b hw, hv6, push_old (by simp; omega), push_old (by omega), hv5, push_old (by omega)]
 have p : Pre s j (SpI s lb lo wy N first Rest (j + 1)) v7 := by
  refine ⟨hs7, ?_, ?_, ?_, fun k hk => ?_, hB7, hR v v7 (fun b hb hw => old b (by omega) hw) hi.rest⟩
  ·rw [ho7 _ (by omega), hv6, push_old (by simp; omega), push_old (by omega), hv5, show s.M + 5 * j = v.heap.size from hsz.symm, Array.getElem?_push_size]
  ·rw [ho7 _ (by omega), hv6, push_old (by simp; omega), show s.M + 5 * j + 1 = v5.heap.size from hs5.symm, Array.getElem?_push_size]
  ·rw [ho7 _ (by omega), hv6, show s.M + 5 * j + 2 = (v5.heap.push (.chan (min (s.len j) 64) #[] false 0 0 false)).size by simp [hs5], Array.getElem?_push_size]
  ·have := hi.lists k hk
   unfold World.cell? at this ⊢
   rw [old lb (by omega) hlw]
   exact this
 show MG (phI s z Anch Post) j _ (960 + 1) _ _
 refine MG.reg ?_
 refine MG.pure (y := s.lit 57 j) rfl rfl hb₀ (fun w => by
  simp only [execOp, List.getElem_toArray, List.getElem_cons_zero, List.map_toArray, List.map_cons, List.map_nil, Act.eval, Instr.makeFunc]
  rfl) ?_
 refine MG.call' (f := 32) (vals := #[.pointer (some s.wga), s.lit 57 j]) rfl rfl hb₀ rfl Try.func32 (by kernel_rfl) rfl (by simp [Act.eval, Act.put]) ?_
 refine MG.le (m := 39) ?_ (by omega)
 have hA := goWalk (Next := Next) hX hXM hk hj hB hWM (hz j) (hn j) (Inv := SpI s lb lo wy N first Rest (j + 1)) (fun v v' e h => h.same hwM hlM hR (fun b hb => e b (by omega))) (cs := b₀.at ⟨#[al, .int .i64 first, .slice (some ⟨lb, lo, none⟩) s.n cl, u3, u4, u5, u6, .pointer (some s.wga), .slice (some ⟨wy, 0, none⟩) N N, .int .i64 (j : Int), .pointer (some ⟨s.M + 5 * j, 0, none⟩), .pointer (some (s.ibox j)), u12, u13, u14, u15, u16, u17, u18, u19, u20, u21, .slice (some ⟨lb, lo, none⟩) s.n cl, .int .i64 (s.n : Int), .int .i64 (j : Int), .bool true, .int .i64 (j : Int), .pointer (some ⟨lb, lo + j, none⟩), .slice (s.ad j) (s.len j) (s.cp j), .slice (s.ad j) (s.len j) (s.cp j), .int .i64 (s.len j : Int), .int .i64 ((min (s.len j) 64 : Nat) : Int), .chan (some (s.chan j)), .slice (some ⟨wy, 0, none⟩) N N, .int .i64 (j : Int), .int .i64 first, .int .i64 (j : Int), .int .i64 (first + (j : Int)), .chan (some (s.chan j)), .agg #[.int .i64 (first + (j : Int)), .chan (some (s.chan j)), .slice none 0 0], .pointer (some ⟨wy, j * 3, none⟩), s.lit 57 j, u42, u43, u44, u45, u46, u47, u48, u49, u50, u51, u52, u53, u54, u55, u56, u57, u58, u59, u60, u61, u62, u63, u64, u65, u66, u67, u68, u69, u70, u71, u72, u73, u74, u75, u76, u77, u78], []⟩ (.inRegion (spo spc) [1] :: .inBlock 1 :: .code (spt spc) :: k) :: cs) (fun w g5 h1 h2 => hnext w g5 h1 h2) hl7 p hi7 (c := (Try.f32).body.getD .skip) rfl
 exact hA
inductive FR (s : Grp) (al : Value) (lb lo cl wy N : Nat) (first : Int) (j : Nat) : Array Value → Prop
 | mk (u3 u4 u5 u6 u9 u10 u11 u12 u13 u14 u15 u16 u17 u18 u19 u20 u21 u25 u26 u27 u28 u29 u30 u31 u32 u33 u34 u35 u36 u37 u38 u39 u40 u41 u42 u43 u44 u45 u46 u47 u48 u49 u50 u51 u52 u53 u54 u55 u56 u57 u58 u59 u60 u61 u62 u63 u64 u65 u66 u67 u68 u69 u70 u71 u72 u73 u74 u75 u76 u77 u78 : Value) : FR s al lb lo cl wy N first j #[al, .int .i64 first, .slice (some ⟨lb, lo, none⟩) s.n cl, u3, u4, u5, u6, .pointer (some s.wga), .slice (some ⟨wy, 0, none⟩) N N, u9, u10, u11, u12, u13, u14, u15, u16, u17, u18, u19, u20, u21, .slice (some ⟨lb, lo, none⟩) s.n cl, .int .i64 (s.n : Int), .int .i64 (j : Int), u25, u26, u27, u28, u29, u30, u31, u32, u33, u34, u35, u36, u37, u38, u39, u40, u41, u42, u43, u44, u45, u46, u47, u48, u49, u50, u51, u52, u53, u54, u55, u56, u57, u58, u59, u60, u61, u62, u63, u64, u65, u66, u67, u68, u69, u70, u71, u72, u73, u74, u75, u76, u77, u78]
theorem MG.leave0r {p : Ph} {m i jn : Nat} {St : Goroutine → World → Prop} {w : World} {b₀ : Frame} {a₀ : Act} {ops : Array Oper} {rest : List Nat} {k : List Item} {cs : List Frame} {u5 : Value} {a₁ : Act} (hP : p.P = Try.prog) (ha : a₀.put ((ops[i]?).bind (·.dst)) (.tuple #[]) = a₁)
  (hk : MG p jn St m (G (b₀.at a₁ (.inRegion ops rest :: k)) cs) w) : MG p jn St (m + 3) (G (goF s j u5) (b₀.at a₀ (.inRegion ops (i :: rest) :: k) :: cs)) w := by
 subst ha
 unfold goF
 refine MG.regEnd ?_
 refine MG.end_ ?_
 refine MG.leave0 rfl rfl (by rw [hP]; exact Try.func32) rfl hk
set_option maxRecDepth 100000 in
set_option maxHeartbeats 4000000 in
theorem back (hX : ShunIn X s.Shun) (hn9 : s.n < 9223372036854775807) (hj : j < s.n) (hwM : wy < s.M) (hlM : lb < s.M)
  {Rest : World → Prop} (hR : ∀ v v' : World, (∀ b, b < s.M → b ≠ wy → v'.heap[b]? = v.heap[b]?) → Rest v → Rest v')
  {b₀ : Frame} (hb₀ : b₀.kind = .normal) {k : List Item} {cs : List Frame} {St : Goroutine → World → Prop} {m : Nat} (g5 u3 u4 u5 u6 u9 u10 u11 u12 u13 u14 u15 u16 u17 u18 u19 u20 u21 u25 u26 u27 u28 u29 u30 u31 u32 u33 u34 u35 u36 u37 u38 u39 u40 u41 u42 u43 u44 u45 u46 u47 u48 u49 u50 u51 u52 u53 u54 u55 u56 u57 u58 u59 u60 u61 u62 u63 u64 u65 u66 u67 u68 u69 u70 u71 u72 u73 u74 u75 u76 u77 u78 : Value)
  (hnext : ∀ t w v, FR s al lb lo cl wy N first (j + 1) t → Like (s.Sd X (j + 1)) w v → v.heap.size = s.M + 5 * (j + 1) → SpI s lb lo wy N first Rest (j + 1) v → (phI s z Anch Post).Live w → Goes Try.prog true ((phI s z Anch Post).Far (j + 1)) ((phI s z Anch Post).DM (j + 1)) St m (G (b₀.at ⟨t, []⟩ (.code spc :: .inLoop spc :: k)) cs) w)
  {w : World} (r : Rdy s X j (SpI s lb lo wy N first Rest (j + 1)) w) (hlive : (phI s z Anch Post).Live w) {c : Code} (hc : spt spc = c) :
  Goes Try.prog true ((phI s z Anch Post).Far (j + 1)) ((phI s z Anch Post).DM (j + 1)) St (m + 10) (G (goF s j g5) (b₀.at ⟨#[al, .int .i64 first, .slice (some ⟨lb, lo, none⟩) s.n cl, u3, u4, u5, u6, .pointer (some s.wga), .slice (some ⟨wy, 0, none⟩) N N, .int .i64 (j : Int), .pointer (some ⟨s.M + 5 * j, 0, none⟩), .pointer (some (s.ibox j)), u12, u13, u14, u15, u16, u17, u18, u19, u20, u21, .slice (some ⟨lb, lo, none⟩) s.n cl, .int .i64 (s.n : Int), .int .i64 (j : Int), .bool true, .int .i64 (j : Int), .pointer (some ⟨lb, lo + j, none⟩), .slice (s.ad j) (s.len j) (s.cp j), .slice (s.ad j) (s.len j) (s.cp j), .int .i64 (s.len j : Int), .int .i64 ((min (s.len j) 64 : Nat) : Int), .chan (some (s.chan j)), .slice (some ⟨wy, 0, none⟩) N N, .int .i64 (j : Int), .int .i64 first, .int .i64 (j : Int), .int .i64 (first + (j : Int)), .chan (some (s.chan j)), .agg #[.int .i64 (first + (j : Int)), .chan (some (s.chan j)), .slice none 0 0], .pointer (some ⟨wy, j * 3, none⟩), s.lit 57 j, u42, u43, u44, u45, u46, u47, u48, u49, u50, u51, u52, u53, u54, u55, u56, u57, u58, u59, u60, u61, u62, u63, u64, u65, u66, u67, u68, u69, u70, u71, u72, u73, u74, u75, u76, u77, u78], []⟩ (.inRegion (spo spc) [1] :: .inBlock 1 :: .code c :: .inLoop spc :: k) :: cs)) w := by
 obtain ⟨v, hl, hi, hsz⟩ := sd_grow (fun v v' e h => SpI.same (first := first) (Rest := Rest) hwM hlM hR (fun b hb => e b (by omega)) h) r
 conv at hc => lhs; whnf
 subst hc
 show MG (phI s z Anch Post) (j + 1) _ (m + 10) _ _
 refine MG.le (m := 2 + 2 + (m + 1) + 1 + 1 + 3) ?_ (by omega)
 refine MG.leave0r (p := phI s z Anch Post) (a₁ := ⟨#[al, .int .i64 first, .slice (some ⟨lb, lo, none⟩) s.n cl, u3, u4, u5, u6, .pointer (some s.wga), .slice (some ⟨wy, 0, none⟩) N N, .int .i64 (j : Int), .pointer (some ⟨s.M + 5 * j, 0, none⟩), .pointer (some (s.ibox j)), u12, u13, u14, u15, u16, u17, u18, u19, u20, u21, .slice (some ⟨lb, lo, none⟩) s.n cl, .int .i64 (s.n : Int), .int .i64 (j : Int), .bool true, .int .i64 (j : Int), .pointer (some ⟨lb, lo + j, none⟩), .slice (s.ad j) (s.len j) (s.cp j), .slice (s.ad j) (s.len j) (s.cp j), .int .i64 (s.len j : Int), .int .i64 ((min (s.len j) 64 : Nat) : Int), .chan (some (s.chan j)), .slice (some ⟨wy, 0, none⟩) N N, .int .i64 (j : Int), .int .i64 first, .int .i64 (j : Int), .int .i64 (first + (j : Int)), .chan (some (s.chan j)), .agg #[.int .i64 (first + (j : Int)), .chan (some (s.chan j)), .slice none 0 0], .pointer (some ⟨wy, j * 3, none⟩), s.lit 57 j, .tuple #[], u43, u44, u45, u46, u47, u48, u49, u50, u51, u52, u53, u54, u55, u56, u57, u58, u59, u60, u61, u62, u63, u64, u65, u66, u67, u68, u69, u70, u71, u72, u73, u74, u75, u76, u77, u78], []⟩) rfl rfl ?_
 refine MG.regEnd ?_
 refine MG.inBlock ?_
 refine m_region (m := m + 1) (R := fun t v' => t = #[al, .int .i64 first, .slice (some ⟨lb, lo, none⟩) s.n cl, u3, u4, u5, u6, .pointer (some s.wga), .slice (some ⟨wy, 0, none⟩) N N, .int .i64 (j : Int), .pointer (some ⟨s.M + 5 * j, 0, none⟩), .pointer (some (s.ibox j)), u12, u13, u14, u15, u16, u17, u18, u19, u20, u21, .slice (some ⟨lb, lo, none⟩) s.n cl, .int .i64 (s.n : Int), .int .i64 (((j + 1 : Nat)) : Int), .bool true, .int .i64 (j : Int), .pointer (some ⟨lb, lo + j, none⟩), .slice (s.ad j) (s.len j) (s.cp j), .slice (s.ad j) (s.len j) (s.cp j), .int .i64 (s.len j : Int), .int .i64 ((min (s.len j) 64 : Nat) : Int), .chan (some (s.chan j)), .slice (some ⟨wy, 0, none⟩) N N, .int .i64 (j : Int), .int .i64 first, .int .i64 (j : Int), .int .i64 (first + (j : Int)), .chan (some (s.chan j)), .agg #[.int .i64 (first + (j : Int)), .chan (some (s.chan j)), .slice none 0 0], .pointer (some ⟨wy, j * 3, none⟩), s.lit 57 j, .tuple #[], .int .i64 (((j + 1 : Nat)) : Int), u44, u45, u46, u47, u48, u49, u50, u51, u52, u53, u54, u55, u56, u57, u58, u59, u60, u61, u62, u63, u64, u65, u66, u67, u68, u69, u70, u71, u72, u73, u74, u75, u76, u77, u78] ∧ v'.heap = v.heap)
  hX hb₀ (by kernel_rfl) rfl hlive hl (fun v1 h1 => ?_) (fun a' w' v' hd hi' hl' hR' => ?_)
 ·have hh := Lib.hid (like_same hl h1)
  have hjn : (j : Int) < (s.n : Int) := by omega
  have hcast : (((j + 1 : Nat)) : Int) = (j : Int) + 1 := by omega
  clear h1 hl hi r hnext
  go_wp2
  exact hh.out
 obtain ⟨t4, d4⟩ := a'
 have hd1 : d4 = [] := hd
 subst hd1
 obtain ⟨ht, hv4⟩ := hR'
 have ht1 : t4 = #[al, .int .i64 first, .slice (some ⟨lb, lo, none⟩) s.n cl, u3, u4, u5, u6, .pointer (some s.wga), .slice (some ⟨wy, 0, none⟩) N N, .int .i64 (j : Int), .pointer (some ⟨s.M + 5 * j, 0, none⟩), .pointer (some (s.ibox j)), u12, u13, u14, u15, u16, u17, u18, u19, u20, u21, .slice (some ⟨lb, lo, none⟩) s.n cl, .int .i64 (s.n : Int), .int .i64 (((j + 1 : Nat)) : Int), .bool true, .int .i64 (j : Int), .pointer (some ⟨lb, lo + j, none⟩), .slice (s.ad j) (s.len j) (s.cp j), .slice (s.ad j) (s.len j) (s.cp j), .int .i64 (s.len j : Int), .int .i64 ((min (s.len j) 64 : Nat) : Int), .chan (some (s.chan j)), .slice (some ⟨wy, 0, none⟩) N N, .int .i64 (j : Int), .int .i64 first, .int .i64 (j : Int), .int .i64 (first + (j : Int)), .chan (some (s.chan j)), .agg #[.int .i64 (first + (j : Int)), .chan (some (s.chan j)), .slice none 0 0], .pointer (some ⟨wy, j * 3, none⟩), s.lit 57 j, .tuple #[], .int .i64 (((j + 1 : Nat)) : Int), u44, u45, u46, u47, u48, u49, u50, u51, u52, u53, u54, u55, u56, u57, u58, u59, u60, u61, u62, u63, u64, u65, u66, u67, u68, u69, u70, u71, u72, u73, u74, u75, u76, u77, u78] := ht
 subst ht1
 clear ht hd
 show MG (phI s z Anch Post) (j + 1) _ (m + 1) _ _
 refine MG.inLoop ?_
 exact hnext _ w' v' (.mk ..) hl' (by rw [hv4]; exact hsz) (hi.same hwM hlM hR fun b _ => by rw [hv4]) hi'
theorem spawns (hX : ShunIn X s.Shun) (hXM : ∀ b, X b → b < s.M) (hk : (phI s z Anch Post).Ok) (hB : s.M + 5 * s.n ≤ s.B) (hWM : s.Wg < s.M) (hwM : wy < s.M) (hlM : lb < s.M) (hlw : lb ≠ wy) (hn9 : s.n < 9223372036854775807)
  (hz : ∀ k, s.ad k = none → s.len k = 0) (hn : ∀ k, s.len k < 9223372036854775807) (hNn : s.n ≤ N) (hN9 : N < 9223372036854775807) (hf0 : 0 ≤ first) (hf1 : first + (s.n : Int) < 9223372036854775807)
  {Rest : World → Prop} (hR : ∀ v v' : World, (∀ b, b < s.M → b ≠ wy → v'.heap[b]? = v.heap[b]?) → Rest v → Rest v')
  {b₀ : Frame} (hb₀ : b₀.kind = .normal) {k : List Item} {cs : List Frame} {Fin StF : Goroutine → World → Prop} {mF : Nat}
  (hF : ∀ g w m, Goes Try.prog true ((phI s z Anch Post).Far s.n) ((phI s z Anch Post).DM s.n) StF m g w → Fin g w)
  (hfin : ∀ t w v, FR s al lb lo cl wy N first s.n t → Like (s.Sd X s.n) w v → v.heap.size = s.M + 5 * s.n → SpI s lb lo wy N first Rest s.n v → (phI s z Anch Post).Live w → Goes Try.prog true ((phI s z Anch Post).Far s.n) ((phI s z Anch Post).DM s.n) StF mF (G (b₀.at ⟨t, []⟩ (.code spc :: .inLoop spc :: k)) cs) w) :
  ∀ r j, j + (r + 1) = s.n → ∀ t w v, FR s al lb lo cl wy N first j t → Like (s.Sd X j) w v → v.heap.size = s.M + 5 * j → SpI s lb lo wy N first Rest j v → (phI s z Anch Post).Live w → Goes Try.prog true ((phI s z Anch Post).Far j) ((phI s z Anch Post).DM j) ((phI s z Anch Post).U1 j ((phI s z Anch Post).Spawns Fin r)) 1000 (G (b₀.at ⟨t, []⟩ (.code spc :: .inLoop spc :: k)) cs) w := by
 intro r
 induction r with
 | zero =>
  intro j hj t w v ht hl hs hi hv
  obtain ⟨u3, u4, u5, u6, u9, u10, u11, u12, u13, u14, u15, u16, u17, u18, u19, u20, u21, u25, u26, u27, u28, u29, u30, u31, u32, u33, u34, u35, u36, u37, u38, u39, u40, u41, u42, u43, u44, u45, u46, u47, u48, u49, u50, u51, u52, u53, u54, u55, u56, u57, u58, u59, u60, u61, u62, u63, u64, u65, u66, u67, u68, u69, u70, u71, u72, u73, u74, u75, u76, u77, u78⟩ := ht
  obtain rfl' : j + 1 = s.n := by omega
  refine round hX hXM hk (by omega) hB hWM hwM hlM hlw hn9 hz hn hNn hN9 hf0 hf1 hR hb₀ u3 u4 u5 u6 u9 u10 u11 u12 u13 u14 u15 u16 u17 u18 u19 u20 u21 u25 u26 u27 u28 u29 u30 u31 u32 u33 u34 u35 u36 u37 u38 u39 u40 u41 u42 u43 u44 u45 u46 u47 u48 u49 u50 u51 u52 u53 u54 u55 u56 u57 u58 u59 u60 u61 u62 u63 u64 u65 u66 u67 u68 u69 u70 u71 u72 u73 u74 u75 u76 u77 u78 (fun w g5 h1 h2 => ?_) hl hs hi hv rfl
  refine hF _ _ (mF + 10) ?_
  have := back (al := al) (m := mF) (St := StF) (lo := lo) (cl := cl) hX hn9 (show j < s.n by omega) hwM hlM hR hb₀ (k := k) (cs := cs) g5 u3 u4 u5 u6 u9 u10 u11 u12 u13 u14 u15 u16 u17 u18 u19 u20 u21 u25 u26 u27 u28 u29 u30 u31 u32 u33 u34 u35 u36 u37 u38 u39 u40 u41 u42 u43 u44 u45 u46 u47 u48 u49 u50 u51 u52 u53 u54 u55 u56 u57 u58 u59 u60 u61 u62 u63 u64 u65 u66 u67 u68 u69 u70 u71 u72 u73 u74 u75 u76 u77 u78 (fun t w v a1 a2 a3 a4 a5 => ?_) h1 h2 rfl
  ·rw [rfl'] at this
   exact this
  ·rw [rfl'] at a1 a2 a3 a4 ⊢
   exact hfin t w v a1 a2 a3 a4 a5
 | succ r ih =>
  intro j hj t w v ht hl hs hi hv
  obtain ⟨u3, u4, u5, u6, u9, u10, u11, u12, u13, u14, u15, u16, u17, u18, u19, u20, u21, u25, u26, u27, u28, u29, u30, u31, u32, u33, u34, u35, u36, u37, u38, u39, u40, u41, u42, u43, u44, u45, u46, u47, u48, u49, u50, u51, u52, u53, u54, u55, u56, u57, u58, u59, u60, u61, u62, u63, u64, u65, u66, u67, u68, u69, u70, u71, u72, u73, u74, u75, u76, u77, u78⟩ := ht
  refine round hX hXM hk (by omega) hB hWM hwM hlM hlw hn9 hz hn hNn hN9 hf0 hf1 hR hb₀ u3 u4 u5 u6 u9 u10 u11 u12 u13 u14 u15 u16 u17 u18 u19 u20 u21 u25 u26 u27 u28 u29 u30 u31 u32 u33 u34 u35 u36 u37 u38 u39 u40 u41 u42 u43 u44 u45 u46 u47 u48 u49 u50 u51 u52 u53 u54 u55 u56 u57 u58 u59 u60 u61 u62 u63 u64 u65 u66 u67 u68 u69 u70 u71 u72 u73 u74 u75 u76 u77 u78 (fun w g5 h1 h2 => ?_) hl hs hi hv rfl
  have e : (phI s z Anch Post).n - (r + 1) = j + 1 := by
   show s.n - (r + 1) = j + 1
   omega
  refine ⟨1000 + 10, ?_⟩
  rw [e]
  exact back (al := al) (m := 1000) (lo := lo) (cl := cl) hX hn9 (show j < s.n by omega) hwM hlM hR hb₀ (k := k) (cs := cs) g5 u3 u4 u5 u6 u9 u10 u11 u12 u13 u14 u15 u16 u17 u18 u19 u20 u21 u25 u26 u27 u28 u29 u30 u31 u32 u33 u34 u35 u36 u37 u38 u39 u40 u41 u42 u43 u44 u45 u46 u47 u48 u49 u50 u51 u52 u53 u54 u55 u56 u57 u58 u59 u60 u61 u62 u63 u64 u65 u66 u67 u68 u69 u70 u71 u72 u73 u74 u75 u76 u77 u78 (fun t w v a1 a2 a3 a4 a5 => ih (j + 1) (by omega) t w v a1 a2 a3 a4 a5) h1 h2 rfl
end
end Go.Proofs.Ytilpedopnkhppaa.MxS

/- atOnce behind its first loop: to the head of the second, in company. Conditions: each theorem's own. -/
namespace Go.Proofs.Ytilpedopnkhppaa.MxS
open Go.Conc Go.Conc.Lib Br Go.Proofs.Ytilpedopnkhppaa.Mx
def findAft (k : Nat) : Code → Option Code
 | .seq (.seq a (.block j c)) r => if j = k then some r else findAft k r
 | .seq a b => match findAft k a with
   | some c => some c
   | none => findAft k b
 | .scope c => findAft k c
 | _ => none
noncomputable def spa : Code := ((Try.f41.body.bind (findAft 0)).getD .skip)
noncomputable def tkc : Code := ((Try.f41.body.bind (findBody 2)).getD .skip)
def sndOf : Code → Code
 | .seq _ r => r
 | c => c
inductive FT (s : Grp) (al : Value) (wy N : Nat) (first : Int) (h : Nat) : Array Value → Prop
 | mk (u2 u3 u4 u5 u6 u9 u10 u11 u13 u14 u15 u16 u17 u18 u19 u20 u21 u22 u23 u24 u25 u26 u27 u28 u29 u30 u31 u32 u33 u34 u35 u36 u37 u38 u39 u40 u41 u42 u43 u44 u45 u46 u47 u48 u49 u50 u51 u52 u53 u54 u55 u56 u57 u58 u59 u60 u61 u62 u63 u64 u65 u66 u67 u68 u69 u70 u71 u72 u73 u74 u75 u76 u77 u78 : Value) : FT s al wy N first h #[al, .int .i64 first, u2, u3, u4, u5, u6, .pointer (some s.wga), .slice (some ⟨wy, 0, none⟩) N N, u9, u10, u11, .int .i64 (h : Int), u13, u14, u15, u16, u17, u18, u19, u20, u21, u22, u23, u24, u25, u26, u27, u28, u29, u30, u31, u32, u33, u34, u35, u36, u37, u38, u39, u40, u41, u42, u43, u44, u45, u46, u47, u48, u49, u50, u51, u52, u53, u54, u55, u56, u57, u58, u59, u60, u61, u62, u63, u64, u65, u66, u67, u68, u69, u70, u71, u72, u73, u74, u75, u76, u77, u78]
section
variable {s : Grp} {X : Sh} {z al : Value} {Anch Post : Goroutine → World → Prop} {j lb lo cl wy N : Nat} {first : Int}
set_option maxRecDepth 100000 in
set_option maxHeartbeats 4000000 in
theorem spOut (hX : ShunIn X s.Shun) {Inv : World → Prop} (hI : ∀ v v' : World, v'.heap = v.heap → Inv v → Inv v') {b₀ : Frame} (hb₀ : b₀.kind = .normal) {k : List Item} {cs : List Frame} {St : Goroutine → World → Prop} {m : Nat}
  (hnext : ∀ t w v, FT s al wy N first 0 t → Like (s.Sd X s.n) w v → v.heap.size = s.M + 5 * s.n → Inv v → (phI s z Anch Post).Live w → Goes Try.prog true ((phI s z Anch Post).Far s.n) ((phI s z Anch Post).DM s.n) St m (G (b₀.at ⟨t, []⟩ (.code tkc :: .inLoop tkc :: .inBlock 2 :: .code (sndOf spa) :: k)) cs) w)
  {t : Array Value} {w v : World} (ht : FR s al lb lo cl wy N first s.n t) (hl : Like (s.Sd X s.n) w v) (hsz : v.heap.size = s.M + 5 * s.n) (hi : Inv v) (hlive : (phI s z Anch Post).Live w) {c ca : Code} (hc : spc = c) (hca : spa = ca) :
  Goes Try.prog true ((phI s z Anch Post).Far s.n) ((phI s z Anch Post).DM s.n) St (m + 20) (G (b₀.at ⟨t, []⟩ (.code c :: .inLoop c :: .inBlock 0 :: .code ca :: k)) cs) w := by
 obtain ⟨u3, u4, u5, u6, u9, u10, u11, u12, u13, u14, u15, u16, u17, u18, u19, u20, u21, u25, u26, u27, u28, u29, u30, u31, u32, u33, u34, u35, u36, u37, u38, u39, u40, u41, u42, u43, u44, u45, u46, u47, u48, u49, u50, u51, u52, u53, u54, u55, u56, u57, u58, u59, u60, u61, u62, u63, u64, u65, u66, u67, u68, u69, u70, u71, u72, u73, u74, u75, u76, u77, u78⟩ := ht
 conv at hc => lhs; whnf
 conv at hca => lhs; whnf
 subst hc
 subst hca
 show MG (phI s z Anch Post) s.n _ (m + 20) _ _
 refine MG.le (m := 1 + 2 + (1 + 2 + (m + 1 + 1) + 1 + 1 + 1 + 1 + 1) + 1) ?_ (by omega)
 refine MG.seq ?_
 refine m_region (m := 1 + 2 + (m + 1 + 1) + 1 + 1 + 1 + 1 + 1) (R := fun t v' => t = #[al, .int .i64 first, .slice (some ⟨lb, lo, none⟩) s.n cl, u3, u4, u5, u6, .pointer (some s.wga), .slice (some ⟨wy, 0, none⟩) N N, u9, u10, u11, u12, u13, u14, u15, u16, u17, u18, u19, u20, u21, .slice (some ⟨lb, lo, none⟩) s.n cl, .int .i64 (s.n : Int), .int .i64 (s.n : Int), .bool false, u26, u27, u28, u29, u30, u31, u32, u33, u34, u35, u36, u37, u38, u39, u40, u41, u42, u43, u44, u45, u46, u47, u48, u49, u50, u51, u52, u53, u54, u55, u56, u57, u58, u59, u60, u61, u62, u63, u64, u65, u66, u67, u68, u69, u70, u71, u72, u73, u74, u75, u76, u77, u78] ∧ v'.heap = v.heap)
  hX hb₀ (by kernel_rfl) rfl hlive hl (fun v1 h1 => ?_) (fun a4 w4 v4 hd hi4 hl4 hR4 => ?_)
 ·have hh := Lib.hid (like_same hl h1)
  have hjn : ¬ (s.n : Int) < (s.n : Int) := by omega
  clear h1 hl hi hnext
  go_wp2
  exact hh.out
 obtain ⟨t4, d4⟩ := a4
 have hd1 : d4 = [] := hd
 subst hd1
 obtain ⟨ht, hv4⟩ := hR4
 have ht1 : t4 = #[al, .int .i64 first, .slice (some ⟨lb, lo, none⟩) s.n cl, u3, u4, u5, u6, .pointer (some s.wga), .slice (some ⟨wy, 0, none⟩) N N, u9, u10, u11, u12, u13, u14, u15, u16, u17, u18, u19, u20, u21, .slice (some ⟨lb, lo, none⟩) s.n cl, .int .i64 (s.n : Int), .int .i64 (s.n : Int), .bool false, u26, u27, u28, u29, u30, u31, u32, u33, u34, u35, u36, u37, u38, u39, u40, u41, u42, u43, u44, u45, u46, u47, u48, u49, u50, u51, u52, u53, u54, u55, u56, u57, u58, u59, u60, u61, u62, u63, u64, u65, u66, u67, u68, u69, u70, u71, u72, u73, u74, u75, u76, u77, u78] := ht
 subst ht1
 clear ht hd
 show MG (phI s z Anch Post) s.n _ (1 + 2 + (m + 1 + 1) + 1 + 1 + 1 + 1 + 1) _ _
 refine MG.seq ?_
 refine MG.condF rfl ?_
 refine MG.exit rfl ?_
 refine MG.seq ?_
 refine MG.seq ?_
 refine m_region (m := m + 1 + 1) (R := fun t v' => t = #[al, .int .i64 first, .slice (some ⟨lb, lo, none⟩) s.n cl, u3, u4, u5, u6, .pointer (some s.wga), .slice (some ⟨wy, 0, none⟩) N N, u9, u10, u11, .int .i64 0, u13, u14, u15, u16, u17, u18, u19, u20, u21, .slice (some ⟨lb, lo, none⟩) s.n cl, .int .i64 (s.n : Int), .int .i64 (s.n : Int), .bool false, u26, u27, u28, u29, u30, u31, u32, u33, u34, u35, u36, u37, u38, u39, u40, u41, u42, u43, u44, u45, u46, u47, u48, u49, u50, u51, u52, u53, u54, u55, u56, u57, u58, u59, u60, u61, u62, u63, u64, u65, u66, u67, u68, u69, u70, u71, u72, u73, u74, u75, u76, u77, u78] ∧ v'.heap = v.heap)
  hX hb₀ (by kernel_rfl) rfl hi4 hl4 (fun v1 h1 => ?_) (fun a5 w5 v5 hd hi5 hl5 hR5 => ?_)
 ·have hh := Lib.hid ((like_same hl4 h1).trans hv4)
  clear h1 hl4 hl hi hnext hv4
  go_wp2
  exact hh.out
 obtain ⟨t5, d5⟩ := a5
 have hd1 : d5 = [] := hd
 subst hd1
 obtain ⟨ht, hv5⟩ := hR5
 have ht1 : t5 = #[al, .int .i64 first, .slice (some ⟨lb, lo, none⟩) s.n cl, u3, u4, u5, u6, .pointer (some s.wga), .slice (some ⟨wy, 0, none⟩) N N, u9, u10, u11, .int .i64 0, u13, u14, u15, u16, u17, u18, u19, u20, u21, .slice (some ⟨lb, lo, none⟩) s.n cl, .int .i64 (s.n : Int), .int .i64 (s.n : Int), .bool false, u26, u27, u28, u29, u30, u31, u32, u33, u34, u35, u36, u37, u38, u39, u40, u41, u42, u43, u44, u45, u46, u47, u48, u49, u50, u51, u52, u53, u54, u55, u56, u57, u58, u59, u60, u61, u62, u63, u64, u65, u66, u67, u68, u69, u70, u71, u72, u73, u74, u75, u76, u77, u78] := ht
 subst ht1
 clear ht hd
 show MG (phI s z Anch Post) s.n _ (m + 1 + 1) _ _
 refine MG.block ?_
 refine MG.loop ?_
 exact hnext _ w5 v5 (.mk ..) hl5 (by rw [hv5]; exact hsz) (hI v v5 hv5 hi) hi5
end
end Go.Proofs.Ytilpedopnkhppaa.MxS

