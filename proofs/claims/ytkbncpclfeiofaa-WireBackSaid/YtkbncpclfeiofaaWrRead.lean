/- Frames: read. Conditions: each theorem's own. -/
import Derived.Test.YtkbncpclfeiofaaWrHead
import Derived.Test.YtkbncpclfeiofaaWrEnc
set_option linter.unusedVariables false
namespace Go.Proofs.Ytkbncpclfeiofaa.Wr
open Go.RowKit Hp WrM Byt
attribute [local go_sem ↓] Go.wp_at_zero Go.wp_at_succ
/-- No frame. -/
def zf : Frm := ⟨0, 0, 0, 0, 0, 0, 0, 0, 0, []⟩
/-- What read answers. -/
def ReadP (w : World) (l : List UInt8) (e : Ending) (w' : World) : Prop :=
  (¬ WrM.Good l ∧ Ans w (.tuple #[fv zf none 0, .bool false]) e w') ∨
  (WrM.Good l ∧ ∃ s c, e = .returned (.tuple #[fv (flds l) s c, .bool true]) ∧ Byt.Src w' (.slice s (flds l).data.length c) (flds l).data ∧ c ≤ 9223372036854775807 ∧ Kept (fun _ => False) w w')
theorem src_pre {w : World} {b o c n k : Nat} {l : List UInt8} (h : Byt.Src w (.slice (some ⟨b, o, none⟩) n c) l) (hn : n = l.length) (hk : k ≤ l.length) :
    Byt.Src w (.slice (some ⟨b, o, none⟩) k c) (l.take k) := by
  subst hn
  obtain ⟨s', c', e, hc, h, _⟩ := h
  cases e
  have hl : (l.take k).length = k := by rw [List.length_take]; omega
  refine ⟨_, _, by rw [hl], by rw [hl]; omega, ?_, fun e => by cases e⟩
  rcases h with rfl | ⟨b', q, e, hb, hcell⟩
  · left; simp
  · cases e
    right
    refine ⟨_, _, rfl, hb, fun j hj => ?_⟩
    rw [hl] at hj
    rw [hcell j (by omega)]
    simp
theorem src_not_zero {w : World} {s : Option Addr} {n c ra : Nat} {l : List UInt8} (h : Byt.Src w (.slice s n c) l) (hB : Blk w ra [.int .i64 0, .int .i64 0, .int .i64 0, .int .i64 0, .int .u64 0, .int .i64 0, .int .i64 0, .int .i64 0, .int .i64 0, .slice none 0 0] 25) : ∀ a, s = some a → l ≠ [] → ¬ a.block = ra := by
  intro a e hn hb
  obtain ⟨s', c', e', _, h2, _⟩ := h
  cases e'
  rcases h2 with h2 | ⟨b, q, e2, _, hcell⟩
  · exact absurd h2 hn
  · rw [e2] at e; cases e
    have hl : 0 < l.length := List.length_pos_iff.2 hn
    have h3 := hcell 0 hl
    have h4 : b = ra := hb
    subst h4
    unfold Blk at hB
    simp only [World.cell?, hB, Nat.add_zero] at h3
    rcases q with _ | _ | _ | _ | _ | _ | _ | _ | _ | _ | q <;> simp [bv] at h3
theorem src_keptF {w w' : World} {F : Nat → Prop} {s : Option Addr} {n c : Nat} {l : List UInt8} (h : Byt.Src w (.slice s n c) l) (k : Kept F w w') (hF : ∀ a, s = some a → l ≠ [] → ¬ F a.block) : Byt.Src w' (.slice s n c) l := by
  obtain ⟨s', c', e, hc, h, hn⟩ := h
  cases e
  refine ⟨_, _, rfl, hc, ?_, hn⟩
  by_cases h0 : l = []
  · exact Or.inl h0
  rcases h with h | ⟨b, q, rfl, hb, hcell⟩
  · exact Or.inl h
  · exact Or.inr ⟨b, q, rfl, Nat.lt_of_lt_of_le hb k.size, fun j hj => (keptAt k hb (hF _ rfl h0) _).trans (hcell j hj)⟩
theorem src_lt {w : World} {s : Option Addr} {n c : Nat} {l : List UInt8} (h : Byt.Src w (.slice s n c) l) : ∀ a, s = some a → l ≠ [] → a.block < w.heap.size := by
  intro a e hn
  obtain ⟨s', c', e', _, h2, _⟩ := h
  cases e'
  rcases h2 with h2 | ⟨b, q, e2, hb, _⟩
  · exact absurd h2 hn
  · rw [e2] at e; cases e; exact hb
theorem src_far {w : World} {s : Option Addr} {n c k : Nat} {l : List UInt8} (h : Byt.Src w (.slice s n c) l) (ha : ∀ a, s = some a → l ≠ [] → a.block < k) {p : Nat} (hp : k ≤ p) (o : Nat) (u : Value) : Byt.Src (w.setCell ⟨p, o, none⟩ u) (.slice s n c) l :=
  src_set h fun a e hn => by have := ha a e hn; omega
set_option maxHeartbeats 8000000 in
set_option maxRecDepth 100000 in
theorem read_short {w : World} {s : Option Addr} {c : Nat} {l : List UInt8} (h : Byt.Src w (.slice s l.length c) l) (hc : c ≤ 9223372036854775807) (hl : l.length ≤ 1000000) (h26 : l.length < 26) :
    Calls Try.prog 32 #[.slice s l.length c] w (Ans w (.tuple #[fv zf none 0, .bool false])) := by
  have HSR := Lib.hid h
  have hS9 := sh9_short h26
  clear h
  go_enter Try.func32, Try.ntmps32
  go_upto_region 2 with fail
  have hA : Blk (w.alloc (.cells #[.int .i64 0, .int .i64 0, .int .i64 0, .int .i64 0, .int .u64 0, .int .i64 0, .int .i64 0, .int .i64 0, .int .i64 0, .slice none 0 0] 25)) w.heap.size [.int .i64 0, .int .i64 0, .int .i64 0, .int .i64 0, .int .u64 0, .int .i64 0, .int .i64 0, .int .i64 0, .int .i64 0, .slice none 0 0] 25 := Blk.new w _ _
  have kA : Kept (fun _ => False) w (w.alloc (.cells #[.int .i64 0, .int .i64 0, .int .i64 0, .int .i64 0, .int .u64 0, .int .i64 0, .int .i64 0, .int .i64 0, .int .i64 0, .slice none 0 0] 25)) := (Kept.refl _ w).alloc _
  have sA : (w.alloc (.cells #[.int .i64 0, .int .i64 0, .int .i64 0, .int .i64 0, .int .u64 0, .int .i64 0, .int .i64 0, .int .i64 0, .int .i64 0, .slice none 0 0] 25)).heap.size = w.heap.size + 1 := by simp
  generalize w.alloc (.cells #[.int .i64 0, .int .i64 0, .int .i64 0, .int .i64 0, .int .u64 0, .int .i64 0, .int .i64 0, .int .i64 0, .int .i64 0, .slice none 0 0] 25) = wa at *
  try rw [sA]
  have hR1 : Blk (wa.alloc (.cells #[.slice s l.length c, .bool false] 58)) wa.heap.size [.slice s l.length c, .bool false] 58 := Blk.new wa _ _
  have hA1 : Blk (wa.alloc (.cells #[.slice s l.length c, .bool false] 58)) w.heap.size [.int .i64 0, .int .i64 0, .int .i64 0, .int .i64 0, .int .u64 0, .int .i64 0, .int .i64 0, .int .i64 0, .int .i64 0, .slice none 0 0] 25 := hA.old _
  have kB : Kept (fun _ => False) w (wa.alloc (.cells #[.slice s l.length c, .bool false] 58)) := kA.alloc _
  rw [sA] at hR1
  generalize hra : w.heap.size = ra at *
  have HRA := Lib.hid hra
  have hR2 := hR1
  have hA2 := hA1
  have kC := kB
  generalize wa.alloc (.cells #[.slice s l.length c, .bool false] 58) = z0 at *
  have hrd : RdV z0 (ra + 1) l false := ⟨_, _, hR2, HSR.out.kept kC, hc, fun a e hn => by
    obtain ⟨s', c', e', _, h2, _⟩ := HSR.out
    cases e'
    rcases h2 with h2 | ⟨b, q, e2, hb, _⟩
    · exact absurd h2 hn
    · rw [e2] at e; cases e; show b < ra + 1; omega⟩
  have HD := Lib.hid (head_any hrd)
  have HA := Lib.hid hA2
  have HK := Lib.hid kC
  clear hA kA sA hR1 hA1 kB hra hR2 hA2 kC hrd
  go_wp2_with fail
  with_reducible refine Calls.mono HD.out ?_
  rintro e x1 ⟨rfl, hd1, hk1⟩
  have hA := hk1.blk HA.out (by omega)
  have hK := HK.out.trans' hk1 (fun i hi e => by have := HRA.out; omega)
  have HA := Lib.hid hA
  have HK := Lib.hid hK
  have hx1 := hd1.lt
  clear HD hA hK hk1
  rw [hS9] at hd1
  generalize left9 l = L9 at *
  have hdz : (f9 l).data = [] := rfl
  generalize hF9 : f9 l = F9 at *
  clear hF9
  obtain ⟨kind, src, dst, prio, msg, off, len, total, num, data⟩ := F9
  dsimp only at hdz
  subst hdz
  unfold fv fcs at *
  dsimp only [List.length_nil] at *
  obtain ⟨s9, c9, hRB, hS9s, hc9, hzz⟩ := hd1
  clear hzz
  (try dsimp only)
  go_upto_region 3 with fail
  have hF1 : Blk (x1.alloc (.cells #[.int .i64 kind, .int .i64 src, .int .i64 dst, .int .i64 prio, .int .u64 (msg : Int), .int .i64 off, .int .i64 len, .int .i64 total, .int .i64 num, .slice none 0 0] 25)) x1.heap.size [.int .i64 kind, .int .i64 src, .int .i64 dst, .int .i64 prio, .int .u64 (msg : Int), .int .i64 off, .int .i64 len, .int .i64 total, .int .i64 num, .slice none 0 0] 25 := Blk.new x1 _ _
  have kz : Kept (fun _ => False) x1 (x1.alloc (.cells #[.int .i64 kind, .int .i64 src, .int .i64 dst, .int .i64 prio, .int .u64 (msg : Int), .int .i64 off, .int .i64 len, .int .i64 total, .int .i64 num, .slice none 0 0] 25)) := (Kept.refl _ x1).alloc _
  generalize x1.alloc (.cells #[.int .i64 kind, .int .i64 src, .int .i64 dst, .int .i64 prio, .int .u64 (msg : Int), .int .i64 off, .int .i64 len, .int .i64 total, .int .i64 num, .slice none 0 0] 25) = z1 at *
  have hRB1 := kz.blk hRB (fun f => f)
  have hA1 := kz.blk HA.out (fun f => f)
  have hK1 := HK.out.trans kz
  have hS1 := hS9s.kept kz
  have hfa := src_lt hS9s
  generalize hfb : x1.heap.size = fb at *
  have hfra : ra + 1 < fb := hx1
  have HFA := Lib.hid hfa
  have HFB := Lib.hid hfb
  have HKx := Lib.hid hK1
  have HSx := Lib.hid hS1
  have HAx := Lib.hid hA1
  have HRx := Lib.hid hRB1
  have HFx := Lib.hid hF1
  have d0 := hRB1.cell (o := 0) rfl
  have d1 := hF1.cell (o := 9) rfl
  have d2 := hF1.frozen 9
  clear kz hRB hS9s hx1 hfa hfb hK1 hS1 hA1 hRB1 hF1
  go_upto_region 4 with fail
  have hfa := HFA.out
  have hfb := HFB.out
  have hK1 := HKx.out
  have hS1 := HSx.out
  have hA1 := HAx.out
  have hRB1 := HRx.out
  have hF1 := HFx.out
  have hF2 := hF1.set 9 (.slice s9 L9.length c9)
  have hRB2 := hRB1.far (p := fb) (by omega) 9 (.slice s9 L9.length c9)
  have hA2 := hA1.far (p := fb) (by omega) 9 (.slice s9 L9.length c9)
  have hK2 := hK1.set (b := fb) (fun hi => by have := HRA.out; omega) 9 (.slice s9 L9.length c9)
  have hS2 := src_far hS1 hfa (p := fb) (Nat.le_refl _) 9 (.slice s9 L9.length c9)
  dsimp only [List.set] at hF2
  generalize z1.setCell ⟨fb, 9, none⟩ (.slice s9 L9.length c9) = z2 at *
  have HF := Lib.hid hF2.drew
  have HRB := Lib.hid hRB2.drew
  have HA := Lib.hid hA2.drew
  have HK := Lib.hid hK2.drew
  have HS9 : Hid (Byt.Src z2.drew (.slice s9 L9.length c9) L9) := Lib.hid hS2
  clear HFA HFB HKx HSx HAx HRx HFx d0 d1 d2 hF1 hRB1 hA1 hK1 hS1 hfa hF2 hRB2 hA2 hK2 hS2 hfb
  have KS := Lib.hid fun (w' : World) (k : Kept (fun _ => False) z2.drew w') => (show w'.cell? ⟨ra + 1, 1, none⟩ = some (.bool true) ∧ w'.cell? ⟨fb, 0, none⟩ = some (.int .i64 kind) ∧ w'.cell? ⟨fb, 1, none⟩ = some (.int .i64 src) ∧ w'.cell? ⟨fb, 2, none⟩ = some (.int .i64 dst) ∧ w'.cell? ⟨fb, 3, none⟩ = some (.int .i64 prio) ∧ w'.cell? ⟨fb, 4, none⟩ = some (.int .u64 (msg : Int)) ∧ w'.cell? ⟨fb, 5, none⟩ = some (.int .i64 off) ∧ w'.cell? ⟨fb, 6, none⟩ = some (.int .i64 len) ∧ w'.cell? ⟨fb, 7, none⟩ = some (.int .i64 total) ∧ w'.cell? ⟨fb, 8, none⟩ = some (.int .i64 num) ∧ w'.cell? ⟨fb, 9, none⟩ = some (.slice s9 L9.length c9) from ⟨(k.blk HRB.out (fun f => f)).cell (o := 1) rfl, ⟨(k.blk HF.out (fun f => f)).cell (o := 0) rfl, ⟨(k.blk HF.out (fun f => f)).cell (o := 1) rfl, ⟨(k.blk HF.out (fun f => f)).cell (o := 2) rfl, ⟨(k.blk HF.out (fun f => f)).cell (o := 3) rfl, ⟨(k.blk HF.out (fun f => f)).cell (o := 4) rfl, ⟨(k.blk HF.out (fun f => f)).cell (o := 5) rfl, ⟨(k.blk HF.out (fun f => f)).cell (o := 6) rfl, ⟨(k.blk HF.out (fun f => f)).cell (o := 7) rfl, ⟨(k.blk HF.out (fun f => f)).cell (o := 8) rfl, (k.blk HF.out (fun f => f)).cell (o := 9) rfl⟩⟩⟩⟩⟩⟩⟩⟩⟩⟩)
  have K0 : Hid (Kept (fun _ => False) z2.drew z2.drew) := Lib.hid (Kept.refl _ _)
  refine wp_region_held_drew (S := fun w' => w'.cell? ⟨ra + 1, 1, none⟩ = some (.bool true) ∧ w'.cell? ⟨fb, 0, none⟩ = some (.int .i64 kind) ∧ w'.cell? ⟨fb, 1, none⟩ = some (.int .i64 src) ∧ w'.cell? ⟨fb, 2, none⟩ = some (.int .i64 dst) ∧ w'.cell? ⟨fb, 3, none⟩ = some (.int .i64 prio) ∧ w'.cell? ⟨fb, 4, none⟩ = some (.int .u64 (msg : Int)) ∧ w'.cell? ⟨fb, 5, none⟩ = some (.int .i64 off) ∧ w'.cell? ⟨fb, 6, none⟩ = some (.int .i64 len) ∧ w'.cell? ⟨fb, 7, none⟩ = some (.int .i64 total) ∧ w'.cell? ⟨fb, 8, none⟩ = some (.int .i64 num) ∧ w'.cell? ⟨fb, 9, none⟩ = some (.slice s9 L9.length c9)) (by kernel_rfl) (KS.out _ K0.out) (fun hHeld => ?_)
  refine wpAnyH_take (i := 0) (oi := { dst := some 12, op := Go.Op.fieldAddr 58 (Go.Operand.tmp 4) 1, type := 0, pos := "bytes.go:89", after := #[], guard := none }) (v := ?_) rfl (by kernel_rfl) (by kernel_rfl) (by kernel_rfl) (fun _ _ _ h => h) (Or.inl ⟨by rfl, ?_⟩) (by assumption) ?_
  rotate_left 1
  focus (intro w hSw; (try dsimp only at hSw); go_simp; try with_reducible rfl)
  try simp only [Act.put, List.setIfInBounds_toArray, List.set_cons_zero, List.set_cons_succ]
  refine wpAnyH_take (i := 1) (oi := { dst := some 13, op := Go.Op.load 4 (Go.Operand.tmp 12), type := 4, pos := "bytes.go:89", after := #[{ on := 0, ground := Go.Ground.data }], guard := none }) (v := ?_) rfl (by kernel_rfl) (by kernel_rfl) (by kernel_rfl) (fun _ _ _ h => h) (Or.inl ⟨by rfl, ?_⟩) (by assumption) ?_
  rotate_left 1
  focus (intro w hSw; (try dsimp only at hSw); go_simp; try with_reducible rfl)
  try simp only [Act.put, List.setIfInBounds_toArray, List.set_cons_zero, List.set_cons_succ]
  refine wpAnyH_take (i := 2) (oi := { dst := some 14, op := Go.Op.move (Go.Operand.tmp 13), type := 4, pos := "bytes.go:89", after := #[{ on := 1, ground := Go.Ground.data }], guard := none }) (v := ?_) rfl (by kernel_rfl) (by kernel_rfl) (by kernel_rfl) (fun _ _ _ h => h) (Or.inl ⟨by rfl, ?_⟩) (by assumption) ?_
  rotate_left 1
  focus (intro w hSw; (try dsimp only at hSw); go_simp; try with_reducible rfl)
  try simp only [Act.put, List.setIfInBounds_toArray, List.set_cons_zero, List.set_cons_succ]
  refine wpAnyH_take (i := 3) (oi := { dst := some 15, op := Go.Op.move (Go.Operand.tmp 0), type := 23, pos := "bytes.go:89", after := #[{ on := 2, ground := Go.Ground.guard }], guard := some (2, false) }) (v := undef) rfl (by kernel_rfl) (by kernel_rfl) (by kernel_rfl) (fun _ _ _ h => h) (Or.inr ⟨by rfl, rfl⟩) (by assumption) ?_
  try simp only [Act.put, List.setIfInBounds_toArray, List.set_cons_zero, List.set_cons_succ]
  refine wpAnyH_take (i := 4) (oi := { dst := some 16, op := Go.Op.slice 23 (Go.Operand.tmp 15) none (some (Go.Operand.const (Go.Value.int Go.IntKind.i64 26))) none, type := 23, pos := "bytes.go:89", after := #[{ on := 3, ground := Go.Ground.data }, { on := 2, ground := Go.Ground.guard }], guard := some (2, false) }) (v := undef) rfl (by kernel_rfl) (by kernel_rfl) (by kernel_rfl) (fun _ _ _ h => h) (Or.inr ⟨by rfl, rfl⟩) (by assumption) ?_
  try simp only [Act.put, List.setIfInBounds_toArray, List.set_cons_zero, List.set_cons_succ]
  refine wpAnyH_take (i := 6) (oi := { dst := some 18, op := Go.Op.move (Go.Operand.tmp 0), type := 23, pos := "bytes.go:89", after := #[{ on := 2, ground := Go.Ground.guard }], guard := some (2, false) }) (v := undef) rfl (by kernel_rfl) (by kernel_rfl) (by kernel_rfl) (fun _ _ _ h => h) (Or.inr ⟨by rfl, rfl⟩) (by assumption) ?_
  try simp only [Act.put, List.setIfInBounds_toArray, List.set_cons_zero, List.set_cons_succ]
  refine wpAnyH_take (i := 7) (oi := { dst := some 19, op := Go.Op.indexAddr 23 (Go.Operand.tmp 18) (Go.Operand.const (Go.Value.int Go.IntKind.i64 3)), type := 0, pos := "bytes.go:89", after := #[{ on := 6, ground := Go.Ground.data }, { on := 2, ground := Go.Ground.guard }], guard := some (2, false) }) (v := undef) rfl (by kernel_rfl) (by kernel_rfl) (by kernel_rfl) (fun _ _ _ h => h) (Or.inr ⟨by rfl, rfl⟩) (by assumption) ?_
  try simp only [Act.put, List.setIfInBounds_toArray, List.set_cons_zero, List.set_cons_succ]
  refine wpAnyH_take (i := 8) (oi := { dst := some 20, op := Go.Op.load 5 (Go.Operand.tmp 19), type := 5, pos := "bytes.go:89", after := #[{ on := 7, ground := Go.Ground.data }, { on := 2, ground := Go.Ground.guard }], guard := some (2, false) }) (v := undef) rfl (by kernel_rfl) (by kernel_rfl) (by kernel_rfl) (fun _ _ _ h => h) (Or.inr ⟨by rfl, rfl⟩) (by assumption) ?_
  try simp only [Act.put, List.setIfInBounds_toArray, List.set_cons_zero, List.set_cons_succ]
  refine wpAnyH_take (i := 5) (oi := { dst := some 17, op := Go.Op.call { callee := Go.Callee.value (Go.Operand.func 25), args := #[Go.Operand.tmp 16], argTypes := #[23] }, type := 5, pos := "bytes.go:89", after := #[{ on := 4, ground := Go.Ground.data }, { on := 2, ground := Go.Ground.chain }, { on := 2, ground := Go.Ground.guard }], guard := some (2, false) }) (v := undef) rfl (by kernel_rfl) (by kernel_rfl) (by kernel_rfl) (fun _ _ _ h => h) (Or.inr ⟨by rfl, rfl⟩) (by assumption) ?_
  try simp only [Act.put, List.setIfInBounds_toArray, List.set_cons_zero, List.set_cons_succ]
  refine wpAnyH_take (i := 9) (oi := { dst := some 21, op := Go.Op.binOp Go.BinOp.neq 5 (Go.Operand.tmp 17) (Go.Operand.tmp 20) 5, type := 4, pos := "bytes.go:89", after := #[{ on := 5, ground := Go.Ground.data }, { on := 8, ground := Go.Ground.data }, { on := 2, ground := Go.Ground.guard }], guard := some (2, false) }) (v := undef) rfl (by kernel_rfl) (by kernel_rfl) (by kernel_rfl) (fun _ _ _ h => h) (Or.inr ⟨by rfl, rfl⟩) (by assumption) ?_
  try simp only [Act.put, List.setIfInBounds_toArray, List.set_cons_zero, List.set_cons_succ]
  refine wpAnyH_take (i := 10) (oi := { dst := some 22, op := Go.Op.pick (Go.Operand.tmp 14) (Go.Operand.const (Go.Value.bool true)) (Go.Operand.tmp 21), type := 4, pos := "bytes.go:89", after := #[{ on := 2, ground := Go.Ground.data }, { on := 9, ground := Go.Ground.data }], guard := none }) (v := ?_) rfl (by kernel_rfl) (by kernel_rfl) (by kernel_rfl) (fun _ _ _ h => h) (Or.inl ⟨by rfl, ?_⟩) (by assumption) ?_
  rotate_left 1
  focus (intro w hSw; (try dsimp only at hSw); go_simp; try with_reducible rfl)
  try simp only [Act.put, List.setIfInBounds_toArray, List.set_cons_zero, List.set_cons_succ]
  refine wpAnyH_take (i := 11) (oi := { dst := some 23, op := Go.Op.move (Go.Operand.tmp 22), type := 4, pos := "bytes.go:89", after := #[{ on := 10, ground := Go.Ground.data }, { on := 5, ground := Go.Ground.chain }], guard := none }) (v := ?_) rfl (by kernel_rfl) (by kernel_rfl) (by kernel_rfl) (fun _ _ _ h => h) (Or.inl ⟨by rfl, ?_⟩) (by assumption) ?_
  rotate_left 1
  focus (intro w hSw; (try dsimp only at hSw); go_simp; try with_reducible rfl)
  try simp only [Act.put, List.setIfInBounds_toArray, List.set_cons_zero, List.set_cons_succ]
  refine wpAnyH_take (i := 12) (oi := { dst := some 24, op := Go.Op.load 25 (Go.Operand.tmp 5), type := 25, pos := "bytes.go:89", after := #[{ on := 11, ground := Go.Ground.guard }], guard := some (11, false) }) (v := undef) rfl (by kernel_rfl) (by kernel_rfl) (by kernel_rfl) (fun _ _ _ h => h) (Or.inr ⟨by rfl, rfl⟩) (by assumption) ?_
  try simp only [Act.put, List.setIfInBounds_toArray, List.set_cons_zero, List.set_cons_succ]
  refine wpAnyH_take (i := 13) (oi := { dst := some 25, op := Go.Op.call { callee := Go.Callee.value (Go.Operand.func 12), args := #[Go.Operand.tmp 24], argTypes := #[25] }, type := 27, pos := "bytes.go:89", after := #[{ on := 12, ground := Go.Ground.data }, { on := 11, ground := Go.Ground.chain }, { on := 11, ground := Go.Ground.guard }], guard := some (11, false) }) (v := undef) rfl (by kernel_rfl) (by kernel_rfl) (by kernel_rfl) (fun _ _ _ h => h) (Or.inr ⟨by rfl, rfl⟩) (by assumption) ?_
  try simp only [Act.put, List.setIfInBounds_toArray, List.set_cons_zero, List.set_cons_succ]
  refine wpAnyH_take (i := 14) (oi := { dst := some 26, op := Go.Op.binOp Go.BinOp.neq 27 (Go.Operand.tmp 25) (Go.Operand.const (Go.Value.int Go.IntKind.i64 0)) 27, type := 4, pos := "bytes.go:89", after := #[{ on := 13, ground := Go.Ground.data }, { on := 11, ground := Go.Ground.guard }], guard := some (11, false) }) (v := undef) rfl (by kernel_rfl) (by kernel_rfl) (by kernel_rfl) (fun _ _ _ h => h) (Or.inr ⟨by rfl, rfl⟩) (by assumption) ?_
  try simp only [Act.put, List.setIfInBounds_toArray, List.set_cons_zero, List.set_cons_succ]
  refine wpAnyH_take (i := 15) (oi := { dst := some 27, op := Go.Op.pick (Go.Operand.tmp 23) (Go.Operand.const (Go.Value.bool true)) (Go.Operand.tmp 26), type := 4, pos := "bytes.go:89", after := #[{ on := 11, ground := Go.Ground.data }, { on := 14, ground := Go.Ground.data }], guard := none }) (v := ?_) rfl (by kernel_rfl) (by kernel_rfl) (by kernel_rfl) (fun _ _ _ h => h) (Or.inl ⟨by rfl, ?_⟩) (by assumption) ?_
  rotate_left 1
  focus (intro w hSw; (try dsimp only at hSw); go_simp; try with_reducible rfl)
  try simp only [Act.put, List.setIfInBounds_toArray, List.set_cons_zero, List.set_cons_succ]
  refine wpAnyH_done (by kernel_rfl) ?_ _
  have hAz := K0.out.blk HA.out (fun f => f)
  have hFz := K0.out.blk HF.out (fun f => f)
  have hKz := HK.out.trans K0.out
  have hSz := HS9.out.kept K0.out
  generalize z2.drew = wz at *
  have HAZ := Lib.hid hAz
  have HKZ := Lib.hid hKz
  have HSZ := Lib.hid hSz
  have u0 := hAz.cell (o := 0) rfl
  have v0 := hAz.frozen 0
  have u1 := hAz.cell (o := 1) rfl
  have v1 := hAz.frozen 1
  have u2 := hAz.cell (o := 2) rfl
  have v2 := hAz.frozen 2
  have u3 := hAz.cell (o := 3) rfl
  have v3 := hAz.frozen 3
  have u4 := hAz.cell (o := 4) rfl
  have v4 := hAz.frozen 4
  have u5 := hAz.cell (o := 5) rfl
  have v5 := hAz.frozen 5
  have u6 := hAz.cell (o := 6) rfl
  have v6 := hAz.frozen 6
  have u7 := hAz.cell (o := 7) rfl
  have v7 := hAz.frozen 7
  have u8 := hAz.cell (o := 8) rfl
  have v8 := hAz.frozen 8
  have u9 := hAz.cell (o := 9) rfl
  have v9 := hAz.frozen 9
  clear hAz hFz hKz hSz HF HRB HA HK HS9 KS K0 hHeld
  go_wp2_with fail
  have hZ := blk10 HAZ.out (.int .i64 0) (.int .i64 0) (.int .i64 0) (.int .i64 0) (.int .u64 0) (.int .i64 0) (.int .i64 0) (.int .i64 0) (.int .i64 0) (.slice none 0 0)
  have kZ := kept10 wz ra (.int .i64 0) (.int .i64 0) (.int .i64 0) (.int .i64 0) (.int .u64 0) (.int .i64 0) (.int .i64 0) (.int .i64 0) (.int .i64 0) (.slice none 0 0)
  unfold set10 at hZ kZ
  have hKK := HKZ.out.trans' kZ (fun i hi e => by have := HRA.out; omega)
  generalize (((((((((wz.setCell ⟨ra, 0, none⟩ (.int .i64 0)).setCell ⟨ra, 1, none⟩ (.int .i64 0)).setCell ⟨ra, 2, none⟩ (.int .i64 0)).setCell ⟨ra, 3, none⟩ (.int .i64 0)).setCell ⟨ra, 4, none⟩ (.int .u64 0)).setCell ⟨ra, 5, none⟩ (.int .i64 0)).setCell ⟨ra, 6, none⟩ (.int .i64 0)).setCell ⟨ra, 7, none⟩ (.int .i64 0)).setCell ⟨ra, 8, none⟩ (.int .i64 0)).setCell ⟨ra, 9, none⟩ (.slice none 0 0) = z9 at *
  (try simp only [Exit.inBlock, Exit.then])
  refine bodyPost_ret (results_frame2 rfl _ _ ra rfl hZ) rfl ?_
  exact ⟨rfl, hKK⟩
set_option maxHeartbeats 8000000 in
set_option maxRecDepth 100000 in
theorem read_sum {w : World} {s : Option Addr} {c : Nat} {l : List UInt8} (h : Byt.Src w (.slice s l.length c) l) (hc : c ≤ 9223372036854775807) (hl : l.length ≤ 1000000) (h26 : 26 ≤ l.length) (hs : sumTo l 26 ≠ (l.getD 3 0).toNat) :
    Calls Try.prog 32 #[.slice s l.length c] w (Ans w (.tuple #[fv zf none 0, .bool false])) := by
  have HSR := Lib.hid h
  have hF9 := f9_long h26
  have hL9 := left9_long h26
  have hS9 := sh9_long h26
  have hlc : l.length ≤ c := by obtain ⟨_, _, e, hc, _⟩ := h; cases e; exact hc
  have hne : ((sumTo l 26 : Nat) : Int) ≠ ((l.getD 3 0).toNat : Int) := by omega
  obtain ⟨gb, go, rfl, hgb, _, hcell⟩ := src_addr h (by omega)
  have hsum := fun (w' : World) (k : Kept (fun _ => False) w w') => sum_any (by rw [show (l.take 26).length = 26 by rw [List.length_take]; omega]; exact src_pre (h.kept k) rfl h26) (by rw [List.length_take]; omega)
  rw [show (l.take 26).length = 26 by rw [List.length_take]; omega, sumTo_take] at hsum
  have hb3 := hcell 3 (by omega)
  rw [show l[3]'(by omega) = l.getD 3 0 by simp [List.getD, List.getElem?_eq_getElem (show 3 < l.length by omega)]] at hb3
  generalize (l.getD 3 0).toNat = y3 at *
  generalize sumTo l 26 = x3 at *
  have HSUM := Lib.hid hsum
  have HB3 := Lib.hid (show ∀ w', Kept (fun _ => False) w w' → w'.cell? ⟨gb, go + 3, none⟩ = some (.int .u8 (y3 : Int)) from fun w' k => (keptAt k hgb (fun f => f) _).trans hb3)
  clear hsum hcell hb3
  clear h
  go_enter Try.func32, Try.ntmps32
  go_upto_region 2 with fail
  have hA : Blk (w.alloc (.cells #[.int .i64 0, .int .i64 0, .int .i64 0, .int .i64 0, .int .u64 0, .int .i64 0, .int .i64 0, .int .i64 0, .int .i64 0, .slice none 0 0] 25)) w.heap.size [.int .i64 0, .int .i64 0, .int .i64 0, .int .i64 0, .int .u64 0, .int .i64 0, .int .i64 0, .int .i64 0, .int .i64 0, .slice none 0 0] 25 := Blk.new w _ _
  have kA : Kept (fun _ => False) w (w.alloc (.cells #[.int .i64 0, .int .i64 0, .int .i64 0, .int .i64 0, .int .u64 0, .int .i64 0, .int .i64 0, .int .i64 0, .int .i64 0, .slice none 0 0] 25)) := (Kept.refl _ w).alloc _
  have sA : (w.alloc (.cells #[.int .i64 0, .int .i64 0, .int .i64 0, .int .i64 0, .int .u64 0, .int .i64 0, .int .i64 0, .int .i64 0, .int .i64 0, .slice none 0 0] 25)).heap.size = w.heap.size + 1 := by simp
  generalize w.alloc (.cells #[.int .i64 0, .int .i64 0, .int .i64 0, .int .i64 0, .int .u64 0, .int .i64 0, .int .i64 0, .int .i64 0, .int .i64 0, .slice none 0 0] 25) = wa at *
  try rw [sA]
  have hR1 : Blk (wa.alloc (.cells #[.slice (some ⟨gb, go, none⟩) l.length c, .bool false] 58)) wa.heap.size [.slice (some ⟨gb, go, none⟩) l.length c, .bool false] 58 := Blk.new wa _ _
  have hA1 : Blk (wa.alloc (.cells #[.slice (some ⟨gb, go, none⟩) l.length c, .bool false] 58)) w.heap.size [.int .i64 0, .int .i64 0, .int .i64 0, .int .i64 0, .int .u64 0, .int .i64 0, .int .i64 0, .int .i64 0, .int .i64 0, .slice none 0 0] 25 := hA.old _
  have kB : Kept (fun _ => False) w (wa.alloc (.cells #[.slice (some ⟨gb, go, none⟩) l.length c, .bool false] 58)) := kA.alloc _
  rw [sA] at hR1
  generalize hra : w.heap.size = ra at *
  have HRA := Lib.hid hra
  have hR2 := hR1
  have hA2 := hA1
  have kC := kB
  generalize wa.alloc (.cells #[.slice (some ⟨gb, go, none⟩) l.length c, .bool false] 58) = z0 at *
  have hrd : RdV z0 (ra + 1) l false := ⟨_, _, hR2, HSR.out.kept kC, hc, fun a e hn => by
    obtain ⟨s', c', e', _, h2, _⟩ := HSR.out
    cases e'
    rcases h2 with h2 | ⟨b, q, e2, hb, _⟩
    · exact absurd h2 hn
    · rw [e2] at e; cases e; show b < ra + 1; omega⟩
  have HD := Lib.hid (head_any hrd)
  have HA := Lib.hid hA2
  have HK := Lib.hid kC
  clear hA kA sA hR1 hA1 kB hra hR2 hA2 kC hrd
  go_wp2_with fail
  with_reducible refine Calls.mono HD.out ?_
  rintro e x1 ⟨rfl, hd1, hk1⟩
  have hA := hk1.blk HA.out (by omega)
  have hK := HK.out.trans' hk1 (fun i hi e => by have := HRA.out; omega)
  have HA := Lib.hid hA
  have HK := Lib.hid hK
  have hx1 := hd1.lt
  clear HD hA hK hk1
  rw [hS9, hL9] at hd1
  rw [hF9]
  have hdat : (flds l).data = l.drop 26 := rfl
  clear hS9 hL9 hF9
  generalize l.drop 26 = L9 at *
  generalize flds l = F9 at *
  obtain ⟨kind, src, dst, prio, msg, off, len, total, num, data⟩ := F9
  clear hdat
  unfold fv fcs at *
  dsimp only [List.length_nil] at *
  obtain ⟨s9, c9, hRB, hS9s, hc9, hzz⟩ := hd1
  clear hzz
  (try dsimp only)
  go_upto_region 3 with fail
  have hF1 : Blk (x1.alloc (.cells #[.int .i64 kind, .int .i64 src, .int .i64 dst, .int .i64 prio, .int .u64 (msg : Int), .int .i64 off, .int .i64 len, .int .i64 total, .int .i64 num, .slice none 0 0] 25)) x1.heap.size [.int .i64 kind, .int .i64 src, .int .i64 dst, .int .i64 prio, .int .u64 (msg : Int), .int .i64 off, .int .i64 len, .int .i64 total, .int .i64 num, .slice none 0 0] 25 := Blk.new x1 _ _
  have kz : Kept (fun _ => False) x1 (x1.alloc (.cells #[.int .i64 kind, .int .i64 src, .int .i64 dst, .int .i64 prio, .int .u64 (msg : Int), .int .i64 off, .int .i64 len, .int .i64 total, .int .i64 num, .slice none 0 0] 25)) := (Kept.refl _ x1).alloc _
  generalize x1.alloc (.cells #[.int .i64 kind, .int .i64 src, .int .i64 dst, .int .i64 prio, .int .u64 (msg : Int), .int .i64 off, .int .i64 len, .int .i64 total, .int .i64 num, .slice none 0 0] 25) = z1 at *
  have hRB1 := kz.blk hRB (fun f => f)
  have hA1 := kz.blk HA.out (fun f => f)
  have hK1 := HK.out.trans kz
  have hS1 := hS9s.kept kz
  have hfa := src_lt hS9s
  generalize hfb : x1.heap.size = fb at *
  have hfra : ra + 1 < fb := hx1
  have HFA := Lib.hid hfa
  have HFB := Lib.hid hfb
  have HKx := Lib.hid hK1
  have HSx := Lib.hid hS1
  have HAx := Lib.hid hA1
  have HRx := Lib.hid hRB1
  have HFx := Lib.hid hF1
  have d0 := hRB1.cell (o := 0) rfl
  have d1 := hF1.cell (o := 9) rfl
  have d2 := hF1.frozen 9
  clear kz hRB hS9s hx1 hfa hfb hK1 hS1 hA1 hRB1 hF1
  go_upto_region 4 with fail
  have hfa := HFA.out
  have hfb := HFB.out
  have hK1 := HKx.out
  have hS1 := HSx.out
  have hA1 := HAx.out
  have hRB1 := HRx.out
  have hF1 := HFx.out
  have hF2 := hF1.set 9 (.slice s9 L9.length c9)
  have hRB2 := hRB1.far (p := fb) (by omega) 9 (.slice s9 L9.length c9)
  have hA2 := hA1.far (p := fb) (by omega) 9 (.slice s9 L9.length c9)
  have hK2 := hK1.set (b := fb) (fun hi => by have := HRA.out; omega) 9 (.slice s9 L9.length c9)
  have hS2 := src_far hS1 hfa (p := fb) (Nat.le_refl _) 9 (.slice s9 L9.length c9)
  dsimp only [List.set] at hF2
  generalize z1.setCell ⟨fb, 9, none⟩ (.slice s9 L9.length c9) = z2 at *
  have HF := Lib.hid hF2.drew
  have HRB := Lib.hid hRB2.drew
  have HA := Lib.hid hA2.drew
  have HK := Lib.hid hK2.drew
  have HS9 : Hid (Byt.Src z2.drew (.slice s9 L9.length c9) L9) := Lib.hid hS2
  clear HFA HFB HKx HSx HAx HRx HFx d0 d1 d2 hF1 hRB1 hA1 hK1 hS1 hfa hF2 hRB2 hA2 hK2 hS2 hfb
  have KS := Lib.hid fun (w' : World) (k : Kept (fun _ => False) z2.drew w') => (show w'.cell? ⟨gb, go + 3, none⟩ = some (.int .u8 (y3 : Int)) ∧ w'.cell? ⟨ra + 1, 1, none⟩ = some (.bool false) ∧ w'.cell? ⟨fb, 0, none⟩ = some (.int .i64 kind) ∧ w'.cell? ⟨fb, 1, none⟩ = some (.int .i64 src) ∧ w'.cell? ⟨fb, 2, none⟩ = some (.int .i64 dst) ∧ w'.cell? ⟨fb, 3, none⟩ = some (.int .i64 prio) ∧ w'.cell? ⟨fb, 4, none⟩ = some (.int .u64 (msg : Int)) ∧ w'.cell? ⟨fb, 5, none⟩ = some (.int .i64 off) ∧ w'.cell? ⟨fb, 6, none⟩ = some (.int .i64 len) ∧ w'.cell? ⟨fb, 7, none⟩ = some (.int .i64 total) ∧ w'.cell? ⟨fb, 8, none⟩ = some (.int .i64 num) ∧ w'.cell? ⟨fb, 9, none⟩ = some (.slice s9 L9.length c9) from ⟨HB3.out w' (HK.out.trans k), ⟨(k.blk HRB.out (fun f => f)).cell (o := 1) rfl, ⟨(k.blk HF.out (fun f => f)).cell (o := 0) rfl, ⟨(k.blk HF.out (fun f => f)).cell (o := 1) rfl, ⟨(k.blk HF.out (fun f => f)).cell (o := 2) rfl, ⟨(k.blk HF.out (fun f => f)).cell (o := 3) rfl, ⟨(k.blk HF.out (fun f => f)).cell (o := 4) rfl, ⟨(k.blk HF.out (fun f => f)).cell (o := 5) rfl, ⟨(k.blk HF.out (fun f => f)).cell (o := 6) rfl, ⟨(k.blk HF.out (fun f => f)).cell (o := 7) rfl, ⟨(k.blk HF.out (fun f => f)).cell (o := 8) rfl, (k.blk HF.out (fun f => f)).cell (o := 9) rfl⟩⟩⟩⟩⟩⟩⟩⟩⟩⟩⟩)
  have K0 : Hid (Kept (fun _ => False) z2.drew z2.drew) := Lib.hid (Kept.refl _ _)
  refine wp_region_held_drew (S := fun w' => w'.cell? ⟨gb, go + 3, none⟩ = some (.int .u8 (y3 : Int)) ∧ w'.cell? ⟨ra + 1, 1, none⟩ = some (.bool false) ∧ w'.cell? ⟨fb, 0, none⟩ = some (.int .i64 kind) ∧ w'.cell? ⟨fb, 1, none⟩ = some (.int .i64 src) ∧ w'.cell? ⟨fb, 2, none⟩ = some (.int .i64 dst) ∧ w'.cell? ⟨fb, 3, none⟩ = some (.int .i64 prio) ∧ w'.cell? ⟨fb, 4, none⟩ = some (.int .u64 (msg : Int)) ∧ w'.cell? ⟨fb, 5, none⟩ = some (.int .i64 off) ∧ w'.cell? ⟨fb, 6, none⟩ = some (.int .i64 len) ∧ w'.cell? ⟨fb, 7, none⟩ = some (.int .i64 total) ∧ w'.cell? ⟨fb, 8, none⟩ = some (.int .i64 num) ∧ w'.cell? ⟨fb, 9, none⟩ = some (.slice s9 L9.length c9)) (by kernel_rfl) (KS.out _ K0.out) (fun hHeld => ?_)
  have hb1 : (26 : Int) ≤ (c : Int) := by omega
  have hb2 : 26 ≤ c := by omega
  have hb3 : (3 : Int) < (l.length : Int) := by omega
  have hb4 : 3 < l.length := by omega
  have q1 : ((x3 : Int) != (y3 : Int)) = true := by rw [bne_iff_ne]; exact hne
  have q2 : (x3 != y3) = true := by rw [bne_iff_ne]; omega
  refine wpAnyH_take (i := 0) (oi := { dst := some 12, op := Go.Op.fieldAddr 58 (Go.Operand.tmp 4) 1, type := 0, pos := "bytes.go:89", after := #[], guard := none }) (v := ?_) rfl (by kernel_rfl) (by kernel_rfl) (by kernel_rfl) (fun _ _ _ h => h) (Or.inl ⟨by rfl, ?_⟩) (by assumption) ?_
  rotate_left 1
  focus (intro w hSw; (try dsimp only at hSw); go_simp; try with_reducible rfl)
  try simp only [Act.put, List.setIfInBounds_toArray, List.set_cons_zero, List.set_cons_succ]
  refine wpAnyH_take (i := 1) (oi := { dst := some 13, op := Go.Op.load 4 (Go.Operand.tmp 12), type := 4, pos := "bytes.go:89", after := #[{ on := 0, ground := Go.Ground.data }], guard := none }) (v := ?_) rfl (by kernel_rfl) (by kernel_rfl) (by kernel_rfl) (fun _ _ _ h => h) (Or.inl ⟨by rfl, ?_⟩) (by assumption) ?_
  rotate_left 1
  focus (intro w hSw; (try dsimp only at hSw); go_simp; try with_reducible rfl)
  try simp only [Act.put, List.setIfInBounds_toArray, List.set_cons_zero, List.set_cons_succ]
  refine wpAnyH_take (i := 2) (oi := { dst := some 14, op := Go.Op.move (Go.Operand.tmp 13), type := 4, pos := "bytes.go:89", after := #[{ on := 1, ground := Go.Ground.data }], guard := none }) (v := ?_) rfl (by kernel_rfl) (by kernel_rfl) (by kernel_rfl) (fun _ _ _ h => h) (Or.inl ⟨by rfl, ?_⟩) (by assumption) ?_
  rotate_left 1
  focus (intro w hSw; (try dsimp only at hSw); go_simp; try with_reducible rfl)
  try simp only [Act.put, List.setIfInBounds_toArray, List.set_cons_zero, List.set_cons_succ]
  refine wpAnyH_take (i := 3) (oi := { dst := some 15, op := Go.Op.move (Go.Operand.tmp 0), type := 23, pos := "bytes.go:89", after := #[{ on := 2, ground := Go.Ground.guard }], guard := some (2, false) }) (v := ?_) rfl (by kernel_rfl) (by kernel_rfl) (by kernel_rfl) (fun _ _ _ h => h) (Or.inl ⟨by rfl, ?_⟩) (by assumption) ?_
  rotate_left 1
  focus (intro w hSw; (try dsimp only at hSw); go_simp; try with_reducible rfl)
  try simp only [Act.put, List.setIfInBounds_toArray, List.set_cons_zero, List.set_cons_succ]
  refine wpAnyH_take (i := 4) (oi := { dst := some 16, op := Go.Op.slice 23 (Go.Operand.tmp 15) none (some (Go.Operand.const (Go.Value.int Go.IntKind.i64 26))) none, type := 23, pos := "bytes.go:89", after := #[{ on := 3, ground := Go.Ground.data }, { on := 2, ground := Go.Ground.guard }], guard := some (2, false) }) (v := ?_) rfl (by kernel_rfl) (by kernel_rfl) (by kernel_rfl) (fun _ _ _ h => h) (Or.inl ⟨by rfl, ?_⟩) (by assumption) ?_
  rotate_left 1
  focus (intro w hSw; (try dsimp only at hSw); go_simp; try with_reducible rfl)
  try simp only [Act.put, List.setIfInBounds_toArray, List.set_cons_zero, List.set_cons_succ]
  refine wpAnyH_take (i := 6) (oi := { dst := some 18, op := Go.Op.move (Go.Operand.tmp 0), type := 23, pos := "bytes.go:89", after := #[{ on := 2, ground := Go.Ground.guard }], guard := some (2, false) }) (v := ?_) rfl (by kernel_rfl) (by kernel_rfl) (by kernel_rfl) (fun _ _ _ h => h) (Or.inl ⟨by rfl, ?_⟩) (by assumption) ?_
  rotate_left 1
  focus (intro w hSw; (try dsimp only at hSw); go_simp; try with_reducible rfl)
  try simp only [Act.put, List.setIfInBounds_toArray, List.set_cons_zero, List.set_cons_succ]
  refine wpAnyH_take (i := 7) (oi := { dst := some 19, op := Go.Op.indexAddr 23 (Go.Operand.tmp 18) (Go.Operand.const (Go.Value.int Go.IntKind.i64 3)), type := 0, pos := "bytes.go:89", after := #[{ on := 6, ground := Go.Ground.data }, { on := 2, ground := Go.Ground.guard }], guard := some (2, false) }) (v := ?_) rfl (by kernel_rfl) (by kernel_rfl) (by kernel_rfl) (fun _ _ _ h => h) (Or.inl ⟨by rfl, ?_⟩) (by assumption) ?_
  rotate_left 1
  focus (intro w hSw; (try dsimp only at hSw); go_simp; try with_reducible rfl)
  try simp only [Act.put, List.setIfInBounds_toArray, List.set_cons_zero, List.set_cons_succ]
  refine wpAnyH_take (i := 8) (oi := { dst := some 20, op := Go.Op.load 5 (Go.Operand.tmp 19), type := 5, pos := "bytes.go:89", after := #[{ on := 7, ground := Go.Ground.data }, { on := 2, ground := Go.Ground.guard }], guard := some (2, false) }) (v := ?_) rfl (by kernel_rfl) (by kernel_rfl) (by kernel_rfl) (fun _ _ _ h => h) (Or.inl ⟨by rfl, ?_⟩) (by assumption) ?_
  rotate_left 1
  focus (intro w hSw; (try dsimp only at hSw); go_simp; try with_reducible rfl)
  try simp only [Act.put, List.setIfInBounds_toArray, List.set_cons_zero, List.set_cons_succ]
  refine wpAnyH_ready (rs := [5]) (by kernel_rfl) (by simp) ?_
  refine AllReadyH.cons (o := { dst := some 17, op := Go.Op.call { callee := Go.Callee.value (Go.Operand.func 25), args := #[Go.Operand.tmp 16], argTypes := #[23] }, type := 5, pos := "bytes.go:89", after := #[{ on := 4, ground := Go.Ground.data }, { on := 2, ground := Go.Ground.chain }, { on := 2, ground := Go.Ground.guard }], guard := some (2, false) }) rfl (fun K hK => ?_) AllReadyH.nil
  go_simp
  with_reducible refine Calls.mono (HSUM.out _ (HK.out.trans K0.out)) ?_
  rintro e y1 ⟨rfl, rfl⟩
  refine hK.out _ _ (KS.out _ K0.out) (fun hHeld => ?_)
  clear hK K
  try simp only [Act.put, List.setIfInBounds_toArray, List.set_cons_zero, List.set_cons_succ]
  refine wpAnyH_take (i := 9) (oi := { dst := some 21, op := Go.Op.binOp Go.BinOp.neq 5 (Go.Operand.tmp 17) (Go.Operand.tmp 20) 5, type := 4, pos := "bytes.go:89", after := #[{ on := 5, ground := Go.Ground.data }, { on := 8, ground := Go.Ground.data }, { on := 2, ground := Go.Ground.guard }], guard := some (2, false) }) (v := ?_) rfl (by kernel_rfl) (by kernel_rfl) (by kernel_rfl) (fun _ _ _ h => h) (Or.inl ⟨by rfl, ?_⟩) (by assumption) ?_
  rotate_left 1
  focus (intro w hSw; (try dsimp only at hSw); go_simp; try with_reducible rfl)
  try simp only [Act.put, List.setIfInBounds_toArray, List.set_cons_zero, List.set_cons_succ]
  refine wpAnyH_take (i := 10) (oi := { dst := some 22, op := Go.Op.pick (Go.Operand.tmp 14) (Go.Operand.const (Go.Value.bool true)) (Go.Operand.tmp 21), type := 4, pos := "bytes.go:89", after := #[{ on := 2, ground := Go.Ground.data }, { on := 9, ground := Go.Ground.data }], guard := none }) (v := ?_) rfl (by kernel_rfl) (by kernel_rfl) (by kernel_rfl) (fun _ _ _ h => h) (Or.inl ⟨by rfl, ?_⟩) (by assumption) ?_
  rotate_left 1
  focus (intro w hSw; (try dsimp only at hSw); go_simp; try with_reducible rfl)
  try simp only [Act.put, List.setIfInBounds_toArray, List.set_cons_zero, List.set_cons_succ]
  refine wpAnyH_take (i := 11) (oi := { dst := some 23, op := Go.Op.move (Go.Operand.tmp 22), type := 4, pos := "bytes.go:89", after := #[{ on := 10, ground := Go.Ground.data }, { on := 5, ground := Go.Ground.chain }], guard := none }) (v := ?_) rfl (by kernel_rfl) (by kernel_rfl) (by kernel_rfl) (fun _ _ _ h => h) (Or.inl ⟨by rfl, ?_⟩) (by assumption) ?_
  rotate_left 1
  focus (intro w hSw; (try dsimp only at hSw); go_simp; try with_reducible rfl)
  try simp only [Act.put, List.setIfInBounds_toArray, List.set_cons_zero, List.set_cons_succ]
  refine wpAnyH_take (i := 12) (oi := { dst := some 24, op := Go.Op.load 25 (Go.Operand.tmp 5), type := 25, pos := "bytes.go:89", after := #[{ on := 11, ground := Go.Ground.guard }], guard := some (11, false) }) (v := undef) rfl (by kernel_rfl) (by kernel_rfl) (by kernel_rfl) (fun _ _ _ h => h) (Or.inr ⟨by rfl, rfl⟩) (by assumption) ?_
  try simp only [Act.put, List.setIfInBounds_toArray, List.set_cons_zero, List.set_cons_succ]
  refine wpAnyH_take (i := 13) (oi := { dst := some 25, op := Go.Op.call { callee := Go.Callee.value (Go.Operand.func 12), args := #[Go.Operand.tmp 24], argTypes := #[25] }, type := 27, pos := "bytes.go:89", after := #[{ on := 12, ground := Go.Ground.data }, { on := 11, ground := Go.Ground.chain }, { on := 11, ground := Go.Ground.guard }], guard := some (11, false) }) (v := undef) rfl (by kernel_rfl) (by kernel_rfl) (by kernel_rfl) (fun _ _ _ h => h) (Or.inr ⟨by rfl, rfl⟩) (by assumption) ?_
  try simp only [Act.put, List.setIfInBounds_toArray, List.set_cons_zero, List.set_cons_succ]
  refine wpAnyH_take (i := 14) (oi := { dst := some 26, op := Go.Op.binOp Go.BinOp.neq 27 (Go.Operand.tmp 25) (Go.Operand.const (Go.Value.int Go.IntKind.i64 0)) 27, type := 4, pos := "bytes.go:89", after := #[{ on := 13, ground := Go.Ground.data }, { on := 11, ground := Go.Ground.guard }], guard := some (11, false) }) (v := undef) rfl (by kernel_rfl) (by kernel_rfl) (by kernel_rfl) (fun _ _ _ h => h) (Or.inr ⟨by rfl, rfl⟩) (by assumption) ?_
  try simp only [Act.put, List.setIfInBounds_toArray, List.set_cons_zero, List.set_cons_succ]
  refine wpAnyH_take (i := 15) (oi := { dst := some 27, op := Go.Op.pick (Go.Operand.tmp 23) (Go.Operand.const (Go.Value.bool true)) (Go.Operand.tmp 26), type := 4, pos := "bytes.go:89", after := #[{ on := 11, ground := Go.Ground.data }, { on := 14, ground := Go.Ground.data }], guard := none }) (v := ?_) rfl (by kernel_rfl) (by kernel_rfl) (by kernel_rfl) (fun _ _ _ h => h) (Or.inl ⟨by rfl, ?_⟩) (by assumption) ?_
  rotate_left 1
  focus (intro w hSw; (try dsimp only at hSw); go_simp; try with_reducible rfl)
  try simp only [Act.put, List.setIfInBounds_toArray, List.set_cons_zero, List.set_cons_succ]
  refine wpAnyH_done (by kernel_rfl) ?_ _
  have hAz := K0.out.blk HA.out (fun f => f)
  have hFz := K0.out.blk HF.out (fun f => f)
  have hKz := HK.out.trans K0.out
  have hSz := HS9.out.kept K0.out
  generalize z2.drew = wz at *
  have HAZ := Lib.hid hAz
  have HKZ := Lib.hid hKz
  have HSZ := Lib.hid hSz
  have u0 := hAz.cell (o := 0) rfl
  have v0 := hAz.frozen 0
  have u1 := hAz.cell (o := 1) rfl
  have v1 := hAz.frozen 1
  have u2 := hAz.cell (o := 2) rfl
  have v2 := hAz.frozen 2
  have u3 := hAz.cell (o := 3) rfl
  have v3 := hAz.frozen 3
  have u4 := hAz.cell (o := 4) rfl
  have v4 := hAz.frozen 4
  have u5 := hAz.cell (o := 5) rfl
  have v5 := hAz.frozen 5
  have u6 := hAz.cell (o := 6) rfl
  have v6 := hAz.frozen 6
  have u7 := hAz.cell (o := 7) rfl
  have v7 := hAz.frozen 7
  have u8 := hAz.cell (o := 8) rfl
  have v8 := hAz.frozen 8
  have u9 := hAz.cell (o := 9) rfl
  have v9 := hAz.frozen 9
  clear hAz hFz hKz hSz HF HRB HA HK HS9 KS K0 hHeld
  go_wp2_with fail
  have hZ := blk10 HAZ.out (.int .i64 0) (.int .i64 0) (.int .i64 0) (.int .i64 0) (.int .u64 0) (.int .i64 0) (.int .i64 0) (.int .i64 0) (.int .i64 0) (.slice none 0 0)
  have kZ := kept10 wz ra (.int .i64 0) (.int .i64 0) (.int .i64 0) (.int .i64 0) (.int .u64 0) (.int .i64 0) (.int .i64 0) (.int .i64 0) (.int .i64 0) (.slice none 0 0)
  unfold set10 at hZ kZ
  have hKK := HKZ.out.trans' kZ (fun i hi e => by have := HRA.out; omega)
  generalize (((((((((wz.setCell ⟨ra, 0, none⟩ (.int .i64 0)).setCell ⟨ra, 1, none⟩ (.int .i64 0)).setCell ⟨ra, 2, none⟩ (.int .i64 0)).setCell ⟨ra, 3, none⟩ (.int .i64 0)).setCell ⟨ra, 4, none⟩ (.int .u64 0)).setCell ⟨ra, 5, none⟩ (.int .i64 0)).setCell ⟨ra, 6, none⟩ (.int .i64 0)).setCell ⟨ra, 7, none⟩ (.int .i64 0)).setCell ⟨ra, 8, none⟩ (.int .i64 0)).setCell ⟨ra, 9, none⟩ (.slice none 0 0) = z9 at *
  (try simp only [Exit.inBlock, Exit.then])
  refine bodyPost_ret (results_frame2 rfl _ _ ra rfl hZ) rfl ?_
  exact ⟨rfl, hKK⟩
set_option maxHeartbeats 8000000 in
set_option maxRecDepth 100000 in
theorem read_chk {w : World} {s : Option Addr} {c : Nat} {l : List UInt8} (h : Byt.Src w (.slice s l.length c) l) (hc : c ≤ 9223372036854775807) (hl : l.length ≤ 1000000) (h26 : 26 ≤ l.length) (hs : sumTo l 26 = (l.getD 3 0).toNat) (hok : ¬ Ok (flds l)) :
    Calls Try.prog 32 #[.slice s l.length c] w (Ans w (.tuple #[fv zf none 0, .bool false])) := by
  have HSR := Lib.hid h
  have hF9 := f9_long h26
  have hL9 := left9_long h26
  have hS9 := sh9_long h26
  have hlc : l.length ≤ c := by obtain ⟨_, _, e, hc, _⟩ := h; cases e; exact hc
  have heq : ((sumTo l 26 : Nat) : Int) = ((l.getD 3 0).toNat : Int) := by omega
  obtain ⟨gb, go, rfl, hgb, _, hcell⟩ := src_addr h (by omega)
  have hsum := fun (w' : World) (k : Kept (fun _ => False) w w') => sum_any (by rw [show (l.take 26).length = 26 by rw [List.length_take]; omega]; exact src_pre (h.kept k) rfl h26) (by rw [List.length_take]; omega)
  rw [show (l.take 26).length = 26 by rw [List.length_take]; omega, sumTo_take] at hsum
  have hb3 := hcell 3 (by omega)
  rw [show l[3]'(by omega) = l.getD 3 0 by simp [List.getD, List.getElem?_eq_getElem (show 3 < l.length by omega)]] at hb3
  generalize (l.getD 3 0).toNat = y3 at *
  generalize sumTo l 26 = x3 at *
  have HSUM := Lib.hid hsum
  have HB3 := Lib.hid (show ∀ w', Kept (fun _ => False) w w' → w'.cell? ⟨gb, go + 3, none⟩ = some (.int .u8 (y3 : Int)) from fun w' k => (keptAt k hgb (fun f => f) _).trans hb3)
  clear hsum hcell hb3
  have hchk := fun s c w => check_any (flds l) s c w
  rw [chk_no hok] at hchk
  have CH := Lib.hid hchk
  clear hchk
  clear h
  go_enter Try.func32, Try.ntmps32
  go_upto_region 2 with fail
  have hA : Blk (w.alloc (.cells #[.int .i64 0, .int .i64 0, .int .i64 0, .int .i64 0, .int .u64 0, .int .i64 0, .int .i64 0, .int .i64 0, .int .i64 0, .slice none 0 0] 25)) w.heap.size [.int .i64 0, .int .i64 0, .int .i64 0, .int .i64 0, .int .u64 0, .int .i64 0, .int .i64 0, .int .i64 0, .int .i64 0, .slice none 0 0] 25 := Blk.new w _ _
  have kA : Kept (fun _ => False) w (w.alloc (.cells #[.int .i64 0, .int .i64 0, .int .i64 0, .int .i64 0, .int .u64 0, .int .i64 0, .int .i64 0, .int .i64 0, .int .i64 0, .slice none 0 0] 25)) := (Kept.refl _ w).alloc _
  have sA : (w.alloc (.cells #[.int .i64 0, .int .i64 0, .int .i64 0, .int .i64 0, .int .u64 0, .int .i64 0, .int .i64 0, .int .i64 0, .int .i64 0, .slice none 0 0] 25)).heap.size = w.heap.size + 1 := by simp
  generalize w.alloc (.cells #[.int .i64 0, .int .i64 0, .int .i64 0, .int .i64 0, .int .u64 0, .int .i64 0, .int .i64 0, .int .i64 0, .int .i64 0, .slice none 0 0] 25) = wa at *
  try rw [sA]
  have hR1 : Blk (wa.alloc (.cells #[.slice (some ⟨gb, go, none⟩) l.length c, .bool false] 58)) wa.heap.size [.slice (some ⟨gb, go, none⟩) l.length c, .bool false] 58 := Blk.new wa _ _
  have hA1 : Blk (wa.alloc (.cells #[.slice (some ⟨gb, go, none⟩) l.length c, .bool false] 58)) w.heap.size [.int .i64 0, .int .i64 0, .int .i64 0, .int .i64 0, .int .u64 0, .int .i64 0, .int .i64 0, .int .i64 0, .int .i64 0, .slice none 0 0] 25 := hA.old _
  have kB : Kept (fun _ => False) w (wa.alloc (.cells #[.slice (some ⟨gb, go, none⟩) l.length c, .bool false] 58)) := kA.alloc _
  rw [sA] at hR1
  generalize hra : w.heap.size = ra at *
  have HRA := Lib.hid hra
  have hR2 := hR1
  have hA2 := hA1
  have kC := kB
  generalize wa.alloc (.cells #[.slice (some ⟨gb, go, none⟩) l.length c, .bool false] 58) = z0 at *
  have hrd : RdV z0 (ra + 1) l false := ⟨_, _, hR2, HSR.out.kept kC, hc, fun a e hn => by
    obtain ⟨s', c', e', _, h2, _⟩ := HSR.out
    cases e'
    rcases h2 with h2 | ⟨b, q, e2, hb, _⟩
    · exact absurd h2 hn
    · rw [e2] at e; cases e; show b < ra + 1; omega⟩
  have HD := Lib.hid (head_any hrd)
  have HA := Lib.hid hA2
  have HK := Lib.hid kC
  clear hA kA sA hR1 hA1 kB hra hR2 hA2 kC hrd
  go_wp2_with fail
  with_reducible refine Calls.mono HD.out ?_
  rintro e x1 ⟨rfl, hd1, hk1⟩
  have hA := hk1.blk HA.out (by omega)
  have hK := HK.out.trans' hk1 (fun i hi e => by have := HRA.out; omega)
  have HA := Lib.hid hA
  have HK := Lib.hid hK
  have hx1 := hd1.lt
  clear HD hA hK hk1
  rw [hS9, hL9] at hd1
  rw [hF9]
  have hdat : (flds l).data = l.drop 26 := rfl
  clear hS9 hL9 hF9
  generalize hF : flds l = F9 at *
  obtain ⟨kind, src, dst, prio, msg, off, len, total, num, data⟩ := F9
  dsimp only at hdat
  subst hdat
  generalize hL9 : l.drop 26 = L9 at *
  have HLL9 := Lib.hid hL9
  have HFF := Lib.hid hF
  clear hL9 hF
  unfold fv fcs at *
  dsimp only [List.length_nil] at *
  obtain ⟨s9, c9, hRB, hS9s, hc9, hzz⟩ := hd1
  clear hzz
  (try dsimp only)
  go_upto_region 3 with fail
  have hF1 : Blk (x1.alloc (.cells #[.int .i64 kind, .int .i64 src, .int .i64 dst, .int .i64 prio, .int .u64 (msg : Int), .int .i64 off, .int .i64 len, .int .i64 total, .int .i64 num, .slice none 0 0] 25)) x1.heap.size [.int .i64 kind, .int .i64 src, .int .i64 dst, .int .i64 prio, .int .u64 (msg : Int), .int .i64 off, .int .i64 len, .int .i64 total, .int .i64 num, .slice none 0 0] 25 := Blk.new x1 _ _
  have kz : Kept (fun _ => False) x1 (x1.alloc (.cells #[.int .i64 kind, .int .i64 src, .int .i64 dst, .int .i64 prio, .int .u64 (msg : Int), .int .i64 off, .int .i64 len, .int .i64 total, .int .i64 num, .slice none 0 0] 25)) := (Kept.refl _ x1).alloc _
  generalize x1.alloc (.cells #[.int .i64 kind, .int .i64 src, .int .i64 dst, .int .i64 prio, .int .u64 (msg : Int), .int .i64 off, .int .i64 len, .int .i64 total, .int .i64 num, .slice none 0 0] 25) = z1 at *
  have hRB1 := kz.blk hRB (fun f => f)
  have hA1 := kz.blk HA.out (fun f => f)
  have hK1 := HK.out.trans kz
  have hS1 := hS9s.kept kz
  have hfa := src_lt hS9s
  generalize hfb : x1.heap.size = fb at *
  have hfra : ra + 1 < fb := hx1
  have HFA := Lib.hid hfa
  have HFB := Lib.hid hfb
  have HKx := Lib.hid hK1
  have HSx := Lib.hid hS1
  have HAx := Lib.hid hA1
  have HRx := Lib.hid hRB1
  have HFx := Lib.hid hF1
  have d0 := hRB1.cell (o := 0) rfl
  have d1 := hF1.cell (o := 9) rfl
  have d2 := hF1.frozen 9
  clear kz hRB hS9s hx1 hfa hfb hK1 hS1 hA1 hRB1 hF1
  go_upto_region 4 with fail
  have hfa := HFA.out
  have hfb := HFB.out
  have hK1 := HKx.out
  have hS1 := HSx.out
  have hA1 := HAx.out
  have hRB1 := HRx.out
  have hF1 := HFx.out
  have hF2 := hF1.set 9 (.slice s9 L9.length c9)
  have hRB2 := hRB1.far (p := fb) (by omega) 9 (.slice s9 L9.length c9)
  have hA2 := hA1.far (p := fb) (by omega) 9 (.slice s9 L9.length c9)
  have hK2 := hK1.set (b := fb) (fun hi => by have := HRA.out; omega) 9 (.slice s9 L9.length c9)
  have hS2 := src_far hS1 hfa (p := fb) (Nat.le_refl _) 9 (.slice s9 L9.length c9)
  dsimp only [List.set] at hF2
  generalize z1.setCell ⟨fb, 9, none⟩ (.slice s9 L9.length c9) = z2 at *
  have HF := Lib.hid hF2.drew
  have HRB := Lib.hid hRB2.drew
  have HA := Lib.hid hA2.drew
  have HK := Lib.hid hK2.drew
  have HS9 : Hid (Byt.Src z2.drew (.slice s9 L9.length c9) L9) := Lib.hid hS2
  clear HFA HFB HKx HSx HAx HRx HFx d0 d1 d2 hF1 hRB1 hA1 hK1 hS1 hfa hF2 hRB2 hA2 hK2 hS2 hfb
  have KS := Lib.hid fun (w' : World) (k : Kept (fun _ => False) z2.drew w') => (show w'.cell? ⟨gb, go + 3, none⟩ = some (.int .u8 (y3 : Int)) ∧ w'.cell? ⟨ra + 1, 1, none⟩ = some (.bool false) ∧ w'.cell? ⟨fb, 0, none⟩ = some (.int .i64 kind) ∧ w'.cell? ⟨fb, 1, none⟩ = some (.int .i64 src) ∧ w'.cell? ⟨fb, 2, none⟩ = some (.int .i64 dst) ∧ w'.cell? ⟨fb, 3, none⟩ = some (.int .i64 prio) ∧ w'.cell? ⟨fb, 4, none⟩ = some (.int .u64 (msg : Int)) ∧ w'.cell? ⟨fb, 5, none⟩ = some (.int .i64 off) ∧ w'.cell? ⟨fb, 6, none⟩ = some (.int .i64 len) ∧ w'.cell? ⟨fb, 7, none⟩ = some (.int .i64 total) ∧ w'.cell? ⟨fb, 8, none⟩ = some (.int .i64 num) ∧ w'.cell? ⟨fb, 9, none⟩ = some (.slice s9 L9.length c9) from ⟨HB3.out w' (HK.out.trans k), ⟨(k.blk HRB.out (fun f => f)).cell (o := 1) rfl, ⟨(k.blk HF.out (fun f => f)).cell (o := 0) rfl, ⟨(k.blk HF.out (fun f => f)).cell (o := 1) rfl, ⟨(k.blk HF.out (fun f => f)).cell (o := 2) rfl, ⟨(k.blk HF.out (fun f => f)).cell (o := 3) rfl, ⟨(k.blk HF.out (fun f => f)).cell (o := 4) rfl, ⟨(k.blk HF.out (fun f => f)).cell (o := 5) rfl, ⟨(k.blk HF.out (fun f => f)).cell (o := 6) rfl, ⟨(k.blk HF.out (fun f => f)).cell (o := 7) rfl, ⟨(k.blk HF.out (fun f => f)).cell (o := 8) rfl, (k.blk HF.out (fun f => f)).cell (o := 9) rfl⟩⟩⟩⟩⟩⟩⟩⟩⟩⟩⟩)
  have K0 : Hid (Kept (fun _ => False) z2.drew z2.drew) := Lib.hid (Kept.refl _ _)
  refine wp_region_held_drew (S := fun w' => w'.cell? ⟨gb, go + 3, none⟩ = some (.int .u8 (y3 : Int)) ∧ w'.cell? ⟨ra + 1, 1, none⟩ = some (.bool false) ∧ w'.cell? ⟨fb, 0, none⟩ = some (.int .i64 kind) ∧ w'.cell? ⟨fb, 1, none⟩ = some (.int .i64 src) ∧ w'.cell? ⟨fb, 2, none⟩ = some (.int .i64 dst) ∧ w'.cell? ⟨fb, 3, none⟩ = some (.int .i64 prio) ∧ w'.cell? ⟨fb, 4, none⟩ = some (.int .u64 (msg : Int)) ∧ w'.cell? ⟨fb, 5, none⟩ = some (.int .i64 off) ∧ w'.cell? ⟨fb, 6, none⟩ = some (.int .i64 len) ∧ w'.cell? ⟨fb, 7, none⟩ = some (.int .i64 total) ∧ w'.cell? ⟨fb, 8, none⟩ = some (.int .i64 num) ∧ w'.cell? ⟨fb, 9, none⟩ = some (.slice s9 L9.length c9)) (by kernel_rfl) (KS.out _ K0.out) (fun hHeld => ?_)
  have hb1 : (26 : Int) ≤ (c : Int) := by omega
  have hb2 : 26 ≤ c := by omega
  have hb3 : (3 : Int) < (l.length : Int) := by omega
  have hb4 : 3 < l.length := by omega
  have hxy : x3 = y3 := by omega
  subst hxy
  refine wpAnyH_take (i := 0) (oi := { dst := some 12, op := Go.Op.fieldAddr 58 (Go.Operand.tmp 4) 1, type := 0, pos := "bytes.go:89", after := #[], guard := none }) (v := ?_) rfl (by kernel_rfl) (by kernel_rfl) (by kernel_rfl) (fun _ _ _ h => h) (Or.inl ⟨by rfl, ?_⟩) (by assumption) ?_
  rotate_left 1
  focus (intro w hSw; (try dsimp only at hSw); go_simp; try with_reducible rfl)
  try simp only [Act.put, List.setIfInBounds_toArray, List.set_cons_zero, List.set_cons_succ]
  refine wpAnyH_take (i := 1) (oi := { dst := some 13, op := Go.Op.load 4 (Go.Operand.tmp 12), type := 4, pos := "bytes.go:89", after := #[{ on := 0, ground := Go.Ground.data }], guard := none }) (v := ?_) rfl (by kernel_rfl) (by kernel_rfl) (by kernel_rfl) (fun _ _ _ h => h) (Or.inl ⟨by rfl, ?_⟩) (by assumption) ?_
  rotate_left 1
  focus (intro w hSw; (try dsimp only at hSw); go_simp; try with_reducible rfl)
  try simp only [Act.put, List.setIfInBounds_toArray, List.set_cons_zero, List.set_cons_succ]
  refine wpAnyH_take (i := 2) (oi := { dst := some 14, op := Go.Op.move (Go.Operand.tmp 13), type := 4, pos := "bytes.go:89", after := #[{ on := 1, ground := Go.Ground.data }], guard := none }) (v := ?_) rfl (by kernel_rfl) (by kernel_rfl) (by kernel_rfl) (fun _ _ _ h => h) (Or.inl ⟨by rfl, ?_⟩) (by assumption) ?_
  rotate_left 1
  focus (intro w hSw; (try dsimp only at hSw); go_simp; try with_reducible rfl)
  try simp only [Act.put, List.setIfInBounds_toArray, List.set_cons_zero, List.set_cons_succ]
  refine wpAnyH_take (i := 3) (oi := { dst := some 15, op := Go.Op.move (Go.Operand.tmp 0), type := 23, pos := "bytes.go:89", after := #[{ on := 2, ground := Go.Ground.guard }], guard := some (2, false) }) (v := ?_) rfl (by kernel_rfl) (by kernel_rfl) (by kernel_rfl) (fun _ _ _ h => h) (Or.inl ⟨by rfl, ?_⟩) (by assumption) ?_
  rotate_left 1
  focus (intro w hSw; (try dsimp only at hSw); go_simp; try with_reducible rfl)
  try simp only [Act.put, List.setIfInBounds_toArray, List.set_cons_zero, List.set_cons_succ]
  refine wpAnyH_take (i := 4) (oi := { dst := some 16, op := Go.Op.slice 23 (Go.Operand.tmp 15) none (some (Go.Operand.const (Go.Value.int Go.IntKind.i64 26))) none, type := 23, pos := "bytes.go:89", after := #[{ on := 3, ground := Go.Ground.data }, { on := 2, ground := Go.Ground.guard }], guard := some (2, false) }) (v := ?_) rfl (by kernel_rfl) (by kernel_rfl) (by kernel_rfl) (fun _ _ _ h => h) (Or.inl ⟨by rfl, ?_⟩) (by assumption) ?_
  rotate_left 1
  focus (intro w hSw; (try dsimp only at hSw); go_simp; try with_reducible rfl)
  try simp only [Act.put, List.setIfInBounds_toArray, List.set_cons_zero, List.set_cons_succ]
  refine wpAnyH_take (i := 6) (oi := { dst := some 18, op := Go.Op.move (Go.Operand.tmp 0), type := 23, pos := "bytes.go:89", after := #[{ on := 2, ground := Go.Ground.guard }], guard := some (2, false) }) (v := ?_) rfl (by kernel_rfl) (by kernel_rfl) (by kernel_rfl) (fun _ _ _ h => h) (Or.inl ⟨by rfl, ?_⟩) (by assumption) ?_
  rotate_left 1
  focus (intro w hSw; (try dsimp only at hSw); go_simp; try with_reducible rfl)
  try simp only [Act.put, List.setIfInBounds_toArray, List.set_cons_zero, List.set_cons_succ]
  refine wpAnyH_take (i := 7) (oi := { dst := some 19, op := Go.Op.indexAddr 23 (Go.Operand.tmp 18) (Go.Operand.const (Go.Value.int Go.IntKind.i64 3)), type := 0, pos := "bytes.go:89", after := #[{ on := 6, ground := Go.Ground.data }, { on := 2, ground := Go.Ground.guard }], guard := some (2, false) }) (v := ?_) rfl (by kernel_rfl) (by kernel_rfl) (by kernel_rfl) (fun _ _ _ h => h) (Or.inl ⟨by rfl, ?_⟩) (by assumption) ?_
  rotate_left 1
  focus (intro w hSw; (try dsimp only at hSw); go_simp; try with_reducible rfl)
  try simp only [Act.put, List.setIfInBounds_toArray, List.set_cons_zero, List.set_cons_succ]
  refine wpAnyH_take (i := 8) (oi := { dst := some 20, op := Go.Op.load 5 (Go.Operand.tmp 19), type := 5, pos := "bytes.go:89", after := #[{ on := 7, ground := Go.Ground.data }, { on := 2, ground := Go.Ground.guard }], guard := some (2, false) }) (v := ?_) rfl (by kernel_rfl) (by kernel_rfl) (by kernel_rfl) (fun _ _ _ h => h) (Or.inl ⟨by rfl, ?_⟩) (by assumption) ?_
  rotate_left 1
  focus (intro w hSw; (try dsimp only at hSw); go_simp; try with_reducible rfl)
  try simp only [Act.put, List.setIfInBounds_toArray, List.set_cons_zero, List.set_cons_succ]
  refine wpAnyH_ready (rs := [5]) (by kernel_rfl) (by simp) ?_
  refine AllReadyH.cons (o := { dst := some 17, op := Go.Op.call { callee := Go.Callee.value (Go.Operand.func 25), args := #[Go.Operand.tmp 16], argTypes := #[23] }, type := 5, pos := "bytes.go:89", after := #[{ on := 4, ground := Go.Ground.data }, { on := 2, ground := Go.Ground.chain }, { on := 2, ground := Go.Ground.guard }], guard := some (2, false) }) rfl (fun K hK => ?_) AllReadyH.nil
  go_simp
  with_reducible refine Calls.mono (HSUM.out _ (HK.out.trans K0.out)) ?_
  rintro e y1 ⟨rfl, rfl⟩
  refine hK.out _ _ (KS.out _ K0.out) (fun hHeld => ?_)
  clear hK K
  try simp only [Act.put, List.setIfInBounds_toArray, List.set_cons_zero, List.set_cons_succ]
  refine wpAnyH_take (i := 9) (oi := { dst := some 21, op := Go.Op.binOp Go.BinOp.neq 5 (Go.Operand.tmp 17) (Go.Operand.tmp 20) 5, type := 4, pos := "bytes.go:89", after := #[{ on := 5, ground := Go.Ground.data }, { on := 8, ground := Go.Ground.data }, { on := 2, ground := Go.Ground.guard }], guard := some (2, false) }) (v := ?_) rfl (by kernel_rfl) (by kernel_rfl) (by kernel_rfl) (fun _ _ _ h => h) (Or.inl ⟨by rfl, ?_⟩) (by assumption) ?_
  rotate_left 1
  focus (intro w hSw; (try dsimp only at hSw); go_simp; try with_reducible rfl)
  try simp only [Act.put, List.setIfInBounds_toArray, List.set_cons_zero, List.set_cons_succ]
  refine wpAnyH_take (i := 10) (oi := { dst := some 22, op := Go.Op.pick (Go.Operand.tmp 14) (Go.Operand.const (Go.Value.bool true)) (Go.Operand.tmp 21), type := 4, pos := "bytes.go:89", after := #[{ on := 2, ground := Go.Ground.data }, { on := 9, ground := Go.Ground.data }], guard := none }) (v := ?_) rfl (by kernel_rfl) (by kernel_rfl) (by kernel_rfl) (fun _ _ _ h => h) (Or.inl ⟨by rfl, ?_⟩) (by assumption) ?_
  rotate_left 1
  focus (intro w hSw; (try dsimp only at hSw); go_simp; try with_reducible rfl)
  try simp only [Act.put, List.setIfInBounds_toArray, List.set_cons_zero, List.set_cons_succ]
  refine wpAnyH_take (i := 11) (oi := { dst := some 23, op := Go.Op.move (Go.Operand.tmp 22), type := 4, pos := "bytes.go:89", after := #[{ on := 10, ground := Go.Ground.data }, { on := 5, ground := Go.Ground.chain }], guard := none }) (v := ?_) rfl (by kernel_rfl) (by kernel_rfl) (by kernel_rfl) (fun _ _ _ h => h) (Or.inl ⟨by rfl, ?_⟩) (by assumption) ?_
  rotate_left 1
  focus (intro w hSw; (try dsimp only at hSw); go_simp; try with_reducible rfl)
  try simp only [Act.put, List.setIfInBounds_toArray, List.set_cons_zero, List.set_cons_succ]
  refine wpAnyH_take (i := 12) (oi := { dst := some 24, op := Go.Op.load 25 (Go.Operand.tmp 5), type := 25, pos := "bytes.go:89", after := #[{ on := 11, ground := Go.Ground.guard }], guard := some (11, false) }) (v := ?_) rfl (by kernel_rfl) (by kernel_rfl) (by kernel_rfl) (fun _ _ _ h => h) (Or.inl ⟨by rfl, ?_⟩) (by assumption) ?_
  rotate_left 1
  focus (intro w hSw; (try dsimp only at hSw); go_simp; try with_reducible rfl)
  try simp only [Act.put, List.setIfInBounds_toArray, List.set_cons_zero, List.set_cons_succ]
  refine wpAnyH_ready (rs := [13]) (by kernel_rfl) (by simp) ?_
  refine AllReadyH.cons (o := { dst := some 25, op := Go.Op.call { callee := Go.Callee.value (Go.Operand.func 12), args := #[Go.Operand.tmp 24], argTypes := #[25] }, type := 27, pos := "bytes.go:89", after := #[{ on := 12, ground := Go.Ground.data }, { on := 11, ground := Go.Ground.chain }, { on := 11, ground := Go.Ground.guard }], guard := some (11, false) }) rfl (fun K hK => ?_) AllReadyH.nil
  go_simp
  with_reducible refine Calls.mono (CH.out _ _ _) ?_
  rintro e y2 ⟨rfl, k2⟩
  have K0 := Lib.hid (K0.out.trans k2)
  clear k2
  refine hK.out _ _ (KS.out _ K0.out) (fun hHeld => ?_)
  clear hK K
  try simp only [Act.put, List.setIfInBounds_toArray, List.set_cons_zero, List.set_cons_succ]
  refine wpAnyH_take (i := 14) (oi := { dst := some 26, op := Go.Op.binOp Go.BinOp.neq 27 (Go.Operand.tmp 25) (Go.Operand.const (Go.Value.int Go.IntKind.i64 0)) 27, type := 4, pos := "bytes.go:89", after := #[{ on := 13, ground := Go.Ground.data }, { on := 11, ground := Go.Ground.guard }], guard := some (11, false) }) (v := ?_) rfl (by kernel_rfl) (by kernel_rfl) (by kernel_rfl) (fun _ _ _ h => h) (Or.inl ⟨by rfl, ?_⟩) (by assumption) ?_
  rotate_left 1
  focus (intro w hSw; (try dsimp only at hSw); go_simp; try with_reducible rfl)
  try simp only [Act.put, List.setIfInBounds_toArray, List.set_cons_zero, List.set_cons_succ]
  refine wpAnyH_take (i := 15) (oi := { dst := some 27, op := Go.Op.pick (Go.Operand.tmp 23) (Go.Operand.const (Go.Value.bool true)) (Go.Operand.tmp 26), type := 4, pos := "bytes.go:89", after := #[{ on := 11, ground := Go.Ground.data }, { on := 14, ground := Go.Ground.data }], guard := none }) (v := ?_) rfl (by kernel_rfl) (by kernel_rfl) (by kernel_rfl) (fun _ _ _ h => h) (Or.inl ⟨by rfl, ?_⟩) (by assumption) ?_
  rotate_left 1
  focus (intro w hSw; (try dsimp only at hSw); go_simp; try with_reducible rfl)
  try simp only [Act.put, List.setIfInBounds_toArray, List.set_cons_zero, List.set_cons_succ]
  refine wpAnyH_done (by kernel_rfl) ?_ _
  have hAz := K0.out.blk HA.out (fun f => f)
  have hFz := K0.out.blk HF.out (fun f => f)
  have hKz := HK.out.trans K0.out
  have hSz := HS9.out.kept K0.out
  generalize hwz : y2 = wz at *
  clear hwz
  have HAZ := Lib.hid hAz
  have HKZ := Lib.hid hKz
  have HSZ := Lib.hid hSz
  have u0 := hAz.cell (o := 0) rfl
  have v0 := hAz.frozen 0
  have u1 := hAz.cell (o := 1) rfl
  have v1 := hAz.frozen 1
  have u2 := hAz.cell (o := 2) rfl
  have v2 := hAz.frozen 2
  have u3 := hAz.cell (o := 3) rfl
  have v3 := hAz.frozen 3
  have u4 := hAz.cell (o := 4) rfl
  have v4 := hAz.frozen 4
  have u5 := hAz.cell (o := 5) rfl
  have v5 := hAz.frozen 5
  have u6 := hAz.cell (o := 6) rfl
  have v6 := hAz.frozen 6
  have u7 := hAz.cell (o := 7) rfl
  have v7 := hAz.frozen 7
  have u8 := hAz.cell (o := 8) rfl
  have v8 := hAz.frozen 8
  have u9 := hAz.cell (o := 9) rfl
  have v9 := hAz.frozen 9
  clear hAz hFz hKz hSz HF HRB HA HK HS9 KS K0 hHeld
  go_wp2_with fail
  have hZ := blk10 HAZ.out (.int .i64 0) (.int .i64 0) (.int .i64 0) (.int .i64 0) (.int .u64 0) (.int .i64 0) (.int .i64 0) (.int .i64 0) (.int .i64 0) (.slice none 0 0)
  have kZ := kept10 wz ra (.int .i64 0) (.int .i64 0) (.int .i64 0) (.int .i64 0) (.int .u64 0) (.int .i64 0) (.int .i64 0) (.int .i64 0) (.int .i64 0) (.slice none 0 0)
  unfold set10 at hZ kZ
  have hKK := HKZ.out.trans' kZ (fun i hi e => by have := HRA.out; omega)
  generalize (((((((((wz.setCell ⟨ra, 0, none⟩ (.int .i64 0)).setCell ⟨ra, 1, none⟩ (.int .i64 0)).setCell ⟨ra, 2, none⟩ (.int .i64 0)).setCell ⟨ra, 3, none⟩ (.int .i64 0)).setCell ⟨ra, 4, none⟩ (.int .u64 0)).setCell ⟨ra, 5, none⟩ (.int .i64 0)).setCell ⟨ra, 6, none⟩ (.int .i64 0)).setCell ⟨ra, 7, none⟩ (.int .i64 0)).setCell ⟨ra, 8, none⟩ (.int .i64 0)).setCell ⟨ra, 9, none⟩ (.slice none 0 0) = z9 at *
  (try simp only [Exit.inBlock, Exit.then])
  refine bodyPost_ret (results_frame2 rfl _ _ ra rfl hZ) rfl ?_
  exact ⟨rfl, hKK⟩
set_option maxHeartbeats 8000000 in
set_option maxRecDepth 100000 in
theorem read_ok {w : World} {s : Option Addr} {c : Nat} {l : List UInt8} (h : Byt.Src w (.slice s l.length c) l) (hc : c ≤ 9223372036854775807) (hl : l.length ≤ 1000000) (h26 : 26 ≤ l.length) (hs : sumTo l 26 = (l.getD 3 0).toNat) (hok : Ok (flds l)) :
    Calls Try.prog 32 #[.slice s l.length c] w (fun e w' => ∃ s c, e = .returned (.tuple #[fv (flds l) s c, .bool true]) ∧ Byt.Src w' (.slice s (flds l).data.length c) (flds l).data ∧ c ≤ 9223372036854775807 ∧ Kept (fun _ => False) w w') := by
  have HSR := Lib.hid h
  have hF9 := f9_long h26
  have hL9 := left9_long h26
  have hS9 := sh9_long h26
  have hlc : l.length ≤ c := by obtain ⟨_, _, e, hc, _⟩ := h; cases e; exact hc
  have heq : ((sumTo l 26 : Nat) : Int) = ((l.getD 3 0).toNat : Int) := by omega
  obtain ⟨gb, go, rfl, hgb, _, hcell⟩ := src_addr h (by omega)
  have hsum := fun (w' : World) (k : Kept (fun _ => False) w w') => sum_any (by rw [show (l.take 26).length = 26 by rw [List.length_take]; omega]; exact src_pre (h.kept k) rfl h26) (by rw [List.length_take]; omega)
  rw [show (l.take 26).length = 26 by rw [List.length_take]; omega, sumTo_take] at hsum
  have hb3 := hcell 3 (by omega)
  rw [show l[3]'(by omega) = l.getD 3 0 by simp [List.getD, List.getElem?_eq_getElem (show 3 < l.length by omega)]] at hb3
  generalize (l.getD 3 0).toNat = y3 at *
  generalize sumTo l 26 = x3 at *
  have HSUM := Lib.hid hsum
  have HB3 := Lib.hid (show ∀ w', Kept (fun _ => False) w w' → w'.cell? ⟨gb, go + 3, none⟩ = some (.int .u8 (y3 : Int)) from fun w' k => (keptAt k hgb (fun f => f) _).trans hb3)
  clear hsum hcell hb3
  have hchk := fun s c w => check_any (flds l) s c w
  rw [chk_yes hok] at hchk
  have CH := Lib.hid hchk
  clear hchk
  clear h
  go_enter Try.func32, Try.ntmps32
  go_upto_region 2 with fail
  have hA : Blk (w.alloc (.cells #[.int .i64 0, .int .i64 0, .int .i64 0, .int .i64 0, .int .u64 0, .int .i64 0, .int .i64 0, .int .i64 0, .int .i64 0, .slice none 0 0] 25)) w.heap.size [.int .i64 0, .int .i64 0, .int .i64 0, .int .i64 0, .int .u64 0, .int .i64 0, .int .i64 0, .int .i64 0, .int .i64 0, .slice none 0 0] 25 := Blk.new w _ _
  have kA : Kept (fun _ => False) w (w.alloc (.cells #[.int .i64 0, .int .i64 0, .int .i64 0, .int .i64 0, .int .u64 0, .int .i64 0, .int .i64 0, .int .i64 0, .int .i64 0, .slice none 0 0] 25)) := (Kept.refl _ w).alloc _
  have sA : (w.alloc (.cells #[.int .i64 0, .int .i64 0, .int .i64 0, .int .i64 0, .int .u64 0, .int .i64 0, .int .i64 0, .int .i64 0, .int .i64 0, .slice none 0 0] 25)).heap.size = w.heap.size + 1 := by simp
  generalize w.alloc (.cells #[.int .i64 0, .int .i64 0, .int .i64 0, .int .i64 0, .int .u64 0, .int .i64 0, .int .i64 0, .int .i64 0, .int .i64 0, .slice none 0 0] 25) = wa at *
  try rw [sA]
  have hR1 : Blk (wa.alloc (.cells #[.slice (some ⟨gb, go, none⟩) l.length c, .bool false] 58)) wa.heap.size [.slice (some ⟨gb, go, none⟩) l.length c, .bool false] 58 := Blk.new wa _ _
  have hA1 : Blk (wa.alloc (.cells #[.slice (some ⟨gb, go, none⟩) l.length c, .bool false] 58)) w.heap.size [.int .i64 0, .int .i64 0, .int .i64 0, .int .i64 0, .int .u64 0, .int .i64 0, .int .i64 0, .int .i64 0, .int .i64 0, .slice none 0 0] 25 := hA.old _
  have kB : Kept (fun _ => False) w (wa.alloc (.cells #[.slice (some ⟨gb, go, none⟩) l.length c, .bool false] 58)) := kA.alloc _
  rw [sA] at hR1
  generalize hra : w.heap.size = ra at *
  have HRA := Lib.hid hra
  have hR2 := hR1
  have hA2 := hA1
  have kC := kB
  generalize wa.alloc (.cells #[.slice (some ⟨gb, go, none⟩) l.length c, .bool false] 58) = z0 at *
  have hrd : RdV z0 (ra + 1) l false := ⟨_, _, hR2, HSR.out.kept kC, hc, fun a e hn => by
    obtain ⟨s', c', e', _, h2, _⟩ := HSR.out
    cases e'
    rcases h2 with h2 | ⟨b, q, e2, hb, _⟩
    · exact absurd h2 hn
    · rw [e2] at e; cases e; show b < ra + 1; omega⟩
  have HD := Lib.hid (head_any hrd)
  have HA := Lib.hid hA2
  have HK := Lib.hid kC
  clear hA kA sA hR1 hA1 kB hra hR2 hA2 kC hrd
  go_wp2_with fail
  with_reducible refine Calls.mono HD.out ?_
  rintro e x1 ⟨rfl, hd1, hk1⟩
  have hA := hk1.blk HA.out (by omega)
  have hK := HK.out.trans' hk1 (fun i hi e => by have := HRA.out; omega)
  have HA := Lib.hid hA
  have HK := Lib.hid hK
  have hx1 := hd1.lt
  clear HD hA hK hk1
  rw [hS9, hL9] at hd1
  rw [hF9]
  have hdat : (flds l).data = l.drop 26 := rfl
  clear hS9 hL9 hF9
  generalize hF : flds l = F9 at *
  obtain ⟨kind, src, dst, prio, msg, off, len, total, num, data⟩ := F9
  dsimp only at hdat
  subst hdat
  generalize hL9 : l.drop 26 = L9 at *
  have HLL9 := Lib.hid hL9
  have HFF := Lib.hid hF
  clear hL9 hF
  unfold fv fcs at *
  dsimp only [List.length_nil] at *
  obtain ⟨s9, c9, hRB, hS9s, hc9, hzz⟩ := hd1
  clear hzz
  (try dsimp only)
  go_upto_region 3 with fail
  have hF1 : Blk (x1.alloc (.cells #[.int .i64 kind, .int .i64 src, .int .i64 dst, .int .i64 prio, .int .u64 (msg : Int), .int .i64 off, .int .i64 len, .int .i64 total, .int .i64 num, .slice none 0 0] 25)) x1.heap.size [.int .i64 kind, .int .i64 src, .int .i64 dst, .int .i64 prio, .int .u64 (msg : Int), .int .i64 off, .int .i64 len, .int .i64 total, .int .i64 num, .slice none 0 0] 25 := Blk.new x1 _ _
  have kz : Kept (fun _ => False) x1 (x1.alloc (.cells #[.int .i64 kind, .int .i64 src, .int .i64 dst, .int .i64 prio, .int .u64 (msg : Int), .int .i64 off, .int .i64 len, .int .i64 total, .int .i64 num, .slice none 0 0] 25)) := (Kept.refl _ x1).alloc _
  generalize x1.alloc (.cells #[.int .i64 kind, .int .i64 src, .int .i64 dst, .int .i64 prio, .int .u64 (msg : Int), .int .i64 off, .int .i64 len, .int .i64 total, .int .i64 num, .slice none 0 0] 25) = z1 at *
  have hRB1 := kz.blk hRB (fun f => f)
  have hA1 := kz.blk HA.out (fun f => f)
  have hK1 := HK.out.trans kz
  have hS1 := hS9s.kept kz
  have hfa := src_lt hS9s
  generalize hfb : x1.heap.size = fb at *
  have hfra : ra + 1 < fb := hx1
  have HFA := Lib.hid hfa
  have HFB := Lib.hid hfb
  have HKx := Lib.hid hK1
  have HSx := Lib.hid hS1
  have HAx := Lib.hid hA1
  have HRx := Lib.hid hRB1
  have HFx := Lib.hid hF1
  have d0 := hRB1.cell (o := 0) rfl
  have d1 := hF1.cell (o := 9) rfl
  have d2 := hF1.frozen 9
  clear kz hRB hS9s hx1 hfa hfb hK1 hS1 hA1 hRB1 hF1
  go_upto_region 4 with fail
  have hfa := HFA.out
  have hfb := HFB.out
  have hK1 := HKx.out
  have hS1 := HSx.out
  have hA1 := HAx.out
  have hRB1 := HRx.out
  have hF1 := HFx.out
  have hF2 := hF1.set 9 (.slice s9 L9.length c9)
  have hRB2 := hRB1.far (p := fb) (by omega) 9 (.slice s9 L9.length c9)
  have hA2 := hA1.far (p := fb) (by omega) 9 (.slice s9 L9.length c9)
  have hK2 := hK1.set (b := fb) (fun hi => by have := HRA.out; omega) 9 (.slice s9 L9.length c9)
  have hS2 := src_far hS1 hfa (p := fb) (Nat.le_refl _) 9 (.slice s9 L9.length c9)
  dsimp only [List.set] at hF2
  generalize z1.setCell ⟨fb, 9, none⟩ (.slice s9 L9.length c9) = z2 at *
  have HF := Lib.hid hF2.drew
  have HRB := Lib.hid hRB2.drew
  have HA := Lib.hid hA2.drew
  have HK := Lib.hid hK2.drew
  have HS9 : Hid (Byt.Src z2.drew (.slice s9 L9.length c9) L9) := Lib.hid hS2
  clear HFA HFB HKx HSx HAx HRx HFx d0 d1 d2 hF1 hRB1 hA1 hK1 hS1 hfa hF2 hRB2 hA2 hK2 hS2 hfb
  have KS := Lib.hid fun (w' : World) (k : Kept (fun _ => False) z2.drew w') => (show w'.cell? ⟨gb, go + 3, none⟩ = some (.int .u8 (y3 : Int)) ∧ w'.cell? ⟨ra + 1, 1, none⟩ = some (.bool false) ∧ w'.cell? ⟨fb, 0, none⟩ = some (.int .i64 kind) ∧ w'.cell? ⟨fb, 1, none⟩ = some (.int .i64 src) ∧ w'.cell? ⟨fb, 2, none⟩ = some (.int .i64 dst) ∧ w'.cell? ⟨fb, 3, none⟩ = some (.int .i64 prio) ∧ w'.cell? ⟨fb, 4, none⟩ = some (.int .u64 (msg : Int)) ∧ w'.cell? ⟨fb, 5, none⟩ = some (.int .i64 off) ∧ w'.cell? ⟨fb, 6, none⟩ = some (.int .i64 len) ∧ w'.cell? ⟨fb, 7, none⟩ = some (.int .i64 total) ∧ w'.cell? ⟨fb, 8, none⟩ = some (.int .i64 num) ∧ w'.cell? ⟨fb, 9, none⟩ = some (.slice s9 L9.length c9) from ⟨HB3.out w' (HK.out.trans k), ⟨(k.blk HRB.out (fun f => f)).cell (o := 1) rfl, ⟨(k.blk HF.out (fun f => f)).cell (o := 0) rfl, ⟨(k.blk HF.out (fun f => f)).cell (o := 1) rfl, ⟨(k.blk HF.out (fun f => f)).cell (o := 2) rfl, ⟨(k.blk HF.out (fun f => f)).cell (o := 3) rfl, ⟨(k.blk HF.out (fun f => f)).cell (o := 4) rfl, ⟨(k.blk HF.out (fun f => f)).cell (o := 5) rfl, ⟨(k.blk HF.out (fun f => f)).cell (o := 6) rfl, ⟨(k.blk HF.out (fun f => f)).cell (o := 7) rfl, ⟨(k.blk HF.out (fun f => f)).cell (o := 8) rfl, (k.blk HF.out (fun f => f)).cell (o := 9) rfl⟩⟩⟩⟩⟩⟩⟩⟩⟩⟩⟩)
  have K0 : Hid (Kept (fun _ => False) z2.drew z2.drew) := Lib.hid (Kept.refl _ _)
  refine wp_region_held_drew (S := fun w' => w'.cell? ⟨gb, go + 3, none⟩ = some (.int .u8 (y3 : Int)) ∧ w'.cell? ⟨ra + 1, 1, none⟩ = some (.bool false) ∧ w'.cell? ⟨fb, 0, none⟩ = some (.int .i64 kind) ∧ w'.cell? ⟨fb, 1, none⟩ = some (.int .i64 src) ∧ w'.cell? ⟨fb, 2, none⟩ = some (.int .i64 dst) ∧ w'.cell? ⟨fb, 3, none⟩ = some (.int .i64 prio) ∧ w'.cell? ⟨fb, 4, none⟩ = some (.int .u64 (msg : Int)) ∧ w'.cell? ⟨fb, 5, none⟩ = some (.int .i64 off) ∧ w'.cell? ⟨fb, 6, none⟩ = some (.int .i64 len) ∧ w'.cell? ⟨fb, 7, none⟩ = some (.int .i64 total) ∧ w'.cell? ⟨fb, 8, none⟩ = some (.int .i64 num) ∧ w'.cell? ⟨fb, 9, none⟩ = some (.slice s9 L9.length c9)) (by kernel_rfl) (KS.out _ K0.out) (fun hHeld => ?_)
  have hb1 : (26 : Int) ≤ (c : Int) := by omega
  have hb2 : 26 ≤ c := by omega
  have hb3 : (3 : Int) < (l.length : Int) := by omega
  have hb4 : 3 < l.length := by omega
  have hxy : x3 = y3 := by omega
  subst hxy
  refine wpAnyH_take (i := 0) (oi := { dst := some 12, op := Go.Op.fieldAddr 58 (Go.Operand.tmp 4) 1, type := 0, pos := "bytes.go:89", after := #[], guard := none }) (v := ?_) rfl (by kernel_rfl) (by kernel_rfl) (by kernel_rfl) (fun _ _ _ h => h) (Or.inl ⟨by rfl, ?_⟩) (by assumption) ?_
  rotate_left 1
  focus (intro w hSw; (try dsimp only at hSw); go_simp; try with_reducible rfl)
  try simp only [Act.put, List.setIfInBounds_toArray, List.set_cons_zero, List.set_cons_succ]
  refine wpAnyH_take (i := 1) (oi := { dst := some 13, op := Go.Op.load 4 (Go.Operand.tmp 12), type := 4, pos := "bytes.go:89", after := #[{ on := 0, ground := Go.Ground.data }], guard := none }) (v := ?_) rfl (by kernel_rfl) (by kernel_rfl) (by kernel_rfl) (fun _ _ _ h => h) (Or.inl ⟨by rfl, ?_⟩) (by assumption) ?_
  rotate_left 1
  focus (intro w hSw; (try dsimp only at hSw); go_simp; try with_reducible rfl)
  try simp only [Act.put, List.setIfInBounds_toArray, List.set_cons_zero, List.set_cons_succ]
  refine wpAnyH_take (i := 2) (oi := { dst := some 14, op := Go.Op.move (Go.Operand.tmp 13), type := 4, pos := "bytes.go:89", after := #[{ on := 1, ground := Go.Ground.data }], guard := none }) (v := ?_) rfl (by kernel_rfl) (by kernel_rfl) (by kernel_rfl) (fun _ _ _ h => h) (Or.inl ⟨by rfl, ?_⟩) (by assumption) ?_
  rotate_left 1
  focus (intro w hSw; (try dsimp only at hSw); go_simp; try with_reducible rfl)
  try simp only [Act.put, List.setIfInBounds_toArray, List.set_cons_zero, List.set_cons_succ]
  refine wpAnyH_take (i := 3) (oi := { dst := some 15, op := Go.Op.move (Go.Operand.tmp 0), type := 23, pos := "bytes.go:89", after := #[{ on := 2, ground := Go.Ground.guard }], guard := some (2, false) }) (v := ?_) rfl (by kernel_rfl) (by kernel_rfl) (by kernel_rfl) (fun _ _ _ h => h) (Or.inl ⟨by rfl, ?_⟩) (by assumption) ?_
  rotate_left 1
  focus (intro w hSw; (try dsimp only at hSw); go_simp; try with_reducible rfl)
  try simp only [Act.put, List.setIfInBounds_toArray, List.set_cons_zero, List.set_cons_succ]
  refine wpAnyH_take (i := 4) (oi := { dst := some 16, op := Go.Op.slice 23 (Go.Operand.tmp 15) none (some (Go.Operand.const (Go.Value.int Go.IntKind.i64 26))) none, type := 23, pos := "bytes.go:89", after := #[{ on := 3, ground := Go.Ground.data }, { on := 2, ground := Go.Ground.guard }], guard := some (2, false) }) (v := ?_) rfl (by kernel_rfl) (by kernel_rfl) (by kernel_rfl) (fun _ _ _ h => h) (Or.inl ⟨by rfl, ?_⟩) (by assumption) ?_
  rotate_left 1
  focus (intro w hSw; (try dsimp only at hSw); go_simp; try with_reducible rfl)
  try simp only [Act.put, List.setIfInBounds_toArray, List.set_cons_zero, List.set_cons_succ]
  refine wpAnyH_take (i := 6) (oi := { dst := some 18, op := Go.Op.move (Go.Operand.tmp 0), type := 23, pos := "bytes.go:89", after := #[{ on := 2, ground := Go.Ground.guard }], guard := some (2, false) }) (v := ?_) rfl (by kernel_rfl) (by kernel_rfl) (by kernel_rfl) (fun _ _ _ h => h) (Or.inl ⟨by rfl, ?_⟩) (by assumption) ?_
  rotate_left 1
  focus (intro w hSw; (try dsimp only at hSw); go_simp; try with_reducible rfl)
  try simp only [Act.put, List.setIfInBounds_toArray, List.set_cons_zero, List.set_cons_succ]
  refine wpAnyH_take (i := 7) (oi := { dst := some 19, op := Go.Op.indexAddr 23 (Go.Operand.tmp 18) (Go.Operand.const (Go.Value.int Go.IntKind.i64 3)), type := 0, pos := "bytes.go:89", after := #[{ on := 6, ground := Go.Ground.data }, { on := 2, ground := Go.Ground.guard }], guard := some (2, false) }) (v := ?_) rfl (by kernel_rfl) (by kernel_rfl) (by kernel_rfl) (fun _ _ _ h => h) (Or.inl ⟨by rfl, ?_⟩) (by assumption) ?_
  rotate_left 1
  focus (intro w hSw; (try dsimp only at hSw); go_simp; try with_reducible rfl)
  try simp only [Act.put, List.setIfInBounds_toArray, List.set_cons_zero, List.set_cons_succ]
  refine wpAnyH_take (i := 8) (oi := { dst := some 20, op := Go.Op.load 5 (Go.Operand.tmp 19), type := 5, pos := "bytes.go:89", after := #[{ on := 7, ground := Go.Ground.data }, { on := 2, ground := Go.Ground.guard }], guard := some (2, false) }) (v := ?_) rfl (by kernel_rfl) (by kernel_rfl) (by kernel_rfl) (fun _ _ _ h => h) (Or.inl ⟨by rfl, ?_⟩) (by assumption) ?_
  rotate_left 1
  focus (intro w hSw; (try dsimp only at hSw); go_simp; try with_reducible rfl)
  try simp only [Act.put, List.setIfInBounds_toArray, List.set_cons_zero, List.set_cons_succ]
  refine wpAnyH_ready (rs := [5]) (by kernel_rfl) (by simp) ?_
  refine AllReadyH.cons (o := { dst := some 17, op := Go.Op.call { callee := Go.Callee.value (Go.Operand.func 25), args := #[Go.Operand.tmp 16], argTypes := #[23] }, type := 5, pos := "bytes.go:89", after := #[{ on := 4, ground := Go.Ground.data }, { on := 2, ground := Go.Ground.chain }, { on := 2, ground := Go.Ground.guard }], guard := some (2, false) }) rfl (fun K hK => ?_) AllReadyH.nil
  go_simp
  with_reducible refine Calls.mono (HSUM.out _ (HK.out.trans K0.out)) ?_
  rintro e y1 ⟨rfl, rfl⟩
  refine hK.out _ _ (KS.out _ K0.out) (fun hHeld => ?_)
  clear hK K
  try simp only [Act.put, List.setIfInBounds_toArray, List.set_cons_zero, List.set_cons_succ]
  refine wpAnyH_take (i := 9) (oi := { dst := some 21, op := Go.Op.binOp Go.BinOp.neq 5 (Go.Operand.tmp 17) (Go.Operand.tmp 20) 5, type := 4, pos := "bytes.go:89", after := #[{ on := 5, ground := Go.Ground.data }, { on := 8, ground := Go.Ground.data }, { on := 2, ground := Go.Ground.guard }], guard := some (2, false) }) (v := ?_) rfl (by kernel_rfl) (by kernel_rfl) (by kernel_rfl) (fun _ _ _ h => h) (Or.inl ⟨by rfl, ?_⟩) (by assumption) ?_
  rotate_left 1
  focus (intro w hSw; (try dsimp only at hSw); go_simp; try with_reducible rfl)
  try simp only [Act.put, List.setIfInBounds_toArray, List.set_cons_zero, List.set_cons_succ]
  refine wpAnyH_take (i := 10) (oi := { dst := some 22, op := Go.Op.pick (Go.Operand.tmp 14) (Go.Operand.const (Go.Value.bool true)) (Go.Operand.tmp 21), type := 4, pos := "bytes.go:89", after := #[{ on := 2, ground := Go.Ground.data }, { on := 9, ground := Go.Ground.data }], guard := none }) (v := ?_) rfl (by kernel_rfl) (by kernel_rfl) (by kernel_rfl) (fun _ _ _ h => h) (Or.inl ⟨by rfl, ?_⟩) (by assumption) ?_
  rotate_left 1
  focus (intro w hSw; (try dsimp only at hSw); go_simp; try with_reducible rfl)
  try simp only [Act.put, List.setIfInBounds_toArray, List.set_cons_zero, List.set_cons_succ]
  refine wpAnyH_take (i := 11) (oi := { dst := some 23, op := Go.Op.move (Go.Operand.tmp 22), type := 4, pos := "bytes.go:89", after := #[{ on := 10, ground := Go.Ground.data }, { on := 5, ground := Go.Ground.chain }], guard := none }) (v := ?_) rfl (by kernel_rfl) (by kernel_rfl) (by kernel_rfl) (fun _ _ _ h => h) (Or.inl ⟨by rfl, ?_⟩) (by assumption) ?_
  rotate_left 1
  focus (intro w hSw; (try dsimp only at hSw); go_simp; try with_reducible rfl)
  try simp only [Act.put, List.setIfInBounds_toArray, List.set_cons_zero, List.set_cons_succ]
  refine wpAnyH_take (i := 12) (oi := { dst := some 24, op := Go.Op.load 25 (Go.Operand.tmp 5), type := 25, pos := "bytes.go:89", after := #[{ on := 11, ground := Go.Ground.guard }], guard := some (11, false) }) (v := ?_) rfl (by kernel_rfl) (by kernel_rfl) (by kernel_rfl) (fun _ _ _ h => h) (Or.inl ⟨by rfl, ?_⟩) (by assumption) ?_
  rotate_left 1
  focus (intro w hSw; (try dsimp only at hSw); go_simp; try with_reducible rfl)
  try simp only [Act.put, List.setIfInBounds_toArray, List.set_cons_zero, List.set_cons_succ]
  refine wpAnyH_ready (rs := [13]) (by kernel_rfl) (by simp) ?_
  refine AllReadyH.cons (o := { dst := some 25, op := Go.Op.call { callee := Go.Callee.value (Go.Operand.func 12), args := #[Go.Operand.tmp 24], argTypes := #[25] }, type := 27, pos := "bytes.go:89", after := #[{ on := 12, ground := Go.Ground.data }, { on := 11, ground := Go.Ground.chain }, { on := 11, ground := Go.Ground.guard }], guard := some (11, false) }) rfl (fun K hK => ?_) AllReadyH.nil
  go_simp
  with_reducible refine Calls.mono (CH.out _ _ _) ?_
  rintro e y2 ⟨rfl, k2⟩
  have K0 := Lib.hid (K0.out.trans k2)
  clear k2
  refine hK.out _ _ (KS.out _ K0.out) (fun hHeld => ?_)
  clear hK K
  try simp only [Act.put, List.setIfInBounds_toArray, List.set_cons_zero, List.set_cons_succ]
  refine wpAnyH_take (i := 14) (oi := { dst := some 26, op := Go.Op.binOp Go.BinOp.neq 27 (Go.Operand.tmp 25) (Go.Operand.const (Go.Value.int Go.IntKind.i64 0)) 27, type := 4, pos := "bytes.go:89", after := #[{ on := 13, ground := Go.Ground.data }, { on := 11, ground := Go.Ground.guard }], guard := some (11, false) }) (v := ?_) rfl (by kernel_rfl) (by kernel_rfl) (by kernel_rfl) (fun _ _ _ h => h) (Or.inl ⟨by rfl, ?_⟩) (by assumption) ?_
  rotate_left 1
  focus (intro w hSw; (try dsimp only at hSw); go_simp; try with_reducible rfl)
  try simp only [Act.put, List.setIfInBounds_toArray, List.set_cons_zero, List.set_cons_succ]
  refine wpAnyH_take (i := 15) (oi := { dst := some 27, op := Go.Op.pick (Go.Operand.tmp 23) (Go.Operand.const (Go.Value.bool true)) (Go.Operand.tmp 26), type := 4, pos := "bytes.go:89", after := #[{ on := 11, ground := Go.Ground.data }, { on := 14, ground := Go.Ground.data }], guard := none }) (v := ?_) rfl (by kernel_rfl) (by kernel_rfl) (by kernel_rfl) (fun _ _ _ h => h) (Or.inl ⟨by rfl, ?_⟩) (by assumption) ?_
  rotate_left 1
  focus (intro w hSw; (try dsimp only at hSw); go_simp; try with_reducible rfl)
  try simp only [Act.put, List.setIfInBounds_toArray, List.set_cons_zero, List.set_cons_succ]
  refine wpAnyH_done (by kernel_rfl) ?_ _
  have hAz := K0.out.blk HA.out (fun f => f)
  have hFz := K0.out.blk HF.out (fun f => f)
  have hKz := HK.out.trans K0.out
  have hSz := HS9.out.kept K0.out
  generalize hwz : y2 = wz at *
  clear hwz
  have HAZ := Lib.hid hAz
  have HKZ := Lib.hid hKz
  have HSZ := Lib.hid hSz
  have HSA := Lib.hid (src_not_zero hSz hAz)
  have u0 := hAz.cell (o := 0) rfl
  have v0 := hAz.frozen 0
  have u1 := hAz.cell (o := 1) rfl
  have v1 := hAz.frozen 1
  have u2 := hAz.cell (o := 2) rfl
  have v2 := hAz.frozen 2
  have u3 := hAz.cell (o := 3) rfl
  have v3 := hAz.frozen 3
  have u4 := hAz.cell (o := 4) rfl
  have v4 := hAz.frozen 4
  have u5 := hAz.cell (o := 5) rfl
  have v5 := hAz.frozen 5
  have u6 := hAz.cell (o := 6) rfl
  have v6 := hAz.frozen 6
  have u7 := hAz.cell (o := 7) rfl
  have v7 := hAz.frozen 7
  have u8 := hAz.cell (o := 8) rfl
  have v8 := hAz.frozen 8
  have u9 := hAz.cell (o := 9) rfl
  have v9 := hAz.frozen 9
  have w0 := hFz.cell (o := 0) rfl
  have w1 := hFz.cell (o := 1) rfl
  have w2 := hFz.cell (o := 2) rfl
  have w3 := hFz.cell (o := 3) rfl
  have w4 := hFz.cell (o := 4) rfl
  have w5 := hFz.cell (o := 5) rfl
  have w6 := hFz.cell (o := 6) rfl
  have w7 := hFz.cell (o := 7) rfl
  have w8 := hFz.cell (o := 8) rfl
  have w9 := hFz.cell (o := 9) rfl
  clear hAz hFz hKz hSz HF HRB HA HK HS9 KS K0 hHeld
  go_wp2_with fail
  have hZ := blk10 HAZ.out (.int .i64 kind) (.int .i64 src) (.int .i64 dst) (.int .i64 prio) (.int .u64 (msg : Int)) (.int .i64 off) (.int .i64 len) (.int .i64 total) (.int .i64 num) (.slice s9 L9.length c9)
  have kZ := kept10 wz ra (.int .i64 kind) (.int .i64 src) (.int .i64 dst) (.int .i64 prio) (.int .u64 (msg : Int)) (.int .i64 off) (.int .i64 len) (.int .i64 total) (.int .i64 num) (.slice s9 L9.length c9)
  unfold set10 at hZ kZ
  have hKK := HKZ.out.trans' kZ (fun i hi e => by have := HRA.out; omega)
  have hSS := src_keptF HSZ.out kZ (fun a e hn f => HSA.out a e hn f)
  generalize (((((((((wz.setCell ⟨ra, 0, none⟩ (.int .i64 kind)).setCell ⟨ra, 1, none⟩ (.int .i64 src)).setCell ⟨ra, 2, none⟩ (.int .i64 dst)).setCell ⟨ra, 3, none⟩ (.int .i64 prio)).setCell ⟨ra, 4, none⟩ (.int .u64 (msg : Int))).setCell ⟨ra, 5, none⟩ (.int .i64 off)).setCell ⟨ra, 6, none⟩ (.int .i64 len)).setCell ⟨ra, 7, none⟩ (.int .i64 total)).setCell ⟨ra, 8, none⟩ (.int .i64 num)).setCell ⟨ra, 9, none⟩ (.slice s9 L9.length c9) = z9 at *
  (try simp only [Exit.inBlock, Exit.then])
  refine bodyPost_ret (results_frame2 rfl _ _ ra rfl hZ) rfl ?_
  rw [HFF.out]
  exact ⟨s9, c9, rfl, hSS, hc9, hKK⟩
theorem read_any {w : World} {s : Option Addr} {c : Nat} {l : List UInt8} (h : Byt.Src w (.slice s l.length c) l) (hc : c ≤ 9223372036854775807) (hl : l.length ≤ 1000000) :
    Calls Try.prog 32 #[.slice s l.length c] w (ReadP w l) := by
  by_cases h26 : 26 ≤ l.length
  · by_cases hs : sumTo l 26 = (l.getD 3 0).toNat
    · by_cases hok : Ok (flds l)
      · exact (read_ok h hc hl h26 hs hok).mono fun e w' he => Or.inr ⟨⟨h26, hs, hok⟩, he⟩
      · exact (read_chk h hc hl h26 hs hok).mono fun e w' he => Or.inl ⟨fun g => hok g.2.2, he⟩
    · exact (read_sum h hc hl h26 hs).mono fun e w' he => Or.inl ⟨fun g => hs g.2.1, he⟩
  · exact (read_short h hc hl (by omega)).mono fun e w' he => Or.inl ⟨fun g => h26 g.1, he⟩
end Go.Proofs.Ytkbncpclfeiofaa.Wr
