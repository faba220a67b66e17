/- A port: Take, whatever comes of the queue. Conditions: each theorem's own. -/
import Derived.Test.YtompbpiaapenaaaFbK9
set_option linter.unusedVariables false
set_option linter.unusedSimpArgs false
namespace Go.Proofs.Ytompbpiaapenaaa.Po
open Go.RowKit Hp QuM QuN Rw Qu NumM NumC
attribute [local go_sem ↓] Go.wp_at_zero Go.wp_at_succ
variable {w0 w w' : World} {b qf qc pb : Nat} {room most : Int} {trim : Bool} {ls : Nat → List Bx} {cr : List Bx} {now nxt : Int} {Ff Fc F : Nat → Prop}
set_option maxRecDepth 100000 in
set_option maxHeartbeats 8000000 in
theorem take_off {t m : Int} (hp : Prt w0 b qf qc pb room most trim ls cr now nxt Ff Fc w) (hmt : clampI t now 1125899906842624 = m) (hcr : cr = []) {Post : Bx → Bool → World → World → Prop}
    (hPop : ∀ w', Prt w0 b qf qc pb room most trim ls cr m nxt Ff Fc w' → w.heap.size < w'.heap.size → Calls Try.prog 50 #[.pointer (some ⟨qf, 0, none⟩)] w' fun e w'' => ∃ x p ok, e = .returned (.tuple #[bv x, .int .i64 p, .bool ok]) ∧ Post x ok w' w'' ∧ ∃ G : Nat → Prop, Kept G w' w'' ∧ ∀ i, G i → i < w.heap.size) :
    Calls Try.prog 13 #[.pointer (some ⟨b, 0, none⟩), .int .i64 t] w fun e w' => ∃ x ok w3 w4, e = .returned (.tuple #[bv x, .bool ok]) ∧ Kept (fun i => i = b ∨ i = pb) w w3 ∧ w.heap.size < w3.heap.size ∧ Prt w0 b qf qc pb room most trim ls cr m nxt Ff Fc w3 ∧ Post x ok w3 w4 ∧ Kept (fun i => i = w.heap.size) w4 w' := by
  have CLI := Lib.hid fun (w' : World) => clampInt_any t now 1125899906842624 w'
  have hmb := clampI_bd t hp.nw.2.1
  rw [hmt] at CLI hmb
  have hn0 := hp.nw.1
  have hx0 := hp.nw.2.2
  have hbl := hp.blk.lt
  have hpl := Blk.lt hp.pace
  have HPOP := Lib.hid hPop
  have HP := Lib.hid hp
  subst hcr
  have LEN := Lib.hid fun (w' : World) (h : Prt w0 b qf qc pb room most trim ls [] m nxt Ff Fc w') => len_any h.cq (by rw [cnt_crl]; exact Nat.zero_le _)
  rw [cnt_crl] at LEN
  clear hPop hp hmt
  go_enter Try.func13, Try.ntmps13
  go_upto_region 3 with fail
  have hO := Blk.new w [.int .i64 0, .int .i64 0, .int .i64 0, .int .i64 0, .int .u64 0, .int .i64 0, .int .i64 0, .int .i64 0, .int .i64 0, .slice none 0 0, .int .i64 0] 40
  have hk1 := (Kept.refl (fun _ => False) w).alloc (.cells [.int .i64 0, .int .i64 0, .int .i64 0, .int .i64 0, .int .u64 0, .int .i64 0, .int .i64 0, .int .i64 0, .int .i64 0, .slice none 0 0, .int .i64 0].toArray 40)
  dsimp only [List.toArray] at hO hk1
  generalize w.alloc (.cells #[.int .i64 0, .int .i64 0, .int .i64 0, .int .i64 0, .int .u64 0, .int .i64 0, .int .i64 0, .int .i64 0, .int .i64 0, .slice none 0 0, .int .i64 0] 40) = w1 at *
  obtain ⟨rb, hrb⟩ : ∃ rb, w.heap.size = rb := ⟨_, rfl⟩
  rw [hrb] at hO hbl hpl HPOP
  simp only [hrb]
  have HRB := Lib.hid hrb
  have HP1 := Lib.hid (HP.out.old hk1)
  have HK1 := Lib.hid hk1
  have HO1 := Lib.hid hO
  clear hrb hk1 hO HP
  have d4 := HP1.out.blk.cell (o := 4) rfl
  have f4 := HP1.out.blk.frozen 4
  go_upto_region 4 with (first | (go_at_call 47; refine (CLI.out _).mono ?_; rintro e w' ⟨rfl, rfl⟩))
  have HP2 := Lib.hid (HP1.out.setNow ⟨by omega, hmb.2⟩ (m := m))
  have k2 := Kept.one w1 b 4 (.int .i64 m)
  have HO2 := Lib.hid (k2.blk HO1.out (by omega))
  have HK2 : Hid (Kept (fun i => i = b ∨ i = pb) w (w1.setCell ⟨b, 4, none⟩ (.int .i64 m))) := Lib.hid ((HK1.out.mono (fun _ _ f => f.elim)).trans (k2.mono (fun _ _ e => Or.inl e)))
  generalize w1.setCell ⟨b, 4, none⟩ (.int .i64 m) = w2 at *
  clear d4 f4 k2 HP1 HO1 HK1 CLI
  have d1 := HP2.out.blk.cell (o := 1) rfl
  go_upto_region 5 with fail
  have E0 := Lib.hid (Kept.refl (fun _ => False) w2)
  have KS : Hid (∀ w', Kept (fun i => i = pb) w2 w' → w'.cell? ⟨b, 2, none⟩ = some (.pointer (some ⟨qc, 0, none⟩)) ∧ w'.cell? ⟨b, 3, none⟩ = some (.pointer (some ⟨pb, 0, none⟩)) ∧ w'.cell? ⟨b, 4, none⟩ = some (.int .i64 m)) := by
    refine Lib.hid fun w' k => ?_
    have h1 := k.blk HP2.out.blk (fun e => HP2.out.npf.2.2 e)
    exact ⟨h1.cell rfl, h1.cell rfl, h1.cell rfl⟩
  have HPZ := Lib.hid (HP2.out.old E0.out.drew)
  have HOZ := Lib.hid (E0.out.drew.blk HO2.out (fun f => f))
  have HKZ := Lib.hid (HK2.out.drew)
  have K0 : Hid (Kept (fun i => i = pb) w2 w2.drew) := Lib.hid (E0.out.drew.mono (fun _ _ f => f.elim))
  clear d1
  refine wp_region_held_drew (S := (fun w' => w'.cell? ⟨b, 2, none⟩ = some (.pointer (some ⟨qc, 0, none⟩)) ∧ w'.cell? ⟨b, 3, none⟩ = some (.pointer (some ⟨pb, 0, none⟩)) ∧ w'.cell? ⟨b, 4, none⟩ = some (.int .i64 m))) (by kernel_rfl) (KS.out _ K0.out) (fun hHeld => ?_)
  generalize w2.drew = z0 at *
  refine wpAnyH_take (i := 0) (oi := { dst := some 26, op := Go.Op.move (Go.Operand.tmp 0), type := 25, pos := "port.go:107", after := #[], guard := none }) (v := ?_) rfl (by kernel_rfl) (by kernel_rfl) (by kernel_rfl) (fun _ _ _ h => h) (Or.inl ⟨by rfl, ?_⟩) (by assumption) ?_
  rotate_left 1
  focus (intro w hSw; (try dsimp only at hSw); go_simp; try with_reducible rfl)
  try simp only [Act.put, List.setIfInBounds_toArray, List.set_cons_zero, List.set_cons_succ]
  refine wpAnyH_take (i := 1) (oi := { dst := some 27, op := Go.Op.nilCheck (Go.Operand.tmp 26), type := 0, pos := "port.go:107", after := #[{ on := 0, ground := Go.Ground.data }], guard := none }) (v := ?_) rfl (by kernel_rfl) (by kernel_rfl) (by kernel_rfl) (fun _ _ _ h => h) (Or.inl ⟨by rfl, ?_⟩) (by assumption) ?_
  rotate_left 1
  focus (intro w hSw; (try dsimp only at hSw); go_simp; try with_reducible rfl)
  try simp only [Act.put, List.setIfInBounds_toArray, List.set_cons_zero, List.set_cons_succ]
  refine wpAnyH_take (i := 2) (oi := { dst := some 28, op := Go.Op.fieldAddr 82 (Go.Operand.tmp 27) 2, type := 0, pos := "port.go:107", after := #[{ on := 1, ground := Go.Ground.data }], guard := none }) (v := ?_) rfl (by kernel_rfl) (by kernel_rfl) (by kernel_rfl) (fun _ _ _ h => h) (Or.inl ⟨by rfl, ?_⟩) (by assumption) ?_
  rotate_left 1
  focus (intro w hSw; (try dsimp only at hSw); go_simp; try with_reducible rfl)
  try simp only [Act.put, List.setIfInBounds_toArray, List.set_cons_zero, List.set_cons_succ]
  refine wpAnyH_take (i := 3) (oi := { dst := some 29, op := Go.Op.load 79 (Go.Operand.tmp 28), type := 79, pos := "port.go:107", after := #[{ on := 2, ground := Go.Ground.data }], guard := none }) (v := ?_) rfl (by kernel_rfl) (by kernel_rfl) (by kernel_rfl) (fun _ _ _ h => h) (Or.inl ⟨by rfl, ?_⟩) (by assumption) ?_
  rotate_left 1
  focus (intro w hSw; (try dsimp only at hSw); go_simp; try with_reducible rfl)
  try simp only [Act.put, List.setIfInBounds_toArray, List.set_cons_zero, List.set_cons_succ]
  refine wpAnyH_ready (rs := [4]) (by kernel_rfl) (by simp) ?_
  refine AllReadyH.cons (o := { dst := some 30, op := Go.Op.call { callee := Go.Callee.value (Go.Operand.func 48), args := #[Go.Operand.tmp 29], argTypes := #[79] }, type := 3, pos := "port.go:107", after := #[{ on := 3, ground := Go.Ground.data }], guard := none }) rfl (fun K hK => ?_) AllReadyH.nil
  go_simp
  with_reducible refine Calls.mono (LEN.out _ HPZ.out) ?_
  rintro e y1 ⟨rfl, rfl⟩
  refine hK.out _ _ (KS.out _ K0.out) (fun hHeld => ?_)
  clear hK K
  try simp only [Act.put, List.setIfInBounds_toArray, List.set_cons_zero, List.set_cons_succ]
  refine wpAnyH_take (i := 5) (oi := { dst := some 31, op := Go.Op.binOp Go.BinOp.gtr 3 (Go.Operand.tmp 30) (Go.Operand.const (Go.Value.int Go.IntKind.i64 0)) 3, type := 4, pos := "port.go:107", after := #[{ on := 4, ground := Go.Ground.data }], guard := none }) (v := ?_) rfl (by kernel_rfl) (by kernel_rfl) (by kernel_rfl) (fun _ _ _ h => h) (Or.inl ⟨by rfl, ?_⟩) (by assumption) ?_
  rotate_left 1
  focus (intro w hSw; (try dsimp only at hSw); go_simp; try with_reducible rfl)
  try simp only [Act.put, List.setIfInBounds_toArray, List.set_cons_zero, List.set_cons_succ]
  refine wpAnyH_take (i := 6) (oi := { dst := some 32, op := Go.Op.move (Go.Operand.tmp 31), type := 4, pos := "port.go:107", after := #[{ on := 5, ground := Go.Ground.data }, { on := 4, ground := Go.Ground.chain }], guard := none }) (v := ?_) rfl (by kernel_rfl) (by kernel_rfl) (by kernel_rfl) (fun _ _ _ h => h) (Or.inl ⟨by rfl, ?_⟩) (by assumption) ?_
  rotate_left 1
  focus (intro w hSw; (try dsimp only at hSw); go_simp; try with_reducible rfl)
  try simp only [Act.put, List.setIfInBounds_toArray, List.set_cons_zero, List.set_cons_succ]
  refine wpAnyH_take (i := 7) (oi := { dst := some 33, op := Go.Op.move (Go.Operand.tmp 0), type := 25, pos := "port.go:107", after := #[{ on := 6, ground := Go.Ground.guard }], guard := some (6, true) }) (v := undef) rfl (by kernel_rfl) (by kernel_rfl) (by kernel_rfl) (fun _ _ _ h => h) (Or.inr ⟨by rfl, rfl⟩) (by assumption) ?_
  try simp only [Act.put, List.setIfInBounds_toArray, List.set_cons_zero, List.set_cons_succ]
  refine wpAnyH_take (i := 8) (oi := { dst := some 34, op := Go.Op.nilCheck (Go.Operand.tmp 33), type := 0, pos := "port.go:107", after := #[{ on := 7, ground := Go.Ground.data }, { on := 6, ground := Go.Ground.guard }], guard := some (6, true) }) (v := undef) rfl (by kernel_rfl) (by kernel_rfl) (by kernel_rfl) (fun _ _ _ h => h) (Or.inr ⟨by rfl, rfl⟩) (by assumption) ?_
  try simp only [Act.put, List.setIfInBounds_toArray, List.set_cons_zero, List.set_cons_succ]
  refine wpAnyH_take (i := 9) (oi := { dst := some 35, op := Go.Op.fieldAddr 82 (Go.Operand.tmp 34) 3, type := 0, pos := "port.go:107", after := #[{ on := 8, ground := Go.Ground.data }, { on := 6, ground := Go.Ground.guard }], guard := some (6, true) }) (v := undef) rfl (by kernel_rfl) (by kernel_rfl) (by kernel_rfl) (fun _ _ _ h => h) (Or.inr ⟨by rfl, rfl⟩) (by assumption) ?_
  try simp only [Act.put, List.setIfInBounds_toArray, List.set_cons_zero, List.set_cons_succ]
  refine wpAnyH_take (i := 10) (oi := { dst := some 36, op := Go.Op.load 80 (Go.Operand.tmp 35), type := 80, pos := "port.go:107", after := #[{ on := 9, ground := Go.Ground.data }, { on := 6, ground := Go.Ground.guard }], guard := some (6, true) }) (v := undef) rfl (by kernel_rfl) (by kernel_rfl) (by kernel_rfl) (fun _ _ _ h => h) (Or.inr ⟨by rfl, rfl⟩) (by assumption) ?_
  try simp only [Act.put, List.setIfInBounds_toArray, List.set_cons_zero, List.set_cons_succ]
  refine wpAnyH_take (i := 11) (oi := { dst := some 37, op := Go.Op.move (Go.Operand.tmp 0), type := 25, pos := "port.go:107", after := #[{ on := 6, ground := Go.Ground.guard }], guard := some (6, true) }) (v := undef) rfl (by kernel_rfl) (by kernel_rfl) (by kernel_rfl) (fun _ _ _ h => h) (Or.inr ⟨by rfl, rfl⟩) (by assumption) ?_
  try simp only [Act.put, List.setIfInBounds_toArray, List.set_cons_zero, List.set_cons_succ]
  refine wpAnyH_take (i := 12) (oi := { dst := some 38, op := Go.Op.nilCheck (Go.Operand.tmp 37), type := 0, pos := "port.go:107", after := #[{ on := 11, ground := Go.Ground.data }, { on := 6, ground := Go.Ground.guard }], guard := some (6, true) }) (v := undef) rfl (by kernel_rfl) (by kernel_rfl) (by kernel_rfl) (fun _ _ _ h => h) (Or.inr ⟨by rfl, rfl⟩) (by assumption) ?_
  try simp only [Act.put, List.setIfInBounds_toArray, List.set_cons_zero, List.set_cons_succ]
  refine wpAnyH_take (i := 13) (oi := { dst := some 39, op := Go.Op.fieldAddr 82 (Go.Operand.tmp 38) 4, type := 0, pos := "port.go:107", after := #[{ on := 12, ground := Go.Ground.data }, { on := 6, ground := Go.Ground.guard }], guard := some (6, true) }) (v := undef) rfl (by kernel_rfl) (by kernel_rfl) (by kernel_rfl) (fun _ _ _ h => h) (Or.inr ⟨by rfl, rfl⟩) (by assumption) ?_
  try simp only [Act.put, List.setIfInBounds_toArray, List.set_cons_zero, List.set_cons_succ]
  refine wpAnyH_take (i := 14) (oi := { dst := some 40, op := Go.Op.load 3 (Go.Operand.tmp 39), type := 3, pos := "port.go:107", after := #[{ on := 13, ground := Go.Ground.data }, { on := 6, ground := Go.Ground.guard }], guard := some (6, true) }) (v := undef) rfl (by kernel_rfl) (by kernel_rfl) (by kernel_rfl) (fun _ _ _ h => h) (Or.inr ⟨by rfl, rfl⟩) (by assumption) ?_
  try simp only [Act.put, List.setIfInBounds_toArray, List.set_cons_zero, List.set_cons_succ]
  refine wpAnyH_take (i := 15) (oi := { dst := some 41, op := Go.Op.call { callee := Go.Callee.value (Go.Operand.func 49), args := #[Go.Operand.tmp 36, Go.Operand.tmp 40], argTypes := #[80, 3] }, type := 4, pos := "port.go:107", after := #[{ on := 10, ground := Go.Ground.data }, { on := 14, ground := Go.Ground.data }, { on := 6, ground := Go.Ground.chain }, { on := 6, ground := Go.Ground.guard }], guard := some (6, true) }) (v := undef) rfl (by kernel_rfl) (by kernel_rfl) (by kernel_rfl) (fun _ _ _ h => h) (Or.inr ⟨by rfl, rfl⟩) (by assumption) ?_
  try simp only [Act.put, List.setIfInBounds_toArray, List.set_cons_zero, List.set_cons_succ]
  refine wpAnyH_take (i := 16) (oi := { dst := some 42, op := Go.Op.pick (Go.Operand.tmp 32) (Go.Operand.tmp 41) (Go.Operand.const (Go.Value.bool false)), type := 4, pos := "port.go:107", after := #[{ on := 6, ground := Go.Ground.data }, { on := 15, ground := Go.Ground.data }], guard := none }) (v := ?_) rfl (by kernel_rfl) (by kernel_rfl) (by kernel_rfl) (fun _ _ _ h => h) (Or.inl ⟨by rfl, ?_⟩) (by assumption) ?_
  rotate_left 1
  focus (intro w hSw; (try dsimp only at hSw); go_simp; try with_reducible rfl)
  try simp only [Act.put, List.setIfInBounds_toArray, List.set_cons_zero, List.set_cons_succ]
  refine wpAnyH_done (by kernel_rfl) ?_ _
  clear E0 KS K0 HP2 HO2 HK2 LEN 
  have hsz : rb < z0.heap.size := HOZ.out.lt
  go_wp2_with fail
  with_reducible refine Calls.mono (HPOP.out _ HPZ.out hsz) ?_
  rintro e w4 ⟨x, p, ok, rfl, hPo, G, hkG, hG⟩
  have HPO := Lib.hid hPo
  have hO4 := hkG.blk HOZ.out (fun g => by have := hG _ g; omega)
  clear hPo hkG hG HPOP
  obtain ⟨⟨x1, x2, x3, x4, x5, x6, x7, x8, x9, xd⟩, xa, xc, xq⟩ := x
  go_upto_region 8 with fail
  have hI := Blk.new w4 [.int .i64 x1, .int .i64 x2, .int .i64 x3, .int .i64 x4, .int .u64 (x5 : Int), .int .i64 x6, .int .i64 x7, .int .i64 x8, .int .i64 x9, .slice xa xd.length xc, .int .i64 xq] 40
  have hk5 := (Kept.refl (fun _ => False) w4).alloc (.cells [.int .i64 x1, .int .i64 x2, .int .i64 x3, .int .i64 x4, .int .u64 (x5 : Int), .int .i64 x6, .int .i64 x7, .int .i64 x8, .int .i64 x9, .slice xa xd.length xc, .int .i64 xq].toArray 40)
  have hO5 := hk5.blk hO4 (fun f => f)
  have hob : rb < w4.heap.size := hO4.lt
  dsimp only [List.toArray] at hI hk5 hO5
  generalize w4.alloc (.cells #[.int .i64 x1, .int .i64 x2, .int .i64 x3, .int .i64 x4, .int .u64 (x5 : Int), .int .i64 x6, .int .i64 x7, .int .i64 x8, .int .i64 x9, .slice xa xd.length xc, .int .i64 xq] 40) = w5 at *
  generalize w4.heap.size = ob at *
  have c0 := hI.cell (o := 0) rfl
  have c1 := hI.cell (o := 1) rfl
  have c2 := hI.cell (o := 2) rfl
  have c3 := hI.cell (o := 3) rfl
  have c4 := hI.cell (o := 4) rfl
  have c5 := hI.cell (o := 5) rfl
  have c6 := hI.cell (o := 6) rfl
  have c7 := hI.cell (o := 7) rfl
  have c8 := hI.cell (o := 8) rfl
  have c9 := hI.cell (o := 9) rfl
  have c10 := hI.cell (o := 10) rfl
  have n0 := hO5.cell (o := 0) rfl
  have n1 := hO5.cell (o := 1) rfl
  have n2 := hO5.cell (o := 2) rfl
  have n3 := hO5.cell (o := 3) rfl
  have n4 := hO5.cell (o := 4) rfl
  have n5 := hO5.cell (o := 5) rfl
  have n6 := hO5.cell (o := 6) rfl
  have n7 := hO5.cell (o := 7) rfl
  have n8 := hO5.cell (o := 8) rfl
  have n9 := hO5.cell (o := 9) rfl
  have n10 := hO5.cell (o := 10) rfl
  have fz0 := hO5.frozen 0
  have fz1 := hO5.frozen 1
  have fz2 := hO5.frozen 2
  have fz3 := hO5.frozen 3
  have fz4 := hO5.frozen 4
  have fz5 := hO5.frozen 5
  have fz6 := hO5.frozen 6
  have fz7 := hO5.frozen 7
  have fz8 := hO5.frozen 8
  have fz9 := hO5.frozen 9
  have fz10 := hO5.frozen 10
  have hO6 := set11_blk hO5 rfl ⟨⟨x1, x2, x3, x4, x5, x6, x7, x8, x9, xd⟩, xa, xc, xq⟩
  have k6 := set11_kept w5 rb ⟨⟨x1, x2, x3, x4, x5, x6, x7, x8, x9, xd⟩, xa, xc, xq⟩
  have HK6 : Hid (Kept (fun i => i = rb) w4 (set11 w5 rb ⟨⟨x1, x2, x3, x4, x5, x6, x7, x8, x9, xd⟩, xa, xc, xq⟩)) := Lib.hid ((hk5.mono (fun _ _ f => f.elim)).trans k6)
  unfold set11 at HK6 hO6
  dsimp only at HK6 hO6
  have z0 := hO6.cell (o := 0) rfl
  have z1 := hO6.cell (o := 1) rfl
  have z2 := hO6.cell (o := 2) rfl
  have z3 := hO6.cell (o := 3) rfl
  have z4 := hO6.cell (o := 4) rfl
  have z5 := hO6.cell (o := 5) rfl
  have z6 := hO6.cell (o := 6) rfl
  have z7 := hO6.cell (o := 7) rfl
  have z8 := hO6.cell (o := 8) rfl
  have z9 := hO6.cell (o := 9) rfl
  have z10 := hO6.cell (o := 10) rfl
  clear hI hO5 hO6 k6 hk5 hO4
  go_wp2_with fail
  exact bodyPost_ret (v := .tuple #[bv ⟨⟨x1, x2, x3, x4, x5, x6, x7, x8, x9, xd⟩, xa, xc, xq⟩, .bool ok]) (by simp [results, Try.results13, go_sem, z0, z1, z2, z3, z4, z5, z6, z7, z8, z9, z10]) rfl ⟨_, _, _, _, rfl, HKZ.out, by have := HRB.out; omega, HPZ.out, HPO.out, by rw [HRB.out]; exact HK6.out⟩
set_option maxRecDepth 100000 in
set_option maxHeartbeats 8000000 in
theorem take_no {t m : Int} (hp : Prt w0 b qf qc pb room most trim ls cr now nxt Ff Fc w) (hmt : clampI t now 1125899906842624 = m) (hcr : 0 < cr.length) (hl : cr.length ≤ 1000000) (hm : m < nxt) {Post : Bx → Bool → World → World → Prop}
    (hPop : ∀ w', Prt w0 b qf qc pb room most trim ls cr m nxt Ff Fc w' → w.heap.size < w'.heap.size → Calls Try.prog 50 #[.pointer (some ⟨qf, 0, none⟩)] w' fun e w'' => ∃ x p ok, e = .returned (.tuple #[bv x, .int .i64 p, .bool ok]) ∧ Post x ok w' w'' ∧ ∃ G : Nat → Prop, Kept G w' w'' ∧ ∀ i, G i → i < w.heap.size) :
    Calls Try.prog 13 #[.pointer (some ⟨b, 0, none⟩), .int .i64 t] w fun e w' => ∃ x ok w3 w4, e = .returned (.tuple #[bv x, .bool ok]) ∧ Kept (fun i => i = b ∨ i = pb) w w3 ∧ w.heap.size < w3.heap.size ∧ Prt w0 b qf qc pb room most trim ls cr m nxt Ff Fc w3 ∧ Post x ok w3 w4 ∧ Kept (fun i => i = w.heap.size) w4 w' := by
  have CLI := Lib.hid fun (w' : World) => clampInt_any t now 1125899906842624 w'
  have hmb := clampI_bd t hp.nw.2.1
  rw [hmt] at CLI hmb
  have hn0 := hp.nw.1
  have hx0 := hp.nw.2.2
  have hbl := hp.blk.lt
  have hpl := Blk.lt hp.pace
  have HPOP := Lib.hid hPop
  have HP := Lib.hid hp
  have LEN := Lib.hid fun (w' : World) (h : Prt w0 b qf qc pb room most trim ls cr m nxt Ff Fc w') => len_any h.cq (by rw [cnt_crl]; exact hl)
  rw [cnt_crl] at LEN
  have hat : Pc.atN m = m := clampI_in (by omega) (by omega)
  have GO := Lib.hid fun (w' : World) (h : Prt w0 b qf qc pb room most trim ls cr m nxt Ff Fc w') => Pc.go_no h.pace m (by rw [hat]; exact hm)
  clear hat
  have hcn : (0 : Int) < ((cr.length : Nat) : Int) := by omega
  have hcd : decide ((0 : Int) < ((cr.length : Nat) : Int)) = true := decide_eq_true hcn
  generalize cr.length = cn at *
  clear hPop hp hmt
  go_enter Try.func13, Try.ntmps13
  go_upto_region 3 with fail
  have hO := Blk.new w [.int .i64 0, .int .i64 0, .int .i64 0, .int .i64 0, .int .u64 0, .int .i64 0, .int .i64 0, .int .i64 0, .int .i64 0, .slice none 0 0, .int .i64 0] 40
  have hk1 := (Kept.refl (fun _ => False) w).alloc (.cells [.int .i64 0, .int .i64 0, .int .i64 0, .int .i64 0, .int .u64 0, .int .i64 0, .int .i64 0, .int .i64 0, .int .i64 0, .slice none 0 0, .int .i64 0].toArray 40)
  dsimp only [List.toArray] at hO hk1
  generalize w.alloc (.cells #[.int .i64 0, .int .i64 0, .int .i64 0, .int .i64 0, .int .u64 0, .int .i64 0, .int .i64 0, .int .i64 0, .int .i64 0, .slice none 0 0, .int .i64 0] 40) = w1 at *
  obtain ⟨rb, hrb⟩ : ∃ rb, w.heap.size = rb := ⟨_, rfl⟩
  rw [hrb] at hO hbl hpl HPOP
  simp only [hrb]
  have HRB := Lib.hid hrb
  have HP1 := Lib.hid (HP.out.old hk1)
  have HK1 := Lib.hid hk1
  have HO1 := Lib.hid hO
  clear hrb hk1 hO HP
  have d4 := HP1.out.blk.cell (o := 4) rfl
  have f4 := HP1.out.blk.frozen 4
  go_upto_region 4 with (first | (go_at_call 47; refine (CLI.out _).mono ?_; rintro e w' ⟨rfl, rfl⟩))
  have HP2 := Lib.hid (HP1.out.setNow ⟨by omega, hmb.2⟩ (m := m))
  have k2 := Kept.one w1 b 4 (.int .i64 m)
  have HO2 := Lib.hid (k2.blk HO1.out (by omega))
  have HK2 : Hid (Kept (fun i => i = b ∨ i = pb) w (w1.setCell ⟨b, 4, none⟩ (.int .i64 m))) := Lib.hid ((HK1.out.mono (fun _ _ f => f.elim)).trans (k2.mono (fun _ _ e => Or.inl e)))
  generalize w1.setCell ⟨b, 4, none⟩ (.int .i64 m) = w2 at *
  clear d4 f4 k2 HP1 HO1 HK1 CLI
  have d1 := HP2.out.blk.cell (o := 1) rfl
  go_upto_region 5 with fail
  have E0 := Lib.hid (Kept.refl (fun _ => False) w2)
  have KS : Hid (∀ w', Kept (fun i => i = pb) w2 w' → w'.cell? ⟨b, 2, none⟩ = some (.pointer (some ⟨qc, 0, none⟩)) ∧ w'.cell? ⟨b, 3, none⟩ = some (.pointer (some ⟨pb, 0, none⟩)) ∧ w'.cell? ⟨b, 4, none⟩ = some (.int .i64 m)) := by
    refine Lib.hid fun w' k => ?_
    have h1 := k.blk HP2.out.blk (fun e => HP2.out.npf.2.2 e)
    exact ⟨h1.cell rfl, h1.cell rfl, h1.cell rfl⟩
  have HPZ := Lib.hid (HP2.out.old E0.out.drew)
  have HOZ := Lib.hid (E0.out.drew.blk HO2.out (fun f => f))
  have HKZ := Lib.hid (HK2.out.drew)
  have K0 : Hid (Kept (fun i => i = pb) w2 w2.drew) := Lib.hid (E0.out.drew.mono (fun _ _ f => f.elim))
  clear d1
  refine wp_region_held_drew (S := (fun w' => w'.cell? ⟨b, 2, none⟩ = some (.pointer (some ⟨qc, 0, none⟩)) ∧ w'.cell? ⟨b, 3, none⟩ = some (.pointer (some ⟨pb, 0, none⟩)) ∧ w'.cell? ⟨b, 4, none⟩ = some (.int .i64 m))) (by kernel_rfl) (KS.out _ K0.out) (fun hHeld => ?_)
  generalize w2.drew = z0 at *
  refine wpAnyH_take (i := 0) (oi := { dst := some 26, op := Go.Op.move (Go.Operand.tmp 0), type := 25, pos := "port.go:107", after := #[], guard := none }) (v := ?_) rfl (by kernel_rfl) (by kernel_rfl) (by kernel_rfl) (fun _ _ _ h => h) (Or.inl ⟨by rfl, ?_⟩) (by assumption) ?_
  rotate_left 1
  focus (intro w hSw; (try dsimp only at hSw); go_simp; try with_reducible rfl)
  try simp only [Act.put, List.setIfInBounds_toArray, List.set_cons_zero, List.set_cons_succ]
  refine wpAnyH_take (i := 1) (oi := { dst := some 27, op := Go.Op.nilCheck (Go.Operand.tmp 26), type := 0, pos := "port.go:107", after := #[{ on := 0, ground := Go.Ground.data }], guard := none }) (v := ?_) rfl (by kernel_rfl) (by kernel_rfl) (by kernel_rfl) (fun _ _ _ h => h) (Or.inl ⟨by rfl, ?_⟩) (by assumption) ?_
  rotate_left 1
  focus (intro w hSw; (try dsimp only at hSw); go_simp; try with_reducible rfl)
  try simp only [Act.put, List.setIfInBounds_toArray, List.set_cons_zero, List.set_cons_succ]
  refine wpAnyH_take (i := 2) (oi := { dst := some 28, op := Go.Op.fieldAddr 82 (Go.Operand.tmp 27) 2, type := 0, pos := "port.go:107", after := #[{ on := 1, ground := Go.Ground.data }], guard := none }) (v := ?_) rfl (by kernel_rfl) (by kernel_rfl) (by kernel_rfl) (fun _ _ _ h => h) (Or.inl ⟨by rfl, ?_⟩) (by assumption) ?_
  rotate_left 1
  focus (intro w hSw; (try dsimp only at hSw); go_simp; try with_reducible rfl)
  try simp only [Act.put, List.setIfInBounds_toArray, List.set_cons_zero, List.set_cons_succ]
  refine wpAnyH_take (i := 3) (oi := { dst := some 29, op := Go.Op.load 79 (Go.Operand.tmp 28), type := 79, pos := "port.go:107", after := #[{ on := 2, ground := Go.Ground.data }], guard := none }) (v := ?_) rfl (by kernel_rfl) (by kernel_rfl) (by kernel_rfl) (fun _ _ _ h => h) (Or.inl ⟨by rfl, ?_⟩) (by assumption) ?_
  rotate_left 1
  focus (intro w hSw; (try dsimp only at hSw); go_simp; try with_reducible rfl)
  try simp only [Act.put, List.setIfInBounds_toArray, List.set_cons_zero, List.set_cons_succ]
  refine wpAnyH_ready (rs := [4]) (by kernel_rfl) (by simp) ?_
  refine AllReadyH.cons (o := { dst := some 30, op := Go.Op.call { callee := Go.Callee.value (Go.Operand.func 48), args := #[Go.Operand.tmp 29], argTypes := #[79] }, type := 3, pos := "port.go:107", after := #[{ on := 3, ground := Go.Ground.data }], guard := none }) rfl (fun K hK => ?_) AllReadyH.nil
  go_simp
  with_reducible refine Calls.mono (LEN.out _ HPZ.out) ?_
  rintro e y1 ⟨rfl, rfl⟩
  refine hK.out _ _ (KS.out _ K0.out) (fun hHeld => ?_)
  clear hK K
  try simp only [Act.put, List.setIfInBounds_toArray, List.set_cons_zero, List.set_cons_succ]
  refine wpAnyH_take (i := 5) (oi := { dst := some 31, op := Go.Op.binOp Go.BinOp.gtr 3 (Go.Operand.tmp 30) (Go.Operand.const (Go.Value.int Go.IntKind.i64 0)) 3, type := 4, pos := "port.go:107", after := #[{ on := 4, ground := Go.Ground.data }], guard := none }) (v := ?_) rfl (by kernel_rfl) (by kernel_rfl) (by kernel_rfl) (fun _ _ _ h => h) (Or.inl ⟨by rfl, ?_⟩) (by assumption) ?_
  rotate_left 1
  focus (intro w hSw; (try dsimp only at hSw); go_simp; try with_reducible rfl)
  try simp only [Act.put, List.setIfInBounds_toArray, List.set_cons_zero, List.set_cons_succ]
  refine wpAnyH_take (i := 6) (oi := { dst := some 32, op := Go.Op.move (Go.Operand.tmp 31), type := 4, pos := "port.go:107", after := #[{ on := 5, ground := Go.Ground.data }, { on := 4, ground := Go.Ground.chain }], guard := none }) (v := ?_) rfl (by kernel_rfl) (by kernel_rfl) (by kernel_rfl) (fun _ _ _ h => h) (Or.inl ⟨by rfl, ?_⟩) (by assumption) ?_
  rotate_left 1
  focus (intro w hSw; (try dsimp only at hSw); go_simp; try with_reducible rfl)
  try simp only [Act.put, List.setIfInBounds_toArray, List.set_cons_zero, List.set_cons_succ]
  refine wpAnyH_take (i := 7) (oi := { dst := some 33, op := Go.Op.move (Go.Operand.tmp 0), type := 25, pos := "port.go:107", after := #[{ on := 6, ground := Go.Ground.guard }], guard := some (6, true) }) (v := ?_) rfl (by kernel_rfl) (by kernel_rfl) (by kernel_rfl) (fun _ _ _ h => h) (Or.inl ⟨by rfl, ?_⟩) (by assumption) ?_
  rotate_left 1
  focus (intro w hSw; (try dsimp only at hSw); go_simp; try with_reducible rfl)
  try simp only [Act.put, List.setIfInBounds_toArray, List.set_cons_zero, List.set_cons_succ]
  refine wpAnyH_take (i := 8) (oi := { dst := some 34, op := Go.Op.nilCheck (Go.Operand.tmp 33), type := 0, pos := "port.go:107", after := #[{ on := 7, ground := Go.Ground.data }, { on := 6, ground := Go.Ground.guard }], guard := some (6, true) }) (v := ?_) rfl (by kernel_rfl) (by kernel_rfl) (by kernel_rfl) (fun _ _ _ h => h) (Or.inl ⟨by rfl, ?_⟩) (by assumption) ?_
  rotate_left 1
  focus (intro w hSw; (try dsimp only at hSw); go_simp; try with_reducible rfl)
  try simp only [Act.put, List.setIfInBounds_toArray, List.set_cons_zero, List.set_cons_succ]
  refine wpAnyH_take (i := 9) (oi := { dst := some 35, op := Go.Op.fieldAddr 82 (Go.Operand.tmp 34) 3, type := 0, pos := "port.go:107", after := #[{ on := 8, ground := Go.Ground.data }, { on := 6, ground := Go.Ground.guard }], guard := some (6, true) }) (v := ?_) rfl (by kernel_rfl) (by kernel_rfl) (by kernel_rfl) (fun _ _ _ h => h) (Or.inl ⟨by rfl, ?_⟩) (by assumption) ?_
  rotate_left 1
  focus (intro w hSw; (try dsimp only at hSw); go_simp; try with_reducible rfl)
  try simp only [Act.put, List.setIfInBounds_toArray, List.set_cons_zero, List.set_cons_succ]
  refine wpAnyH_take (i := 10) (oi := { dst := some 36, op := Go.Op.load 80 (Go.Operand.tmp 35), type := 80, pos := "port.go:107", after := #[{ on := 9, ground := Go.Ground.data }, { on := 6, ground := Go.Ground.guard }], guard := some (6, true) }) (v := ?_) rfl (by kernel_rfl) (by kernel_rfl) (by kernel_rfl) (fun _ _ _ h => h) (Or.inl ⟨by rfl, ?_⟩) (by assumption) ?_
  rotate_left 1
  focus (intro w hSw; (try dsimp only at hSw); go_simp; try with_reducible rfl)
  try simp only [Act.put, List.setIfInBounds_toArray, List.set_cons_zero, List.set_cons_succ]
  refine wpAnyH_take (i := 11) (oi := { dst := some 37, op := Go.Op.move (Go.Operand.tmp 0), type := 25, pos := "port.go:107", after := #[{ on := 6, ground := Go.Ground.guard }], guard := some (6, true) }) (v := ?_) rfl (by kernel_rfl) (by kernel_rfl) (by kernel_rfl) (fun _ _ _ h => h) (Or.inl ⟨by rfl, ?_⟩) (by assumption) ?_
  rotate_left 1
  focus (intro w hSw; (try dsimp only at hSw); go_simp; try with_reducible rfl)
  try simp only [Act.put, List.setIfInBounds_toArray, List.set_cons_zero, List.set_cons_succ]
  refine wpAnyH_take (i := 12) (oi := { dst := some 38, op := Go.Op.nilCheck (Go.Operand.tmp 37), type := 0, pos := "port.go:107", after := #[{ on := 11, ground := Go.Ground.data }, { on := 6, ground := Go.Ground.guard }], guard := some (6, true) }) (v := ?_) rfl (by kernel_rfl) (by kernel_rfl) (by kernel_rfl) (fun _ _ _ h => h) (Or.inl ⟨by rfl, ?_⟩) (by assumption) ?_
  rotate_left 1
  focus (intro w hSw; (try dsimp only at hSw); go_simp; try with_reducible rfl)
  try simp only [Act.put, List.setIfInBounds_toArray, List.set_cons_zero, List.set_cons_succ]
  refine wpAnyH_take (i := 13) (oi := { dst := some 39, op := Go.Op.fieldAddr 82 (Go.Operand.tmp 38) 4, type := 0, pos := "port.go:107", after := #[{ on := 12, ground := Go.Ground.data }, { on := 6, ground := Go.Ground.guard }], guard := some (6, true) }) (v := ?_) rfl (by kernel_rfl) (by kernel_rfl) (by kernel_rfl) (fun _ _ _ h => h) (Or.inl ⟨by rfl, ?_⟩) (by assumption) ?_
  rotate_left 1
  focus (intro w hSw; (try dsimp only at hSw); go_simp; try with_reducible rfl)
  try simp only [Act.put, List.setIfInBounds_toArray, List.set_cons_zero, List.set_cons_succ]
  refine wpAnyH_take (i := 14) (oi := { dst := some 40, op := Go.Op.load 3 (Go.Operand.tmp 39), type := 3, pos := "port.go:107", after := #[{ on := 13, ground := Go.Ground.data }, { on := 6, ground := Go.Ground.guard }], guard := some (6, true) }) (v := ?_) rfl (by kernel_rfl) (by kernel_rfl) (by kernel_rfl) (fun _ _ _ h => h) (Or.inl ⟨by rfl, ?_⟩) (by assumption) ?_
  rotate_left 1
  focus (intro w hSw; (try dsimp only at hSw); go_simp; try with_reducible rfl)
  try simp only [Act.put, List.setIfInBounds_toArray, List.set_cons_zero, List.set_cons_succ]
  refine wpAnyH_ready (rs := [15]) (by kernel_rfl) (by simp) ?_
  refine AllReadyH.cons (o := { dst := some 41, op := Go.Op.call { callee := Go.Callee.value (Go.Operand.func 49), args := #[Go.Operand.tmp 36, Go.Operand.tmp 40], argTypes := #[80, 3] }, type := 4, pos := "port.go:107", after := #[{ on := 10, ground := Go.Ground.data }, { on := 14, ground := Go.Ground.data }, { on := 6, ground := Go.Ground.chain }, { on := 6, ground := Go.Ground.guard }], guard := some (6, true) }) rfl (fun K hK => ?_) AllReadyH.nil
  go_simp
  with_reducible refine Calls.mono (GO.out _ HPZ.out) ?_
  rintro e y2 ⟨rfl, hpp, hk9⟩
  have K0 := Lib.hid (K0.out.trans hk9)
  have HPZ := Lib.hid (HPZ.out.setPace (by omega) hpp hk9)
  have HOZ := Lib.hid (hk9.blk HOZ.out (by omega))
  have HKZ := Lib.hid (HKZ.out.trans (hk9.mono (fun _ _ e => Or.inr e)))
  clear hpp hk9
  refine hK.out _ _ (KS.out _ K0.out) (fun hHeld => ?_)
  clear hK K
  try simp only [Act.put, List.setIfInBounds_toArray, List.set_cons_zero, List.set_cons_succ]
  refine wpAnyH_take (i := 16) (oi := { dst := some 42, op := Go.Op.pick (Go.Operand.tmp 32) (Go.Operand.tmp 41) (Go.Operand.const (Go.Value.bool false)), type := 4, pos := "port.go:107", after := #[{ on := 6, ground := Go.Ground.data }, { on := 15, ground := Go.Ground.data }], guard := none }) (v := ?_) rfl (by kernel_rfl) (by kernel_rfl) (by kernel_rfl) (fun _ _ _ h => h) (Or.inl ⟨by rfl, ?_⟩) (by assumption) ?_
  rotate_left 1
  focus (intro w hSw; (try dsimp only at hSw); go_simp; try with_reducible rfl)
  try simp only [Act.put, List.setIfInBounds_toArray, List.set_cons_zero, List.set_cons_succ]
  refine wpAnyH_done (by kernel_rfl) ?_ _
  clear E0 KS K0 HP2 HO2 HK2 LEN GO
  have hsz : rb < y2.heap.size := HOZ.out.lt
  go_wp2_with fail
  with_reducible refine Calls.mono (HPOP.out _ HPZ.out hsz) ?_
  rintro e w4 ⟨x, p, ok, rfl, hPo, G, hkG, hG⟩
  have HPO := Lib.hid hPo
  have hO4 := hkG.blk HOZ.out (fun g => by have := hG _ g; omega)
  clear hPo hkG hG HPOP
  obtain ⟨⟨x1, x2, x3, x4, x5, x6, x7, x8, x9, xd⟩, xa, xc, xq⟩ := x
  go_upto_region 8 with fail
  have hI := Blk.new w4 [.int .i64 x1, .int .i64 x2, .int .i64 x3, .int .i64 x4, .int .u64 (x5 : Int), .int .i64 x6, .int .i64 x7, .int .i64 x8, .int .i64 x9, .slice xa xd.length xc, .int .i64 xq] 40
  have hk5 := (Kept.refl (fun _ => False) w4).alloc (.cells [.int .i64 x1, .int .i64 x2, .int .i64 x3, .int .i64 x4, .int .u64 (x5 : Int), .int .i64 x6, .int .i64 x7, .int .i64 x8, .int .i64 x9, .slice xa xd.length xc, .int .i64 xq].toArray 40)
  have hO5 := hk5.blk hO4 (fun f => f)
  have hob : rb < w4.heap.size := hO4.lt
  dsimp only [List.toArray] at hI hk5 hO5
  generalize w4.alloc (.cells #[.int .i64 x1, .int .i64 x2, .int .i64 x3, .int .i64 x4, .int .u64 (x5 : Int), .int .i64 x6, .int .i64 x7, .int .i64 x8, .int .i64 x9, .slice xa xd.length xc, .int .i64 xq] 40) = w5 at *
  generalize w4.heap.size = ob at *
  have c0 := hI.cell (o := 0) rfl
  have c1 := hI.cell (o := 1) rfl
  have c2 := hI.cell (o := 2) rfl
  have c3 := hI.cell (o := 3) rfl
  have c4 := hI.cell (o := 4) rfl
  have c5 := hI.cell (o := 5) rfl
  have c6 := hI.cell (o := 6) rfl
  have c7 := hI.cell (o := 7) rfl
  have c8 := hI.cell (o := 8) rfl
  have c9 := hI.cell (o := 9) rfl
  have c10 := hI.cell (o := 10) rfl
  have n0 := hO5.cell (o := 0) rfl
  have n1 := hO5.cell (o := 1) rfl
  have n2 := hO5.cell (o := 2) rfl
  have n3 := hO5.cell (o := 3) rfl
  have n4 := hO5.cell (o := 4) rfl
  have n5 := hO5.cell (o := 5) rfl
  have n6 := hO5.cell (o := 6) rfl
  have n7 := hO5.cell (o := 7) rfl
  have n8 := hO5.cell (o := 8) rfl
  have n9 := hO5.cell (o := 9) rfl
  have n10 := hO5.cell (o := 10) rfl
  have fz0 := hO5.frozen 0
  have fz1 := hO5.frozen 1
  have fz2 := hO5.frozen 2
  have fz3 := hO5.frozen 3
  have fz4 := hO5.frozen 4
  have fz5 := hO5.frozen 5
  have fz6 := hO5.frozen 6
  have fz7 := hO5.frozen 7
  have fz8 := hO5.frozen 8
  have fz9 := hO5.frozen 9
  have fz10 := hO5.frozen 10
  have hO6 := set11_blk hO5 rfl ⟨⟨x1, x2, x3, x4, x5, x6, x7, x8, x9, xd⟩, xa, xc, xq⟩
  have k6 := set11_kept w5 rb ⟨⟨x1, x2, x3, x4, x5, x6, x7, x8, x9, xd⟩, xa, xc, xq⟩
  have HK6 : Hid (Kept (fun i => i = rb) w4 (set11 w5 rb ⟨⟨x1, x2, x3, x4, x5, x6, x7, x8, x9, xd⟩, xa, xc, xq⟩)) := Lib.hid ((hk5.mono (fun _ _ f => f.elim)).trans k6)
  unfold set11 at HK6 hO6
  dsimp only at HK6 hO6
  have z0 := hO6.cell (o := 0) rfl
  have z1 := hO6.cell (o := 1) rfl
  have z2 := hO6.cell (o := 2) rfl
  have z3 := hO6.cell (o := 3) rfl
  have z4 := hO6.cell (o := 4) rfl
  have z5 := hO6.cell (o := 5) rfl
  have z6 := hO6.cell (o := 6) rfl
  have z7 := hO6.cell (o := 7) rfl
  have z8 := hO6.cell (o := 8) rfl
  have z9 := hO6.cell (o := 9) rfl
  have z10 := hO6.cell (o := 10) rfl
  clear hI hO5 hO6 k6 hk5 hO4
  go_wp2_with fail
  exact bodyPost_ret (v := .tuple #[bv ⟨⟨x1, x2, x3, x4, x5, x6, x7, x8, x9, xd⟩, xa, xc, xq⟩, .bool ok]) (by simp [results, Try.results13, go_sem, z0, z1, z2, z3, z4, z5, z6, z7, z8, z9, z10]) rfl ⟨_, _, _, _, rfl, HKZ.out, by have := HRB.out; omega, HPZ.out, HPO.out, by rw [HRB.out]; exact HK6.out⟩
set_option maxRecDepth 100000 in
set_option maxHeartbeats 8000000 in
theorem take_go {t m : Int} (hp : Prt w0 b qf qc pb room most trim ls cr now nxt Ff Fc w) (hmt : clampI t now 1125899906842624 = m) (hcr : 0 < cr.length) (hl : cr.length ≤ 1000000) (hm : nxt ≤ m) {Post : Bx → Bool → World → World → Prop}
    (hPop : ∀ w', Prt w0 b qf qc pb room most trim ls cr m (m + 4) Ff Fc w' → w.heap.size < w'.heap.size → Calls Try.prog 50 #[.pointer (some ⟨qc, 0, none⟩)] w' fun e w'' => ∃ x p ok, e = .returned (.tuple #[bv x, .int .i64 p, .bool ok]) ∧ Post x ok w' w'' ∧ ∃ G : Nat → Prop, Kept G w' w'' ∧ ∀ i, G i → i < w.heap.size) :
    Calls Try.prog 13 #[.pointer (some ⟨b, 0, none⟩), .int .i64 t] w fun e w' => ∃ x ok w3 w4, e = .returned (.tuple #[bv x, .bool ok]) ∧ Kept (fun i => i = b ∨ i = pb) w w3 ∧ w.heap.size < w3.heap.size ∧ Prt w0 b qf qc pb room most trim ls cr m (m + 4) Ff Fc w3 ∧ Post x ok w3 w4 ∧ Kept (fun i => i = w.heap.size) w4 w' := by
  have CLI := Lib.hid fun (w' : World) => clampInt_any t now 1125899906842624 w'
  have hmb := clampI_bd t hp.nw.2.1
  rw [hmt] at CLI hmb
  have hn0 := hp.nw.1
  have hx0 := hp.nw.2.2
  have hbl := hp.blk.lt
  have hpl := Blk.lt hp.pace
  have HPOP := Lib.hid hPop
  have HP := Lib.hid hp
  have LEN := Lib.hid fun (w' : World) (h : Prt w0 b qf qc pb room most trim ls cr m nxt Ff Fc w') => len_any h.cq (by rw [cnt_crl]; exact hl)
  rw [cnt_crl] at LEN
  have hat : Pc.atN m = m := clampI_in (by omega) (by omega)
  have GO := Lib.hid fun (w' : World) (h : Prt w0 b qf qc pb room most trim ls cr m nxt Ff Fc w') => Pc.go_yes h.pace ⟨by decide, by decide⟩ m (by rw [hat]; exact hm)
  rw [hat] at GO
  have hcn : (0 : Int) < ((cr.length : Nat) : Int) := by omega
  have hcd : decide ((0 : Int) < ((cr.length : Nat) : Int)) = true := decide_eq_true hcn
  generalize cr.length = cn at *
  clear hPop hp hmt
  go_enter Try.func13, Try.ntmps13
  go_upto_region 3 with fail
  have hO := Blk.new w [.int .i64 0, .int .i64 0, .int .i64 0, .int .i64 0, .int .u64 0, .int .i64 0, .int .i64 0, .int .i64 0, .int .i64 0, .slice none 0 0, .int .i64 0] 40
  have hk1 := (Kept.refl (fun _ => False) w).alloc (.cells [.int .i64 0, .int .i64 0, .int .i64 0, .int .i64 0, .int .u64 0, .int .i64 0, .int .i64 0, .int .i64 0, .int .i64 0, .slice none 0 0, .int .i64 0].toArray 40)
  dsimp only [List.toArray] at hO hk1
  generalize w.alloc (.cells #[.int .i64 0, .int .i64 0, .int .i64 0, .int .i64 0, .int .u64 0, .int .i64 0, .int .i64 0, .int .i64 0, .int .i64 0, .slice none 0 0, .int .i64 0] 40) = w1 at *
  obtain ⟨rb, hrb⟩ : ∃ rb, w.heap.size = rb := ⟨_, rfl⟩
  rw [hrb] at hO hbl hpl HPOP
  simp only [hrb]
  have HRB := Lib.hid hrb
  have HP1 := Lib.hid (HP.out.old hk1)
  have HK1 := Lib.hid hk1
  have HO1 := Lib.hid hO
  clear hrb hk1 hO HP
  have d4 := HP1.out.blk.cell (o := 4) rfl
  have f4 := HP1.out.blk.frozen 4
  go_upto_region 4 with (first | (go_at_call 47; refine (CLI.out _).mono ?_; rintro e w' ⟨rfl, rfl⟩))
  have HP2 := Lib.hid (HP1.out.setNow ⟨by omega, hmb.2⟩ (m := m))
  have k2 := Kept.one w1 b 4 (.int .i64 m)
  have HO2 := Lib.hid (k2.blk HO1.out (by omega))
  have HK2 : Hid (Kept (fun i => i = b ∨ i = pb) w (w1.setCell ⟨b, 4, none⟩ (.int .i64 m))) := Lib.hid ((HK1.out.mono (fun _ _ f => f.elim)).trans (k2.mono (fun _ _ e => Or.inl e)))
  generalize w1.setCell ⟨b, 4, none⟩ (.int .i64 m) = w2 at *
  clear d4 f4 k2 HP1 HO1 HK1 CLI
  have d1 := HP2.out.blk.cell (o := 1) rfl
  go_upto_region 5 with fail
  have E0 := Lib.hid (Kept.refl (fun _ => False) w2)
  have KS : Hid (∀ w', Kept (fun i => i = pb) w2 w' → w'.cell? ⟨b, 2, none⟩ = some (.pointer (some ⟨qc, 0, none⟩)) ∧ w'.cell? ⟨b, 3, none⟩ = some (.pointer (some ⟨pb, 0, none⟩)) ∧ w'.cell? ⟨b, 4, none⟩ = some (.int .i64 m)) := by
    refine Lib.hid fun w' k => ?_
    have h1 := k.blk HP2.out.blk (fun e => HP2.out.npf.2.2 e)
    exact ⟨h1.cell rfl, h1.cell rfl, h1.cell rfl⟩
  have HPZ := Lib.hid (HP2.out.old E0.out.drew)
  have HOZ := Lib.hid (E0.out.drew.blk HO2.out (fun f => f))
  have HKZ := Lib.hid (HK2.out.drew)
  have K0 : Hid (Kept (fun i => i = pb) w2 w2.drew) := Lib.hid (E0.out.drew.mono (fun _ _ f => f.elim))
  clear d1
  refine wp_region_held_drew (S := (fun w' => w'.cell? ⟨b, 2, none⟩ = some (.pointer (some ⟨qc, 0, none⟩)) ∧ w'.cell? ⟨b, 3, none⟩ = some (.pointer (some ⟨pb, 0, none⟩)) ∧ w'.cell? ⟨b, 4, none⟩ = some (.int .i64 m))) (by kernel_rfl) (KS.out _ K0.out) (fun hHeld => ?_)
  generalize w2.drew = z0 at *
  refine wpAnyH_take (i := 0) (oi := { dst := some 26, op := Go.Op.move (Go.Operand.tmp 0), type := 25, pos := "port.go:107", after := #[], guard := none }) (v := ?_) rfl (by kernel_rfl) (by kernel_rfl) (by kernel_rfl) (fun _ _ _ h => h) (Or.inl ⟨by rfl, ?_⟩) (by assumption) ?_
  rotate_left 1
  focus (intro w hSw; (try dsimp only at hSw); go_simp; try with_reducible rfl)
  try simp only [Act.put, List.setIfInBounds_toArray, List.set_cons_zero, List.set_cons_succ]
  refine wpAnyH_take (i := 1) (oi := { dst := some 27, op := Go.Op.nilCheck (Go.Operand.tmp 26), type := 0, pos := "port.go:107", after := #[{ on := 0, ground := Go.Ground.data }], guard := none }) (v := ?_) rfl (by kernel_rfl) (by kernel_rfl) (by kernel_rfl) (fun _ _ _ h => h) (Or.inl ⟨by rfl, ?_⟩) (by assumption) ?_
  rotate_left 1
  focus (intro w hSw; (try dsimp only at hSw); go_simp; try with_reducible rfl)
  try simp only [Act.put, List.setIfInBounds_toArray, List.set_cons_zero, List.set_cons_succ]
  refine wpAnyH_take (i := 2) (oi := { dst := some 28, op := Go.Op.fieldAddr 82 (Go.Operand.tmp 27) 2, type := 0, pos := "port.go:107", after := #[{ on := 1, ground := Go.Ground.data }], guard := none }) (v := ?_) rfl (by kernel_rfl) (by kernel_rfl) (by kernel_rfl) (fun _ _ _ h => h) (Or.inl ⟨by rfl, ?_⟩) (by assumption) ?_
  rotate_left 1
  focus (intro w hSw; (try dsimp only at hSw); go_simp; try with_reducible rfl)
  try simp only [Act.put, List.setIfInBounds_toArray, List.set_cons_zero, List.set_cons_succ]
  refine wpAnyH_take (i := 3) (oi := { dst := some 29, op := Go.Op.load 79 (Go.Operand.tmp 28), type := 79, pos := "port.go:107", after := #[{ on := 2, ground := Go.Ground.data }], guard := none }) (v := ?_) rfl (by kernel_rfl) (by kernel_rfl) (by kernel_rfl) (fun _ _ _ h => h) (Or.inl ⟨by rfl, ?_⟩) (by assumption) ?_
  rotate_left 1
  focus (intro w hSw; (try dsimp only at hSw); go_simp; try with_reducible rfl)
  try simp only [Act.put, List.setIfInBounds_toArray, List.set_cons_zero, List.set_cons_succ]
  refine wpAnyH_ready (rs := [4]) (by kernel_rfl) (by simp) ?_
  refine AllReadyH.cons (o := { dst := some 30, op := Go.Op.call { callee := Go.Callee.value (Go.Operand.func 48), args := #[Go.Operand.tmp 29], argTypes := #[79] }, type := 3, pos := "port.go:107", after := #[{ on := 3, ground := Go.Ground.data }], guard := none }) rfl (fun K hK => ?_) AllReadyH.nil
  go_simp
  with_reducible refine Calls.mono (LEN.out _ HPZ.out) ?_
  rintro e y1 ⟨rfl, rfl⟩
  refine hK.out _ _ (KS.out _ K0.out) (fun hHeld => ?_)
  clear hK K
  try simp only [Act.put, List.setIfInBounds_toArray, List.set_cons_zero, List.set_cons_succ]
  refine wpAnyH_take (i := 5) (oi := { dst := some 31, op := Go.Op.binOp Go.BinOp.gtr 3 (Go.Operand.tmp 30) (Go.Operand.const (Go.Value.int Go.IntKind.i64 0)) 3, type := 4, pos := "port.go:107", after := #[{ on := 4, ground := Go.Ground.data }], guard := none }) (v := ?_) rfl (by kernel_rfl) (by kernel_rfl) (by kernel_rfl) (fun _ _ _ h => h) (Or.inl ⟨by rfl, ?_⟩) (by assumption) ?_
  rotate_left 1
  focus (intro w hSw; (try dsimp only at hSw); go_simp; try with_reducible rfl)
  try simp only [Act.put, List.setIfInBounds_toArray, List.set_cons_zero, List.set_cons_succ]
  refine wpAnyH_take (i := 6) (oi := { dst := some 32, op := Go.Op.move (Go.Operand.tmp 31), type := 4, pos := "port.go:107", after := #[{ on := 5, ground := Go.Ground.data }, { on := 4, ground := Go.Ground.chain }], guard := none }) (v := ?_) rfl (by kernel_rfl) (by kernel_rfl) (by kernel_rfl) (fun _ _ _ h => h) (Or.inl ⟨by rfl, ?_⟩) (by assumption) ?_
  rotate_left 1
  focus (intro w hSw; (try dsimp only at hSw); go_simp; try with_reducible rfl)
  try simp only [Act.put, List.setIfInBounds_toArray, List.set_cons_zero, List.set_cons_succ]
  refine wpAnyH_take (i := 7) (oi := { dst := some 33, op := Go.Op.move (Go.Operand.tmp 0), type := 25, pos := "port.go:107", after := #[{ on := 6, ground := Go.Ground.guard }], guard := some (6, true) }) (v := ?_) rfl (by kernel_rfl) (by kernel_rfl) (by kernel_rfl) (fun _ _ _ h => h) (Or.inl ⟨by rfl, ?_⟩) (by assumption) ?_
  rotate_left 1
  focus (intro w hSw; (try dsimp only at hSw); go_simp; try with_reducible rfl)
  try simp only [Act.put, List.setIfInBounds_toArray, List.set_cons_zero, List.set_cons_succ]
  refine wpAnyH_take (i := 8) (oi := { dst := some 34, op := Go.Op.nilCheck (Go.Operand.tmp 33), type := 0, pos := "port.go:107", after := #[{ on := 7, ground := Go.Ground.data }, { on := 6, ground := Go.Ground.guard }], guard := some (6, true) }) (v := ?_) rfl (by kernel_rfl) (by kernel_rfl) (by kernel_rfl) (fun _ _ _ h => h) (Or.inl ⟨by rfl, ?_⟩) (by assumption) ?_
  rotate_left 1
  focus (intro w hSw; (try dsimp only at hSw); go_simp; try with_reducible rfl)
  try simp only [Act.put, List.setIfInBounds_toArray, List.set_cons_zero, List.set_cons_succ]
  refine wpAnyH_take (i := 9) (oi := { dst := some 35, op := Go.Op.fieldAddr 82 (Go.Operand.tmp 34) 3, type := 0, pos := "port.go:107", after := #[{ on := 8, ground := Go.Ground.data }, { on := 6, ground := Go.Ground.guard }], guard := some (6, true) }) (v := ?_) rfl (by kernel_rfl) (by kernel_rfl) (by kernel_rfl) (fun _ _ _ h => h) (Or.inl ⟨by rfl, ?_⟩) (by assumption) ?_
  rotate_left 1
  focus (intro w hSw; (try dsimp only at hSw); go_simp; try with_reducible rfl)
  try simp only [Act.put, List.setIfInBounds_toArray, List.set_cons_zero, List.set_cons_succ]
  refine wpAnyH_take (i := 10) (oi := { dst := some 36, op := Go.Op.load 80 (Go.Operand.tmp 35), type := 80, pos := "port.go:107", after := #[{ on := 9, ground := Go.Ground.data }, { on := 6, ground := Go.Ground.guard }], guard := some (6, true) }) (v := ?_) rfl (by kernel_rfl) (by kernel_rfl) (by kernel_rfl) (fun _ _ _ h => h) (Or.inl ⟨by rfl, ?_⟩) (by assumption) ?_
  rotate_left 1
  focus (intro w hSw; (try dsimp only at hSw); go_simp; try with_reducible rfl)
  try simp only [Act.put, List.setIfInBounds_toArray, List.set_cons_zero, List.set_cons_succ]
  refine wpAnyH_take (i := 11) (oi := { dst := some 37, op := Go.Op.move (Go.Operand.tmp 0), type := 25, pos := "port.go:107", after := #[{ on := 6, ground := Go.Ground.guard }], guard := some (6, true) }) (v := ?_) rfl (by kernel_rfl) (by kernel_rfl) (by kernel_rfl) (fun _ _ _ h => h) (Or.inl ⟨by rfl, ?_⟩) (by assumption) ?_
  rotate_left 1
  focus (intro w hSw; (try dsimp only at hSw); go_simp; try with_reducible rfl)
  try simp only [Act.put, List.setIfInBounds_toArray, List.set_cons_zero, List.set_cons_succ]
  refine wpAnyH_take (i := 12) (oi := { dst := some 38, op := Go.Op.nilCheck (Go.Operand.tmp 37), type := 0, pos := "port.go:107", after := #[{ on := 11, ground := Go.Ground.data }, { on := 6, ground := Go.Ground.guard }], guard := some (6, true) }) (v := ?_) rfl (by kernel_rfl) (by kernel_rfl) (by kernel_rfl) (fun _ _ _ h => h) (Or.inl ⟨by rfl, ?_⟩) (by assumption) ?_
  rotate_left 1
  focus (intro w hSw; (try dsimp only at hSw); go_simp; try with_reducible rfl)
  try simp only [Act.put, List.setIfInBounds_toArray, List.set_cons_zero, List.set_cons_succ]
  refine wpAnyH_take (i := 13) (oi := { dst := some 39, op := Go.Op.fieldAddr 82 (Go.Operand.tmp 38) 4, type := 0, pos := "port.go:107", after := #[{ on := 12, ground := Go.Ground.data }, { on := 6, ground := Go.Ground.guard }], guard := some (6, true) }) (v := ?_) rfl (by kernel_rfl) (by kernel_rfl) (by kernel_rfl) (fun _ _ _ h => h) (Or.inl ⟨by rfl, ?_⟩) (by assumption) ?_
  rotate_left 1
  focus (intro w hSw; (try dsimp only at hSw); go_simp; try with_reducible rfl)
  try simp only [Act.put, List.setIfInBounds_toArray, List.set_cons_zero, List.set_cons_succ]
  refine wpAnyH_take (i := 14) (oi := { dst := some 40, op := Go.Op.load 3 (Go.Operand.tmp 39), type := 3, pos := "port.go:107", after := #[{ on := 13, ground := Go.Ground.data }, { on := 6, ground := Go.Ground.guard }], guard := some (6, true) }) (v := ?_) rfl (by kernel_rfl) (by kernel_rfl) (by kernel_rfl) (fun _ _ _ h => h) (Or.inl ⟨by rfl, ?_⟩) (by assumption) ?_
  rotate_left 1
  focus (intro w hSw; (try dsimp only at hSw); go_simp; try with_reducible rfl)
  try simp only [Act.put, List.setIfInBounds_toArray, List.set_cons_zero, List.set_cons_succ]
  refine wpAnyH_ready (rs := [15]) (by kernel_rfl) (by simp) ?_
  refine AllReadyH.cons (o := { dst := some 41, op := Go.Op.call { callee := Go.Callee.value (Go.Operand.func 49), args := #[Go.Operand.tmp 36, Go.Operand.tmp 40], argTypes := #[80, 3] }, type := 4, pos := "port.go:107", after := #[{ on := 10, ground := Go.Ground.data }, { on := 14, ground := Go.Ground.data }, { on := 6, ground := Go.Ground.chain }, { on := 6, ground := Go.Ground.guard }], guard := some (6, true) }) rfl (fun K hK => ?_) AllReadyH.nil
  go_simp
  with_reducible refine Calls.mono (GO.out _ HPZ.out) ?_
  rintro e y2 ⟨rfl, hpp, hk9⟩
  have K0 := Lib.hid (K0.out.trans hk9)
  have HPZ := Lib.hid (HPZ.out.setPace (by omega) hpp hk9)
  have HOZ := Lib.hid (hk9.blk HOZ.out (by omega))
  have HKZ := Lib.hid (HKZ.out.trans (hk9.mono (fun _ _ e => Or.inr e)))
  clear hpp hk9
  refine hK.out _ _ (KS.out _ K0.out) (fun hHeld => ?_)
  clear hK K
  try simp only [Act.put, List.setIfInBounds_toArray, List.set_cons_zero, List.set_cons_succ]
  refine wpAnyH_take (i := 16) (oi := { dst := some 42, op := Go.Op.pick (Go.Operand.tmp 32) (Go.Operand.tmp 41) (Go.Operand.const (Go.Value.bool false)), type := 4, pos := "port.go:107", after := #[{ on := 6, ground := Go.Ground.data }, { on := 15, ground := Go.Ground.data }], guard := none }) (v := ?_) rfl (by kernel_rfl) (by kernel_rfl) (by kernel_rfl) (fun _ _ _ h => h) (Or.inl ⟨by rfl, ?_⟩) (by assumption) ?_
  rotate_left 1
  focus (intro w hSw; (try dsimp only at hSw); go_simp; try with_reducible rfl)
  try simp only [Act.put, List.setIfInBounds_toArray, List.set_cons_zero, List.set_cons_succ]
  refine wpAnyH_done (by kernel_rfl) ?_ _
  clear E0 KS K0 HP2 HO2 HK2 LEN GO
  have d2 := HPZ.out.blk.cell (o := 2) rfl
  have hsz : rb < y2.heap.size := HOZ.out.lt
  go_wp2_with fail
  with_reducible refine Calls.mono (HPOP.out _ HPZ.out hsz) ?_
  rintro e w4 ⟨x, p, ok, rfl, hPo, G, hkG, hG⟩
  have HPO := Lib.hid hPo
  have hO4 := hkG.blk HOZ.out (fun g => by have := hG _ g; omega)
  clear hPo hkG hG HPOP
  obtain ⟨⟨x1, x2, x3, x4, x5, x6, x7, x8, x9, xd⟩, xa, xc, xq⟩ := x
  go_upto_region 8 with fail
  have hI := Blk.new w4 [.int .i64 x1, .int .i64 x2, .int .i64 x3, .int .i64 x4, .int .u64 (x5 : Int), .int .i64 x6, .int .i64 x7, .int .i64 x8, .int .i64 x9, .slice xa xd.length xc, .int .i64 xq] 40
  have hk5 := (Kept.refl (fun _ => False) w4).alloc (.cells [.int .i64 x1, .int .i64 x2, .int .i64 x3, .int .i64 x4, .int .u64 (x5 : Int), .int .i64 x6, .int .i64 x7, .int .i64 x8, .int .i64 x9, .slice xa xd.length xc, .int .i64 xq].toArray 40)
  have hO5 := hk5.blk hO4 (fun f => f)
  have hob : rb < w4.heap.size := hO4.lt
  dsimp only [List.toArray] at hI hk5 hO5
  generalize w4.alloc (.cells #[.int .i64 x1, .int .i64 x2, .int .i64 x3, .int .i64 x4, .int .u64 (x5 : Int), .int .i64 x6, .int .i64 x7, .int .i64 x8, .int .i64 x9, .slice xa xd.length xc, .int .i64 xq] 40) = w5 at *
  generalize w4.heap.size = ob at *
  have c0 := hI.cell (o := 0) rfl
  have c1 := hI.cell (o := 1) rfl
  have c2 := hI.cell (o := 2) rfl
  have c3 := hI.cell (o := 3) rfl
  have c4 := hI.cell (o := 4) rfl
  have c5 := hI.cell (o := 5) rfl
  have c6 := hI.cell (o := 6) rfl
  have c7 := hI.cell (o := 7) rfl
  have c8 := hI.cell (o := 8) rfl
  have c9 := hI.cell (o := 9) rfl
  have c10 := hI.cell (o := 10) rfl
  have n0 := hO5.cell (o := 0) rfl
  have n1 := hO5.cell (o := 1) rfl
  have n2 := hO5.cell (o := 2) rfl
  have n3 := hO5.cell (o := 3) rfl
  have n4 := hO5.cell (o := 4) rfl
  have n5 := hO5.cell (o := 5) rfl
  have n6 := hO5.cell (o := 6) rfl
  have n7 := hO5.cell (o := 7) rfl
  have n8 := hO5.cell (o := 8) rfl
  have n9 := hO5.cell (o := 9) rfl
  have n10 := hO5.cell (o := 10) rfl
  have fz0 := hO5.frozen 0
  have fz1 := hO5.frozen 1
  have fz2 := hO5.frozen 2
  have fz3 := hO5.frozen 3
  have fz4 := hO5.frozen 4
  have fz5 := hO5.frozen 5
  have fz6 := hO5.frozen 6
  have fz7 := hO5.frozen 7
  have fz8 := hO5.frozen 8
  have fz9 := hO5.frozen 9
  have fz10 := hO5.frozen 10
  have hO6 := set11_blk hO5 rfl ⟨⟨x1, x2, x3, x4, x5, x6, x7, x8, x9, xd⟩, xa, xc, xq⟩
  have k6 := set11_kept w5 rb ⟨⟨x1, x2, x3, x4, x5, x6, x7, x8, x9, xd⟩, xa, xc, xq⟩
  have HK6 : Hid (Kept (fun i => i = rb) w4 (set11 w5 rb ⟨⟨x1, x2, x3, x4, x5, x6, x7, x8, x9, xd⟩, xa, xc, xq⟩)) := Lib.hid ((hk5.mono (fun _ _ f => f.elim)).trans k6)
  unfold set11 at HK6 hO6
  dsimp only at HK6 hO6
  have z0 := hO6.cell (o := 0) rfl
  have z1 := hO6.cell (o := 1) rfl
  have z2 := hO6.cell (o := 2) rfl
  have z3 := hO6.cell (o := 3) rfl
  have z4 := hO6.cell (o := 4) rfl
  have z5 := hO6.cell (o := 5) rfl
  have z6 := hO6.cell (o := 6) rfl
  have z7 := hO6.cell (o := 7) rfl
  have z8 := hO6.cell (o := 8) rfl
  have z9 := hO6.cell (o := 9) rfl
  have z10 := hO6.cell (o := 10) rfl
  clear hI hO5 hO6 k6 hk5 hO4
  go_wp2_with fail
  exact bodyPost_ret (v := .tuple #[bv ⟨⟨x1, x2, x3, x4, x5, x6, x7, x8, x9, xd⟩, xa, xc, xq⟩, .bool ok]) (by simp [results, Try.results13, go_sem, z0, z1, z2, z3, z4, z5, z6, z7, z8, z9, z10]) rfl ⟨_, _, _, _, rfl, HKZ.out, by have := HRB.out; omega, HPZ.out, HPO.out, by rw [HRB.out]; exact HK6.out⟩
end Go.Proofs.Ytompbpiaapenaaa.Po

