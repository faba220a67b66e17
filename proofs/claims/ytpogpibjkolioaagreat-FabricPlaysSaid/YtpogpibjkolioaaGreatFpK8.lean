/- A port: Take, whatever comes of the queue. Conditions: each theorem's own. -/
import Derived.Test.YtpogpibjkolioaaGreatFpK7
set_option linter.unusedVariables false
set_option linter.unusedSimpArgs false
namespace Go.Proofs.YtpogpibjkolioaaGreat.Po
open Go.RowKit Hp QuM QuN Rw Qu NumM NumC
attribute [local go_sem ↓] Go.wp_at_zero Go.wp_at_succ
variable {w0 w w' : World} {b qf qc pb : Nat} {room most : Int} {trim : Bool} {ls : Nat → List Bx} {cr : List Bx} {now nxt : Int} {Ff Fc F : Nat → Prop}
set_option maxRecDepth 100000 in
set_option maxHeartbeats 8000000 in
theorem take_off {t m : Int} (hp : Prt w0 b qf qc pb room most trim ls cr now nxt Ff Fc w) (hmt : clampI t now 1125899906842624 = m) (hcr : cr = []) {Post : Bx → Bool → World → World → Prop}
  (hPop : ∀ w', Prt w0 b qf qc pb room most trim ls cr m nxt Ff Fc w' → w.heap.size < w'.heap.size → Calls Tryz.prog 69 #[.pointer (some ⟨qf, 0, none⟩)] w' fun e w'' => ∃ x p ok, e = .returned (.tuple #[bv x, .int .i64 p, .bool ok]) ∧ Post x ok w' w'' ∧ ∃ G : Nat → Prop, Kept G w' w'' ∧ ∀ i, G i → i < w.heap.size) :
  Calls Tryz.prog 38 #[.pointer (some ⟨b, 0, none⟩), .int .i64 t] w fun e w' => ∃ x ok w3 w4, e = .returned (.tuple #[bv x, .bool ok]) ∧ Kept (fun i => i = b ∨ i = pb) w w3 ∧ w.heap.size < w3.heap.size ∧ Prt w0 b qf qc pb room most trim ls cr m nxt Ff Fc w3 ∧ Post x ok w3 w4 ∧ Kept (fun i => i = w.heap.size) w4 w' := by
 have CLI := Lib.hid fun (w' : World) => clampInt_any t now 1125899906842624 w'
 have hmb := clampI_bd t hp.nw.2.1
 rw [hmt] at CLI hmb
 have hn0 := hp.nw.1
 have hx0 := hp.nw.2.2
 have hbl := hp.blk.lt
 have hpl := Blk.lt hp.pace
 have HPOP := Lib.hid hPop
 have HP := Lib.hid hp
 subst hcr
 have LEN := Lib.hid fun (w' : World) (h : Prt w0 b qf qc pb room most trim ls [] m nxt Ff Fc w') => len_any h.cq (by rw [cnt_crl]; exact Nat.zero_le _)
 rw [cnt_crl] at LEN
 clear hPop hp hmt
 go_enter Tryz.func38, Tryz.ntmps38
 go_upto_region 3 with fail
 have hO := Blk.new w [.int .i64 0, .int .i64 0, .int .i64 0, .int .i64 0, .int .u64 0, .int .i64 0, .int .i64 0, .int .i64 0, .int .i64 0, .slice none 0 0, .int .i64 0] 83
 have hk1 := (Kept.refl (fun _ => False) w).alloc (.cells [.int .i64 0, .int .i64 0, .int .i64 0, .int .i64 0, .int .u64 0, .int .i64 0, .int .i64 0, .int .i64 0, .int .i64 0, .slice none 0 0, .int .i64 0].toArray 83)
 dsimp only [List.toArray] at hO hk1
 generalize w.alloc (.cells #[.int .i64 0, .int .i64 0, .int .i64 0, .int .i64 0, .int .u64 0, .int .i64 0, .int .i64 0, .int .i64 0, .int .i64 0, .slice none 0 0, .int .i64 0] 83) = w1 at *
 obtain ⟨rb, hrb⟩ : ∃ rb, w.heap.size = rb := ⟨_, rfl⟩
 rw [hrb] at hO hbl hpl HPOP
 simp only [hrb]
 have HRB := Lib.hid hrb
 have HP1 := Lib.hid (HP.out.old hk1)
 have HK1 := Lib.hid hk1
 have HO1 := Lib.hid hO
 clear hrb hk1 hO HP
 have d4 := HP1.out.blk.cell (o := 4) rfl
 have f4 := HP1.out.blk.frozen 4
 go_upto_region 4 with (first | (go_at_call 66; refine (CLI.out _).mono ?_; rintro e w' ⟨rfl, rfl⟩))
 have HP2 := Lib.hid (HP1.out.setNow ⟨by omega, hmb.2⟩ (m := m))
 have k2 := Kept.one w1 b 4 (.int .i64 m)
 have HO2 := Lib.hid (k2.blk HO1.out (by omega))
 have HK2 : Hid (Kept (fun i => i = b ∨ i = pb) w (w1.setCell ⟨b, 4, none⟩ (.int .i64 m))) := Lib.hid ((HK1.out.mono (fun _ _ f => f.elim)).trans (k2.mono (fun _ _ e => Or.inl e)))
 generalize w1.setCell ⟨b, 4, none⟩ (.int .i64 m) = w2 at *
 clear d4 f4 k2 HP1 HO1 HK1 CLI
 have d1 := HP2.out.blk.cell (o := 1) rfl
 go_upto_region 5 with fail
 have E0 := Lib.hid (Kept.refl (fun _ => False) w2)
 have KS : Hid (∀ w', Kept (fun i => i = pb) w2 w' → w'.cell? ⟨b, 2, none⟩ = some (.pointer (some ⟨qc, 0, none⟩)) ∧ w'.cell? ⟨b, 3, none⟩ = some (.pointer (some ⟨pb, 0, none⟩)) ∧ w'.cell? ⟨b, 4, none⟩ = some (.int .i64 m)) := by
  refine Lib.hid fun w' k => ?_
  have h1 := k.blk HP2.out.blk (fun e => HP2.out.npf.2.2 e)
  exact ⟨h1.cell rfl, h1.cell rfl, h1.cell rfl⟩
 have HPZ := Lib.hid (HP2.out.old E0.out.drew)
 have HOZ := Lib.hid (E0.out.drew.blk HO2.out (fun f => f))
 have HKZ := Lib.hid (HK2.out.drew)
 have K0 : Hid (Kept (fun i => i = pb) w2 w2.drew) := Lib.hid (E0.out.drew.mono (fun _ _ f => f.elim))
 clear d1
 refine wp_region_held_drew (S := (fun w' => w'.cell? ⟨b, 2, none⟩ = some (.pointer (some ⟨qc, 0, none⟩)) ∧ w'.cell? ⟨b, 3, none⟩ = some (.pointer (some ⟨pb, 0, none⟩)) ∧ w'.cell? ⟨b, 4, none⟩ = some (.int .i64 m))) (by kernel_rfl) (KS.out _ K0.out) (fun hHeld => ?_)
 generalize w2.drew = z0 at *
 refine tk 0 ⟨some 26, .move (.tmp 0), 70, "port.go:107", #[], none⟩ (v := ?_) rfl ?_ ?_
 rotate_left 1
 focus (intro w h; (try dsimp only at h); go_simp; try with_reducible rfl)
 try simp only [Act.put, ppA, ppB, ppC]
 refine tk 1 ⟨some 27, .nilCheck (.tmp 26), 0, "port.go:107", #[⟨0, .data⟩], none⟩ (v := ?_) rfl ?_ ?_
 rotate_left 1
 focus (intro w h; (try dsimp only at h); go_simp; try with_reducible rfl)
 try simp only [Act.put, ppA, ppB, ppC]
 refine tk 2 ⟨some 28, .fieldAddr 112 (.tmp 27) 2, 0, "port.go:107", #[⟨1, .data⟩], none⟩ (v := ?_) rfl ?_ ?_
 rotate_left 1
 focus (intro w h; (try dsimp only at h); go_simp; try with_reducible rfl)
 try simp only [Act.put, ppA, ppB, ppC]
 refine tk 3 ⟨some 29, .load 109 (.tmp 28), 109, "port.go:107", #[⟨2, .data⟩], none⟩ (v := ?_) rfl ?_ ?_
 rotate_left 1
 focus (intro w h; (try dsimp only at h); go_simp; try with_reducible rfl)
 try simp only [Act.put, ppA, ppB, ppC]
 refine wpAnyH_ready (rs := [4]) (by kernel_rfl) (by simp) ?_
 refine AllReadyH.cons (o := ⟨some 30, .call ⟨.value (.func 67), #[.tmp 29], #[109]⟩, 3, "port.go:107", #[⟨3, .data⟩], none⟩) rfl (fun K hK => ?_) AllReadyH.nil
 go_simp
 with_reducible refine Calls.mono (LEN.out _ HPZ.out) ?_
 rintro e y1 ⟨rfl, rfl⟩
 refine hK.out _ _ (KS.out _ K0.out) (fun hHeld => ?_)
 clear hK K
 try simp only [Act.put, ppA, ppB, ppC]
 refine tk 5 ⟨some 31, .binOp .gtr 3 (.tmp 30) (.const (.int .i64 0)) 3, 4, "port.go:107", #[⟨4, .data⟩], none⟩ (v := ?_) rfl ?_ ?_
 rotate_left 1
 focus (intro w h; (try dsimp only at h); go_simp; try with_reducible rfl)
 try simp only [Act.put, ppA, ppB, ppC]
 refine tk 6 ⟨some 32, .move (.tmp 31), 4, "port.go:107", #[⟨5, .data⟩, ⟨4, .chain⟩], none⟩ (v := ?_) rfl ?_ ?_
 rotate_left 1
 focus (intro w h; (try dsimp only at h); go_simp; try with_reducible rfl)
 try simp only [Act.put, ppA, ppB, ppC]
 refine tko 7 ⟨some 33, .move (.tmp 0), 70, "port.go:107", #[⟨6, .guard⟩], some (6, true)⟩ rfl ?_
 try simp only [Act.put, ppA, ppB, ppC]
 refine tko 8 ⟨some 34, .nilCheck (.tmp 33), 0, "port.go:107", #[⟨7, .data⟩, ⟨6, .guard⟩], some (6, true)⟩ rfl ?_
 try simp only [Act.put, ppA, ppB, ppC]
 refine tko 9 ⟨some 35, .fieldAddr 112 (.tmp 34) 3, 0, "port.go:107", #[⟨8, .data⟩, ⟨6, .guard⟩], some (6, true)⟩ rfl ?_
 try simp only [Act.put, ppA, ppB, ppC]
 refine tko 10 ⟨some 36, .load 110 (.tmp 35), 110, "port.go:107", #[⟨9, .data⟩, ⟨6, .guard⟩], some (6, true)⟩ rfl ?_
 try simp only [Act.put, ppA, ppB, ppC]
 refine tko 11 ⟨some 37, .move (.tmp 0), 70, "port.go:107", #[⟨6, .guard⟩], some (6, true)⟩ rfl ?_
 try simp only [Act.put, ppA, ppB, ppC]
 refine tko 12 ⟨some 38, .nilCheck (.tmp 37), 0, "port.go:107", #[⟨11, .data⟩, ⟨6, .guard⟩], some (6, true)⟩ rfl ?_
 try simp only [Act.put, ppA, ppB, ppC]
 refine tko 13 ⟨some 39, .fieldAddr 112 (.tmp 38) 4, 0, "port.go:107", #[⟨12, .data⟩, ⟨6, .guard⟩], some (6, true)⟩ rfl ?_
 try simp only [Act.put, ppA, ppB, ppC]
 refine tko 14 ⟨some 40, .load 3 (.tmp 39), 3, "port.go:107", #[⟨13, .data⟩, ⟨6, .guard⟩], some (6, true)⟩ rfl ?_
 try simp only [Act.put, ppA, ppB, ppC]
 refine tko 15 ⟨some 41, .call ⟨.value (.func 68), #[.tmp 36, .tmp 40], #[110, 3]⟩, 4, "port.go:107", #[⟨10, .data⟩, ⟨14, .data⟩, ⟨6, .chain⟩, ⟨6, .guard⟩], some (6, true)⟩ rfl ?_
 try simp only [Act.put, ppA, ppB, ppC]
 refine tk 16 ⟨some 42, .pick (.tmp 32) (.tmp 41) (.const (.bool false)), 4, "port.go:107", #[⟨6, .data⟩, ⟨15, .data⟩], none⟩ (v := ?_) rfl ?_ ?_
 rotate_left 1
 focus (intro w h; (try dsimp only at h); go_simp; try with_reducible rfl)
 try simp only [Act.put, ppA, ppB, ppC]
 refine wpAnyH_done (by kernel_rfl) ?_ _
 clear E0 KS K0 HP2 HO2 HK2 LEN 
 have hsz : rb < z0.heap.size := HOZ.out.lt
 go_wp2_with fail
 with_reducible refine Calls.mono (HPOP.out _ HPZ.out hsz) ?_
 rintro e w4 ⟨x, p, ok, rfl, hPo, G, hkG, hG⟩
 have HPO := Lib.hid hPo
 have hO4 := hkG.blk HOZ.out (fun g => by have := hG _ g; omega)
 clear hPo hkG hG HPOP
 obtain ⟨⟨x1, x2, x3, x4, x5, x6, x7, x8, x9, xd⟩, xa, xc, xq⟩ := x
 go_upto_region 8 with fail
 have hI := Blk.new w4 [.int .i64 x1, .int .i64 x2, .int .i64 x3, .int .i64 x4, .int .u64 (x5 : Int), .int .i64 x6, .int .i64 x7, .int .i64 x8, .int .i64 x9, .slice xa xd.length xc, .int .i64 xq] 83
 have hk5 := (Kept.refl (fun _ => False) w4).alloc (.cells [.int .i64 x1, .int .i64 x2, .int .i64 x3, .int .i64 x4, .int .u64 (x5 : Int), .int .i64 x6, .int .i64 x7, .int .i64 x8, .int .i64 x9, .slice xa xd.length xc, .int .i64 xq].toArray 83)
 have hO5 := hk5.blk hO4 (fun f => f)
 have hob : rb < w4.heap.size := hO4.lt
 dsimp only [List.toArray] at hI hk5 hO5
 generalize w4.alloc (.cells #[.int .i64 x1, .int .i64 x2, .int .i64 x3, .int .i64 x4, .int .u64 (x5 : Int), .int .i64 x6, .int .i64 x7, .int .i64 x8, .int .i64 x9, .slice xa xd.length xc, .int .i64 xq] 83) = w5 at *
 generalize w4.heap.size = ob at *
 obtain ⟨c0, c1, c2, c3, c4, c5, c6, c7, c8, c9, c10⟩ := cs11 hI
 obtain ⟨n0, n1, n2, n3, n4, n5, n6, n7, n8, n9, n10⟩ := cs11 hO5
 obtain ⟨fz0, fz1, fz2, fz3, fz4, fz5, fz6, fz7, fz8, fz9, fz10⟩ := fz11 hO5
 have hO6 := set11_blk hO5 rfl ⟨⟨x1, x2, x3, x4, x5, x6, x7, x8, x9, xd⟩, xa, xc, xq⟩
 have k6 := set11_kept w5 rb ⟨⟨x1, x2, x3, x4, x5, x6, x7, x8, x9, xd⟩, xa, xc, xq⟩
 have HK6 : Hid (Kept (fun i => i = rb) w4 (set11 w5 rb ⟨⟨x1, x2, x3, x4, x5, x6, x7, x8, x9, xd⟩, xa, xc, xq⟩)) := Lib.hid ((hk5.mono (fun _ _ f => f.elim)).trans k6)
 unfold set11 at HK6 hO6
 dsimp only at HK6 hO6
 obtain ⟨z0, z1, z2, z3, z4, z5, z6, z7, z8, z9, z10⟩ := cs11 hO6
 clear hI hO5 hO6 k6 hk5 hO4
 go_wp2_with fail
 exact bodyPost_ret (v := .tuple #[bv ⟨⟨x1, x2, x3, x4, x5, x6, x7, x8, x9, xd⟩, xa, xc, xq⟩, .bool ok]) (by simp [results, Tryz.results38, go_sem, z0, z1, z2, z3, z4, z5, z6, z7, z8, z9, z10]) rfl ⟨_, _, _, _, rfl, HKZ.out, by have := HRB.out; omega, HPZ.out, HPO.out, by rw [HRB.out]; exact HK6.out⟩
set_option maxRecDepth 100000 in
set_option maxHeartbeats 8000000 in
theorem take_no {t m : Int} (hp : Prt w0 b qf qc pb room most trim ls cr now nxt Ff Fc w) (hmt : clampI t now 1125899906842624 = m) (hcr : 0 < cr.length) (hl : cr.length ≤ 1000000) (hm : m < nxt) {Post : Bx → Bool → World → World → Prop}
  (hPop : ∀ w', Prt w0 b qf qc pb room most trim ls cr m nxt Ff Fc w' → w.heap.size < w'.heap.size → Calls Tryz.prog 69 #[.pointer (some ⟨qf, 0, none⟩)] w' fun e w'' => ∃ x p ok, e = .returned (.tuple #[bv x, .int .i64 p, .bool ok]) ∧ Post x ok w' w'' ∧ ∃ G : Nat → Prop, Kept G w' w'' ∧ ∀ i, G i → i < w.heap.size) :
  Calls Tryz.prog 38 #[.pointer (some ⟨b, 0, none⟩), .int .i64 t] w fun e w' => ∃ x ok w3 w4, e = .returned (.tuple #[bv x, .bool ok]) ∧ Kept (fun i => i = b ∨ i = pb) w w3 ∧ w.heap.size < w3.heap.size ∧ Prt w0 b qf qc pb room most trim ls cr m nxt Ff Fc w3 ∧ Post x ok w3 w4 ∧ Kept (fun i => i = w.heap.size) w4 w' := by
 have CLI := Lib.hid fun (w' : World) => clampInt_any t now 1125899906842624 w'
 have hmb := clampI_bd t hp.nw.2.1
 rw [hmt] at CLI hmb
 have hn0 := hp.nw.1
 have hx0 := hp.nw.2.2
 have hbl := hp.blk.lt
 have hpl := Blk.lt hp.pace
 have HPOP := Lib.hid hPop
 have HP := Lib.hid hp
 have LEN := Lib.hid fun (w' : World) (h : Prt w0 b qf qc pb room most trim ls cr m nxt Ff Fc w') => len_any h.cq (by rw [cnt_crl]; exact hl)
 rw [cnt_crl] at LEN
 have hat : Pc.atN m = m := clampI_in (by omega) (by omega)
 have GO := Lib.hid fun (w' : World) (h : Prt w0 b qf qc pb room most trim ls cr m nxt Ff Fc w') => Pc.go_no h.pace m (by rw [hat]; exact hm)
 clear hat
 have hcn : (0 : Int) < ((cr.length : Nat) : Int) := by omega
 have hcd : decide ((0 : Int) < ((cr.length : Nat) : Int)) = true := decide_eq_true hcn
 generalize cr.length = cn at *
 clear hPop hp hmt
 go_enter Tryz.func38, Tryz.ntmps38
 go_upto_region 3 with fail
 have hO := Blk.new w [.int .i64 0, .int .i64 0, .int .i64 0, .int .i64 0, .int .u64 0, .int .i64 0, .int .i64 0, .int .i64 0, .int .i64 0, .slice none 0 0, .int .i64 0] 83
 have hk1 := (Kept.refl (fun _ => False) w).alloc (.cells [.int .i64 0, .int .i64 0, .int .i64 0, .int .i64 0, .int .u64 0, .int .i64 0, .int .i64 0, .int .i64 0, .int .i64 0, .slice none 0 0, .int .i64 0].toArray 83)
 dsimp only [List.toArray] at hO hk1
 generalize w.alloc (.cells #[.int .i64 0, .int .i64 0, .int .i64 0, .int .i64 0, .int .u64 0, .int .i64 0, .int .i64 0, .int .i64 0, .int .i64 0, .slice none 0 0, .int .i64 0] 83) = w1 at *
 obtain ⟨rb, hrb⟩ : ∃ rb, w.heap.size = rb := ⟨_, rfl⟩
 rw [hrb] at hO hbl hpl HPOP
 simp only [hrb]
 have HRB := Lib.hid hrb
 have HP1 := Lib.hid (HP.out.old hk1)
 have HK1 := Lib.hid hk1
 have HO1 := Lib.hid hO
 clear hrb hk1 hO HP
 have d4 := HP1.out.blk.cell (o := 4) rfl
 have f4 := HP1.out.blk.frozen 4
 go_upto_region 4 with (first | (go_at_call 66; refine (CLI.out _).mono ?_; rintro e w' ⟨rfl, rfl⟩))
 have HP2 := Lib.hid (HP1.out.setNow ⟨by omega, hmb.2⟩ (m := m))
 have k2 := Kept.one w1 b 4 (.int .i64 m)
 have HO2 := Lib.hid (k2.blk HO1.out (by omega))
 have HK2 : Hid (Kept (fun i => i = b ∨ i = pb) w (w1.setCell ⟨b, 4, none⟩ (.int .i64 m))) := Lib.hid ((HK1.out.mono (fun _ _ f => f.elim)).trans (k2.mono (fun _ _ e => Or.inl e)))
 generalize w1.setCell ⟨b, 4, none⟩ (.int .i64 m) = w2 at *
 clear d4 f4 k2 HP1 HO1 HK1 CLI
 have d1 := HP2.out.blk.cell (o := 1) rfl
 go_upto_region 5 with fail
 have E0 := Lib.hid (Kept.refl (fun _ => False) w2)
 have KS : Hid (∀ w', Kept (fun i => i = pb) w2 w' → w'.cell? ⟨b, 2, none⟩ = some (.pointer (some ⟨qc, 0, none⟩)) ∧ w'.cell? ⟨b, 3, none⟩ = some (.pointer (some ⟨pb, 0, none⟩)) ∧ w'.cell? ⟨b, 4, none⟩ = some (.int .i64 m)) := by
  refine Lib.hid fun w' k => ?_
  have h1 := k.blk HP2.out.blk (fun e => HP2.out.npf.2.2 e)
  exact ⟨h1.cell rfl, h1.cell rfl, h1.cell rfl⟩
 have HPZ := Lib.hid (HP2.out.old E0.out.drew)
 have HOZ := Lib.hid (E0.out.drew.blk HO2.out (fun f => f))
 have HKZ := Lib.hid (HK2.out.drew)
 have K0 : Hid (Kept (fun i => i = pb) w2 w2.drew) := Lib.hid (E0.out.drew.mono (fun _ _ f => f.elim))
 clear d1
 refine wp_region_held_drew (S := (fun w' => w'.cell? ⟨b, 2, none⟩ = some (.pointer (some ⟨qc, 0, none⟩)) ∧ w'.cell? ⟨b, 3, none⟩ = some (.pointer (some ⟨pb, 0, none⟩)) ∧ w'.cell? ⟨b, 4, none⟩ = some (.int .i64 m))) (by kernel_rfl) (KS.out _ K0.out) (fun hHeld => ?_)
 generalize w2.drew = z0 at *
 refine tk 0 ⟨some 26, .move (.tmp 0), 70, "port.go:107", #[], none⟩ (v := ?_) rfl ?_ ?_
 rotate_left 1
 focus (intro w h; (try dsimp only at h); go_simp; try with_reducible rfl)
 try simp only [Act.put, ppA, ppB, ppC]
 refine tk 1 ⟨some 27, .nilCheck (.tmp 26), 0, "port.go:107", #[⟨0, .data⟩], none⟩ (v := ?_) rfl ?_ ?_
 rotate_left 1
 focus (intro w h; (try dsimp only at h); go_simp; try with_reducible rfl)
 try simp only [Act.put, ppA, ppB, ppC]
 refine tk 2 ⟨some 28, .fieldAddr 112 (.tmp 27) 2, 0, "port.go:107", #[⟨1, .data⟩], none⟩ (v := ?_) rfl ?_ ?_
 rotate_left 1
 focus (intro w h; (try dsimp only at h); go_simp; try with_reducible rfl)
 try simp only [Act.put, ppA, ppB, ppC]
 refine tk 3 ⟨some 29, .load 109 (.tmp 28), 109, "port.go:107", #[⟨2, .data⟩], none⟩ (v := ?_) rfl ?_ ?_
 rotate_left 1
 focus (intro w h; (try dsimp only at h); go_simp; try with_reducible rfl)
 try simp only [Act.put, ppA, ppB, ppC]
 refine wpAnyH_ready (rs := [4]) (by kernel_rfl) (by simp) ?_
 refine AllReadyH.cons (o := ⟨some 30, .call ⟨.value (.func 67), #[.tmp 29], #[109]⟩, 3, "port.go:107", #[⟨3, .data⟩], none⟩) rfl (fun K hK => ?_) AllReadyH.nil
 go_simp
 with_reducible refine Calls.mono (LEN.out _ HPZ.out) ?_
 rintro e y1 ⟨rfl, rfl⟩
 refine hK.out _ _ (KS.out _ K0.out) (fun hHeld => ?_)
 clear hK K
 try simp only [Act.put, ppA, ppB, ppC]
 refine tk 5 ⟨some 31, .binOp .gtr 3 (.tmp 30) (.const (.int .i64 0)) 3, 4, "port.go:107", #[⟨4, .data⟩], none⟩ (v := ?_) rfl ?_ ?_
 rotate_left 1
 focus (intro w h; (try dsimp only at h); go_simp; try with_reducible rfl)
 try simp only [Act.put, ppA, ppB, ppC]
 refine tk 6 ⟨some 32, .move (.tmp 31), 4, "port.go:107", #[⟨5, .data⟩, ⟨4, .chain⟩], none⟩ (v := ?_) rfl ?_ ?_
 rotate_left 1
 focus (intro w h; (try dsimp only at h); go_simp; try with_reducible rfl)
 try simp only [Act.put, ppA, ppB, ppC]
 refine tk 7 ⟨some 33, .move (.tmp 0), 70, "port.go:107", #[⟨6, .guard⟩], some (6, true)⟩ (v := ?_) rfl ?_ ?_
 rotate_left 1
 focus (intro w h; (try dsimp only at h); go_simp; try with_reducible rfl)
 try simp only [Act.put, ppA, ppB, ppC]
 refine tk 8 ⟨some 34, .nilCheck (.tmp 33), 0, "port.go:107", #[⟨7, .data⟩, ⟨6, .guard⟩], some (6, true)⟩ (v := ?_) rfl ?_ ?_
 rotate_left 1
 focus (intro w h; (try dsimp only at h); go_simp; try with_reducible rfl)
 try simp only [Act.put, ppA, ppB, ppC]
 refine tk 9 ⟨some 35, .fieldAddr 112 (.tmp 34) 3, 0, "port.go:107", #[⟨8, .data⟩, ⟨6, .guard⟩], some (6, true)⟩ (v := ?_) rfl ?_ ?_
 rotate_left 1
 focus (intro w h; (try dsimp only at h); go_simp; try with_reducible rfl)
 try simp only [Act.put, ppA, ppB, ppC]
 refine tk 10 ⟨some 36, .load 110 (.tmp 35), 110, "port.go:107", #[⟨9, .data⟩, ⟨6, .guard⟩], some (6, true)⟩ (v := ?_) rfl ?_ ?_
 rotate_left 1
 focus (intro w h; (try dsimp only at h); go_simp; try with_reducible rfl)
 try simp only [Act.put, ppA, ppB, ppC]
 refine tk 11 ⟨some 37, .move (.tmp 0), 70, "port.go:107", #[⟨6, .guard⟩], some (6, true)⟩ (v := ?_) rfl ?_ ?_
 rotate_left 1
 focus (intro w h; (try dsimp only at h); go_simp; try with_reducible rfl)
 try simp only [Act.put, ppA, ppB, ppC]
 refine tk 12 ⟨some 38, .nilCheck (.tmp 37), 0, "port.go:107", #[⟨11, .data⟩, ⟨6, .guard⟩], some (6, true)⟩ (v := ?_) rfl ?_ ?_
 rotate_left 1
 focus (intro w h; (try dsimp only at h); go_simp; try with_reducible rfl)
 try simp only [Act.put, ppA, ppB, ppC]
 refine tk 13 ⟨some 39, .fieldAddr 112 (.tmp 38) 4, 0, "port.go:107", #[⟨12, .data⟩, ⟨6, .guard⟩], some (6, true)⟩ (v := ?_) rfl ?_ ?_
 rotate_left 1
 focus (intro w h; (try dsimp only at h); go_simp; try with_reducible rfl)
 try simp only [Act.put, ppA, ppB, ppC]
 refine tk 14 ⟨some 40, .load 3 (.tmp 39), 3, "port.go:107", #[⟨13, .data⟩, ⟨6, .guard⟩], some (6, true)⟩ (v := ?_) rfl ?_ ?_
 rotate_left 1
 focus (intro w h; (try dsimp only at h); go_simp; try with_reducible rfl)
 try simp only [Act.put, ppA, ppB, ppC]
 refine wpAnyH_ready (rs := [15]) (by kernel_rfl) (by simp) ?_
 refine AllReadyH.cons (o := ⟨some 41, .call ⟨.value (.func 68), #[.tmp 36, .tmp 40], #[110, 3]⟩, 4, "port.go:107", #[⟨10, .data⟩, ⟨14, .data⟩, ⟨6, .chain⟩, ⟨6, .guard⟩], some (6, true)⟩) rfl (fun K hK => ?_) AllReadyH.nil
 go_simp
 with_reducible refine Calls.mono (GO.out _ HPZ.out) ?_
 rintro e y2 ⟨rfl, hpp, hk9⟩
 have K0 := Lib.hid (K0.out.trans hk9)
 have HPZ := Lib.hid (HPZ.out.setPace (by omega) hpp hk9)
 have HOZ := Lib.hid (hk9.blk HOZ.out (by omega))
 have HKZ := Lib.hid (HKZ.out.trans (hk9.mono (fun _ _ e => Or.inr e)))
 clear hpp hk9
 refine hK.out _ _ (KS.out _ K0.out) (fun hHeld => ?_)
 clear hK K
 try simp only [Act.put, ppA, ppB, ppC]
 refine tk 16 ⟨some 42, .pick (.tmp 32) (.tmp 41) (.const (.bool false)), 4, "port.go:107", #[⟨6, .data⟩, ⟨15, .data⟩], none⟩ (v := ?_) rfl ?_ ?_
 rotate_left 1
 focus (intro w h; (try dsimp only at h); go_simp; try with_reducible rfl)
 try simp only [Act.put, ppA, ppB, ppC]
 refine wpAnyH_done (by kernel_rfl) ?_ _
 clear E0 KS K0 HP2 HO2 HK2 LEN GO
 have hsz : rb < y2.heap.size := HOZ.out.lt
 go_wp2_with fail
 with_reducible refine Calls.mono (HPOP.out _ HPZ.out hsz) ?_
 rintro e w4 ⟨x, p, ok, rfl, hPo, G, hkG, hG⟩
 have HPO := Lib.hid hPo
 have hO4 := hkG.blk HOZ.out (fun g => by have := hG _ g; omega)
 clear hPo hkG hG HPOP
 obtain ⟨⟨x1, x2, x3, x4, x5, x6, x7, x8, x9, xd⟩, xa, xc, xq⟩ := x
 go_upto_region 8 with fail
 have hI := Blk.new w4 [.int .i64 x1, .int .i64 x2, .int .i64 x3, .int .i64 x4, .int .u64 (x5 : Int), .int .i64 x6, .int .i64 x7, .int .i64 x8, .int .i64 x9, .slice xa xd.length xc, .int .i64 xq] 83
 have hk5 := (Kept.refl (fun _ => False) w4).alloc (.cells [.int .i64 x1, .int .i64 x2, .int .i64 x3, .int .i64 x4, .int .u64 (x5 : Int), .int .i64 x6, .int .i64 x7, .int .i64 x8, .int .i64 x9, .slice xa xd.length xc, .int .i64 xq].toArray 83)
 have hO5 := hk5.blk hO4 (fun f => f)
 have hob : rb < w4.heap.size := hO4.lt
 dsimp only [List.toArray] at hI hk5 hO5
 generalize w4.alloc (.cells #[.int .i64 x1, .int .i64 x2, .int .i64 x3, .int .i64 x4, .int .u64 (x5 : Int), .int .i64 x6, .int .i64 x7, .int .i64 x8, .int .i64 x9, .slice xa xd.length xc, .int .i64 xq] 83) = w5 at *
 generalize w4.heap.size = ob at *
 obtain ⟨c0, c1, c2, c3, c4, c5, c6, c7, c8, c9, c10⟩ := cs11 hI
 obtain ⟨n0, n1, n2, n3, n4, n5, n6, n7, n8, n9, n10⟩ := cs11 hO5
 obtain ⟨fz0, fz1, fz2, fz3, fz4, fz5, fz6, fz7, fz8, fz9, fz10⟩ := fz11 hO5
 have hO6 := set11_blk hO5 rfl ⟨⟨x1, x2, x3, x4, x5, x6, x7, x8, x9, xd⟩, xa, xc, xq⟩
 have k6 := set11_kept w5 rb ⟨⟨x1, x2, x3, x4, x5, x6, x7, x8, x9, xd⟩, xa, xc, xq⟩
 have HK6 : Hid (Kept (fun i => i = rb) w4 (set11 w5 rb ⟨⟨x1, x2, x3, x4, x5, x6, x7, x8, x9, xd⟩, xa, xc, xq⟩)) := Lib.hid ((hk5.mono (fun _ _ f => f.elim)).trans k6)
 unfold set11 at HK6 hO6
 dsimp only at HK6 hO6
 obtain ⟨z0, z1, z2, z3, z4, z5, z6, z7, z8, z9, z10⟩ := cs11 hO6
 clear hI hO5 hO6 k6 hk5 hO4
 go_wp2_with fail
 exact bodyPost_ret (v := .tuple #[bv ⟨⟨x1, x2, x3, x4, x5, x6, x7, x8, x9, xd⟩, xa, xc, xq⟩, .bool ok]) (by simp [results, Tryz.results38, go_sem, z0, z1, z2, z3, z4, z5, z6, z7, z8, z9, z10]) rfl ⟨_, _, _, _, rfl, HKZ.out, by have := HRB.out; omega, HPZ.out, HPO.out, by rw [HRB.out]; exact HK6.out⟩
set_option maxRecDepth 100000 in
set_option maxHeartbeats 8000000 in
theorem take_go {t m : Int} (hp : Prt w0 b qf qc pb room most trim ls cr now nxt Ff Fc w) (hmt : clampI t now 1125899906842624 = m) (hcr : 0 < cr.length) (hl : cr.length ≤ 1000000) (hm : nxt ≤ m) {Post : Bx → Bool → World → World → Prop}
  (hPop : ∀ w', Prt w0 b qf qc pb room most trim ls cr m (m + 4) Ff Fc w' → w.heap.size < w'.heap.size → Calls Tryz.prog 69 #[.pointer (some ⟨qc, 0, none⟩)] w' fun e w'' => ∃ x p ok, e = .returned (.tuple #[bv x, .int .i64 p, .bool ok]) ∧ Post x ok w' w'' ∧ ∃ G : Nat → Prop, Kept G w' w'' ∧ ∀ i, G i → i < w.heap.size) :
  Calls Tryz.prog 38 #[.pointer (some ⟨b, 0, none⟩), .int .i64 t] w fun e w' => ∃ x ok w3 w4, e = .returned (.tuple #[bv x, .bool ok]) ∧ Kept (fun i => i = b ∨ i = pb) w w3 ∧ w.heap.size < w3.heap.size ∧ Prt w0 b qf qc pb room most trim ls cr m (m + 4) Ff Fc w3 ∧ Post x ok w3 w4 ∧ Kept (fun i => i = w.heap.size) w4 w' := by
 have CLI := Lib.hid fun (w' : World) => clampInt_any t now 1125899906842624 w'
 have hmb := clampI_bd t hp.nw.2.1
 rw [hmt] at CLI hmb
 have hn0 := hp.nw.1
 have hx0 := hp.nw.2.2
 have hbl := hp.blk.lt
 have hpl := Blk.lt hp.pace
 have HPOP := Lib.hid hPop
 have HP := Lib.hid hp
 have LEN := Lib.hid fun (w' : World) (h : Prt w0 b qf qc pb room most trim ls cr m nxt Ff Fc w') => len_any h.cq (by rw [cnt_crl]; exact hl)
 rw [cnt_crl] at LEN
 have hat : Pc.atN m = m := clampI_in (by omega) (by omega)
 have GO := Lib.hid fun (w' : World) (h : Prt w0 b qf qc pb room most trim ls cr m nxt Ff Fc w') => Pc.go_yes h.pace ⟨by decide, by decide⟩ m (by rw [hat]; exact hm)
 rw [hat] at GO
 have hcn : (0 : Int) < ((cr.length : Nat) : Int) := by omega
 have hcd : decide ((0 : Int) < ((cr.length : Nat) : Int)) = true := decide_eq_true hcn
 generalize cr.length = cn at *
 clear hPop hp hmt
 go_enter Tryz.func38, Tryz.ntmps38
 go_upto_region 3 with fail
 have hO := Blk.new w [.int .i64 0, .int .i64 0, .int .i64 0, .int .i64 0, .int .u64 0, .int .i64 0, .int .i64 0, .int .i64 0, .int .i64 0, .slice none 0 0, .int .i64 0] 83
 have hk1 := (Kept.refl (fun _ => False) w).alloc (.cells [.int .i64 0, .int .i64 0, .int .i64 0, .int .i64 0, .int .u64 0, .int .i64 0, .int .i64 0, .int .i64 0, .int .i64 0, .slice none 0 0, .int .i64 0].toArray 83)
 dsimp only [List.toArray] at hO hk1
 generalize w.alloc (.cells #[.int .i64 0, .int .i64 0, .int .i64 0, .int .i64 0, .int .u64 0, .int .i64 0, .int .i64 0, .int .i64 0, .int .i64 0, .slice none 0 0, .int .i64 0] 83) = w1 at *
 obtain ⟨rb, hrb⟩ : ∃ rb, w.heap.size = rb := ⟨_, rfl⟩
 rw [hrb] at hO hbl hpl HPOP
 simp only [hrb]
 have HRB := Lib.hid hrb
 have HP1 := Lib.hid (HP.out.old hk1)
 have HK1 := Lib.hid hk1
 have HO1 := Lib.hid hO
 clear hrb hk1 hO HP
 have d4 := HP1.out.blk.cell (o := 4) rfl
 have f4 := HP1.out.blk.frozen 4
 go_upto_region 4 with (first | (go_at_call 66; refine (CLI.out _).mono ?_; rintro e w' ⟨rfl, rfl⟩))
 have HP2 := Lib.hid (HP1.out.setNow ⟨by omega, hmb.2⟩ (m := m))
 have k2 := Kept.one w1 b 4 (.int .i64 m)
 have HO2 := Lib.hid (k2.blk HO1.out (by omega))
 have HK2 : Hid (Kept (fun i => i = b ∨ i = pb) w (w1.setCell ⟨b, 4, none⟩ (.int .i64 m))) := Lib.hid ((HK1.out.mono (fun _ _ f => f.elim)).trans (k2.mono (fun _ _ e => Or.inl e)))
 generalize w1.setCell ⟨b, 4, none⟩ (.int .i64 m) = w2 at *
 clear d4 f4 k2 HP1 HO1 HK1 CLI
 have d1 := HP2.out.blk.cell (o := 1) rfl
 go_upto_region 5 with fail
 have E0 := Lib.hid (Kept.refl (fun _ => False) w2)
 have KS : Hid (∀ w', Kept (fun i => i = pb) w2 w' → w'.cell? ⟨b, 2, none⟩ = some (.pointer (some ⟨qc, 0, none⟩)) ∧ w'.cell? ⟨b, 3, none⟩ = some (.pointer (some ⟨pb, 0, none⟩)) ∧ w'.cell? ⟨b, 4, none⟩ = some (.int .i64 m)) := by
  refine Lib.hid fun w' k => ?_
  have h1 := k.blk HP2.out.blk (fun e => HP2.out.npf.2.2 e)
  exact ⟨h1.cell rfl, h1.cell rfl, h1.cell rfl⟩
 have HPZ := Lib.hid (HP2.out.old E0.out.drew)
 have HOZ := Lib.hid (E0.out.drew.blk HO2.out (fun f => f))
 have HKZ := Lib.hid (HK2.out.drew)
 have K0 : Hid (Kept (fun i => i = pb) w2 w2.drew) := Lib.hid (E0.out.drew.mono (fun _ _ f => f.elim))
 clear d1
 refine wp_region_held_drew (S := (fun w' => w'.cell? ⟨b, 2, none⟩ = some (.pointer (some ⟨qc, 0, none⟩)) ∧ w'.cell? ⟨b, 3, none⟩ = some (.pointer (some ⟨pb, 0, none⟩)) ∧ w'.cell? ⟨b, 4, none⟩ = some (.int .i64 m))) (by kernel_rfl) (KS.out _ K0.out) (fun hHeld => ?_)
 generalize w2.drew = z0 at *
 refine tk 0 ⟨some 26, .move (.tmp 0), 70, "port.go:107", #[], none⟩ (v := ?_) rfl ?_ ?_
 rotate_left 1
 focus (intro w h; (try dsimp only at h); go_simp; try with_reducible rfl)
 try simp only [Act.put, ppA, ppB, ppC]
 refine tk 1 ⟨some 27, .nilCheck (.tmp 26), 0, "port.go:107", #[⟨0, .data⟩], none⟩ (v := ?_) rfl ?_ ?_
 rotate_left 1
 focus (intro w h; (try dsimp only at h); go_simp; try with_reducible rfl)
 try simp only [Act.put, ppA, ppB, ppC]
 refine tk 2 ⟨some 28, .fieldAddr 112 (.tmp 27) 2, 0, "port.go:107", #[⟨1, .data⟩], none⟩ (v := ?_) rfl ?_ ?_
 rotate_left 1
 focus (intro w h; (try dsimp only at h); go_simp; try with_reducible rfl)
 try simp only [Act.put, ppA, ppB, ppC]
 refine tk 3 ⟨some 29, .load 109 (.tmp 28), 109, "port.go:107", #[⟨2, .data⟩], none⟩ (v := ?_) rfl ?_ ?_
 rotate_left 1
 focus (intro w h; (try dsimp only at h); go_simp; try with_reducible rfl)
 try simp only [Act.put, ppA, ppB, ppC]
 refine wpAnyH_ready (rs := [4]) (by kernel_rfl) (by simp) ?_
 refine AllReadyH.cons (o := ⟨some 30, .call ⟨.value (.func 67), #[.tmp 29], #[109]⟩, 3, "port.go:107", #[⟨3, .data⟩], none⟩) rfl (fun K hK => ?_) AllReadyH.nil
 go_simp
 with_reducible refine Calls.mono (LEN.out _ HPZ.out) ?_
 rintro e y1 ⟨rfl, rfl⟩
 refine hK.out _ _ (KS.out _ K0.out) (fun hHeld => ?_)
 clear hK K
 try simp only [Act.put, ppA, ppB, ppC]
 refine tk 5 ⟨some 31, .binOp .gtr 3 (.tmp 30) (.const (.int .i64 0)) 3, 4, "port.go:107", #[⟨4, .data⟩], none⟩ (v := ?_) rfl ?_ ?_
 rotate_left 1
 focus (intro w h; (try dsimp only at h); go_simp; try with_reducible rfl)
 try simp only [Act.put, ppA, ppB, ppC]
 refine tk 6 ⟨some 32, .move (.tmp 31), 4, "port.go:107", #[⟨5, .data⟩, ⟨4, .chain⟩], none⟩ (v := ?_) rfl ?_ ?_
 rotate_left 1
 focus (intro w h; (try dsimp only at h); go_simp; try with_reducible rfl)
 try simp only [Act.put, ppA, ppB, ppC]
 refine tk 7 ⟨some 33, .move (.tmp 0), 70, "port.go:107", #[⟨6, .guard⟩], some (6, true)⟩ (v := ?_) rfl ?_ ?_
 rotate_left 1
 focus (intro w h; (try dsimp only at h); go_simp; try with_reducible rfl)
 try simp only [Act.put, ppA, ppB, ppC]
 refine tk 8 ⟨some 34, .nilCheck (.tmp 33), 0, "port.go:107", #[⟨7, .data⟩, ⟨6, .guard⟩], some (6, true)⟩ (v := ?_) rfl ?_ ?_
 rotate_left 1
 focus (intro w h; (try dsimp only at h); go_simp; try with_reducible rfl)
 try simp only [Act.put, ppA, ppB, ppC]
 refine tk 9 ⟨some 35, .fieldAddr 112 (.tmp 34) 3, 0, "port.go:107", #[⟨8, .data⟩, ⟨6, .guard⟩], some (6, true)⟩ (v := ?_) rfl ?_ ?_
 rotate_left 1
 focus (intro w h; (try dsimp only at h); go_simp; try with_reducible rfl)
 try simp only [Act.put, ppA, ppB, ppC]
 refine tk 10 ⟨some 36, .load 110 (.tmp 35), 110, "port.go:107", #[⟨9, .data⟩, ⟨6, .guard⟩], some (6, true)⟩ (v := ?_) rfl ?_ ?_
 rotate_left 1
 focus (intro w h; (try dsimp only at h); go_simp; try with_reducible rfl)
 try simp only [Act.put, ppA, ppB, ppC]
 refine tk 11 ⟨some 37, .move (.tmp 0), 70, "port.go:107", #[⟨6, .guard⟩], some (6, true)⟩ (v := ?_) rfl ?_ ?_
 rotate_left 1
 focus (intro w h; (try dsimp only at h); go_simp; try with_reducible rfl)
 try simp only [Act.put, ppA, ppB, ppC]
 refine tk 12 ⟨some 38, .nilCheck (.tmp 37), 0, "port.go:107", #[⟨11, .data⟩, ⟨6, .guard⟩], some (6, true)⟩ (v := ?_) rfl ?_ ?_
 rotate_left 1
 focus (intro w h; (try dsimp only at h); go_simp; try with_reducible rfl)
 try simp only [Act.put, ppA, ppB, ppC]
 refine tk 13 ⟨some 39, .fieldAddr 112 (.tmp 38) 4, 0, "port.go:107", #[⟨12, .data⟩, ⟨6, .guard⟩], some (6, true)⟩ (v := ?_) rfl ?_ ?_
 rotate_left 1
 focus (intro w h; (try dsimp only at h); go_simp; try with_reducible rfl)
 try simp only [Act.put, ppA, ppB, ppC]
 refine tk 14 ⟨some 40, .load 3 (.tmp 39), 3, "port.go:107", #[⟨13, .data⟩, ⟨6, .guard⟩], some (6, true)⟩ (v := ?_) rfl ?_ ?_
 rotate_left 1
 focus (intro w h; (try dsimp only at h); go_simp; try with_reducible rfl)
 try simp only [Act.put, ppA, ppB, ppC]
 refine wpAnyH_ready (rs := [15]) (by kernel_rfl) (by simp) ?_
 refine AllReadyH.cons (o := ⟨some 41, .call ⟨.value (.func 68), #[.tmp 36, .tmp 40], #[110, 3]⟩, 4, "port.go:107", #[⟨10, .data⟩, ⟨14, .data⟩, ⟨6, .chain⟩, ⟨6, .guard⟩], some (6, true)⟩) rfl (fun K hK => ?_) AllReadyH.nil
 go_simp
 with_reducible refine Calls.mono (GO.out _ HPZ.out) ?_
 rintro e y2 ⟨rfl, hpp, hk9⟩
 have K0 := Lib.hid (K0.out.trans hk9)
 have HPZ := Lib.hid (HPZ.out.setPace (by omega) hpp hk9)
 have HOZ := Lib.hid (hk9.blk HOZ.out (by omega))
 have HKZ := Lib.hid (HKZ.out.trans (hk9.mono (fun _ _ e => Or.inr e)))
 clear hpp hk9
 refine hK.out _ _ (KS.out _ K0.out) (fun hHeld => ?_)
 clear hK K
 try simp only [Act.put, ppA, ppB, ppC]
 refine tk 16 ⟨some 42, .pick (.tmp 32) (.tmp 41) (.const (.bool false)), 4, "port.go:107", #[⟨6, .data⟩, ⟨15, .data⟩], none⟩ (v := ?_) rfl ?_ ?_
 rotate_left 1
 focus (intro w h; (try dsimp only at h); go_simp; try with_reducible rfl)
 try simp only [Act.put, ppA, ppB, ppC]
 refine wpAnyH_done (by kernel_rfl) ?_ _
 clear E0 KS K0 HP2 HO2 HK2 LEN GO
 have d2 := HPZ.out.blk.cell (o := 2) rfl
 have hsz : rb < y2.heap.size := HOZ.out.lt
 go_wp2_with fail
 with_reducible refine Calls.mono (HPOP.out _ HPZ.out hsz) ?_
 rintro e w4 ⟨x, p, ok, rfl, hPo, G, hkG, hG⟩
 have HPO := Lib.hid hPo
 have hO4 := hkG.blk HOZ.out (fun g => by have := hG _ g; omega)
 clear hPo hkG hG HPOP
 obtain ⟨⟨x1, x2, x3, x4, x5, x6, x7, x8, x9, xd⟩, xa, xc, xq⟩ := x
 go_upto_region 8 with fail
 have hI := Blk.new w4 [.int .i64 x1, .int .i64 x2, .int .i64 x3, .int .i64 x4, .int .u64 (x5 : Int), .int .i64 x6, .int .i64 x7, .int .i64 x8, .int .i64 x9, .slice xa xd.length xc, .int .i64 xq] 83
 have hk5 := (Kept.refl (fun _ => False) w4).alloc (.cells [.int .i64 x1, .int .i64 x2, .int .i64 x3, .int .i64 x4, .int .u64 (x5 : Int), .int .i64 x6, .int .i64 x7, .int .i64 x8, .int .i64 x9, .slice xa xd.length xc, .int .i64 xq].toArray 83)
 have hO5 := hk5.blk hO4 (fun f => f)
 have hob : rb < w4.heap.size := hO4.lt
 dsimp only [List.toArray] at hI hk5 hO5
 generalize w4.alloc (.cells #[.int .i64 x1, .int .i64 x2, .int .i64 x3, .int .i64 x4, .int .u64 (x5 : Int), .int .i64 x6, .int .i64 x7, .int .i64 x8, .int .i64 x9, .slice xa xd.length xc, .int .i64 xq] 83) = w5 at *
 generalize w4.heap.size = ob at *
 obtain ⟨c0, c1, c2, c3, c4, c5, c6, c7, c8, c9, c10⟩ := cs11 hI
 obtain ⟨n0, n1, n2, n3, n4, n5, n6, n7, n8, n9, n10⟩ := cs11 hO5
 obtain ⟨fz0, fz1, fz2, fz3, fz4, fz5, fz6, fz7, fz8, fz9, fz10⟩ := fz11 hO5
 have hO6 := set11_blk hO5 rfl ⟨⟨x1, x2, x3, x4, x5, x6, x7, x8, x9, xd⟩, xa, xc, xq⟩
 have k6 := set11_kept w5 rb ⟨⟨x1, x2, x3, x4, x5, x6, x7, x8, x9, xd⟩, xa, xc, xq⟩
 have HK6 : Hid (Kept (fun i => i = rb) w4 (set11 w5 rb ⟨⟨x1, x2, x3, x4, x5, x6, x7, x8, x9, xd⟩, xa, xc, xq⟩)) := Lib.hid ((hk5.mono (fun _ _ f => f.elim)).trans k6)
 unfold set11 at HK6 hO6
 dsimp only at HK6 hO6
 obtain ⟨z0, z1, z2, z3, z4, z5, z6, z7, z8, z9, z10⟩ := cs11 hO6
 clear hI hO5 hO6 k6 hk5 hO4
 go_wp2_with fail
 exact bodyPost_ret (v := .tuple #[bv ⟨⟨x1, x2, x3, x4, x5, x6, x7, x8, x9, xd⟩, xa, xc, xq⟩, .bool ok]) (by simp [results, Tryz.results38, go_sem, z0, z1, z2, z3, z4, z5, z6, z7, z8, z9, z10]) rfl ⟨_, _, _, _, rfl, HKZ.out, by have := HRB.out; omega, HPZ.out, HPO.out, by rw [HRB.out]; exact HK6.out⟩
end Go.Proofs.YtpogpibjkolioaaGreat.Po

/- A port: Take. Conditions: each theorem's own. -/
namespace Go.Proofs.YtpogpibjkolioaaGreat.Po
open Go.RowKit Hp QuM QuN Rw Qu NumM NumC
attribute [local go_sem ↓] Go.wp_at_zero Go.wp_at_succ
variable {w0 w w' : World} {b qf qc pb : Nat} {room most : Int} {trim : Bool} {ls : Nat → List Bx} {cr : List Bx} {now nxt : Int} {Ff Fc F : Nat → Prop}
theorem take_end {w3 w4 : World} {ls' : Nat → List Bx} {cr' : List Bx} {m nxt' : Int} {Ff' Fc' G : Nat → Prop} (hp : Prt w0 b qf qc pb room most trim ls cr now nxt Ff Fc w) (k3 : Kept (fun i => i = b ∨ i = pb) w w3) (h3 : w.heap.size < w3.heap.size)
  (h4 : Prt w0 b qf qc pb room most trim ls' cr' m nxt' Ff' Fc' w4) (kG : Kept G w3 w4) (hG : ∀ i, G i → fp b pb ls cr Ff Fc i) (hnew : ∀ i, fp b pb ls' cr' Ff' Fc' i → fp b pb ls cr Ff Fc i ∨ w3.heap.size ≤ i) (k5 : Kept (fun i => i = w.heap.size) w4 w') :
  ∃ F', PS w0 b room most trim ls' cr' m nxt' F' w' ∧ Qu.Next (fp b pb ls cr Ff Fc) w F' w' := by
 have hs := hp.fr.1.size
 refine ⟨_, ⟨qf, qc, pb, Ff', Fc', h4.far k5 (fun i e f => ?_) (fun i e => by omega), rfl⟩, ?_, fun i hi => (hnew i hi).imp id (fun e => by omega)⟩
 ·rcases hnew i f with h | h
  ·have := (hp.bound h).2; omega
  ·omega
 ·refine ((k3.mono (fun i _ e => ?_)).trans (kG.mono (fun i _ e => hG i e))).trans' k5 (fun i hi e => by omega)
  rcases e with e | e
  ·exact Or.inl (Or.inl e)
  ·exact Or.inl (Or.inr (Or.inl e))
theorem row_end {w3 w4 : World} {x : Bx} {O O' G : Nat → Prop} (h : Gd w0 w O x) (h3 : Gd w0 w3 O' x) (kG : Kept G w3 w4) (hG : ∀ g, xb x = some g → ¬ G g) (k5 : Kept (fun i => i = w.heap.size) w4 w') : Byt.Row w' w0.heap.size (.slice x.s x.f.data.length x.c) x.f.data :=
 (h3.2.2.1.kept kG hG).kept k5 (fun g hg e => by have := (h.2.2.1.lt g hg).2; omega)
theorem take_frame (h : PS w0 b room most trim ls cr now nxt F w) {t m : Int} (hmt : clampI t now 1125899906842624 = m) (hm : cr = [] ∨ (0 < cr.length ∧ cr.length ≤ 1000000 ∧ m < nxt)) {p : Nat} {x : Bx} {R : List Bx} (ht : top ls 8 = some p) (hx : ls p = x :: R) (hl : (ls p).length ≤ 100000) :
  Calls Tryz.prog 38 #[.pointer (some ⟨b, 0, none⟩), .int .i64 t] w fun e w' => e = .returned (.tuple #[bv x, .bool true]) ∧ Byt.Row w' w0.heap.size (.slice x.s x.f.data.length x.c) x.f.data ∧ ∃ F', PS w0 b room most trim (upd ls p R) cr m nxt F' w' ∧ Qu.Next F w F' w' := by
 obtain ⟨qf, qc, pb, Ff, Fc, hp, rfl⟩ := h
 have hp8 : p < 8 := (top_some ht).1
 have hmem : x ∈ ls p := by rw [hx]; exact List.mem_cons_self
 have hPop : ∀ w3, Prt w0 b qf qc pb room most trim ls cr m nxt Ff Fc w3 → w.heap.size < w3.heap.size → Calls Tryz.prog 69 #[.pointer (some ⟨qf, 0, none⟩)] w3 fun e w4 => ∃ x' p' ok, e = .returned (.tuple #[bv x', .int .i64 p', .bool ok]) ∧
   (x' = x ∧ ok = true ∧ ∃ Ff', Prt w0 b qf qc pb room most trim (upd ls p R) cr m nxt Ff' Fc w4 ∧ Qu.Next Ff w3 Ff' w4) ∧ ∃ G : Nat → Prop, Kept G w3 w4 ∧ ∀ i, G i → i < w.heap.size := by
  intro w3 h3 _
  refine (pop_some h3.fr ht hx hl).mono ?_
  rintro e w4 ⟨rfl, Ff', hS, hN⟩
  exact ⟨x, _, true, rfl, ⟨rfl, rfl, Ff', h3.turnF hS hN (fun k y hk hy => (mem_upd (ls := ls) (P := fun _ => False) hp8 (fun z hz => Or.inl (by rw [hx]; exact List.mem_cons_of_mem _ hz)) hk hy).imp id (fun f => f.elim)), hN⟩, Ff, hN.1, fun i hi => (hp.fr.own i hi).2⟩
 have fin : ∀ e w', (∃ x' ok w3 w4, e = Ending.returned (.tuple #[bv x', .bool ok]) ∧ Kept (fun i => i = b ∨ i = pb) w w3 ∧ w.heap.size < w3.heap.size ∧ Prt w0 b qf qc pb room most trim ls cr m nxt Ff Fc w3 ∧ (x' = x ∧ ok = true ∧ ∃ Ff', Prt w0 b qf qc pb room most trim (upd ls p R) cr m nxt Ff' Fc w4 ∧ Qu.Next Ff w3 Ff' w4) ∧ Kept (fun i => i = w.heap.size) w4 w') →
   e = .returned (.tuple #[bv x, .bool true]) ∧ Byt.Row w' w0.heap.size (.slice x.s x.f.data.length x.c) x.f.data ∧ ∃ F', PS w0 b room most trim (upd ls p R) cr m nxt F' w' ∧ Qu.Next (fp b pb ls cr Ff Fc) w F' w' := by
  rintro e w' ⟨x', ok, w3, w4, rfl, k3, hs3, h3, ⟨rfl, rfl, Ff', h4, hN⟩, k5⟩
  have hg3 := h3.gf p x' hp8 hmem
  refine ⟨rfl, row_end (hp.gf p x' hp8 hmem) hg3 hN.1 (fun g hg f => hg3.2.2.2 g hg (Or.inr (Or.inr (Or.inl f)))) k5, ?_⟩
  refine take_end hp k3 hs3 h4 hN.1 (fun i f => Or.inl (Or.inr (Or.inr (Or.inl f)))) (fun i hi => ?_) k5
  exact fp_step hN.2 (fun i f => Or.inl f) (fun k y hk hy => (mem_upd (ls := ls) (P := fun _ => False) hp8 (fun z hz => Or.inl (by rw [hx]; exact List.mem_cons_of_mem _ hz)) hk hy).imp id (fun f => f.elim)) (fun y hy => Or.inl hy) hi
 rcases hm with hcr | ⟨hc0, hc1, hm⟩
 ·exact (take_off hp hmt hcr (Post := fun x' ok w3 w4 => x' = x ∧ ok = true ∧ ∃ Ff', Prt w0 b qf qc pb room most trim (upd ls p R) cr m nxt Ff' Fc w4 ∧ Qu.Next Ff w3 Ff' w4) hPop).mono fin
 ·exact (take_no hp hmt hc0 hc1 hm (Post := fun x' ok w3 w4 => x' = x ∧ ok = true ∧ ∃ Ff', Prt w0 b qf qc pb room most trim (upd ls p R) cr m nxt Ff' Fc w4 ∧ Qu.Next Ff w3 Ff' w4) hPop).mono fin
theorem take_empty (h : PS w0 b room most trim ls cr now nxt F w) {t m : Int} (hmt : clampI t now 1125899906842624 = m) (hm : cr = [] ∨ (0 < cr.length ∧ cr.length ≤ 1000000 ∧ m < nxt)) (ht : top ls 8 = none) :
  Calls Tryz.prog 38 #[.pointer (some ⟨b, 0, none⟩), .int .i64 t] w fun e w' => e = .returned (.tuple #[bv zB, .bool false]) ∧ ∃ F', PS w0 b room most trim ls cr m nxt F' w' ∧ Qu.Next F w F' w' := by
 obtain ⟨qf, qc, pb, Ff, Fc, hp, rfl⟩ := h
 have hPop : ∀ w3, Prt w0 b qf qc pb room most trim ls cr m nxt Ff Fc w3 → w.heap.size < w3.heap.size → Calls Tryz.prog 69 #[.pointer (some ⟨qf, 0, none⟩)] w3 fun e w4 => ∃ x' p' ok, e = .returned (.tuple #[bv x', .int .i64 p', .bool ok]) ∧
   (x' = zB ∧ ok = false ∧ Kept (fun _ => False) w3 w4) ∧ ∃ G : Nat → Prop, Kept G w3 w4 ∧ ∀ i, G i → i < w.heap.size := by
  intro w3 h3 _
  refine (pop_none h3.fr ht).mono ?_
  rintro e w4 ⟨rfl, hk⟩
  exact ⟨zB, _, false, rfl, ⟨rfl, rfl, hk⟩, fun _ => False, hk, fun _ f => f.elim⟩
 have fin : ∀ e w', (∃ x' ok w3 w4, e = Ending.returned (.tuple #[bv x', .bool ok]) ∧ Kept (fun i => i = b ∨ i = pb) w w3 ∧ w.heap.size < w3.heap.size ∧ Prt w0 b qf qc pb room most trim ls cr m nxt Ff Fc w3 ∧ (x' = zB ∧ ok = false ∧ Kept (fun _ => False) w3 w4) ∧ Kept (fun i => i = w.heap.size) w4 w') →
   e = .returned (.tuple #[bv zB, .bool false]) ∧ ∃ F', PS w0 b room most trim ls cr m nxt F' w' ∧ Qu.Next (fp b pb ls cr Ff Fc) w F' w' := by
  rintro e w' ⟨x', ok, w3, w4, rfl, k3, hs3, h3, ⟨rfl, rfl, hk⟩, k5⟩
  exact ⟨rfl, take_end hp k3 hs3 (h3.old hk) hk (fun i f => f.elim) (fun i hi => Or.inl hi) k5⟩
 rcases hm with hcr | ⟨hc0, hc1, hm⟩
 ·exact (take_off hp hmt hcr (Post := fun x' ok w3 w4 => x' = zB ∧ ok = false ∧ Kept (fun _ => False) w3 w4) hPop).mono fin
 ·exact (take_no hp hmt hc0 hc1 hm (Post := fun x' ok w3 w4 => x' = zB ∧ ok = false ∧ Kept (fun _ => False) w3 w4) hPop).mono fin
theorem top_crl (x : Bx) (R : List Bx) : top (crl (x :: R)) 8 = some 0 := by
 simp [top, crl, upd]
theorem take_credit {x : Bx} {R : List Bx} (h : PS w0 b room most trim ls (x :: R) now nxt F w) {t m : Int} (hmt : clampI t now 1125899906842624 = m) (hl : (x :: R).length ≤ 100000) (hm : nxt ≤ m) :
  Calls Tryz.prog 38 #[.pointer (some ⟨b, 0, none⟩), .int .i64 t] w fun e w' => e = .returned (.tuple #[bv x, .bool true]) ∧ Byt.Row w' w0.heap.size (.slice x.s x.f.data.length x.c) x.f.data ∧ ∃ F', PS w0 b room most trim ls R m (m + 4) F' w' ∧ Qu.Next F w F' w' := by
 obtain ⟨qf, qc, pb, Ff, Fc, hp, rfl⟩ := h
 have hmem : x ∈ x :: R := List.mem_cons_self
 have hPop : ∀ w3, Prt w0 b qf qc pb room most trim ls (x :: R) m (m + 4) Ff Fc w3 → w.heap.size < w3.heap.size → Calls Tryz.prog 69 #[.pointer (some ⟨qc, 0, none⟩)] w3 fun e w4 => ∃ x' p' ok, e = .returned (.tuple #[bv x', .int .i64 p', .bool ok]) ∧
   (x' = x ∧ ok = true ∧ ∃ Fc', Prt w0 b qf qc pb room most trim ls R m (m + 4) Ff Fc' w4 ∧ Qu.Next Fc w3 Fc' w4) ∧ ∃ G : Nat → Prop, Kept G w3 w4 ∧ ∀ i, G i → i < w.heap.size := by
  intro w3 h3 _
  refine (pop_some h3.cq (top_crl x R) (x := x) (L' := R) (upd_self _ _ _) (by rw [show crl (x :: R) 0 = x :: R from upd_self _ _ _]; exact hl)).mono ?_
  rintro e w4 ⟨rfl, Fc', hS, hN⟩
  rw [show upd (crl (x :: R)) 0 R = crl R from upd_upd _ _ _ _] at hS
  exact ⟨x, _, true, rfl, ⟨rfl, rfl, Fc', h3.turnC hS hN (fun y hy => hp.kinds y (List.mem_cons_of_mem _ hy)) (fun y hy => Or.inl (List.mem_cons_of_mem _ hy)), hN⟩, Fc, hN.1, fun i hi => (hp.cq.own i hi).2⟩
 refine (take_go hp hmt (Nat.zero_lt_succ _) (Nat.le_trans hl (by decide)) hm (Post := fun x' ok w3 w4 => x' = x ∧ ok = true ∧ ∃ Fc', Prt w0 b qf qc pb room most trim ls R m (m + 4) Ff Fc' w4 ∧ Qu.Next Fc w3 Fc' w4) hPop).mono ?_
 rintro e w' ⟨x', ok, w3, w4, rfl, k3, hs3, h3, ⟨rfl, rfl, Fc', h4, hN⟩, k5⟩
 have hg3 := h3.gc x' hmem
 refine ⟨rfl, row_end (hp.gc x' hmem) hg3 hN.1 (fun g hg f => hg3.2.2.2 g hg (Or.inr (Or.inr (Or.inr f)))) k5, ?_⟩
 refine take_end hp k3 hs3 h4 hN.1 (fun i f => Or.inl (Or.inr (Or.inr (Or.inr f)))) (fun i hi => ?_) k5
 exact fp_step (fun i f => Or.inl f) hN.2 (fun k y hk hy => Or.inl ⟨k, hk, hy⟩) (fun y hy => Or.inl (List.mem_cons_of_mem _ hy)) hi
end Go.Proofs.YtpogpibjkolioaaGreat.Po

