/- A port: made, its time and its pacer set, how much it holds. Conditions: each theorem's own. -/
import Derived.Test.YtiffnlcpemfmoaaPoPt2
set_option linter.unusedVariables false
namespace Go.Proofs.Ytiffnlcpemfmoaa.Po
open Go.RowKit Hp QuM QuN Rw Qu NumM NumC
attribute [local go_sem ↓] Go.wp_at_zero Go.wp_at_succ
variable {w0 w w' : World} {b qf qc pb : Nat} {room most : Int} {trim : Bool} {ls : Nat → List Bx} {cr : List Bx} {now nxt : Int} {Ff Fc F : Nat → Prop}
theorem st_base {w1 : World} {q : Nat} {r : Int} (h : St w1 q r ls F w) (k : Kept (fun _ => False) w0 w1) : St w0 q r ls F w := by
  obtain ⟨h0, hr, c, vs, fs, h1, h2, h3, h4⟩ := h
  exact ⟨k.trans h0, hr, c, vs, fs, h1, h2, h3, fun i hi => ⟨Nat.le_trans k.size (h4 i hi).1, (h4 i hi).2⟩⟩
/-- Its time is another one. -/
theorem Prt.setNow (h : Prt w0 b qf qc pb room most trim ls cr now nxt Ff Fc w) {m : Int} (hm : 0 ≤ m ∧ m ≤ 1125899906842624) : Prt w0 b qf qc pb room most trim ls cr m nxt Ff Fc (w.setCell ⟨b, 4, none⟩ (.int .i64 m)) := by
  have k := Kept.one w b 4 (.int .i64 m)
  have hlow := h.low.1
  exact { h with
    blk := h.blk.set 4 (.int .i64 m)
    pace := k.blk h.pace (fun e => h.npf.2.2 e.symm)
    fr := h.fr.far k (fun i e f => h.nbf.1 (e ▸ f)) (fun i e => e ▸ hlow)
    cq := h.cq.far k (fun i e f => h.nbf.2 (e ▸ f)) (fun i e => e ▸ hlow)
    nw := ⟨hm.1, hm.2, h.nw.2.2⟩
    gf := fun j x hj hx => (h.gf j x hj hx).kept k (fun g e f => (h.gf j x hj hx).2.2.2 g e (Or.inl f))
    gc := fun x hx => (h.gc x hx).kept k (fun g e f => (h.gc x hx).2.2.2 g e (Or.inl f)) }
/-- Its pacer has gone on. -/
theorem Prt.setPace (h : Prt w0 b qf qc pb room most trim ls cr now nxt Ff Fc w) {v : Int} (hv : 0 ≤ v) (hP : Pc.PP w' pb 4 v) (k : Kept (fun i => i = pb) w w') : Prt w0 b qf qc pb room most trim ls cr now v Ff Fc w' := by
  have hlow := h.low.2
  exact { h with
    blk := k.blk h.blk (fun e => h.npf.2.2 e)
    pace := hP
    fr := h.fr.far k (fun i e f => h.npf.1 (e ▸ f)) (fun i e => e ▸ hlow)
    cq := h.cq.far k (fun i e f => h.npf.2.1 (e ▸ f)) (fun i e => e ▸ hlow)
    nw := ⟨h.nw.1, h.nw.2.1, hv⟩
    gf := fun j x hj hx => (h.gf j x hj hx).kept k (fun g e f => (h.gf j x hj hx).2.2.2 g e (Or.inr (Or.inl f)))
    gc := fun x hx => (h.gc x hx).kept k (fun g e f => (h.gc x hx).2.2.2 g e (Or.inr (Or.inl f))) }
set_option maxRecDepth 100000 in
set_option maxHeartbeats 4000000 in
theorem pnew_yes {room most : Int} (h0 : 0 ≤ room) (h1 : room ≤ 1073741824) (h2 : 0 ≤ most) (h3 : most ≤ 1073741824) (trim : Bool) (w : World) :
    Calls Try.prog 25 #[.int .i64 room, .int .i64 most, .bool trim] w fun e w' => ∃ b F, e = .returned (.tuple #[.pointer (some ⟨b, 0, none⟩), .int .i64 0]) ∧ PS w b room most trim (fun _ => []) [] 0 0 F w' ∧ ∀ i, F i → w.heap.size ≤ i := by
  have NQ := Lib.hid fun w => new_yes (room := room) h0 (by omega) w
  have NC := Lib.hid fun w => new_yes (room := most * 26) (by omega) (by omega) w
  have NP := Lib.hid fun w => Pc.newP_yes (v := 4) ⟨by decide, by decide⟩ w
  have hw1 : IntKind.i64.wrap (most * 26) = most * 26 := by rw [IntKind.wrap_i64]; omega
  have g0 : decide (room < 0) = false := by rw [decide_eq_false_iff_not]; omega
  have g1 : decide (1073741824 < room) = false := by rw [decide_eq_false_iff_not]; omega
  have g2 : decide (most < 0) = false := by rw [decide_eq_false_iff_not]; omega
  have g3 : decide (1073741824 < most) = false := by rw [decide_eq_false_iff_not]; omega
  have LM := Lib.hid (And.intro h1 (And.intro h2 h3))
  go_enter Try.func25, Try.ntmps25
  go_upto_region 4 with fail
  have hB := Blk.new w [.bool trim, .pointer none, .pointer none, .pointer none, .int .i64 0] tP
  have hk1 := (Kept.refl (fun _ => False) w).alloc (.cells [.bool trim, .pointer none, .pointer none, .pointer none, .int .i64 0].toArray tP)
  dsimp only [List.toArray] at hB hk1
  generalize w.alloc (.cells #[.bool trim, .pointer none, .pointer none, .pointer none, .int .i64 0] 41) = w1 at *
  obtain ⟨b, hb⟩ : ∃ b, w.heap.size = b := ⟨_, rfl⟩
  rw [hb] at hB
  simp only [hb]
  have HBe := Lib.hid hb
  have HB := Lib.hid hB
  have HK := Lib.hid hk1
  clear hb hB hk1
  go_wp2_with fail
  with_reducible refine Calls.mono (NQ.out _) ?_
  rintro e w2 ⟨qf, Ff, rfl, hS, hF⟩
  have hB2 := hS.1.blk HB.out (fun f => f)
  have d1 := hB2.cell (o := 1) rfl
  have f1 := hB2.frozen 1
  have hlt := HB.out.lt
  have HSq : Hid (St w qf room (fun _ => []) Ff (w2.setCell ⟨b, 1, none⟩ (.pointer (some ⟨qf, 0, none⟩)))) := Lib.hid ((st_base hS HK.out).far (Kept.one w2 b 1 _) (fun i e f => by have := hF i f; subst e; omega) (fun i e => by have := HBe.out; omega))
  have hB3 := hB2.set 1 (.pointer (some ⟨qf, 0, none⟩))
  dsimp only [List.set] at hB3
  have HF : Hid (∀ i, Ff i → b < i) := Lib.hid fun i f => by have := hF i f; omega
  have HB3 := Lib.hid hB3
  clear hS hF hB2 hB3 HB HK NQ
  go_upto_region 5 with fail
  generalize w2.setCell ⟨b, 1, none⟩ (.pointer (some ⟨qf, 0, none⟩)) = w3 at *
  clear d1 f1
  go_wp2_with fail
  with_reducible refine Calls.mono (NC.out _) ?_
  rintro e w4 ⟨qc, Fc, rfl, hS, hF⟩
  have hB4 := hS.1.blk HB3.out (fun f => f)
  have d2 := hB4.cell (o := 2) rfl
  have f2 := hB4.frozen 2
  have HSq4 := Lib.hid ((HSq.out.old hS.1).far (Kept.one w4 b 2 (.pointer (some ⟨qc, 0, none⟩))) (fun i e f => by have := HF.out i f; omega) (fun i e => by have := HBe.out; omega))
  have HSc4 : Hid (St w qc (most * 26) (fun _ => []) Fc (w4.setCell ⟨b, 2, none⟩ (.pointer (some ⟨qc, 0, none⟩)))) := Lib.hid ((st_base hS HSq.out.1).far (Kept.one w4 b 2 _) (fun i e f => by have := hF i f; have := HB3.out.lt; omega) (fun i e => by have := HBe.out; omega))
  have HC : Hid (∀ i, Fc i → b < i ∧ ¬ Ff i) := Lib.hid fun i f => ⟨by have := hF i f; have := HB3.out.lt; omega, fun g => by have := hF i f; have := (HSq.out.own i g).2; omega⟩
  have hB5 := hB4.set 2 (.pointer (some ⟨qc, 0, none⟩))
  dsimp only [List.set] at hB5
  have HB5 := Lib.hid hB5
  clear hS hF hB4 hB5 HB3 NC HSq
  go_upto_region 6 with fail
  generalize w4.setCell ⟨b, 2, none⟩ (.pointer (some ⟨qc, 0, none⟩)) = w5 at *
  clear d2 f2
  go_wp2_with fail
  with_reducible refine Calls.mono (NP.out _) ?_
  rintro e w6 ⟨pb, rfl, hP, hk, hpb⟩
  have hB6 := hk.blk HB5.out (fun f => f)
  have d3 := hB6.cell (o := 3) rfl
  have f3 := hB6.frozen 3
  have k7 := Kept.one w6 b 3 (.pointer (some ⟨pb, 0, none⟩))
  have hbl := HB5.out.lt
  have R : Hid (PS w b room most trim (fun _ => []) [] 0 0 (fp b pb (fun _ => []) [] Ff Fc) (w6.setCell ⟨b, 3, none⟩ (.pointer (some ⟨pb, 0, none⟩))) ∧ ∀ i, fp b pb (fun _ => []) [] Ff Fc i → w.heap.size ≤ i) := by
    have hf7 := (HSq4.out.old hk).far k7 (fun i e f => by have := HF.out i f; omega) (fun i e => by have := HBe.out; omega)
    have hc7 := (HSc4.out.old hk).far k7 (fun i e f => by have := (HC.out i f).1; omega) (fun i e => by have := HBe.out; omega)
    have e0 : (crl [] : Nat → List Bx) = fun _ => [] := by funext j; by_cases e : j = 0 <;> simp [crl, upd, e]
    have hp : Prt w b qf qc pb room most trim (fun _ => []) [] 0 0 Ff Fc (w6.setCell ⟨b, 3, none⟩ (.pointer (some ⟨pb, 0, none⟩))) :=
      ⟨hB6.set 3 _, k7.blk hP (fun e => by omega), hf7, by rw [e0]; exact hc7, fun i f c => (HC.out i c).2 f, ⟨fun f => by have := HF.out b f; omega, fun f => by have := (HC.out b f).1; omega⟩,
        ⟨fun f => by have := (HSq4.out.own pb f).2; omega, fun f => by have := (HSc4.out.own pb f).2; omega, by omega⟩, ⟨by have := HBe.out; omega, by have := HBe.out; omega⟩, ⟨LM.out.2.1, LM.out.2.2, LM.out.1⟩, fun x hx => (by cases hx), ⟨by decide, by decide, by decide⟩, fun k x hk hx => (by cases hx), fun x hx => (by cases hx)⟩
    exact Lib.hid ⟨⟨qf, qc, pb, Ff, Fc, hp, rfl⟩, fun i hi => (hp.bound hi).1⟩
  clear hP hk hpb hB6 k7 HSq4 HSc4 HB5 NP
  go_wp2_with fail
  exact bodyPost_ret (v := .tuple #[.pointer (some ⟨b, 0, none⟩), .int .i64 0]) (by simp [results, Try.results25, go_sem]) rfl ⟨b, _, rfl, R.out⟩
theorem credits_any (h : PS w0 b room most trim ls cr now nxt F w) (hc : cr.length ≤ 1000000) :
    Calls Try.prog 9 #[.pointer (some ⟨b, 0, none⟩)] w fun e w' => e = .returned (.int .i64 (cr.length : Nat)) ∧ w = w' := by
  obtain ⟨qf, qc, pb, Ff, Fc, hp, rfl⟩ := h
  have LN := len_any hp.cq (by rw [cnt_crl]; exact hc)
  rw [cnt_crl] at LN
  have LN := Lib.hid LN
  have c2 := hp.blk.cell (o := 2) rfl
  clear hp hc
  generalize cr.length = n at *
  go_enter Try.func9, Try.ntmps9
  go_wp2_with fail
  with_reducible refine Calls.mono LN.out ?_
  rintro e w2 ⟨rfl, rfl⟩
  go_wp2_with fail
  go_ret
  exact ⟨rfl, rfl⟩
theorem credits_nil (w : World) : Calls Try.prog 9 #[.pointer none] w fun e w' => e = .returned (.int .i64 0) ∧ w = w' := by
  go_enter Try.func9, Try.ntmps9
  go_wp2_with fail
  go_ret
  exact ⟨rfl, rfl⟩
theorem pused_any (h : PS w0 b room most trim ls cr now nxt F w) :
    Calls Try.prog 10 #[.pointer (some ⟨b, 0, none⟩)] w fun e w' => e = .returned (.int .i64 (tot ls 8)) ∧ w = w' := by
  obtain ⟨qf, qc, pb, Ff, Fc, hp, rfl⟩ := h
  have LN := Lib.hid (used_any hp.fr)
  have c1 := hp.blk.cell (o := 1) rfl
  clear hp
  generalize tot ls 8 = n at *
  go_enter Try.func10, Try.ntmps10
  go_wp2_with fail
  with_reducible refine Calls.mono LN.out ?_
  rintro e w2 ⟨rfl, rfl⟩
  go_wp2_with fail
  go_ret
  exact ⟨rfl, rfl⟩
theorem pused_nil (w : World) : Calls Try.prog 10 #[.pointer none] w fun e w' => e = .returned (.int .i64 0) ∧ w = w' := by
  go_enter Try.func10, Try.ntmps10
  go_wp2_with fail
  go_ret
  exact ⟨rfl, rfl⟩
end Go.Proofs.Ytiffnlcpemfmoaa.Po
