/- What the document fixes of ports. Conditions: each theorem's own. -/
import Derived.Test.YtiffnlcpemfmoaaPoTk
import Derived.Test.YtiffnlcpemfmoaaEnd
set_option linter.unusedVariables false
namespace Go.Proofs.Ytiffnlcpemfmoaa.Po
open Go.RowKit Hp QuM QuN Rw Qu NumM NumC Go.Proofs.Ytiffnlcpemfmoaa.End
attribute [local go_sem ↓] Go.wp_at_zero Go.wp_at_succ
/-- The credit that the law puts. -/
abbrev cX : Bx := ⟨⟨11, 0, 1, 0, 0, 0, 0, 0, 0, []⟩, none, 0, 0⟩
theorem cX_sane : Sane cX := by unfold Sane Wr.dl; decide
theorem rd_none (w : World) {x : Bx} (hs : x.s = none) (hc : x.c = 0) (hd : x.f.data = []) : Rd w x := by
  refine ⟨⟨none, 0, by rw [hs, hc], by rw [hd]; exact Nat.le_refl _, Or.inl hd, fun _ => rfl⟩, by rw [hd]; exact Nat.zero_le _⟩
set_option maxRecDepth 100000 in
set_option maxHeartbeats 8000000 in
theorem awake_any (w : World) : Calls Try.prog 11 #[] w fun e w' => e = .returned (.bool true) ∧ Old w w' := by
  have N := Lib.hid fun w => pnew_yes (room := 100) (most := 1) (by decide) (by decide) (by decide) (by decide) false w
  go_enter Try.func11, Try.ntmps11
  go_wp2_with fail
  with_reducible refine Calls.mono (N.out _) ?_
  rintro e w1 ⟨b, F, rfl, hS, _⟩
  have HS := Lib.hid hS
  clear hS N
  go_upto_region 5 with fail
  have hB := Blk.new w1 [.int .i64 11, .int .i64 0, .int .i64 1, .int .i64 0, .int .u64 0, .int .i64 0, .int .i64 0, .int .i64 0, .int .i64 0, .slice none 0 0, .int .i64 0] 28
  have hk := (Kept.refl (fun _ => False) w1).alloc (.cells [.int .i64 11, .int .i64 0, .int .i64 1, .int .i64 0, .int .u64 0, .int .i64 0, .int .i64 0, .int .i64 0, .int .i64 0, .slice none 0 0, .int .i64 0].toArray 28)
  dsimp only [List.toArray] at hB hk
  have hF : ¬ F w1.heap.size := fun f => by have := (HS.out.bound f).2; omega
  have HS2 := Lib.hid (HS.out.old hk)
  generalize w1.alloc (.cells #[.int .i64 11, .int .i64 0, .int .i64 1, .int .i64 0, .int .u64 0, .int .i64 0, .int .i64 0, .int .i64 0, .int .i64 0, .slice none 0 0, .int .i64 0] 28) = w2 at *
  generalize w1.heap.size = cb at *
  have HB := Lib.hid hB
  have HF := Lib.hid hF
  clear hB hF hk HS
  have KS : Hid (∀ w', Blk w' cb [.int .i64 11, .int .i64 0, .int .i64 1, .int .i64 0, .int .u64 0, .int .i64 0, .int .i64 0, .int .i64 0, .int .i64 0, .slice none 0 0, .int .i64 0] 28 → w'.cell? ⟨cb, 0, none⟩ = some (.int .i64 11) ∧ w'.cell? ⟨cb, 1, none⟩ = some (.int .i64 0) ∧ w'.cell? ⟨cb, 2, none⟩ = some (.int .i64 1) ∧ w'.cell? ⟨cb, 3, none⟩ = some (.int .i64 0) ∧ w'.cell? ⟨cb, 4, none⟩ = some (.int .u64 0) ∧ w'.cell? ⟨cb, 5, none⟩ = some (.int .i64 0) ∧ w'.cell? ⟨cb, 6, none⟩ = some (.int .i64 0) ∧ w'.cell? ⟨cb, 7, none⟩ = some (.int .i64 0) ∧ w'.cell? ⟨cb, 8, none⟩ = some (.int .i64 0) ∧ w'.cell? ⟨cb, 9, none⟩ = some (.slice none 0 0) ∧ w'.cell? ⟨cb, 10, none⟩ = some (.int .i64 0)) := Lib.hid fun w' h => ⟨h.cell rfl, h.cell rfl, h.cell rfl, h.cell rfl, h.cell rfl, h.cell rfl, h.cell rfl, h.cell rfl, h.cell rfl, h.cell rfl, h.cell rfl⟩
  go_wp2_with fail
  go_region_held3 (fun w' => w'.cell? ⟨cb, 0, none⟩ = some (.int .i64 11) ∧ w'.cell? ⟨cb, 1, none⟩ = some (.int .i64 0) ∧ w'.cell? ⟨cb, 2, none⟩ = some (.int .i64 1) ∧ w'.cell? ⟨cb, 3, none⟩ = some (.int .i64 0) ∧ w'.cell? ⟨cb, 4, none⟩ = some (.int .u64 0) ∧ w'.cell? ⟨cb, 5, none⟩ = some (.int .i64 0) ∧ w'.cell? ⟨cb, 6, none⟩ = some (.int .i64 0) ∧ w'.cell? ⟨cb, 7, none⟩ = some (.int .i64 0) ∧ w'.cell? ⟨cb, 8, none⟩ = some (.int .i64 0) ∧ w'.cell? ⟨cb, 9, none⟩ = some (.slice none 0 0) ∧ w'.cell? ⟨cb, 10, none⟩ = some (.int .i64 0))
    (first | exact KS.out _ HB.out | exact KS.out _ (Blk.drew HB.out) | exact KS.out _ hB4 | exact KS.out _ (Blk.drew hB4) | exact KS.out _ hB3 | exact KS.out _ (Blk.drew hB3))
    (first
      | (go_at_call 6; (with_reducible refine Calls.mono (put_cy (x := cX) (by first | exact HS2.out | exact HS2.out.old (Kept.refl _ _).drew) (rd_none _ rfl rfl rfl) cX_sane rfl (by decide) (by decide)) ?_); rintro e w3 ⟨rfl, s, c, F3, hS3, hN3⟩; have hB3 := hN3.1.blk (b := cb) HB.out HF.out; have hF3 : ¬ F3 cb := (fun f => (hN3.2 cb f).elim HF.out (fun h => by have := HB.out.lt; first | omega | (have h2 : w2.heap.size ≤ cb := h; omega))))
      | (go_at_call 6; (with_reducible refine Calls.mono (put_cn (x := cX) (by first | exact hS3 | exact hS3.old (Kept.refl _ _).drew) (rd_none _ rfl rfl rfl) cX_sane rfl (by simp)) ?_); rintro e w4 ⟨rfl, hk4⟩; have hB4 := hk4.blk (b := cb) hB3 (fun f => f)))
  all_goals
    have HS4 : Hid (PS w b 100 1 false (fun _ => []) [⟨cX.f, s, c, cX.q⟩] 0 0 F3 w4) := by
      first | exact Lib.hid (hS3.old hk4) | exact Lib.hid ((hS3.old (Kept.refl _ _).drew).old hk4)
    have HB4 := Lib.hid hB4
    have HF3 := Lib.hid hF3
    clear hS3 hk4 hB4 hF3 hB3 hN3 HS2 HB HF KS
    go_wp2_with fail
    with_reducible refine Calls.mono (take_credit (m := 0) (x := ⟨cX.f, s, c, cX.q⟩) (R := []) (by first | exact HS4.out | exact HS4.out.old (Kept.refl _ _).drew) (by decide) (by simp) (by decide)) ?_
    rintro e w5 ⟨rfl, _, F5, hS5, hN5⟩
    have hB5 := hN5.1.blk (b := cb) HB4.out HF3.out
    have HB5 := Lib.hid hB5
    have HS5 := Lib.hid hS5
    clear hB5 hS5 hN5 HS4 HB4 HF3
    go_upto_region 7 with fail
    have hk6 := (Kept.refl (fun _ => False) w5).alloc (.cells #[.int .i64 11, .int .i64 0, .int .i64 1, .int .i64 0, .int .u64 0, .int .i64 0, .int .i64 0, .int .i64 0, .int .i64 0, .slice s 0 c, .int .i64 0] 28)
    have HB6 := Lib.hid (hk6.blk HB5.out (fun f => f))
    have HS6 := Lib.hid (HS5.out.old hk6)
    generalize w5.alloc (.cells #[.int .i64 11, .int .i64 0, .int .i64 1, .int .i64 0, .int .u64 0, .int .i64 0, .int .i64 0, .int .i64 0, .int .i64 0, .slice s 0 c, .int .i64 0] 28) = w6 at *
    have CR := Lib.hid (credits_any HS6.out (Nat.zero_le _))
    have BY := Lib.hid (bytes_any (x := cX) cX_sane w6)
    have hnb : nb cX = 26 := by decide
    rw [hnb] at BY
    clear hk6 HB5 HS5 hnb
    have hB6 := HB6.out
    have c0 := hB6.cell (o := 0) rfl
    have c1 := hB6.cell (o := 1) rfl
    have c2 := hB6.cell (o := 2) rfl
    have c3 := hB6.cell (o := 3) rfl
    have c4 := hB6.cell (o := 4) rfl
    have c5 := hB6.cell (o := 5) rfl
    have c6 := hB6.cell (o := 6) rfl
    have c7 := hB6.cell (o := 7) rfl
    have c8 := hB6.cell (o := 8) rfl
    have c9 := hB6.cell (o := 9) rfl
    have c10 := hB6.cell (o := 10) rfl
    clear hB6
    go_wp2_with fail
    with_reducible refine Calls.mono CR.out ?_
    rintro e w7 ⟨rfl, rfl⟩
    go_wp2_with fail
    with_reducible refine Calls.mono BY.out ?_
    rintro e w7 ⟨rfl, hk7⟩
    have HO : Hid (Old w w7) := Lib.hid (HS6.out.since.trans hk7)
    clear hk7 CR BY HB6 HS6 c0 c1 c2 c3 c4 c5 c6 c7 c8 c9 c10
    go_wp2_with fail
    go_ret
    exact ⟨rfl, HO.out⟩
end Go.Proofs.Ytiffnlcpemfmoaa.Po
