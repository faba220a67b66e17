/- What the document fixes of credit rates answers true. Conditions: each theorem's own. -/
import Derived.Test.YtaflhkhfkifefaaCrUpd
import Derived.Test.YtaflhkhfkifefaaEnd
set_option linter.unusedVariables false
namespace Go.Proofs.Ytaflhkhfkifefaa.Cr
open Go.RowKit Hp NumM NumC CrM Go.Proofs.Ytaflhkhfkifefaa.End
attribute [local go_sem ↓] Go.wp_at_zero Go.wp_at_succ
theorem awUpd : (St.first 4194304).upd 4194304 0 10 0 = ⟨2228224, 32768, 1⟩ := by
  unfold St.upd St.first
  rw [if_neg (by decide), if_pos (by decide)]
  rfl
theorem aw1 (w : World) : Calls Try.prog 7 #[.int .i64 64, .int .i64 0] w fun e w' => ∃ b, e = .returned (.tuple #[.pointer (some ⟨b, 0, none⟩), .int .i64 0]) ∧ PR w' b 4194304 0 (St.first 4194304) ∧ Kept (fun _ => False) w w' ∧ w.heap.size ≤ b := new_yes (m := 64) (by decide) (by decide) (by decide) (by decide) w
theorem aw2 (w : World) : Calls Try.prog 7 #[.int .i64 0, .int .i64 0] w fun e w' => e = .returned (.tuple #[.pointer none, .int .i64 1]) ∧ w = w' := new_no (m := 0) (T := 0) (by decide) w
theorem aw3 {w : World} {b : Nat} (h : PR w b 4194304 0 (St.first 4194304)) : Calls Try.prog 11 #[.pointer (some ⟨b, 0, none⟩)] w fun e w' => e = .returned (.int .i64 262144) ∧ w = w' := rate_any h (by decide)
theorem aw4 {w : World} {b : Nat} (h : PR w b 4194304 0 (St.first 4194304)) : Calls Try.prog 9 #[.pointer (some ⟨b, 0, none⟩), .int .i64 10, .int .i64 0] w fun e w' => e = .returned (.int .i64 2228224) ∧ PR w' b 4194304 0 ⟨2228224, 32768, 1⟩ ∧ Kept (fun k => k = b) w w' := by
  have h1 := upd_any h (Ok.first (by decide) (by decide) (by decide) (by decide)) (by decide) 10 0
  rw [awUpd] at h1
  exact h1
theorem aw5 {w : World} {b : Nat} (h : PR w b 4194304 0 ⟨2228224, 32768, 1⟩) : Calls Try.prog 11 #[.pointer (some ⟨b, 0, none⟩)] w fun e w' => e = .returned (.int .i64 2228224) ∧ w = w' := rate_any h (by decide)
theorem aw6 {w : World} {b : Nat} (h : PR w b 4194304 0 ⟨2228224, 32768, 1⟩) : Calls Try.prog 13 #[.pointer (some ⟨b, 0, none⟩)] w fun e w' => e = .returned (.int .i64 1) ∧ w = w' := rises_any h (by decide)
theorem aw7 (w : World) : Calls Try.prog 18 #[.int .i64 4] w fun e w' => e = .returned (.int .i64 262144) ∧ w = w' := of_any 4 w
theorem aw8 (w : World) : Calls Try.prog 19 #[.int .i64 262144] w fun e w' => e = .returned (.int .i64 4) ∧ w = w' := int_any 262144 w
set_option maxHeartbeats 4000000 in
theorem awake_any (w : World) : Calls Try.prog 6 #[] w fun e w' => e = .returned (.bool true) ∧ Old w w' := by
  go_enter Try.func6, Try.ntmps6
  go_wp2_with fail
  with_reducible refine Calls.mono (aw1 w) ?_
  rintro e w1 ⟨b, rfl, h1, k1, l1⟩
  have H1 := Lib.hid h1
  have K1 := Lib.hid k1
  clear h1 k1
  go_wp2_with fail
  with_reducible refine Calls.mono (aw2 _) ?_
  rintro e w' ⟨rfl, rfl⟩
  go_wp2_with fail
  with_reducible refine Calls.mono (aw3 H1.out) ?_
  rintro e w' ⟨rfl, rfl⟩
  go_wp2_with fail
  with_reducible refine Calls.mono (aw4 H1.out) ?_
  rintro e w2 ⟨rfl, h2, k2⟩
  have H2 := Lib.hid h2
  have K2 := Lib.hid k2
  clear h2 k2
  go_wp2_with (first | (go_at_call 18; with_reducible refine Calls.mono (aw7 _) ?_; rintro e w' ⟨rfl, rfl⟩) | (go_at_call 11; with_reducible refine Calls.mono (aw5 H2.out) ?_; rintro e w' ⟨rfl, rfl⟩) | (go_at_call 13; with_reducible refine Calls.mono (aw6 H2.out) ?_; rintro e w' ⟨rfl, rfl⟩) | (go_at_call 19; with_reducible refine Calls.mono (aw8 _) ?_; rintro e w' ⟨rfl, rfl⟩))
  go_ret
  exact ⟨rfl, K1.out.trans' K2.out (fun i hi e => by omega)⟩
end Go.Proofs.Ytaflhkhfkifefaa.Cr
