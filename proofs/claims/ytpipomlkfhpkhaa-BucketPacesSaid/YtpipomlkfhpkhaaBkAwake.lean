/- What the document fixes of the bucket and the pacer answers true. Conditions: each theorem's own. -/
import Derived.Test.YtpipomlkfhpkhaaPc
import Derived.Test.YtpipomlkfhpkhaaEnd
set_option linter.unusedVariables false
namespace Go.Proofs.Ytpipomlkfhpkhaa.BkAwake
open Go.RowKit Hp NumM NumC Num1 Bk Pc Go.Proofs.Ytpipomlkfhpkhaa.End
theorem fits : Fits 65536 2 := ⟨by decide, by decide, by decide, by decide⟩
theorem of1 (w : World) : Calls Try.prog 22 #[.int .i64 1] w fun e w' => e = .returned (.int .i64 65536) ∧ w = w' := of_any 1 w
theorem t1 {b : Nat} {w : World} (hB : PB w b 65536 131072 131072 0) : Calls Try.prog 9 #[.pointer (some ⟨b, 0, none⟩), .int .i64 0, .int .i64 2] w fun e w' =>
    e = .returned (.bool true) ∧ PB w' b 65536 131072 0 0 ∧ Kept (fun k => k = b) w w' := take_any fits.ok hB 0 2
theorem ok2 : Ok 65536 2 0 0 := ⟨by decide, by decide, by decide, by decide, by decide, by decide, by decide, by decide⟩
theorem t2 {b : Nat} {w : World} (hB : PB w b 65536 131072 0 0) : Calls Try.prog 9 #[.pointer (some ⟨b, 0, none⟩), .int .i64 0, .int .i64 1] w fun e w' =>
    e = .returned (.bool false) ∧ PB w' b 65536 131072 0 0 ∧ Kept (fun k => k = b) w w' := take_any ok2 hB 0 1
theorem t3 {b : Nat} {w : World} (hB : PB w b 65536 131072 0 0) : Calls Try.prog 9 #[.pointer (some ⟨b, 0, none⟩), .int .i64 1, .int .i64 1] w fun e w' =>
    e = .returned (.bool true) ∧ PB w' b 65536 131072 0 1 ∧ Kept (fun k => k = b) w w' := take_any ok2 hB 1 1
theorem beats : Beats 3 := ⟨by decide, by decide⟩
theorem p1 {b : Nat} {w : World} (hB : PP w b 3 0) : Calls Try.prog 18 #[.pointer (some ⟨b, 0, none⟩), .int .i64 0] w fun e w' =>
    e = .returned (.bool true) ∧ PP w' b 3 3 ∧ Kept (fun k => k = b) w w' := go_yes hB beats 0 (by decide)
theorem p2 {b : Nat} {w : World} (hB : PP w b 3 3) : Calls Try.prog 18 #[.pointer (some ⟨b, 0, none⟩), .int .i64 2] w fun e w' =>
    e = .returned (.bool false) ∧ PP w' b 3 3 ∧ Kept (fun k => k = b) w w' := go_no hB 2 (by decide)
theorem p3 {b : Nat} {w : World} (hB : PP w b 3 3) : Calls Try.prog 20 #[.pointer (some ⟨b, 0, none⟩)] w fun e w' =>
    e = .returned (.int .i64 3) ∧ Kept (fun _ => False) w w' := next_any hB (by decide)
theorem awake_any (w : World) : Calls Try.prog 6 #[] w fun e w' => e = .returned (.bool true) ∧ Old w w' := by
  go_enter Try.func6, Try.ntmps6
  go_wp2_with (go_at_call 22; refine (of1 _).mono ?_; rintro e w' ⟨rfl, rfl⟩)
  refine (new_yes fits w).mono ?_
  rintro e w1 ⟨b, rfl, hB1, k1, l1⟩
  go_wp2_with fail
  refine (newP_yes beats w1).mono ?_
  rintro e w2 ⟨c, rfl, hP2, k2, l2⟩
  have hB2 := k2.blk hB1 (fun h => h)
  have l3 := hB1.lt
  have hcb : b ≠ c := by omega
  have hs := k1.size
  have kk := k1.trans k2
  clear k1 k2
  go_wp2_with fail
  refine (t1 hB2).mono ?_
  rintro e w3 ⟨rfl, hB3, k3⟩
  go_wp2_with fail
  refine (t2 hB3).mono ?_
  rintro e w4 ⟨rfl, hB4, k4⟩
  go_wp2_with fail
  refine (t3 hB4).mono ?_
  rintro e w5 ⟨rfl, hB5, k5⟩
  have hP5 := k5.blk (k4.blk (k3.blk hP2 (fun e => hcb e.symm)) (fun e => hcb e.symm)) (fun e => hcb e.symm)
  go_wp2_with fail
  refine (p1 hP5).mono ?_
  rintro e w6 ⟨rfl, hP6, k6⟩
  go_wp2_with fail
  refine (p2 hP6).mono ?_
  rintro e w7 ⟨rfl, hP7, k7⟩
  go_wp2_with fail
  refine (p3 hP7).mono ?_
  rintro e w8 ⟨rfl, k8⟩
  go_wp2_with fail
  go_ret
  have nb : ∀ i, i < w.heap.size → i = b → False := fun i hi e => by omega
  have nc : ∀ i, i < w.heap.size → i = c → False := fun i hi e => by omega
  exact ⟨rfl, (((((kk.trans' k3 nb).trans' k4 nb).trans' k5 nb).trans' k6 nc).trans' k7 nc).trans k8⟩
end Go.Proofs.Ytpipomlkfhpkhaa.BkAwake
