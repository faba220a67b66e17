/- Messages in rows; what the law's own small call answers; a law's messages made the program's. Conditions: each theorem's own. -/
import Derived.Test.YtbohigfhbjconaaSrGts
set_option linter.unusedVariables false
set_option linter.unusedSimpArgs false
namespace Go.Proofs.Ytbohigfhbjconaa.Sr
open Go.RowKit Hp Go.Proofs.Ytbohigfhbjconaa.End Opn SrM So SoM NumM NumC
/-- Messages, as elements of rows. -/
@[reducible] def mT : Rw.Ty M where
  E := 39
  L := 24
  k := 6
  bz := 48
  enc := fun m => [.int .i64 m.p, .int .u64 m.i, .int .i64 m.t, .int .i64 m.h, .int .i64 m.g, .int .i64 m.b]
  z := .agg #[.int .i64 0, .int .u64 0, .int .i64 0, .int .i64 0, .int .i64 0, .int .i64 0]
  hL := Try.underlying24
  hI := by kernel_rfl
  hz := rfl
  hk := fun x => rfl
  h1 := fun x v hv => by
    simp only [List.mem_cons, List.not_mem_nil, or_false] at hv
    rcases hv with rfl | rfl | rfl | rfl | rfl | rfl <;> rfl
  k0 := by decide
  hb := by decide
theorem Rd.of_row {w : World} {b : Nat} {v : Value} {l : List M} (h : Rw.Row mT w b v l) : Rd w v l := by
  rcases h.form with ⟨rfl, rfl⟩ | ⟨g, cap, cur, rfl, hg, hL⟩
  · exact ⟨none, 0, rfl, fun k x hx => by simp at hx⟩
  · refine ⟨_, cap, rfl, fun k m hm => ⟨g, 0, rfl, hL.blk.lt, ?_⟩⟩
    have e : ∀ (j : Nat) (u : Value), (mT.enc m)[j]? = some u → w.cell? ⟨g, 0 + k * 6 + j, none⟩ = some u := fun j u hu => by
      have := hL.cell hm (j := j) hu
      simpa [mT] using this
    exact ⟨by simpa using e 0 _ rfl, e 1 _ rfl, e 2 _ rfl, e 3 _ rfl, e 4 _ rfl, e 5 _ rfl⟩
def a0 : M := ⟨1, 1, 100, 0, 0, 0⟩
theorem a0_opn : opn [a0] [a0].length = [0] := by decide
theorem a0_o {b : Bool} {o : List Int} (h : IsO b [a0] o) : o = [0] := by
  have := h.1
  rw [a0_opn] at this
  exact List.perm_singleton.1 this
theorem a0_old {x : Int} (h : Od [a0] x) : x = 0 := by
  rcases h with ⟨h, _⟩ | ⟨h, _⟩
  · rw [a0_opn] at h; cases h
  · rw [a0_opn] at h; simpa using h
theorem a0_gran : gran [a0] [0] 0 1 40 0 = [(1, 1, 40, 6)] := by decide
set_option maxHeartbeats 8000000 in
set_option maxRecDepth 100000 in
theorem awake_any (w : World) : Calls Try.prog 7 #[] w fun e w' => e = .returned (.bool true) ∧ Kept (fun _ => False) w w' := by
  have hB := Blk.new w [.int .i64 1, .int .u64 1, .int .i64 100, .int .i64 0, .int .i64 0, .int .i64 0] 39
  have hk := new_kept w (.cells [.int .i64 1, .int .u64 1, .int .i64 100, .int .i64 0, .int .i64 0, .int .i64 0].toArray 39)
  dsimp only [List.toArray] at hB hk
  have hrd : Rd (w.alloc (.cells #[.int .i64 1, .int .u64 1, .int .i64 100, .int .i64 0, .int .i64 0, .int .i64 0] 39)) (.slice (some ⟨w.heap.size, 0, none⟩) 1 1) [a0] :=
    ⟨_, 1, rfl, fun k m hm => by
      cases k with
      | succ k => simp at hm
      | zero =>
        obtain rfl : a0 = m := by simpa using hm
        exact ⟨w.heap.size, 0, rfl, hB.lt, C6.blk hB⟩⟩
  have GO := Lib.hid (grants_ok (k := 1) (budget := 40) (share := 0) hrd (by decide) (by unfold Fine; decide))
  have GB := Lib.hid fun a n c w => grants_bad (k := 0) (budget := 40) (share := 0) a n c (by unfold Fine; decide) w
  have M1 := Lib.hid fun w => may_any a0 w
  have M2 := Lib.hid fun w => may_any ⟨0, 0, 0, 0, 0, 0⟩ w
  rw [show may a0 = true by decide] at M1
  rw [show may ⟨0, 0, 0, 0, 0, 0⟩ = false by decide] at M2
  unfold mv ml a0 at M1
  unfold mv ml at M2
  dsimp only at M1 M2
  have HB := Lib.hid hB
  have HK := Lib.hid hk
  clear hB hk hrd
  go_enter Try.func7, Try.ntmps7
  go_upto_region 2 with fail
  generalize w.alloc (.cells #[.int .i64 1, .int .u64 1, .int .i64 100, .int .i64 0, .int .i64 0, .int .i64 0] 39) = w1 at *
  generalize w.heap.size = q at *
  go_wp2_with fail
  with_reducible refine Calls.mono GO.out ?_
  rintro e w2 ⟨v', o, old, rfl, hO, hD, hG, hk2⟩
  obtain rfl := a0_o hO
  obtain rfl := a0_old hD
  rw [a0_gran] at hG
  obtain ⟨g, cap, cur, rfl, _, hL⟩ : ∃ g cap cur, v' = .slice (some ⟨g, 0, none⟩) 1 cap ∧ w1.heap.size ≤ g ∧ Rw.Lies gT w2 g cap cur [(1, 1, 40, 6)] := by
    rcases hG.form with ⟨_, e⟩ | ⟨a1, a2, a3, a4, a5, a6⟩
    · cases e
    · exact ⟨a1, a2, a3, a4, a5, a6⟩
  have c2 := hL.cell (i := 0) rfl (j := 2) (u := .int .i64 40) rfl
  have c3 := hL.cell (i := 0) rfl (j := 3) (u := .int .i64 6) rfl
  have HB2 := Lib.hid (hk2.blk HB.out (fun f => f))
  have hB2 := HB2.out
  have m0 := hB2.cell (o := 0) rfl
  have m1 := hB2.cell (o := 1) rfl
  have m2 := hB2.cell (o := 2) rfl
  have m3 := hB2.cell (o := 3) rfl
  have m4 := hB2.cell (o := 4) rfl
  have m5 := hB2.cell (o := 5) rfl
  dsimp only [gT] at c2 c3
  simp only [Nat.zero_mul, Nat.zero_add] at c2 c3
  have HK2 := Lib.hid hk2
  clear hO hD hG hL hB2 hk2 GO HB
  go_wp2_with fail
  with_reducible refine Calls.mono (GB.out _ _ _ _) ?_
  rintro e w3 ⟨rfl, rfl⟩
  go_wp2_with fail
  with_reducible refine Calls.mono (M1.out _) ?_
  rintro e w4 ⟨rfl, hw4⟩
  have HK4 : Hid (Kept (fun _ => False) w2 w4) := Lib.hid (by rw [hw4]; exact new_kept _ _)
  clear hw4 c2 c3 m0 m1 m2 m3 m4 m5
  go_wp2_with fail
  with_reducible refine Calls.mono (M2.out _) ?_
  rintro e w5 ⟨rfl, hw5⟩
  have HK5 : Hid (Kept (fun _ => False) w4 w5) := Lib.hid (by rw [hw5]; exact new_kept _ _)
  clear hw5
  go_wp2_with fail
  go_ret
  exact ⟨rfl, ((HK.out.trans HK2.out).trans HK4.out).trans HK5.out⟩
end Go.Proofs.Ytbohigfhbjconaa.Sr
