/- A queue in memory: made, how much is used, how many, which line is the highest. Conditions: each theorem's own. -/
import Derived.Test.YtiffnlcpemfmoaaPqQ
set_option linter.unusedVariables false
namespace Go.Proofs.Ytiffnlcpemfmoaa.Qu
open Go.RowKit Hp QuM QuN Rw
attribute [local go_sem ↓] Go.wp_at_zero Go.wp_at_succ
theorem new_no {room : Int} (h : room < 0 ∨ 1099511627776 < room) (w : World) : Calls Try.prog 38 #[.int .i64 room] w fun e w' => e = .returned (.tuple #[.pointer none, .int .i64 1]) ∧ w = w' := by
  have h' : room < 0 ∨ (decide (room < 0) = false ∧ 1099511627776 < room) := by rw [decide_eq_false_iff_not]; omega
  clear h
  rcases h' with h | ⟨h, h2⟩
  all_goals
    go_enter Try.func38, Try.ntmps38
    go_wp2_with fail
    exact bodyPost_ret (v := .tuple #[.pointer none, .int .i64 1]) (by simp [results, Try.results38, go_sem]) rfl ⟨rfl, rfl⟩
theorem new_yes {room : Int} (h0 : 0 ≤ room) (h1 : room ≤ 1099511627776) (w : World) : Calls Try.prog 38 #[.int .i64 room] w fun e w' => ∃ b F, e = .returned (.tuple #[.pointer (some ⟨b, 0, none⟩), .int .i64 0]) ∧ St w b room (fun _ => []) F w' ∧ ∀ i, F i → w.heap.size ≤ i := by
  have h2 : decide (room < 0) = false := by rw [decide_eq_false_iff_not]; omega
  have h3 : ¬ 1099511627776 < room := by omega
  go_enter Try.func38, Try.ntmps38
  go_wp2_with fail
  have hB := Blk.new w (.int .i64 room :: .int .i64 0 :: (List.replicate 8 [.slice none 0 0, .int .i64 0, .int .i64 0]).flatten) tQ
  have hk := (Kept.refl (fun _ => False) w).alloc (.cells (.int .i64 room :: .int .i64 0 :: (List.replicate 8 [.slice none 0 0, .int .i64 0, .int .i64 0]).flatten).toArray tQ)
  have R : ∃ b, Ending.returned (.tuple #[.pointer (some ⟨w.heap.size, 0, none⟩), .int .i64 0]) = Ending.returned (.tuple #[.pointer (some ⟨b, 0, none⟩), .int .i64 0]) ∧ ∃ F, St w b room (fun _ => []) F (w.alloc (.cells (.int .i64 room :: .int .i64 0 :: (List.replicate 8 [.slice none 0 0, .int .i64 0, .int .i64 0]).flatten).toArray tQ)) ∧ ∀ i, F i → w.heap.size ≤ i := by
    refine ⟨w.heap.size, rfl, fun i => i = w.heap.size, ⟨hk, ⟨h0, h1, h0⟩, _, fun _ => .slice none 0 0, fun _ => 0, ⟨hB, rfl, rfl, ?_, ?_, ?_, fun k hk => RingV.nil, fun j k g _ _ e => by cases e⟩, rfl, fun k g _ e => (by cases e), fun i e => ?_⟩, fun i e => Nat.le_of_eq e.symm⟩
    · intro k hk
      have h8 : k = 0 ∨ k = 1 ∨ k = 2 ∨ k = 3 ∨ k = 4 ∨ k = 5 ∨ k = 6 ∨ k = 7 := by omega
      rcases h8 with rfl | rfl | rfl | rfl | rfl | rfl | rfl | rfl <;> rfl
    · intro k hk
      have h8 : k = 0 ∨ k = 1 ∨ k = 2 ∨ k = 3 ∨ k = 4 ∨ k = 5 ∨ k = 6 ∨ k = 7 := by omega
      rcases h8 with rfl | rfl | rfl | rfl | rfl | rfl | rfl | rfl <;> rfl
    · intro k hk
      have h8 : k = 0 ∨ k = 1 ∨ k = 2 ∨ k = 3 ∨ k = 4 ∨ k = 5 ∨ k = 6 ∨ k = 7 := by omega
      rcases h8 with rfl | rfl | rfl | rfl | rfl | rfl | rfl | rfl <;> rfl
    · subst e; exact ⟨Nat.le_refl _, hB.lt⟩
  exact bodyPost_ret (v := .tuple #[.pointer (some ⟨w.heap.size, 0, none⟩), .int .i64 0]) (by simp [results, Try.results38, go_sem]) rfl R
theorem used_any {w0 w : World} {b : Nat} {room : Int} {ls : Nat → List Bx} {F : Nat → Prop} (h : St w0 b room ls F w) :
    Calls Try.prog 24 #[.pointer (some ⟨b, 0, none⟩)] w fun e w' => e = .returned (.int .i64 (tot ls 8)) ∧ w = w' := by
  obtain ⟨h0, hr0, c, vs, fs, h1, h2, h3, h4⟩ := h
  have q := h1.blk.cell h1.c1
  clear h0 hr0 h1 h2 h3 h4
  generalize tot ls 8 = u at *
  go_enter Try.func24, Try.ntmps24
  go_wp2_with fail
  go_ret
  exact ⟨rfl, rfl⟩
set_option maxHeartbeats 4000000 in
theorem len_any {w0 w : World} {b : Nat} {room : Int} {ls : Nat → List Bx} {F : Nat → Prop} (h : St w0 b room ls F w) (hc : cnt ls 8 ≤ 1000000) :
    Calls Try.prog 13 #[.pointer (some ⟨b, 0, none⟩)] w fun e w' => e = .returned (.int .i64 (cnt ls 8 : Nat)) ∧ w = w' := by
  obtain ⟨h0, hr0, c, vs, fs, h1, h2, h3, h4⟩ := h
  have CN := Lib.hid fun (k : Nat) (hk : k < 8) => h1.blk.cell (h1.cn k hk)
  have CU := Lib.hid fun (k : Nat) (hk : k < 8) => Nat.le_trans (Nat.le_trans (show cnt ls (k + 1) ≤ cnt ls 8 by
    have mono : ∀ a b, a ≤ b → cnt ls a ≤ cnt ls b := by
      intro a b hab
      induction b with
      | zero => obtain rfl : a = 0 := by omega
                exact Nat.le_refl _
      | succ n ih =>
        by_cases e : a = n + 1
        · subst e; exact Nat.le_refl _
        · have := ih (by omega); show cnt ls a ≤ cnt ls n + _; omega
    exact mono _ _ (by omega)) (Nat.le_refl _)) hc
  clear h0 hr0 h1 h2 h3 h4
  go_enter Try.func13, Try.ntmps13
  go_wp2_with fail
  go_loopg [3, 7] 8 (fun mm s3 s7 wr => ∃ (i : Nat), Hid (8 - i ≤ mm) ∧ i ≤ 8 ∧ s7 = .int .i64 ((i : Nat) : Int) ∧ s3 = .int .i64 ((cnt ls i : Nat) : Int) ∧ w = wr)
  case atStart => exact ⟨0, Lib.hid (by omega), Nat.zero_le _, rfl, rfl, rfl⟩
  case round =>
    obtain ⟨i, hmm, hi, rfl, rfl, rfl⟩ := hrel
    rcases Nat.lt_or_ge i 8 with hlt | hge
    · have q := CN.out i hlt
      have hu := CU.out i hlt
      have e : cnt ls (i + 1) = cnt ls i + (ls i).length := rfl
      rw [e] at hu
      have HE := Lib.hid e
      clear e
      generalize (ls i).length = n at *
      generalize hcc : cnt ls i = cc at *
      go_wp2_with fail
      go_roundg (8 - (i + 1))
      case measure => have := hmm.out; omega
      case rel => exact ⟨i + 1, Lib.hid (Nat.le_refl _), by omega, by go_num, by rw [HE.out]; go_num, rfl⟩
    · have hge' : ¬ ((i : Int) < 8) := by omega
      obtain rfl : i = 8 := by omega
      obtain ⟨cc, hcc⟩ : ∃ cc, cnt ls 8 = cc := ⟨_, rfl⟩
      have HCC := Lib.hid hcc
      rw [hcc]
      clear hcc
      go_wp2_with fail
      go_ret
      exact ⟨by rw [HCC.out]; rfl, rfl⟩
set_option maxHeartbeats 4000000 in
theorem highest_any {w0 w : World} {b : Nat} {room : Int} {ls : Nat → List Bx} {F : Nat → Prop} (h : St w0 b room ls F w) :
    Calls Try.prog 27 #[.pointer (some ⟨b, 0, none⟩)] w fun e w' => e = .returned (.tuple #[.int .i64 ((top ls 8).getD 0 : Nat), .bool (top ls 8).isSome]) ∧ w = w' := by
  obtain ⟨h0, hr0, c, vs, fs, h1, h2, h3, h4⟩ := h
  have CN := Lib.hid fun (k : Nat) (hk : k < 8) => h1.blk.cell (h1.cn k hk)
  clear h0 hr0 h1 h2 h3 h4
  obtain ⟨t, hT⟩ : ∃ t, top ls 8 = t := ⟨_, rfl⟩
  have HT := Lib.hid hT
  rw [hT]
  clear hT
  go_enter Try.func27, Try.ntmps27
  go_wp2_with fail
  go_loopg [4] 8 (fun mm s4 wr => ∃ (i : Nat), Hid (i ≤ mm) ∧ i ≤ 8 ∧ s4 = .int .i64 ((i : Nat) - 1 : Int) ∧ Hid (t = top ls i) ∧ w = wr)
  case atStart => exact ⟨8, Lib.hid (by omega), by omega, rfl, Lib.hid HT.out.symm, rfl⟩
  case round =>
    obtain ⟨i, hmm, hi, rfl, ht, rfl⟩ := hrel
    rcases Nat.eq_zero_or_pos i with rfl | hlt
    · have H : Hid (t = none) := Lib.hid ht.out
      go_wp2_with fail
      exact bodyPost_ret (v := .tuple #[.int .i64 0, .bool false]) (by simp [results, Try.results27, go_sem]) rfl ⟨by rw [H.out]; rfl, rfl⟩
    · obtain ⟨j, rfl⟩ : ∃ j, i = j + 1 := ⟨i - 1, by omega⟩
      have q := CN.out j (by omega)
      obtain ⟨q1, hq1⟩ : ∃ q1 : Int, ((j + 1 : Nat) : Int) - 1 = q1 := ⟨_, rfl⟩
      have hq2 : q1 = (j : Int) := by omega
      rw [hq1]
      subst hq2
      clear hq1
      have hjw : IntKind.i64.wrap ((j : Int) - 1) = (j : Int) - 1 := by rw [IntKind.wrap_i64]; omega
      by_cases e : ls j = []
      · have htj : Hid (t = top ls j) := Lib.hid (by rw [ht.out]; exact if_pos e)
        rw [e] at q
        have q' : w.cell? ⟨b, 2 + j * 3 + 2, none⟩ = some (.int .i64 0) := q
        clear q ht
        go_wp2_with fail
        go_roundg j
        case measure => have := hmm.out; omega
        case rel => exact ⟨j, Lib.hid (Nat.le_refl _), by omega, rfl, htj, rfl⟩
      · have htj : Hid (t = some j) := Lib.hid (by rw [ht.out]; exact if_neg e)
        have hn : 0 < (ls j).length := List.length_pos_iff.2 e
        generalize (ls j).length = n at *
        have hn' : (0 : Int) < (n : Int) := by omega
        clear ht hn
        go_wp2_with fail
        exact bodyPost_ret (v := .tuple #[.int .i64 j, .bool true]) (by simp [results, Try.results27, go_sem]) rfl ⟨by rw [htj.out]; rfl, rfl⟩
end Go.Proofs.Ytiffnlcpemfmoaa.Qu
