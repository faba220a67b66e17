/- What counts lost credits: how it lies; Sent, Used, Window. Conditions: each theorem's own. -/
import Derived.Test.YtaflhkhfkifefaaKm
import Derived.WalkKit
import Derived.Outline
import Derived.ProofKit
import Derived.LoopTactic
import Derived.Deep.QuietTactic
import Derived.Deep.RegionWith
import Derived.Deep.DeepCutAuto
import Derived.Laws.NewBlocks
import Derived.Deep.RegionHeld3
import Derived.Deep.DrawnRows
import Derived.WalkLawsBesides
set_option linter.unusedVariables false
namespace Go.Proofs.Ytaflhkhfkifefaa.Cr
open Go.RowKit Hp Km
attribute [local go_sem ↓] Go.wp_at_zero Go.wp_at_succ
/-- So many were sent, so many came back used, and the numbers M have not. -/
structure LV (w : World) (b n u : Nat) (mo : Option Nat) (M : List Int) : Prop where
  blk : Blk w b [.int .i64 (n : Nat), .int .i64 (u : Nat), .map mo] 44
  map : (mo = none ∧ M = []) ∨ ∃ mb, mo = some mb ∧ KMap w mb M
theorem LV.ne {w : World} {b n u mb : Nat} {M : List Int} (h : LV w b n u (some mb) M) : mb ≠ b := by
  rcases h.map with ⟨e, _⟩ | ⟨m, e, h2⟩
  · cases e
  · cases e
    intro e
    subst e
    exact h2.not_blk h.blk
theorem LV.kept {F : Nat → Prop} {w w' : World} {b n u : Nat} {mo : Option Nat} {M : List Int} (h : LV w b n u mo M) (k : Kept F w w') (h1 : ¬ F b) (h2 : ∀ g, mo = some g → ¬ F g) : LV w' b n u mo M :=
  ⟨k.blk h.blk h1, h.map.imp id (fun ⟨mb, e, h3⟩ => ⟨mb, e, h3.kept k (h2 mb e)⟩)⟩
theorem map_some (mb : Nat) (w : World) : (binOp BinOp.eql 42 (.map (some mb)) (.map none)).run Try.prog w = .ok (.bool false) w := by kernel_rfl
theorem map_none (w : World) : (binOp BinOp.eql 42 (.map none) (.map none)).run Try.prog w = .ok (.bool true) w := by kernel_rfl
theorem map_made (w : World) : (Instr.makeMap 42 none).run Try.prog w = .ok (.map (some w.heap.size)) (w.alloc (.map #[] 0)) := by kernel_rfl
attribute [local go_sem ↓] map_some map_none map_made
theorem sent_nil (x : Int) (w : World) : Calls Try.prog 14 #[.pointer none, .int .i64 x] w fun e w' => e = .returned (.tuple #[]) ∧ w = w' := by
  go_enter Try.func14, Try.ntmps14
  go_wp2_with fail
  refine bodyPost_ret (results_none rfl _ _ _) rfl ?_
  exact ⟨rfl, rfl⟩
theorem window_nil (w : World) : Calls Try.prog 16 #[.pointer none] w fun e w' => e = .returned (.tuple #[.int .i64 0, .int .i64 0]) ∧ w = w' := by
  go_enter Try.func16, Try.ntmps16
  go_wp2_with fail
  go_ret2
  exact ⟨rfl, rfl⟩
set_option maxHeartbeats 4000000 in
theorem sent_some {w : World} {b n u mb : Nat} {M : List Int} (h : LV w b n u (some mb) M) (hn : n ≤ 1000000) (x : Int) :
    Calls Try.prog 14 #[.pointer (some ⟨b, 0, none⟩), .int .i64 x] w fun e w' => e = .returned (.tuple #[]) ∧ LV w' b (n + 1) u (some mb) (ins M x) ∧ Kept (fun k => k = b ∨ k = mb) w w' := by
  have hne := h.ne
  have HB := Lib.hid h.blk
  obtain ⟨m, e, hM⟩ : ∃ m, some mb = some m ∧ KMap w m M := h.map.elim (fun h => by cases h.1) id
  cases e
  have HM := Lib.hid hM
  have c2 := HB.out.cell (o := 2) rfl
  clear h hM
  go_enter Try.func14, Try.ntmps14
  go_wp2_with (at_mapUpdate; refine wp_put rfl (.tmp 18) (.tmp 19) (.tmp 20) 42 rfl 3 61 Try.underlying42 Try.underlying3 HM.out rfl rfl rfl ?_; intro w1 hM1 hk1; have HM1 := Lib.hid hM1; have HK1 := Lib.hid hk1; have HB1 := Lib.hid (HK1.out.blk HB.out (fun e => hne e.symm)); have c0 := HB1.out.cell (o := 0) rfl; have f0 := HB1.out.frozen 0; have hbl := HB1.out.lt; clear hM1 hk1)
  go_end0
  exact ⟨rfl, ⟨HB1.out.set 0 (.int .i64 ((n + 1 : Nat) : Int)), Or.inr ⟨mb, rfl, HM1.out.kept (Kept.one w1 b 0 _) hne⟩⟩, Kept.set (F := fun k => k = b ∨ k = mb) (HK1.out.mono (fun _ _ e => Or.inr e)) (b := b) (fun _ => Or.inl rfl) 0 _⟩
set_option maxHeartbeats 4000000 in
theorem sent_first {w : World} {b n u : Nat} {M : List Int} (h : LV w b n u none M) (hn : n ≤ 1000000) (x : Int) :
    Calls Try.prog 14 #[.pointer (some ⟨b, 0, none⟩), .int .i64 x] w fun e w' => e = .returned (.tuple #[]) ∧ ∃ mb, LV w' b (n + 1) u (some mb) (ins M x) ∧ Kept (fun k => k = b) w w' ∧ w.heap.size ≤ mb := by
  have HB := Lib.hid h.blk
  obtain rfl : M = [] := h.map.elim (fun h => h.2) (fun ⟨_, e, _⟩ => by cases e)
  have c2 := HB.out.cell (o := 2) rfl
  have f2 := HB.out.frozen 2
  have hbl := HB.out.lt
  clear h
  have hM := KMap.new (w.setCell ⟨b, 2, none⟩ (.map (some w.heap.size)))
  rw [show (w.setCell ⟨b, 2, none⟩ (.map (some w.heap.size))).heap.size = w.heap.size by simp] at hM
  have HM := Lib.hid hM
  have HB1 := Lib.hid ((HB.out.set 2 (.map (some w.heap.size))).old (.map #[] 0))
  have HK1 := Lib.hid (((Kept.refl (fun k => k = b) w).set (b := b) (fun _ => rfl) 2 (.map (some w.heap.size))).alloc (.map #[] 0))
  have hne : w.heap.size ≠ b := by omega
  clear hM
  go_enter Try.func14, Try.ntmps14
  go_wp2_with (at_mapUpdate; refine wp_put rfl (.tmp 18) (.tmp 19) (.tmp 20) 42 rfl 3 61 Try.underlying42 Try.underlying3 HM.out rfl rfl rfl ?_; intro w1 hM1 hk1; have HM1 := Lib.hid hM1; have HK2 := Lib.hid hk1; have HB2 := Lib.hid (HK2.out.blk HB1.out (fun e => hne e.symm)); have c0 := HB2.out.cell (o := 0) rfl; have f0 := HB2.out.frozen 0; have hbl := HB2.out.lt; clear hM1 hk1)
  go_end0
  exact ⟨rfl, w.heap.size, ⟨HB2.out.set 0 (.int .i64 ((n + 1 : Nat) : Int)), Or.inr ⟨_, rfl, HM1.out.kept (Kept.one w1 b 0 _) hne⟩⟩, (HK1.out.trans' HK2.out (fun i hi e => by omega)).set (fun _ => rfl) 0 _, Nat.le_refl _⟩
theorem sent_any {w : World} {b n u : Nat} {mo : Option Nat} {M : List Int} (h : LV w b n u mo M) (hn : n ≤ 1000000) (x : Int) :
    Calls Try.prog 14 #[.pointer (some ⟨b, 0, none⟩), .int .i64 x] w fun e w' => e = .returned (.tuple #[]) ∧ ∃ mb, LV w' b (n + 1) u (some mb) (ins M x) ∧ Kept (fun k => k = b ∨ mo = some k) w w' ∧ (mo = some mb ∨ w.heap.size ≤ mb) := by
  cases mo with
  | none => exact (sent_first h hn x).mono fun e w' ⟨e1, mb, h1, h2, h3⟩ => ⟨e1, mb, h1, h2.mono (fun _ _ e => Or.inl e), Or.inr h3⟩
  | some mb => exact (sent_some h hn x).mono fun e w' ⟨e1, h1, h2⟩ => ⟨e1, mb, h1, h2.mono (fun _ _ e => e.imp id (fun e => by rw [e])), Or.inl rfl⟩
set_option maxHeartbeats 4000000 in
/-- Of a number that did not come back yet. -/
theorem used_hit {w : World} {b n u mb : Nat} {M : List Int} (h : LV w b n u (some mb) M) (hu : u ≤ 1000000) (x : Int) (hx : x ∈ M) :
    Calls Try.prog 15 #[.pointer (some ⟨b, 0, none⟩), .int .i64 x] w fun e w' => e = .returned (.tuple #[]) ∧ LV w' b n (u + 1) (some mb) (M.erase x) ∧ Kept (fun k => k = b ∨ k = mb) w w' := by
  have hne := h.ne
  have HB := Lib.hid h.blk
  obtain ⟨m, e, hM⟩ : ∃ m, some mb = some m ∧ KMap w m M := h.map.elim (fun h => by cases h.1) id
  cases e
  have HM := Lib.hid hM
  have c2 := HB.out.cell (o := 2) rfl
  have HX := Lib.hid hx
  clear h hM hx
  have hb0 := HB.out.lt
  have HM1 := Lib.hid (HM.out.kept ((Kept.refl (fun _ => False) w).alloc (.cells #[] 61)) (fun f => f))
  have HB1 := Lib.hid (HB.out.old (.cells #[] 61))
  have HK1 := Lib.hid ((Kept.refl (fun k => k = b ∨ k = mb) w).alloc (.cells #[] 61))
  have HD : decide (x ∈ M) = true := by simpa using HX.out
  go_enter Try.func15, Try.ntmps15
  go_wp2_with (first | (at_lookup; refine wp_look rfl (.tmp 12) (.tmp 13) 42 rfl 3 61 Try.underlying42 Try.underlying3 (by kernel_rfl) HM.out rfl rfl ?_) | (at_delete; refine wp_del rfl (.tmp 22) (.tmp 23) 42 3 rfl 61 Try.underlying42 Try.underlying3 HM1.out rfl rfl HX.out ?_; intro w1 hM2 hk2; have HM2 := Lib.hid hM2; have HK2 := Lib.hid hk2; have HB2 := Lib.hid (HK2.out.blk HB1.out (fun e => hne e.symm)); have c1 := HB2.out.cell (o := 1) rfl; have f1 := HB2.out.frozen 1; have hbl := HB2.out.lt; clear hM2 hk2))
  go_end0
  exact ⟨rfl, ⟨HB2.out.set 1 (.int .i64 ((u + 1 : Nat) : Int)), Or.inr ⟨mb, rfl, HM2.out.kept (Kept.one w1 b 1 _) hne⟩⟩, Kept.set (F := fun k => k = b ∨ k = mb) (HK1.out.trans (HK2.out.mono (fun _ _ e => Or.inr e))) (b := b) (fun _ => Or.inl rfl) 1 _⟩
set_option maxHeartbeats 4000000 in
/-- Of another number. -/
theorem used_miss {w : World} {b n u : Nat} {mo : Option Nat} {M : List Int} (h : LV w b n u mo M) (x : Int) (hx : x ∉ M) :
    Calls Try.prog 15 #[.pointer (some ⟨b, 0, none⟩), .int .i64 x] w fun e w' => e = .returned (.tuple #[]) ∧ Kept (fun _ => False) w w' := by
  have HB := Lib.hid h.blk
  have c2 := HB.out.cell (o := 2) rfl
  have HK1 := Lib.hid ((Kept.refl (fun _ => False) w).alloc (.cells #[] 61))
  have HD : decide (x ∈ M) = false := by simpa using hx
  have HMM := Lib.hid h.map
  clear h hx
  rcases HMM.out with ⟨rfl, rfl⟩ | ⟨mb, rfl, hM⟩
  · go_enter Try.func15, Try.ntmps15
    go_wp2_with (at_lookup; refine wp_look_nil rfl (.tmp 12) (.tmp 13) 42 rfl 3 61 Try.underlying42 Try.underlying3 (by kernel_rfl) rfl rfl ?_)
    refine bodyPost_ret (results_none rfl _ _ _) rfl ?_
    exact ⟨rfl, HK1.out⟩
  · have HM := Lib.hid hM
    clear hM
    go_enter Try.func15, Try.ntmps15
    go_wp2_with (at_lookup; refine wp_look rfl (.tmp 12) (.tmp 13) 42 rfl 3 61 Try.underlying42 Try.underlying3 (by kernel_rfl) HM.out rfl rfl ?_)
    refine bodyPost_ret (results_none rfl _ _ _) rfl ?_
    exact ⟨rfl, HK1.out⟩
set_option maxHeartbeats 4000000 in
theorem window_any {w : World} {b n u : Nat} {mo : Option Nat} {M : List Int} (h : LV w b n u mo M) (hn : n ≤ 1000000) (hu : u ≤ 1000000) :
    Calls Try.prog 16 #[.pointer (some ⟨b, 0, none⟩)] w fun e w' => e = .returned (.tuple #[.int .i64 (n : Nat), .int .i64 ((n : Int) - (u : Int))]) ∧ LV w' b 0 0 none [] ∧ Kept (fun k => k = b) w w' := by
  have HB := Lib.hid h.blk
  have c0 := HB.out.cell (o := 0) rfl
  have c1 := HB.out.cell (o := 1) rfl
  have c2 := HB.out.cell (o := 2) rfl
  have hw : IntKind.i64.wrap ((n : Int) - (u : Int)) = (n : Int) - (u : Int) := by rw [IntKind.wrap_i64]; omega
  clear h
  go_enter Try.func16, Try.ntmps16
  go_wp2_with fail
  go_quiet (fail)
  have HB1 := Lib.hid (HB.out.drewN nq)
  have HK1 := Lib.hid ((Kept.refl (fun k => k = b) w).drewN nq)
  clear c0 c1 c2 HB
  generalize w.drewN nq = w1 at *
  have c0 := HB1.out.cell (o := 0) rfl
  have c1 := HB1.out.cell (o := 1) rfl
  have c2 := HB1.out.cell (o := 2) rfl
  have f0 := HB1.out.frozen 0
  have f1 := HB1.out.frozen 1
  have f2 := HB1.out.frozen 2
  have hbl := HB1.out.lt
  go_wp2_with fail
  go_ret2
  exact ⟨rfl, ⟨((HB1.out.set 0 (.int .i64 0)).set 1 (.int .i64 0)).set 2 (.map none), Or.inl ⟨rfl, rfl⟩⟩, ((HK1.out.set (b := b) (fun _ => rfl) 0 _).set (b := b) (fun _ => rfl) 1 _).set (b := b) (fun _ => rfl) 2 _⟩
end Go.Proofs.Ytaflhkhfkifefaa.Cr
