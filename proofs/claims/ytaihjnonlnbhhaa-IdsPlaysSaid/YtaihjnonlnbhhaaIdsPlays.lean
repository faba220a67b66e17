/- IdsPlays (mizzenlaw9): for every most, every list of steps and every list of numbers looked at the law returns true (what has ended is told, the mark, and how many records there are, as the document says) and its arguments read as before. Conditions: none. -/
import Derived.Test.YtaihjnonlnbhhaaRows
import Derived.Test.YtaihjnonlnbhhaaEnd
import Derived.Test.YtaihjnonlnbhhaaInts
import Derived.WalkKit
import Derived.ProofKit
import Derived.OpenShut
import Derived.Test.YtaihjnonlnbhhaaIdRef2
import Derived.Test.YtaihjnonlnbhhaaU64
import Derived.Test.YtaihjnonlnbhhaaOpm
set_option linter.unusedVariables false
namespace Go.Proofs.Ytaihjnonlnbhhaa.idsPlays
open Go.ChangeShapes Go.WideShapes Go.ChangeAt Go.RowKit Go.Proofs.Ytaihjnonlnbhhaa.Hp Go.Proofs.Ytaihjnonlnbhhaa.End
open Opn IdM Idw
theorem own : ownKnob Try.prog.godebug = none := by kernel_rfl
attribute [local go_sem ↓] Go.wp_at_zero Go.wp_at_succ
/-- Both windows beside each other. -/
structure D0 (W : World) (b c most : Nat) (M : Int) (l : List Int) (M2 : Int) (l2 : List Int) (F : Nat → Prop) (v : Value) (w : World) : Prop where
  st : St W b most M l F w
  rf : RfV w c most M2 l2 v
  fc : ¬ F c
  fv : ∀ g, v.ownBlock = some g → ¬ F g ∧ W.heap.size ≤ g
  cb : W.heap.size ≤ c
  w2 : Win most M2 l2
  hm : most ≤ 100000
/-- And the step, in a block of its own. -/
def DX (W : World) (b c x most : Nat) (kd n : Int) (M : Int) (l : List Int) (M2 : Int) (l2 : List Int) (w : World) : Prop :=
  ∃ F v, D0 W b c most M l M2 l2 F v w ∧ Blk w x [.int .i64 kd, .int .u64 n] 34 ∧ ¬ F x ∧ x ≠ c ∧ v.ownBlock ≠ some x
section
variable {W : World} {b c x most : Nat} {kd n M : Int} {l : List Int} {M2 : Int} {l2 : List Int} {F : Nat → Prop} {v : Value} {w w' : World}
theorem D0.keep (h : D0 W b c most M l M2 l2 F v w) (k : Kept (fun _ => False) w w') : D0 W b c most M l M2 l2 F v w' := ⟨h.st.old k, h.rf.old k, h.fc, h.fv, h.cb, h.w2, h.hm⟩
theorem DX.keep (h : DX W b c x most kd n M l M2 l2 w) (k : Kept (fun _ => False) w w') : DX W b c x most kd n M l M2 l2 w' := by
  obtain ⟨F, v, h1, h2, h3, h4, h5⟩ := h
  exact ⟨F, v, h1.keep k, k.blk h2 (fun f => f), h3, h4, h5⟩
theorem DX.drew (h : DX W b c x most kd n M l M2 l2 w) : DX W b c x most kd n M l M2 l2 w.drew := h.keep (Kept.refl _ w).drew
theorem DX.cn (h : DX W b c x most kd n M l M2 l2 w) : w.cell? ⟨x, 1, none⟩ = some (.int .u64 n) := by
  obtain ⟨F, v, h1, h2, h3, h4, h5⟩ := h
  exact h2.cell (o := 1) rfl
theorem D0.prog {M' : Int} {l' : List Int} {F' : Nat → Prop} (h : D0 W b c most M l M2 l2 F v w) (hs : St W b most M' l' F' w') (k : Idw.Next F w F' w') : D0 W b c most M' l' M2 l2 F' v w' :=
  ⟨hs, h.rf.kept k.1 h.fc (fun g hg => (h.fv g hg).1), fun e => (k.2 c e).elim h.fc (fun hh => by have := h.rf.blk.lt; omega), fun g hg => ⟨fun e => (k.2 g e).elim (h.fv g hg).1 (fun hh => by have := h.rf.row.lt g hg; omega), (h.fv g hg).2⟩, h.cb, h.w2, h.hm⟩
theorem DX.prog {M' : Int} {l' : List Int} {F' : Nat → Prop} (h1 : D0 W b c most M l M2 l2 F v w) (h2 : Blk w x [.int .i64 kd, .int .u64 n] 34) (h3 : ¬ F x) (h4 : x ≠ c) (h5 : v.ownBlock ≠ some x) (hs : St W b most M' l' F' w') (k : Idw.Next F w F' w') : DX W b c x most kd n M' l' M2 l2 w' :=
  ⟨F', v, h1.prog hs k, k.1.blk h2 h3, fun e => (k.2 x e).elim h3 (fun hh => by have := h2.lt; omega), h4, h5⟩
theorem D0.ref {M' : Int} {l' : List Int} {v' : Value} (h : D0 W b c most M l M2 l2 F v w) (hr : RfV w' c most M' l' v') (k : Nx c v w v' w') (hW : Win most M' l') : D0 W b c most M l M' l' F v' w' := by
  have hG : ∀ i, (i = c ∨ v.ownBlock = some i) → F i → False := fun i e f => e.elim (fun e => h.fc (e ▸ f)) (fun e => (h.fv i e).1 f)
  refine ⟨h.st.far k.1 hG (fun i e => e.elim (fun e => by rw [e]; exact h.cb) (fun e => (h.fv i e).2)), hr, h.fc, fun g hg => ?_, h.cb, hW, h.hm⟩
  rcases k.2 g hg with e | e
  · exact h.fv g e
  · exact ⟨fun f => by have := (h.st.own g f).2; omega, by have := h.st.1.size; omega⟩
theorem DX.ref {M' : Int} {l' : List Int} {v' : Value} (h1 : D0 W b c most M l M2 l2 F v w) (h2 : Blk w x [.int .i64 kd, .int .u64 n] 34) (h3 : ¬ F x) (h4 : x ≠ c) (h5 : v.ownBlock ≠ some x) (hr : RfV w' c most M' l' v') (k : Nx c v w v' w') (hW : Win most M' l') : DX W b c x most kd n M l M' l' w' :=
  ⟨F, v', h1.ref hr k hW, k.1.blk h2 (fun e => e.elim h4 h5), h3, h4, fun e => (k.2 x e).elim h5 (fun hh => by have := h2.lt; omega)⟩
theorem DX.put (h : DX W b c x most kd n M l M2 l2 w) : Calls Try.prog 12 #[.pointer (some ⟨b, 0, none⟩), .int .u64 n] w fun e w' => e = .returned (.int .i64 (done most M l n).1) ∧ DX W b c x most kd n (done most M l n).2.1 (done most M l n).2.2 M2 l2 w' := by
  obtain ⟨F, v, h1, h2, h3, h4, h5⟩ := h
  exact (done_st h1.st n).mono fun e w' ⟨e1, F', e2, e3⟩ => ⟨e1, DX.prog h1 h2 h3 h4 h5 e2 e3⟩
theorem DX.putR (h : DX W b c x most kd n M l M2 l2 w) (h0 : 0 ≤ n) : Calls Try.prog 13 #[.pointer (some ⟨c, 0, none⟩), .int .u64 n] w fun e w' => e = .returned (.int .i64 (done most M2 l2 n).1) ∧ DX W b c x most kd n M l (done most M2 l2 n).2.1 (done most M2 l2 n).2.2 w' := by
  obtain ⟨F, v, h1, h2, h3, h4, h5⟩ := h
  exact (rdone_any h1.rf h1.w2 h1.hm n h0).mono fun e w' ⟨e1, v', e2, e3⟩ => ⟨e1, DX.ref h1 h2 h3 h4 h5 e2 e3 (h1.w2.done n)⟩
theorem DX.cut (h : DX W b c x most kd n M l M2 l2 w) : Calls Try.prog 14 #[.pointer (some ⟨b, 0, none⟩), .int .u64 n] w fun e w' => e = .returned (.int .i64 ((retire M l n).1 : Nat)) ∧ DX W b c x most kd n (retire M l n).2.1 (retire M l n).2.2 M2 l2 w' := by
  obtain ⟨F, v, h1, h2, h3, h4, h5⟩ := h
  exact (retire_st h1.st n).mono fun e w' ⟨e1, F', e2, e3⟩ => ⟨e1, DX.prog h1 h2 h3 h4 h5 e2 e3⟩
theorem DX.cutR (h : DX W b c x most kd n M l M2 l2 w) (h0 : 0 ≤ n) : Calls Try.prog 15 #[.pointer (some ⟨c, 0, none⟩), .int .u64 n] w fun e w' => e = .returned (.int .i64 ((retire M2 l2 n).1 : Nat)) ∧ DX W b c x most kd n M l (retire M2 l2 n).2.1 (retire M2 l2 n).2.2 w' := by
  obtain ⟨F, v, h1, h2, h3, h4, h5⟩ := h
  exact (rretire_any h1.rf h1.w2 h1.hm n h0).mono fun e w' ⟨e1, v', e2, e3⟩ => ⟨e1, DX.ref h1 h2 h3 h4 h5 e2 e3 (h1.w2.retire n)⟩
end
set_option maxRecDepth 100000 in
set_option maxHeartbeats 4000000 in
theorem early (m : Int) (a1 : List (List Value)) (s1 : Option Addr) (cap1 : Nat) (a2 : List Int) (s2 : Option Addr) (cap2 : Nat) (w : World) (h : ¬ (a1.length ≤ 100 ∧ a2.length ≤ 30)) :
    Calls Try.prog 3 #[.int .i64 m, .slice s1 a1.length cap1, .slice s2 a2.length cap2] w fun e w' => e = .returned (.bool true) ∧ Old w w' := by
  have HC := Lib.hid fun w => awake_any w
  have hc : (100 : Int) < (a1.length : Int) ∨ (decide ((100 : Int) < (a1.length : Int)) = false ∧ (30 : Int) < (a2.length : Int)) := by
    rw [decide_eq_false_iff_not]; omega
  clear h
  rcases hc with h1 | ⟨h1, h2⟩
  all_goals
    go_enter Try.func3, Try.ntmps3
    go_wp2_with fail
    with_reducible refine Calls.mono (HC.out _) ?_
    rintro e w' ⟨rfl, ho⟩
    go_wp2_with fail
    go_ret
    exact ⟨rfl, ho⟩
set_option maxRecDepth 100000 in
set_option maxHeartbeats 4000000 in
theorem wrong (m : Int) (a1 : List (List Value)) (s1 : Option Addr) (cap1 : Nat) (a2 : List Int) (s2 : Option Addr) (cap2 : Nat) (w : World) (h : a1.length ≤ 100) (h' : a2.length ≤ 30) (hm : ¬ (1 ≤ m ∧ m ≤ 100000)) :
    Calls Try.prog 3 #[.int .i64 m, .slice s1 a1.length cap1, .slice s2 a2.length cap2] w fun e w' => e = .returned (.bool true) ∧ Old w w' := by
  have HC := Lib.hid fun w => awake_any w
  have NO := Lib.hid fun w => new_no hm w
  have h1 : decide ((100 : Int) < (a1.length : Int)) = false := by rw [decide_eq_false_iff_not]; omega
  have h2 : decide ((30 : Int) < (a2.length : Int)) = false := by rw [decide_eq_false_iff_not]; omega
  have hc : decide (1 ≤ m) = false ∨ (1 ≤ m ∧ decide (m ≤ 100000) = false) := by rw [decide_eq_false_iff_not, decide_eq_false_iff_not]; omega
  clear hm h h'
  rcases hc with h3 | ⟨h3, h4⟩
  all_goals
    go_enter Try.func3, Try.ntmps3
    go_wp2_with fail
    with_reducible refine Calls.mono (NO.out _) ?_
    rintro e w1 ⟨rfl, rfl⟩
    go_wp2_with fail
    with_reducible refine Calls.mono (HC.out _) ?_
    rintro e w' ⟨rfl, ho⟩
    go_wp2_with fail
    go_ret
    exact ⟨rfl, ho⟩
set_option maxRecDepth 100000 in
set_option maxHeartbeats 16000000 in
theorem late (most : Nat) (a1 : List (List Value)) (s1 : Option Addr) (cap1 : Nat) (a2 : List Int) (s2 : Option Addr) (cap2 : Nat) (w : World) (w1 : Mixed w s1 cap1 [some .i64, some .u64] a1) (w2 : Uints w s2 cap2 a2) (g1 : 1 ≤ most) (g2 : most ≤ 100000) (g3 : a1.length ≤ 100) (g4 : a2.length ≤ 30) :
    Calls Try.prog 3 #[.int .i64 (most : Nat), .slice s1 a1.length cap1, .slice s2 a2.length cap2] w fun e w' => e = .returned (.bool true) ∧ Old w w' := by
  have HC := Lib.hid fun w => awake_any w
  have N := Lib.hid fun w => new_st g1 g2 w
  have W1 := Lib.hid w1
  have W2 := Lib.hid w2
  have h1 : decide ((100 : Int) < (a1.length : Int)) = false := by rw [decide_eq_false_iff_not]; omega
  have h2 : decide ((30 : Int) < (a2.length : Int)) = false := by rw [decide_eq_false_iff_not]; omega
  have h3 : (1 : Int) ≤ (most : Int) := by omega
  have h4 : (most : Int) ≤ 100000 := by omega
  have h3' : 1 ≤ most := g1
  have h4' : most ≤ 100000 := g2
  clear w1 w2
  obtain ⟨z1, hz1⟩ : ∃ z, a1.length = z := ⟨_, rfl⟩
  obtain ⟨z2, hz2⟩ : ∃ z, a2.length = z := ⟨_, rfl⟩
  have HZ1 := Lib.hid hz1
  have HZ2 := Lib.hid hz2
  rw [hz1] at g3 h1 ⊢
  rw [hz2] at g4 h2 ⊢
  clear hz1 hz2
  go_enter Try.func3, Try.ntmps3
  go_wp2_with fail
  with_reducible refine Calls.mono (N.out _) ?_
  rintro e w3 ⟨b, F, rfl, hS, _⟩
  have HS := Lib.hid hS
  clear hS N
  go_upto_region 10 with (fail)
  have hka := (Kept.refl (fun _ => False) w3).alloc (.cells #[.int .i64 (most : Nat), .int .u64 1, .slice none 0 0] 32)
  have hBa := Blk.new w3 [.int .i64 (most : Nat), .int .u64 1, .slice none 0 0] 32
  have HD : Hid (D0 w b w3.heap.size most 1 [] 1 [] F (.slice none 0 0) (w3.alloc (.cells #[.int .i64 (most : Nat), .int .u64 1, .slice none 0 0] 32))) :=
    Lib.hid ⟨HS.out.old hka, ⟨hBa, Ro.Row.none uT _, fun e => (by cases e)⟩, fun e => (by have := (HS.out.own _ e).2; omega), fun g hg => (by cases hg), HS.out.1.size, Win.new most, g2⟩
  clear hka hBa HS h3 h4 h1 h2
  generalize w3.alloc (.cells #[.int .i64 (most : Nat), .int .u64 1, .slice none 0 0] 32) = w4 at *
  generalize w3.heap.size = c at *
  go_wp2_with fail
  go_loopg [11] z1 (fun kx s11 wr => ∃ (i : Nat) (M : Int) (l : List Int) (F : Nat → Prop) (v : Value), Hid (z1 - i ≤ kx) ∧ i ≤ z1 ∧ s11 = .int .i64 (i : Nat) ∧ Hid (D0 w b c most M l M l F v wr))
  case atStart => exact ⟨0, 1, [], F, _, Lib.hid (by omega), by omega, rfl, HD⟩
  case round =>
    clear HD
    obtain ⟨i, M, l, F, v, hkx, hi, rfl, hD⟩ := hrel
    rcases Nat.lt_or_ge i z1 with hlt | hge
    · obtain ⟨r, g, off, hr, hrl, hfit, rfl, hg, hcell⟩ := W1.out.row (i := i) (by rw [HZ1.out]; exact hlt)
      obtain ⟨kd, n, rfl, hn0⟩ : ∃ kd n : Int, r = [.int .i64 kd, .int .u64 n] ∧ 0 ≤ n := by
        rcases r with _ | ⟨r0, _ | ⟨r1, _ | ⟨_, _⟩⟩⟩
        · simp at hrl
        · simp at hrl
        · obtain ⟨kd, rfl, _⟩ := hfit 0 (some .i64) r0 rfl rfl
          obtain ⟨n, rfl, hw⟩ := hfit 1 (some .u64) r1 rfl rfl
          exact ⟨kd, n, rfl, (bounds_u64 hw).1⟩
        · simp at hrl
      have q0 : wr.cell? ⟨g, off + i * 2, none⟩ = some (.int .i64 kd) := hcell wr hD.out.st.1 0 _ rfl
      have q1 : wr.cell? ⟨g, off + i * 2 + 1, none⟩ = some (.int .u64 n) := hcell wr hD.out.st.1 1 _ rfl
      clear hr hrl hfit hcell
      go_upto_region 14 with (fail)
      have hBx := Blk.new wr [.int .i64 kd, .int .u64 n] 34
      have hka := (Kept.refl (fun _ => False) wr).alloc (.cells #[.int .i64 kd, .int .u64 n] 34)
      have hX : DX w b c wr.heap.size most kd n M l M l (wr.alloc (.cells #[.int .i64 kd, .int .u64 n] 34)) :=
        ⟨F, v, hD.out.keep hka, hBx, fun e => (by have := (hD.out.st.own _ e).2; omega), fun e => (by have := hD.out.rf.blk.lt; omega), fun e => (by have := hD.out.rf.row.lt _ e; omega)⟩
      have k0 := hBx.cell (o := 0) rfl
      have HX0 := Lib.hid hX
      clear q0 q1 hBx hka hX hD
      generalize wr.alloc (.cells #[.int .i64 kd, .int .u64 n] 34) = w4' at *
      generalize wr.heap.size = x at *
      by_cases k1 : kd = 1
      · subst k1
        have D1 := Lib.hid fun (w' : World) (M2 : Int) (l2 : List Int) (h : DX w b c x most 1 n M l M2 l2 w') => h.put
        have D2 := Lib.hid fun (w' : World) (M2 : Int) (l2 : List Int) (h : DX w b c x most 1 n M2 l2 M l w') => h.putR hn0
        obtain ⟨D, hD⟩ : ∃ D, done most M l n = D := ⟨_, rfl⟩
        rw [hD] at D1 D2
        obtain ⟨r, M1, l1⟩ := D
        dsimp only at D1 D2
        clear hD
        go_upto_region 16 with (fail)
        have ht := HX0.out
        have cn := ht.cn
        go_region_held3 (fun w' => w'.cell? ⟨x, 1, none⟩ = some (.int .u64 n)) (first | assumption | exact DX.cn (by assumption) | exact DX.cn (DX.drew (by assumption)))
          (first | (go_at_call 12; with_reducible refine Calls.mono (D1.out _ _ _ (by first | assumption | exact DX.drew (by assumption))) ?_; rintro e w' ⟨rfl, ht2⟩) | (go_at_call 13; with_reducible refine Calls.mono (D2.out _ _ _ (by first | assumption | exact DX.drew (by assumption))) ?_; rintro e w' ⟨rfl, ht2⟩))
        have HX := Lib.hid ht2
        clear ht ht2 cn D1 D2 HX0
        generalize w' = w5 at *
        go_upto_region 21 with (fail)
        obtain ⟨F1, v1, e1, e2, e3, e4, e5⟩ := HX.out
        obtain ⟨a, cc, rfl, hlc, hcm⟩ := e1.rf.row.slice
        unfold maxLen at hcm
        have cn := e2.cell (o := 1) rfl
        have c1 := e1.rf.blk.cell (o := 1) rfl
        have c2 := e1.rf.blk.cell (o := 2) rfl
        have IS := Lib.hid fun (m : Nat) => is_same (e1.keep ((Kept.refl (fun _ => False) w5).drewN m)).st n
        have IR := Lib.hid fun (m : Nat) => ris_any (e1.keep ((Kept.refl (fun _ => False) w5).drewN m)).rf (by have := e1.w2.few; omega) n hn0
        have MK := Lib.hid fun (m : Nat) => mark_st (e1.keep ((Kept.refl (fun _ => False) w5).drewN m)).st
        have LN := Lib.hid fun (m : Nat) => len_st (e1.keep ((Kept.refl (fun _ => False) w5).drewN m)).st
        obtain ⟨rr, hrr⟩ : ∃ rr, isE M1 l1 n = rr := ⟨_, rfl⟩
        rw [hrr] at IS IR
        have HE := Lib.hid e1
        clear hrr e1 e2 e3 e4 e5 HX
        go_quiet (first | (go_at_call 16; exact Calls.quiet_of_same ((IS.out _).mono fun _ _ ⟨e1, e2⟩ => ⟨e1, e2.symm⟩)) | (go_at_call 17; exact Calls.quiet_of_same ((IR.out _).mono fun _ _ ⟨e1, e2⟩ => ⟨e1, e2.symm⟩)) | (go_at_call 18; exact Calls.quiet_of_same ((MK.out _).mono fun _ _ ⟨e1, e2⟩ => ⟨e1, e2.symm⟩)) | (go_at_call 19; exact Calls.quiet_of_same ((LN.out _).mono fun _ _ ⟨e1, e2⟩ => ⟨e1, e2.symm⟩)))
        have HE2 := Lib.hid (HE.out.keep ((Kept.refl (fun _ => False) w5).drewN nq))
        clear cn c1 c2 IS IR MK LN HE
        go_wp2_with fail
        go_roundg (z1 - (i + 1))
        case measure => have := hkx.out; omega
        case rel => exact ⟨i + 1, M1, l1, F1, _, Lib.hid (Nat.le_refl _), by omega, by go_num, HE2⟩
      · by_cases k2 : kd = 2
        · subst k2
          have D1 := Lib.hid fun (w' : World) (M2 : Int) (l2 : List Int) (h : DX w b c x most 2 n M l M2 l2 w') => h.cut
          have D2 := Lib.hid fun (w' : World) (M2 : Int) (l2 : List Int) (h : DX w b c x most 2 n M2 l2 M l w') => h.cutR hn0
          obtain ⟨D, hD⟩ : ∃ D, retire M l n = D := ⟨_, rfl⟩
          rw [hD] at D1 D2
          obtain ⟨r, M1, l1⟩ := D
          dsimp only at D1 D2
          clear hD
          go_upto_region 19 with (fail)
          have ht := HX0.out
          have cn := ht.cn
          go_region_held3 (fun w' => w'.cell? ⟨x, 1, none⟩ = some (.int .u64 n)) (first | assumption | exact DX.cn (by assumption) | exact DX.cn (DX.drew (by assumption)))
            (first | (go_at_call 14; with_reducible refine Calls.mono (D1.out _ _ _ (by first | assumption | exact DX.drew (by assumption))) ?_; rintro e w' ⟨rfl, ht2⟩) | (go_at_call 15; with_reducible refine Calls.mono (D2.out _ _ _ (by first | assumption | exact DX.drew (by assumption))) ?_; rintro e w' ⟨rfl, ht2⟩))
          have HX := Lib.hid ht2
          clear ht ht2 cn D1 D2 HX0
          generalize w' = w5 at *
          go_upto_region 21 with (fail)
          obtain ⟨F1, v1, e1, e2, e3, e4, e5⟩ := HX.out
          obtain ⟨a, cc, rfl, hlc, hcm⟩ := e1.rf.row.slice
          unfold maxLen at hcm
          have cn := e2.cell (o := 1) rfl
          have c1 := e1.rf.blk.cell (o := 1) rfl
          have c2 := e1.rf.blk.cell (o := 2) rfl
          have IS := Lib.hid fun (m : Nat) => is_same (e1.keep ((Kept.refl (fun _ => False) w5).drewN m)).st n
          have IR := Lib.hid fun (m : Nat) => ris_any (e1.keep ((Kept.refl (fun _ => False) w5).drewN m)).rf (by have := e1.w2.few; omega) n hn0
          have MK := Lib.hid fun (m : Nat) => mark_st (e1.keep ((Kept.refl (fun _ => False) w5).drewN m)).st
          have LN := Lib.hid fun (m : Nat) => len_st (e1.keep ((Kept.refl (fun _ => False) w5).drewN m)).st
          obtain ⟨rr, hrr⟩ : ∃ rr, isE M1 l1 n = rr := ⟨_, rfl⟩
          rw [hrr] at IS IR
          have HE := Lib.hid e1
          clear hrr e1 e2 e3 e4 e5 HX
          go_quiet (first | (go_at_call 16; exact Calls.quiet_of_same ((IS.out _).mono fun _ _ ⟨e1, e2⟩ => ⟨e1, e2.symm⟩)) | (go_at_call 17; exact Calls.quiet_of_same ((IR.out _).mono fun _ _ ⟨e1, e2⟩ => ⟨e1, e2.symm⟩)) | (go_at_call 18; exact Calls.quiet_of_same ((MK.out _).mono fun _ _ ⟨e1, e2⟩ => ⟨e1, e2.symm⟩)) | (go_at_call 19; exact Calls.quiet_of_same ((LN.out _).mono fun _ _ ⟨e1, e2⟩ => ⟨e1, e2.symm⟩)))
          have HE2 := Lib.hid (HE.out.keep ((Kept.refl (fun _ => False) w5).drewN nq))
          clear cn c1 c2 IS IR MK LN HE
          go_wp2_with fail
          go_roundg (z1 - (i + 1))
          case measure => have := hkx.out; omega
          case rel => exact ⟨i + 1, M1, l1, F1, _, Lib.hid (Nat.le_refl _), by omega, by go_num, HE2⟩
        · have k1' : (kd == 1) = false := by rw [beq_eq_false_iff_ne]; exact k1
          have k2' : (kd == 2) = false := by rw [beq_eq_false_iff_ne]; exact k2
          obtain ⟨M1, hM1⟩ : ∃ M1, M = M1 := ⟨_, rfl⟩
          obtain ⟨l1, hl1⟩ : ∃ l1, l = l1 := ⟨_, rfl⟩
          subst hM1 hl1
          go_upto_region 21 with (fail)
          have HX := HX0
          generalize w4' = w5 at *
          obtain ⟨F1, v1, e1, e2, e3, e4, e5⟩ := HX.out
          obtain ⟨a, cc, rfl, hlc, hcm⟩ := e1.rf.row.slice
          unfold maxLen at hcm
          have cn := e2.cell (o := 1) rfl
          have c1 := e1.rf.blk.cell (o := 1) rfl
          have c2 := e1.rf.blk.cell (o := 2) rfl
          have IS := Lib.hid fun (m : Nat) => is_same (e1.keep ((Kept.refl (fun _ => False) w5).drewN m)).st n
          have IR := Lib.hid fun (m : Nat) => ris_any (e1.keep ((Kept.refl (fun _ => False) w5).drewN m)).rf (by have := e1.w2.few; omega) n hn0
          have MK := Lib.hid fun (m : Nat) => mark_st (e1.keep ((Kept.refl (fun _ => False) w5).drewN m)).st
          have LN := Lib.hid fun (m : Nat) => len_st (e1.keep ((Kept.refl (fun _ => False) w5).drewN m)).st
          obtain ⟨rr, hrr⟩ : ∃ rr, isE M l n = rr := ⟨_, rfl⟩
          rw [hrr] at IS IR
          have HE := Lib.hid e1
          clear hrr e1 e2 e3 e4 e5 HX
          go_quiet (first | (go_at_call 16; exact Calls.quiet_of_same ((IS.out _).mono fun _ _ ⟨e1, e2⟩ => ⟨e1, e2.symm⟩)) | (go_at_call 17; exact Calls.quiet_of_same ((IR.out _).mono fun _ _ ⟨e1, e2⟩ => ⟨e1, e2.symm⟩)) | (go_at_call 18; exact Calls.quiet_of_same ((MK.out _).mono fun _ _ ⟨e1, e2⟩ => ⟨e1, e2.symm⟩)) | (go_at_call 19; exact Calls.quiet_of_same ((LN.out _).mono fun _ _ ⟨e1, e2⟩ => ⟨e1, e2.symm⟩)))
          have HE2 := Lib.hid (HE.out.keep ((Kept.refl (fun _ => False) w5).drewN nq))
          clear cn c1 c2 IS IR MK LN HE
          go_wp2_with fail
          go_roundg (z1 - (i + 1))
          case measure => have := hkx.out; omega
          case rel => exact ⟨i + 1, M, l, F1, _, Lib.hid (Nat.le_refl _), by omega, by go_num, HE2⟩
    · have hge' : ¬ ((i : Int) < (z1 : Int)) := by omega
      go_wp2_with fail
      clear hge hge' hkx hi
      obtain ⟨a, cc, hv, hlc, hcm⟩ := hD.out.rf.row.slice
      obtain ⟨wo, hwo⟩ : ∃ wo : World, wo = wr := ⟨_, rfl⟩
      rw [← hwo] at hD ⊢
      clear hwo
      go_loopg [13] z2 (fun kx s13 wr => ∃ (j : Nat), Hid (z2 - j ≤ kx) ∧ j ≤ z2 ∧ s13 = .int .i64 (j : Nat) ∧ Hid (D0 w b c most M l M l F v wr))
      case atStart => exact ⟨0, Lib.hid (by omega), by omega, rfl, hD⟩
      case round =>
        clear hD
        obtain ⟨j, hkx, hj, rfl, hD⟩ := hrel
        rcases Nat.lt_or_ge j z2 with hlt | hge
        · obtain ⟨y, hy⟩ : ∃ y, a2[j]? = some y := ⟨_, List.getElem?_eq_getElem (by rw [HZ2.out]; exact hlt)⟩
          obtain ⟨g, off, rfl, hg, hc2⟩ := W2.out.at hD.out.st.1 (j := j) (by rw [HZ2.out]; exact hlt)
          rw [(List.getElem?_eq_some_iff.1 hy).2] at hc2
          have hy0 := (bounds_u64 (W2.out.2.1 y (List.mem_of_getElem? hy))).1
          have IS := Lib.hid fun (m : Nat) => is_same (hD.out.keep ((Kept.refl (fun _ => False) wr).drewN m)).st y
          have IR := Lib.hid fun (m : Nat) => ris_any (hD.out.keep ((Kept.refl (fun _ => False) wr).drewN m)).rf (by have := hD.out.w2.few; omega) y hy0
          obtain ⟨rr, hrr⟩ : ∃ rr, isE M l y = rr := ⟨_, rfl⟩
          rw [hrr] at IS IR
          clear hy hrr
          go_upto_region 26 with (fail)
          go_quiet (first | (go_at_call 16; exact Calls.quiet_of_same ((IS.out _).mono fun _ _ ⟨e1, e2⟩ => ⟨e1, e2.symm⟩)) | (go_at_call 17; exact Calls.quiet_of_same ((IR.out _).mono fun _ _ ⟨e1, e2⟩ => ⟨e1, e2.symm⟩)))
          have HE2 := Lib.hid (hD.out.keep ((Kept.refl (fun _ => False) wr).drewN nq))
          clear hc2 IS IR hD
          go_wp2_with fail
          go_roundg (z2 - (j + 1))
          case measure => have := hkx.out; omega
          case rel => exact ⟨j + 1, Lib.hid (Nat.le_refl _), by omega, by go_num, HE2⟩
        · have hge' : ¬ ((j : Int) < (z2 : Int)) := by omega
          go_wp2_with fail
          with_reducible refine Calls.mono (HC.out _) ?_
          rintro e w6 ⟨rfl, ho⟩
          go_wp2_with fail
          go_ret
          exact ⟨rfl, hD.out.st.1.trans ho⟩
theorem walk (m : Int) (a1 : List (List Value)) (s1 : Option Addr) (cap1 : Nat) (a2 : List Int) (s2 : Option Addr) (cap2 : Nat) (w : World) (w0 : (Lit.int .i64 m).wf = true) (w1 : Mixed w s1 cap1 [some .i64, some .u64] a1) (w2 : Uints w s2 cap2 a2) :
    Calls Try.prog 3 #[.int .i64 m, .slice s1 a1.length cap1, .slice s2 a2.length cap2] w fun e w' => e = .returned (.bool true) ∧ Old w w' := by
  by_cases h : a1.length ≤ 100 ∧ a2.length ≤ 30
  · by_cases hm : 1 ≤ m ∧ m ≤ 100000
    · obtain ⟨k, rfl⟩ : ∃ k : Nat, m = k := ⟨m.toNat, by omega⟩
      exact late k a1 s1 cap1 a2 s2 cap2 w w1 w2 (by omega) (by omega) h.1 h.2
    · exact wrong m a1 s1 cap1 a2 s2 cap2 w h.1 h.2 hm
  · exact early m a1 s1 cap1 a2 s2 cap2 w h
set_option maxRecDepth 100000 in
set_option maxHeartbeats 1000000 in
theorem lifted (os : Os) (started : os.Started) (H : Type) (enc : TypeId × Value → H) :
    ReturnsInHanded {} Try.checked os 3 .any (Rows.idsPlaysSpec.pre6 enc Try.prog Try.f3 Rows.idsPlaysRow.domain false) (Rows.idsPlaysSpec.post enc Try.prog Try.f3 false true false false) := by
  refine returnsInHanded_of_change (C := Try.checked) own started (by kernel_rfl) Try.func3
    (ChangeSpec.witness6 (enc := enc) (C := Try.checked) false ⟨#[], #[.int .i64 0, .slice none 0 0, .slice none 0 0], []⟩ 8 (by kernel_rfl) (by kernel_rfl) (by kernel_rfl) (by kernel_rfl)) ?_
  intro W base args ds gs before hval0 hW hcnd _
  have hval : ∀ (j : Nat) t v, Try.f3.params[j]? = some t → args[j]? = some v → Value.okWide Try.prog W .any base t v := hval0
  have hW' := hW
  obtain ⟨p, q, hA0, hV, rfl, hfz, hnd⟩ := hW
  have hA : DataW.TrodAll enc Try.prog W 0 (fun _ => true) true Try.f3.params.toList args.toList ds p := hA0
  rw [Try.params3] at hA hval
  obtain ⟨v0, vs0, d0, ds0, p0, q0, hargs, rfl, rfl, h0, r0⟩ := trodAll_cons hA
  obtain ⟨v1, vs1, d1, ds1, p1, q1, rfl, rfl, rfl, h1, r1⟩ := trodAll_cons r0
  obtain ⟨v2, vs2, d2, ds2, p2, q2, rfl, rfl, rfl, h2, r2⟩ := trodAll_cons r1
  obtain ⟨rfl, rfl, rfl⟩ := trodAll_nil r2
  obtain rfl : args = #[v0, v1, v2] := by cases args; simp_all
  obtain ⟨rfl, rfl⟩ := trodVars_none hV
  obtain ⟨a0, rfl, rfl, rfl, w0⟩ := open_int Try.underlying3 (hval 0 3 v0 rfl rfl) h0
  obtain ⟨s1, cap1, a1, rfl, w1⟩ := Opn.mixed_of [some .i64, some .u64] Try.underlying22 Try.underlying34 (by kernel_rfl) (by kernel_rfl) rfl (by decide) (by intro j f hf; rcases j with _ | _ | j; (simp at hf; subst hf; exact ⟨some .i64, rfl, Try.underlying3⟩); (simp at hf; subst hf; exact ⟨some .u64, rfl, Try.underlying30⟩); (simp at hf)) (hval 1 22 v1 rfl rfl) h1
  obtain ⟨s2, cap2, a2, rfl, w2⟩ := Opn.uints_of Try.underlying23 Try.underlying30 (by kernel_rfl) (hval 2 23 v2 rfl rfl) h2
  clear hA0 hval0
  refine (walk a0 a1 s1 cap1 a2 s2 cap2 W w0 w1 w2).mono fun e W' ⟨he, hg⟩ => ?_
  subst he
  exact ⟨_, rfl, post_of_old hW' (fun _ _ _ => (trodAll_cons_mk (shut_bool Try.underlying4 _) trodAll_mk0)) (fun sp hsp => (trodAll_cons_mk (shut_int Try.underlying3 w0) (trodAll_cons_mk (Opn.back (by kernel_rfl) (of_decide_eq_true (by kernel_rfl)) h1 hg (fun x hx => hW'.lt x (by simp [hx])) (fun x hx => hsp x (by simp [hx]))) (trodAll_cons_mk (Opn.back (by kernel_rfl) (of_decide_eq_true (by kernel_rfl)) h2 hg (fun x hx => hW'.lt x (by simp [hx])) (fun x hx => hsp x (by simp [hx]))) trodAll_mk0)))) (fun _ _ => rfl)
    hg (ok_one (by kernel_rfl) rfl (okWide_bool_mk Try.underlying4 _))⟩
theorem over : Rows.idsPlaysRow.holds Try.pinned (OpenSpec.ofChange Rows.idsPlaysSpec) :=
  OpenClaim.holds_of_wide 3 Try.f3 rfl rfl rfl rfl rfl rfl rfl ⟨rfl, rfl, rfl, rfl, rfl⟩ rfl rfl rfl rfl rfl (by kernel_rfl) Try.func3 (by kernel_rfl)
    (of_decide_eq_true (by kernel_rfl)) (by unfold Func.isWrapper; first | (rw [if_pos (by decide +kernel)]; kernel_rfl) | (rw [if_neg (by decide +kernel)]; exact ⟨rfl, rfl⟩))
    (fun os started H enc _ => lifted os started H enc)
theorem proved : Rows.IdsPlaysSaid :=
  over
#print axioms proved
end Go.Proofs.Ytaihjnonlnbhhaa.idsPlays
