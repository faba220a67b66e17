/- The reference's numerals of one digit, and names. Conditions: each theorem's own. -/
import Derived.Test.YtoieogembfdmfaaDoorTpRn
import Derived.Test.YtoieogembfdmfaaDoorByt
set_option linter.unusedVariables false
set_option linter.unusedSimpArgs false
namespace Go.Proofs.YtoieogembfdmfaaDoor.Tp
open Go.RowKit Hp TpM
attribute [local go_sem ↓] Go.wp_at_zero Go.wp_at_succ
variable {w : World} {b : Nat} {H S : Int}
set_option maxRecDepth 100000 in
set_option maxHeartbeats 4000000 in
theorem dec_any {i : Int} (h0 : 0 ≤ i) (h1 : i < 8) (w : World) : Calls Tryd.prog 31 #[.int .i64 i] w fun e w' => e = .returned (.string ⟨#[dg i]⟩) ∧ Kept (fun _ => False) w w' := by
  have hc : (((dg i).toNat : Nat) : Int) = 48 + i := by
    rcases eight h0 h1 with rfl | rfl | rfl | rfl | rfl | rfl | rfl | rfl <;> rfl
  obtain ⟨x, hx⟩ : ∃ x, dg i = x := ⟨_, rfl⟩
  rw [hx] at hc ⊢
  clear hx
  have HC := Lib.hid hc
  have g0 : ¬ i < 0 := by omega
  have hu : IntKind.u64.wrap i = i := by rw [IntKind.wrap_u64]; omega
  have BE : Hid ((Value.int .u8 ((x.toNat : Nat) : Int)) = .int .u8 (48 + i)) := Lib.hid (by rw [hc])
  go_enter Tryd.func31, Tryd.ntmps31
  go_wp2_with fail
  go_loopg [3, 5] 2 (fun kx s3 s5 wr => ∃ (r : Nat) (v : Value), r + kx = 2 ∧ s5 = v ∧ Hid (Kept (fun _ => False) w wr) ∧ ((r = 0 ∧ s3 = .int .u64 i ∧ v = .slice none 0 0 ∧ wr = w) ∨ (r = 1 ∧ s3 = .int .u64 0 ∧ ∃ a c, v = .slice a 1 c ∧ Hid (Byt.Row wr w.heap.size v [x]))))
  case atStart => exact ⟨0, _, rfl, rfl, Lib.hid (Kept.refl _ w), Or.inl ⟨rfl, rfl, rfl, rfl⟩⟩
  case round =>
    obtain ⟨r, v, hr, rfl, hK, h⟩ := hrel
    rcases h with ⟨rfl, rfl, rfl, rfl⟩ | ⟨rfl, rfl, a, c, rfl, HR⟩
    · have r1 : i.tmod 10 = i := Int.tmod_eq_of_lt (by omega) (by omega)
      have r2 : IntKind.u64.wrap (48 + i) = 48 + i := by rw [IntKind.wrap_u64]; omega
      have r3 : IntKind.u8.wrap (48 + i) = 48 + i := by rw [IntKind.wrap_u8]; omega
      have r4 : i.tdiv 10 = 0 := Int.tdiv_eq_zero_of_lt (by omega) (by omega)
      have HRW : Hid (Byt.Row (wr.alloc (.cells #[.int .u8 (48 + i)] 5)) wr.heap.size (.slice (some ⟨wr.heap.size, 0, none⟩) 1 1) [x]) := Lib.hid (by
        refine ⟨rfl, Or.inr ⟨wr.heap.size, 1, #[.int .u8 (48 + i)], rfl, Nat.le_refl _, heap_alloc_new wr _, Nat.le_refl _, by unfold maxLen; omega, rfl, ?_⟩⟩
        show [Value.int .u8 (48 + i)] = [Value.int .u8 ((x.toNat : Nat) : Int)]
        rw [BE.out])
      have HSN : Hid (Byt.Src (wr.alloc (.cells #[.int .u8 (48 + i)] 5)) (.slice none 0 0) []) := Lib.hid ⟨none, 0, rfl, Nat.le_refl _, Or.inl rfl, fun _ => rfl⟩
      clear BE HC hc
      rcases (show i = 0 ∨ 0 < i by omega) with hi | hi
      all_goals
        first
          | subst hi
          | skip
        go_wp2_with (at_builtin; refine Byt.wpList_app rfl _ _ rfl wr.heap.size (v := .slice (some ⟨wr.heap.size, 0, none⟩) 1 1) (v2 := .slice none 0 0) rfl HRW.out rfl HSN.out (by simp) (by simp) ?_; intro v' w' hA)
        obtain ⟨a, c, rfl, hc⟩ := hA.row.slice
        have HR : Hid (Byt.Row w' wr.heap.size (.slice a 1 c) [x]) := Lib.hid hA.row
        have HK : Hid (Kept (fun _ => False) wr w') := Lib.hid (((Kept.refl _ wr).alloc _).trans' hA.kept (fun k hk e => by cases e; exact Nat.lt_irrefl _ hk))
        clear hA HRW HSN
        go_roundg 1
        case measure => omega
        case rel => exact ⟨1, _, by omega, rfl, HK, Or.inr ⟨rfl, rfl, a, c, rfl, HR⟩⟩
    · have t1 := Byt.run_str HR.out.src
      clear HR HC hc BE
      go_wp2_with fail
      go_ret
      exact ⟨by first | rfl | (congr 1), hK.out⟩
theorem nameR_of {x g a c : Int} (hB : MV w b H S) (hg : g = 0 ∨ g = 1 ∨ g = 2 ∨ g = 3 ∨ g = 4) (a0 : 0 ≤ a) (a1 : a < 8) (c0 : 0 ≤ c) (c1 : c < 8) (hz : g = 0 → a = 0 ∧ c = 0)
    (CK : Calls Tryd.prog 29 #[ptr b, .int .i64 x] w fun e w' => e = .returned (kv (g, a, c)) ∧ ∃ m, w' = w.drewN m) :
    Calls Tryd.prog 13 #[ptr b, .int .i64 x] w fun e w' => e = .returned (nmv (g, a, c)) ∧ Kept (fun _ => False) w w' := by
  have IA := Lib.hid fun w => dec_any a0 a1 w
  have IC := Lib.hid fun w => dec_any c0 c1 w
  have IZ := Lib.hid fun w => dec_any (i := 0) (by decide) (by decide) w
  have hn : nmv (g, a, c) = .string (if g = 1 then ⟨#[104, dg a]⟩ else if g = 2 then ⟨#[108, dg a, 45, 104, dg c]⟩ else if g = 3 then ⟨#[108, dg a, 45, 115, dg c]⟩ else if g = 4 then ⟨#[115, dg a, 45, 108, dg c]⟩ else ⟨#[]⟩) := by
    unfold nmv nm
    dsimp only
    repeat' split
    all_goals rfl
  rw [hn]
  clear hn
  rcases hg with rfl | rfl | rfl | rfl | rfl
  · obtain ⟨rfl, rfl⟩ := hz rfl
    rw [kv_none] at CK
    have CK := Lib.hid CK
    clear IA IC
    generalize dg 0 = dz at *
    go_enter Tryd.func13, Tryd.ntmps13
    go_wp2_with fail
    with_reducible refine Calls.mono CK.out ?_
    rintro e w2 ⟨rfl, m, rfl⟩
    go_wp2_with fail
    with_reducible refine Calls.mono (IZ.out _) ?_
    rintro e w3 ⟨rfl, k3⟩
    go_wp2_with fail
    with_reducible refine Calls.mono (IZ.out _) ?_
    rintro e w4 ⟨rfl, k4⟩
    have HK := Lib.hid ((((Kept.refl _ w).drewN m).trans k3).trans k4)
    clear k3 k4
    go_wp2_with fail
    go_ret
    exact ⟨rfl, HK.out⟩
  · clear hz
    rw [kv_up] at CK
    have CK := Lib.hid CK
    generalize dg a = da at *
    generalize dg c = dc at *
    generalize dg 0 = dz at *
    go_enter Tryd.func13, Tryd.ntmps13
    go_wp2_with fail
    with_reducible refine Calls.mono CK.out ?_
    rintro e w2 ⟨rfl, m, rfl⟩
    go_wp2_with fail
    with_reducible refine Calls.mono (IA.out _) ?_
    rintro e w3 ⟨rfl, k3⟩
    go_wp2_with fail
    with_reducible refine Calls.mono (IZ.out _) ?_
    rintro e w4 ⟨rfl, k4⟩
    have HK := Lib.hid ((((Kept.refl _ w).drewN m).trans k3).trans k4)
    clear k3 k4
    go_wp2_with fail
    go_ret
    exact ⟨by first | rfl | (congr 1), HK.out⟩
  · clear hz
    rw [kv_down] at CK
    have CK := Lib.hid CK
    generalize dg a = da at *
    generalize dg c = dc at *
    generalize dg 0 = dz at *
    go_enter Tryd.func13, Tryd.ntmps13
    go_wp2_with fail
    with_reducible refine Calls.mono CK.out ?_
    rintro e w2 ⟨rfl, m, rfl⟩
    go_wp2_with fail
    with_reducible refine Calls.mono (IA.out _) ?_
    rintro e w3 ⟨rfl, k3⟩
    go_wp2_with fail
    with_reducible refine Calls.mono (IC.out _) ?_
    rintro e w4 ⟨rfl, k4⟩
    have HK := Lib.hid ((((Kept.refl _ w).drewN m).trans k3).trans k4)
    clear k3 k4
    go_wp2_with fail
    go_ret
    exact ⟨by first | rfl | (congr 1), HK.out⟩
  · clear hz
    rw [kv_lup] at CK
    have CK := Lib.hid CK
    generalize dg a = da at *
    generalize dg c = dc at *
    generalize dg 0 = dz at *
    go_enter Tryd.func13, Tryd.ntmps13
    go_wp2_with fail
    with_reducible refine Calls.mono CK.out ?_
    rintro e w2 ⟨rfl, m, rfl⟩
    go_wp2_with fail
    with_reducible refine Calls.mono (IA.out _) ?_
    rintro e w3 ⟨rfl, k3⟩
    go_wp2_with fail
    with_reducible refine Calls.mono (IC.out _) ?_
    rintro e w4 ⟨rfl, k4⟩
    have HK := Lib.hid ((((Kept.refl _ w).drewN m).trans k3).trans k4)
    clear k3 k4
    go_wp2_with fail
    go_ret
    exact ⟨by first | rfl | (congr 1), HK.out⟩
  · clear hz
    rw [kv_sdn] at CK
    have CK := Lib.hid CK
    generalize dg a = da at *
    generalize dg c = dc at *
    generalize dg 0 = dz at *
    go_enter Tryd.func13, Tryd.ntmps13
    go_wp2_with fail
    with_reducible refine Calls.mono CK.out ?_
    rintro e w2 ⟨rfl, m, rfl⟩
    go_wp2_with fail
    with_reducible refine Calls.mono (IA.out _) ?_
    rintro e w3 ⟨rfl, k3⟩
    go_wp2_with fail
    with_reducible refine Calls.mono (IC.out _) ?_
    rintro e w4 ⟨rfl, k4⟩
    have HK := Lib.hid ((((Kept.refl _ w).drewN m).trans k3).trans k4)
    clear k3 k4
    go_wp2_with fail
    go_ret
    exact ⟨by first | rfl | (congr 1), HK.out⟩
theorem nameR_any (hB : MV w b H S) (n : Net H S) (x : Int) : Calls Tryd.prog 13 #[ptr b, .int .i64 x] w fun e w' => e = .returned (nmv (kd H S x)) ∧ Kept (fun _ => False) w w' := by
  have C := kindR_any hB n x
  have hin := kd_in n x
  have hz : (kd H S x).1 = 0 → (kd H S x).2.1 = 0 ∧ (kd H S x).2.2 = 0 := by
    intro e
    rcases five n x with h | ⟨h, h2⟩ | ⟨h, h2⟩ | ⟨h, h2⟩ | ⟨h, h2⟩
    · rw [kd_none h]; exact ⟨rfl, rfl⟩
    · rw [kd_up n h h2] at e; exact absurd e (by decide : ¬ (1 : Int) = 0)
    · rw [kd_down n h h2] at e; exact absurd e (by decide : ¬ (2 : Int) = 0)
    · rw [kd_lup n h h2] at e; exact absurd e (by decide : ¬ (3 : Int) = 0)
    · rw [kd_sdn n h h2] at e; exact absurd e (by decide : ¬ (4 : Int) = 0)
  generalize kd H S x = t at *
  obtain ⟨g, a, c⟩ := t
  dsimp only at hin hz
  exact nameR_of hB (by omega) (by omega) (by omega) (by omega) (by omega) hz C
end Go.Proofs.YtoieogembfdmfaaDoor.Tp
