/- The document's own credit rate: Update. Conditions: each theorem's own. -/
import Derived.Test.YtaflhkhfkifefaaCrRf
set_option linter.unusedVariables false
namespace Go.Proofs.Ytaflhkhfkifefaa.Cr
open Go.RowKit Hp NumM NumC CrM
attribute [local go_sem ↓] Go.wp_at_zero Go.wp_at_succ
set_option maxHeartbeats 16000000 in
theorem rupd_none {w : World} {b : Nat} {M T : Int} {x : St} (h : DR w b M T x) (s l : Int) (hz : cS s = 0) :
    Calls Try.prog 10 #[.pointer (some ⟨b, 0, none⟩), .int .i64 s, .int .i64 l] w fun e w' => e = .returned (.int .i64 x.R) ∧ w = w' := by
  have c2 := h.cell (o := 2) rfl
  have C1 := fun w => clampRef_any s 0 1073741824 w
  rw [show clampI s 0 1073741824 = 0 from hz] at C1
  have C1 := Lib.hid C1
  have C2 := Lib.hid fun w => clampRef_any l 0 0 w
  clear h hz
  go_enter Try.func10, Try.ntmps10
  go_wp2_with fail
  with_reducible refine Calls.mono (C1.out _) ?_
  rintro e w' ⟨rfl, rfl⟩
  go_wp2_with fail
  with_reducible refine Calls.mono (C2.out _) ?_
  rintro e w' ⟨rfl, rfl⟩
  go_wp2_with fail
  go_ret
  exact ⟨rfl, rfl⟩
set_option maxRecDepth 100000 in
set_option maxHeartbeats 16000000 in
theorem rupd_some {w : World} {b : Nat} {M T : Int} {x : St} (h : DR w b M T x) (o : Ok M T x) (hk : x.k ≤ 1000000) (s l : Int) (hz : cS s ≠ 0) :
    Calls Try.prog 10 #[.pointer (some ⟨b, 0, none⟩), .int .i64 s, .int .i64 l] w fun e w' => e = .returned (.int .i64 (x.upd M T s l).R) ∧ DR w' b M T (x.upd M T s l) ∧ Kept (fun k => k = b) w w' := by
  rw [upd_pre hz]
  have m0 := o.m0
  have m1 := o.m1
  have t0 := o.t0
  have t1 := o.t1
  have a0 := o.a0
  have a1 := o.a1
  have hbd := aUp_bd (k := x.k) a0 a1
  have HL := los_bd (l := l) hz
  have hq : M.tdiv 64 = M / 64 := Int.tdiv_eq_ediv_of_nonneg (by omega)
  have hqw : IntKind.i64.wrap (M / 64) = M / 64 := by rw [IntKind.wrap_i64]; omega
  have C1 := fun w => clampRef_any s 0 1073741824 w
  rw [show clampI s 0 1073741824 = cS s from rfl] at C1
  have C1 := Lib.hid C1
  have C2 := fun w => clampRef_any l 0 (cS s) w
  rw [show clampI l 0 (cS s) = cL s l from rfl] at C2
  have C2 := Lib.hid C2
  have PN := fun w => partRef_yes (cL s l) (cS s) HL.1 HL.2.2.1 HL.2.1 w
  rw [show cL s l * 65536 / cS s = los s l from rfl] at PN
  have PN := Lib.hid PN
  have hs0 : ¬ cS s = 0 := hz
  have hg0 : 0 ≤ los s l := HL.2.2.2.1
  have hg1 : los s l ≤ 65536 := HL.2.2.2.2
  have HB := Lib.hid h
  have ER : ∀ g : Int, g ≤ T → (preR M T g x = rUp M x.R (aUp x.A x.k) ∧ preA T g x = aUp x.A x.k ∧ preK T g x = x.k + 1) := fun g hg => by unfold preR preA preK; rw [if_pos hg, if_pos hg, if_pos hg]; exact ⟨rfl, rfl, rfl⟩
  have EF : ∀ g : Int, ¬ g ≤ T → (preR M T g x = rDn T x.R g ∧ preA T g x = x.A / 2 ∧ preK T g x = 0) := fun g hg => by unfold preR preA preK; rw [if_neg hg, if_neg hg, if_neg hg]; exact ⟨rfl, rfl, rfl⟩
  have ER := Lib.hid (ER (los s l))
  have EF := Lib.hid (EF (los s l))
  clear h o HL hz
  obtain ⟨R, A, k⟩ := x
  dsimp only at *
  generalize los s l = g at *
  generalize cL s l = u at *
  generalize cS s = v at *
  obtain ⟨R1, hR1⟩ : ∃ R1, preR M T g ⟨R, A, k⟩ = R1 := ⟨_, rfl⟩
  obtain ⟨A1, hA1⟩ : ∃ A1, preA T g ⟨R, A, k⟩ = A1 := ⟨_, rfl⟩
  obtain ⟨k1, hk1⟩ : ∃ k1, preK T g ⟨R, A, k⟩ = k1 := ⟨_, rfl⟩
  rw [hR1, hA1, hk1] at ER EF ⊢
  clear hR1 hA1 hk1
  have C3 := fun w => clampRef_any R1 (M / 64) M w
  rw [show clampI R1 (M / 64) M = lim M R1 from rfl] at C3
  have C3 := Lib.hid C3
  have C4 := fun w => clampRef_any A1 1024 32768 w
  rw [show clampI A1 1024 32768 = aLim A1 from rfl] at C4
  have C4 := Lib.hid C4
  generalize lim M R1 = R2 at *
  generalize aLim A1 = A2 at *
  have c1 := HB.out.cell (o := 1) rfl
  go_enter Try.func10, Try.ntmps10
  go_wp2_with fail
  with_reducible refine Calls.mono (C1.out _) ?_
  rintro e w' ⟨rfl, rfl⟩
  go_wp2_with fail
  with_reducible refine Calls.mono (C2.out _) ?_
  rintro e w' ⟨rfl, rfl⟩
  go_wp2_with fail
  with_reducible refine Calls.mono (PN.out _) ?_
  rintro e w' ⟨rfl, rfl⟩
  go_upto_if 31 with (fail)
  clear C1 C2 PN
  go_cut [] (fun wx => RR wx b M T R1 A1 k1 (decide (0 < k1)) ∧ Kept (fun k => k = b) w wx)
  case first =>
    by_cases hg : g ≤ T
    · have e1 := (ER.out hg).1
      have e2 := (ER.out hg).2.1
      have e3 := (ER.out hg).2.2
      clear EF C3 C4
      subst e3
      obtain ⟨a, ha⟩ : ∃ a, aUp A k = a := ⟨_, rfl⟩
      rw [ha] at e1 e2 hbd
      unfold rUp at e1
      have hw : IntKind.i64.wrap (65536 - a) = 65536 - a := by rw [IntKind.wrap_i64]; omega
      have B1 := Lib.hid fun w => byRef_any a M w
      have B2 := Lib.hid fun w => byRef_any (65536 - a) R w
      generalize fixI a M = u5 at *
      generalize fixI (65536 - a) R = v5 at *
      have P2 := Lib.hid fun w => plusRef_any u5 v5 w
      generalize addI u5 v5 = z at *
      have c5 := HB.out.cell (o := 5) rfl
      have c3 := HB.out.cell (o := 3) rfl
      have f3 := HB.out.frozen 3
      have hbl := HB.out.lt
      have HA := Lib.hid ha
      have E1 := Lib.hid e1
      have E2 := Lib.hid e2
      clear ha e1 e2
      go_upto_if 35 with (fail)
      go_cut [] (fun wx => RR wx b M T R a k (decide (0 < k)) ∧ Kept (fun k => k = b) w wx)
      case first =>
        by_cases h0 : 0 < k
        · have e2 : (A + 32768) / 2 = a := by rw [← HA.out]; unfold aUp; rw [if_pos h0]
          have h0' : decide (0 < k) = true := by simpa using h0
          rw [h0']
          go_wp2_with fail
          try rw [e2]
          go_meet
          exact ⟨HB.out.set 3 (.int .i64 a), Kept.one w b 3 _⟩
        · have e2 : A = a := by rw [← HA.out]; unfold aUp; rw [if_neg h0]
          have h0' : decide (0 < k) = false := by simpa using h0
          rw [h0']
          go_wp2_with fail
          go_meet
          subst e2
          exact ⟨HB.out, Kept.refl _ w⟩
      case rest =>
        obtain ⟨hx, hk2⟩ := hcut
        clear c5 c3 f3 hbl HB c1
        have HX := Lib.hid hx
        have HK := Lib.hid hk2
        clear hx hk2
        have c0 := HX.out.cell (o := 0) rfl
        have c2 := HX.out.cell (o := 2) rfl
        have c3 := HX.out.cell (o := 3) rfl
        have f2 := HX.out.frozen 2
        have hbl := HX.out.lt
        go_upto_region 9 with (fail)
        go_cut [] (fun wx => RR wx b M T z a k (decide (0 < k)) ∧ Kept (fun k => k = b) w wx)
        case first =>
          refine wp_region_held_drew (S := fun w' => w'.cell? ⟨b, 0, none⟩ = some (.int .i64 M) ∧ w'.cell? ⟨b, 3, none⟩ = some (.int .i64 a)) (by kernel_rfl) (⟨c0, c3⟩) (fun hHeld => ?_)
          refine wpAnyH_take (i := 0) (oi := { dst := some 45, op := Go.Op.move (Go.Operand.tmp 0), type := 29, pos := "pace.go:349", after := #[], guard := none }) (v := ?_) rfl (by kernel_rfl) (by kernel_rfl) (by kernel_rfl) (fun _ _ _ h => h) (Or.inl ⟨by rfl, ?_⟩) (by assumption) ?_
          rotate_left 1
          focus (intro w hSw; (try dsimp only at hSw); go_simp; try with_reducible rfl)
          try simp only [Act.put, List.setIfInBounds_toArray, List.set_cons_zero, List.set_cons_succ]
          refine wpAnyH_take (i := 1) (oi := { dst := some 46, op := Go.Op.move (Go.Operand.tmp 0), type := 29, pos := "pace.go:349", after := #[], guard := none }) (v := ?_) rfl (by kernel_rfl) (by kernel_rfl) (by kernel_rfl) (fun _ _ _ h => h) (Or.inl ⟨by rfl, ?_⟩) (by assumption) ?_
          rotate_left 1
          focus (intro w hSw; (try dsimp only at hSw); go_simp; try with_reducible rfl)
          try simp only [Act.put, List.setIfInBounds_toArray, List.set_cons_zero, List.set_cons_succ]
          refine wpAnyH_take (i := 2) (oi := { dst := some 47, op := Go.Op.nilCheck (Go.Operand.tmp 46), type := 0, pos := "pace.go:349", after := #[{ on := 1, ground := Go.Ground.data }], guard := none }) (v := ?_) rfl (by kernel_rfl) (by kernel_rfl) (by kernel_rfl) (fun _ _ _ h => h) (Or.inl ⟨by rfl, ?_⟩) (by assumption) ?_
          rotate_left 1
          focus (intro w hSw; (try dsimp only at hSw); go_simp; try with_reducible rfl)
          try simp only [Act.put, List.setIfInBounds_toArray, List.set_cons_zero, List.set_cons_succ]
          refine wpAnyH_take (i := 3) (oi := { dst := some 48, op := Go.Op.fieldAddr 38 (Go.Operand.tmp 47) 3, type := 0, pos := "pace.go:349", after := #[{ on := 2, ground := Go.Ground.data }], guard := none }) (v := ?_) rfl (by kernel_rfl) (by kernel_rfl) (by kernel_rfl) (fun _ _ _ h => h) (Or.inl ⟨by rfl, ?_⟩) (by assumption) ?_
          rotate_left 1
          focus (intro w hSw; (try dsimp only at hSw); go_simp; try with_reducible rfl)
          try simp only [Act.put, List.setIfInBounds_toArray, List.set_cons_zero, List.set_cons_succ]
          refine wpAnyH_take (i := 4) (oi := { dst := some 49, op := Go.Op.load 3 (Go.Operand.tmp 48), type := 3, pos := "pace.go:349", after := #[{ on := 3, ground := Go.Ground.data }], guard := none }) (v := ?_) rfl (by kernel_rfl) (by kernel_rfl) (by kernel_rfl) (fun _ _ _ h => h) (Or.inl ⟨by rfl, ?_⟩) (by assumption) ?_
          rotate_left 1
          focus (intro w hSw; (try dsimp only at hSw); go_simp; try with_reducible rfl)
          try simp only [Act.put, List.setIfInBounds_toArray, List.set_cons_zero, List.set_cons_succ]
          refine wpAnyH_take (i := 5) (oi := { dst := some 50, op := Go.Op.move (Go.Operand.tmp 0), type := 29, pos := "pace.go:349", after := #[], guard := none }) (v := ?_) rfl (by kernel_rfl) (by kernel_rfl) (by kernel_rfl) (fun _ _ _ h => h) (Or.inl ⟨by rfl, ?_⟩) (by assumption) ?_
          rotate_left 1
          focus (intro w hSw; (try dsimp only at hSw); go_simp; try with_reducible rfl)
          try simp only [Act.put, List.setIfInBounds_toArray, List.set_cons_zero, List.set_cons_succ]
          refine wpAnyH_take (i := 6) (oi := { dst := some 51, op := Go.Op.nilCheck (Go.Operand.tmp 50), type := 0, pos := "pace.go:349", after := #[{ on := 5, ground := Go.Ground.data }], guard := none }) (v := ?_) rfl (by kernel_rfl) (by kernel_rfl) (by kernel_rfl) (fun _ _ _ h => h) (Or.inl ⟨by rfl, ?_⟩) (by assumption) ?_
          rotate_left 1
          focus (intro w hSw; (try dsimp only at hSw); go_simp; try with_reducible rfl)
          try simp only [Act.put, List.setIfInBounds_toArray, List.set_cons_zero, List.set_cons_succ]
          refine wpAnyH_take (i := 7) (oi := { dst := some 52, op := Go.Op.fieldAddr 38 (Go.Operand.tmp 51) 0, type := 0, pos := "pace.go:349", after := #[{ on := 6, ground := Go.Ground.data }], guard := none }) (v := ?_) rfl (by kernel_rfl) (by kernel_rfl) (by kernel_rfl) (fun _ _ _ h => h) (Or.inl ⟨by rfl, ?_⟩) (by assumption) ?_
          rotate_left 1
          focus (intro w hSw; (try dsimp only at hSw); go_simp; try with_reducible rfl)
          try simp only [Act.put, List.setIfInBounds_toArray, List.set_cons_zero, List.set_cons_succ]
          refine wpAnyH_take (i := 8) (oi := { dst := some 53, op := Go.Op.load 3 (Go.Operand.tmp 52), type := 3, pos := "pace.go:349", after := #[{ on := 7, ground := Go.Ground.data }], guard := none }) (v := ?_) rfl (by kernel_rfl) (by kernel_rfl) (by kernel_rfl) (fun _ _ _ h => h) (Or.inl ⟨by rfl, ?_⟩) (by assumption) ?_
          rotate_left 1
          focus (intro w hSw; (try dsimp only at hSw); go_simp; try with_reducible rfl)
          try simp only [Act.put, List.setIfInBounds_toArray, List.set_cons_zero, List.set_cons_succ]
          refine wpAnyH_take (i := 10) (oi := { dst := some 55, op := Go.Op.move (Go.Operand.tmp 0), type := 29, pos := "pace.go:349", after := #[], guard := none }) (v := ?_) rfl (by kernel_rfl) (by kernel_rfl) (by kernel_rfl) (fun _ _ _ h => h) (Or.inl ⟨by rfl, ?_⟩) (by assumption) ?_
          rotate_left 1
          focus (intro w hSw; (try dsimp only at hSw); go_simp; try with_reducible rfl)
          try simp only [Act.put, List.setIfInBounds_toArray, List.set_cons_zero, List.set_cons_succ]
          refine wpAnyH_take (i := 11) (oi := { dst := some 56, op := Go.Op.nilCheck (Go.Operand.tmp 55), type := 0, pos := "pace.go:349", after := #[{ on := 10, ground := Go.Ground.data }], guard := none }) (v := ?_) rfl (by kernel_rfl) (by kernel_rfl) (by kernel_rfl) (fun _ _ _ h => h) (Or.inl ⟨by rfl, ?_⟩) (by assumption) ?_
          rotate_left 1
          focus (intro w hSw; (try dsimp only at hSw); go_simp; try with_reducible rfl)
          try simp only [Act.put, List.setIfInBounds_toArray, List.set_cons_zero, List.set_cons_succ]
          refine wpAnyH_take (i := 12) (oi := { dst := some 57, op := Go.Op.fieldAddr 38 (Go.Operand.tmp 56) 3, type := 0, pos := "pace.go:349", after := #[{ on := 11, ground := Go.Ground.data }], guard := none }) (v := ?_) rfl (by kernel_rfl) (by kernel_rfl) (by kernel_rfl) (fun _ _ _ h => h) (Or.inl ⟨by rfl, ?_⟩) (by assumption) ?_
          rotate_left 1
          focus (intro w hSw; (try dsimp only at hSw); go_simp; try with_reducible rfl)
          try simp only [Act.put, List.setIfInBounds_toArray, List.set_cons_zero, List.set_cons_succ]
          refine wpAnyH_take (i := 13) (oi := { dst := some 58, op := Go.Op.load 3 (Go.Operand.tmp 57), type := 3, pos := "pace.go:349", after := #[{ on := 12, ground := Go.Ground.data }], guard := none }) (v := ?_) rfl (by kernel_rfl) (by kernel_rfl) (by kernel_rfl) (fun _ _ _ h => h) (Or.inl ⟨by rfl, ?_⟩) (by assumption) ?_
          rotate_left 1
          focus (intro w hSw; (try dsimp only at hSw); go_simp; try with_reducible rfl)
          try simp only [Act.put, List.setIfInBounds_toArray, List.set_cons_zero, List.set_cons_succ]
          refine wpAnyH_take (i := 14) (oi := { dst := some 59, op := Go.Op.binOp Go.BinOp.sub 3 (Go.Operand.const (Go.Value.int Go.IntKind.i64 65536)) (Go.Operand.tmp 58) 3, type := 3, pos := "pace.go:349", after := #[{ on := 13, ground := Go.Ground.data }], guard := none }) (v := ?_) rfl (by kernel_rfl) (by kernel_rfl) (by kernel_rfl) (fun _ _ _ h => h) (Or.inl ⟨by rfl, ?_⟩) (by assumption) ?_
          rotate_left 1
          focus (intro w hSw; (try dsimp only at hSw); go_simp; try with_reducible rfl)
          try simp only [Act.put, List.setIfInBounds_toArray, List.set_cons_zero, List.set_cons_succ]
          refine wpAnyH_take (i := 15) (oi := { dst := some 60, op := Go.Op.move (Go.Operand.tmp 0), type := 29, pos := "pace.go:349", after := #[], guard := none }) (v := ?_) rfl (by kernel_rfl) (by kernel_rfl) (by kernel_rfl) (fun _ _ _ h => h) (Or.inl ⟨by rfl, ?_⟩) (by assumption) ?_
          rotate_left 1
          focus (intro w hSw; (try dsimp only at hSw); go_simp; try with_reducible rfl)
          try simp only [Act.put, List.setIfInBounds_toArray, List.set_cons_zero, List.set_cons_succ]
          refine wpAnyH_take (i := 16) (oi := { dst := some 61, op := Go.Op.nilCheck (Go.Operand.tmp 60), type := 0, pos := "pace.go:349", after := #[{ on := 15, ground := Go.Ground.data }], guard := none }) (v := ?_) rfl (by kernel_rfl) (by kernel_rfl) (by kernel_rfl) (fun _ _ _ h => h) (Or.inl ⟨by rfl, ?_⟩) (by assumption) ?_
          rotate_left 1
          focus (intro w hSw; (try dsimp only at hSw); go_simp; try with_reducible rfl)
          try simp only [Act.put, List.setIfInBounds_toArray, List.set_cons_zero, List.set_cons_succ]
          refine wpAnyH_take (i := 17) (oi := { dst := some 62, op := Go.Op.fieldAddr 38 (Go.Operand.tmp 61) 2, type := 0, pos := "pace.go:349", after := #[{ on := 16, ground := Go.Ground.data }], guard := none }) (v := ?_) rfl (by kernel_rfl) (by kernel_rfl) (by kernel_rfl) (fun _ _ _ h => h) (Or.inl ⟨by rfl, ?_⟩) (by assumption) ?_
          rotate_left 1
          focus (intro w hSw; (try dsimp only at hSw); go_simp; try with_reducible rfl)
          try simp only [Act.put, List.setIfInBounds_toArray, List.set_cons_zero, List.set_cons_succ]
          refine wpAnyH_ready (rs := [9, 18]) (by kernel_rfl) (by simp) ?_
          refine AllReadyH.cons (o := { dst := some 54, op := Go.Op.call { callee := Go.Callee.value (Go.Operand.func 29), args := #[Go.Operand.tmp 49, Go.Operand.tmp 53], argTypes := #[3, 3] }, type := 3, pos := "pace.go:349", after := #[{ on := 4, ground := Go.Ground.data }, { on := 8, ground := Go.Ground.data }], guard := none }) rfl (fun K hK => ?_) (AllReadyH.cons (o := { dst := some 63, op := Go.Op.load 3 (Go.Operand.tmp 62), type := 3, pos := "pace.go:349", after := #[{ on := 17, ground := Go.Ground.data }], guard := none }) rfl (fun K hK => ?_) (AllReadyH.nil))
          · go_simp
            with_reducible refine Calls.mono (B1.out _) ?_
            rintro e w' ⟨rfl, rfl⟩
            refine hK.out _ _ (⟨c0, c3⟩) (fun hHeld => ?_)
            clear hK K
            try simp only [Act.put, List.setIfInBounds_toArray, List.set_cons_zero, List.set_cons_succ]
            refine wpAnyH_ready (rs := [18]) (by kernel_rfl) (by simp) ?_
            refine AllReadyH.cons (o := { dst := some 63, op := Go.Op.load 3 (Go.Operand.tmp 62), type := 3, pos := "pace.go:349", after := #[{ on := 17, ground := Go.Ground.data }], guard := none }) rfl (fun K hK => ?_) AllReadyH.nil
            go_simp
            refine hK.out _ _ (⟨c0, c3⟩) (fun hHeld => ?_)
            clear hK K
            try simp only [Act.put, List.setIfInBounds_toArray, List.set_cons_zero, List.set_cons_succ]
            refine wpAnyH_ready (rs := [19]) (by kernel_rfl) (by simp) ?_
            refine AllReadyH.cons (o := { dst := some 64, op := Go.Op.call { callee := Go.Callee.value (Go.Operand.func 29), args := #[Go.Operand.tmp 59, Go.Operand.tmp 63], argTypes := #[3, 3] }, type := 3, pos := "pace.go:349", after := #[{ on := 14, ground := Go.Ground.data }, { on := 18, ground := Go.Ground.data }, { on := 9, ground := Go.Ground.chain }], guard := none }) rfl (fun K hK => ?_) AllReadyH.nil
            go_simp
            with_reducible refine Calls.mono (B2.out _) ?_
            rintro e w' ⟨rfl, rfl⟩
            refine hK.out _ _ (⟨c0, c3⟩) (fun hHeld => ?_)
            clear hK K
            try simp only [Act.put, List.setIfInBounds_toArray, List.set_cons_zero, List.set_cons_succ]
            refine wpAnyH_ready (rs := [20]) (by kernel_rfl) (by simp) ?_
            refine AllReadyH.cons (o := { dst := some 65, op := Go.Op.call { callee := Go.Callee.value (Go.Operand.func 28), args := #[Go.Operand.tmp 54, Go.Operand.tmp 64], argTypes := #[3, 3] }, type := 3, pos := "pace.go:349", after := #[{ on := 9, ground := Go.Ground.data }, { on := 19, ground := Go.Ground.data }, { on := 19, ground := Go.Ground.chain }], guard := none }) rfl (fun K hK => ?_) AllReadyH.nil
            go_simp
            with_reducible refine Calls.mono (P2.out _) ?_
            rintro e w' ⟨rfl, rfl⟩
            refine hK.out _ _ (⟨c0, c3⟩) (fun hHeld => ?_)
            clear hK K
            try simp only [Act.put, List.setIfInBounds_toArray, List.set_cons_zero, List.set_cons_succ]
            refine wpAnyH_take (i := 21) (oi := { dst := some 66, op := Go.Op.nilCheck (Go.Operand.tmp 45), type := 0, pos := "pace.go:349", after := #[{ on := 0, ground := Go.Ground.data }, { on := 0, ground := Go.Ground.phase }, { on := 1, ground := Go.Ground.phase }, { on := 2, ground := Go.Ground.phase }, { on := 3, ground := Go.Ground.phase }, { on := 4, ground := Go.Ground.phase }, { on := 5, ground := Go.Ground.phase }, { on := 6, ground := Go.Ground.phase }, { on := 7, ground := Go.Ground.phase }, { on := 8, ground := Go.Ground.phase }, { on := 9, ground := Go.Ground.phase }, { on := 10, ground := Go.Ground.phase }, { on := 11, ground := Go.Ground.phase }, { on := 12, ground := Go.Ground.phase }, { on := 13, ground := Go.Ground.phase }, { on := 14, ground := Go.Ground.phase }, { on := 15, ground := Go.Ground.phase }, { on := 16, ground := Go.Ground.phase }, { on := 17, ground := Go.Ground.phase }, { on := 18, ground := Go.Ground.phase }, { on := 19, ground := Go.Ground.phase }, { on := 20, ground := Go.Ground.phase }], guard := none }) (v := ?_) rfl (by kernel_rfl) (by kernel_rfl) (by kernel_rfl) (fun _ _ _ h => h) (Or.inl ⟨by rfl, ?_⟩) (by assumption) ?_
            rotate_left 1
            focus (intro w hSw; (try dsimp only at hSw); go_simp; try with_reducible rfl)
            try simp only [Act.put, List.setIfInBounds_toArray, List.set_cons_zero, List.set_cons_succ]
            refine wpAnyH_take (i := 22) (oi := { dst := some 67, op := Go.Op.fieldAddr 38 (Go.Operand.tmp 66) 2, type := 0, pos := "pace.go:349", after := #[{ on := 21, ground := Go.Ground.data }, { on := 0, ground := Go.Ground.phase }, { on := 1, ground := Go.Ground.phase }, { on := 2, ground := Go.Ground.phase }, { on := 3, ground := Go.Ground.phase }, { on := 4, ground := Go.Ground.phase }, { on := 5, ground := Go.Ground.phase }, { on := 6, ground := Go.Ground.phase }, { on := 7, ground := Go.Ground.phase }, { on := 8, ground := Go.Ground.phase }, { on := 9, ground := Go.Ground.phase }, { on := 10, ground := Go.Ground.phase }, { on := 11, ground := Go.Ground.phase }, { on := 12, ground := Go.Ground.phase }, { on := 13, ground := Go.Ground.phase }, { on := 14, ground := Go.Ground.phase }, { on := 15, ground := Go.Ground.phase }, { on := 16, ground := Go.Ground.phase }, { on := 17, ground := Go.Ground.phase }, { on := 18, ground := Go.Ground.phase }, { on := 19, ground := Go.Ground.phase }, { on := 20, ground := Go.Ground.phase }], guard := none }) (v := ?_) rfl (by kernel_rfl) (by kernel_rfl) (by kernel_rfl) (fun _ _ _ h => h) (Or.inl ⟨by rfl, ?_⟩) (by assumption) ?_
            rotate_left 1
            focus (intro w hSw; (try dsimp only at hSw); go_simp; try with_reducible rfl)
            try simp only [Act.put, List.setIfInBounds_toArray, List.set_cons_zero, List.set_cons_succ]
            refine wpAnyH_ready (rs := [23]) (by kernel_rfl) (by simp) ?_
            refine AllReadyH.cons (o := { dst := none, op := Go.Op.store 3 (Go.Operand.tmp 67) (Go.Operand.tmp 65), type := 0, pos := "pace.go:349", after := #[{ on := 22, ground := Go.Ground.data }, { on := 20, ground := Go.Ground.data }, { on := 20, ground := Go.Ground.chain }, { on := 0, ground := Go.Ground.phase }, { on := 1, ground := Go.Ground.phase }, { on := 2, ground := Go.Ground.phase }, { on := 3, ground := Go.Ground.phase }, { on := 4, ground := Go.Ground.phase }, { on := 5, ground := Go.Ground.phase }, { on := 6, ground := Go.Ground.phase }, { on := 7, ground := Go.Ground.phase }, { on := 8, ground := Go.Ground.phase }, { on := 9, ground := Go.Ground.phase }, { on := 10, ground := Go.Ground.phase }, { on := 11, ground := Go.Ground.phase }, { on := 12, ground := Go.Ground.phase }, { on := 13, ground := Go.Ground.phase }, { on := 14, ground := Go.Ground.phase }, { on := 15, ground := Go.Ground.phase }, { on := 16, ground := Go.Ground.phase }, { on := 17, ground := Go.Ground.phase }, { on := 18, ground := Go.Ground.phase }, { on := 19, ground := Go.Ground.phase }, { on := 20, ground := Go.Ground.phase }], guard := none }) rfl (fun K hK => ?_) AllReadyH.nil
            go_simp
            refine hK.out _ _ (⟨(HX.out.drew.set 2 (.int .i64 z)).cell (o := 0) rfl, (HX.out.drew.set 2 (.int .i64 z)).cell (o := 3) rfl⟩) (fun hHeld => ?_)
            clear hK K
            try simp only [Act.put, List.setIfInBounds_toArray, List.set_cons_zero, List.set_cons_succ]
            refine wpAnyH_done (by kernel_rfl) ?_ _
            go_wp2_with fail
            go_meet
            exact ⟨HX.out.drew.set 2 (.int .i64 z), HK.out.drew.set (fun _ => rfl) 2 _⟩
          · go_simp
            refine hK.out _ _ (⟨c0, c3⟩) (fun hHeld => ?_)
            clear hK K
            try simp only [Act.put, List.setIfInBounds_toArray, List.set_cons_zero, List.set_cons_succ]
            refine wpAnyH_ready (rs := [9]) (by kernel_rfl) (by simp) ?_
            refine AllReadyH.cons (o := { dst := some 54, op := Go.Op.call { callee := Go.Callee.value (Go.Operand.func 29), args := #[Go.Operand.tmp 49, Go.Operand.tmp 53], argTypes := #[3, 3] }, type := 3, pos := "pace.go:349", after := #[{ on := 4, ground := Go.Ground.data }, { on := 8, ground := Go.Ground.data }], guard := none }) rfl (fun K hK => ?_) AllReadyH.nil
            go_simp
            with_reducible refine Calls.mono (B1.out _) ?_
            rintro e w' ⟨rfl, rfl⟩
            refine hK.out _ _ (⟨c0, c3⟩) (fun hHeld => ?_)
            clear hK K
            try simp only [Act.put, List.setIfInBounds_toArray, List.set_cons_zero, List.set_cons_succ]
            refine wpAnyH_ready (rs := [19]) (by kernel_rfl) (by simp) ?_
            refine AllReadyH.cons (o := { dst := some 64, op := Go.Op.call { callee := Go.Callee.value (Go.Operand.func 29), args := #[Go.Operand.tmp 59, Go.Operand.tmp 63], argTypes := #[3, 3] }, type := 3, pos := "pace.go:349", after := #[{ on := 14, ground := Go.Ground.data }, { on := 18, ground := Go.Ground.data }, { on := 9, ground := Go.Ground.chain }], guard := none }) rfl (fun K hK => ?_) AllReadyH.nil
            go_simp
            with_reducible refine Calls.mono (B2.out _) ?_
            rintro e w' ⟨rfl, rfl⟩
            refine hK.out _ _ (⟨c0, c3⟩) (fun hHeld => ?_)
            clear hK K
            try simp only [Act.put, List.setIfInBounds_toArray, List.set_cons_zero, List.set_cons_succ]
            refine wpAnyH_ready (rs := [20]) (by kernel_rfl) (by simp) ?_
            refine AllReadyH.cons (o := { dst := some 65, op := Go.Op.call { callee := Go.Callee.value (Go.Operand.func 28), args := #[Go.Operand.tmp 54, Go.Operand.tmp 64], argTypes := #[3, 3] }, type := 3, pos := "pace.go:349", after := #[{ on := 9, ground := Go.Ground.data }, { on := 19, ground := Go.Ground.data }, { on := 19, ground := Go.Ground.chain }], guard := none }) rfl (fun K hK => ?_) AllReadyH.nil
            go_simp
            with_reducible refine Calls.mono (P2.out _) ?_
            rintro e w' ⟨rfl, rfl⟩
            refine hK.out _ _ (⟨c0, c3⟩) (fun hHeld => ?_)
            clear hK K
            try simp only [Act.put, List.setIfInBounds_toArray, List.set_cons_zero, List.set_cons_succ]
            refine wpAnyH_take (i := 21) (oi := { dst := some 66, op := Go.Op.nilCheck (Go.Operand.tmp 45), type := 0, pos := "pace.go:349", after := #[{ on := 0, ground := Go.Ground.data }, { on := 0, ground := Go.Ground.phase }, { on := 1, ground := Go.Ground.phase }, { on := 2, ground := Go.Ground.phase }, { on := 3, ground := Go.Ground.phase }, { on := 4, ground := Go.Ground.phase }, { on := 5, ground := Go.Ground.phase }, { on := 6, ground := Go.Ground.phase }, { on := 7, ground := Go.Ground.phase }, { on := 8, ground := Go.Ground.phase }, { on := 9, ground := Go.Ground.phase }, { on := 10, ground := Go.Ground.phase }, { on := 11, ground := Go.Ground.phase }, { on := 12, ground := Go.Ground.phase }, { on := 13, ground := Go.Ground.phase }, { on := 14, ground := Go.Ground.phase }, { on := 15, ground := Go.Ground.phase }, { on := 16, ground := Go.Ground.phase }, { on := 17, ground := Go.Ground.phase }, { on := 18, ground := Go.Ground.phase }, { on := 19, ground := Go.Ground.phase }, { on := 20, ground := Go.Ground.phase }], guard := none }) (v := ?_) rfl (by kernel_rfl) (by kernel_rfl) (by kernel_rfl) (fun _ _ _ h => h) (Or.inl ⟨by rfl, ?_⟩) (by assumption) ?_
            rotate_left 1
            focus (intro w hSw; (try dsimp only at hSw); go_simp; try with_reducible rfl)
            try simp only [Act.put, List.setIfInBounds_toArray, List.set_cons_zero, List.set_cons_succ]
            refine wpAnyH_take (i := 22) (oi := { dst := some 67, op := Go.Op.fieldAddr 38 (Go.Operand.tmp 66) 2, type := 0, pos := "pace.go:349", after := #[{ on := 21, ground := Go.Ground.data }, { on := 0, ground := Go.Ground.phase }, { on := 1, ground := Go.Ground.phase }, { on := 2, ground := Go.Ground.phase }, { on := 3, ground := Go.Ground.phase }, { on := 4, ground := Go.Ground.phase }, { on := 5, ground := Go.Ground.phase }, { on := 6, ground := Go.Ground.phase }, { on := 7, ground := Go.Ground.phase }, { on := 8, ground := Go.Ground.phase }, { on := 9, ground := Go.Ground.phase }, { on := 10, ground := Go.Ground.phase }, { on := 11, ground := Go.Ground.phase }, { on := 12, ground := Go.Ground.phase }, { on := 13, ground := Go.Ground.phase }, { on := 14, ground := Go.Ground.phase }, { on := 15, ground := Go.Ground.phase }, { on := 16, ground := Go.Ground.phase }, { on := 17, ground := Go.Ground.phase }, { on := 18, ground := Go.Ground.phase }, { on := 19, ground := Go.Ground.phase }, { on := 20, ground := Go.Ground.phase }], guard := none }) (v := ?_) rfl (by kernel_rfl) (by kernel_rfl) (by kernel_rfl) (fun _ _ _ h => h) (Or.inl ⟨by rfl, ?_⟩) (by assumption) ?_
            rotate_left 1
            focus (intro w hSw; (try dsimp only at hSw); go_simp; try with_reducible rfl)
            try simp only [Act.put, List.setIfInBounds_toArray, List.set_cons_zero, List.set_cons_succ]
            refine wpAnyH_ready (rs := [23]) (by kernel_rfl) (by simp) ?_
            refine AllReadyH.cons (o := { dst := none, op := Go.Op.store 3 (Go.Operand.tmp 67) (Go.Operand.tmp 65), type := 0, pos := "pace.go:349", after := #[{ on := 22, ground := Go.Ground.data }, { on := 20, ground := Go.Ground.data }, { on := 20, ground := Go.Ground.chain }, { on := 0, ground := Go.Ground.phase }, { on := 1, ground := Go.Ground.phase }, { on := 2, ground := Go.Ground.phase }, { on := 3, ground := Go.Ground.phase }, { on := 4, ground := Go.Ground.phase }, { on := 5, ground := Go.Ground.phase }, { on := 6, ground := Go.Ground.phase }, { on := 7, ground := Go.Ground.phase }, { on := 8, ground := Go.Ground.phase }, { on := 9, ground := Go.Ground.phase }, { on := 10, ground := Go.Ground.phase }, { on := 11, ground := Go.Ground.phase }, { on := 12, ground := Go.Ground.phase }, { on := 13, ground := Go.Ground.phase }, { on := 14, ground := Go.Ground.phase }, { on := 15, ground := Go.Ground.phase }, { on := 16, ground := Go.Ground.phase }, { on := 17, ground := Go.Ground.phase }, { on := 18, ground := Go.Ground.phase }, { on := 19, ground := Go.Ground.phase }, { on := 20, ground := Go.Ground.phase }], guard := none }) rfl (fun K hK => ?_) AllReadyH.nil
            go_simp
            refine hK.out _ _ (⟨(HX.out.drew.set 2 (.int .i64 z)).cell (o := 0) rfl, (HX.out.drew.set 2 (.int .i64 z)).cell (o := 3) rfl⟩) (fun hHeld => ?_)
            clear hK K
            try simp only [Act.put, List.setIfInBounds_toArray, List.set_cons_zero, List.set_cons_succ]
            refine wpAnyH_done (by kernel_rfl) ?_ _
            go_wp2_with fail
            go_meet
            exact ⟨HX.out.drew.set 2 (.int .i64 z), HK.out.drew.set (fun _ => rfl) 2 _⟩
        case rest =>
          obtain ⟨hx, hk2⟩ := hcut
          clear c0 c2 c3 f2 hbl HX HK B1 B2 P2
          have HX := Lib.hid hx
          have HK := Lib.hid hk2
          have c4 := hx.cell (o := 4) rfl
          have f4 := hx.frozen 4
          have f5 := hx.frozen 5
          have c5 := hx.cell (o := 5) rfl
          have hbl := hx.lt
          clear hx hk2
          go_wp2_with fail
          go_meet
          rw [E1.out, E2.out]
          exact ⟨(HX.out.set 5 (.bool true)).set 4 (.int .i64 ((k + 1 : Nat) : Int)), (HK.out.set (fun _ => rfl) 5 _).set (fun _ => rfl) 4 _⟩
    · obtain ⟨e1, e2, e3⟩ := EF.out (by omega)
      clear ER C3 C4
      unfold rDn at e1
      have hw : IntKind.i64.wrap (65536 - g) = 65536 - g := by rw [IntKind.wrap_i64]; omega
      have hw2 : IntKind.i64.wrap (65536 + T) = 65536 + T := by rw [IntKind.wrap_i64]; omega
      have hq3 : A.tdiv 2 = A / 2 := Int.tdiv_eq_ediv_of_nonneg (by omega)
      have B1 := Lib.hid fun w => byRef_any R (65536 - g) w
      generalize fixI R (65536 - g) = u5 at *
      have B2 := Lib.hid fun w => byRef_any u5 (65536 + T) w
      generalize fixI u5 (65536 + T) = z at *
      have E1 := Lib.hid e1
      have E2 := Lib.hid e2
      clear e1 e2
      subst e3
      have c2 := HB.out.cell (o := 2) rfl
      have f2 := HB.out.frozen 2
      have hbl := HB.out.lt
      go_upto_region 12 with (fail)
      go_cut [] (fun wx => RR wx b M T z A k (decide (0 < k)) ∧ Kept (fun k => k = b) w wx)
      case first =>
        go_region_with (go_at_call 29; first | (with_reducible refine Calls.mono (B1.out _) ?_; rintro e w' ⟨rfl, rfl⟩) | (with_reducible refine Calls.mono (B2.out _) ?_; rintro e w' ⟨rfl, rfl⟩))
        all_goals
          go_wp2_with fail
          go_meet
          exact ⟨(HB.out.set 2 (.int .i64 z)).drew, (Kept.one w b 2 _).drew⟩
      case rest =>
        obtain ⟨hx, hk2⟩ := hcut
        clear c1 c2 f2 hbl HB B1 B2
        have HX := Lib.hid hx
        have HK := Lib.hid hk2
        have c3 := hx.cell (o := 3) rfl
        have f3 := hx.frozen 3
        have c4 := hx.cell (o := 4) rfl
        have f4 := hx.frozen 4
        have c5 := hx.cell (o := 5) rfl
        have f5 := hx.frozen 5
        have hbl := hx.lt
        clear hx hk2
        go_wp2_with fail
        go_meet
        rw [E1.out, E2.out]
        exact ⟨((HX.out.set 3 (.int .i64 (A / 2))).set 5 (.bool false)).set 4 (.int .i64 0), ((HK.out.set (fun _ => rfl) 3 _).set (fun _ => rfl) 5 _).set (fun _ => rfl) 4 _⟩
  case rest =>
    obtain ⟨hx, hk2⟩ := hcut
    clear ER EF c1 hk HB hs0 hg0 hg1
    have HX := Lib.hid hx
    have HK := Lib.hid hk2
    have c0 := hx.cell (o := 0) rfl
    have c2 := hx.cell (o := 2) rfl
    have f2 := hx.frozen 2
    have hbl := hx.lt
    clear hx hk2
    go_upto_region 16 with (fail)
    go_cut [] (fun wx => RR wx b M T R2 A1 k1 (decide (0 < k1)) ∧ Kept (fun k => k = b) w wx)
    case first =>
      go_region_with (go_at_call 26; with_reducible refine Calls.mono (C3.out _) ?_; rintro e w' ⟨rfl, rfl⟩)
      all_goals
        go_wp2_with fail
        go_meet
        exact ⟨(HX.out.set 2 (.int .i64 R2)).drew, (HK.out.set (fun _ => rfl) 2 _).drew⟩
    case rest =>
      obtain ⟨hx, hk2⟩ := hcut
      clear c0 c2 f2 hbl HX HK C3
      have HX := Lib.hid hx
      have HK := Lib.hid hk2
      have c2 := hx.cell (o := 2) rfl
      have c3 := hx.cell (o := 3) rfl
      have f3 := hx.frozen 3
      have hbl := hx.lt
      clear hx hk2
      go_wp2_with (go_at_call 26; with_reducible refine Calls.mono (C4.out _) ?_; rintro e w' ⟨rfl, rfl⟩)
      go_ret
      exact ⟨rfl, HX.out.set 3 (.int .i64 A2), HK.out.set (fun _ => rfl) 3 _⟩
theorem rupd_any {w : World} {b : Nat} {M T : Int} {x : St} (h : DR w b M T x) (o : Ok M T x) (hk : x.k ≤ 1000000) (s l : Int) :
    Calls Try.prog 10 #[.pointer (some ⟨b, 0, none⟩), .int .i64 s, .int .i64 l] w fun e w' => e = .returned (.int .i64 (x.upd M T s l).R) ∧ DR w' b M T (x.upd M T s l) ∧ Kept (fun k => k = b) w w' := by
  by_cases hz : cS s = 0
  · have e : x.upd M T s l = x := by unfold St.upd; rw [if_pos hz]
    rw [e]
    exact (rupd_none h s l hz).mono fun e w' ⟨e1, e2⟩ => by subst e2; exact ⟨e1, h, Kept.refl _ w⟩
  · exact rupd_some h o hk s l hz
end Go.Proofs.Ytaflhkhfkifefaa.Cr
