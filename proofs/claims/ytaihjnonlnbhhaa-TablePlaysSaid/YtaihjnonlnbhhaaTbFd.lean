/- The law's find. Conditions: each theorem's own. -/
import Derived.Test.YtaihjnonlnbhhaaTbRc
set_option linter.unusedVariables false
namespace Go.Proofs.Ytaihjnonlnbhhaa.TbC
open Go.RowKit Hp TbM TbN TbR TbK TbL Tb
attribute [local go_sem ↓] Go.wp_at_zero Go.wp_at_succ
theorem eql_key (a b c d : Int) (r : Bool) (hr : r = (a == c && b == d)) (w : World) : (binOp .eql 62 (.agg #[.int .i64 a, .int .u64 b]) (.agg #[.int .i64 c, .int .u64 d])).run Try.prog w = .ok (.bool r) w := by
  have hp : Try.prog.stoodInHeld 62 = false := by kernel_rfl
  rw [run_eql_struct, show (10000 : Nat) = 9999 + 1 from rfl, run_equalIn_agg w 9999 62 _ _ key_struct hp]
  simp only [Program.fieldsOf, Try.underlying62]
  have u3 := Try.underlying3
  have u4 := Try.underlying30
  have a3 := Try.isAgg3
  have z3 := Try.sizeOf3
  have a4 := Try.isAgg30
  have z4 := Try.sizeOf30
  go_simp
  subst hr
  by_cases h1 : a = c <;> by_cases h2 : b = d <;> simp [h1, h2]
set_option maxRecDepth 100000 in
set_option maxHeartbeats 4000000 in
theorem find_lies {w : World} {g cap : Nat} {cur : List Value} {l : List Ce} (h : Rw.Lies cT w g cap cur l) (hl : l.length ≤ 1000000) (k : Ky) :
    Calls Try.prog 28 #[.slice (some ⟨g, 0, none⟩) l.length cap, ky k] w fun e w' => e = .returned (.tuple #[.int .i64 (place k l : Nat), .bool (has k l)]) ∧ Kept (fun _ => False) w w' := by
  obtain ⟨k1, k2⟩ := k
  have H := Lib.hid h
  clear h
  obtain ⟨P, hP⟩ : ∃ P, P = place (k1, k2) l := ⟨_, rfl⟩
  obtain ⟨hs, hhs⟩ : ∃ hs, hs = has (k1, k2) l := ⟨_, rfl⟩
  rw [← hP, ← hhs]
  have HP := Lib.hid hP
  have HS := Lib.hid hhs
  clear hP hhs
  go_enter Try.func28, Try.ntmps28
  go_upto_region 1 with (fail)
  have hR := Blk.new w [.int .i64 k1, .int .u64 k2] 62
  have hk := (Kept.refl (fun _ => False) w).alloc (.cells [.int .i64 k1, .int .u64 k2].toArray 62)
  dsimp only [List.toArray] at hR hk
  have HR := Lib.hid hR
  have HK := Lib.hid hk
  clear hR hk
  generalize w.alloc (.cells #[.int .i64 k1, .int .u64 k2] 62) = w1 at *
  generalize w.heap.size = rb at *
  go_wp2_with fail
  go_loopg [6] l.length (fun mm s6 wr => ∃ (i : Nat), Hid (mm = l.length - i) ∧ i ≤ place (k1, k2) l ∧ s6 = .int .i64 ((i : Nat) : Int) ∧ Hid (Blk wr rb [.int .i64 k1, .int .u64 k2] 62) ∧ Hid (Kept (fun _ => False) w wr))
  case atStart => exact ⟨0, Lib.hid (by omega), Nat.zero_le _, rfl, HR, HK⟩
  case round =>
    obtain ⟨i, hm, hi, rfl, hB, hk⟩ := hrel
    have hple := place_le (k1, k2) l
    rcases Nat.lt_or_ge i l.length with hlt | hge
    · obtain ⟨⟨⟨x1, x2⟩, xv⟩, hx⟩ : ∃ x, l[i]? = some x := ⟨l[i], List.getElem?_eq_getElem hlt⟩
      have hLr := H.out.kept hk.out (fun f => f)
      have q0 : wr.cell? ⟨g, i * 3, none⟩ = some (.int .i64 x1) := hLr.cell hx (j := 0) rfl
      have q1 : wr.cell? ⟨g, i * 3 + 1, none⟩ = some (.int .u64 x2) := hLr.cell hx (j := 1) rfl
      have c0 := hB.out.cell (o := 0) rfl
      have c1 := hB.out.cell (o := 1) rfl
      have LS := Lib.hid fun w => less_any (x1, x2) (k1, k2) w
      have HX := Lib.hid hx
      clear hLr hx
      go_upto_region 2 with (fail)
      go_still_tail 11, (by kernel_rfl)
      change wpList _ _ _ _ _ wr.drew
      have hB2 := hB.out.drew
      have hk2 := hk.out.drew
      generalize wr.drew = w2 at *
      have HB2 := Lib.hid hB2
      have HK2 := Lib.hid hk2
      clear hB2 hk2 q0 q1 c0 c1
      go_wp2_with fail
      with_reducible refine Calls.mono (LS.out _) ?_
      rintro e w3 ⟨rfl, hk3⟩
      have HB3 := Lib.hid (hk3.blk HB2.out (fun f => f))
      have HK3 := Lib.hid (HK2.out.trans hk3)
      clear hk3 LS
      cases hb : ltK (x1, x2) (k1, k2)
      · have hip : i = place (k1, k2) l := by
          rcases Nat.lt_or_ge i (place (k1, k2) l) with h | h
          · have := place_lt _ l i _ h HX.out; rw [hb] at this; cases this
          · omega
        have hLr := H.out.kept HK3.out (fun f => f)
        have q0 : w3.cell? ⟨g, i * 3, none⟩ = some (.int .i64 x1) := hLr.cell HX.out (j := 0) rfl
        have q1 : w3.cell? ⟨g, i * 3 + 1, none⟩ = some (.int .u64 x2) := hLr.cell HX.out (j := 1) rfl
        have c0 := HB3.out.cell (o := 0) rfl
        have c1 := HB3.out.cell (o := 1) rfl
        clear hLr
        have hh : has (k1, k2) l = (x1 == k1 && x2 == k2) := by
          unfold has
          rw [← hip, HX.out, Bool.eq_iff_iff]
          simp only [Option.map_some, beq_iff_eq, Option.some.injEq, Prod.mk.injEq, Bool.and_eq_true]
        have HE : Hid (P = i ∧ hs = (x1 == k1 && x2 == k2)) := Lib.hid ⟨by rw [HP.out, ← hip], by rw [HS.out, hh]⟩
        cases hr : (x1 == k1 && x2 == k2)
        all_goals
          have nk := eql_key x1 x2 k1 k2 _ hr.symm
          rw [hr] at HE
          clear hh hip hr hple hb
          go_upto_region 4 with (fail)
          go_quiet (fail)
          go_wp2_with fail
          go_ret2
          exact ⟨by rw [HE.out.1, HE.out.2]; rfl, HK3.out.drewN _⟩
      · go_wp2_with fail
        go_roundg (l.length - (i + 1))
        case measure => have := hm.out; omega
        case rel =>
          refine ⟨i + 1, Lib.hid rfl, ?_, by go_num, HB3, HK3⟩
          rcases Nat.lt_or_ge i (place (k1, k2) l) with h | h
          · exact h
          · have := place_at (k1, k2) l _ (by rw [show place (k1, k2) l = i by omega]; exact HX.out); rw [hb] at this; cases this
    · have hil : i = l.length := by omega
      have hip : place (k1, k2) l = l.length := by omega
      have hh : has (k1, k2) l = false := by
        unfold has
        rw [hip, List.getElem?_eq_none_iff.2 (Nat.le_refl _)]
        rfl
      have HE : Hid (P = l.length ∧ hs = false) := Lib.hid ⟨by rw [HP.out, hip], by rw [HS.out, hh]⟩
      subst hil
      clear hh hip hple hi hge
      go_upto_region 2 with (fail)
      go_quiet (fail)
      go_wp2_with fail
      go_quiet (fail)
      go_wp2_with fail
      go_ret2
      exact ⟨by rw [HE.out.1, HE.out.2]; rfl, (hk.out.drewN _).drewN _⟩
theorem find_nil (k : Ky) (w : World) : Calls Try.prog 28 #[.slice none 0 0, ky k] w fun e w' => e = .returned (.tuple #[.int .i64 0, .bool false]) ∧ Kept (fun _ => False) w w' := by
  obtain ⟨k1, k2⟩ := k
  go_enter Try.func28, Try.ntmps28
  go_upto_region 1 with (fail)
  have hk := (Kept.refl (fun _ => False) w).alloc (.cells [.int .i64 k1, .int .u64 k2].toArray 62)
  dsimp only [List.toArray] at hk
  generalize w.alloc (.cells #[.int .i64 k1, .int .u64 k2] 62) = w1 at *
  generalize w.heap.size = rb at *
  have HK := Lib.hid hk
  clear hk
  go_wp2_with fail
  go_loopg [6] 0 (fun mm s6 wr => s6 = .int .i64 0 ∧ w1 = wr)
  case atStart => exact ⟨rfl, rfl⟩
  case round =>
    obtain ⟨rfl, rfl⟩ := hrel
    go_upto_region 2 with (fail)
    go_quiet (fail)
    go_wp2_with fail
    go_quiet (fail)
    go_wp2_with fail
    go_ret2
    exact ⟨rfl, (HK.out.drewN _).drewN _⟩
/-- The law's find: where a key stands, or would; whether it does. -/
theorem find_any {w : World} {base : Nat} {v : Value} {l : List Ce} (h : Rw.Row cT w base v l) (hl : l.length ≤ 1000000) (k : Ky) :
    Calls Try.prog 28 #[v, ky k] w fun e w' => e = .returned (.tuple #[.int .i64 (place k l : Nat), .bool (has k l)]) ∧ Kept (fun _ => False) w w' := by
  rcases h.form with ⟨rfl, rfl⟩ | ⟨g, cap, cur, rfl, _, h2⟩
  · exact find_nil k w
  · exact find_lies h2 hl k
end Go.Proofs.Ytaihjnonlnbhhaa.TbC
