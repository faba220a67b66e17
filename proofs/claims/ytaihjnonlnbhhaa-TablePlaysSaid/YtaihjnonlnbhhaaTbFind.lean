/- Slots with open addressing: a search. Conditions: each theorem's own. -/
import Derived.Test.YtaihjnonlnbhhaaTb
set_option linter.unusedVariables false
namespace Go.Proofs.Ytaihjnonlnbhhaa.Tb
open Go.RowKit Hp TbM TbN TbR
attribute [local go_sem ↓] Go.wp_at_zero Go.wp_at_succ
/-- A value, as it lies. -/
abbrev ev (v : Int) : Value := .int .i64 v
abbrev zv : Value := .int .i64 0
abbrev fl (S : List (Option (Ky × Int))) : List Value := flat ev zv S
theorem key_struct : Try.prog.underlying 62 = some (.struct (Try.prog.fieldsOf 62)) := by kernel_rfl
theorem neq_key (a b c d : Int) (r : Bool) (hr : r = !(a == c && b == d)) (w : World) : (binOp .neq 62 (.agg #[.int .i64 a, .int .u64 b]) (.agg #[.int .i64 c, .int .u64 d])).run Try.prog w = .ok (.bool r) w := by
  have hp : Try.prog.stoodInHeld 62 = false := by kernel_rfl
  rw [run_neq_struct, show (10000 : Nat) = 9999 + 1 from rfl, run_equalIn_agg w 9999 62 _ _ key_struct hp]
  simp only [Program.fieldsOf, Try.underlying62]
  have u3 := Try.underlying3
  have u4 := Try.underlying30
  have a3 := Try.isAgg3
  have z3 := Try.sizeOf3
  have a4 := Try.isAgg30
  have z4 := Try.sizeOf30
  go_simp
  subst hr
  by_cases h1 : a = c <;> by_cases h2 : b = d <;> simp [h1, h2]
/-- What a search answers that begins at h. -/
def FindP (S : List (Option (Ky × Int))) (k : Ky) (h : Nat) (w : World) (e : Ending) (w' : World) : Prop :=
  ∃ d : Nat, d < S.length ∧ Kept (fun _ => False) w w' ∧ (∀ e, e < d → ∃ k' u, k' ≠ k ∧ S[pos S.length h e]? = some (some (k', u))) ∧
    ((∃ v, S[pos S.length h d]? = some (some (k, v)) ∧ e = .returned (.tuple #[.int .i64 (pos S.length h d : Nat), .bool true])) ∨
     (S[pos S.length h d]? = some none ∧ e = .returned (.tuple #[.int .i64 (pos S.length h d : Nat), .bool false])))
theorem find_none (k : Ky) (w : World) : Calls Try.prog 73 #[.slice none 0 0, ky k] w fun e w' => e = .returned (.tuple #[.int .i64 0, .bool false]) ∧ Kept (fun _ => False) w w' := by
  obtain ⟨k1, k2⟩ := k
  go_enter Try.func73, Try.ntmps73
  go_wp2_with fail
  go_ret2
  exact ⟨rfl, (Kept.refl _ w).alloc _⟩
set_option maxHeartbeats 4000000 in
theorem find_any {w : World} {T : TypeId} {g : Nat} {S : List (Option (Ky × Int))} (hB : Blk w g (fl S) T) (hn : Pow S.length) {f : Nat} (hf : S[f]? = some none) (k : Ky) :
    Calls Try.prog 73 #[.slice (some ⟨g, 0, none⟩) S.length S.length, ky k] w (FindP S k (homeF S.length k) w) := by
  obtain ⟨k1, k2⟩ := k
  have h0 := hn.pos
  have hl := hn.le
  have hH := home_lt h0 (k1, k2)
  have HO := Lib.hid fun w => home_any (c := S.length) hn (some ⟨g, 0, none⟩) (k1, k2) w
  have AF := Lib.hid fun i (hi : i < S.length) w => after_any (c := S.length) hn hi (some ⟨g, 0, none⟩) w
  generalize homeF S.length (k1, k2) = h at *
  have hfl := lt_of_some hf
  have hz : ((S.length : Int) == 0) = false := by rw [beq_eq_false_iff_ne]; omega
  have HB := Lib.hid hB
  have HF := Lib.hid hf
  clear hB hf
  go_enter Try.func73, Try.ntmps73
  go_upto_region 3 with fail
  have hR := Blk.new w [.int .i64 k1, .int .u64 k2] 62
  have hk := (Kept.refl (fun _ => False) w).alloc (.cells [.int .i64 k1, .int .u64 k2].toArray 62)
  dsimp only [List.toArray] at hR hk
  have c0 := hR.cell (o := 0) rfl
  have c1 := hR.cell (o := 1) rfl
  have HR := Lib.hid hR
  have HK := Lib.hid hk
  clear hR hk
  generalize w.alloc (.cells #[.int .i64 k1, .int .u64 k2] 62) = w1 at *
  generalize w.heap.size = rb at *
  go_wp2_with fail
  with_reducible refine Calls.mono (HO.out _) ?_
  rintro e w2 ⟨rfl, k2'⟩
  have HK2 := Lib.hid (HK.out.trans k2')
  have HR2 := Lib.hid (k2'.blk HR.out (fun f => f))
  clear k2' HK HR c0 c1 HO
  go_wp2_with fail
  have e0 : pos S.length h 0 = h := pos_zero hH
  go_loopg [6] S.length (fun mm s6 wr => ∃ d : Nat, Hid (mm = S.length - d) ∧ d < S.length ∧ s6 = .int .i64 (pos S.length h d : Nat) ∧ Hid (∀ e, e < d → ∃ k' u, k' ≠ (k1, k2) ∧ S[pos S.length h e]? = some (some (k', u))) ∧ Hid (Kept (fun _ => False) w wr) ∧ Hid (Blk wr rb [.int .i64 k1, .int .u64 k2] 62))
  case atStart => exact ⟨0, Lib.hid (by omega), h0, by rw [e0], Lib.hid (fun e he => by omega), HK2, HR2⟩
  case round =>
    obtain ⟨d, hm, hd, rfl, hall, hk, hr⟩ := hrel
    have hp := pos_lt hH hd
    have hB := hk.out.blk (show Blk w g (fl S) T from HB.out) (fun f => f)
    have r0 := hr.out.cell (o := 0) rfl
    have r1 := hr.out.cell (o := 1) rfl
    rcases hx : S[pos S.length h d]? with _ | _ | ⟨⟨a, b⟩, v⟩
    · exfalso; rw [List.getElem?_eq_none_iff] at hx; omega
    · obtain ⟨c0, c1, c2, c3⟩ := slot_cells hB hx rfl
      have HX := Lib.hid hx
      have HP : Hid (∀ p, p = pos S.length h d → S[p]? = some none) := Lib.hid (fun p e => e ▸ HX.out)
      clear hx hB
      obtain ⟨p, hpe⟩ : ∃ p, p = pos S.length h d := ⟨_, rfl⟩
      have HPE := Lib.hid hpe
      rw [← hpe] at c0 c1 c2 c3 hp ⊢
      clear hpe HX
      go_wp2_with fail
      go_quiet (fail)
      go_wp2_with fail
      go_quiet (fail)
      go_wp2_with fail
      go_ret2
      exact ⟨d, hd, (hk.out.drewN _).drewN _, hall.out, Or.inr ⟨by rw [← HPE.out]; exact HP.out p HPE.out, congrArg (fun p : Nat => Ending.returned (.tuple #[.int .i64 (p : Int), .bool false])) HPE.out⟩⟩
    · obtain ⟨c0, c1, c2, c3⟩ := slot_cells hB hx rfl
      have HX := Lib.hid hx
      have HP : Hid (∀ p, p = pos S.length h d → S[p]? = some (some ((a, b), v))) := Lib.hid (fun p e => e ▸ HX.out)
      clear hx hB
      by_cases hkk : (a, b) = (k1, k2)
      · cases hkk
        have nk := neq_key k1 k2 k1 k2 false (by simp)
        obtain ⟨p, hpe⟩ : ∃ p, p = pos S.length h d := ⟨_, rfl⟩
        have HPE := Lib.hid hpe
        rw [← hpe] at c0 c1 c2 c3 hp ⊢
        clear hpe HX
        go_wp2_with fail
        go_quiet (fail)
        go_wp2_with fail
        go_quiet (fail)
        go_wp2_with fail
        go_ret2
        exact ⟨d, hd, (hk.out.drewN _).drewN _, hall.out, Or.inl ⟨v, by rw [← HPE.out]; exact HP.out p HPE.out, congrArg (fun p : Nat => Ending.returned (.tuple #[.int .i64 (p : Int), .bool true])) HPE.out⟩⟩
      · have nk := neq_key a b k1 k2 true (by rw [eq_comm, Bool.not_eq_true', Bool.and_eq_false_iff, beq_eq_false_iff_ne, beq_eq_false_iff_ne]; by_cases e : a = k1 <;> simp_all)
        have hd1 : d + 1 < S.length := by
          rcases Nat.lt_or_ge (d + 1) S.length with h1 | h1
          · exact h1
          · exfalso
            have h2 := dist_lt hH hfl
            have h3 := pos_dist hH hfl
            rcases Nat.lt_or_ge (dist S.length h f) d with h4 | h4
            · obtain ⟨k', u, _, h5⟩ := hall.out _ h4
              rw [h3] at h5
              have := HF.out; rw [h5] at this; cases this
            · have h5 : dist S.length h f = d := by omega
              rw [h5] at h3
              have := HP.out f h3.symm; rw [HF.out] at this; cases this
        have HN := Lib.hid (pos_succ hH hd1)
        have HKK := Lib.hid hkk
        clear hkk HF hfl
        obtain ⟨p, hpe⟩ : ∃ p, p = pos S.length h d := ⟨_, rfl⟩
        have HPE := Lib.hid hpe
        rw [← hpe] at c0 c1 c2 c3 hp ⊢
        clear hpe HX
        have A := Lib.hid (AF.out p hp)
        go_wp2_with fail
        go_quiet (fail)
        go_wp2_with fail
        with_reducible refine Calls.mono (A.out _) ?_
        rintro e w' ⟨rfl, rfl⟩
        go_wp2_with fail
        go_roundg (S.length - (d + 1))
        case measure => have := hm.out; omega
        case rel => exact ⟨d + 1, Lib.hid rfl, hd1, by rw [HN.out, HPE.out], Lib.hid (fun e he => by
          rcases Nat.lt_or_ge e d with h4 | h4
          · exact hall.out e h4
          · obtain rfl : e = d := by omega
            exact ⟨(a, b), v, HKK.out, by rw [← HPE.out]; exact HP.out p HPE.out⟩), Lib.hid (hk.out.drewN _), Lib.hid (hr.out.drewN _)⟩
end Go.Proofs.Ytaihjnonlnbhhaa.Tb
