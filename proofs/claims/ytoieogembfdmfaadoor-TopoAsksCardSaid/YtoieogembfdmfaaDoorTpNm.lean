/- A port's name: small numbers as text, Name; the reference's numeral. Conditions: each theorem's own. -/
import Derived.Test.YtoieogembfdmfaaDoorTpNx
set_option linter.unusedVariables false
set_option linter.unusedSimpArgs false
namespace Go.Proofs.YtoieogembfdmfaaDoor.Tp
open Go.RowKit Hp TpM
attribute [local go_sem ↓] Go.wp_at_zero Go.wp_at_succ
variable {w : World} {b : Nat} {H S : Int}
theorem eight {i : Int} (h0 : 0 ≤ i) (h1 : i < 8) : i = 0 ∨ i = 1 ∨ i = 2 ∨ i = 3 ∨ i = 4 ∨ i = 5 ∨ i = 6 ∨ i = 7 := by omega
set_option maxRecDepth 100000 in
theorem small_any {i : Int} (h0 : 0 ≤ i) (h1 : i < 8) (w : World) : Calls Tryd.prog 35 #[.int .i64 i] w fun e w' => e = .returned (.string ⟨#[dg i]⟩) ∧ w = w' := by
  rcases eight h0 h1 with rfl | rfl | rfl | rfl | rfl | rfl | rfl | rfl
  all_goals
    go_enter Tryd.func35, Tryd.ntmps35
    go_wp2_with fail
    go_ret
    exact ⟨rfl, rfl⟩
set_option maxRecDepth 100000 in
theorem fmt_any {i : Int} (h0 : 0 ≤ i) (h1 : i < 8) (w : World) : Calls Tryd.prog 34 #[.int .i64 i, .int .i64 10] w fun e w' => e = .returned (.string ⟨#[dg i]⟩) ∧ w = w' := by
  have C := Lib.hid fun w => small_any h0 h1 w
  have h2 : i < 100 := by omega
  generalize dg i = x at *
  go_enter Tryd.func34, Tryd.ntmps34
  go_wp2_with fail
  with_reducible refine Calls.mono (C.out _) ?_
  rintro e w' ⟨rfl, rfl⟩
  go_wp2_with fail
  go_ret
  exact ⟨rfl, rfl⟩
theorem itoa1_any {i : Int} (h0 : 0 ≤ i) (h1 : i < 8) (w : World) : Calls Tryd.prog 33 #[.int .i64 i] w fun e w' => e = .returned (.string ⟨#[dg i]⟩) ∧ w = w' := by
  have C := Lib.hid fun w => fmt_any h0 h1 w
  generalize dg i = x at *
  go_enter Tryd.func33, Tryd.ntmps33
  go_wp2_with fail
  with_reducible refine Calls.mono (C.out _) ?_
  rintro e w' ⟨rfl, rfl⟩
  go_wp2_with fail
  go_ret
  exact ⟨rfl, rfl⟩
theorem itoa_any {i : Int} (h0 : 0 ≤ i) (h1 : i < 8) (w : World) : Calls Tryd.prog 30 #[.int .i64 i] w fun e w' => e = .returned (.string ⟨#[dg i]⟩) ∧ w = w' := by
  have C := Lib.hid fun w => itoa1_any h0 h1 w
  generalize dg i = x at *
  go_enter Tryd.func30, Tryd.ntmps30
  go_wp2_with fail
  with_reducible refine Calls.mono (C.out _) ?_
  rintro e w' ⟨rfl, rfl⟩
  go_wp2_with fail
  go_ret
  exact ⟨rfl, rfl⟩
/-- A name as a value. -/
def nmv (t : Int × Int × Int) : Value := .string ⟨(nm t).toArray⟩
theorem ba2 (x : UInt8) : (⟨#[104]⟩ : ByteArray) ++ ⟨#[x]⟩ = ⟨#[104, x]⟩ := by rfl
theorem ba5 (p x h y : UInt8) : ((⟨#[p]⟩ : ByteArray) ++ ⟨#[x]⟩) ++ ⟨#[45, h]⟩ ++ ⟨#[y]⟩ = ⟨#[p, x, 45, h, y]⟩ := by rfl
theorem name_of {p : Value} {x g a c : Int} (hg : g = 0 ∨ g = 1 ∨ g = 2 ∨ g = 3 ∨ g = 4) (a0 : 0 ≤ a) (a1 : a < 8) (c0 : 0 ≤ c) (c1 : c < 8)
    (CW : Hid (Calls Tryd.prog 23 #[p, .int .i64 x] w fun e w' => e = .returned (wv (g, a, c)) ∧ Kept (fun _ => False) w w')) :
    Calls Tryd.prog 12 #[p, .int .i64 x] w fun e w' => e = .returned (nmv (g, a, c)) ∧ Kept (fun _ => False) w w' := by
  have IA := Lib.hid fun w => itoa_any a0 a1 w
  have IC := Lib.hid fun w => itoa_any c0 c1 w
  unfold wv at CW
  dsimp only at CW
  have hn : nmv (g, a, c) = .string (if g = 1 then ⟨#[104, dg a]⟩ else if g = 2 then ⟨#[108, dg a, 45, 104, dg c]⟩ else if g = 3 then ⟨#[108, dg a, 45, 115, dg c]⟩ else if g = 4 then ⟨#[115, dg a, 45, 108, dg c]⟩ else ⟨#[]⟩) := by
    unfold nmv nm
    dsimp only
    repeat' split
    all_goals rfl
  rw [hn]
  clear hn
  generalize dg a = da at *
  generalize dg c = dc at *
  rcases hg with rfl | rfl | rfl | rfl | rfl
  all_goals
    go_enter Tryd.func12, Tryd.ntmps12
    go_wp2_with fail
    with_reducible refine Calls.mono CW.out ?_
    rintro e w2 ⟨rfl, hK⟩
    go_upto_region 2 with fail
  · have hO := Blk.new w2 [.int .i64 0, .int .i64 a, .int .i64 c] tW
    have hk2 := (Kept.refl (fun _ => False) w2).alloc (.cells [.int .i64 0, .int .i64 a, .int .i64 c].toArray tW)
    dsimp only [List.toArray] at hO hk2
    have HK := Lib.hid (hK.trans hk2)
    generalize w2.alloc (.cells #[.int .i64 0, .int .i64 a, .int .i64 c] tW) = w3 at *
    generalize w2.heap.size = ob at *
    have o0 := hO.cell (o := 0) rfl
    have o1 := hO.cell (o := 1) rfl
    have o2 := hO.cell (o := 2) rfl
    clear hO hk2 hK CW
    go_quiet (first | (go_at_call 30; exact Calls.quiet_of_same ((IA.out _).mono fun _ _ ⟨e1, e2⟩ => ⟨e1, e2.symm⟩)) | (go_at_call 30; exact Calls.quiet_of_same ((IC.out _).mono fun _ _ ⟨e1, e2⟩ => ⟨e1, e2.symm⟩)))
    go_wp2_with fail
    go_ret
    exact ⟨by first | rfl | (congr 1), HK.out.drewN _⟩
  · have hO := Blk.new w2 [.int .i64 1, .int .i64 a, .int .i64 c] tW
    have hk2 := (Kept.refl (fun _ => False) w2).alloc (.cells [.int .i64 1, .int .i64 a, .int .i64 c].toArray tW)
    dsimp only [List.toArray] at hO hk2
    have HK := Lib.hid (hK.trans hk2)
    generalize w2.alloc (.cells #[.int .i64 1, .int .i64 a, .int .i64 c] tW) = w3 at *
    generalize w2.heap.size = ob at *
    have o0 := hO.cell (o := 0) rfl
    have o1 := hO.cell (o := 1) rfl
    have o2 := hO.cell (o := 2) rfl
    clear hO hk2 hK CW
    go_quiet (first | (go_at_call 30; exact Calls.quiet_of_same ((IA.out _).mono fun _ _ ⟨e1, e2⟩ => ⟨e1, e2.symm⟩)) | (go_at_call 30; exact Calls.quiet_of_same ((IC.out _).mono fun _ _ ⟨e1, e2⟩ => ⟨e1, e2.symm⟩)))
    go_wp2_with fail
    go_ret
    exact ⟨by first | rfl | (congr 1), HK.out.drewN _⟩
  · have hO := Blk.new w2 [.int .i64 2, .int .i64 a, .int .i64 c] tW
    have hk2 := (Kept.refl (fun _ => False) w2).alloc (.cells [.int .i64 2, .int .i64 a, .int .i64 c].toArray tW)
    dsimp only [List.toArray] at hO hk2
    have HK := Lib.hid (hK.trans hk2)
    generalize w2.alloc (.cells #[.int .i64 2, .int .i64 a, .int .i64 c] tW) = w3 at *
    generalize w2.heap.size = ob at *
    have o0 := hO.cell (o := 0) rfl
    have o1 := hO.cell (o := 1) rfl
    have o2 := hO.cell (o := 2) rfl
    clear hO hk2 hK CW
    go_quiet (first | (go_at_call 30; exact Calls.quiet_of_same ((IA.out _).mono fun _ _ ⟨e1, e2⟩ => ⟨e1, e2.symm⟩)) | (go_at_call 30; exact Calls.quiet_of_same ((IC.out _).mono fun _ _ ⟨e1, e2⟩ => ⟨e1, e2.symm⟩)))
    go_wp2_with fail
    go_ret
    exact ⟨by first | rfl | (congr 1), HK.out.drewN _⟩
  · have hO := Blk.new w2 [.int .i64 3, .int .i64 a, .int .i64 c] tW
    have hk2 := (Kept.refl (fun _ => False) w2).alloc (.cells [.int .i64 3, .int .i64 a, .int .i64 c].toArray tW)
    dsimp only [List.toArray] at hO hk2
    have HK := Lib.hid (hK.trans hk2)
    generalize w2.alloc (.cells #[.int .i64 3, .int .i64 a, .int .i64 c] tW) = w3 at *
    generalize w2.heap.size = ob at *
    have o0 := hO.cell (o := 0) rfl
    have o1 := hO.cell (o := 1) rfl
    have o2 := hO.cell (o := 2) rfl
    clear hO hk2 hK CW
    go_quiet (first | (go_at_call 30; exact Calls.quiet_of_same ((IA.out _).mono fun _ _ ⟨e1, e2⟩ => ⟨e1, e2.symm⟩)) | (go_at_call 30; exact Calls.quiet_of_same ((IC.out _).mono fun _ _ ⟨e1, e2⟩ => ⟨e1, e2.symm⟩)))
    go_wp2_with fail
    go_ret
    exact ⟨by first | rfl | (congr 1), HK.out.drewN _⟩
  · have hO := Blk.new w2 [.int .i64 4, .int .i64 a, .int .i64 c] tW
    have hk2 := (Kept.refl (fun _ => False) w2).alloc (.cells [.int .i64 4, .int .i64 a, .int .i64 c].toArray tW)
    dsimp only [List.toArray] at hO hk2
    have HK := Lib.hid (hK.trans hk2)
    generalize w2.alloc (.cells #[.int .i64 4, .int .i64 a, .int .i64 c] tW) = w3 at *
    generalize w2.heap.size = ob at *
    have o0 := hO.cell (o := 0) rfl
    have o1 := hO.cell (o := 1) rfl
    have o2 := hO.cell (o := 2) rfl
    clear hO hk2 hK CW
    go_quiet (first | (go_at_call 30; exact Calls.quiet_of_same ((IA.out _).mono fun _ _ ⟨e1, e2⟩ => ⟨e1, e2.symm⟩)) | (go_at_call 30; exact Calls.quiet_of_same ((IC.out _).mono fun _ _ ⟨e1, e2⟩ => ⟨e1, e2.symm⟩)))
    go_wp2_with fail
    go_ret
    exact ⟨by first | rfl | (congr 1), HK.out.drewN _⟩
theorem name_any (hB : NV w b H S) (n : Net H S) (x : Int) : Calls Tryd.prog 12 #[ptr b, .int .i64 x] w fun e w' => e = .returned (nmv (kd H S x)) ∧ Kept (fun _ => False) w w' := by
  have C := way_any hB n x
  have hin := kd_in n x
  generalize kd H S x = t at *
  obtain ⟨g, a, c⟩ := t
  dsimp only at hin
  exact name_of (by omega) (by omega) (by omega) (by omega) (by omega) (Lib.hid C)
theorem name_nil (x : Int) (w : World) : Calls Tryd.prog 12 #[.pointer none, .int .i64 x] w fun e w' => e = .returned (nmv (0, 0, 0)) ∧ Kept (fun _ => False) w w' :=
  name_of (Or.inl rfl) (by omega) (by omega) (by omega) (by omega) (Lib.hid (way_nil x w))
end Go.Proofs.YtoieogembfdmfaaDoor.Tp
