/- A port by its number: way, Next. Conditions: each theorem's own. -/
import Derived.Test.YtoieogembfdmfaaDoorTp
set_option linter.unusedVariables false
namespace Go.Proofs.YtoieogembfdmfaaDoor.Tp
open Go.RowKit Hp TpM
attribute [local go_sem ↓] Go.wp_at_zero Go.wp_at_succ
abbrev tW : TypeId := 47
/-- A way as a value. -/
def wv (t : Int × Int × Int) : Value := .agg #[.int .i64 t.1, .int .i64 t.2.1, .int .i64 t.2.2]
variable {w : World} {b : Nat} {H S : Int}
theorem set3 {w : World} {r : Nat} {a b c : Value} (hO : Blk w r [a, b, c] tW) (x y z : Value) :
    Blk (((w.setCell ⟨r, 0, none⟩ x).setCell ⟨r, 1, none⟩ y).setCell ⟨r, 2, none⟩ z) r [x, y, z] tW := ((hO.set 0 x).set 1 y).set 2 z
theorem kept3 {w0 w : World} {r : Nat} (hk : Kept (fun _ => False) w0 w) (hr : w0.heap.size = r) (x y z : Value) :
    Kept (fun _ => False) w0 (((w.setCell ⟨r, 0, none⟩ x).setCell ⟨r, 1, none⟩ y).setCell ⟨r, 2, none⟩ z) :=
  ((hk.set (b := r) (fun h => by omega) _ _).set (b := r) (fun h => by omega) _ _).set (b := r) (fun h => by omega) _ _
theorem way_none {p : Value} {x : Int} (h : (x < 0) ∨ ∃ P : Int, ¬ x < 0 ∧ P ≤ x ∧ Hid (∀ w', Kept (fun _ => False) w w' → Calls Tryd.prog 14 #[p] w' fun e w'' => e = .returned (.int .i64 P) ∧ ∃ m, w'' = w'.drewN m)) :
    Calls Tryd.prog 23 #[p, .int .i64 x] w fun e w' => e = .returned (wv (0, 0, 0)) ∧ Kept (fun _ => False) w w' := by
  go_enter Tryd.func23, Tryd.ntmps23
  go_upto_region 1 with fail
  have hO := Blk.new w [.int .i64 0, .int .i64 0, .int .i64 0] tW
  have hk := (Kept.refl (fun _ => False) w).alloc (.cells [.int .i64 0, .int .i64 0, .int .i64 0].toArray tW)
  dsimp only [List.toArray] at hO hk
  generalize w.alloc (.cells #[.int .i64 0, .int .i64 0, .int .i64 0] tW) = w1 at *
  obtain ⟨rb, hrb⟩ : ∃ rb, w.heap.size = rb := ⟨_, rfl⟩
  rw [hrb] at hO
  simp only [hrb]
  have HR := Lib.hid hrb
  clear hrb
  have f0 := hO.frozen 0
  have f1 := hO.frozen 1
  have f2 := hO.frozen 2
  have q0 := hO.cell (o := 0) rfl
  have q1 := hO.cell (o := 1) rfl
  have q2 := hO.cell (o := 2) rfl
  have hO2 := set3 hO (.int .i64 0) (.int .i64 0) (.int .i64 0)
  have HK := Lib.hid (kept3 hk HR.out (.int .i64 0) (.int .i64 0) (.int .i64 0))
  have HK1 := Lib.hid hk
  have HO := Lib.hid hO
  have z0 := hO2.cell (o := 0) rfl
  have z1 := hO2.cell (o := 1) rfl
  have z2 := hO2.cell (o := 2) rfl
  clear hO hO2 hk
  rcases h with h | ⟨P, h, h2, C⟩
  · go_wp2_with fail
    exact bodyPost_ret (v := wv (0, 0, 0)) (by simp [results, Tryd.results23, go_sem, z0, z1, z2, wv]) rfl ⟨rfl, HK.out⟩
  · go_wp2_with fail
    with_reducible refine Calls.mono (C.out _ HK1.out) ?_
    rintro e w2 ⟨rfl, m, rfl⟩
    have y0 := (set3 (HO.out.drewN m) (.int .i64 0) (.int .i64 0) (.int .i64 0)).cell (o := 0) rfl
    have y1 := (set3 (HO.out.drewN m) (.int .i64 0) (.int .i64 0) (.int .i64 0)).cell (o := 1) rfl
    have y2 := (set3 (HO.out.drewN m) (.int .i64 0) (.int .i64 0) (.int .i64 0)).cell (o := 2) rfl
    have HK2 := Lib.hid (kept3 (HK1.out.drewN m) HR.out (.int .i64 0) (.int .i64 0) (.int .i64 0))
    go_wp2_with fail
    exact bodyPost_ret (v := wv (0, 0, 0)) (by simp [results, Tryd.results23, go_sem, y0, y1, y2, wv]) rfl ⟨rfl, HK2.out⟩
theorem way_nil (x : Int) (w : World) : Calls Tryd.prog 23 #[.pointer none, .int .i64 x] w fun e w' => e = .returned (wv (0, 0, 0)) ∧ Kept (fun _ => False) w w' := by
  refine way_none ?_
  by_cases h : x < 0
  · exact Or.inl h
  · exact Or.inr ⟨0, h, by omega, Lib.hid fun w' _ => (ports_nil w').mono fun e w'' ⟨h1, h2⟩ => ⟨h1, 0, h2 ▸ rfl⟩⟩
end Go.Proofs.YtoieogembfdmfaaDoor.Tp
