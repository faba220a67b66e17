/- The set of ranges: how many bytes are missing in runs that are touched. Conditions: each theorem's own. -/
import Derived.Test.YtfkcplapmkpkbaaIvTch
set_option linter.unusedVariables false
namespace Go.Proofs.Ytfkcplapmkpkbaa.Iv
open Go.RowKit Hp IvM IvR IvN
attribute [local go_sem ↓] Go.wp_at_zero Go.wp_at_succ
/-- A part of a row, to be read. -/
def Part (w : World) (s : Option Addr) (J : List Rg) : Prop :=
  J = [] ∨ ∃ g o, s = some ⟨g, o, none⟩ ∧ g < w.heap.size ∧ ∀ i, i < J.length → w.cell? ⟨g, o + i * 2, none⟩ = some (.int .i64 (J.getD i (0, 0)).1) ∧ w.cell? ⟨g, o + i * 2 + 1, none⟩ = some (.int .i64 (J.getD i (0, 0)).2)
theorem keptCell {F : Nat → Prop} {w w' : World} (h : Kept F w w') {k : Nat} (hk : k < w.heap.size) (hF : ¬ F k) (o : Nat) : w'.cell? ⟨k, o, none⟩ = w.cell? ⟨k, o, none⟩ := by
  simp [World.cell?, h.block k hk hF]
theorem lap_snoc (f t : Int) : ∀ (J : List Rg) (k : Nat) (h : k < J.length), lap f t (J.take (k + 1)) = lap f t (J.take k) + (min t (J.getD k (0, 0)).2 - max f (J.getD k (0, 0)).1)
  | p :: J, 0, h => by simp [lap]
  | p :: J, k + 1, h => by
    have := lap_snoc f t J k (by simpa using h)
    rw [List.take_succ_cons, List.take_succ_cons, lap, lap, this]
    simp only [List.getD_cons_succ]
    omega
theorem lap_bd {f t : Int} (h0 : 0 ≤ f) (h1 : f ≤ 1073741824) (h2 : 0 ≤ t) (h3 : t ≤ 1073741824) : ∀ (J : List Rg), (∀ p ∈ J, 0 ≤ p.1 ∧ p.1 < p.2 ∧ p.2 ≤ 1073741824) → -(1073741824 * (J.length : Int)) ≤ lap f t J ∧ lap f t J ≤ 1073741824 * (J.length : Int)
  | [], _ => by simp [lap]
  | p :: J, h => by
    have := lap_bd h0 h1 h2 h3 J (fun q hq => h q (by simp [hq]))
    have := h p (by simp)
    rw [lap, List.length_cons]
    omega
set_option maxHeartbeats 8000000 in
set_option maxRecDepth 100000 in
theorem missing_any {w : World} {s : Option Addr} {cap : Nat} {J : List Rg} (hP : Part w s J) {f t : Int} (hJ : ∀ p ∈ J, 0 ≤ p.1 ∧ p.1 < p.2 ∧ p.2 ≤ 1073741824) (h0 : 0 ≤ f) (h1 : f ≤ 1073741824) (h2 : 0 ≤ t) (h3 : t ≤ 1073741824) (hsm : J.length ≤ 900000) :
    Calls Try.prog 28 #[.slice s J.length cap, .int .i64 f, .int .i64 t] w fun e w' => e = .returned (.int .i64 ((t - f) - lap f t J)) ∧ Kept (fun _ => False) w w' := by
  have HJ := Lib.hid hJ
  have HP := Lib.hid hP
  clear hJ hP
  go_enter Try.func28, Try.ntmps28
  go_wp2_with fail
  go_loopg [7, 15] J.length (fun m s7 s15 wr => ∃ (i : Nat) (z : Int), Hid (m = J.length - i) ∧ i ≤ J.length ∧ s15 = .int .i64 ((i : Nat) : Int) ∧ s7 = .int .i64 z ∧ Hid (z = (t - f) - lap f t (J.take i)) ∧ Kept (fun _ => False) w wr)
  case atStart => exact ⟨0, t - f, rfl, by omega, rfl, rfl, Lib.hid (by simp [lap]), Kept.refl _ w⟩
  case round =>
    obtain ⟨i, z, hm, hi, rfl, rfl, hz, hk⟩ := hrel
    by_cases hlt : i < J.length
    · have hp := HJ.out (J.getD i (0, 0)) (by rw [getD_at hlt]; exact List.getElem_mem hlt)
      have hsn := lap_snoc f t J i hlt
      have hb := lap_bd h0 h1 h2 h3 (J.take i) (fun q hq => HJ.out q (List.mem_of_mem_take hq))
      rw [List.length_take] at hb
      obtain ⟨g, o, rfl, hg, hc⟩ := HP.out.resolve_left (fun e => by rw [e] at hlt; simp at hlt)
      have c0 := (keptCell hk hg (fun f => f) _).trans (hc i hlt).1
      have c1 := (keptCell hk hg (fun f => f) _).trans (hc i hlt).2
      generalize J.getD i (0, 0) = p at *
      obtain ⟨a, b⟩ := p
      dsimp only at c0 c1 hp hsn
      obtain ⟨mn, hmn⟩ : ∃ m, m = min t b := ⟨_, rfl⟩
      obtain ⟨mx, hmx⟩ : ∃ m, m = max f a := ⟨_, rfl⟩
      rw [← hmn, ← hmx] at hsn
      have hz' := hz.out
      have z0 : -1000000000000000000 ≤ z := by omega
      have z1 : z ≤ 1000000000000000000 := by omega
      have x0 : 0 ≤ mn := by omega
      have x1 : mn ≤ 1073741824 := by omega
      have y0 : 0 ≤ mx := by omega
      have y1 : mx ≤ 1073741824 := by omega
      have HZ : Hid (z - (mn - mx) = (t - f) - lap f t (J.take (i + 1))) := Lib.hid (by omega)
      have HMN := Lib.hid (hmn.trans (min_if t b))
      have HMX := Lib.hid (hmx.trans (max_if f a))
      have u1 : IntKind.i64.wrap (mn - mx) = mn - mx := by rw [IntKind.wrap_i64]; omega
      have u2 : IntKind.i64.wrap (z - (mn - mx)) = z - (mn - mx) := by rw [IntKind.wrap_i64]; omega
      clear hsn hb hmn hmx hz' hp hc
      go_upto_region 5 with fail
      have hB : Blk (wr.alloc (.cells #[.int .i64 a, .int .i64 b] 59)) wr.heap.size [.int .i64 a, .int .i64 b] 59 := Blk.new wr _ _
      have hk1 : Kept (fun _ => False) w (wr.alloc (.cells #[.int .i64 a, .int .i64 b] 59)) := hk.alloc _
      generalize wr.alloc (.cells #[.int .i64 a, .int .i64 b] 59) = w1 at *
      generalize wr.heap.size = vb at *
      clear hk c0 c1
      have d0 := hB.cell (o := 0) rfl
      have d1 := hB.cell (o := 1) rfl
      have e0 : Kept (fun _ => False) w1 w1 := Kept.refl _ w1
      have KS := Lib.hid fun (w' : World) (k : Kept (fun _ => False) w1 w') => And.intro ((k.blk hB (fun f => f)).cell (o := 0) rfl) ((k.blk hB (fun f => f)).cell (o := 1) rfl)
      have E0 := Lib.hid e0
      clear e0
      go_region_held3 (fun w' => w'.cell? ⟨vb, 0, none⟩ = some (.int .i64 a) ∧ w'.cell? ⟨vb, 1, none⟩ = some (.int .i64 b)) ((refine KS.out _ ?_; repeat (first | exact E0.out | (with_reducible refine Kept.drew ?_) | (with_reducible refine Kept.alloc ?_ _))))
        (first | (go_at_call 29; refine Calls.mono (min1 _ _ _ _ _ HMN.out ?_) ?_; (simp); rintro e w' ⟨rfl, rfl⟩) | (go_at_call 30; refine Calls.mono (max1 _ _ _ _ _ HMX.out ?_) ?_; (simp); rintro e w' ⟨rfl, rfl⟩))
      all_goals
        go_wp2_with fail
        go_roundg (J.length - (i + 1))
        case measure => have := hm.out; omega
        case rel => exact ⟨i + 1, z - (mn - mx), rfl, by omega, by simp, rfl, HZ, hk1.trans (by repeat (first | exact E0.out | (with_reducible refine Kept.drew ?_) | (with_reducible refine Kept.alloc ?_ _)))⟩
    · obtain rfl : i = J.length := by omega
      go_wp2_with fail
      go_ret
      have hz' := hz.out
      rw [List.take_length] at hz'
      rw [← hz']
      exact ⟨rfl, hk⟩
end Go.Proofs.Ytfkcplapmkpkbaa.Iv
