/- Are steps looked at? Conditions: each theorem's own. -/
import Derived.Test.YtpogpibjkolioaaGreatFpK38
set_option linter.unusedVariables false
set_option linter.unusedSimpArgs false
namespace Go.Proofs.YtpogpibjkolioaaGreat.Fb
open Go.RowKit Hp QuM Rw Qu Po NumM NumC WrM Opn
attribute [local go_sem ↓] Go.wp_at_zero Go.wp_at_succ
theorem keptCell {F : Nat → Prop} {w w' : World} (h : Kept F w w') {k : Nat} (hk : k < w.heap.size) (hF : ¬ F k) (o : Nat) : w'.cell? ⟨k, o, none⟩ = w.cell? ⟨k, o, none⟩ := Byt.keptAt h hk hF o
set_option maxHeartbeats 4000000 in
theorem sum_30 (n x : Int) (g : Nat) (w : World) (hB : Blk w g [.int .i64 x, .int .i64 30] 3) (h0 : 0 ≤ n) (hn : n ≤ 4000) (hx : 0 ≤ x) (hx2 : x ≤ 9223372036854775807) :
  Calls Tryz.prog 22 #[.int .i64 n, .slice (some ⟨g, 0, none⟩) 2 2] w fun e w' => (∃ r : Int, e = .returned (.int .i64 r) ∧ 0 ≤ r ∧ (n + x + 30 ≤ 4000 → r = n + x + 30) ∧ (4000 < n + x + 30 → 4000 < r)) ∧ w = w' := by
 have c0 := hB.cell (o := 0) rfl
 have c1 := hB.cell (o := 1) rfl
 clear hB
 go_enter Tryz.func22, Tryz.ntmps22
 go_wp2_with fail
 go_loopg [0, 5] 2 (fun mm s0 s5 wr => w = wr ∧ ((Hid (mm = 2) ∧ s0 = .int .i64 n ∧ s5 = .int .i64 0) ∨ (Hid (mm = 1) ∧ s0 = .int .i64 (n + x) ∧ s5 = .int .i64 1 ∧ n + x ≤ 1099511627776) ∨ (Hid (mm = 0) ∧ s0 = .int .i64 (n + x + 30) ∧ s5 = .int .i64 2 ∧ n + x + 30 ≤ 1099511627776)))
 case atStart => exact ⟨rfl, Or.inl ⟨Lib.hid rfl, rfl, rfl⟩⟩
 case round =>
  obtain ⟨rfl, ⟨hm, rfl, rfl⟩ | ⟨hm, rfl, rfl, hs⟩ | ⟨hm, rfl, rfl, hs⟩⟩ := hrel
  ·have k1 : decide ((1099511627776 : Int) < n) = false := by rw [decide_eq_false_iff_not]; omega
   have k2 : IntKind.i64.wrap (1099511627776 - n) = 1099511627776 - n := by rw [IntKind.wrap_i64]; omega
   by_cases hb : 1099511627776 - n < x
   ·go_wp2_with fail
    go_ret
    exact ⟨⟨_, rfl, by omega, fun h => by omega, fun h => by omega⟩, rfl⟩
   ·have hb2 : decide (1099511627776 - n < x) = false := by rw [decide_eq_false_iff_not]; omega
    have k3 : IntKind.i64.wrap (n + x) = n + x := by rw [IntKind.wrap_i64]; omega
    go_wp2_with fail
    go_roundg 1
    case measure => have := hm.out; omega
    case rel => exact ⟨rfl, Or.inr (Or.inl ⟨Lib.hid rfl, by first | rfl | trivial, rfl, by omega⟩)⟩
  ·have k1 : decide ((1099511627776 : Int) < n + x) = false := by rw [decide_eq_false_iff_not]; omega
   have k2 : IntKind.i64.wrap (1099511627776 - (n + x)) = 1099511627776 - (n + x) := by rw [IntKind.wrap_i64]; omega
   by_cases hb : 1099511627776 - (n + x) < 30
   ·go_wp2_with fail
    go_ret
    exact ⟨⟨_, rfl, by omega, fun h => by omega, fun h => by omega⟩, rfl⟩
   ·have hb2 : decide (1099511627776 - (n + x) < 30) = false := by rw [decide_eq_false_iff_not]; omega
    have k3 : IntKind.i64.wrap (n + x + 30) = n + x + 30 := by rw [IntKind.wrap_i64]; omega
    go_wp2_with fail
    go_roundg 0
    case measure => have := hm.out; omega
    case rel => exact ⟨rfl, Or.inr (Or.inr ⟨Lib.hid rfl, by first | rfl | trivial, rfl, by omega⟩)⟩
  ·go_wp2_with fail
   go_ret
   exact ⟨⟨_, rfl, by omega, fun h => rfl, fun h => by omega⟩, rfl⟩
theorem st_cells {W : World} {s : Option Addr} {cap : Nat} {l : List (Int × Int × Bx)} (h : StIn W s cap l) {i : Nat} {kd ka : Int} {x1 x2 x3 x4 : Int} {x5 : Nat} {x6 x7 x8 x9 : Int} {xd : List UInt8} {xa : Option Addr} {xc : Nat} {xq : Int} (hi : l[i]? = some (kd, ka, ⟨⟨x1, x2, x3, x4, x5, x6, x7, x8, x9, xd⟩, xa, xc, xq⟩)) :
  ∃ b off, s = some ⟨b, off, none⟩ ∧ b < W.heap.size ∧ ∀ w', Kept (fun _ => False) W w' → w'.cell? ⟨b, off + i * 13, none⟩ = some (.int .i64 kd) ∧ w'.cell? ⟨b, off + i * 13 + 1, none⟩ = some (.int .i64 ka) ∧ w'.cell? ⟨b, off + i * 13 + 2, none⟩ = some (.int .i64 xq) ∧ w'.cell? ⟨b, off + i * 13 + 3, none⟩ = some (.int .i64 x1) ∧ w'.cell? ⟨b, off + i * 13 + 4, none⟩ = some (.int .i64 x2) ∧ w'.cell? ⟨b, off + i * 13 + 5, none⟩ = some (.int .i64 x3) ∧ w'.cell? ⟨b, off + i * 13 + 6, none⟩ = some (.int .i64 x4) ∧ w'.cell? ⟨b, off + i * 13 + 7, none⟩ = some (.int .u64 (x5 : Int)) ∧ w'.cell? ⟨b, off + i * 13 + 8, none⟩ = some (.int .i64 x6) ∧ w'.cell? ⟨b, off + i * 13 + 9, none⟩ = some (.int .i64 x7) ∧ w'.cell? ⟨b, off + i * 13 + 10, none⟩ = some (.int .i64 x8) ∧ w'.cell? ⟨b, off + i * 13 + 11, none⟩ = some (.int .i64 x9) ∧ w'.cell? ⟨b, off + i * 13 + 12, none⟩ = some (.slice xa xd.length xc) := by
 rcases h.2.2.2 with rfl | ⟨b, off, rfl, hb, hc⟩
 ·simp at hi
 ·refine ⟨b, off, rfl, hb, fun w' k => ?_⟩
  have c : ∀ (j : Nat) v, (scs (kd, ka, ⟨⟨x1, x2, x3, x4, x5, x6, x7, x8, x9, xd⟩, xa, xc, xq⟩))[j]? = some v → w'.cell? ⟨b, off + i * 13 + j, none⟩ = some v := fun j v hv => (keptCell k hb (fun f => f) _).trans (hc i _ hi j v hv)
  exact ⟨c 0 _ rfl, c 1 _ rfl, c 2 _ rfl, c 3 _ rfl, c 4 _ rfl, c 5 _ rfl, c 6 _ rfl, c 7 _ rfl, c 8 _ rfl, c 9 _ rfl, c 10 _ rfl, c 11 _ rfl, c 12 _ rfl⟩
def SmP (w : World) (l : List (Int × Int × Bx)) (e : Ending) (w' : World) : Prop := ∃ bb, e = .returned (.bool bb) ∧ Kept (fun _ => False) w w' ∧ (bb = true → l.length ≤ 134 ∧ ∀ z ∈ l, z.2.2.f.data.length ≤ 4000)
theorem mem_take_succ {l : List (Int × Int × Bx)} {i : Nat} {z y : Int × Int × Bx} (h : l[i]? = some z) (hy : y ∈ l.take (i + 1)) : y ∈ l.take i ∨ y = z := by
 rw [List.take_add_one, h] at hy
 rcases List.mem_append.1 hy with h | h
 ·exact Or.inl h
 ·exact Or.inr (by simpa using h)
set_option maxRecDepth 100000 in
set_option maxHeartbeats 8000000 in
theorem small_any {w : World} {s : Option Addr} {cap : Nat} {l : List (Int × Int × Bx)} (h : StIn w s cap l) :
  Calls Tryz.prog 4 #[.slice s l.length cap] w (SmP w l) := by
 have H := Lib.hid h
 obtain ⟨N, hN⟩ : ∃ N, l.length = N := ⟨_, rfl⟩
 have hN2 : N ≤ 9223372036854775807 := by have := h.1; have := h.2.1; omega
 have hNc : N ≤ cap := by have := h.1; omega
 have HN := Lib.hid hN
 rw [hN]
 clear h hN
 go_enter Tryz.func4, Tryz.ntmps4
 go_wp2_with fail
 go_loopg [3, 4] N (fun mm s3 s4 wr => ∃ (i : Nat) (n : Int), Hid (N - i ≤ mm) ∧ i ≤ N ∧ s4 = .int .i64 (i : Nat) ∧ s3 = .int .i64 n ∧ 0 ≤ n ∧ Hid (n ≤ 4000 → 30 * (i : Int) ≤ n ∧ ∀ z ∈ l.take i, z.2.2.f.data.length ≤ 4000) ∧ Hid (Kept (fun _ => False) w wr))
 case atStart => exact ⟨0, 0, Lib.hid (by omega), Nat.zero_le _, rfl, rfl, Int.le_refl _, Lib.hid (fun _ => ⟨by omega, fun z hz => by simp at hz⟩), Lib.hid (Kept.refl _ _)⟩
 case round =>
  obtain ⟨i, n, hmm, hi, rfl, rfl, hn0, hn, hkw⟩ := hrel
  rcases Nat.lt_or_ge i N with hlt | hge
  ·have hlt' : (i : Int) < (N : Int) := by omega
   by_cases hn3 : n ≤ 4000
   ·obtain ⟨⟨kd, ka, ⟨⟨x1, x2, x3, x4, x5, x6, x7, x8, x9, xd⟩, xa, xc, xq⟩⟩, hz⟩ : ∃ z, l[i]? = some z := ⟨_, List.getElem?_eq_getElem (by rw [HN.out]; exact hlt)⟩
    obtain ⟨b, off, rfl, hb, hc⟩ := st_cells H.out hz
    have HZ := Lib.hid hz
    have hsok := H.out.2.2.1 _ (List.mem_of_getElem? hz)
    have hxl : xd.length ≤ 9223372036854775807 := by
     have h1 := hsok.1.2
     obtain ⟨s, c, e, hle, _⟩ := hsok.1.1
     cases e
     show xd.length ≤ _
     have : xd.length ≤ xc := hle
     have h2 : xc ≤ 9223372036854775807 := h1
     omega
    obtain ⟨d0, d1, d2, d3, d4, d5, d6, d7, d8, d9, d10, d11, d12⟩ := hc _ hkw.out
    have hxn : (0 : Int) ≤ (xd.length : Int) := by omega
    clear hz hsok hc d0 d1 d2 d3 d4 d5 d6 d7 d8 d9 d10 d11
    obtain ⟨L, hL⟩ : ∃ L, xd.length = L := ⟨_, rfl⟩
    have HLL := Lib.hid hL
    rw [hL] at d12 hxl hxn
    clear hL
    go_wp2_with fail
    have hB := Blk.new wr [.int .i64 (L : Nat), .int .i64 30] 3
    have hk := (Kept.refl (fun _ => False) wr).alloc (.cells [.int .i64 (L : Nat), .int .i64 30].toArray 3)
    dsimp only [List.toArray] at hB hk
    have HK2 := Lib.hid (hkw.out.trans hk)
    have SM := sum_30 n (L : Nat) wr.heap.size _ hB hn0 hn3 hxn (by omega)
    generalize wr.alloc (.cells #[.int .i64 (L : Nat), .int .i64 30] 3) = w2 at *
    generalize wr.heap.size = ob at *
    with_reducible refine Calls.mono SM ?_
    rintro e w3 ⟨⟨r, rfl, hr0, hr1, hr2⟩, rfl⟩
    have NXT : Hid (r ≤ 4000 → 30 * ((i + 1 : Nat) : Int) ≤ r ∧ ∀ z ∈ l.take (i + 1), z.2.2.f.data.length ≤ 4000) := by
     refine Lib.hid fun hr => ?_
     have h1 : n + (L : Int) + 30 ≤ 4000 := by
      rcases Int.lt_or_le 4000 (n + (L : Int) + 30) with h | h
      ·have := hr2 h; omega
      ·exact h
     have h2 := hr1 h1
     obtain ⟨h3, h4⟩ := hn.out (by omega)
     refine ⟨by omega, fun z hz => ?_⟩
     rcases mem_take_succ HZ.out hz with h | rfl
     ·exact h4 z h
     ·show xd.length ≤ 4000
      rw [HLL.out]
      omega
    clear hr1 hr2 SM hB hk hkw d12 hxn hxl
    go_wp2_with fail
    go_roundg (N - (i + 1))
    case measure => have := hmm.out; omega
    case rel => exact ⟨i + 1, r, Lib.hid (Nat.le_refl _), by omega, by go_num, rfl, hr0, NXT, HK2⟩
   ·have hn4 : decide (n ≤ 4000) = false := decide_eq_false hn3
    clear hn3
    go_wp2_with fail
    go_ret
    exact ⟨_, rfl, hkw.out, fun h => by first | cases h | (rw [hn4] at h; cases h)⟩
  ·have hge' : ¬ ((i : Int) < (N : Int)) := by omega
   obtain rfl : i = N := by omega
   have RES : Hid (decide (n ≤ 4000) = true → l.length ≤ 134 ∧ ∀ z ∈ l, z.2.2.f.data.length ≤ 4000) := by
    refine Lib.hid fun h => ?_
    obtain ⟨h1, h2⟩ := hn.out (of_decide_eq_true h)
    have h3 : l.take i = l := by rw [← HN.out]; exact List.take_length
    rw [h3] at h2
    have h4 := of_decide_eq_true h
    exact ⟨by rw [HN.out]; omega, h2⟩
   go_wp2_with fail
   go_ret
   exact ⟨_, rfl, hkw.out, RES.out⟩
end Go.Proofs.YtpogpibjkolioaaGreat.Fb

