/- A queue in memory: At. Conditions: each theorem's own. -/
import Derived.Test.YtompbpiaapenaaaPoCp
set_option linter.unusedVariables false
namespace Go.Proofs.Ytompbpiaapenaaa.Po
open Go.RowKit Hp QuM QuN Rw Qu
attribute [local go_sem ↓] Go.wp_at_zero Go.wp_at_succ
theorem ring_at {w : World} {v : Value} {f : Nat} {L : List It} (h : RingV w v f L) {k : Nat} {x : It} (hx : L[k]? = some x) :
    ∃ g P, v = .slice (some ⟨g, 0, none⟩) P.length P.length ∧ Blk w g (flat iT P) iT.E ∧ Pow P.length ∧ Ring P f L := by
  cases h with
  | nil => simp at hx
  | lies g P f L blk pow four ring => exact ⟨g, P, rfl, blk, pow, ring⟩
set_option maxRecDepth 100000 in
set_option maxHeartbeats 8000000 in
theorem qat_any {w0 w : World} {b : Nat} {room : Int} {ls : Nat → List Bx} {F : Nat → Prop} (h : St w0 b room ls F w) {p k : Nat} {P K : Int} (hP : P = (p : Nat)) (hK : K = (k : Nat)) (hp : p < 8) {x : Bx} (hx : (ls p)[k]? = some x) (hl : (ls p).length ≤ 100000) :
    Calls Try.prog 84 #[.pointer (some ⟨b, 0, none⟩), .int .i64 P, .int .i64 K] w fun e w' => e = .returned (.tuple #[bv x, .bool true]) ∧ Kept (fun _ => False) w w' := by
  subst hP
  subst hK
  have hkl := (List.getElem?_eq_some_iff.1 hx).1
  obtain ⟨h0, hr0, c, vs, fs, h1, h2, h3, h4⟩ := id h
  have HY := Lib.hid fun (w' : World) (hk : Kept (fun _ => False) w w') => has_yes (p := (p : Nat)) (k := (k : Nat)) rfl hp ((hk.blk h1.blk (fun f => f)).cell (h1.cn p hp)) (by omega) (by omega)
  have hxi : ((ls p).map it)[k]? = some (it x) := by rw [List.getElem?_map, hx]; rfl
  obtain ⟨g, L, hv, hG, hpw, hring⟩ := ring_at (h1.ring p hp) hxi
  have hat := hring.at' k _ hxi
  have hkL : k < L.length := by have := hring.le; rw [List.length_map] at this; omega
  have PL := Lib.hid fun (w' : World) (hk : Kept (fun _ => False) w w') =>
    place_any (w := w') (b := b) (o := 2 + p * 3) (g := g) (f := fs p) (n := L.length) (k := k) (K := (k : Nat)) ((hk.blk h1.blk (fun f => f)).cell (by rw [h1.cv p hp, hv])) ((hk.blk h1.blk (fun f => f)).cell (h1.cf p hp)) hpw hring.f0 hkL rfl
  have HG := Lib.hid hG
  have HAT := Lib.hid hat
  have hp' : (p : Int) < 8 := by omega
  unfold it at HAT
  generalize szI (nb x) = z at *
  clear h0 hr0 h1 h2 h3 h4 hv hG hpw hring hat hkL hxi hx hkl h
  generalize (fs p + k) % L.length = r at *
  go_enter Try.func84, Try.ntmps84
  go_upto_region 1 with fail
  have hO := Blk.new w [.int .i64 0, .int .i64 0, .int .i64 0, .int .i64 0, .int .u64 0, .int .i64 0, .int .i64 0, .int .i64 0, .int .i64 0, .slice none 0 0, .int .i64 0] 40
  have hk1 := (Kept.refl (fun _ => False) w).alloc (.cells [.int .i64 0, .int .i64 0, .int .i64 0, .int .i64 0, .int .u64 0, .int .i64 0, .int .i64 0, .int .i64 0, .int .i64 0, .slice none 0 0, .int .i64 0].toArray 40)
  dsimp only [List.toArray] at hO hk1
  generalize w.alloc (.cells #[.int .i64 0, .int .i64 0, .int .i64 0, .int .i64 0, .int .u64 0, .int .i64 0, .int .i64 0, .int .i64 0, .int .i64 0, .slice none 0 0, .int .i64 0] 40) = w1 at *
  obtain ⟨rb, hrb⟩ : ∃ rb, w.heap.size = rb := ⟨_, rfl⟩
  rw [hrb] at hO
  simp only [hrb]
  have HRB := Lib.hid hrb
  have HO := Lib.hid hO
  have HK := Lib.hid hk1
  clear hrb hO hk1
  go_wp2_with fail
  with_reducible refine Calls.mono (HY.out _ HK.out) ?_
  rintro e w2 ⟨rfl, rfl⟩
  go_wp2_with fail
  with_reducible refine Calls.mono (PL.out _ HK.out) ?_
  rintro e w3 ⟨rfl, hk3⟩
  have hk03 := HK.out.trans hk3
  have hG3 := hk03.blk HG.out (fun f => f)
  have hO3 := hk3.blk HO.out (fun f => f)
  obtain ⟨d0, d1, d2, d3, d4, d5, d6, d7, d8, d9, d10, d11⟩ := it_cells hG3 HAT.out
  obtain ⟨⟨x1, x2, x3, x4, x5, x6, x7, x8, x9, xd⟩, xa, xc, xq⟩ := x
  have n0 := hO3.cell (o := 0) rfl
  have n1 := hO3.cell (o := 1) rfl
  have n2 := hO3.cell (o := 2) rfl
  have n3 := hO3.cell (o := 3) rfl
  have n4 := hO3.cell (o := 4) rfl
  have n5 := hO3.cell (o := 5) rfl
  have n6 := hO3.cell (o := 6) rfl
  have n7 := hO3.cell (o := 7) rfl
  have n8 := hO3.cell (o := 8) rfl
  have n9 := hO3.cell (o := 9) rfl
  have n10 := hO3.cell (o := 10) rfl
  have fz0 := hO3.frozen 0
  have fz1 := hO3.frozen 1
  have fz2 := hO3.frozen 2
  have fz3 := hO3.frozen 3
  have fz4 := hO3.frozen 4
  have fz5 := hO3.frozen 5
  have fz6 := hO3.frozen 6
  have fz7 := hO3.frozen 7
  have fz8 := hO3.frozen 8
  have fz9 := hO3.frozen 9
  have fz10 := hO3.frozen 10
  have hO6 := set11_blk hO3 rfl ⟨⟨x1, x2, x3, x4, x5, x6, x7, x8, x9, xd⟩, xa, xc, xq⟩
  have k6 := set11_kept w3 rb ⟨⟨x1, x2, x3, x4, x5, x6, x7, x8, x9, xd⟩, xa, xc, xq⟩
  have HK6 : Hid (Kept (fun _ => False) w (set11 w3 rb ⟨⟨x1, x2, x3, x4, x5, x6, x7, x8, x9, xd⟩, xa, xc, xq⟩)) := Lib.hid (hk03.trans' k6 (fun i hi e => by have := HRB.out; omega))
  unfold set11 at HK6 hO6
  dsimp only at HK6 hO6
  have z0 := hO6.cell (o := 0) rfl
  have z1 := hO6.cell (o := 1) rfl
  have z2 := hO6.cell (o := 2) rfl
  have z3 := hO6.cell (o := 3) rfl
  have z4 := hO6.cell (o := 4) rfl
  have z5 := hO6.cell (o := 5) rfl
  have z6 := hO6.cell (o := 6) rfl
  have z7 := hO6.cell (o := 7) rfl
  have z8 := hO6.cell (o := 8) rfl
  have z9 := hO6.cell (o := 9) rfl
  have z10 := hO6.cell (o := 10) rfl
  clear hO3 hO6 k6 hk03 hk3 hG3 HY PL HG HAT HO HK d11
  go_wp2_with fail
  exact bodyPost_ret (v := .tuple #[bv ⟨⟨x1, x2, x3, x4, x5, x6, x7, x8, x9, xd⟩, xa, xc, xq⟩, .bool true]) (by simp [results, Try.results84, go_sem, z0, z1, z2, z3, z4, z5, z6, z7, z8, z9, z10]) rfl ⟨rfl, HK6.out⟩
end Go.Proofs.Ytompbpiaapenaaa.Po
