/- A ring in memory: all are told. Conditions: each theorem's own. -/
import Derived.Test.YtiffnlcpemfmoaaPqTake
set_option linter.unusedVariables false
namespace Go.Proofs.Ytiffnlcpemfmoaa.Qu
open Go.RowKit Hp QuM QuN Rw
attribute [local go_sem ↓] Go.wp_at_zero Go.wp_at_succ
/-- What stands there, without what it counts. -/
abbrev bx (x : It) : Bx := x.1
set_option maxRecDepth 100000 in
set_option maxHeartbeats 8000000 in
theorem list_any {w : World} {b o : Nat} {c : List Value} {T : TypeId} {v : Value} {f : Nat} {L : List It} (hB : Blk w b c T) (c0 : c[o]? = some v) (c1 : c[o + 1]? = some (.int .i64 (f : Nat))) (c2 : c[o + 2]? = some (.int .i64 (L.length : Nat))) (hR : RingV w v f L) (hl : L.length ≤ 100000) :
    Calls Try.prog 36 #[.pointer (some ⟨b, o, none⟩)] w fun e w' => ∃ v', e = .returned v' ∧ Row bT w' w.heap.size v' (L.map bx) ∧ Kept (fun _ => False) w w' := by
  have PL := Lib.hid fun (w' : World) (hk : Kept (fun _ => False) w w') (g : Nat) (P : List It) (e : v = .slice (some ⟨g, 0, none⟩) P.length P.length) (hp : Pow P.length) (hf : f < P.length) (k : Nat) (hk2 : k < P.length) =>
    place_any (w := w') (b := b) (o := o) (g := g) (f := f) (n := P.length) (k := k) (K := (k : Nat)) ((hk.blk hB (fun f => f)).cell (by rw [c0, e])) ((hk.blk hB (fun f => f)).cell c1) hp hf hk2 rfl
  have HB := Lib.hid hB
  have HR := Lib.hid hR
  have C2 := Lib.hid c2
  have q2 := hB.cell c2
  clear hB hR c0 c1 c2
  obtain ⟨ln, hln⟩ : ∃ ln, L.length = ln := ⟨_, rfl⟩
  have HLN := Lib.hid hln
  rw [hln] at q2 hl
  clear hln
  go_enter Try.func36, Try.ntmps36
  go_upto_region 2 with (first | ((with_reducible refine wpList_make bT rfl _ _ rfl (ln : Int) ln rfl rfl rfl (by omega) ?_); intro w1 hr1 hk1))
  have HR1 := Lib.hid hr1
  have HK1 := Lib.hid hk1
  have q2 := (hk1.blk HB.out (fun f => f)).cell C2.out
  rw [HLN.out] at q2
  clear hr1 hk1
  go_wp2_with fail
  obtain ⟨v0, hv0⟩ : ∃ v0, Value.slice (some ⟨w.heap.size, 0, none⟩) 0 ln = v0 := ⟨_, rfl⟩
  rw [hv0] at HR1 ⊢
  clear hv0
  go_loopg [3, 14] ln (fun mm s3 s14 wr => ∃ (i : Nat), Hid (ln - i ≤ mm) ∧ i ≤ ln ∧ s14 = .int .i64 ((i : Nat) : Int) ∧ Hid (Row bT wr w.heap.size s3 ((L.take i).map bx)) ∧ Hid (Kept (fun _ => False) w wr))
  case atStart => exact ⟨0, Lib.hid (by omega), Nat.zero_le _, rfl, by rw [List.take_zero]; exact HR1, HK1⟩
  case round =>
    obtain ⟨i, hmm, hi, rfl, hRr, hkl⟩ := hrel
    rcases Nat.lt_or_ge i ln with hlt | hge
    · obtain ⟨x, hx⟩ : ∃ x, L[i]? = some x := ⟨L[i]'(by rw [HLN.out]; exact hlt), List.getElem?_eq_getElem _⟩
      obtain ⟨g, P, hvP, hblk, hpow, hring⟩ : ∃ g P, v = .slice (some ⟨g, 0, none⟩) P.length P.length ∧ Blk w g (flat iT P) iT.E ∧ Pow P.length ∧ Ring P f L := by
        have h := HR.out
        cases h with
        | nil => simp at hx
        | lies g P f L blk pow four ring => exact ⟨g, P, rfl, blk, pow, ring⟩
      have hat := hring.at' i x hx
      have X := Lib.hid (PL.out wr hkl.out g P hvP hpow hring.f0 i (by have := hring.le; have := HLN.out; omega))
      have hst : (L.take (i + 1)).map bx = (L.take i).map bx ++ [bx x] := by rw [List.take_add_one, hx, List.map_append]; rfl
      have HST := Lib.hid hst
      have HAT := Lib.hid hat
      have HBK := Lib.hid hblk
      have hlen : ((L.take i).map bx).length = i := by rw [List.length_map, List.length_take, HLN.out]; omega
      have HL := Lib.hid hlen
      clear hx hat hvP hpow hring hblk hst hlen
      generalize (f + i) % P.length = p at *
      go_wp2_with fail
      with_reducible refine Calls.mono X.out ?_
      rintro e w3 ⟨rfl, hk3⟩
      have hk03 := hkl.out.trans hk3
      obtain ⟨d0, d1, d2, d3, d4, d5, d6, d7, d8, d9, d10, d11⟩ := it_cells (hk03.blk HBK.out (fun f => f)) HAT.out
      have HK03 := Lib.hid hk03
      have HR3 := Lib.hid (hRr.out.old hk3)
      have hBs := Blk.new w3 [.int .i64 x.1.f.kind, .int .i64 x.1.f.src, .int .i64 x.1.f.dst, .int .i64 x.1.f.prio, .int .u64 (x.1.f.msg : Int), .int .i64 x.1.f.off, .int .i64 x.1.f.len, .int .i64 x.1.f.total, .int .i64 x.1.f.num, .slice x.1.s x.1.f.data.length x.1.c, .int .i64 x.1.q] bT.E
      have hks : Kept (fun _ => False) w3 (w3.alloc (.cells [.int .i64 x.1.f.kind, .int .i64 x.1.f.src, .int .i64 x.1.f.dst, .int .i64 x.1.f.prio, .int .u64 (x.1.f.msg : Int), .int .i64 x.1.f.off, .int .i64 x.1.f.len, .int .i64 x.1.f.total, .int .i64 x.1.f.num, .slice x.1.s x.1.f.data.length x.1.c, .int .i64 x.1.q].toArray bT.E)) := (Kept.refl _ w3).alloc _
      have HBS := Lib.hid hBs
      have HKS := Lib.hid hks
      dsimp only [List.toArray] at HBS HKS
      clear hk3 hk03 hBs hks X
      obtain ⟨⟨⟨x1, x2, x3, x4, x5, x6, x7, x8, x9, xd⟩, xa, xc, xq⟩, xz⟩ := x
      go_wp2_with (refine wpList_app bT rfl _ _ rfl w.heap.size rfl (HR3.out.old HKS.out) rfl (src_blk 1 (K := [(⟨⟨x1, x2, x3, x4, x5, x6, x7, x8, x9, xd⟩, xa, xc, xq⟩ : Bx)]) HBS.out) (by rw [HL.out, List.length_singleton]; omega) (Nat.le_trans (HK03.out.trans HKS.out).size (Nat.le_refl _)) ?_; rintro v5 w5 hA)
      have HR5 : Hid (Row bT w5 w.heap.size v5 ((L.take (i + 1)).map bx)) := Lib.hid (by rw [HST.out]; exact hA.row)
      have HK5 : Hid (Kept (fun _ => False) w w5) := Lib.hid ((HK03.out.trans HKS.out).trans' hA.kept (fun j hj e => by have := (HR3.out.lt j e).1; omega))
      clear hA HBS HKS HR3 HK03 hkl hRr d0 d1 d2 d3 d4 d5 d6 d7 d8 d9 d10 d11
      go_wp2_with fail
      go_roundg (ln - (i + 1))
      case measure => have := hmm.out; omega
      case rel => exact ⟨i + 1, Lib.hid (Nat.le_refl _), by omega, by go_num, HR5, HK5⟩
    · have hge' : ¬ ((i : Int) < (ln : Int)) := by omega
      obtain rfl : i = ln := by omega
      have R : Hid (Row bT wr w.heap.size u3 (L.map bx)) := Lib.hid (by have := hRr.out; rw [← HLN.out, List.take_length] at this; exact this)
      clear hRr
      go_wp2_with fail
      go_ret
      exact ⟨_, rfl, R.out, hkl.out⟩
end Go.Proofs.Ytiffnlcpemfmoaa.Qu
