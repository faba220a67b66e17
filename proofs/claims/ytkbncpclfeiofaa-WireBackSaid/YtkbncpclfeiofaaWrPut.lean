/- Frames: numbers written as bytes, both ways. Conditions: each theorem's own. -/
import Derived.Test.YtkbncpclfeiofaaByt
import Derived.Test.YtkbncpclfeiofaaWr
set_option linter.unusedVariables false
namespace Go.Proofs.Ytkbncpclfeiofaa.Wr
open Go.RowKit Hp WrM Byt
attribute [local go_sem ↓] Go.wp_at_zero Go.wp_at_succ
/-- A byte in a block of its own. -/
theorem src_one {w : World} {g : Nat} {x : UInt8} (h : Blk w g [bv x] 5) : Byt.Src w (.slice (some ⟨g, 0, none⟩) 1 1) [x] :=
  ⟨_, 1, rfl, by simp, Or.inr ⟨g, 0, rfl, h.lt, fun j hj => by
    obtain rfl : j = 0 := by simp at hj; omega
    exact h.cell rfl⟩, fun e => by cases e⟩
theorem apd_refl {w : World} {b : Nat} {v : Value} {l : List UInt8} (h : Byt.Row w b v l) : Byt.Apd w b v l v w := ⟨h, Kept.refl _ w, fun g hg => Or.inl hg⟩
theorem apd_trans {w w1 w2 : World} {b : Nat} {v v1 v2 : Value} {l1 l2 : List UInt8} (h1 : Byt.Apd w b v l1 v1 w1) (h2 : Byt.Apd w1 b v1 l2 v2 w2) : Byt.Apd w b v l2 v2 w2 := by
  refine ⟨h2.row, h1.kept.trans' h2.kept (fun i hi e => ?_), fun g hg => ?_⟩
  · rcases h1.lies i e with e | e
    · exact e
    · omega
  · rcases h2.lies g hg with e | e
    · exact h1.lies g e
    · exact Or.inr (Nat.le_trans h1.kept.size e)
theorem apd_more {w w1 : World} {b : Nat} {v v1 : Value} {l1 : List UInt8} (h1 : Byt.Apd w b v l1 v1 w1) (o : Obj) : Byt.Apd w b v l1 v1 (w1.alloc o) :=
  ⟨h1.row.kept ((Kept.refl (fun _ => False) w1).alloc o) (fun _ _ f => f), h1.kept.trans' ((Kept.refl (fun _ => False) w1).alloc o) (fun _ _ f => f.elim), h1.lies⟩
theorem byte_at (n q : Nat) : ((n : Int) / 2 ^ (8 * q) % 256) = ((UInt8.ofNat (n / 256 ^ q)).toNat : Int) := by
  rw [UInt8.toNat_ofNat', show (2 : Nat) ^ 8 = 256 from rfl]
  have : (2 : Int) ^ (8 * q) = ((256 ^ q : Nat) : Int) := by rw [Int.pow_mul]; simp
  rw [this]
  omega
/-- What a put leaves. -/
def PutP (w : World) (b : Nat) (v : Value) (l : List UInt8) (e : Ending) (w' : World) : Prop := ∃ v', e = .returned v' ∧ Byt.Apd w b v l v' w'
set_option maxHeartbeats 2000000 in
set_option maxRecDepth 100000 in
theorem put_any {w : World} {b : Nat} {v : Value} {l : List UInt8} (h : Byt.Row w b v l) (hb : b ≤ w.heap.size) (n k : Nat) (hn : n < 18446744073709551616) (hk : k ≤ 8) (hs : l.length ≤ 1000000) :
    Calls Try.prog 24 #[v, .int .u64 n, .int .i64 k] w (PutP w b v (l ++ be n k)) := by
  have h0 := Lib.hid (apd_refl h)
  clear h
  have HB := Lib.hid hb
  clear hb
  go_enter Try.func24, Try.ntmps24
  go_wp2_with fail
  go_loopg [0, 7] k (fun mm s0 s7 wr => ∃ (j : Nat) (L : List UInt8), Hid (mm = j) ∧ j ≤ k ∧ s7 = .int .i64 ((j : Int) - 1) ∧ Hid (L ++ be n j = l ++ be n k) ∧ Hid (L.length ≤ 1000000 + (k - j)) ∧ Hid (Byt.Apd w b v L s0 wr))
  case atStart => exact ⟨k, l, rfl, Nat.le_refl _, rfl, rfl, by show _ ≤ _; omega, h0⟩
  case round =>
    obtain ⟨j, L, hm, hj, rfl, hL, hl, hA⟩ := hrel
    cases j with
    | zero =>
      go_wp2_with fail
      go_ret
      refine ⟨_, rfl, ?_⟩
      have := hL.out
      rw [← this, be, List.append_nil]
      exact hA.out
    | succ q =>
      rw [show ((q + 1 : Nat) : Int) - 1 = (q : Int) by omega]
      obtain ⟨s1, c1, rfl, hc1⟩ := hA.out.row.slice
      have hq8 : q ≤ 7 := by omega
      go_upto_region 4 with fail
      have hS : Byt.Src (wr.alloc (.cells #[.int .u8 ((n : Int) / 2 ^ (8 * q) % 256)] 5)) (.slice (some ⟨wr.heap.size, 0, none⟩) 1 1) [UInt8.ofNat (n / 256 ^ q)] := by
        rw [byte_at]
        exact src_one (Blk.new wr [bv (UInt8.ofNat (n / 256 ^ q))] _)
      have HS := Lib.hid hS
      have HR := Lib.hid (apd_more hA.out (.cells #[.int .u8 ((n : Int) / 2 ^ (8 * q) % 256)] 5))
      have hll := hl.out
      have hsz : b ≤ (wr.alloc (.cells #[.int .u8 ((n : Int) / 2 ^ (8 * q) % 256)] 5)).heap.size := Nat.le_trans HB.out HR.out.kept.size
      have HSZ := Lib.hid hsz
      have HLL := Lib.hid hll
      clear hS hA hll hsz
      go_wp2_with (at_builtin; refine Byt.wpList_app rfl _ _ rfl b (v := .slice s1 L.length c1) rfl HR.out.row rfl HS.out (by have := HLL.out; simp; omega) HSZ.out ?_; intro v' w7 hA)
      have hA2 := apd_trans HR.out hA
      have HA2 := Lib.hid hA2
      clear hA hA2
      go_wp2_with fail
      go_roundg q
      case measure => have := hm.out; omega
      case rel => exact ⟨q, L ++ [UInt8.ofNat (n / 256 ^ q)], rfl, by omega, by go_num, by rw [List.append_assoc]; exact hL.out, Lib.hid (by have := HLL.out; simp; omega), HA2⟩
set_option maxHeartbeats 2000000 in
set_option maxRecDepth 100000 in
theorem putR_any {w : World} {b : Nat} {v : Value} {l : List UInt8} (h : Byt.Row w b v l) (hb : b ≤ w.heap.size) (n k : Nat) (hn : n < 18446744073709551616) (hk : k ≤ 8) (hs : l.length ≤ 1000000) :
    Calls Try.prog 26 #[v, .int .u64 n, .int .i64 k] w (PutP w b v (l ++ be n k)) := by
  have h0 := Lib.hid (apd_refl h)
  clear h
  have HB := Lib.hid hb
  clear hb
  go_enter Try.func26, Try.ntmps26
  go_wp2_with fail
  go_loopg [0, 7] k (fun mm s0 s7 wr => ∃ (j : Nat) (L : List UInt8), Hid (mm = j) ∧ j ≤ k ∧ s7 = .int .i64 ((j : Int) - 1) ∧ Hid (L ++ be n j = l ++ be n k) ∧ Hid (L.length ≤ 1000000 + (k - j)) ∧ Hid (Byt.Apd w b v L s0 wr))
  case atStart => exact ⟨k, l, rfl, Nat.le_refl _, rfl, rfl, by show _ ≤ _; omega, h0⟩
  case round =>
    obtain ⟨j, L, hm, hj, rfl, hL, hl, hA⟩ := hrel
    cases j with
    | zero =>
      go_wp2_with fail
      go_ret
      refine ⟨_, rfl, ?_⟩
      have := hL.out
      rw [← this, be, List.append_nil]
      exact hA.out
    | succ q =>
      rw [show ((q + 1 : Nat) : Int) - 1 = (q : Int) by omega]
      obtain ⟨s1, c1, rfl, hc1⟩ := hA.out.row.slice
      have hq8 : q ≤ 7 := by omega
      go_upto_region 4 with fail
      have hS : Byt.Src (wr.alloc (.cells #[.int .u8 ((n : Int) / 2 ^ (8 * q) % 256)] 5)) (.slice (some ⟨wr.heap.size, 0, none⟩) 1 1) [UInt8.ofNat (n / 256 ^ q)] := by
        rw [byte_at]
        exact src_one (Blk.new wr [bv (UInt8.ofNat (n / 256 ^ q))] _)
      have HS := Lib.hid hS
      have HR := Lib.hid (apd_more hA.out (.cells #[.int .u8 ((n : Int) / 2 ^ (8 * q) % 256)] 5))
      have hll := hl.out
      have hsz : b ≤ (wr.alloc (.cells #[.int .u8 ((n : Int) / 2 ^ (8 * q) % 256)] 5)).heap.size := Nat.le_trans HB.out HR.out.kept.size
      have HSZ := Lib.hid hsz
      have HLL := Lib.hid hll
      clear hS hA hll hsz
      go_wp2_with (at_builtin; refine Byt.wpList_app rfl _ _ rfl b (v := .slice s1 L.length c1) rfl HR.out.row rfl HS.out (by have := HLL.out; simp; omega) HSZ.out ?_; intro v' w7 hA)
      have hA2 := apd_trans HR.out hA
      have HA2 := Lib.hid hA2
      clear hA hA2
      go_wp2_with fail
      go_roundg q
      case measure => have := hm.out; omega
      case rel => exact ⟨q, L ++ [UInt8.ofNat (n / 256 ^ q)], rfl, by omega, by go_num, by rw [List.append_assoc]; exact hL.out, Lib.hid (by have := HLL.out; simp; omega), HA2⟩
end Go.Proofs.Ytkbncpclfeiofaa.Wr
