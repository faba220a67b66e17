/- Frames: the sum of bytes, the number of bytes. Conditions: each theorem's own. -/
import Derived.Test.YtkbncpclfeiofaaByt
import Derived.Test.YtkbncpclfeiofaaWr
import Derived.Laws.Bits64b
set_option linter.unusedVariables false
namespace Go.Proofs.Ytkbncpclfeiofaa.Wr
open Go.RowKit Hp WrM Byt
attribute [local go_sem ↓] Go.wp_at_zero Go.wp_at_succ
theorem src_addr {w : World} {s : Option Addr} {c : Nat} {l : List UInt8} (h : Byt.Src w (.slice s l.length c) l) (h0 : 0 < l.length) :
    ∃ b o, s = some ⟨b, o, none⟩ ∧ b < w.heap.size ∧ l.length ≤ c ∧ ∀ j (hj : j < l.length), w.cell? ⟨b, o + j, none⟩ = some (.int .u8 (l[j].toNat : Int)) := by
  obtain ⟨s', c', e, hc, hs, _⟩ := h
  cases e
  obtain ⟨b, o, rfl, hb, hcell⟩ := hs.resolve_left (fun e => by rw [e] at h0; simp at h0)
  exact ⟨b, o, rfl, hb, hc, hcell⟩
/-- One byte more. -/
theorem or_byte {y x : Nat} (hy : y < 72057594037927936) (hx : x < 256) : bits BinOp.or IntKind.u64 (IntKind.u64.wrap ((y : Int) * 256)) (x : Int) = ((y * 256 + x : Nat) : Int) := by
  have e : IntKind.u64.wrap ((y : Int) * 256) = ((y * 256 : Nat) : Int) := by rw [IntKind.wrap_u64]; omega
  rw [e, bits_or_u64_nat _ _ (by omega) (by omega)]
  congr 1
  have := Nat.shiftLeft_add_eq_or_of_lt (show x < 2 ^ 8 by omega) y
  rw [Nat.shiftLeft_eq] at this
  exact this.symm
theorem val_step {l : List UInt8} {i : Nat} (hi : i < l.length) : val (l.take (i + 1)) = val (l.take i) * 256 + l[i].toNat := by
  rw [List.take_succ_eq_append_getElem hi, val_snoc]
theorem val_small {l : List UInt8} {i : Nat} (hi : i < 8) : val (l.take i) < 72057594037927936 := by
  have h1 := val_lt (l.take i)
  have h2 : (l.take i).length ≤ 7 := by rw [List.length_take]; omega
  have h3 := Nat.pow_le_pow_right (show 0 < 256 by omega) h2
  omega
theorem sum_step (l : List UInt8) (i : Nat) (hi : i < l.length) (h3 : i ≠ 3) : sumTo l (i + 1) = (sumTo l i + l[i].toNat) % 256 := by
  rw [sumTo, if_neg h3]
  congr 3
  simp [List.getD, List.getElem?_eq_getElem hi]
theorem sum_skip (l : List UInt8) : sumTo l (3 + 1) = sumTo l 3 := by
  have := sumTo_lt l 3
  rw [sumTo, if_pos rfl, Nat.add_zero, Nat.mod_eq_of_lt this]
set_option maxHeartbeats 2000000 in
set_option maxRecDepth 100000 in
theorem sum_any {w : World} {s : Option Addr} {c : Nat} {l : List UInt8} (h : Byt.Src w (.slice s l.length c) l) (hl : l.length ≤ 1000000) :
    Calls Try.prog 25 #[.slice s l.length c] w fun e w' => e = .returned (.int .u8 (sumTo l l.length : Nat)) ∧ w = w' := by
  have H := Lib.hid h
  obtain ⟨n, hn⟩ : ∃ n, l.length = n := ⟨_, rfl⟩
  have HN := Lib.hid hn
  have hnb : n ≤ 1000000 := by omega
  rw [hn]
  clear h hl hn
  go_enter Try.func25, Try.ntmps25
  go_wp2_with fail
  go_loopg [3, 8] n (fun mm s3 s8 wr => ∃ (i : Nat), Hid (mm = n - i) ∧ i ≤ n ∧ s8 = .int .i64 (i : Int) ∧ s3 = .int .u8 (sumTo l i : Nat) ∧ w = wr)
  case atStart => exact ⟨0, rfl, Nat.zero_le _, rfl, rfl, rfl⟩
  case round =>
    obtain ⟨i, hm, hi, rfl, rfl, rfl⟩ := hrel
    by_cases hlt : i < n
    · have hli : i < l.length := by rw [HN.out]; exact hlt
      obtain ⟨b, o, rfl, _, _, hc⟩ := src_addr H.out (by omega)
      have c0 := hc i hli
      by_cases h3 : i = 3
      · subst h3
        have SK := Lib.hid (sum_skip l)
        clear hc
        go_wp2_with fail
        go_roundg (n - (3 + 1))
        case measure => have := hm.out; omega
        case rel => exact ⟨3 + 1, rfl, by omega, by go_num, by rw [SK.out], rfl⟩
      · have ST := Lib.hid (sum_step l i hli h3)
        have h4 : ((i : Int) == 3) = false := by rw [beq_eq_false_iff_ne]; omega
        have h5 : (i == 3) = false := by rw [beq_eq_false_iff_ne]; omega
        have hlt2 := sumTo_lt l i
        have hx := l[i].toNat_lt
        clear hc
        generalize l[i].toNat = x at *
        generalize hy : sumTo l i = y at *
        go_wp2_with fail
        go_roundg (n - (i + 1))
        case measure => have := hm.out; omega
        case rel => exact ⟨i + 1, rfl, by omega, by go_num, by rw [ST.out]; simp, rfl⟩
    · obtain rfl : i = n := by omega
      go_wp2_with fail
      go_ret
      exact ⟨rfl, rfl⟩
set_option maxHeartbeats 2000000 in
set_option maxRecDepth 100000 in
theorem sumR_any {w : World} {s : Option Addr} {c : Nat} {l : List UInt8} (h : Byt.Src w (.slice s l.length c) l) (hl : l.length ≤ 1000000) (h26 : 26 ≤ l.length) :
    Calls Try.prog 27 #[.slice s l.length c] w fun e w' => e = .returned (.int .u8 (sumTo l 26 : Nat)) ∧ w = w' := by
  have H := Lib.hid h
  obtain ⟨n, hn⟩ : ∃ n, l.length = n := ⟨_, rfl⟩
  have HN := Lib.hid hn
  have hnb : n ≤ 1000000 := by omega
  have hn26 : 26 ≤ n := by omega
  rw [hn]
  clear h hl hn h26
  go_enter Try.func27, Try.ntmps27
  go_wp2_with fail
  go_loopg [3, 4] 26 (fun mm s3 s4 wr => ∃ (i : Nat), Hid (mm = 26 - i) ∧ i ≤ 26 ∧ s4 = .int .i64 (i : Int) ∧ s3 = .int .u8 (sumTo l i : Nat) ∧ w = wr)
  case atStart => exact ⟨0, rfl, Nat.zero_le _, rfl, rfl, rfl⟩
  case round =>
    obtain ⟨i, hm, hi, rfl, rfl, rfl⟩ := hrel
    by_cases hlt : i < 26
    · have hli : i < l.length := by rw [HN.out]; omega
      obtain ⟨b, o, rfl, _, _, hc⟩ := src_addr H.out (by omega)
      have c0 := hc i hli
      have hin : i < n := by omega
      by_cases h3 : i = 3
      · subst h3
        have SK := Lib.hid (sum_skip l)
        clear hc
        go_wp2_with fail
        go_roundg (26 - (3 + 1))
        case measure => have := hm.out; omega
        case rel => exact ⟨3 + 1, rfl, by omega, by go_num, by rw [SK.out], rfl⟩
      · have ST := Lib.hid (sum_step l i hli h3)
        have h4 : ((i : Int) != 3) = true := by rw [bne_iff_ne]; omega
        have hlt2 := sumTo_lt l i
        have hx := l[i].toNat_lt
        clear hc
        generalize l[i].toNat = x at *
        generalize hy : sumTo l i = y at *
        go_wp2_with fail
        go_roundg (26 - (i + 1))
        case measure => have := hm.out; omega
        case rel => exact ⟨i + 1, rfl, by omega, by go_num, by rw [ST.out]; simp, rfl⟩
    · obtain rfl : i = 26 := by omega
      go_wp2_with fail
      go_ret
      exact ⟨rfl, rfl⟩
set_option maxHeartbeats 2000000 in
set_option maxRecDepth 100000 in
theorem get_any {w : World} {s : Option Addr} {c : Nat} {l : List UInt8} (h : Byt.Src w (.slice s l.length c) l) (hl : l.length ≤ 8) :
    Calls Try.prog 33 #[.slice s l.length c] w fun e w' => e = .returned (.int .u64 (val l : Nat)) ∧ w = w' := by
  have H := Lib.hid h
  obtain ⟨n, hn⟩ : ∃ n, l.length = n := ⟨_, rfl⟩
  have HN := Lib.hid hn
  have hnb : n ≤ 8 := by omega
  rw [hn]
  clear h hl hn
  go_enter Try.func33, Try.ntmps33
  go_wp2_with fail
  go_loopg [3, 4] n (fun mm s3 s4 wr => ∃ (i : Nat), Hid (mm = n - i) ∧ i ≤ n ∧ s4 = .int .i64 (i : Int) ∧ s3 = .int .u64 (val (l.take i) : Nat) ∧ w = wr)
  case atStart => exact ⟨0, rfl, Nat.zero_le _, rfl, rfl, rfl⟩
  case round =>
    obtain ⟨i, hm, hi, rfl, rfl, rfl⟩ := hrel
    by_cases hlt : i < n
    · have hli : i < l.length := by rw [HN.out]; exact hlt
      obtain ⟨b, o, rfl, _, _, hc⟩ := src_addr H.out (by omega)
      have c0 := hc i hli
      have hx := l[i].toNat_lt
      have VS := Lib.hid (val_step hli)
      have OR := Lib.hid (or_byte (val_small (l := l) (show i < 8 by omega)) hx)
      clear hc
      generalize l[i].toNat = x at *
      generalize hy : val (l.take i) = y at *
      go_wp2_with fail
      go_roundg (n - (i + 1))
      case measure => have := hm.out; omega
      case rel => exact ⟨i + 1, rfl, by omega, by go_num, by rw [VS.out, OR.out], rfl⟩
    · obtain rfl : i = n := by omega
      go_wp2_with fail
      go_ret
      have := HN.out
      rw [List.take_of_length_le (by omega)]
      exact ⟨rfl, rfl⟩
end Go.Proofs.Ytkbncpclfeiofaa.Wr
