/- Frames: the reader. Conditions: each theorem's own. -/
import Derived.Test.YtkbncpclfeiofaaWrSum
import Derived.Laws.Rows
import Derived.Laws.ResultCell
set_option linter.unusedVariables false
namespace Go.Proofs.Ytkbncpclfeiofaa.Wr
open Go.RowKit Hp WrM Byt
attribute [local go_sem ↓] Go.wp_at_zero Go.wp_at_succ
/-- A reader: what is left, whether it was too short. -/
def RdV (w : World) (rb : Nat) (l : List UInt8) (b : Bool) : Prop :=
  ∃ s c, Blk w rb [.slice s l.length c, .bool b] 58 ∧ Byt.Src w (.slice s l.length c) l ∧ c ≤ 9223372036854775807 ∧ ∀ a, s = some a → l ≠ [] → a.block < rb
theorem RdV.kept {w w' : World} {F : Nat → Prop} {rb : Nat} {l : List UInt8} {b : Bool} (h : RdV w rb l b) (k : Kept F w w') (hF : ∀ i, F i → rb < i) : RdV w' rb l b := by
  obtain ⟨s, c, hB, hS, hc, hne⟩ := h
  refine ⟨s, c, k.blk hB (fun f => Nat.lt_irrefl _ (hF _ f)), ?_, hc, hne⟩
  obtain ⟨s', c', e, hcc, h, hn⟩ := hS
  cases e
  refine ⟨_, _, rfl, hcc, ?_, hn⟩
  by_cases h0 : l = []
  · exact Or.inl h0
  rcases h with h | ⟨b, q, rfl, hb, hcell⟩
  · exact Or.inl h
  · exact Or.inr ⟨b, q, rfl, Nat.lt_of_lt_of_le hb k.size, fun j hj => (keptAt k hb (fun f => by have := hF _ f; have h2 : b < rb := hne _ rfl h0; omega) _).trans (hcell j hj)⟩
theorem RdV.lt {w : World} {rb : Nat} {l : List UInt8} {b : Bool} (h : RdV w rb l b) : rb < w.heap.size := by
  obtain ⟨s, c, hB, _⟩ := h
  exact hB.lt
theorem src_set {w : World} {s : Option Addr} {n c rb o : Nat} {l : List UInt8} {u : Value} (h : Byt.Src w (.slice s n c) l) (hs : ∀ a, s = some a → l ≠ [] → a.block ≠ rb) : Byt.Src (w.setCell ⟨rb, o, none⟩ u) (.slice s n c) l := by
  obtain ⟨s', c', e, hc, h, hn⟩ := h
  cases e
  refine ⟨_, _, rfl, hc, ?_, hn⟩
  by_cases h0 : l = []
  · exact Or.inl h0
  rcases h with h | ⟨b, q, rfl, hb, hcell⟩
  · exact Or.inl h
  · have hne : rb ≠ b := fun e => hs _ rfl h0 e.symm
    refine Or.inr ⟨b, q, rfl, by simpa using hb, fun j hj => ?_⟩
    rw [World.cell?_setCell_far _ _ _ _ (by exact hne)]
    exact hcell j hj
/-- What is left behind a part. -/
theorem src_rest {w : World} {b o c k n : Nat} {l : List UInt8} (h : Byt.Src w (.slice (some ⟨b, o, none⟩) n c) l) (hn : n = l.length) (hk : k ≤ l.length) :
    Byt.Src w (.slice (some ⟨b, o + k, none⟩) (n - k) (c - k)) (l.drop k) := by
  subst hn
  obtain ⟨s', c', e, hc, h, _⟩ := h
  cases e
  have hl : (l.drop k).length = l.length - k := by simp
  refine ⟨_, _, by rw [hl], by rw [hl]; omega, ?_, fun e => by cases e⟩
  rcases h with rfl | ⟨b', q, e, hb, hcell⟩
  · left; simp
  · cases e
    right
    refine ⟨_, _, rfl, hb, fun j hj => ?_⟩
    rw [hl] at hj
    rw [Nat.add_assoc, hcell (k + j) (by omega)]
    simp
theorem src_none {w : World} {a : Addr} {c : Nat} {l : List UInt8} (hl : l = []) : Byt.Src w (.slice (some a) 0 c) l := by
  subst hl
  exact ⟨_, _, rfl, Nat.zero_le _, Or.inl rfl, fun e => by cases e⟩
/-- Ten cells stored, one behind the other. -/
def set10 (w : World) (g : Nat) (v0 v1 v2 v3 v4 v5 v6 v7 v8 v9 : Value) : World := ((((((((((w.setCell ⟨g, 0, none⟩ v0).setCell ⟨g, 1, none⟩ v1).setCell ⟨g, 2, none⟩ v2).setCell ⟨g, 3, none⟩ v3).setCell ⟨g, 4, none⟩ v4).setCell ⟨g, 5, none⟩ v5).setCell ⟨g, 6, none⟩ v6).setCell ⟨g, 7, none⟩ v7).setCell ⟨g, 8, none⟩ v8).setCell ⟨g, 9, none⟩ v9)
theorem blk10 {w : World} {g : Nat} {T : TypeId} {c0 c1 c2 c3 c4 c5 c6 c7 c8 c9 : Value} (h : Blk w g [c0, c1, c2, c3, c4, c5, c6, c7, c8, c9] T) (v0 v1 v2 v3 v4 v5 v6 v7 v8 v9 : Value) : Blk (set10 w g v0 v1 v2 v3 v4 v5 v6 v7 v8 v9) g [v0, v1, v2, v3, v4, v5, v6, v7, v8, v9] T := ((((((((((h.set 0 v0).set 1 v1).set 2 v2).set 3 v3).set 4 v4).set 5 v5).set 6 v6).set 7 v7).set 8 v8).set 9 v9)
theorem kept10 (w : World) (g : Nat) (v0 v1 v2 v3 v4 v5 v6 v7 v8 v9 : Value) : Kept (fun q => q = g) w (set10 w g v0 v1 v2 v3 v4 v5 v6 v7 v8 v9) := ((((((((((((((((((((Kept.refl (fun q => q = g) w).set (b := g) (fun _ => rfl) 0 v0)).set (b := g) (fun _ => rfl) 1 v1)).set (b := g) (fun _ => rfl) 2 v2)).set (b := g) (fun _ => rfl) 3 v3)).set (b := g) (fun _ => rfl) 4 v4)).set (b := g) (fun _ => rfl) 5 v5)).set (b := g) (fun _ => rfl) 6 v6)).set (b := g) (fun _ => rfl) 7 v7)).set (b := g) (fun _ => rfl) 8 v8)).set (b := g) (fun _ => rfl) 9 v9)
/-- A result that lies in a cell. -/
theorem results_frame {fn : Func} {p : Tmp} (h : fn.results = #[.cell p 25]) (tmps : Array Value) (w : World) (g : Nat) {c0 c1 c2 c3 c4 c5 c6 c7 c8 c9 : Value}
    (hp : tmps.getD p undef = .pointer (some ⟨g, 0, none⟩)) (hB : Blk w g [c0, c1, c2, c3, c4, c5, c6, c7, c8, c9] 25) : (results fn tmps).run Try.prog w = .ok (.agg #[c0, c1, c2, c3, c4, c5, c6, c7, c8, c9]) w :=
  results_cell_row h tmps w g 25 _ _ _ hp hB Try.underlying25 rfl (by kernel_rfl)
theorem results_frame2 {fn : Func} {p u : Tmp} (h : fn.results = #[.cell p 25, .tmp u]) (tmps : Array Value) (w : World) (g : Nat) {c0 c1 c2 c3 c4 c5 c6 c7 c8 c9 : Value}
    (hp : tmps.getD p undef = .pointer (some ⟨g, 0, none⟩)) (hB : Blk w g [c0, c1, c2, c3, c4, c5, c6, c7, c8, c9] 25) : (results fn tmps).run Try.prog w = .ok (.tuple #[.agg #[c0, c1, c2, c3, c4, c5, c6, c7, c8, c9], tmps.getD u undef]) w := by
  rw [results_cell_tmp h, hp]
  simp only [asAddr, Sem.run_pure, Result.andThen_ok]
  rw [run_loadVar_row w g 25 25 _ _ _ hB Try.underlying25 rfl (by kernel_rfl)]
  rfl
def tkN (l : List UInt8) (k : Nat) : Nat := if k ≤ l.length then val (l.take k) else 0
def tkL (l : List UInt8) (k : Nat) : List UInt8 := if k ≤ l.length then l.drop k else l
def tkS (l : List UInt8) (k : Nat) (b : Bool) : Bool := if k ≤ l.length then b else true
/-- What a take leaves. -/
def TakeP (w : World) (rb : Nat) (l : List UInt8) (k : Nat) (b : Bool) (e : Ending) (w' : World) : Prop :=
  e = .returned (.int .u64 (tkN l k : Nat)) ∧ RdV w' rb (tkL l k) (tkS l k b) ∧ Kept (fun q => q = rb) w w'
set_option maxHeartbeats 2000000 in
set_option maxRecDepth 100000 in
theorem take_short {w : World} {rb : Nat} {l : List UInt8} {b : Bool} (h : RdV w rb l b) {k : Nat} (hk : k ≤ 8) (hs : ¬ k ≤ l.length) :
    Calls Try.prog 36 #[.pointer (some ⟨rb, 0, none⟩), .int .i64 k] w (TakeP w rb l k b) := by
  unfold TakeP tkN tkL tkS
  rw [if_neg hs, if_neg hs, if_neg hs]
  obtain ⟨s, c, hB, hS, hc, hne⟩ := h
  have HB := Lib.hid hB
  have HS := Lib.hid hS
  have HNE := Lib.hid hne
  have d0 := hB.cell (o := 0) rfl
  have f1 := hB.frozen 1
  have d1 := hB.cell (o := 1) rfl
  have hlt : (l.length : Int) < (k : Int) := by omega
  have hlt2 : l.length < k := by omega
  clear hB hS hne hs
  go_enter Try.func36, Try.ntmps36
  go_wp2_with fail
  go_ret
  exact ⟨rfl, ⟨s, c, HB.out.set 1 (.bool true), src_set HS.out (fun a e h => Nat.ne_of_lt (HNE.out a e h)), hc, HNE.out⟩, Kept.one w rb 1 _⟩
set_option maxHeartbeats 4000000 in
set_option maxRecDepth 100000 in
theorem take_long {w : World} {rb : Nat} {l : List UInt8} {b : Bool} (h : RdV w rb l b) {k : Nat} (h1 : 1 ≤ k) (hk : k ≤ 8) (hs : k ≤ l.length) :
    Calls Try.prog 36 #[.pointer (some ⟨rb, 0, none⟩), .int .i64 k] w (TakeP w rb l k b) := by
  unfold TakeP tkN tkL tkS
  rw [if_pos hs, if_pos hs, if_pos hs]
  obtain ⟨s, c, hB, hS, hc, hne⟩ := h
  obtain ⟨g, o, rfl, hg, hlc, hcell⟩ := src_addr hS (by omega)
  have HB := Lib.hid hB
  have HS := Lib.hid hS
  have HNE := Lib.hid (hne _ rfl (fun e => by rw [e] at hs; simp at hs; omega))
  have HC := Lib.hid hcell
  have d0 := hB.cell (o := 0) rfl
  have f0 := hB.frozen 0
  have hlt : ¬ (l.length : Int) < (k : Int) := by omega
  have hlt2 : ¬ l.length < k := by omega
  have hkc : k ≤ c := by omega
  have z1 : (0 : Int) ≤ (k : Int) := by omega
  have z2 : (k : Int) ≤ (c : Int) := by omega
  have z3 : (k : Int) ≤ (l.length : Int) := by omega
  clear hB hS hne hcell
  go_enter Try.func36, Try.ntmps36
  go_wp2_with fail
  go_loopg [5, 25] k (fun mm s5 s25 wr => ∃ (i : Nat), Hid (mm = k - i) ∧ i ≤ k ∧ s25 = .int .i64 (i : Int) ∧ s5 = .int .u64 (val (l.take i) : Nat) ∧ w = wr)
  case atStart => exact ⟨0, rfl, Nat.zero_le _, rfl, rfl, rfl⟩
  case round =>
    obtain ⟨i, hm, hi, rfl, rfl, rfl⟩ := hrel
    by_cases hit : i < k
    · have hli : i < l.length := by omega
      have c0 := HC.out i hli
      have hx := l[i].toNat_lt
      have VS := Lib.hid (val_step hli)
      have OR := Lib.hid (or_byte (val_small (l := l) (show i < 8 by omega)) hx)
      generalize l[i].toNat = x at *
      generalize hy : val (l.take i) = y at *
      go_wp2_with fail
      go_roundg (k - (i + 1))
      case measure => have := hm.out; omega
      case rel => exact ⟨i + 1, rfl, by omega, by go_num, by rw [VS.out, OR.out], rfl⟩
    · obtain rfl : i = k := by omega
      have hl2 : (l.drop i).length = l.length - i := by simp
      have HL2 := Lib.hid hl2
      clear hl2
      by_cases hci : c = i
      · have hi2 : i = l.length := by omega
        have HI2 := Lib.hid hi2
        have HCI := Lib.hid hci
        subst hci
        clear hi2
        go_wp2_with fail
        go_ret
        have e0 : l.length - c = 0 := by have := HI2.out; omega
        have hB := HB.out.set 0 (.slice (some ⟨g, o, none⟩) 0 0)
        refine ⟨rfl, ⟨some ⟨g, o, none⟩, 0, by rw [HL2.out, e0]; exact hB, src_set (by rw [HL2.out, e0]; exact src_none (List.eq_nil_of_length_eq_zero (by rw [HL2.out, e0]))) (fun a e _ => by cases e; exact Nat.ne_of_lt HNE.out), by omega, fun a e _ => by cases e; exact HNE.out⟩, Kept.one w rb 0 _⟩
      · go_wp2_with fail
        go_ret
        refine ⟨rfl, ⟨_, _, by rw [HL2.out]; exact HB.out.set 0 _, src_set ?_ (fun a e _ => by cases e; exact Nat.ne_of_lt HNE.out), by omega, fun a e _ => by cases e; exact HNE.out⟩, Kept.one w rb 0 _⟩
        rw [HL2.out]
        exact src_rest HS.out rfl (by omega)
theorem take_any {w : World} {rb : Nat} {l : List UInt8} {b : Bool} (h : RdV w rb l b) {k : Nat} (h1 : 1 ≤ k) (hk : k ≤ 8) :
    Calls Try.prog 36 #[.pointer (some ⟨rb, 0, none⟩), .int .i64 k] w (TakeP w rb l k b) := by
  by_cases hs : k ≤ l.length
  · exact take_long h h1 hk hs
  · exact take_short h hk hs
end Go.Proofs.Ytkbncpclfeiofaa.Wr
