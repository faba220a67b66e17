/- CreditLoss' things beside each other: the counter, the numbers, which came back. Conditions: each theorem's own. -/
import Derived.Test.YtaflhkhfkifefaaCrLoss
import Derived.Test.YtaflhkhfkifefaaEnd
import Derived.Test.YtaflhkhfkifefaaRo
set_option linter.unusedVariables false
namespace Go.Proofs.Ytaflhkhfkifefaa.Cr
open Go.RowKit Hp Km Go.Proofs.Ytaflhkhfkifefaa.End
/-- One number's cell. -/
@[reducible] def nT : Rw.Ty Int where
  E := 3
  L := 41
  k := 1
  bz := 8
  enc := fun x => [.int .i64 x]
  z := .int .i64 0
  hL := Try.underlying41
  hI := by kernel_rfl
  hz := rfl
  hk := fun x => rfl
  h1 := fun x v hv => by
    simp only [List.mem_cons, List.not_mem_nil, or_false] at hv
    subst hv; rfl
  k0 := by decide
  hb := by decide
theorem row_cell {w : World} {a : Option Addr} {n c : Nat} {zs : List Int} (h : Ro.Row nT w (.slice a n c) zs) {k : Nat} {x : Int} (hx : zs[k]? = some x) : ∃ g o, a = some ⟨g, o, none⟩ ∧ w.cell? ⟨g, o + k, none⟩ = some (.int .i64 x) := by
  rcases h with ⟨_, rfl⟩ | ⟨g, o, cap, cur, e, h2⟩
  · simp at hx
  · refine ⟨g, o, (Value.slice.inj e).1, ?_⟩
    have := h2.cell hx (j := 0) (u := .int .i64 x) rfl
    rwa [Nat.add_zero, Nat.mul_one] at this
theorem src_one {w : World} {g : Nat} {x : Int} {cap : Nat} (h : Blk w g [.int .i64 x] 3) : Rw.Src nT w (.slice (some ⟨g, 0, none⟩) 1 cap) [x] := Rw.src_blk (t := nT) (K := [x]) cap h
theorem infoB : (Try.prog.info? 4).map (fun i => (i.zero, i.size, i.bytes)) = some (some (.bool false), 1, 1) := by kernel_rfl
/-- make([]bool, n). -/
theorem madeB (N : Nat) (hN : N ≤ 1000) (w : World) : (Instr.makeSlice 46 (.int .i64 (N : Int)) (.int .i64 (N : Int))).run Try.prog w = .ok (.slice (some ⟨w.heap.size, 0, none⟩) N N) (w.alloc (.cells ((List.replicate N false).map Value.bool).toArray 4)) := by
  obtain ⟨ti, hti, hz0, hz1, hz2⟩ := info_parts infoB
  have := run_make (P := Try.prog) (w := w) 46 4 ti (.bool false) Try.underlying46 hti hz0 .i64 .i64 (N : Int) (N : Int) (by omega) (by omega) (by rw [hz2]; omega) (by omega)
  rw [Int.toNat_natCast, hz1, Nat.mul_one] at this
  rw [this]
  have e : madeCells (Value.bool false).cells N = ((List.replicate N false).map Value.bool).toArray := by
    apply Array.toList_inj.1
    have := toList_madeCells_one (.bool false) N
    rw [show (Value.bool false).cells = #[.bool false] from rfl, this]
    simp
  rw [e]
def keys (l : List Int) : List Int := l.foldl ins []
theorem keys_snoc (l : List Int) (x : Int) : keys (l ++ [x]) = ins (keys l) x := by unfold keys; rw [List.foldl_append]; rfl
theorem nodup_snoc {l : List Int} {x : Int} (h : l.Nodup) (hx : x ∉ l) : (l ++ [x]).Nodup := by
  rw [List.nodup_append]
  refine ⟨h, by simp, fun a ha b hb => ?_⟩
  simp only [List.mem_cons, List.not_mem_nil, or_false] at hb
  subst hb
  exact fun e => hx (e ▸ ha)
theorem not_mem_take {l : List Int} (h : l.Nodup) {n : Nat} (hn : n < l.length) : l[n] ∉ l.take n := by
  intro hm
  obtain ⟨k, hk, e⟩ := List.getElem_of_mem hm
  rw [List.length_take] at hk
  rw [List.getElem_take] at e
  have := (List.getElem_inj h).1 e
  omega
theorem keys_nodup {l : List Int} (h : l.Nodup) : keys l = l := by
  have : ∀ n, n ≤ l.length → keys (l.take n) = l.take n := by
    intro n
    induction n with
    | zero => intro _; rfl
    | succ n ih =>
      intro hn
      rw [List.take_succ_eq_append_getElem (show n < l.length by omega), keys_snoc, ih (by omega), ins, if_neg (not_mem_take h (by omega))]
  have := this l.length (Nat.le_refl _)
  rwa [List.take_length] at this
/-- Which came back, and which numbers did not yet. -/
structure Inv (S : List Int) (bs : List Bool) (M : List Int) (u : Nat) : Prop where
  nd : S.Nodup
  len : bs.length = S.length
  mnd : M.Nodup
  mem : ∀ x, x ∈ M ↔ ∃ k : Nat, S[k]? = some x ∧ bs[k]? = some false
  cnt : u + M.length = S.length
theorem Inv.start {S : List Int} (h : S.Nodup) : Inv S (List.replicate S.length false) S 0 := by
  refine ⟨h, by simp, h, fun x => ?_, by omega⟩
  rw [List.mem_iff_getElem?]
  constructor
  · rintro ⟨k, hk⟩
    refine ⟨k, hk, ?_⟩
    have := (List.getElem?_eq_some_iff.1 hk).1
    rw [List.getElem?_replicate, if_pos this]
  · rintro ⟨k, hk, _⟩
    exact ⟨k, hk⟩
/-- The place of a number that did not come back, or the end. -/
theorem Inv.place {S : List Int} {bs : List Bool} {M : List Int} {u : Nat} (h : Inv S bs M u) (x : Int) :
    ∃ p, p ≤ S.length ∧ (∀ k, k < S.length → ((S[k]? = some x ∧ bs[k]? = some false) ↔ k = p)) ∧ (p < S.length ↔ x ∈ M) := by
  by_cases hx : x ∈ M
  · obtain ⟨p, h1, h2⟩ := (h.mem x).1 hx
    have hp := (List.getElem?_eq_some_iff.1 h1).1
    refine ⟨p, by omega, fun k hk => ⟨fun ⟨e, _⟩ => ?_, fun e => e ▸ ⟨h1, h2⟩⟩, ⟨fun _ => hx, fun _ => hp⟩⟩
    obtain ⟨_, e1⟩ := List.getElem?_eq_some_iff.1 h1
    obtain ⟨_, e2⟩ := List.getElem?_eq_some_iff.1 e
    exact (List.getElem_inj h.nd).1 (e2.trans e1.symm)
  · refine ⟨S.length, Nat.le_refl _, fun k hk => ⟨fun e => absurd ((h.mem x).2 ⟨k, e⟩) hx, fun e => by omega⟩, ⟨fun h => by omega, fun h => absurd h hx⟩⟩
theorem Inv.hit {S : List Int} {bs : List Bool} {M : List Int} {u p : Nat} {x : Int} (h : Inv S bs M u) (hp : ∀ k, k < S.length → ((S[k]? = some x ∧ bs[k]? = some false) ↔ k = p)) (hl : p < S.length) (hx : x ∈ M) :
    Inv S (bs.set p true) (M.erase x) (u + 1) := by
  have hc := h.cnt
  have hle := List.length_erase_of_mem hx
  have hpos := List.length_pos_of_mem hx
  refine ⟨h.nd, by rw [List.length_set, h.len], h.mnd.erase _, fun y => ?_, by omega⟩
  rw [h.mnd.mem_erase_iff, h.mem]
  constructor
  · rintro ⟨hy, k, h1, h2⟩
    refine ⟨k, h1, ?_⟩
    have hkp : p ≠ k := fun e => by
      have h3 := (hp k (List.getElem?_eq_some_iff.1 h1).1).2 e.symm
      rw [h1] at h3
      exact hy (Option.some.inj h3.1)
    rw [List.getElem?_set_ne hkp]
    exact h2
  · rintro ⟨k, h1, h2⟩
    have hkp : p ≠ k := fun e => by
      subst e
      rw [List.getElem?_set_self (by rw [h.len]; exact hl)] at h2
      simp at h2
    rw [List.getElem?_set_ne hkp] at h2
    refine ⟨fun e => ?_, k, h1, h2⟩
    exact hkp ((hp k (List.getElem?_eq_some_iff.1 h1).1).1 ⟨e ▸ h1, h2⟩).symm
theorem erase_none {M : List Int} {x : Int} (h : x ∉ M) : M.erase x = M := List.erase_of_not_mem h
/-- The counter alone. -/
structure L1 (W : World) (b n : Nat) (mo : Option Nat) (K : List Int) (w : World) : Prop where
  l : LV w b n 0 mo K
  o : Old W w
  hb : W.heap.size ≤ b
  hm : ∀ m, mo = some m → W.heap.size ≤ m
theorem L1.sent {W w : World} {b n : Nat} {mo : Option Nat} {K : List Int} (h : L1 W b n mo K w) (hn : n ≤ 1000000) (x : Int) :
    Calls Try.prog 14 #[.pointer (some ⟨b, 0, none⟩), .int .i64 x] w fun e w' => e = .returned (.tuple #[]) ∧ ∃ mb, L1 W b (n + 1) (some mb) (ins K x) w' :=
  (sent_any h.l hn x).mono fun e w' ⟨e1, mb, h1, h2, h3⟩ => ⟨e1, mb, h1, Kept.trans' h.o h2 (fun i hi e => by
    have h4 := h.hb
    rcases e with e | e
    · omega
    · have := h.hm i e; omega), h.hb, fun m e => by
    cases e
    rcases h3 with e | e
    · exact h.hm mb e
    · exact Nat.le_trans h.o.size e⟩
/-- The counter and the numbers. -/
structure L2 (W : World) (b n : Nat) (mo : Option Nat) (K : List Int) (v : Value) (S : List Int) (w : World) : Prop where
  a : L1 W b n mo K w
  r : Ro.Row nT w v S
  hv : ∀ g, v.ownBlock = some g → g ≠ b ∧ mo ≠ some g ∧ W.heap.size ≤ g
theorem LV.mlt {w : World} {b n u mb : Nat} {M : List Int} (h : LV w b n u (some mb) M) : mb < w.heap.size := by
  rcases h.map with ⟨e, _⟩ | ⟨m, e, h2⟩
  · cases e
  · cases e; exact h2.lt
theorem L1.new {W w : World} {b n : Nat} {mo : Option Nat} {K : List Int} (h : L1 W b n mo K w) {w' : World} (k : Kept (fun i => W.heap.size ≤ i ∧ i ≠ b ∧ mo ≠ some i) w w') : L1 W b n mo K w' :=
  ⟨h.l.kept k (fun e => e.2.1 rfl) (fun g e f => f.2.2 e), Kept.trans' h.o k (fun i hi e => by omega), h.hb, h.hm⟩
theorem L2.drewN {W w : World} {b n : Nat} {mo : Option Nat} {K : List Int} {v : Value} {S : List Int} (h : L2 W b n mo K v S w) (q : Nat) : L2 W b n mo K v S (w.drewN q) :=
  ⟨h.a.new ((Kept.refl _ w).drewN q), h.r.old ((Kept.refl _ w).drewN q), h.hv⟩
theorem L2.app {W w : World} {b n : Nat} {mo : Option Nat} {K : List Int} {v : Value} {S : List Int} (h : L2 W b n mo K v S w) {ob : Obj} {v' : Value} {w' : World} {S' : List Int} (ha : Ro.Apd nT (w.alloc ob) v S' v' w') : L2 W b n mo K v' S' w' := by
  have k1 : Kept (fun i => W.heap.size ≤ i ∧ i ≠ b ∧ mo ≠ some i) w w' := Kept.trans' ((Kept.refl _ w).alloc ob) ha.kept (fun i hi e => by have := h.hv i e; exact ⟨this.2.2, this.1, this.2.1⟩)
  refine ⟨h.a.new k1, ha.row, fun g hg => ?_⟩
  rcases ha.lies g hg with e | e
  · exact h.hv g e
  · have h1 := h.a.l.blk.lt
    have h2 := h.a.o.size
    have h3 : w.heap.size < (w.alloc ob).heap.size := by simp
    refine ⟨by omega, fun e2 => ?_, by omega⟩
    have h4 := h.a.l
    rw [e2] at h4
    have := h4.mlt
    omega
/-- The counter, the numbers, and which came back. -/
structure L3 (W : World) (b n u : Nat) (mo : Option Nat) (M : List Int) (v : Value) (S : List Int) (gb : Nat) (bs : List Bool) (w : World) : Prop where
  l : LV w b n u mo M
  o : Old W w
  hb : W.heap.size ≤ b
  hm : ∀ m, mo = some m → W.heap.size ≤ m
  r : Ro.Row nT w v S
  hv : ∀ g, v.ownBlock = some g → g ≠ b ∧ mo ≠ some g ∧ W.heap.size ≤ g ∧ g ≠ gb
  k : Blk w gb (bs.map Value.bool) 4
  hg : gb ≠ b ∧ mo ≠ some gb ∧ W.heap.size ≤ gb
variable {W w : World} {b n u : Nat} {mo : Option Nat} {M : List Int} {v : Value} {S : List Int} {gb : Nat} {bs : List Bool}
theorem L3.old (h : L3 W b n u mo M v S gb bs w) {w' : World} (q : Kept (fun _ => False) w w') : L3 W b n u mo M v S gb bs w' :=
  ⟨h.l.kept q (fun f => f) (fun _ _ f => f), Kept.trans h.o q, h.hb, h.hm, h.r.old q, h.hv, q.blk h.k (fun f => f), h.hg⟩
theorem L3.used (h : L3 W b n u mo M v S gb bs w) (hu : u ≤ 1000000) (x : Int) :
    Calls Try.prog 15 #[.pointer (some ⟨b, 0, none⟩), .int .i64 x] w fun e w' => e = .returned (.tuple #[]) ∧ L3 W b n (if x ∈ M then u + 1 else u) mo (M.erase x) v S gb bs w' := by
  by_cases hx : x ∈ M
  · rw [if_pos hx]
    cases mo with
    | none => rcases h.l.map with ⟨_, rfl⟩ | ⟨m, e, _⟩
              · simp at hx
              · cases e
    | some mb =>
      refine (used_hit h.l hu x hx).mono fun e w' ⟨e1, h1, k1⟩ => ⟨e1, h1, ?_, h.hb, h.hm, h.r.kept k1 (fun g hg e => ?_), h.hv, k1.blk h.k (fun e => ?_), h.hg⟩
      · exact Kept.trans' h.o k1 (fun i hi e => by
          have h4 := h.hb
          have h5 := h.hm mb rfl
          omega)
      · have h6 := h.hv g hg
        rcases e with e | e
        · exact h6.1 e
        · exact h6.2.1 (by rw [e])
      · rcases e with e | e
        · exact h.hg.1 e
        · exact h.hg.2.1 (by rw [e])
  · rw [if_neg hx, erase_none hx]
    exact (used_miss h.l x hx).mono fun e w' ⟨e1, k1⟩ => ⟨e1, h.old k1⟩
theorem L3.set (h : L3 W b n u mo M v S gb bs w) (p : Nat) : L3 W b n u mo M v S gb (bs.set p true) (w.setCell ⟨gb, p, none⟩ (.bool true)) := by
  have k1 := Kept.one w gb p (.bool true)
  refine ⟨h.l.kept k1 (fun e => h.hg.1 e.symm) (fun g e f => h.hg.2.1 (f ▸ e)), Kept.trans' h.o k1 (fun i hi e => by have := h.hg.2.2; omega), h.hb, h.hm, h.r.kept k1 (fun g hg e => (h.hv g hg).2.2.2 e), h.hv, ?_, h.hg⟩
  rw [List.map_set]
  exact h.k.set p (.bool true)
theorem L3.bcell (h : L3 W b n u mo M v S gb bs w) {k : Nat} {y : Bool} (hk : bs[k]? = some y) : w.cell? ⟨gb, k, none⟩ = some (.bool y) := h.k.cell (by rw [List.getElem?_map, hk]; rfl)
end Go.Proofs.Ytaflhkhfkifefaa.Cr
