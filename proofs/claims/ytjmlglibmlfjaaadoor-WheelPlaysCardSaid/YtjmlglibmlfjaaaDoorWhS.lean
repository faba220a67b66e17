/- Buckets: what each small function answers, and leaves in memory. Conditions: each theorem's own. -/
import Derived.Test.YtjmlglibmlfjaaaDoorTreeB
import Derived.Test.YtjmlglibmlfjaaaDoorBits
import Derived.LoopTactic
import Derived.Laws.NewBlocks
import Derived.BigRegion
import Derived.StillTailTactics
set_option linter.unusedVariables false
namespace Go.Proofs.YtjmlglibmlfjaaaDoor.WhS
open Go.RowKit Hp BitsM BitsC Tree
def Y : Tys := ⟨92, 82, 77⟩
theorem pow16 {d : Nat} (hd : d < 16) : (2 : Nat) ^ d < 65536 := Nat.lt_of_lt_of_le (Nat.pow_lt_pow_right (by decide) hd) (by decide)
theorem wrap_pow (d : Nat) (hd : d < 16) : IntKind.u16.wrap ((2 : Int) ^ d) = ((2 ^ d : Nat) : Int) := by
  have h := pow16 hd
  have e : (2 : Int) ^ d = ((2 ^ d : Nat) : Int) := by norm_cast
  rw [e, IntKind.wrap_u16]
  generalize 2 ^ d = q at *
  omega
/-- A bucket of a node with one kid's place written. -/
def SetIn (b ib d : Nat) (lv at_ first last : Value) (m : Nat) (cs : List Value) (T' : Tr) (w w' : World) : Prop :=
  ∃ m' : Nat, m' < 65536 ∧ (∀ i, i < 16 → m'.testBit i = if i = d then !T'.isNil else m.testBit i) ∧
     Blk w' b [lv, at_, first, last, .int .u16 (m' : Int), .slice (some ⟨ib, 0, none⟩) 16 16] Y.tb ∧ Blk w' ib (cs.set d T'.ptr) Y.tp ∧ Kept (fun k => k = b ∨ k = ib) w w'
set_option maxHeartbeats 400000 in
theorem set_some (b ib d m c : Nat) (lv at_ first last : Value) (cs : List Value) (T' : Tr) (hT : T'.ptr = .pointer (some ⟨c, 0, none⟩)) (hn : T'.isNil = false) (w : World)
   (hb : Blk w b [lv, at_, first, last, .int .u16 m, .slice (some ⟨ib, 0, none⟩) 16 16] Y.tb)
   (hc : Blk w ib cs Y.tp) (hl : cs.length = 16) (hd : d < 16) (hm : m < 65536) (hne : b ≠ ib) :
   Calls Tryd.prog 42 #[.pointer (some ⟨b, 0, none⟩), .int .i64 d, .pointer (some ⟨c, 0, none⟩)] w fun e w' => e = .returned (.tuple #[]) ∧ SetIn b ib d lv at_ first last m cs T' w w' := by
  have c1 := hb.cell (o := 5) rfl
  have f3 := hc.frozen d
  have c4 : w.cell? ⟨ib, d, none⟩ = some (cs[d]'(by omega)) := hc.cell (by simp [hl, hd])
  have hk : Kept (fun k => k = b ∨ k = ib) w (w.setCell ⟨ib, d, none⟩ (.pointer (some ⟨c, 0, none⟩))) := (Kept.refl _ w).set (fun _ => Or.inr rfl) _ _
  have hb1 := hb.far (p := ib) (fun e => hne e.symm) d (.pointer (some ⟨c, 0, none⟩))
  have hc1 := hc.set d (.pointer (some ⟨c, 0, none⟩))
  go_enter Tryd.func42, Tryd.ntmps42
  go_wp2
  clear c1 f3 c4 hb hc
  generalize w.setCell ⟨ib, d, none⟩ (.pointer (some ⟨c, 0, none⟩)) = w1 at *
  have c2 := hb1.cell (o := 4) rfl
  have f2 := hb1.frozen 4
  go_region
  go_end0
  refine ⟨rfl, m ||| 2 ^ d, ?_, ?_, ?_, ?_, ?_⟩
  · exact Nat.or_lt_two_pow (n := 16) hm (pow16 hd)
  · intro i hi
    rw [Nat.testBit_or, Nat.testBit_two_pow, hn]
    by_cases e : i = d
    · subst e; simp
    · rw [if_neg e]; have : ¬ d = i := fun x => e x.symm; simp [this]
  · have := hb1.set 4 (.int .u16 ((m ||| 2 ^ d : Nat) : Int))
    rw [wrap_pow d hd, u16_or_nat m _ hm (pow16 hd)]
    exact this
  · rw [hT]; exact hc1.far (p := b) hne 4 _
  · exact (hk.set (fun _ => Or.inl rfl) _ _).drew
set_option maxHeartbeats 400000 in
theorem set_nil (b ib d m : Nat) (lv at_ first last : Value) (cs : List Value) (w : World)
   (hb : Blk w b [lv, at_, first, last, .int .u16 m, .slice (some ⟨ib, 0, none⟩) 16 16] Y.tb)
   (hc : Blk w ib cs Y.tp) (hl : cs.length = 16) (hd : d < 16) (hm : m < 65536) (hne : b ≠ ib) :
   Calls Tryd.prog 42 #[.pointer (some ⟨b, 0, none⟩), .int .i64 d, .pointer none] w fun e w' => e = .returned (.tuple #[]) ∧ SetIn b ib d lv at_ first last m cs .nil w w' := by
  have c1 := hb.cell (o := 5) rfl
  have f3 := hc.frozen d
  have c4 : w.cell? ⟨ib, d, none⟩ = some (cs[d]'(by omega)) := hc.cell (by simp [hl, hd])
  have hk : Kept (fun k => k = b ∨ k = ib) w (w.setCell ⟨ib, d, none⟩ (.pointer none)) := (Kept.refl _ w).set (fun _ => Or.inr rfl) _ _
  have hb1 := hb.far (p := ib) (fun e => hne e.symm) d (.pointer none)
  have hc1 := hc.set d (.pointer none)
  go_enter Tryd.func42, Tryd.ntmps42
  go_wp2
  clear c1 f3 c4 hb hc
  generalize w.setCell ⟨ib, d, none⟩ (.pointer none) = w1 at *
  have c2 := hb1.cell (o := 4) rfl
  have f2 := hb1.frozen 4
  go_region
  go_end0
  refine ⟨rfl, m &&& (65535 - 2 ^ d), ?_, ?_, ?_, ?_, ?_⟩
  · exact Nat.lt_of_le_of_lt Nat.and_le_left hm
  · intro i hi
    have e1 : 65535 - 2 ^ d = 2 ^ 16 - (2 ^ d + 1) := by omega
    rw [Nat.testBit_and, e1, Nat.testBit_two_pow_sub_succ (pow16 hd), Nat.testBit_two_pow]
    by_cases e : i = d
    · subst e; simp [Tr.isNil]
    · rw [if_neg e]; have : ¬ d = i := fun x => e x.symm; simp [this, hi]
  · have := hb1.set 4 (.int .u16 ((m &&& (65535 - 2 ^ d) : Nat) : Int))
    rw [wrap_pow d hd, u16_andNot_nat m _ hm (pow16 hd)]
    exact this
  · exact hc1.far (p := b) hne 4 _
  · exact (hk.set (fun _ => Or.inl rfl) _ _).drew
theorem leafOf_any (x : Tm) (p q : Value) (w : World)
   (ht : Blk w x.b [.int .i64 x.at_, .int .i64 x.id, x.v, p, q] Y.tt) :
   Calls Tryd.prog 39 #[.pointer (some ⟨x.b, 0, none⟩)] w fun e w' => e = .returned (.pointer (some ⟨w.heap.size, 0, none⟩)) ∧
    w.alloc (.cells #[.int .i64 (-1), .int .i64 x.at_, .pointer (some ⟨x.b, 0, none⟩), .pointer (some ⟨x.b, 0, none⟩), .int .u16 0, .slice none 0 0] Y.tb) = w' := by
  have c1 := ht.cell (o := 0) rfl
  go_enter Tryd.func39, Tryd.ntmps39
  go_wp2
  go_ret
  exact ⟨rfl, rfl⟩
/-- A new leaf for one. -/
theorem leafOf_rep (x : Tm) (w : World) (ht : Blk w x.b [.int .i64 x.at_, .int .i64 x.id, x.v, .pointer none, .pointer none] Y.tt) :
   Calls Tryd.prog 39 #[.pointer (some ⟨x.b, 0, none⟩)] w fun e w' => e = .returned (.pointer (some ⟨w.heap.size, 0, none⟩)) ∧
    Rep Y w' (.leaf w.heap.size x.at_ [x]) ∧ Kept (fun _ => False) w w' ∧ w'.heap.size = w.heap.size + 1 := by
  refine (leafOf_any x _ _ w ht).mono fun e w' ⟨he, hw⟩ => ⟨he, ?_⟩
  subst hw
  refine ⟨⟨Blk.new w _ _, ⟨ht.old _, trivial⟩, ?_, by simp⟩, (Kept.refl _ w).alloc _, by simp⟩
  intro t h
  simp only [List.mem_singleton] at h
  subst h
  exact Nat.ne_of_lt ht.lt
/-- The place of a kid is written, by whatever tree. -/
theorem set_any (b ib d m : Nat) (lv at_ first last : Value) (cs : List Value) (T' : Tr) (w : World)
   (hb : Blk w b [lv, at_, first, last, .int .u16 m, .slice (some ⟨ib, 0, none⟩) 16 16] Y.tb)
   (hc : Blk w ib cs Y.tp) (hl : cs.length = 16) (hd : d < 16) (hm : m < 65536) (hne : b ≠ ib) :
   Calls Tryd.prog 42 #[.pointer (some ⟨b, 0, none⟩), .int .i64 d, T'.ptr] w fun e w' => e = .returned (.tuple #[]) ∧ SetIn b ib d lv at_ first last m cs T' w w' := by
  cases T' with
  | nil => exact set_nil b ib d m lv at_ first last cs w hb hc hl hd hm hne
  | leaf c a ts => exact set_some b ib d m c lv at_ first last cs _ rfl rfl w hb hc hl hd hm hne
  | node c a h x k => exact set_some b ib d m c lv at_ first last cs _ rfl rfl w hb hc hl hd hm hne
theorem set_ptr (b ib d m : Nat) (u : Option Addr) (lv at_ first last : Value) (cs : List Value) (T' : Tr) (hu : T'.ptr = .pointer u) (w : World)
   (hb : Blk w b [lv, at_, first, last, .int .u16 m, .slice (some ⟨ib, 0, none⟩) 16 16] Y.tb)
   (hc : Blk w ib cs Y.tp) (hl : cs.length = 16) (hd : d < 16) (hm : m < 65536) (hne : b ≠ ib) :
   Calls Tryd.prog 42 #[.pointer (some ⟨b, 0, none⟩), .int .i64 d, .pointer u] w fun e w' => e = .returned (.tuple #[]) ∧ SetIn b ib d lv at_ first last m cs T' w w' :=
  hu ▸ set_any b ib d m lv at_ first last cs T' w hb hc hl hd hm hne
/-- Where a tree's root has its time. -/
theorem rep_blk {w : World} {T : Tr} (h : Rep Y w T) (hn : T.isNil = false) : ∃ (b : Nat) (l f g m i : Value), T.ptr = .pointer (some ⟨b, 0, none⟩) ∧ T.F b ∧ Blk w b [l, .int .i64 T.rep, f, g, m, i] Y.tb := by
  cases T with
  | nil => simp [Tr.isNil] at hn
  | leaf b a ts => exact ⟨b, _, _, _, _, _, rfl, Or.inl rfl, h.1⟩
  | node b ib hh a kids =>
    obtain ⟨⟨m, m1, m2, m3⟩, h2⟩ := h
    exact ⟨b, _, _, _, _, _, rfl, Or.inl rfl, m3⟩
set_option maxHeartbeats 800000 in
theorem around_blk (k da db a b : Nat) (A B : Tr) (ra rb : Nat) (hpa : A.ptr = .pointer (some ⟨a, 0, none⟩)) (hpb : B.ptr = .pointer (some ⟨b, 0, none⟩)) (l1 f1 g1 m1 i1 l2 f2 g2 m2 i2 : Value) (w : World)
   (ha : Blk w a [l1, .int .i64 ra, f1, g1, m1, i1] Y.tb)
   (hb : Blk w b [l2, .int .i64 rb, f2, g2, m2, i2] Y.tb) (ra1 : ra ≤ 1125899906842624) (rb1 : rb ≤ 1125899906842624) (hk : k ≤ 12) (hda : dig ra k = da) (hdb : dig rb k = db) (hA : A.isNil = false) (hB : B.isNil = false) (hne : da ≠ db) :
   Calls Tryd.prog 40 #[.int .i64 k, .pointer (some ⟨a, 0, none⟩), .pointer (some ⟨b, 0, none⟩)] w fun e w' => e = .returned (.pointer (some ⟨w.heap.size + 1, 0, none⟩)) ∧
     (∃ m : Nat, m < 65536 ∧ (∀ i, i < 16 → m.testBit i = !(upd (upd (fun _ => .nil) da A) db B i).isNil) ∧
       Blk w' (w.heap.size + 1) [.int .i64 k, .int .i64 ra, .pointer none, .pointer none, .int .u16 m, .slice (some ⟨w.heap.size, 0, none⟩) 16 16] Y.tb) ∧
     Blk w' w.heap.size ((List.range 16).map fun i => (upd (upd (fun _ => .nil) da A) db B i).ptr) Y.tp ∧ Kept (fun _ => False) w w' := by
  have c1 := ha.cell (o := 1) rfl
  have q1 := ha.lt
  have hmk : ∀ w : World, (Instr.makeSlice 90 (Value.int IntKind.i64 16) (Value.int IntKind.i64 16)).run Tryd.prog w = .ok (.slice (some ⟨w.heap.size, 0, none⟩) 16 16) (w.alloc (.cells #[.pointer none, .pointer none, .pointer none, .pointer none, .pointer none, .pointer none, .pointer none, .pointer none, .pointer none, .pointer none, .pointer none, .pointer none, .pointer none, .pointer none, .pointer none, .pointer none] 77)) := fun _ => by kernel_rfl
  go_enter Tryd.func40, Tryd.ntmps40
  go_wp2_with fail
  go_region
  have B1 : Blk ((w.alloc (.cells #[.pointer none, .pointer none, .pointer none, .pointer none, .pointer none, .pointer none, .pointer none, .pointer none, .pointer none, .pointer none, .pointer none, .pointer none, .pointer none, .pointer none, .pointer none, .pointer none] 77)).alloc (.cells #[.int .i64 k, .int .i64 ra, .pointer none, .pointer none, .int .u16 0, .slice (some ⟨w.heap.size, 0, none⟩) 16 16] 92)).drew w.heap.size ((List.range 16).map fun _ => .pointer none) Y.tp := (Blk.new w _ _).old _
  have B2 : Blk ((w.alloc (.cells #[.pointer none, .pointer none, .pointer none, .pointer none, .pointer none, .pointer none, .pointer none, .pointer none, .pointer none, .pointer none, .pointer none, .pointer none, .pointer none, .pointer none, .pointer none, .pointer none] 77)).alloc (.cells #[.int .i64 k, .int .i64 ra, .pointer none, .pointer none, .int .u16 0, .slice (some ⟨w.heap.size, 0, none⟩) 16 16] 92)).drew (w.heap.size + 1) [.int .i64 k, .int .i64 ra, .pointer none, .pointer none, .int .u16 ((0 : Nat) : Int), .slice (some ⟨w.heap.size, 0, none⟩) 16 16] Y.tb := by
    have := Blk.new (w.alloc (.cells #[.pointer none, .pointer none, .pointer none, .pointer none, .pointer none, .pointer none, .pointer none, .pointer none, .pointer none, .pointer none, .pointer none, .pointer none, .pointer none, .pointer none, .pointer none, .pointer none] 77)) [.int .i64 k, .int .i64 ra, .pointer none, .pointer none, .int .u16 0, .slice (some ⟨w.heap.size, 0, none⟩) 16 16] 92
    rw [World.size_alloc] at this
    exact this
  have K1 : Kept (fun _ => False) w ((w.alloc (.cells #[.pointer none, .pointer none, .pointer none, .pointer none, .pointer none, .pointer none, .pointer none, .pointer none, .pointer none, .pointer none, .pointer none, .pointer none, .pointer none, .pointer none, .pointer none, .pointer none] 77)).alloc (.cells #[.int .i64 k, .int .i64 ra, .pointer none, .pointer none, .int .u16 0, .slice (some ⟨w.heap.size, 0, none⟩) 16 16] 92)).drew := (((Kept.refl _ w).alloc _).alloc _).drew
  have S1 : Hid (((w.alloc (.cells #[.pointer none, .pointer none, .pointer none, .pointer none, .pointer none, .pointer none, .pointer none, .pointer none, .pointer none, .pointer none, .pointer none, .pointer none, .pointer none, .pointer none, .pointer none, .pointer none] 77)).alloc (.cells #[.int .i64 k, .int .i64 ra, .pointer none, .pointer none, .int .u16 0, .slice (some ⟨w.heap.size, 0, none⟩) 16 16] 92)).drew.heap.size = w.heap.size + 2) := by unfold Hid; simp
  clear c1 hmk
  generalize ((w.alloc (.cells #[.pointer none, .pointer none, .pointer none, .pointer none, .pointer none, .pointer none, .pointer none, .pointer none, .pointer none, .pointer none, .pointer none, .pointer none, .pointer none, .pointer none, .pointer none, .pointer none] 77)).alloc (.cells #[.int .i64 k, .int .i64 ra, .pointer none, .pointer none, .int .u16 0, .slice (some ⟨w.heap.size, 0, none⟩) 16 16] 92)).drew = w2 at *
  have c1 := (K1.blk ha (fun h => h)).cell (o := 1) rfl
  have lda : da < 16 := hda ▸ dig_lt _ _
  have ldb : db < 16 := hdb ▸ dig_lt _ _
  have HA := Lib.hid hda
  have HB := Lib.hid hdb
  have HPA := Lib.hid hpa
  have HPB := Lib.hid hpb
  have HNA := Lib.hid hA
  have HNB := Lib.hid hB
  clear hda hdb hpa hpb hA hB
  go_wp2_with fail
  refine (digit_any ra k hk _).mono ?_
  rintro e w' ⟨rfl, rfl⟩
  rw [HA.out]
  go_wp2_with fail
  refine (set_ptr (w.heap.size + 1) w.heap.size da 0 _ _ _ _ _ _ A HPA.out _ B2 B1 (by simp) lda (by decide) (by omega)).mono ?_
  rintro e w3 ⟨rfl, m1, M1, M2, C2, C1, K2⟩
  have K3 : Kept (fun _ => False) w w3 := K1.trans' K2 (fun i hi e => by rcases e with rfl | rfl <;> omega)
  have c3 := (K3.blk hb (fun h => h)).cell (o := 1) rfl
  clear c1
  go_wp2_with fail
  refine (digit_any rb k hk _).mono ?_
  rintro e w' ⟨rfl, rfl⟩
  rw [HB.out]
  go_wp2_with fail
  refine (set_ptr (w.heap.size + 1) w.heap.size db m1 _ _ _ _ _ _ B HPB.out _ C2 C1 (by simp) ldb M1 (by omega)).mono ?_
  rintro e w4 ⟨rfl, m2, N1, N2, D2, D1, K4⟩
  clear c3
  go_wp2_with fail
  go_ret
  refine ⟨rfl, ⟨m2, N1, fun i hi => ?_, D2⟩, ?_, K3.trans' K4 (fun i hi e => by rcases e with rfl | rfl <;> omega)⟩
  · rw [N2 i hi]
    by_cases e : i = db
    · subst e; rw [if_pos rfl, upd_same]
    · rw [if_neg e, M2 i hi, upd_other _ e]
      by_cases e' : i = da
      · subst e'; rw [if_pos rfl, upd_same]
      · rw [if_neg e', upd_other _ e']; simp [Tr.isNil]
  · have e1 := map_upd lda (fun _ => .nil) A
    have e2 := map_upd ldb (upd (fun _ => .nil) da A) B
    rw [← e2, ← e1]
    exact D1
theorem link_any (b t l : Nat) (lv at_ first fi inn tat tid tv ta lat lid lv' lb la : Value) (w : World)
   (tb : Value)
   (hb : Blk w b [lv, at_, first, .pointer (some ⟨l, 0, none⟩), fi, inn] Y.tb)
   (ht : Blk w t [tat, tid, tv, tb, ta] Y.tt)
   (hl : Blk w l [lat, lid, lv', lb, la] Y.tt) (h1 : b ≠ t) (h2 : b ≠ l) (h3 : t ≠ l) :
   Calls Tryd.prog 41 #[.pointer (some ⟨b, 0, none⟩), .pointer (some ⟨t, 0, none⟩)] w fun e w' => e = .returned (.tuple #[]) ∧
    Blk w' b [lv, at_, first, .pointer (some ⟨t, 0, none⟩), fi, inn] Y.tb ∧ Blk w' t [tat, tid, tv, .pointer (some ⟨l, 0, none⟩), ta] Y.tt ∧ Blk w' l [lat, lid, lv', lb, .pointer (some ⟨t, 0, none⟩)] Y.tt ∧
    Kept (fun k => k = b ∨ k = t ∨ k = l) w w' := by
  have c1 := hb.cell (o := 3) rfl
  have c2 := ht.cell (o := 3) rfl
  have c3 := hl.cell (o := 4) rfl
  have f1 := hb.frozen 3
  have f2 := ht.frozen 3
  have f3 := hl.frozen 4
  go_enter Tryd.func41, Tryd.ntmps41
  go_wp2
  go_end0
  refine ⟨rfl, ?_, ?_, ?_, ?_⟩
  · exact ((hb.far (p := t) h1.symm 3 _).far (p := l) h2.symm 4 _).set 3 _
  · exact (((ht.set 3 _).far (p := l) h3.symm 4 _).far (p := b) h1 3 _)
  · exact (((hl.far (p := t) h3 3 _).set 4 _).far (p := b) h2 3 _)
  · exact (((Kept.refl _ w).set (fun _ => Or.inr (Or.inl rfl)) _ _).set (fun _ => Or.inr (Or.inr rfl)) _ _).set (fun _ => Or.inl rfl) _ _
theorem ptr_pointer (T : Tr) : ∃ u, T.ptr = .pointer u := by cases T <;> exact ⟨_, rfl⟩
theorem mem_two {A B : Tr} {da db i k : Nat} (h : (upd (upd (fun _ => Tr.nil) da A) db B i).F k) : (i = db ∧ B.F k) ∨ (i = da ∧ A.F k) := by
  by_cases e : i = db
  · subst e; rw [upd_same] at h; exact Or.inl ⟨rfl, h⟩
  · rw [upd_other _ e] at h
    by_cases e' : i = da
    · subst e'; rw [upd_same] at h; exact Or.inr ⟨rfl, h⟩
    · rw [upd_other _ e'] at h; exact h.elim
/-- Two trees that part at a digit, in one node. -/
theorem around_rep (k : Nat) (A B : Tr) (u v : Option Addr) (hu : A.ptr = .pointer u) (hv : B.ptr = .pointer v) (w : World) (hA : Rep Y w A) (hB : Rep Y w B) (nA : A.isNil = false) (nB : B.isNil = false)
   (ra1 : A.rep ≤ 1125899906842624) (rb1 : B.rep ≤ 1125899906842624) (hk : k ≤ 12) (hne : dig A.rep k ≠ dig B.rep k) (hd : ∀ i, A.F i → ¬ B.F i) :
   Calls Tryd.prog 40 #[.int .i64 k, .pointer u, .pointer v] w fun e w' =>
     e = .returned (.pointer (some ⟨w.heap.size + 1, 0, none⟩)) ∧ Rep Y w' (.node (w.heap.size + 1) w.heap.size (k + 1) A.rep (upd (upd (fun _ => .nil) (dig A.rep k) A) (dig B.rep k) B)) ∧ Kept (fun _ => False) w w' := by
  obtain ⟨a, l1, f1, g1, m1, i1, pa, Fa, ba⟩ := rep_blk hA nA
  obtain ⟨b, l2, f2, g2, m2, i2, pb, Fb, bb⟩ := rep_blk hB nB
  obtain rfl : u = some ⟨a, 0, none⟩ := by rw [pa] at hu; cases hu; rfl
  obtain rfl : v = some ⟨b, 0, none⟩ := by rw [pb] at hv; cases hv; rfl
  refine (around_blk k _ _ a b A B A.rep B.rep pa pb l1 f1 g1 m1 i1 l2 f2 g2 m2 i2 w ba bb ra1 rb1 hk rfl rfl nA nB hne).mono ?_
  rintro e w' ⟨he, ⟨m, h1, h2, h3⟩, h4, h5⟩
  refine ⟨he, ⟨⟨m, h1, h2, ?_⟩, h4, by omega, fun d hd16 => ?_⟩, h5⟩
  · rw [show (((k + 1 : Nat) : Int) - 1) = (k : Int) from by omega]; exact h3
  · have nF : ∀ i j, w.heap.size ≤ j → ¬ (upd (upd (fun _ => Tr.nil) (dig A.rep k) A) (dig B.rep k) B i).F j := fun i j hj hF => by
      rcases mem_two hF with ⟨_, h⟩ | ⟨_, h⟩
      · have := hB.lt j h; omega
      · have := hA.lt j h; omega
    refine ⟨?_, nF _ _ (by omega), nF _ _ (by omega), fun d' hd' hdd j hj hj' => ?_⟩
    · by_cases e : d = dig B.rep k
      · subst e; rw [upd_same]; exact hB.kept h5 (fun _ _ h => h)
      · rw [upd_other _ e]
        by_cases e' : d = dig A.rep k
        · subst e'; rw [upd_same]; exact hA.kept h5 (fun _ _ h => h)
        · rw [upd_other _ e']; trivial
    · rcases mem_two hj with ⟨e1, h1⟩ | ⟨e1, h1⟩ <;> rcases mem_two hj' with ⟨e2, h2⟩ | ⟨e2, h2⟩
      · omega
      · exact hd j h2 h1
      · exact hd j h1 h2
      · omega
/-- What a put leaves. -/
structure Put (x : Tm) (T T' : Tr) (w w' : World) : Prop where
  rep : Rep Y w' T'
  wf : WF T'
  ins : InsL x T.lvs T'.lvs
  foot : ∀ k, T'.F k → T.F k ∨ k = x.b ∨ w.heap.size ≤ k
  kept : Kept (fun k => T.F k ∨ k = x.b) w w'
  nn : T'.isNil = false
  shape : T.isNil = false → T'.rep = T.rep ∧ T'.hgt ≤ max T.hgt (meet T.rep x.at_)
  shape0 : T.isNil = true → T'.rep = x.at_ ∧ T'.hgt = 0
theorem lv_lt60 {a : Nat} (h : a ≤ 1125899906842624) : a < 2 ^ 60 := Nat.lt_of_le_of_lt h (by decide)
theorem meet_le13 {a b : Nat} (ha : a ≤ 1125899906842624) (hb : b ≤ 1125899906842624) : meet a b ≤ 13 := by
  rw [meet_le a b 13 (lv_lt60 ha) (lv_lt60 hb)]
  have h1 : a / 16 ^ 13 = 0 := Nat.div_eq_of_lt (Nat.lt_of_le_of_lt ha (by decide))
  have h2 : b / 16 ^ 13 = 0 := Nat.div_eq_of_lt (Nat.lt_of_le_of_lt hb (by decide))
  omega
theorem rep_le {T : Tr} (h : WF T) : T.rep ≤ 1125899906842624 := by
  cases T with
  | nil => exact Nat.zero_le _
  | leaf b a ts => exact h.1
  | node b ib hh a kids => exact h.2.2.1
/-- Where two numbers meet no sooner than behind a digit, they part in it. -/
theorem dig_ne {a b j : Nat} (ha : a ≤ 1125899906842624) (hb : b ≤ 1125899906842624) (h : meet a b = j + 1) : dig a j ≠ dig b j := by
  intro e
  have h1 : a / 16 ^ (j + 1) = b / 16 ^ (j + 1) := (meet_le a b (j + 1) (lv_lt60 ha) (lv_lt60 hb)).1 (by omega)
  have h2 := (meet_le a b j (lv_lt60 ha) (lv_lt60 hb)).2 (div_of_dig h1 e)
  omega
/-- Nothing is there: a new leaf. -/
theorem put_new (x : Tm) (w w' : World) (hx : x.at_ ≤ 1125899906842624) (n : Nat) (hn : w.heap.size ≤ n) (hr : Rep Y w' (.leaf n x.at_ [x])) (hk : Kept (fun _ => False) w w') : Put x .nil (.leaf n x.at_ [x]) w w' := by
  refine ⟨hr, ⟨hx, ?_, by simp⟩, ⟨[], [], n, [], rfl, Or.inr ⟨rfl, rfl⟩, by simp, by simp⟩, ?_, hk.mono (fun _ _ h => h.elim), rfl, by simp [Tr.isNil], fun _ => ⟨rfl, rfl⟩⟩
  · intro t ht; simp only [List.mem_singleton] at ht; subst ht; rfl
  · intro k hkF
    rcases hkF with rfl | ⟨t, ht, rfl⟩
    · exact Or.inr (Or.inr hn)
    · simp only [List.mem_singleton] at ht; subst ht; exact Or.inr (Or.inl rfl)
end Go.Proofs.YtjmlglibmlfjaaaDoor.WhS
