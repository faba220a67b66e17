/- The set of ranges: Fresh, Has, Add. Conditions: each theorem's own. -/
import Derived.Test.YtjjamooihddkgaaGreatPmG8
import Derived.WalkSpells
import Derived.Lib.SliceRun
import Derived.Test.YtjjamooihddkgaaGreatPmG1
import Derived.Test.YtjjamooihddkgaaGreatPmG7
import Derived.WalkKit
import Derived.Outline
import Derived.ProofKit
import Derived.Deep.RegionLaw
import Derived.Deep.CutBlock
import Derived.Deep.RegionWith
import Derived.Deep.RegionHeld3
import Derived.Deep.DeepCutAuto
import Derived.Deep.DrawnRows
import Derived.Deep.LoopGhost
import Derived.WalkLawsBesides
import Derived.BigQuiet
import Derived.Deep.QuietTactic
import Derived.Test.YtjjamooihddkgaaGreatPmG6
import Derived.OpenShut
import Derived.Carry
import Derived.Deep.Slices
import Derived.Deep.Fields
set_option linter.unusedVariables false
set_option linter.unusedSimpArgs false
namespace Go.Proofs.YtjjamooihddkgaaGreat.Iv
open Go.RowKit Hp IvM IvR IvN
attribute [local go_sem ↓] Go.wp_at_zero Go.wp_at_succ
theorem SetV.each {w : World} {base b : Nat} {v : Value} {n : Int} {l : List Rg} (h : SetV w base b v n l) : ∀ p ∈ l, 0 ≤ p.1 ∧ p.1 < p.2 ∧ p.2 ≤ 1073741824 := fun p hp => by
  have := h.good.each p hp; have := h.top; omega
/-- What is touched is a part of the runs. -/
theorem part_of {w : World} {g i j : Nat} {l A J B : List Rg} {f t : Int} (c : Cut f t l A J B) (hi : A.length = i) (hg : g < w.heap.size)
    (hc : ∀ i, i < l.length → w.cell? ⟨g, i * 2, none⟩ = some (.int .i64 (l.getD i (0, 0)).1) ∧ w.cell? ⟨g, i * 2 + 1, none⟩ = some (.int .i64 (l.getD i (0, 0)).2)) : Part w (some ⟨g, i * 2, none⟩) J := by
  refine Or.inr ⟨g, i * 2, rfl, hg, fun k hk => ?_⟩
  have hl : l.length = A.length + (J.length + B.length) := by rw [c.all]; simp
  have e : l.getD (i + k) (0, 0) = J.getD k (0, 0) := by
    rw [List.getD, List.getD, c.all, List.getElem?_append_right (by omega), List.getElem?_append_left (by omega)]
    congr 2; omega
  have := hc (i + k) (by omega)
  rw [e, show (i + k) * 2 = i * 2 + k * 2 by omega] at this
  exact this
theorem fresh_nil (f t : Int) (w : World) : Calls Tryz.prog 127 #[.pointer none, .int .i64 f, .int .i64 t] w fun e w' => e = .returned (.int .i64 0) ∧ w = w' := by
  go_enter Tryz.func127, Tryz.ntmps127
  go_wp2_with (go_at_call 129; refine (may_nil _ _ _).mono ?_; rintro e w' ⟨rfl, rfl⟩)
  go_ret
  exact ⟨rfl, rfl⟩
theorem fresh_no {w : World} {base b : Nat} {v : Value} {n : Int} {l : List Rg} (h : SetV w base b v n l) {f t : Int} (hm : ¬ May n f t) :
    Calls Tryz.prog 127 #[.pointer (some ⟨b, 0, none⟩), .int .i64 f, .int .i64 t] w fun e w' => e = .returned (.int .i64 0) ∧ w = w' := by
  have M := Lib.hid (may_no h hm)
  clear h hm
  go_enter Tryz.func127, Tryz.ntmps127
  go_wp2_with (go_at_call 129; refine M.out.mono ?_; rintro e w' ⟨rfl, rfl⟩)
  go_ret
  exact ⟨rfl, rfl⟩
/-- 'joined' as a slice of the runs. -/
def Cutout (v : Value) (i j : Nat) (s : Option Addr) (cap : Nat) : Prop := ∃ s0 n0 c0, v = .slice s0 n0 c0 ∧ j ≤ n0 ∧ n0 ≤ c0 ∧ i ≤ j ∧ c0 ≤ 9223372036854775807 ∧ cap = c0 - i ∧
  ((s0 = none ∧ s = none ∧ c0 = 0) ∨ ∃ g, s0 = some ⟨g, 0, none⟩ ∧ ((c0 = i ∧ s = some ⟨g, 0, none⟩) ∨ (i < c0 ∧ s = some ⟨g, i * 2, none⟩)))
theorem SetV.cutout {w : World} {base b : Nat} {v : Value} {n : Int} {l : List Rg} (h : SetV w base b v n l) {f t : Int} {A J B : List Rg} (c : Cut f t l A J B) :
    ∃ s cap, Cutout v A.length (A.length + J.length) s cap ∧ Part w s J := by
  have hl : l.length = A.length + (J.length + B.length) := by rw [c.all]; simp
  obtain ⟨s0, c0, rfl, hc, hm, hs⟩ := h.runs
  rcases hs with ⟨rfl, rfl, rfl⟩ | ⟨g, rfl, h1, h2, h3, h4⟩
  · simp at hl
    have hJ : J = [] := List.length_eq_zero_iff.1 (by omega)
    exact ⟨none, 0 - A.length, ⟨none, 0, 0, rfl, by omega, by omega, by omega, by omega, rfl, Or.inl ⟨rfl, rfl, rfl⟩⟩, Or.inl hJ⟩
  · rcases Nat.lt_or_ge A.length c0 with hlt | hge
    · exact ⟨some ⟨g, A.length * 2, none⟩, c0 - A.length, ⟨_, l.length, c0, rfl, by omega, hc, by omega, hm, rfl, Or.inr ⟨g, rfl, Or.inr ⟨hlt, rfl⟩⟩⟩, part_of (j := 0) c rfl h2 h4⟩
    · have hJ : J = [] := List.length_eq_zero_iff.1 (by omega)
      exact ⟨some ⟨g, 0, none⟩, c0 - A.length, ⟨_, l.length, c0, rfl, by omega, hc, by omega, hm, rfl, Or.inr ⟨g, rfl, Or.inl ⟨by omega, rfl⟩⟩⟩, Or.inl hJ⟩
theorem mem_touch {l A J B : List Rg} {f t : Int} (c : Cut f t l A J B) : ∀ p ∈ J, p ∈ l := fun p hp => by rw [c.all]; simp [hp]
set_option maxHeartbeats 4000000 in
set_option maxRecDepth 100000 in
theorem fresh_yes {w : World} {base b : Nat} {v : Value} {n : Int} {l : List Rg} (h : SetV w base b v n l) {f t : Int} (hm : May n f t) {A J B : List Rg} (c : Cut f t l A J B) :
    Calls Tryz.prog 127 #[.pointer (some ⟨b, 0, none⟩), .int .i64 f, .int .i64 t] w fun e w' => e = .returned (.int .i64 ((t - f) - lap f t J)) ∧ Kept (fun _ => False) w w' := by
  have M := Lib.hid (may_yes h hm)
  obtain ⟨m0, m1, m2⟩ := hm
  have hl : l.length = A.length + (J.length + B.length) := by rw [c.all]; simp
  have hfew := h.few
  have htop := h.top
  have T := Lib.hid (touched_any h c m1)
  obtain ⟨s, cap, hcut, hpart⟩ := h.cutout c
  have kv := h.blk.cell (o := 1) rfl
  have hb := h.blk.lt
  have hJ : ∀ p ∈ J, 0 ≤ p.1 ∧ p.1 < p.2 ∧ p.2 ≤ 1073741824 := fun p hp => h.each p (mem_touch c p hp)
  have hPk : ∀ w', Kept (fun _ => False) w w' → Part w' s J := fun w' k => by
    rcases hpart with e | ⟨g, o, e, hg, hc⟩
    · exact Or.inl e
    · exact Or.inr ⟨g, o, e, Nat.lt_of_lt_of_le hg k.size, fun i hi => ⟨(keptCell k hg (fun f => f) _).trans (hc i hi).1, (keptCell k hg (fun f => f) _).trans (hc i hi).2⟩⟩
  have hJl : J.length = A.length + J.length - A.length := by omega
  have MS := Lib.hid fun (w' : World) (k : Kept (fun _ => False) w w') => missing_any (s := s) (cap := cap) (hPk w' k) hJ m0 (show f ≤ 1073741824 by omega) (show 0 ≤ t by omega) (show t ≤ 1073741824 by omega) (by omega)
  generalize lap f t J = q at *
  have hsm : J.length ≤ 900000 := by omega
  have hij : A.length ≤ A.length + J.length := by omega
  rw [hJl] at MS
  generalize A.length + J.length = j at *
  generalize A.length = i at *
  clear hl hPk hpart hJ c h hJl
  obtain ⟨s0, n0, c0, rfl, r1, r2, r3, r4, rfl, hs⟩ := hcut
  rcases hs with ⟨rfl, rfl, rfl⟩ | ⟨g, rfl, ⟨rfl, rfl⟩ | ⟨hlt, rfl⟩⟩
  · obtain rfl : n0 = 0 := by omega
    obtain rfl : j = 0 := by omega
    obtain rfl : i = 0 := by omega
    go_enter Tryz.func127, Tryz.ntmps127
    go_upto_region 3 with (go_at_call 129; refine M.out.mono ?_; rintro e w' ⟨rfl, rfl⟩)
    go_wp2_with fail
    with_reducible refine Calls.mono T.out ?_
    rintro e w1 ⟨rfl, k1⟩
    have kv := (keptCell k1 hb (fun f => f) 1).trans kv
    go_wp2_with fail
    with_reducible refine Calls.mono (MS.out _ k1) ?_
    rintro e w2 ⟨rfl, k2⟩
    go_wp2_with fail
    go_ret
    exact ⟨rfl, k1.trans k2⟩
  · obtain rfl : n0 = c0 := by omega
    obtain rfl : j = n0 := by omega
    rw [Nat.sub_self] at MS
    go_enter Tryz.func127, Tryz.ntmps127
    go_upto_region 3 with (go_at_call 129; refine M.out.mono ?_; rintro e w' ⟨rfl, rfl⟩)
    go_wp2_with fail
    with_reducible refine Calls.mono T.out ?_
    rintro e w1 ⟨rfl, k1⟩
    have kv := (keptCell k1 hb (fun f => f) 1).trans kv
    go_wp2_with fail
    with_reducible refine Calls.mono (MS.out _ k1) ?_
    rintro e w2 ⟨rfl, k2⟩
    go_wp2_with fail
    go_ret
    exact ⟨rfl, k1.trans k2⟩
  · have hne : ¬ (c0 = i) := by omega
    go_enter Tryz.func127, Tryz.ntmps127
    go_upto_region 3 with (go_at_call 129; refine M.out.mono ?_; rintro e w' ⟨rfl, rfl⟩)
    go_wp2_with fail
    with_reducible refine Calls.mono T.out ?_
    rintro e w1 ⟨rfl, k1⟩
    have kv := (keptCell k1 hb (fun f => f) 1).trans kv
    go_wp2_with fail
    with_reducible refine Calls.mono (MS.out _ k1) ?_
    rintro e w2 ⟨rfl, k2⟩
    go_wp2_with fail
    go_ret
    exact ⟨rfl, k1.trans k2⟩
end Go.Proofs.YtjjamooihddkgaaGreat.Iv

/- The set of ranges: Add. Conditions: each theorem's own. -/
namespace Go.Proofs.YtjjamooihddkgaaGreat.Iv
open Go.RowKit Hp IvM IvR IvN
attribute [local go_sem ↓] Go.wp_at_zero Go.wp_at_succ
/-- What Replace leaves of a set: the runs anew, the set not yet told. -/
structure Mid (w : World) (base b : Nat) (v : Value) (n : Int) (l L : List Rg) (v' : Value) (w' : World) : Prop where
  blk : Blk w' b [.int .i64 n, v, .int .i64 (size l)] 193
  row : Row w' base v' L
  own : v'.ownBlock ≠ some b
  kept : Kept (fun k => v.ownBlock = some k) w w'
  lies : ∀ g, v'.ownBlock = some g → v.ownBlock = some g ∨ w.heap.size ≤ g
def Own (b : Nat) (v : Value) (k : Nat) : Prop := k = b ∨ v.ownBlock = some k
/-- What an Add leaves. -/
structure Added (w : World) (base b : Nat) (v : Value) (n : Int) (L : List Rg) (v' : Value) (w' : World) : Prop where
  set : SetV w' base b v' n L
  kept : Kept (Own b v) w w'
  lies : ∀ g, v'.ownBlock = some g → v.ownBlock = some g ∨ w.heap.size ≤ g
theorem Mid.done {w w' : World} {base b : Nat} {v v' : Value} {n : Int} {l L : List Rg} (m : Mid w base b v n l L v' w') (h : SetV w base b v n l) (hL : IvM.Good n L) (hf : L.length ≤ 900000) :
    Added w base b v n L v' ((w'.setCell ⟨b, 1, none⟩ v').setCell ⟨b, 2, none⟩ (.int .i64 (size L))) := by
  have hk : Kept (fun k => k = b) w' ((w'.setCell ⟨b, 1, none⟩ v').setCell ⟨b, 2, none⟩ (.int .i64 (size L))) := (Kept.one w' b 1 _).set (fun _ => rfl) 2 _
  refine ⟨⟨(m.blk.set 1 v').set 2 _, m.row.kept hk (fun g hg e => m.own (by rw [hg, e])), m.own, h.low, hL, h.top, hf⟩, ?_, m.lies⟩
  exact (m.kept.mono (fun k _ e => Or.inr e)).trans (hk.mono (fun k _ e => Or.inl e))
theorem replace_mid {w w3 : World} {base b : Nat} {v : Value} {n : Int} {l : List Rg} (h : SetV w base b v n l) (hbase : base ≤ w.heap.size) {f t : Int} {A J B : List Rg} (c : Cut f t l A J B) (k3 : Kept (fun _ => False) w w3) (x y : Int) :
    Calls Tryz.prog 134 #[v, .int .i64 (A.length : Nat), .int .i64 (A.length + J.length : Nat), .slice (some ⟨w3.heap.size, 0, none⟩) 1 1] (w3.alloc (.cells #[.int .i64 x, .int .i64 y] 196))
      fun e w' => ∃ s' n' c', e = .returned (.slice s' n' c') ∧ Mid w base b v n l (A ++ (x, y) :: B) (.slice s' n' c') w' := by
  have hl : l.length = A.length + (J.length + B.length) := by rw [c.all]; simp
  have k4 : Kept (fun _ => False) w (w3.alloc (.cells #[.int .i64 x, .int .i64 y] 196)) := k3.alloc _
  have h4 := h.old k4
  have hv : Blk (w3.alloc (.cells #[.int .i64 x, .int .i64 y] 196)) w3.heap.size (rc (x, y)) 196 := Blk.new w3 (rc (x, y)) _
  have hs := k3.size
  have hne : v.ownBlock ≠ some w3.heap.size := fun e => by have := (h.row.lt _ e).2; omega
  have e1 : l.take A.length ++ (x, y) :: l.drop (A.length + J.length) = A ++ (x, y) :: B := by
    have e2 : l.take A.length = A := by rw [c.all, List.take_left]
    have e3 : l.drop (A.length + J.length) = B := by
      rw [c.all, ← List.append_assoc, ← List.length_append, List.drop_left]
    rw [e2, e3]
  refine (rep_any h4.row (Nat.le_add_right _ _) (by omega) hv hne h.few (by have := k4.size; omega)).mono ?_
  rintro e w' ⟨v', rfl, hA⟩
  rw [e1] at hA
  have hform : ∃ s' n' c', v' = .slice s' n' c' := by
    rcases hA.row.form with ⟨rfl, _⟩ | ⟨g, cap, cur, rfl, _⟩
    · exact ⟨_, _, _, rfl⟩
    · exact ⟨_, _, _, rfl⟩
  obtain ⟨s', n', c', rfl⟩ := hform
  have hb := h.blk.lt
  have h4s := k4.size
  refine ⟨s', n', c', rfl, ⟨hA.kept.blk h4.blk (fun e => h.own e), hA.row, fun e => ?_, (k4.mono (fun _ _ f => f.elim)).trans hA.kept, fun g hg => ?_⟩⟩
  · rcases hA.lies b e with e' | e'
    · exact h.own e'
    · omega
  · rcases hA.lies g hg with e' | e'
    · exact Or.inl e'
    · right; omega
theorem add_nil (f t : Int) (w : World) : Calls Tryz.prog 89 #[.pointer none, .int .i64 f, .int .i64 t] w fun e w' => e = .returned (.tuple #[.int .i64 0, .int .i64 1]) ∧ w = w' := by
  go_enter Tryz.func89, Tryz.ntmps89
  go_wp2_with (go_at_call 129; refine (may_nil _ _ _).mono ?_; rintro e w' ⟨rfl, rfl⟩)
  go_ret2
  exact ⟨rfl, rfl⟩
theorem add_no {w : World} {base b : Nat} {v : Value} {n : Int} {l : List Rg} (h : SetV w base b v n l) {f t : Int} (hm : ¬ May n f t) :
    Calls Tryz.prog 89 #[.pointer (some ⟨b, 0, none⟩), .int .i64 f, .int .i64 t] w fun e w' => e = .returned (.tuple #[.int .i64 0, .int .i64 1]) ∧ w = w' := by
  have M := Lib.hid (may_no h hm)
  clear h hm
  go_enter Tryz.func89, Tryz.ntmps89
  go_wp2_with (go_at_call 129; refine M.out.mono ?_; rintro e w' ⟨rfl, rfl⟩)
  go_ret2
  exact ⟨rfl, rfl⟩
theorem add_none {w : World} {base b : Nat} {v : Value} {n : Int} {l : List Rg} (h : SetV w base b v n l) {f : Int} (hm : May n f f) :
    Calls Tryz.prog 89 #[.pointer (some ⟨b, 0, none⟩), .int .i64 f, .int .i64 f] w fun e w' => e = .returned (.tuple #[.int .i64 0, .int .i64 0]) ∧ w = w' := by
  have M := Lib.hid (may_yes h hm)
  clear h hm
  go_enter Tryz.func89, Tryz.ntmps89
  go_wp2_with (go_at_call 129; refine M.out.mono ?_; rintro e w' ⟨rfl, rfl⟩)
  go_ret2
  exact ⟨rfl, rfl⟩
def AddP (w : World) (base b : Nat) (v : Value) (n : Int) (l L : List Rg) (e : Ending) (w' : World) : Prop :=
  ∃ v', e = .returned (.tuple #[.int .i64 (size L - size l), .int .i64 0]) ∧ Added w base b v n L v' w'
set_option maxHeartbeats 4000000 in
set_option maxRecDepth 100000 in
theorem add_apart {w : World} {base b : Nat} {v : Value} {n : Int} {l : List Rg} (h : SetV w base b v n l) (hbase : base ≤ w.heap.size) {f t : Int} (hm : May n f t) (hne : f ≠ t) {A B : List Rg} (c : Cut f t l A [] B) (hfew : l.length < 900000) :
    Calls Tryz.prog 89 #[.pointer (some ⟨b, 0, none⟩), .int .i64 f, .int .i64 t] w (AddP w base b v n l (A ++ (f, t) :: B)) := by
  have M := Lib.hid (may_yes h hm)
  obtain ⟨m0, m1, m2⟩ := hm
  have hl : l.length = A.length + B.length := by rw [c.all]; simp
  have htop := h.top
  have hput := put h.good c m0 (by omega) m2
  have elo : lo f [] = f := rfl
  have ehi : hi t [] = t := rfl
  have elap : lap f t [] = 0 := rfl
  rw [elo, ehi, elap] at hput
  obtain ⟨p1, p2, p3⟩ := hput
  have s0 := size_nonneg h.good
  have s1 := size_le (x := 0) p1 (fun p hp => (p1.each p hp).1) htop.1
  have T := Lib.hid (touched_any h c m1)
  obtain ⟨s, cap, hcut, hpart⟩ := h.cutout c
  have kv := h.blk.cell (o := 1) rfl
  have kb := h.blk.lt
  have MS := Lib.hid fun (w' : World) => missing_any (w := w') (s := s) (cap := cap) (J := []) (Or.inl rfl) (by simp) m0 (show f ≤ 1073741824 by omega) (show 0 ≤ t by omega) (show t ≤ 1073741824 by omega) (by simp)
  have RM := Lib.hid fun (w3 : World) (k3 : Kept (fun _ => False) w w3) => replace_mid h hbase c k3 f t
  have HD := Lib.hid fun (v' : Value) (w' : World) (m : Mid w base b v n l (A ++ (f, t) :: B) v' w') => m.done h p1 (by rw [List.length_append, List.length_cons]; omega)
  have u1 : IntKind.i64.wrap (size l + (t - f)) = size l + (t - f) := by rw [IntKind.wrap_i64]; omega
  have P3 := Lib.hid p3
  rw [elap, Int.sub_zero, List.length_nil] at MS
  have hcut2 : Cutout v A.length A.length s cap := hcut
  have T2 : Hid (Calls Tryz.prog 130 #[.pointer (some ⟨b, 0, none⟩), .int .i64 f, .int .i64 t] w fun e w' => e = .returned (.tuple #[.int .i64 (A.length : Nat), .int .i64 (A.length : Nat)]) ∧ Kept (fun _ => False) w w') := T
  have RM2 : Hid (∀ (w3 : World) (k3 : Kept (fun _ => False) w w3), Calls Tryz.prog 134 #[v, .int .i64 (A.length : Nat), .int .i64 (A.length : Nat), .slice (some ⟨w3.heap.size, 0, none⟩) 1 1] (w3.alloc (.cells #[.int .i64 f, .int .i64 t] 196))
      fun e w' => ∃ s' n' c', e = .returned (.slice s' n' c') ∧ Mid w base b v n l (A ++ (f, t) :: B) (.slice s' n' c') w') := RM
  have hlenA : A.length ≤ 900000 := by omega
  clear T RM hcut hpart p1 p2 p3 elo ehi elap c h hl
  generalize A ++ (f, t) :: B = L at *
  generalize A.length = i at *
  obtain ⟨q, hq⟩ : ∃ q, size l = q := ⟨_, rfl⟩
  obtain ⟨z, hz⟩ : ∃ z, size L = z := ⟨_, rfl⟩
  have HQ := Lib.hid hq
  have HZ := Lib.hid hz
  rw [hq] at s0 u1 P3
  rw [hz] at s1 P3 HD
  clear hq hz
  have hne0 : (f == t) = false := by rw [beq_eq_false_iff_ne]; exact hne
  obtain ⟨s0, n0, c0, rfl, r1, r2, r3, r4, rfl, hs⟩ := hcut2
  rcases hs with ⟨rfl, rfl, rfl⟩ | ⟨g, rfl, ⟨rfl, rfl⟩ | ⟨hlt, rfl⟩⟩
  · obtain rfl : n0 = 0 := by omega
    obtain rfl : i = 0 := by omega
    go_enter Tryz.func89, Tryz.ntmps89
    go_upto_region 5 with (go_at_call 129; refine M.out.mono ?_; rintro e w' ⟨rfl, rfl⟩)
    go_wp2_with fail
    with_reducible refine Calls.mono T2.out ?_
    rintro e w1 ⟨rfl, k1⟩
    have kv1 := (keptCell k1 kb (fun f => f) 1).trans kv
    go_wp2_with fail
    with_reducible refine Calls.mono (MS.out _) ?_
    rintro e w2 ⟨rfl, k2⟩
    have k12 := k1.trans k2
    have kv2 := (keptCell k12 kb (fun f => f) 1).trans kv
    clear kv1
    go_wp2_with fail
    with_reducible refine Calls.mono (RM2.out w2 k12) ?_
    rintro e w3 ⟨s', n', c', rfl, hM⟩
    have hb := hM.blk
    rw [HQ.out] at hb
    have y1 := hb.cell (o := 1) rfl
    have y2 := hb.cell (o := 2) rfl
    have g1 := hb.frozen 1
    have g2 := hb.frozen 2
    have ylt := hb.lt
    have H2 := HD.out _ _ hM
    rw [show z = q + (t - f) by have := P3.out; omega] at H2
    have HH := Lib.hid H2
    have HE : Hid (t - f = size L - size l) := Lib.hid (by rw [HQ.out, HZ.out]; have := P3.out; omega)
    clear hM hb H2 HD kv2 k12 k1 k2
    go_wp2_with fail
    go_ret2
    exact ⟨_, by rw [HE.out]; rfl, HH.out⟩
  · obtain rfl : n0 = c0 := by omega
    rw [Nat.sub_self] at MS
    go_enter Tryz.func89, Tryz.ntmps89
    go_upto_region 5 with (go_at_call 129; refine M.out.mono ?_; rintro e w' ⟨rfl, rfl⟩)
    go_wp2_with fail
    with_reducible refine Calls.mono T2.out ?_
    rintro e w1 ⟨rfl, k1⟩
    have kv1 := (keptCell k1 kb (fun f => f) 1).trans kv
    go_wp2_with fail
    with_reducible refine Calls.mono (MS.out _) ?_
    rintro e w2 ⟨rfl, k2⟩
    have k12 := k1.trans k2
    have kv2 := (keptCell k12 kb (fun f => f) 1).trans kv
    clear kv1
    go_wp2_with fail
    with_reducible refine Calls.mono (RM2.out w2 k12) ?_
    rintro e w3 ⟨s', n', c', rfl, hM⟩
    have hb := hM.blk
    rw [HQ.out] at hb
    have y1 := hb.cell (o := 1) rfl
    have y2 := hb.cell (o := 2) rfl
    have g1 := hb.frozen 1
    have g2 := hb.frozen 2
    have ylt := hb.lt
    have H2 := HD.out _ _ hM
    rw [show z = q + (t - f) by have := P3.out; omega] at H2
    have HH := Lib.hid H2
    have HE : Hid (t - f = size L - size l) := Lib.hid (by rw [HQ.out, HZ.out]; have := P3.out; omega)
    clear hM hb H2 HD kv2 k12 k1 k2
    go_wp2_with fail
    go_ret2
    exact ⟨_, by rw [HE.out]; rfl, HH.out⟩
  · have hne1 : ¬ (c0 = i) := by omega
    go_enter Tryz.func89, Tryz.ntmps89
    go_upto_region 5 with (go_at_call 129; refine M.out.mono ?_; rintro e w' ⟨rfl, rfl⟩)
    go_wp2_with fail
    with_reducible refine Calls.mono T2.out ?_
    rintro e w1 ⟨rfl, k1⟩
    have kv1 := (keptCell k1 kb (fun f => f) 1).trans kv
    go_wp2_with fail
    with_reducible refine Calls.mono (MS.out _) ?_
    rintro e w2 ⟨rfl, k2⟩
    have k12 := k1.trans k2
    have kv2 := (keptCell k12 kb (fun f => f) 1).trans kv
    clear kv1
    go_wp2_with fail
    with_reducible refine Calls.mono (RM2.out w2 k12) ?_
    rintro e w3 ⟨s', n', c', rfl, hM⟩
    have hb := hM.blk
    rw [HQ.out] at hb
    have y1 := hb.cell (o := 1) rfl
    have y2 := hb.cell (o := 2) rfl
    have g1 := hb.frozen 1
    have g2 := hb.frozen 2
    have ylt := hb.lt
    have H2 := HD.out _ _ hM
    rw [show z = q + (t - f) by have := P3.out; omega] at H2
    have HH := Lib.hid H2
    have HE : Hid (t - f = size L - size l) := Lib.hid (by rw [HQ.out, HZ.out]; have := P3.out; omega)
    clear hM hb H2 HD kv2 k12 k1 k2
    go_wp2_with fail
    go_ret2
    exact ⟨_, by rw [HE.out]; rfl, HH.out⟩
end Go.Proofs.YtjjamooihddkgaaGreat.Iv

/- The set of ranges: Add where runs are touched. Conditions: each theorem's own. -/
namespace Go.Proofs.YtjjamooihddkgaaGreat.Iv
open Go.RowKit Hp IvM IvR IvN
attribute [local go_sem ↓] Go.wp_at_zero Go.wp_at_succ
set_option maxHeartbeats 8000000 in
set_option maxRecDepth 100000 in
theorem add_joined {w : World} {base b : Nat} {v : Value} {n : Int} {l : List Rg} (h : SetV w base b v n l) (hbase : base ≤ w.heap.size) {f t : Int} (hm : May n f t) (hne : f ≠ t) {A J B : List Rg} (c : Cut f t l A J B) (hJ0 : 0 < J.length) (hfew : l.length < 900000) :
    Calls Tryz.prog 89 #[.pointer (some ⟨b, 0, none⟩), .int .i64 f, .int .i64 t] w (AddP w base b v n l (A ++ (lo f J, hi t J) :: B)) := by
  have M := Lib.hid (may_yes h hm)
  obtain ⟨m0, m1, m2⟩ := hm
  have hl : l.length = A.length + (J.length + B.length) := by rw [c.all]; simp
  have htop := h.top
  obtain ⟨p1, p2, p3⟩ := put h.good c m0 (by omega) m2
  have s0 := size_nonneg h.good
  have s1 := size_le (x := 0) p1 (fun p hp => (p1.each p hp).1) htop.1
  have s2 := size_nonneg p1
  have s3 := size_le (x := 0) h.good (fun p hp => (h.good.each p hp).1) htop.1
  have T := Lib.hid (touched_any h c m1)
  have kv := h.blk.cell (o := 1) rfl
  have kb := h.blk.lt
  obtain ⟨sv, cv, rfl, q1, q2, q3⟩ := h.runs
  obtain ⟨g, rfl, g1, g2, g3, g4⟩ := q3.resolve_left (fun e => by obtain ⟨_, rfl, _⟩ := e; simp at hl; omega)
  have hpart := part_of (i := A.length) (j := 0) c rfl g2 g4
  have hPk : ∀ w', Kept (fun _ => False) w w' → Part w' (some ⟨g, A.length * 2, none⟩) J := fun w' k => by
    rcases hpart with e | ⟨g', o, e, hg, hc⟩
    · exact Or.inl e
    · exact Or.inr ⟨g', o, e, Nat.lt_of_lt_of_le hg k.size, fun i hi => ⟨(keptCell k hg (fun f => f) _).trans (hc i hi).1, (keptCell k hg (fun f => f) _).trans (hc i hi).2⟩⟩
  have hJe : ∀ p ∈ J, 0 ≤ p.1 ∧ p.1 < p.2 ∧ p.2 ≤ 1073741824 := fun p hp => h.each p (mem_touch c p hp)
  have MS := Lib.hid fun (w' : World) (k : Kept (fun _ => False) w w') => missing_any (s := some ⟨g, A.length * 2, none⟩) (cap := cv - A.length) (hPk w' k) hJe m0 (show f ≤ 1073741824 by omega) (show 0 ≤ t by omega) (show t ≤ 1073741824 by omega) (by omega)
  have RM := Lib.hid fun (w3 : World) (k3 : Kept (fun _ => False) w w3) => replace_mid h hbase c k3 (lo f J) (hi t J)
  have HD := Lib.hid fun (v' : Value) (w' : World) (m : Mid w base b (.slice (some ⟨g, 0, none⟩) l.length cv) n l (A ++ (lo f J, hi t J) :: B) v' w') => m.done h p1 (by rw [List.length_append, List.length_cons]; omega)
  -- the first and the last one
  have hat : ∀ k, k < J.length → l.getD (A.length + k) (0, 0) = J.getD k (0, 0) := fun k hk => by
    rw [List.getD, List.getD, c.all, List.getElem?_append_right (by omega), List.getElem?_append_left (by omega)]
    congr 2; omega
  have e0 := (g4 A.length (by omega)).1
  have e1 := (g4 (A.length + (J.length - 1)) (by omega)).2
  rw [hat (J.length - 1) (by omega)] at e1
  have hat0 := hat 0 hJ0
  rw [Nat.add_zero] at hat0
  rw [hat0] at e0
  have hlo : lo f J = min f (J.getD 0 (0, 0)).1 := by
    cases J with
    | nil => simp at hJ0
    | cons p r => rfl
  have hhi : hi t J = max t (J.getD (J.length - 1) (0, 0)).2 := by
    unfold hi
    rw [List.getLast?_eq_getElem?, List.getElem?_eq_getElem (by omega)]
    simp only []
    rw [getD_at (by omega)]
  generalize (J.getD 0 (0, 0)).1 = a0 at *
  generalize (J.getD (J.length - 1) (0, 0)).2 = b1 at *
  have LO := Lib.hid (hlo.trans (min_if f a0))
  have HI := Lib.hid (hhi.trans (max_if t b1))
  clear hlo hhi hat hat0 hpart hPk hJe p1 p2 c h g4 q3
  generalize A ++ (lo f J, hi t J) :: B = L at *
  generalize lo f J = x at *
  generalize hi t J = y at *
  generalize lap f t J = d at *
  obtain ⟨q, hq⟩ : ∃ q, size l = q := ⟨_, rfl⟩
  obtain ⟨z, hz⟩ : ∃ z, size L = z := ⟨_, rfl⟩
  have HQ := Lib.hid hq
  have HZ := Lib.hid hz
  have P3 := Lib.hid p3
  have u1 : IntKind.i64.wrap (q + (t - f - d)) = q + (t - f - d) := by rw [IntKind.wrap_i64]; omega
  rw [hz] at s1 HD
  clear hq hz p3 s0 s2 s3
  have hne0 : (f == t) = false := by rw [beq_eq_false_iff_ne]; exact hne
  obtain ⟨j, hj⟩ : ∃ j, A.length + J.length = j := ⟨_, rfl⟩
  have hjm : J.length = j - A.length := by omega
  rw [hj] at T RM
  rw [hjm] at MS e1 hJ0
  have i1 : A.length < cv := by omega
  have i2 : A.length < j := by omega
  have i3 : j ≤ l.length := by omega
  clear hj hjm hl
  generalize A.length = i at *
  generalize hln : l.length = len at *
  have hne1 : ¬ (cv = i) := by omega
  clear hln
  go_enter Tryz.func89, Tryz.ntmps89
  go_upto_region 5 with (go_at_call 129; refine M.out.mono ?_; rintro e w' ⟨rfl, rfl⟩)
  go_wp2_with fail
  with_reducible refine Calls.mono T.out ?_
  rintro e w1 ⟨rfl, k1⟩
  have kv1 := (keptCell k1 kb (fun f => f) 1).trans kv
  go_wp2_with fail
  with_reducible refine Calls.mono (MS.out _ k1) ?_
  rintro e w2 ⟨rfl, k2⟩
  have k12 := k1.trans k2
  have kv2 := (keptCell k12 kb (fun f => f) 1).trans kv
  have e0 := (keptCell k12 g2 (fun f => f) _).trans e0
  have e1 := (keptCell k12 g2 (fun f => f) _).trans e1
  clear kv1
  rw [show (i + (j - i - 1)) * 2 = i * 2 + (j - i - 1) * 2 by omega] at e1
  go_upto_region 9 with fail
  go_wp2_with fail
  with_reducible refine Calls.mono (min1 f a0 x _ _ LO.out ?_) ?_
  · simp
  rintro e w3 ⟨rfl, rfl⟩
  have k3 : Kept (fun _ => False) w (w2.alloc (.cells #[.int .i64 a0] 3)) := k12.alloc _
  have kv3 := (keptCell ((Kept.refl (fun _ => False) w2).alloc (.cells #[.int .i64 a0] 3)) (Nat.lt_of_lt_of_le kb k12.size) (fun f => f) 1).trans kv2
  have e3 := (keptCell ((Kept.refl (fun _ => False) w2).alloc (.cells #[.int .i64 a0] 3)) (Nat.lt_of_lt_of_le g2 k12.size) (fun f => f) _).trans e1
  generalize w2.alloc (.cells #[.int .i64 a0] 3) = w4 at *
  clear kv2 e0 e1
  have z1 : (0 : Int) ≤ ((j - i : Nat) : Int) - 1 := by omega
  have z2 : (((j - i : Nat) : Int) - 1).toNat = j - i - 1 := by omega
  have z3 : ((j - i : Nat) : Int) - 1 < ((j - i : Nat) : Int) := by omega
  go_upto_region 10 with fail
  go_wp2_with fail
  with_reducible refine Calls.mono (max1 t b1 y _ _ HI.out ?_) ?_
  · simp
  rintro e w5 ⟨rfl, rfl⟩
  have k5 : Kept (fun _ => False) w (w4.alloc (.cells #[.int .i64 b1] 3)) := k3.alloc _
  have kv5 := (keptCell ((Kept.refl (fun _ => False) w4).alloc (.cells #[.int .i64 b1] 3)) (Nat.lt_of_lt_of_le kb k3.size) (fun f => f) 1).trans kv3
  generalize w4.alloc (.cells #[.int .i64 b1] 3) = w6 at *
  clear kv3 e3 k3 z1 z2 z3
  go_wp2_with fail
  with_reducible refine Calls.mono (RM.out w6 k5) ?_
  rintro e w7 ⟨s', n', c', rfl, hM⟩
  have hb := hM.blk
  rw [HQ.out] at hb
  have y1 := hb.cell (o := 1) rfl
  have y2 := hb.cell (o := 2) rfl
  have yg1 := hb.frozen 1
  have yg2 := hb.frozen 2
  have ylt := hb.lt
  have H2 := HD.out _ _ hM
  have hzz : z = q + (t - f - d) := by rw [← HZ.out, ← HQ.out]; exact P3.out
  rw [hzz] at H2
  have HH := Lib.hid H2
  have HE : Hid (t - f - d = size L - size l) := Lib.hid (by have := P3.out; omega)
  clear hM hb H2 HD kv5 hzz
  go_wp2_with fail
  go_ret2
  exact ⟨_, by rw [HE.out]; rfl, HH.out⟩
theorem add_yes {w : World} {base b : Nat} {v : Value} {n : Int} {l : List Rg} (h : SetV w base b v n l) (hbase : base ≤ w.heap.size) {f t : Int} (hm : May n f t) (hne : f ≠ t) (hfew : l.length < 900000) :
    Calls Tryz.prog 89 #[.pointer (some ⟨b, 0, none⟩), .int .i64 f, .int .i64 t] w fun e w' => ∃ L, AddP w base b v n l L e w' ∧ L.length ≤ l.length + 1 ∧ (∀ x, IvM.Has L x ↔ IvM.Has l x ∨ (f ≤ x ∧ x < t)) := by
  obtain ⟨A, J, B, c⟩ := cut_ex h.good f t
  have hp := put h.good c hm.1 (by have := hm.2.1; omega) hm.2.2
  have hl : l.length = A.length + (J.length + B.length) := by rw [c.all]; simp
  have hlen : (A ++ (lo f J, hi t J) :: B).length ≤ l.length + 1 := by rw [List.length_append, List.length_cons]; omega
  rcases Nat.eq_zero_or_pos J.length with h0 | h0
  · obtain rfl : J = [] := List.length_eq_zero_iff.1 h0
    exact (add_apart h hbase hm hne c hfew).mono fun e w' hA => ⟨_, hA, hlen, hp.2.1⟩
  · exact (add_joined h hbase hm hne c h0 hfew).mono fun e w' hA => ⟨_, hA, hlen, hp.2.1⟩
end Go.Proofs.YtjjamooihddkgaaGreat.Iv

/- The set of ranges: New, Add in one, Sum, Front, Full. Conditions: each theorem's own. -/
namespace Go.Proofs.YtjjamooihddkgaaGreat.Iv
open Go.RowKit Hp IvM IvR IvN
attribute [local go_sem ↓] Go.wp_at_zero Go.wp_at_succ
theorem Own.of {b : Nat} {v : Value} {k : Nat} (h : Own b v k) : k = b ∨ v.ownBlock = some k := h
/-- What any Add leaves. -/
def AddQ (w : World) (base b : Nat) (v : Value) (n : Int) (l : List Rg) (f t : Int) (e : Ending) (w' : World) : Prop :=
  ∃ v' L k, e = .returned (.tuple #[.int .i64 (size L - size l), .int .i64 k]) ∧ Added w base b v n L v' w' ∧ L.length ≤ l.length + 1 ∧ (∀ x, IvM.Has L x ↔ IvM.Has l x ∨ (May n f t ∧ f ≤ x ∧ x < t))
theorem added_same {w : World} {base b : Nat} {v : Value} {n : Int} {l : List Rg} (h : SetV w base b v n l) : Added w base b v n l v w := ⟨h, Kept.refl _ w, fun g hg => Or.inl hg⟩
theorem add_any {w : World} {base b : Nat} {v : Value} {n : Int} {l : List Rg} (h : SetV w base b v n l) (hbase : base ≤ w.heap.size) (f t : Int) (hfew : l.length < 900000) :
    Calls Tryz.prog 89 #[.pointer (some ⟨b, 0, none⟩), .int .i64 f, .int .i64 t] w (AddQ w base b v n l f t) := by
  by_cases hm : May n f t
  · by_cases hne : f = t
    · subst hne
      refine (add_none h hm).mono ?_
      rintro e w' ⟨rfl, rfl⟩
      exact ⟨v, l, 0, by rw [Int.sub_self], added_same h, by omega, fun x => ⟨Or.inl, fun hx => hx.elim id (fun ⟨_, _, _⟩ => by omega)⟩⟩
    · refine (add_yes h hbase hm hne hfew).mono ?_
      rintro e w' ⟨L, ⟨v', rfl, hA⟩, hl, hx⟩
      exact ⟨v', L, 0, rfl, hA, hl, fun x => (hx x).trans ⟨fun h => h.elim Or.inl (fun h => Or.inr ⟨hm, h⟩), fun h => h.elim Or.inl (fun h => Or.inr h.2)⟩⟩
  · refine (add_no h hm).mono ?_
    rintro e w' ⟨rfl, rfl⟩
    exact ⟨v, l, 1, by rw [Int.sub_self], added_same h, by omega, fun x => ⟨Or.inl, fun hx => hx.elim id (fun ⟨h, _⟩ => absurd h hm)⟩⟩
theorem new_no {n : Int} (h : n < 0 ∨ 1073741824 < n) (w : World) : Calls Tryz.prog 125 #[.int .i64 n] w fun e w' => e = .returned (.tuple #[.pointer none, .int .i64 1]) ∧ w = w' := by
  have hc : n < 0 ∨ (¬ n < 0 ∧ 1073741824 < n) := by omega
  rcases hc with h1 | ⟨h1, h2⟩
  all_goals
    go_enter Tryz.func125, Tryz.ntmps125
    go_wp2_with fail
    go_ret2
    exact ⟨rfl, rfl⟩
def NewP (w : World) (n : Int) (e : Ending) (w' : World) : Prop := ∃ b, e = .returned (.tuple #[.pointer (some ⟨b, 0, none⟩), .int .i64 0]) ∧ SetV w' w.heap.size b (.slice none 0 0) n [] ∧ Kept (fun _ => False) w w'
theorem new_yes {n : Int} (h0 : 0 ≤ n) (h1 : n ≤ 1073741824) (w : World) : Calls Tryz.prog 125 #[.int .i64 n] w (NewP w n) := by
  have h2 : ¬ 1073741824 < n := by omega
  have h3 : ¬ n < 0 := by omega
  go_enter Tryz.func125, Tryz.ntmps125
  go_wp2_with fail
  go_ret2
  exact ⟨w.heap.size, rfl, ⟨Blk.new w [.int .i64 n, .slice none 0 0, .int .i64 0] _, Row.none _ _, by simp [Value.ownBlock], Nat.le_refl _, IvM.Good.nil n, ⟨h0, h1⟩, by simp⟩, (Kept.refl _ w).alloc _⟩
theorem sum_nil (w : World) : Calls Tryz.prog 99 #[.pointer none] w fun e w' => e = .returned (.int .i64 0) ∧ w = w' := by
  go_enter Tryz.func99, Tryz.ntmps99
  go_wp2_with fail
  go_ret
  exact ⟨rfl, rfl⟩
theorem sum_any {w : World} {base b : Nat} {v : Value} {n : Int} {l : List Rg} (h : SetV w base b v n l) : Calls Tryz.prog 99 #[.pointer (some ⟨b, 0, none⟩)] w fun e w' => e = .returned (.int .i64 (size l)) ∧ w = w' := by
  have c2 := h.blk.cell (o := 2) rfl
  clear h
  go_enter Tryz.func99, Tryz.ntmps99
  go_wp2_with fail
  go_ret
  exact ⟨rfl, rfl⟩
theorem front_nil (w : World) : Calls Tryz.prog 135 #[.pointer none] w fun e w' => e = .returned (.int .i64 0) ∧ w = w' := by
  go_enter Tryz.func135, Tryz.ntmps135
  go_wp2_with fail
  go_ret
  exact ⟨rfl, rfl⟩
set_option maxHeartbeats 2000000 in
theorem front_any {w : World} {base b : Nat} {v : Value} {n : Int} {l : List Rg} (h : SetV w base b v n l) : Calls Tryz.prog 135 #[.pointer (some ⟨b, 0, none⟩)] w fun e w' => e = .returned (.int .i64 (front l)) ∧ w = w' := by
  have c1 := h.blk.cell (o := 1) rfl
  obtain ⟨s, cap, rfl, q1, q2, q3⟩ := h.runs
  cases l with
  | nil =>
    clear q3 h
    go_enter Tryz.func135, Tryz.ntmps135
    go_wp2_with fail
    go_ret
    exact ⟨rfl, rfl⟩
  | cons p r =>
    obtain ⟨g, rfl, g1, g2, g3, g4⟩ := q3.resolve_left (fun e => by simp at e)
    obtain ⟨x, y⟩ := p
    have e0 : w.cell? ⟨g, 0, none⟩ = some (.int .i64 x) := by simpa using (g4 0 (by simp)).1
    have e1 : w.cell? ⟨g, 1, none⟩ = some (.int .i64 y) := by simpa using (g4 0 (by simp)).2
    obtain ⟨m, hm⟩ : ∃ m, ((x, y) :: r).length = m := ⟨_, rfl⟩
    rw [hm] at c1
    have hm0 : 0 < m := by rw [← hm]; simp
    have hm1 : ((m : Int) == 0) = false := by rw [beq_eq_false_iff_ne]; omega
    clear q3 h g4 q1 hm
    by_cases hx : 0 < x
    · have e : front ((x, y) :: r) = 0 := if_pos hx
      rw [e]
      clear e
      go_enter Tryz.func135, Tryz.ntmps135
      go_wp2_with fail
      go_ret
      exact ⟨rfl, rfl⟩
    · have e : front ((x, y) :: r) = y := if_neg hx
      rw [e]
      clear e
      go_enter Tryz.func135, Tryz.ntmps135
      go_wp2_with fail
      go_ret
      exact ⟨rfl, rfl⟩
theorem full_nil (w : World) : Calls Tryz.prog 90 #[.pointer none] w fun e w' => e = .returned (.bool false) ∧ Kept (fun _ => False) w w' := by
  go_enter Tryz.func90, Tryz.ntmps90
  go_wp2_with fail
  go_quiet (fail)
  go_wp2_with fail
  go_ret
  exact ⟨rfl, (Kept.refl _ w).drewN _⟩
theorem full_any {w : World} {base b : Nat} {v : Value} {n : Int} {l : List Rg} (h : SetV w base b v n l) : Calls Tryz.prog 90 #[.pointer (some ⟨b, 0, none⟩)] w fun e w' => e = .returned (.bool (front l == n)) ∧ Kept (fun _ => False) w w' := by
  have c0 := h.blk.cell (o := 0) rfl
  have F := Lib.hid fun (q : Nat) => front_any (h.drewN q)
  clear h
  generalize front l = y at *
  go_enter Tryz.func90, Tryz.ntmps90
  go_wp2_with fail
  go_quiet ((go_at_call 135; exact Calls.quiet_of_same ((F.out _).mono fun _ _ ⟨e1, e2⟩ => ⟨e1, e2.symm⟩)))
  go_wp2_with fail
  go_ret
  exact ⟨rfl, (Kept.refl _ w).drewN _⟩
end Go.Proofs.YtjjamooihddkgaaGreat.Iv

/- Messages in pieces: may, Count, piece, Piece, At. Conditions: each theorem's own. -/
namespace Go.Proofs.YtjjamooihddkgaaGreat.Sg
open Go.RowKit Hp IvM IvR IvN SgM
attribute [local go_sem ↓] Go.wp_at_zero Go.wp_at_succ
theorem ret_int {k : IntKind} {a b : Int} (h : a = b) : Ending.returned (.int k a) = .returned (.int k b) := by rw [h]
theorem may_yes {t m : Int} (h : May t m) (w : World) : Calls Tryz.prog 160 #[.int .i64 t, .int .i64 m] w fun e w' => e = .returned (.bool true) ∧ w = w' := by
  obtain ⟨h1, h2, h3, h4⟩ := h
  go_enter Tryz.func160, Tryz.ntmps160
  go_wp2_with fail
  go_ret
  exact ⟨rfl, rfl⟩
theorem may_no {t m : Int} (h : ¬ May t m) (w : World) : Calls Tryz.prog 160 #[.int .i64 t, .int .i64 m] w fun e w' => e = .returned (.bool false) ∧ w = w' := by
  have hc : ¬ 0 ≤ t ∨ (0 ≤ t ∧ ¬ t ≤ 1073741824) ∨ (0 ≤ t ∧ t ≤ 1073741824 ∧ ¬ 1 ≤ m) ∨ (0 ≤ t ∧ t ≤ 1073741824 ∧ 1 ≤ m ∧ decide (m ≤ 1048576) = false) := by
    rw [decide_eq_false_iff_not]; unfold May at h; omega
  clear h
  rcases hc with h1 | ⟨h1, h2⟩ | ⟨h1, h2, h3⟩ | ⟨h1, h2, h3, h4⟩
  all_goals
    go_enter Tryz.func160, Tryz.ntmps160
    go_wp2_with fail
    go_ret
    exact ⟨rfl, rfl⟩
set_option maxHeartbeats 1000000 in
theorem count_any (t m : Int) (w : World) : Calls Tryz.prog 161 #[.int .i64 t, .int .i64 m] w fun e w' => e = .returned (.int .i64 (cnt t m)) ∧ Kept (fun _ => False) w w' := by
  by_cases h : May t m
  · have M := Lib.hid (may_yes h w)
    have hc := cnt_yes h
    obtain ⟨h1, h2, h3, h4⟩ := id h
    have hb := div_in (x := t + m - 1) h3 (by omega) (by omega)
    generalize cnt t m = n at *
    have hq0 : 0 ≤ t + m - 1 := by omega
    have HC := Lib.hid hc
    have hm0 : ¬ m = 0 := by omega
    have hm1 : (m == 0) = false := by rw [beq_eq_false_iff_ne]; exact hm0
    clear hc h
    go_enter Tryz.func161, Tryz.ntmps161
    go_wp2_with (go_at_call 160; refine M.out.mono ?_; rintro e w' ⟨rfl, rfl⟩)
    with_reducible refine Calls.mono (max1 _ _ _ _ _ HC.out ?_) ?_
    · simp
    rintro e w1 ⟨rfl, rfl⟩
    go_wp2_with fail
    go_ret
    exact ⟨rfl, (Kept.refl _ w).alloc _⟩
  · have M := Lib.hid (may_no h w)
    rw [cnt_no h]
    clear h
    go_enter Tryz.func161, Tryz.ntmps161
    go_wp2_with (go_at_call 160; refine M.out.mono ?_; rintro e w' ⟨rfl, rfl⟩)
    go_ret
    exact ⟨rfl, Kept.refl _ w⟩
/-- A piece as a value. -/
def rv (p : Rg) : Value := .agg #[.int .i64 p.1, .int .i64 p.2]
set_option maxHeartbeats 1000000 in
theorem piece_any {t m k : Int} (hk : 0 ≤ k) (hk2 : k ≤ 2147483648) (hm : 1 ≤ m) (hm2 : m ≤ 1048576) (w : World) :
    Calls Tryz.prog 162 #[.int .i64 t, .int .i64 m, .int .i64 k] w fun e w' => e = .returned (rv (pc t m k)) ∧ Kept (fun _ => False) w w' := by
  obtain ⟨h0, h1⟩ := mulM hk hk2 hm hm2
  obtain ⟨x, hx⟩ : ∃ x, x = min (k * m + m) t := ⟨_, rfl⟩
  have HX := Lib.hid (hx.trans (min_if _ _))
  have hp : rv (pc t m k) = .agg #[.int .i64 (k * m), .int .i64 x] := by rw [hx]; rfl
  rw [hp]
  clear hp hx
  go_enter Tryz.func162, Tryz.ntmps162
  go_wp2_with fail
  with_reducible refine Calls.mono (min1 _ _ _ _ _ HX.out ?_) ?_
  · simp
  rintro e w1 ⟨rfl, rfl⟩
  go_wp2_with fail
  exact bodyPost_ret (v := .agg #[.int .i64 (k * m), .int .i64 x]) (by simp [results, Tryz.results162, go_sem]) rfl ⟨rfl, ((Kept.refl _ w).alloc _).alloc _⟩
/-- A result that lies in a cell of two, and a number beside it. -/
theorem setTwo {w0 w : World} {b : Nat} (k : Kept (fun _ => False) w0 w) (hb : w0.heap.size ≤ b) (v u : Value) :
    Kept (fun _ => False) w0 ((w.setCell ⟨b, 0, none⟩ v).setCell ⟨b, 1, none⟩ u) := (k.set (fun h => by omega) 0 v).set (fun h => by omega) 1 u
set_option maxHeartbeats 1000000 in
theorem Piece_yes {t m k : Int} (h : May t m) (hk : 0 ≤ k) (hk2 : k < cnt t m) (w : World) :
    Calls Tryz.prog 137 #[.int .i64 t, .int .i64 m, .int .i64 k] w fun e w' => e = .returned (.tuple #[rv (pc t m k), .int .i64 0]) ∧ Kept (fun _ => False) w w' := by
  have hc := cnt_le h
  have C := Lib.hid fun w => count_any t m w
  have P := Lib.hid fun w => piece_any (t := t) (m := m) hk (by omega) h.2.2.1 h.2.2.2 w
  generalize cnt t m = n at *
  obtain ⟨p, hp⟩ : ∃ p, p = pc t m k := ⟨_, rfl⟩
  rw [← hp] at P ⊢
  clear hp h
  obtain ⟨x, y⟩ := p
  have hk3 : ¬ k < 0 := by omega
  have hk4 : decide (n ≤ k) = false := by rw [decide_eq_false_iff_not]; omega
  go_enter Tryz.func137, Tryz.ntmps137
  go_wp2_with fail
  with_reducible refine Calls.mono (C.out _) ?_
  rintro e w1 ⟨rfl, k1⟩
  have hB := k1.blk (Blk.new w [.int .i64 0, .int .i64 0] 196) (fun f => f)
  have k1' := ((Kept.refl (fun _ => False) w).alloc (.cells #[.int .i64 0, .int .i64 0] 196)).trans k1
  clear k1
  go_wp2_with fail
  with_reducible refine Calls.mono (P.out _) ?_
  rintro e w2 ⟨rfl, k2⟩
  have hB2 := k2.blk hB (fun f => f)
  have k2' := k1'.trans k2
  have c0 := hB2.cell (o := 0) rfl
  have c1 := hB2.cell (o := 1) rfl
  have z0 := hB2.frozen 0
  have z1 := hB2.frozen 1
  have hz := hB2.lt
  generalize hbe : w.heap.size = b at *
  have HBE := Lib.hid hbe
  clear hbe k1' k2 hB hB2
  unfold rv
  go_wp2_with fail
  exact bodyPost_ret (v := .tuple #[.agg #[.int .i64 x, .int .i64 y], .int .i64 0]) (by simp [results, Tryz.results137, go_sem, c0, c1]) rfl ⟨rfl, setTwo k2' (Nat.le_of_eq HBE.out) _ _⟩
set_option maxHeartbeats 1000000 in
theorem at_any (t m o : Int) (w : World) : Calls Tryz.prog 136 #[.int .i64 t, .int .i64 m, .int .i64 o] w fun e w' => e = .returned (.int .i64 (at' t m o)) ∧ Kept (fun _ => False) w w' := by
  by_cases h : May t m
  · have M := Lib.hid (may_yes h w)
    obtain ⟨mx, hmx⟩ : ∃ x, x = max 1 t := ⟨_, rfl⟩
    have HX := Lib.hid (hmx.trans (max_if _ _))
    by_cases h0 : 0 ≤ o
    · have h0' : ¬ o < 0 := by omega
      by_cases h1 : o < mx
      · rw [at_yes h h0 (by omega)]
        obtain ⟨g0, g1, g2, g3⟩ := h
        have hb := div_in (x := o) g2 h0 (by omega)
        have hm0 : ¬ m = 0 := by omega
        have hm1 : (m == 0) = false := by rw [beq_eq_false_iff_ne]; exact hm0
        have h2 : decide (mx ≤ o) = false := by rw [decide_eq_false_iff_not]; omega
        have ho : o ≤ 1073741824 := by omega
        clear hmx
        go_enter Tryz.func136, Tryz.ntmps136
        go_wp2_with (go_at_call 160; refine M.out.mono ?_; rintro e w' ⟨rfl, rfl⟩)
        with_reducible refine Calls.mono (max1 _ _ _ _ _ HX.out ?_) ?_
        · simp
        rintro e w1 ⟨rfl, rfl⟩
        go_wp2_with fail
        go_ret
        exact ⟨rfl, (Kept.refl _ w).alloc _⟩
      · rw [at_no (by omega)]
        have h2 : decide (mx ≤ o) = true := decide_eq_true (by omega)
        clear hmx h
        go_enter Tryz.func136, Tryz.ntmps136
        go_wp2_with (go_at_call 160; refine M.out.mono ?_; rintro e w' ⟨rfl, rfl⟩)
        with_reducible refine Calls.mono (max1 _ _ _ _ _ HX.out ?_) ?_
        · simp
        rintro e w1 ⟨rfl, rfl⟩
        go_wp2_with fail
        go_ret
        exact ⟨rfl, (Kept.refl _ w).alloc _⟩
    · rw [at_no (by omega)]
      have h2 : decide (o < 0) = true := decide_eq_true (by omega)
      clear hmx h
      go_enter Tryz.func136, Tryz.ntmps136
      go_wp2_with (go_at_call 160; refine M.out.mono ?_; rintro e w' ⟨rfl, rfl⟩)
      go_ret
      exact ⟨rfl, Kept.refl _ w⟩
  · have M := Lib.hid (may_no h w)
    rw [at_no (fun g => h g.1)]
    clear h
    go_enter Tryz.func136, Tryz.ntmps136
    go_wp2_with (go_at_call 160; refine M.out.mono ?_; rintro e w' ⟨rfl, rfl⟩)
    go_ret
    exact ⟨rfl, Kept.refl _ w⟩
end Go.Proofs.YtjjamooihddkgaaGreat.Sg

/- Arguments that are slices of numbers, or of structs of numbers: opened, read, handed back. Conditions: each theorem's own. -/
namespace Go.Proofs.YtjjamooihddkgaaGreat.Opn
open Go.ChangeShapes Go.WideShapes Go.RowKit Go.Deep Hp Go.Proofs.YtjjamooihddkgaaGreat.End
theorem keptCell {F : Nat → Prop} {w w' : World} (h : Kept F w w') {k : Nat} (hk : k < w.heap.size) (hF : ¬ F k) (o : Nat) : w'.cell? ⟨k, o, none⟩ = w.cell? ⟨k, o, none⟩ := by
  simp [World.cell?, h.block k hk hF]
/-- A slice of numbers that was there at the call. -/
def Ints (w : World) (s : Option Addr) (cap : Nat) (zs : List Int) : Prop :=
  zs.length ≤ cap ∧ (∀ n ∈ zs, (Lit.int .i64 n).wf = true) ∧ (zs = [] ∨ ∃ b off, s = some ⟨b, off, none⟩ ∧ b < w.heap.size ∧ ∀ j, j < zs.length → w.cell? ⟨b, off + j, none⟩ = some (.int .i64 (zs.getD j 0)))
theorem Ints.at {w w' : World} {s : Option Addr} {cap : Nat} {zs : List Int} (h : Ints w s cap zs) (k : Old w w') {j : Nat} (hj : j < zs.length) :
    ∃ b off, s = some ⟨b, off, none⟩ ∧ b < w.heap.size ∧ w'.cell? ⟨b, off + j, none⟩ = some (.int .i64 zs[j]) := by
  rcases h.2.2 with rfl | ⟨b, off, rfl, hb, hc⟩
  · simp at hj
  · refine ⟨b, off, rfl, hb, ?_⟩
    rw [keptCell k hb (fun h => h) (off + j), hc j hj]
    simp [List.getD, List.getElem?_eq_getElem hj]
theorem Ints.wf {w : World} {s : Option Addr} {cap : Nat} {zs : List Int} (h : Ints w s cap zs) {j : Nat} (hj : j < zs.length) : -9223372036854775808 ≤ zs[j] ∧ zs[j] ≤ 9223372036854775807 :=
  bounds_i64 (h.2.1 _ (List.getElem_mem hj))
/-- A slice of structs of m numbers that was there at the call. -/
def Structs (w : World) (s : Option Addr) (cap m : Nat) (zs : List (List Int)) : Prop :=
  zs.length ≤ cap ∧ (∀ r ∈ zs, r.length = m ∧ ∀ n ∈ r, (Lit.int .i64 n).wf = true) ∧
  (zs = [] ∨ ∃ b off, s = some ⟨b, off, none⟩ ∧ b < w.heap.size ∧ ∀ i, i < zs.length → ∀ j, j < m → w.cell? ⟨b, off + i * m + j, none⟩ = some (.int .i64 ((zs.getD i []).getD j 0)))
theorem Structs.cell {w w' : World} {s : Option Addr} {cap m : Nat} {zs : List (List Int)} (h : Structs w s cap m zs) (k : Old w w') {i j : Nat} (hi : i < zs.length) (hj : j < m) :
    ∃ b off, s = some ⟨b, off, none⟩ ∧ b < w.heap.size ∧ w'.cell? ⟨b, off + i * m + j, none⟩ = some (.int .i64 ((zs.getD i []).getD j 0)) := by
  rcases h.2.2 with rfl | ⟨b, off, rfl, hb, hc⟩
  · simp at hi
  · exact ⟨b, off, rfl, hb, by rw [keptCell k hb (fun h => h), hc i hi j hj]⟩
theorem Structs.wf {w : World} {s : Option Addr} {cap m : Nat} {zs : List (List Int)} (h : Structs w s cap m zs) {i j : Nat} (hi : i < zs.length) (hj : j < m) :
    -9223372036854775808 ≤ (zs.getD i []).getD j 0 ∧ (zs.getD i []).getD j 0 ≤ 9223372036854775807 := by
  have e : zs.getD i [] = zs[i] := by simp [List.getD, List.getElem?_eq_getElem hi]
  obtain ⟨hl, hn⟩ := h.2.1 zs[i] (List.getElem_mem hi)
  have hj' : j < zs[i].length := by omega
  have e2 : zs[i].getD j 0 = zs[i][j] := by simp [List.getD, List.getElem?_eq_getElem hj']
  rw [e, e2]
  exact bounds_i64 (hn _ (List.getElem_mem hj'))
theorem laidOut : laidOutB Tryz.prog = true := by kernel_rfl
theorem back {H : Type} {enc : TypeId × Value → H} {W W' : World} {t : TypeId} {v : Value} {d : DataW H} {p : List MemPlace} {sp : Nat → Bool} (h1 : Tryz.prog.readableRec t = true) (h2 : t < Tryz.prog.types.size)
    (h : DataW.Trod enc Tryz.prog W 0 (fun _ => true) true t v d p)
    (hb : Old W W') (hlt : ∀ x ∈ p, x.block < W.heap.size) (hs : ∀ x ∈ p, sp x.block = true) : DataW.Trod enc Tryz.prog W' 0 sp true t v d p :=
  WideElems.Trod_stays laidOut h1 h2 h (fun x hx => hb.below.same (hlt x hx)) (fun x hx => hs x hx)
set_option maxRecDepth 100000 in
theorem ints_of {H : Type} {enc : TypeId × Value → H} {W : World} {base : Nat} {t e : TypeId} {v : Value} {d : DataW H} {p : List MemPlace} (ht : Tryz.prog.underlying t = some (.slice e)) (he : Tryz.prog.underlying e = some (.int .i64)) (hC : Tryz.prog.cellsOf e = 1)
    (hv : Value.okWide Tryz.prog W .any base t v) (h : DataW.Trod enc Tryz.prog W 0 (fun _ => true) true t v d p) : ∃ s cap zs, v = .slice s (List.length zs) cap ∧ Ints W s cap zs := by
  obtain ⟨a, len, cap, rfl⟩ := okWide_slice ht hv
  obtain ⟨_, hf⟩ := h
  rcases open_ints ht he hC hf with ⟨hcs, hx⟩ | ⟨a', len', cap', zs, hcs, _, hl, hm, hz, hx, hcell, hwz⟩
  · simp [Value.cells] at hcs
    obtain ⟨rfl, rfl, rfl⟩ := hcs
    exact ⟨none, 0, [], rfl, Nat.le_refl _, by simp, Or.inl rfl⟩
  · simp [Value.cells] at hcs
    obtain ⟨rfl, rfl, rfl⟩ := hcs
    simp only [if_true] at hz
    have hlen : (zs.take len).length = len := by rw [List.length_take]; omega
    refine ⟨some a', cap, zs.take len, by rw [hlen], by omega, fun n hn => hwz n (List.mem_of_mem_take hn), ?_⟩
    by_cases h0 : len = 0
    · left; rw [h0]; rfl
    · right
      obtain ⟨b, off, rfl, hc⟩ := ints_at hcell (by omega)
      refine ⟨b, off, rfl, ?_, fun j hj => ?_⟩
      · exact World.block_lt_of_cell? W _ (hc 0 (by omega))
      · rw [hc j (by omega)]
        have : j < len := by omega
        simp [List.getD, this]
/-- The cells of one struct of numbers are numbers. -/
theorem struct_ints {H : Type} {enc : TypeId × Value → H} {W : World} {base fuel : Nat} {sp : Nat → Bool} {held : Bool} {e : TypeId} {fs : Array Field} {cs : List Value} {x : DataW H × List MemPlace} (he : Tryz.prog.underlying e = some (.struct fs)) (hone : oneCellFields Tryz.prog fs = true) (hC : Tryz.prog.cellsOf e = fs.size)
    (hint : ∀ (j : Nat) (f : Field), fs[j]? = some f → Tryz.prog.underlying f.type = some (.int .i64)) (h : DataW.trod enc Tryz.prog W base sp held fuel e cs = some x) :
    ∃ r : List Int, r.length = fs.size ∧ (∀ n ∈ r, (Lit.int .i64 n).wf = true) ∧ ∀ j, j < fs.size → cs[j]? = some (.int .i64 (r.getD j 0)) := by
  obtain ⟨ys, n', _, _, hlen, hyl, hf⟩ := DataW.trod_struct he h
  have each : ∀ j, j < fs.size → ∃ n : Int, cs[j]? = some (.int .i64 n) ∧ (Lit.int .i64 n).wf = true := by
    intro j hj
    have hfj : fs[j]? = some fs[j] := Array.getElem?_eq_getElem hj
    obtain ⟨ho, hk⟩ := hone_of hone j _ hfj
    have h1 := hf j _ hfj
    rw [ho, hk, List.getElem?_eq_getElem (show j < ys.length by omega)] at h1
    obtain ⟨n, e1, _, e3⟩ := DataW.trod_int (hint j _ hfj) h1
    refine ⟨n, ?_, e3⟩
    have := congrArg (fun l : List Value => l[0]?) e1
    simpa [List.getElem?_take, List.getElem?_drop] using this
  refine ⟨(List.range fs.size).map fun j => intOf (cs.getD j (.bool false)), by simp, ?_, ?_⟩
  · intro n hn
    obtain ⟨j, hj, rfl⟩ := List.mem_map.1 hn
    obtain ⟨m, e1, e2⟩ := each j (List.mem_range.1 hj)
    simpa [List.getD, e1, intOf] using e2
  · intro j hj
    obtain ⟨m, e1, e2⟩ := each j hj
    rw [e1]
    simp [List.getD, hj, e1, intOf]
set_option maxRecDepth 100000 in
theorem structs_of {H : Type} {enc : TypeId × Value → H} {W : World} {base : Nat} {t e : TypeId} {fs : Array Field} {v : Value} {d : DataW H} {p : List MemPlace} (ht : Tryz.prog.underlying t = some (.slice e)) (he : Tryz.prog.underlying e = some (.struct fs)) (hone : oneCellFields Tryz.prog fs = true) (hC : Tryz.prog.cellsOf e = fs.size) (h0 : 0 < fs.size)
    (hint : ∀ (j : Nat) (f : Field), fs[j]? = some f → Tryz.prog.underlying f.type = some (.int .i64))
    (hv : Value.okWide Tryz.prog W .any base t v) (h : DataW.Trod enc Tryz.prog W 0 (fun _ => true) true t v d p) : ∃ s cap zs, v = .slice s (List.length zs) cap ∧ Structs W s cap fs.size zs := by
  obtain ⟨a, len, cap, rfl⟩ := okWide_slice ht hv
  obtain ⟨_, hf⟩ := h
  rcases open_slice ht hf with ⟨hcs, hx⟩ | ⟨a', len', cap', m, n, D, Pl, hcs, _, hl, _, hm, _, hi⟩
  · simp [Value.cells] at hcs
    obtain ⟨rfl, rfl, rfl⟩ := hcs
    exact ⟨none, 0, [], rfl, Nat.le_refl _, by simp, Or.inl rfl⟩
  · simp [Value.cells] at hcs
    obtain ⟨rfl, rfl, rfl⟩ := hcs
    simp only [if_true] at hm
    have each : ∀ i, i < len → ∃ r : List Int, r.length = fs.size ∧ (∀ n ∈ r, (Lit.int .i64 n).wf = true) ∧ ∀ j, j < fs.size → W.cell? ((a'.add (i * fs.size)).add j) = some (.int .i64 (r.getD j 0)) := by
      intro i hil
      obtain ⟨cs', hc, ht'⟩ := hi i (by omega)
      rw [hC] at hc
      obtain ⟨_, hcl, hat⟩ := World.cells?_some hc
      obtain ⟨r, r1, r2, r3⟩ := struct_ints he hone hC hint ht'
      exact ⟨r, r1, r2, fun j hj => by rw [hat j hj, r3 j hj]⟩
    have ex : ∃ Z : Nat → List Int, ∀ i, i < len → (Z i).length = fs.size ∧ (∀ n ∈ Z i, (Lit.int .i64 n).wf = true) ∧ ∀ j, j < fs.size → W.cell? ((a'.add (i * fs.size)).add j) = some (.int .i64 ((Z i).getD j 0)) := by
      classical
      exact ⟨fun i => if h : i < len then (each i h).choose else [], fun i h => by simp only [dif_pos h]; exact (each i h).choose_spec⟩
    obtain ⟨Z, hZ⟩ := ex
    have hlen : ((List.range len).map Z).length = len := by simp
    have hget : ∀ i, i < len → ((List.range len).map Z).getD i [] = Z i := fun i hi => by simp [List.getD, hi]
    refine ⟨some a', cap, (List.range len).map Z, by rw [hlen], by omega, ?_, ?_⟩
    · intro r hr
      obtain ⟨i, hi, rfl⟩ := List.mem_map.1 hr
      have := hZ i (List.mem_range.1 hi)
      exact ⟨this.1, this.2.1⟩
    · by_cases hz : len = 0
      · left; rw [hz]; rfl
      · right
        have hp : 0 < len := by omega
        have first : ∀ j, j < [(Z 0).getD 0 0].length → W.cell? (a'.add j) = some (.int .i64 ([(Z 0).getD 0 0].getD j 0)) := fun j hj => by
          obtain rfl : j = 0 := by simp at hj; omega
          have := (hZ 0 hp).2.2 0 h0
          simpa [Addr.add] using this
        obtain ⟨b, off, rfl, hc⟩ := ints_at first (by simp)
        refine ⟨b, off, rfl, World.block_lt_of_cell? W _ (hc 0 (by simp)), fun i hi j hj => ?_⟩
        rw [hlen] at hi
        rw [hget i hi]
        have := (hZ i hi).2.2 j hj
        rw [Go.WideShapes.add_plain, Go.WideShapes.add_plain] at this
        exact this
end Go.Proofs.YtjjamooihddkgaaGreat.Opn

