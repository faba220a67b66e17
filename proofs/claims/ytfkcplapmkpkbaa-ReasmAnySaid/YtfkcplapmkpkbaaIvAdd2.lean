/- The set of ranges: Add. Conditions: each theorem's own. -/
import Derived.Test.YtfkcplapmkpkbaaIvAdd
set_option linter.unusedVariables false
namespace Go.Proofs.Ytfkcplapmkpkbaa.Iv
open Go.RowKit Hp IvM IvR IvN
attribute [local go_sem ↓] Go.wp_at_zero Go.wp_at_succ
/-- What Replace leaves of a set: the runs anew, the set not yet told. -/
structure Mid (w : World) (base b : Nat) (v : Value) (n : Int) (l L : List Rg) (v' : Value) (w' : World) : Prop where
  blk : Blk w' b [.int .i64 n, v, .int .i64 (size l)] 52
  row : Row w' base v' L
  own : v'.ownBlock ≠ some b
  kept : Kept (fun k => v.ownBlock = some k) w w'
  lies : ∀ g, v'.ownBlock = some g → v.ownBlock = some g ∨ w.heap.size ≤ g
def Own (b : Nat) (v : Value) (k : Nat) : Prop := k = b ∨ v.ownBlock = some k
/-- What an Add leaves. -/
structure Added (w : World) (base b : Nat) (v : Value) (n : Int) (L : List Rg) (v' : Value) (w' : World) : Prop where
  set : SetV w' base b v' n L
  kept : Kept (Own b v) w w'
  lies : ∀ g, v'.ownBlock = some g → v.ownBlock = some g ∨ w.heap.size ≤ g
theorem Mid.done {w w' : World} {base b : Nat} {v v' : Value} {n : Int} {l L : List Rg} (m : Mid w base b v n l L v' w') (h : SetV w base b v n l) (hL : IvM.Good n L) (hf : L.length ≤ 900000) :
    Added w base b v n L v' ((w'.setCell ⟨b, 1, none⟩ v').setCell ⟨b, 2, none⟩ (.int .i64 (size L))) := by
  have hk : Kept (fun k => k = b) w' ((w'.setCell ⟨b, 1, none⟩ v').setCell ⟨b, 2, none⟩ (.int .i64 (size L))) := (Kept.one w' b 1 _).set (fun _ => rfl) 2 _
  refine ⟨⟨(m.blk.set 1 v').set 2 _, m.row.kept hk (fun g hg e => m.own (by rw [hg, e])), m.own, h.low, hL, h.top, hf⟩, ?_, m.lies⟩
  exact (m.kept.mono (fun k _ e => Or.inr e)).trans (hk.mono (fun k _ e => Or.inl e))
theorem replace_mid {w w3 : World} {base b : Nat} {v : Value} {n : Int} {l : List Rg} (h : SetV w base b v n l) (hbase : base ≤ w.heap.size) {f t : Int} {A J B : List Rg} (c : Cut f t l A J B) (k3 : Kept (fun _ => False) w w3) (x y : Int) :
    Calls Try.prog 31 #[v, .int .i64 (A.length : Nat), .int .i64 (A.length + J.length : Nat), .slice (some ⟨w3.heap.size, 0, none⟩) 1 1] (w3.alloc (.cells #[.int .i64 x, .int .i64 y] 59))
      fun e w' => ∃ s' n' c', e = .returned (.slice s' n' c') ∧ Mid w base b v n l (A ++ (x, y) :: B) (.slice s' n' c') w' := by
  have hl : l.length = A.length + (J.length + B.length) := by rw [c.all]; simp
  have k4 : Kept (fun _ => False) w (w3.alloc (.cells #[.int .i64 x, .int .i64 y] 59)) := k3.alloc _
  have h4 := h.old k4
  have hv : Blk (w3.alloc (.cells #[.int .i64 x, .int .i64 y] 59)) w3.heap.size (rc (x, y)) 59 := Blk.new w3 (rc (x, y)) _
  have hs := k3.size
  have hne : v.ownBlock ≠ some w3.heap.size := fun e => by have := (h.row.lt _ e).2; omega
  have e1 : l.take A.length ++ (x, y) :: l.drop (A.length + J.length) = A ++ (x, y) :: B := by
    have e2 : l.take A.length = A := by rw [c.all, List.take_left]
    have e3 : l.drop (A.length + J.length) = B := by
      rw [c.all, ← List.append_assoc, ← List.length_append, List.drop_left]
    rw [e2, e3]
  refine (rep_any h4.row (Nat.le_add_right _ _) (by omega) hv hne h.few (by have := k4.size; omega)).mono ?_
  rintro e w' ⟨v', rfl, hA⟩
  rw [e1] at hA
  have hform : ∃ s' n' c', v' = .slice s' n' c' := by
    rcases hA.row.form with ⟨rfl, _⟩ | ⟨g, cap, cur, rfl, _⟩
    · exact ⟨_, _, _, rfl⟩
    · exact ⟨_, _, _, rfl⟩
  obtain ⟨s', n', c', rfl⟩ := hform
  have hb := h.blk.lt
  have h4s := k4.size
  refine ⟨s', n', c', rfl, ⟨hA.kept.blk h4.blk (fun e => h.own e), hA.row, fun e => ?_, (k4.mono (fun _ _ f => f.elim)).trans hA.kept, fun g hg => ?_⟩⟩
  · rcases hA.lies b e with e' | e'
    · exact h.own e'
    · omega
  · rcases hA.lies g hg with e' | e'
    · exact Or.inl e'
    · right; omega
theorem add_nil (f t : Int) (w : World) : Calls Try.prog 18 #[.pointer none, .int .i64 f, .int .i64 t] w fun e w' => e = .returned (.tuple #[.int .i64 0, .int .i64 1]) ∧ w = w' := by
  go_enter Try.func18, Try.ntmps18
  go_wp2_with (go_at_call 26; refine (may_nil _ _ _).mono ?_; rintro e w' ⟨rfl, rfl⟩)
  go_ret2
  exact ⟨rfl, rfl⟩
theorem add_no {w : World} {base b : Nat} {v : Value} {n : Int} {l : List Rg} (h : SetV w base b v n l) {f t : Int} (hm : ¬ May n f t) :
    Calls Try.prog 18 #[.pointer (some ⟨b, 0, none⟩), .int .i64 f, .int .i64 t] w fun e w' => e = .returned (.tuple #[.int .i64 0, .int .i64 1]) ∧ w = w' := by
  have M := Lib.hid (may_no h hm)
  clear h hm
  go_enter Try.func18, Try.ntmps18
  go_wp2_with (go_at_call 26; refine M.out.mono ?_; rintro e w' ⟨rfl, rfl⟩)
  go_ret2
  exact ⟨rfl, rfl⟩
theorem add_none {w : World} {base b : Nat} {v : Value} {n : Int} {l : List Rg} (h : SetV w base b v n l) {f : Int} (hm : May n f f) :
    Calls Try.prog 18 #[.pointer (some ⟨b, 0, none⟩), .int .i64 f, .int .i64 f] w fun e w' => e = .returned (.tuple #[.int .i64 0, .int .i64 0]) ∧ w = w' := by
  have M := Lib.hid (may_yes h hm)
  clear h hm
  go_enter Try.func18, Try.ntmps18
  go_wp2_with (go_at_call 26; refine M.out.mono ?_; rintro e w' ⟨rfl, rfl⟩)
  go_ret2
  exact ⟨rfl, rfl⟩
def AddP (w : World) (base b : Nat) (v : Value) (n : Int) (l L : List Rg) (e : Ending) (w' : World) : Prop :=
  ∃ v', e = .returned (.tuple #[.int .i64 (size L - size l), .int .i64 0]) ∧ Added w base b v n L v' w'
set_option maxHeartbeats 4000000 in
set_option maxRecDepth 100000 in
theorem add_apart {w : World} {base b : Nat} {v : Value} {n : Int} {l : List Rg} (h : SetV w base b v n l) (hbase : base ≤ w.heap.size) {f t : Int} (hm : May n f t) (hne : f ≠ t) {A B : List Rg} (c : Cut f t l A [] B) (hfew : l.length < 900000) :
    Calls Try.prog 18 #[.pointer (some ⟨b, 0, none⟩), .int .i64 f, .int .i64 t] w (AddP w base b v n l (A ++ (f, t) :: B)) := by
  have M := Lib.hid (may_yes h hm)
  obtain ⟨m0, m1, m2⟩ := hm
  have hl : l.length = A.length + B.length := by rw [c.all]; simp
  have htop := h.top
  have hput := put h.good c m0 (by omega) m2
  have elo : lo f [] = f := rfl
  have ehi : hi t [] = t := rfl
  have elap : lap f t [] = 0 := rfl
  rw [elo, ehi, elap] at hput
  obtain ⟨p1, p2, p3⟩ := hput
  have s0 := size_nonneg h.good
  have s1 := size_le (x := 0) p1 (fun p hp => (p1.each p hp).1) htop.1
  have T := Lib.hid (touched_any h c m1)
  obtain ⟨s, cap, hcut, hpart⟩ := h.cutout c
  have kv := h.blk.cell (o := 1) rfl
  have kb := h.blk.lt
  have MS := Lib.hid fun (w' : World) => missing_any (w := w') (s := s) (cap := cap) (J := []) (Or.inl rfl) (by simp) m0 (show f ≤ 1073741824 by omega) (show 0 ≤ t by omega) (show t ≤ 1073741824 by omega) (by simp)
  have RM := Lib.hid fun (w3 : World) (k3 : Kept (fun _ => False) w w3) => replace_mid h hbase c k3 f t
  have HD := Lib.hid fun (v' : Value) (w' : World) (m : Mid w base b v n l (A ++ (f, t) :: B) v' w') => m.done h p1 (by rw [List.length_append, List.length_cons]; omega)
  have u1 : IntKind.i64.wrap (size l + (t - f)) = size l + (t - f) := by rw [IntKind.wrap_i64]; omega
  have P3 := Lib.hid p3
  rw [elap, Int.sub_zero, List.length_nil] at MS
  have hcut2 : Cutout v A.length A.length s cap := hcut
  have T2 : Hid (Calls Try.prog 27 #[.pointer (some ⟨b, 0, none⟩), .int .i64 f, .int .i64 t] w fun e w' => e = .returned (.tuple #[.int .i64 (A.length : Nat), .int .i64 (A.length : Nat)]) ∧ Kept (fun _ => False) w w') := T
  have RM2 : Hid (∀ (w3 : World) (k3 : Kept (fun _ => False) w w3), Calls Try.prog 31 #[v, .int .i64 (A.length : Nat), .int .i64 (A.length : Nat), .slice (some ⟨w3.heap.size, 0, none⟩) 1 1] (w3.alloc (.cells #[.int .i64 f, .int .i64 t] 59))
      fun e w' => ∃ s' n' c', e = .returned (.slice s' n' c') ∧ Mid w base b v n l (A ++ (f, t) :: B) (.slice s' n' c') w') := RM
  have hlenA : A.length ≤ 900000 := by omega
  clear T RM hcut hpart p1 p2 p3 elo ehi elap c h hl
  generalize A ++ (f, t) :: B = L at *
  generalize A.length = i at *
  obtain ⟨q, hq⟩ : ∃ q, size l = q := ⟨_, rfl⟩
  obtain ⟨z, hz⟩ : ∃ z, size L = z := ⟨_, rfl⟩
  have HQ := Lib.hid hq
  have HZ := Lib.hid hz
  rw [hq] at s0 u1 P3
  rw [hz] at s1 P3 HD
  clear hq hz
  have hne0 : (f == t) = false := by rw [beq_eq_false_iff_ne]; exact hne
  obtain ⟨s0, n0, c0, rfl, r1, r2, r3, r4, rfl, hs⟩ := hcut2
  rcases hs with ⟨rfl, rfl, rfl⟩ | ⟨g, rfl, ⟨rfl, rfl⟩ | ⟨hlt, rfl⟩⟩
  · obtain rfl : n0 = 0 := by omega
    obtain rfl : i = 0 := by omega
    go_enter Try.func18, Try.ntmps18
    go_upto_region 5 with (go_at_call 26; refine M.out.mono ?_; rintro e w' ⟨rfl, rfl⟩)
    go_wp2_with fail
    with_reducible refine Calls.mono T2.out ?_
    rintro e w1 ⟨rfl, k1⟩
    have kv1 := (keptCell k1 kb (fun f => f) 1).trans kv
    go_wp2_with fail
    with_reducible refine Calls.mono (MS.out _) ?_
    rintro e w2 ⟨rfl, k2⟩
    have k12 := k1.trans k2
    have kv2 := (keptCell k12 kb (fun f => f) 1).trans kv
    clear kv1
    go_wp2_with fail
    with_reducible refine Calls.mono (RM2.out w2 k12) ?_
    rintro e w3 ⟨s', n', c', rfl, hM⟩
    have hb := hM.blk
    rw [HQ.out] at hb
    have y1 := hb.cell (o := 1) rfl
    have y2 := hb.cell (o := 2) rfl
    have g1 := hb.frozen 1
    have g2 := hb.frozen 2
    have ylt := hb.lt
    have H2 := HD.out _ _ hM
    rw [show z = q + (t - f) by have := P3.out; omega] at H2
    have HH := Lib.hid H2
    have HE : Hid (t - f = size L - size l) := Lib.hid (by rw [HQ.out, HZ.out]; have := P3.out; omega)
    clear hM hb H2 HD kv2 k12 k1 k2
    go_wp2_with fail
    go_ret2
    exact ⟨_, by rw [HE.out]; rfl, HH.out⟩
  · obtain rfl : n0 = c0 := by omega
    rw [Nat.sub_self] at MS
    go_enter Try.func18, Try.ntmps18
    go_upto_region 5 with (go_at_call 26; refine M.out.mono ?_; rintro e w' ⟨rfl, rfl⟩)
    go_wp2_with fail
    with_reducible refine Calls.mono T2.out ?_
    rintro e w1 ⟨rfl, k1⟩
    have kv1 := (keptCell k1 kb (fun f => f) 1).trans kv
    go_wp2_with fail
    with_reducible refine Calls.mono (MS.out _) ?_
    rintro e w2 ⟨rfl, k2⟩
    have k12 := k1.trans k2
    have kv2 := (keptCell k12 kb (fun f => f) 1).trans kv
    clear kv1
    go_wp2_with fail
    with_reducible refine Calls.mono (RM2.out w2 k12) ?_
    rintro e w3 ⟨s', n', c', rfl, hM⟩
    have hb := hM.blk
    rw [HQ.out] at hb
    have y1 := hb.cell (o := 1) rfl
    have y2 := hb.cell (o := 2) rfl
    have g1 := hb.frozen 1
    have g2 := hb.frozen 2
    have ylt := hb.lt
    have H2 := HD.out _ _ hM
    rw [show z = q + (t - f) by have := P3.out; omega] at H2
    have HH := Lib.hid H2
    have HE : Hid (t - f = size L - size l) := Lib.hid (by rw [HQ.out, HZ.out]; have := P3.out; omega)
    clear hM hb H2 HD kv2 k12 k1 k2
    go_wp2_with fail
    go_ret2
    exact ⟨_, by rw [HE.out]; rfl, HH.out⟩
  · have hne1 : ¬ (c0 = i) := by omega
    go_enter Try.func18, Try.ntmps18
    go_upto_region 5 with (go_at_call 26; refine M.out.mono ?_; rintro e w' ⟨rfl, rfl⟩)
    go_wp2_with fail
    with_reducible refine Calls.mono T2.out ?_
    rintro e w1 ⟨rfl, k1⟩
    have kv1 := (keptCell k1 kb (fun f => f) 1).trans kv
    go_wp2_with fail
    with_reducible refine Calls.mono (MS.out _) ?_
    rintro e w2 ⟨rfl, k2⟩
    have k12 := k1.trans k2
    have kv2 := (keptCell k12 kb (fun f => f) 1).trans kv
    clear kv1
    go_wp2_with fail
    with_reducible refine Calls.mono (RM2.out w2 k12) ?_
    rintro e w3 ⟨s', n', c', rfl, hM⟩
    have hb := hM.blk
    rw [HQ.out] at hb
    have y1 := hb.cell (o := 1) rfl
    have y2 := hb.cell (o := 2) rfl
    have g1 := hb.frozen 1
    have g2 := hb.frozen 2
    have ylt := hb.lt
    have H2 := HD.out _ _ hM
    rw [show z = q + (t - f) by have := P3.out; omega] at H2
    have HH := Lib.hid H2
    have HE : Hid (t - f = size L - size l) := Lib.hid (by rw [HQ.out, HZ.out]; have := P3.out; omega)
    clear hM hb H2 HD kv2 k12 k1 k2
    go_wp2_with fail
    go_ret2
    exact ⟨_, by rw [HE.out]; rfl, HH.out⟩
end Go.Proofs.Ytfkcplapmkpkbaa.Iv
