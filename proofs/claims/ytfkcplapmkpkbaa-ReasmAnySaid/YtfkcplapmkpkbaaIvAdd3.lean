/- The set of ranges: Add where runs are touched. Conditions: each theorem's own. -/
import Derived.Test.YtfkcplapmkpkbaaIvAdd2
set_option linter.unusedVariables false
namespace Go.Proofs.Ytfkcplapmkpkbaa.Iv
open Go.RowKit Hp IvM IvR IvN
attribute [local go_sem ↓] Go.wp_at_zero Go.wp_at_succ
set_option maxHeartbeats 8000000 in
set_option maxRecDepth 100000 in
theorem add_joined {w : World} {base b : Nat} {v : Value} {n : Int} {l : List Rg} (h : SetV w base b v n l) (hbase : base ≤ w.heap.size) {f t : Int} (hm : May n f t) (hne : f ≠ t) {A J B : List Rg} (c : Cut f t l A J B) (hJ0 : 0 < J.length) (hfew : l.length < 900000) :
    Calls Try.prog 18 #[.pointer (some ⟨b, 0, none⟩), .int .i64 f, .int .i64 t] w (AddP w base b v n l (A ++ (lo f J, hi t J) :: B)) := by
  have M := Lib.hid (may_yes h hm)
  obtain ⟨m0, m1, m2⟩ := hm
  have hl : l.length = A.length + (J.length + B.length) := by rw [c.all]; simp
  have htop := h.top
  obtain ⟨p1, p2, p3⟩ := put h.good c m0 (by omega) m2
  have s0 := size_nonneg h.good
  have s1 := size_le (x := 0) p1 (fun p hp => (p1.each p hp).1) htop.1
  have s2 := size_nonneg p1
  have s3 := size_le (x := 0) h.good (fun p hp => (h.good.each p hp).1) htop.1
  have T := Lib.hid (touched_any h c m1)
  have kv := h.blk.cell (o := 1) rfl
  have kb := h.blk.lt
  obtain ⟨sv, cv, rfl, q1, q2, q3⟩ := h.runs
  obtain ⟨g, rfl, g1, g2, g3, g4⟩ := q3.resolve_left (fun e => by obtain ⟨_, rfl, _⟩ := e; simp at hl; omega)
  have hpart := part_of (i := A.length) (j := 0) c rfl g2 g4
  have hPk : ∀ w', Kept (fun _ => False) w w' → Part w' (some ⟨g, A.length * 2, none⟩) J := fun w' k => by
    rcases hpart with e | ⟨g', o, e, hg, hc⟩
    · exact Or.inl e
    · exact Or.inr ⟨g', o, e, Nat.lt_of_lt_of_le hg k.size, fun i hi => ⟨(keptCell k hg (fun f => f) _).trans (hc i hi).1, (keptCell k hg (fun f => f) _).trans (hc i hi).2⟩⟩
  have hJe : ∀ p ∈ J, 0 ≤ p.1 ∧ p.1 < p.2 ∧ p.2 ≤ 1073741824 := fun p hp => h.each p (mem_touch c p hp)
  have MS := Lib.hid fun (w' : World) (k : Kept (fun _ => False) w w') => missing_any (s := some ⟨g, A.length * 2, none⟩) (cap := cv - A.length) (hPk w' k) hJe m0 (show f ≤ 1073741824 by omega) (show 0 ≤ t by omega) (show t ≤ 1073741824 by omega) (by omega)
  have RM := Lib.hid fun (w3 : World) (k3 : Kept (fun _ => False) w w3) => replace_mid h hbase c k3 (lo f J) (hi t J)
  have HD := Lib.hid fun (v' : Value) (w' : World) (m : Mid w base b (.slice (some ⟨g, 0, none⟩) l.length cv) n l (A ++ (lo f J, hi t J) :: B) v' w') => m.done h p1 (by rw [List.length_append, List.length_cons]; omega)
  -- the first and the last one
  have hat : ∀ k, k < J.length → l.getD (A.length + k) (0, 0) = J.getD k (0, 0) := fun k hk => by
    rw [List.getD, List.getD, c.all, List.getElem?_append_right (by omega), List.getElem?_append_left (by omega)]
    congr 2; omega
  have e0 := (g4 A.length (by omega)).1
  have e1 := (g4 (A.length + (J.length - 1)) (by omega)).2
  rw [hat (J.length - 1) (by omega)] at e1
  have hat0 := hat 0 hJ0
  rw [Nat.add_zero] at hat0
  rw [hat0] at e0
  have hlo : lo f J = min f (J.getD 0 (0, 0)).1 := by
    cases J with
    | nil => simp at hJ0
    | cons p r => rfl
  have hhi : hi t J = max t (J.getD (J.length - 1) (0, 0)).2 := by
    unfold hi
    rw [List.getLast?_eq_getElem?, List.getElem?_eq_getElem (by omega)]
    simp only []
    rw [getD_at (by omega)]
  generalize (J.getD 0 (0, 0)).1 = a0 at *
  generalize (J.getD (J.length - 1) (0, 0)).2 = b1 at *
  have LO := Lib.hid (hlo.trans (min_if f a0))
  have HI := Lib.hid (hhi.trans (max_if t b1))
  clear hlo hhi hat hat0 hpart hPk hJe p1 p2 c h g4 q3
  generalize A ++ (lo f J, hi t J) :: B = L at *
  generalize lo f J = x at *
  generalize hi t J = y at *
  generalize lap f t J = d at *
  obtain ⟨q, hq⟩ : ∃ q, size l = q := ⟨_, rfl⟩
  obtain ⟨z, hz⟩ : ∃ z, size L = z := ⟨_, rfl⟩
  have HQ := Lib.hid hq
  have HZ := Lib.hid hz
  have P3 := Lib.hid p3
  have u1 : IntKind.i64.wrap (q + (t - f - d)) = q + (t - f - d) := by rw [IntKind.wrap_i64]; omega
  rw [hz] at s1 HD
  clear hq hz p3 s0 s2 s3
  have hne0 : (f == t) = false := by rw [beq_eq_false_iff_ne]; exact hne
  obtain ⟨j, hj⟩ : ∃ j, A.length + J.length = j := ⟨_, rfl⟩
  have hjm : J.length = j - A.length := by omega
  rw [hj] at T RM
  rw [hjm] at MS e1 hJ0
  have i1 : A.length < cv := by omega
  have i2 : A.length < j := by omega
  have i3 : j ≤ l.length := by omega
  clear hj hjm hl
  generalize A.length = i at *
  generalize hln : l.length = len at *
  have hne1 : ¬ (cv = i) := by omega
  clear hln
  go_enter Try.func18, Try.ntmps18
  go_upto_region 5 with (go_at_call 26; refine M.out.mono ?_; rintro e w' ⟨rfl, rfl⟩)
  go_wp2_with fail
  with_reducible refine Calls.mono T.out ?_
  rintro e w1 ⟨rfl, k1⟩
  have kv1 := (keptCell k1 kb (fun f => f) 1).trans kv
  go_wp2_with fail
  with_reducible refine Calls.mono (MS.out _ k1) ?_
  rintro e w2 ⟨rfl, k2⟩
  have k12 := k1.trans k2
  have kv2 := (keptCell k12 kb (fun f => f) 1).trans kv
  have e0 := (keptCell k12 g2 (fun f => f) _).trans e0
  have e1 := (keptCell k12 g2 (fun f => f) _).trans e1
  clear kv1
  rw [show (i + (j - i - 1)) * 2 = i * 2 + (j - i - 1) * 2 by omega] at e1
  go_upto_region 9 with fail
  go_wp2_with fail
  with_reducible refine Calls.mono (min1 f a0 x _ _ LO.out ?_) ?_
  · simp
  rintro e w3 ⟨rfl, rfl⟩
  have k3 : Kept (fun _ => False) w (w2.alloc (.cells #[.int .i64 a0] 3)) := k12.alloc _
  have kv3 := (keptCell ((Kept.refl (fun _ => False) w2).alloc (.cells #[.int .i64 a0] 3)) (Nat.lt_of_lt_of_le kb k12.size) (fun f => f) 1).trans kv2
  have e3 := (keptCell ((Kept.refl (fun _ => False) w2).alloc (.cells #[.int .i64 a0] 3)) (Nat.lt_of_lt_of_le g2 k12.size) (fun f => f) _).trans e1
  generalize w2.alloc (.cells #[.int .i64 a0] 3) = w4 at *
  clear kv2 e0 e1
  have z1 : (0 : Int) ≤ ((j - i : Nat) : Int) - 1 := by omega
  have z2 : (((j - i : Nat) : Int) - 1).toNat = j - i - 1 := by omega
  have z3 : ((j - i : Nat) : Int) - 1 < ((j - i : Nat) : Int) := by omega
  go_upto_region 10 with fail
  go_wp2_with fail
  with_reducible refine Calls.mono (max1 t b1 y _ _ HI.out ?_) ?_
  · simp
  rintro e w5 ⟨rfl, rfl⟩
  have k5 : Kept (fun _ => False) w (w4.alloc (.cells #[.int .i64 b1] 3)) := k3.alloc _
  have kv5 := (keptCell ((Kept.refl (fun _ => False) w4).alloc (.cells #[.int .i64 b1] 3)) (Nat.lt_of_lt_of_le kb k3.size) (fun f => f) 1).trans kv3
  generalize w4.alloc (.cells #[.int .i64 b1] 3) = w6 at *
  clear kv3 e3 k3 z1 z2 z3
  go_wp2_with fail
  with_reducible refine Calls.mono (RM.out w6 k5) ?_
  rintro e w7 ⟨s', n', c', rfl, hM⟩
  have hb := hM.blk
  rw [HQ.out] at hb
  have y1 := hb.cell (o := 1) rfl
  have y2 := hb.cell (o := 2) rfl
  have yg1 := hb.frozen 1
  have yg2 := hb.frozen 2
  have ylt := hb.lt
  have H2 := HD.out _ _ hM
  have hzz : z = q + (t - f - d) := by rw [← HZ.out, ← HQ.out]; exact P3.out
  rw [hzz] at H2
  have HH := Lib.hid H2
  have HE : Hid (t - f - d = size L - size l) := Lib.hid (by have := P3.out; omega)
  clear hM hb H2 HD kv5 hzz
  go_wp2_with fail
  go_ret2
  exact ⟨_, by rw [HE.out]; rfl, HH.out⟩
theorem add_yes {w : World} {base b : Nat} {v : Value} {n : Int} {l : List Rg} (h : SetV w base b v n l) (hbase : base ≤ w.heap.size) {f t : Int} (hm : May n f t) (hne : f ≠ t) (hfew : l.length < 900000) :
    Calls Try.prog 18 #[.pointer (some ⟨b, 0, none⟩), .int .i64 f, .int .i64 t] w fun e w' => ∃ L, AddP w base b v n l L e w' ∧ L.length ≤ l.length + 1 ∧ (∀ x, IvM.Has L x ↔ IvM.Has l x ∨ (f ≤ x ∧ x < t)) := by
  obtain ⟨A, J, B, c⟩ := cut_ex h.good f t
  have hp := put h.good c hm.1 (by have := hm.2.1; omega) hm.2.2
  have hl : l.length = A.length + (J.length + B.length) := by rw [c.all]; simp
  have hlen : (A ++ (lo f J, hi t J) :: B).length ≤ l.length + 1 := by rw [List.length_append, List.length_cons]; omega
  rcases Nat.eq_zero_or_pos J.length with h0 | h0
  · obtain rfl : J = [] := List.length_eq_zero_iff.1 h0
    exact (add_apart h hbase hm hne c hfew).mono fun e w' hA => ⟨_, hA, hlen, hp.2.1⟩
  · exact (add_joined h hbase hm hne c h0 hfew).mono fun e w' hA => ⟨_, hA, hlen, hp.2.1⟩
end Go.Proofs.Ytfkcplapmkpkbaa.Iv
