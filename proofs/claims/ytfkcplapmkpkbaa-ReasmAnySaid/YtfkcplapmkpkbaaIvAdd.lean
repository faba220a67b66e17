/- The set of ranges: Fresh, Has, Add. Conditions: each theorem's own. -/
import Derived.Test.YtfkcplapmkpkbaaIvMis
set_option linter.unusedVariables false
namespace Go.Proofs.Ytfkcplapmkpkbaa.Iv
open Go.RowKit Hp IvM IvR IvN
attribute [local go_sem ↓] Go.wp_at_zero Go.wp_at_succ
theorem SetV.each {w : World} {base b : Nat} {v : Value} {n : Int} {l : List Rg} (h : SetV w base b v n l) : ∀ p ∈ l, 0 ≤ p.1 ∧ p.1 < p.2 ∧ p.2 ≤ 1073741824 := fun p hp => by
  have := h.good.each p hp; have := h.top; omega
/-- What is touched is a part of the runs. -/
theorem part_of {w : World} {g i j : Nat} {l A J B : List Rg} {f t : Int} (c : Cut f t l A J B) (hi : A.length = i) (hg : g < w.heap.size)
    (hc : ∀ i, i < l.length → w.cell? ⟨g, i * 2, none⟩ = some (.int .i64 (l.getD i (0, 0)).1) ∧ w.cell? ⟨g, i * 2 + 1, none⟩ = some (.int .i64 (l.getD i (0, 0)).2)) : Part w (some ⟨g, i * 2, none⟩) J := by
  refine Or.inr ⟨g, i * 2, rfl, hg, fun k hk => ?_⟩
  have hl : l.length = A.length + (J.length + B.length) := by rw [c.all]; simp
  have e : l.getD (i + k) (0, 0) = J.getD k (0, 0) := by
    rw [List.getD, List.getD, c.all, List.getElem?_append_right (by omega), List.getElem?_append_left (by omega)]
    congr 2; omega
  have := hc (i + k) (by omega)
  rw [e, show (i + k) * 2 = i * 2 + k * 2 by omega] at this
  exact this
theorem fresh_nil (f t : Int) (w : World) : Calls Try.prog 24 #[.pointer none, .int .i64 f, .int .i64 t] w fun e w' => e = .returned (.int .i64 0) ∧ w = w' := by
  go_enter Try.func24, Try.ntmps24
  go_wp2_with (go_at_call 26; refine (may_nil _ _ _).mono ?_; rintro e w' ⟨rfl, rfl⟩)
  go_ret
  exact ⟨rfl, rfl⟩
theorem fresh_no {w : World} {base b : Nat} {v : Value} {n : Int} {l : List Rg} (h : SetV w base b v n l) {f t : Int} (hm : ¬ May n f t) :
    Calls Try.prog 24 #[.pointer (some ⟨b, 0, none⟩), .int .i64 f, .int .i64 t] w fun e w' => e = .returned (.int .i64 0) ∧ w = w' := by
  have M := Lib.hid (may_no h hm)
  clear h hm
  go_enter Try.func24, Try.ntmps24
  go_wp2_with (go_at_call 26; refine M.out.mono ?_; rintro e w' ⟨rfl, rfl⟩)
  go_ret
  exact ⟨rfl, rfl⟩
/-- 'joined' as a slice of the runs. -/
def Cutout (v : Value) (i j : Nat) (s : Option Addr) (cap : Nat) : Prop := ∃ s0 n0 c0, v = .slice s0 n0 c0 ∧ j ≤ n0 ∧ n0 ≤ c0 ∧ i ≤ j ∧ c0 ≤ 9223372036854775807 ∧ cap = c0 - i ∧
  ((s0 = none ∧ s = none ∧ c0 = 0) ∨ ∃ g, s0 = some ⟨g, 0, none⟩ ∧ ((c0 = i ∧ s = some ⟨g, 0, none⟩) ∨ (i < c0 ∧ s = some ⟨g, i * 2, none⟩)))
theorem SetV.cutout {w : World} {base b : Nat} {v : Value} {n : Int} {l : List Rg} (h : SetV w base b v n l) {f t : Int} {A J B : List Rg} (c : Cut f t l A J B) :
    ∃ s cap, Cutout v A.length (A.length + J.length) s cap ∧ Part w s J := by
  have hl : l.length = A.length + (J.length + B.length) := by rw [c.all]; simp
  obtain ⟨s0, c0, rfl, hc, hm, hs⟩ := h.runs
  rcases hs with ⟨rfl, rfl, rfl⟩ | ⟨g, rfl, h1, h2, h3, h4⟩
  · simp at hl
    have hJ : J = [] := List.length_eq_zero_iff.1 (by omega)
    exact ⟨none, 0 - A.length, ⟨none, 0, 0, rfl, by omega, by omega, by omega, by omega, rfl, Or.inl ⟨rfl, rfl, rfl⟩⟩, Or.inl hJ⟩
  · rcases Nat.lt_or_ge A.length c0 with hlt | hge
    · exact ⟨some ⟨g, A.length * 2, none⟩, c0 - A.length, ⟨_, l.length, c0, rfl, by omega, hc, by omega, hm, rfl, Or.inr ⟨g, rfl, Or.inr ⟨hlt, rfl⟩⟩⟩, part_of (j := 0) c rfl h2 h4⟩
    · have hJ : J = [] := List.length_eq_zero_iff.1 (by omega)
      exact ⟨some ⟨g, 0, none⟩, c0 - A.length, ⟨_, l.length, c0, rfl, by omega, hc, by omega, hm, rfl, Or.inr ⟨g, rfl, Or.inl ⟨by omega, rfl⟩⟩⟩, Or.inl hJ⟩
theorem mem_touch {l A J B : List Rg} {f t : Int} (c : Cut f t l A J B) : ∀ p ∈ J, p ∈ l := fun p hp => by rw [c.all]; simp [hp]
set_option maxHeartbeats 4000000 in
set_option maxRecDepth 100000 in
theorem fresh_yes {w : World} {base b : Nat} {v : Value} {n : Int} {l : List Rg} (h : SetV w base b v n l) {f t : Int} (hm : May n f t) {A J B : List Rg} (c : Cut f t l A J B) :
    Calls Try.prog 24 #[.pointer (some ⟨b, 0, none⟩), .int .i64 f, .int .i64 t] w fun e w' => e = .returned (.int .i64 ((t - f) - lap f t J)) ∧ Kept (fun _ => False) w w' := by
  have M := Lib.hid (may_yes h hm)
  obtain ⟨m0, m1, m2⟩ := hm
  have hl : l.length = A.length + (J.length + B.length) := by rw [c.all]; simp
  have hfew := h.few
  have htop := h.top
  have T := Lib.hid (touched_any h c m1)
  obtain ⟨s, cap, hcut, hpart⟩ := h.cutout c
  have kv := h.blk.cell (o := 1) rfl
  have hb := h.blk.lt
  have hJ : ∀ p ∈ J, 0 ≤ p.1 ∧ p.1 < p.2 ∧ p.2 ≤ 1073741824 := fun p hp => h.each p (mem_touch c p hp)
  have hPk : ∀ w', Kept (fun _ => False) w w' → Part w' s J := fun w' k => by
    rcases hpart with e | ⟨g, o, e, hg, hc⟩
    · exact Or.inl e
    · exact Or.inr ⟨g, o, e, Nat.lt_of_lt_of_le hg k.size, fun i hi => ⟨(keptCell k hg (fun f => f) _).trans (hc i hi).1, (keptCell k hg (fun f => f) _).trans (hc i hi).2⟩⟩
  have hJl : J.length = A.length + J.length - A.length := by omega
  have MS := Lib.hid fun (w' : World) (k : Kept (fun _ => False) w w') => missing_any (s := s) (cap := cap) (hPk w' k) hJ m0 (show f ≤ 1073741824 by omega) (show 0 ≤ t by omega) (show t ≤ 1073741824 by omega) (by omega)
  generalize lap f t J = q at *
  have hsm : J.length ≤ 900000 := by omega
  have hij : A.length ≤ A.length + J.length := by omega
  rw [hJl] at MS
  generalize A.length + J.length = j at *
  generalize A.length = i at *
  clear hl hPk hpart hJ c h hJl
  obtain ⟨s0, n0, c0, rfl, r1, r2, r3, r4, rfl, hs⟩ := hcut
  rcases hs with ⟨rfl, rfl, rfl⟩ | ⟨g, rfl, ⟨rfl, rfl⟩ | ⟨hlt, rfl⟩⟩
  · obtain rfl : n0 = 0 := by omega
    obtain rfl : j = 0 := by omega
    obtain rfl : i = 0 := by omega
    go_enter Try.func24, Try.ntmps24
    go_upto_region 3 with (go_at_call 26; refine M.out.mono ?_; rintro e w' ⟨rfl, rfl⟩)
    go_wp2_with fail
    with_reducible refine Calls.mono T.out ?_
    rintro e w1 ⟨rfl, k1⟩
    have kv := (keptCell k1 hb (fun f => f) 1).trans kv
    go_wp2_with fail
    with_reducible refine Calls.mono (MS.out _ k1) ?_
    rintro e w2 ⟨rfl, k2⟩
    go_wp2_with fail
    go_ret
    exact ⟨rfl, k1.trans k2⟩
  · obtain rfl : n0 = c0 := by omega
    obtain rfl : j = n0 := by omega
    rw [Nat.sub_self] at MS
    go_enter Try.func24, Try.ntmps24
    go_upto_region 3 with (go_at_call 26; refine M.out.mono ?_; rintro e w' ⟨rfl, rfl⟩)
    go_wp2_with fail
    with_reducible refine Calls.mono T.out ?_
    rintro e w1 ⟨rfl, k1⟩
    have kv := (keptCell k1 hb (fun f => f) 1).trans kv
    go_wp2_with fail
    with_reducible refine Calls.mono (MS.out _ k1) ?_
    rintro e w2 ⟨rfl, k2⟩
    go_wp2_with fail
    go_ret
    exact ⟨rfl, k1.trans k2⟩
  · have hne : ¬ (c0 = i) := by omega
    go_enter Try.func24, Try.ntmps24
    go_upto_region 3 with (go_at_call 26; refine M.out.mono ?_; rintro e w' ⟨rfl, rfl⟩)
    go_wp2_with fail
    with_reducible refine Calls.mono T.out ?_
    rintro e w1 ⟨rfl, k1⟩
    have kv := (keptCell k1 hb (fun f => f) 1).trans kv
    go_wp2_with fail
    with_reducible refine Calls.mono (MS.out _ k1) ?_
    rintro e w2 ⟨rfl, k2⟩
    go_wp2_with fail
    go_ret
    exact ⟨rfl, k1.trans k2⟩
end Go.Proofs.Ytfkcplapmkpkbaa.Iv
