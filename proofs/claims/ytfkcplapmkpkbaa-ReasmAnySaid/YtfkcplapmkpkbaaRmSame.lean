/- Messages put together: do bytes stand there? Conditions: each theorem's own. -/
import Derived.Test.YtfkcplapmkpkbaaRmPg
set_option linter.unusedVariables false
namespace Go.Proofs.Ytfkcplapmkpkbaa.Rm
open Go.RowKit Go.Deep Hp IvM RmM
attribute [local go_sem ↓] Go.wp_at_zero Go.wp_at_succ
set_option maxHeartbeats 1000000 in
theorem eq_any {w : World} {v v2 : Value} {l l2 : List UInt8} (h : Byt.Src w v l) (h2 : Byt.Src w v2 l2) : Calls Try.prog 34 #[v, v2] w fun e w' => e = .returned (.bool (l == l2)) ∧ w = w' := by
  have s1 := Byt.run_str h
  have s2 := Byt.run_str h2
  clear h h2
  go_enter Try.func34, Try.ntmps34
  go_wp2_with fail
  go_ret
  exact ⟨rfl, rfl⟩
/-- Bytes of a page. -/
theorem page_src {w : World} {base : Nat} {F : Nat → Prop} {b n : Nat} {l : List Rg} {D : List UInt8} {s m g : Nat} {v : Value} (h : There w base F b n l D s m g v) {off k c : Nat} (hk : off + k ≤ n) (hc : k ≤ c) :
    Byt.Src w (.slice (some ⟨g, off, none⟩) k c) ((D.drop off).take k) := by
  have hl : ((D.drop off).take k).length = k := by rw [List.length_take, List.length_drop, h.len]; omega
  refine ⟨_, c, by rw [hl], by omega, Or.inr ⟨g, off, rfl, h.page.lt, fun j hj => ?_⟩, fun e => by cases e⟩
  rw [hl] at hj
  have hj2 : off + j < D.length := by rw [h.len]; omega
  rw [h.page.cell (Byt.bvs_at hj2)]
  congr 2
  simp
theorem min_len {k q : Nat} (h : k ≤ q) : (if k < q then (k : Int) else (q : Int)) = (k : Int) := by split <;> omega
set_option maxHeartbeats 4000000 in
set_option maxRecDepth 100000 in
theorem same_any {w : World} {base : Nat} {F : Nat → Prop} {b n : Nat} {l : List Rg} {D : List UInt8} {s m g : Nat} {v : Value} (h : There w base F b n l D s m g v) {a : Option Addr} {c off : Nat} {K : List UInt8} (hK : Byt.Src w (.slice a K.length c) K) (h0 : 0 < K.length) (ho : off + K.length ≤ n) :
    Calls Try.prog 25 #[.pointer (some ⟨b, 0, none⟩), .int .i64 off, .slice a K.length c] w fun e w' => e = .returned (.bool ((D.drop off).take K.length == K)) ∧ Kept (fun _ => False) w w' := by
  have n1 := h.bare.n1
  have PG := Lib.hid fun (w' : World) (k : Kept (fun _ => False) w w') => page_is (h.old k) (off := off) (by omega)
  have EQ := Lib.hid fun (w' : World) (k : Kept (fun _ => False) w w') => eq_any (page_src (h.old k) (c := n - off) ho (by omega)) (hK.kept k)
  have hkc : K.length ≤ c := by obtain ⟨_, _, e, hc, _⟩ := hK; cases e; exact hc
  have HA : Hid (∃ b2 o2, a = some ⟨b2, o2, none⟩) := Lib.hid (by
    obtain ⟨_, _, e, _, hs, _⟩ := hK
    cases e
    obtain ⟨b2, o2, e2, _⟩ := hs.resolve_left (fun e => by rw [e] at h0; simp at h0)
    exact ⟨b2, o2, e2⟩)
  generalize ((D.drop off).take K.length == K) = r at *
  generalize K.length = k at *
  obtain ⟨q, hq⟩ : ∃ q, n - off = q := ⟨_, rfl⟩
  rw [hq] at PG EQ
  have hqk : k ≤ q := by omega
  have hmn := min_len hqk
  have hof : off ≤ 1000 := by omega
  have hk1000 : k ≤ 1000 := by omega
  clear hq h hK
  go_enter Try.func25, Try.ntmps25
  go_wp2_with fail
  go_loopg [1, 2] 1 (fun mm s1 s2 wr => (Hid (mm = 1) ∧ s1 = .int .i64 off ∧ s2 = .slice a k c ∧ w = wr) ∨ (∃ (x : Int) (a2 : Option Addr) (c2 : Nat), Hid (mm = 0) ∧ s1 = .int .i64 x ∧ s2 = .slice a2 0 c2 ∧ r = true ∧ Kept (fun _ => False) w wr))
  case atStart => exact Or.inl ⟨rfl, rfl, rfl, rfl⟩
  case round =>
    rcases hrel with ⟨hm, rfl, rfl, rfl⟩ | ⟨x, a2, c2, hm, rfl, rfl, rfl, hk⟩
    · have hz : (0 : Int) < (k : Int) := by omega
      go_wp2_with fail
      with_reducible refine Calls.mono (PG.out _ (Kept.refl _ w)) ?_
      rintro e w1 ⟨rfl, k1⟩
      have EQ1 := Lib.hid fun (i : Nat) => EQ.out (w1.drewN i) (k1.drewN i)
      have hzk : (0 : Int) ≤ (k : Int) := by omega
      have hzq : (k : Int) ≤ (q : Int) := by omega
      have hzc : (k : Int) ≤ (c : Int) := by omega
      go_upto_region 4 with fail
      go_quiet ((go_at_call 34; exact Calls.quiet_of_same ((EQ1.out _).mono fun _ _ ⟨e1, e2⟩ => ⟨e1, e2.symm⟩)))
      cases r with
      | false =>
        go_wp2_with fail
        go_ret
        exact ⟨rfl, k1.drewN _⟩
      | true =>
        have k2 : Kept (fun _ => False) w (w1.drewN nq) := k1.drewN nq
        generalize w1.drewN nq = w2 at *
        have hkk : k - k = 0 := Nat.sub_self k
        have hw1 : IntKind.i64.wrap ((off : Int) + (k : Int)) = (off : Int) + (k : Int) := by rw [IntKind.wrap_i64]; omega
        clear k1 EQ1 hmn PG EQ
        by_cases hck : c = k
        · subst hck
          go_wp2_with fail
          go_quiet (fail)
          go_wp2_with fail
          go_roundg 0
          case measure => have := hm.out; omega
          case rel => exact Or.inr ⟨_, _, _, rfl, rfl, rfl, trivial, k2.drewN _⟩
        · obtain ⟨b2, o2, rfl⟩ : ∃ b2 o2, a = some ⟨b2, o2, none⟩ := HA.out
          go_wp2_with fail
          go_quiet (fail)
          go_wp2_with fail
          go_roundg 0
          case measure => have := hm.out; omega
          case rel => exact Or.inr ⟨_, some ⟨b2, o2 + k, none⟩, c - k, rfl, rfl, by simp, trivial, k2.drewN _⟩
    · go_wp2_with fail
      go_ret
      exact ⟨rfl, hk⟩
end Go.Proofs.Ytfkcplapmkpkbaa.Rm
