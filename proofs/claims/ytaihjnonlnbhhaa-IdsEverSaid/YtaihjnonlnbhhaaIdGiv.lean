/- Givers; nothing's answers; what the document fixes. Conditions: each theorem's own. -/
import Derived.Test.YtaihjnonlnbhhaaIdPut
import Derived.Test.YtaihjnonlnbhhaaU64
set_option linter.unusedVariables false
namespace Go.Proofs.Ytaihjnonlnbhhaa.Idw
open Go.RowKit Hp IdM Ro Go.Proofs.Ytaihjnonlnbhhaa.End
attribute [local go_sem ↓] Go.wp_at_zero Go.wp_at_succ
/-- A giver: the last one that it may give, the last one that it gave. -/
def Gv (w : World) (b : Nat) (last given : Int) : Prop := Blk w b [.int .u64 last, .int .u64 given] 80
theorem give_yes {last : Int} (h0 : 1 ≤ last) (h1 : last ≤ top) (w : World) : Calls Try.prog 20 #[.int .u64 last] w fun e w' => ∃ b, e = .returned (.tuple #[.pointer (some ⟨b, 0, none⟩), .int .i64 0]) ∧ Gv w' b last 0 ∧ Kept (fun _ => False) w w' ∧ w.heap.size ≤ b := by
  have g1 : decide (last < 1) = false := by rw [decide_eq_false_iff_not]; omega
  have g2 : decide ((1152921504606846976 : Int) < last) = false := by
    have : (top : Int) = 1152921504606846976 := rfl
    rw [decide_eq_false_iff_not]; omega
  clear h0 h1
  go_enter Try.func20, Try.ntmps20
  go_wp2_with fail
  go_ret2
  exact ⟨_, rfl, Blk.new w [.int .u64 last, .int .u64 0] 80, (Kept.refl _ w).alloc _, Nat.le_refl _⟩
theorem give_no {last : Int} (h : ¬ (1 ≤ last ∧ last ≤ top)) (w : World) : Calls Try.prog 20 #[.int .u64 last] w fun e w' => e = .returned (.tuple #[.pointer none, .int .i64 1]) ∧ w = w' := by
  have hc : last < 1 ∨ (decide (last < 1) = false ∧ 1152921504606846976 < last) := by
    have : (top : Int) = 1152921504606846976 := rfl
    rw [decide_eq_false_iff_not]; omega
  clear h
  rcases hc with h1 | ⟨h1, h2⟩
  all_goals
    go_enter Try.func20, Try.ntmps20
    go_wp2_with fail
    go_ret2
    exact ⟨rfl, rfl⟩
theorem next_yes {w : World} {b : Nat} {last given : Int} (h : Gv w b last given) (h0 : 0 ≤ given) (h1 : given < last) (h2 : last ≤ top) : Calls Try.prog 21 #[.pointer (some ⟨b, 0, none⟩)] w fun e w' => e = .returned (.tuple #[.int .u64 (given + 1), .int .i64 0]) ∧ Gv w' b last (given + 1) ∧ Kept (fun k => k = b) w w' := by
  unfold Gv at *
  have c0 := h.cell (o := 0) rfl
  have c1 := h.cell (o := 1) rfl
  have f1 := h.frozen 1
  have hb := h.lt
  have g1 : decide (last ≤ given) = false := by rw [decide_eq_false_iff_not]; omega
  have hw : IntKind.u64.wrap (given + 1) = given + 1 := by
    have : (top : Int) = 1152921504606846976 := rfl
    rw [IntKind.wrap_u64]; omega
  have H := Lib.hid h
  clear h h0 h1 h2
  go_enter Try.func21, Try.ntmps21
  go_wp2_with fail
  go_quiet (fail)
  go_wp2_with fail
  go_ret2
  exact ⟨rfl, (H.out.drewN nq).set 1 _, ((Kept.refl (fun k => k = b) w).drewN nq).set (fun _ => rfl) 1 _⟩
theorem next_no {w : World} {b : Nat} {last given : Int} (h : Gv w b last given) (h1 : last ≤ given) : Calls Try.prog 21 #[.pointer (some ⟨b, 0, none⟩)] w fun e w' => e = .returned (.tuple #[.int .u64 0, .int .i64 7]) ∧ Kept (fun _ => False) w w' := by
  unfold Gv at *
  have c0 := h.cell (o := 0) rfl
  have c1 := h.cell (o := 1) rfl
  clear h
  go_enter Try.func21, Try.ntmps21
  go_wp2_with fail
  go_quiet (fail)
  go_wp2_with fail
  go_ret2
  exact ⟨rfl, (Kept.refl _ w).drewN nq⟩
theorem next_nil (w : World) : Calls Try.prog 21 #[.pointer none] w fun e w' => e = .returned (.tuple #[.int .u64 0, .int .i64 7]) ∧ Kept (fun _ => False) w w' := by
  go_enter Try.func21, Try.ntmps21
  go_wp2_with fail
  go_quiet (fail)
  go_wp2_with fail
  go_ret2
  exact ⟨rfl, (Kept.refl _ w).drewN nq⟩
theorem last_any {w : World} {b : Nat} {last given : Int} (h : Gv w b last given) : Calls Try.prog 22 #[.pointer (some ⟨b, 0, none⟩)] w fun e w' => e = .returned (.int .u64 given) ∧ w = w' := by
  unfold Gv at *
  have c1 := h.cell (o := 1) rfl
  clear h
  go_enter Try.func22, Try.ntmps22
  go_wp2_with fail
  go_ret
  exact ⟨rfl, rfl⟩
theorem last_nil (w : World) : Calls Try.prog 22 #[.pointer none] w fun e w' => e = .returned (.int .u64 0) ∧ w = w' := by
  go_enter Try.func22, Try.ntmps22
  go_wp2_with fail
  go_ret
  exact ⟨rfl, rfl⟩
/-- The least of one and some others. -/
def least (m : Int) (l : List Int) : Int := l.foldl (fun m x => if x < m then x else m) m
theorem least_succ (m : Int) {l : List Int} {i : Nat} {x : Int} (h : l[i]? = some x) : least m (l.take (i + 1)) = if x < least m (l.take i) then x else least m (l.take i) := by
  unfold least
  rw [List.take_add_one, h, List.foldl_append]
  rfl
theorem lowest_any {w : World} {b most : Nat} {M : Int} {l : List Int} {v : Value} {wa : Nat} (h : WnV w b most M l v wa) {w0 : World} {s : Option Addr} {cap : Nat} {zs : List Int} (hz : Opn.Uints w0 s cap zs) (ho : Old w0 w) (hl : zs.length ≤ 1000) (m : Int) :
    Calls Try.prog 23 #[.pointer (some ⟨b, 0, none⟩), .slice s zs.length cap, .int .u64 m] w fun e w' => e = .returned (.int .u64 (least m zs)) ∧ w = w' := by
  have MD := Lib.hid (made_yes h)
  have HZ := Lib.hid hz
  have HO := Lib.hid ho
  obtain ⟨r, hr⟩ : ∃ r, least m zs = r := ⟨_, rfl⟩
  have hrt : least m (zs.take zs.length) = r := by rw [List.take_length]; exact hr
  rw [hr]
  have HR := Lib.hid hrt
  clear h hz ho hr hrt
  generalize hn : zs.length = n at *
  have HN := Lib.hid hn
  clear hn
  go_enter Try.func23, Try.ntmps23
  go_wp2_with fail
  with_reducible refine Calls.mono MD.out ?_
  rintro e w1 ⟨rfl, rfl⟩
  clear MD
  go_wp2_with fail
  go_loopg [7, 16] n (fun kx s7 s16 wr => ∃ (i : Nat), Hid (n - i ≤ kx) ∧ i ≤ n ∧ s16 = .int .i64 (i : Nat) ∧ s7 = .int .u64 (least m (zs.take i)) ∧ w = wr)
  case atStart => exact ⟨0, Lib.hid (by omega), by omega, rfl, by rw [List.take_zero]; rfl, rfl⟩
  case round =>
    obtain ⟨i, hm, hi, rfl, rfl, rfl⟩ := hrel
    rcases Nat.lt_or_ge i n with hlt | hge
    · obtain ⟨x, hx⟩ : ∃ x, zs[i]? = some x := ⟨_, List.getElem?_eq_getElem (by rw [HN.out]; exact hlt)⟩
      obtain ⟨g, off, rfl, hg, hc⟩ := HZ.out.at HO.out (j := i) (by rw [HN.out]; exact hlt)
      rw [(List.getElem?_eq_some_iff.1 hx).2] at hc
      have hs := least_succ m hx
      obtain ⟨y, hy⟩ : ∃ y, least m (zs.take i) = y := ⟨_, rfl⟩
      obtain ⟨z, hz⟩ : ∃ z, least m (zs.take (i + 1)) = z := ⟨_, rfl⟩
      rw [hy, hz] at hs
      rw [hy]
      have HZ2 := Lib.hid hz
      have hs' := hs.symm
      clear hx hy hz hs
      go_wp2_with fail
      go_roundg (n - (i + 1))
      case measure => have := hm.out; omega
      case rel => exact ⟨i + 1, Lib.hid (Nat.le_refl _), by omega, by go_num, by rw [HZ2.out], rfl⟩
    · obtain rfl : i = n := by omega
      have hr := HR.out
      rw [hr]
      go_wp2_with fail
      go_ret
      exact ⟨rfl, rfl⟩
theorem done_nil (id : Int) (r : Int) (hr : r = if id < 1 ∨ top < id then 1 else 4) (w : World) : Calls Try.prog 12 #[.pointer none, .int .u64 id] w fun e w' => e = .returned (.int .i64 r) ∧ w = w' := by
  have hc : (id < 1 ∧ r = 1) ∨ (decide (id < 1) = false ∧ 1152921504606846976 < id ∧ r = 1) ∨ (decide (id < 1) = false ∧ decide ((1152921504606846976 : Int) < id) = false ∧ r = 4) := by
    have : (top : Int) = 1152921504606846976 := rfl
    rw [decide_eq_false_iff_not, decide_eq_false_iff_not]
    split at hr <;> omega
  have MD := Lib.hid (made_nil w)
  clear hr
  rcases hc with ⟨h1, rfl⟩ | ⟨h1, h2, rfl⟩ | ⟨h1, h2, rfl⟩
  all_goals
    go_enter Try.func12, Try.ntmps12
    go_wp2_with fail
    try (with_reducible refine Calls.mono MD.out ?_; rintro e w1 ⟨rfl, rfl⟩; go_wp2_with fail)
    go_ret
    exact ⟨rfl, rfl⟩
theorem is_nil (id : Int) (w : World) : Calls Try.prog 16 #[.pointer none, .int .u64 id] w fun e w' => e = .returned (.bool false) ∧ w = w' := by
  have MD := Lib.hid (made_nil w)
  go_enter Try.func16, Try.ntmps16
  go_wp2_with fail
  with_reducible refine Calls.mono MD.out ?_
  rintro e w1 ⟨rfl, rfl⟩
  go_wp2_with fail
  go_ret
  exact ⟨rfl, rfl⟩
theorem retire_nil (id : Int) (w : World) : Calls Try.prog 14 #[.pointer none, .int .u64 id] w fun e w' => e = .returned (.int .i64 0) ∧ w = w' := by
  have MD := Lib.hid (made_nil w)
  obtain ⟨t, ht⟩ : ∃ t, (if (1152921504606846977 : Int) < id then (1152921504606846977 : Int) else id) = t := ⟨_, rfl⟩
  go_enter Try.func14, Try.ntmps14
  go_wp2_with fail
  with_reducible refine Calls.mono MD.out ?_
  rintro e w1 ⟨rfl, rfl⟩
  go_wp2_with fail
  go_ret
  exact ⟨rfl, rfl⟩
theorem mark_nil (w : World) : Calls Try.prog 18 #[.pointer none] w fun e w' => e = .returned (.int .u64 0) ∧ w = w' := by
  have MD := Lib.hid (made_nil w)
  go_enter Try.func18, Try.ntmps18
  go_wp2_with fail
  with_reducible refine Calls.mono MD.out ?_
  rintro e w1 ⟨rfl, rfl⟩
  go_wp2_with fail
  go_ret
  exact ⟨rfl, rfl⟩
theorem len_nil (w : World) : Calls Try.prog 19 #[.pointer none] w fun e w' => e = .returned (.int .i64 0) ∧ w = w' := by
  have MD := Lib.hid (made_nil w)
  go_enter Try.func19, Try.ntmps19
  go_wp2_with fail
  with_reducible refine Calls.mono MD.out ?_
  rintro e w1 ⟨rfl, rfl⟩
  go_wp2_with fail
  go_ret
  exact ⟨rfl, rfl⟩
end Go.Proofs.Ytaihjnonlnbhhaa.Idw
