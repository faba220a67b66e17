/- A port: Put. Conditions: each theorem's own. -/
import Derived.Test.YtiffnlcpemfmoaaPoPut
set_option linter.unusedVariables false
namespace Go.Proofs.Ytiffnlcpemfmoaa.Po
open Go.RowKit Hp QuM QuN Rw Qu NumM NumC
attribute [local go_sem ↓] Go.wp_at_zero Go.wp_at_succ
variable {w0 w w' : World} {b qf qc pb : Nat} {room most : Int} {trim : Bool} {ls : Nat → List Bx} {cr : List Bx} {now nxt : Int} {Ff Fc F : Nat → Prop}
theorem put_nil (x : Bx) (w : World) : Calls Try.prog 6 #[.pointer none, bv x] w fun e w' => e = .returned (.int .i64 3) ∧ Kept (fun _ => False) w w' := by
  obtain ⟨⟨x1, x2, x3, x4, x5, x6, x7, x8, x9, xd⟩, xa, xc, xq⟩ := x
  go_enter Try.func6, Try.ntmps6
  go_wp2_with fail
  go_ret
  exact ⟨rfl, (Kept.refl _ w).alloc _⟩
set_option maxRecDepth 100000 in
set_option maxHeartbeats 4000000 in
theorem put_q {x : Bx} {Post : World → Prop} (hP : ∀ w', Kept (fun _ => False) w w' → Calls Try.prog 18 #[.pointer (some ⟨b, 0, none⟩), bv x] w' fun e w'' => e = .returned (.bool true) ∧ Post w'') :
    Calls Try.prog 6 #[.pointer (some ⟨b, 0, none⟩), bv x] w fun e w' => e = .returned (.int .i64 1) ∧ Post w' := by
  have HP := Lib.hid hP
  obtain ⟨⟨x1, x2, x3, x4, x5, x6, x7, x8, x9, xd⟩, xa, xc, xq⟩ := x
  clear hP
  go_enter Try.func6, Try.ntmps6
  go_upto_block 0 with fail
  have hB := Blk.new w [.int .i64 x1, .int .i64 x2, .int .i64 x3, .int .i64 x4, .int .u64 (x5 : Int), .int .i64 x6, .int .i64 x7, .int .i64 x8, .int .i64 x9, .slice xa xd.length xc, .int .i64 xq] 28
  have hk1 := (Kept.refl (fun _ => False) w).alloc (.cells [.int .i64 x1, .int .i64 x2, .int .i64 x3, .int .i64 x4, .int .u64 (x5 : Int), .int .i64 x6, .int .i64 x7, .int .i64 x8, .int .i64 x9, .slice xa xd.length xc, .int .i64 xq].toArray 28)
  dsimp only [List.toArray] at hB hk1
  generalize w.alloc (.cells #[.int .i64 x1, .int .i64 x2, .int .i64 x3, .int .i64 x4, .int .u64 (x5 : Int), .int .i64 x6, .int .i64 x7, .int .i64 x8, .int .i64 x9, .slice xa xd.length xc, .int .i64 xq] 28) = w1 at *
  generalize w.heap.size = rb at *
  have HK := Lib.hid hk1
  clear hk1
  have c0 := hB.cell (o := 0) rfl
  have c1 := hB.cell (o := 1) rfl
  have c2 := hB.cell (o := 2) rfl
  have c3 := hB.cell (o := 3) rfl
  have c4 := hB.cell (o := 4) rfl
  have c5 := hB.cell (o := 5) rfl
  have c6 := hB.cell (o := 6) rfl
  have c7 := hB.cell (o := 7) rfl
  have c8 := hB.cell (o := 8) rfl
  have c9 := hB.cell (o := 9) rfl
  have c10 := hB.cell (o := 10) rfl
  clear hB
  go_wp2_with fail
  with_reducible refine Calls.mono (HP.out _ HK.out) ?_
  rintro e w2 ⟨rfl, h2⟩
  have H2 := Lib.hid h2
  clear c0 c1 c2 c3 c4 c5 c6 c7 c8 c9 c10 h2 HK HP
  go_wp2_with fail
  go_ret
  exact ⟨rfl, H2.out⟩
set_option maxRecDepth 100000 in
set_option maxHeartbeats 4000000 in
theorem put_d {x : Bx} (hb : b < w.heap.size) (hP : ∀ w', Kept (fun _ => False) w w' → Calls Try.prog 18 #[.pointer (some ⟨b, 0, none⟩), bv x] w' fun e w'' => e = .returned (.bool false) ∧ Kept (fun _ => False) w' w'')
    (hc : w.cell? ⟨b, 0, none⟩ = some (.bool trim)) (ht : trim = false ∨ x.f.kind ≠ 1) :
    Calls Try.prog 6 #[.pointer (some ⟨b, 0, none⟩), bv x] w fun e w' => e = .returned (.int .i64 3) ∧ Kept (fun _ => False) w w' := by
  have HP := Lib.hid hP
  have C0 : Hid (∀ w', Kept (fun _ => False) w w' → w'.cell? ⟨b, 0, none⟩ = some (.bool trim)) := Lib.hid fun w' k => (Byt.keptAt k hb (fun f => f) 0).trans hc
  obtain ⟨⟨x1, x2, x3, x4, x5, x6, x7, x8, x9, xd⟩, xa, xc, xq⟩ := x
  clear hP hc
  have ht2 : trim = false ∨ (trim = true ∧ (x1 == 1) = false) := by
    rcases ht with h | h
    · exact Or.inl h
    · cases trim
      · exact Or.inl rfl
      · exact Or.inr ⟨rfl, by rw [beq_eq_false_iff_ne]; exact h⟩
  clear ht
  rcases ht2 with rfl | ⟨rfl, hk⟩
  all_goals
    go_enter Try.func6, Try.ntmps6
    go_upto_block 0 with fail
    have hB := Blk.new w [.int .i64 x1, .int .i64 x2, .int .i64 x3, .int .i64 x4, .int .u64 (x5 : Int), .int .i64 x6, .int .i64 x7, .int .i64 x8, .int .i64 x9, .slice xa xd.length xc, .int .i64 xq] 28
    have hk1 := (Kept.refl (fun _ => False) w).alloc (.cells [.int .i64 x1, .int .i64 x2, .int .i64 x3, .int .i64 x4, .int .u64 (x5 : Int), .int .i64 x6, .int .i64 x7, .int .i64 x8, .int .i64 x9, .slice xa xd.length xc, .int .i64 xq].toArray 28)
    dsimp only [List.toArray] at hB hk1
    generalize w.alloc (.cells #[.int .i64 x1, .int .i64 x2, .int .i64 x3, .int .i64 x4, .int .u64 (x5 : Int), .int .i64 x6, .int .i64 x7, .int .i64 x8, .int .i64 x9, .slice xa xd.length xc, .int .i64 xq] 28) = w1 at *
    generalize w.heap.size = rb at *
    have HK := Lib.hid hk1
    have HB := Lib.hid hB
    clear hk1
    have c0 := hB.cell (o := 0) rfl
    have c1 := hB.cell (o := 1) rfl
    have c2 := hB.cell (o := 2) rfl
    have c3 := hB.cell (o := 3) rfl
    have c4 := hB.cell (o := 4) rfl
    have c5 := hB.cell (o := 5) rfl
    have c6 := hB.cell (o := 6) rfl
    have c7 := hB.cell (o := 7) rfl
    have c8 := hB.cell (o := 8) rfl
    have c9 := hB.cell (o := 9) rfl
    have c10 := hB.cell (o := 10) rfl
    clear hB
    go_wp2_with fail
    with_reducible refine Calls.mono (HP.out _ HK.out) ?_
    rintro e w2 ⟨rfl, hk2⟩
    have hB2 := hk2.blk HB.out (fun f => f)
    have HK2 := Lib.hid (HK.out.trans hk2)
    have t0 := C0.out _ HK2.out
    clear c0 c1 c2 c3 c4 c5 c6 c7 c8 c9 c10 hk2 HK HP HB C0
    have c0 := hB2.cell (o := 0) rfl
    clear hB2
    go_wp2_with fail
    go_ret
    exact ⟨rfl, HK2.out⟩
set_option maxRecDepth 100000 in
set_option maxHeartbeats 4000000 in
theorem put_t {x : Bx} {r : Bool} {Post : World → Prop} (hb : b < w.heap.size) (hP : ∀ w', Kept (fun _ => False) w w' → Calls Try.prog 18 #[.pointer (some ⟨b, 0, none⟩), bv x] w' fun e w'' => e = .returned (.bool false) ∧ Kept (fun _ => False) w' w'')
    (hT : ∀ w', Kept (fun _ => False) w w' → Calls Try.prog 18 #[.pointer (some ⟨b, 0, none⟩), bv (trX x)] w' fun e w'' => e = .returned (.bool r) ∧ Post w'')
    (hc : w.cell? ⟨b, 0, none⟩ = some (.bool true)) (hk : x.f.kind = 1) :
    Calls Try.prog 6 #[.pointer (some ⟨b, 0, none⟩), bv x] w fun e w' => e = .returned (.int .i64 (if r then 2 else 3)) ∧ Post w' := by
  have HP := Lib.hid hP
  have HT := Lib.hid hT
  have TR := Lib.hid fun (w' : World) => trimmed_any (w := w') x
  have C0 : Hid (∀ w', Kept (fun _ => False) w w' → w'.cell? ⟨b, 0, none⟩ = some (.bool true)) := Lib.hid fun w' k => (Byt.keptAt k hb (fun f => f) 0).trans hc
  generalize trX x = y at *
  obtain ⟨⟨x1, x2, x3, x4, x5, x6, x7, x8, x9, xd⟩, xa, xc, xq⟩ := x
  dsimp only at hk
  subst hk
  clear hP hT hc
  obtain ⟨vy, hvy⟩ : ∃ vy, bv y = vy := ⟨_, rfl⟩
  rw [hvy] at TR HT
  clear hvy
  cases r
  all_goals
    go_enter Try.func6, Try.ntmps6
    go_upto_block 0 with fail
    have hB := Blk.new w [.int .i64 1, .int .i64 x2, .int .i64 x3, .int .i64 x4, .int .u64 (x5 : Int), .int .i64 x6, .int .i64 x7, .int .i64 x8, .int .i64 x9, .slice xa xd.length xc, .int .i64 xq] 28
    have hk1 := (Kept.refl (fun _ => False) w).alloc (.cells [.int .i64 1, .int .i64 x2, .int .i64 x3, .int .i64 x4, .int .u64 (x5 : Int), .int .i64 x6, .int .i64 x7, .int .i64 x8, .int .i64 x9, .slice xa xd.length xc, .int .i64 xq].toArray 28)
    dsimp only [List.toArray] at hB hk1
    generalize w.alloc (.cells #[.int .i64 1, .int .i64 x2, .int .i64 x3, .int .i64 x4, .int .u64 (x5 : Int), .int .i64 x6, .int .i64 x7, .int .i64 x8, .int .i64 x9, .slice xa xd.length xc, .int .i64 xq] 28) = w1 at *
    generalize w.heap.size = rb at *
    have HK := Lib.hid hk1
    have HB := Lib.hid hB
    clear hk1
    have c0 := hB.cell (o := 0) rfl
    have c1 := hB.cell (o := 1) rfl
    have c2 := hB.cell (o := 2) rfl
    have c3 := hB.cell (o := 3) rfl
    have c4 := hB.cell (o := 4) rfl
    have c5 := hB.cell (o := 5) rfl
    have c6 := hB.cell (o := 6) rfl
    have c7 := hB.cell (o := 7) rfl
    have c8 := hB.cell (o := 8) rfl
    have c9 := hB.cell (o := 9) rfl
    have c10 := hB.cell (o := 10) rfl
    clear hB
    go_wp2_with fail
    with_reducible refine Calls.mono (HP.out _ HK.out) ?_
    rintro e w2 ⟨rfl, hk2⟩
    have hB2 := hk2.blk HB.out (fun f => f)
    have HK2 := Lib.hid (HK.out.trans hk2)
    have t0 := C0.out _ HK2.out
    clear c0 c1 c2 c3 c4 c5 c6 c7 c8 c9 c10 hk2 HK HP HB C0
    have c0 := hB2.cell (o := 0) rfl
    have c1 := hB2.cell (o := 1) rfl
    have c2 := hB2.cell (o := 2) rfl
    have c3 := hB2.cell (o := 3) rfl
    have c4 := hB2.cell (o := 4) rfl
    have c5 := hB2.cell (o := 5) rfl
    have c6 := hB2.cell (o := 6) rfl
    have c7 := hB2.cell (o := 7) rfl
    have c8 := hB2.cell (o := 8) rfl
    have c9 := hB2.cell (o := 9) rfl
    have c10 := hB2.cell (o := 10) rfl
    clear hB2
    go_wp2_with fail
    with_reducible refine Calls.mono (TR.out _) ?_
    rintro e w3 ⟨rfl, hk3⟩
    have HK3 := Lib.hid (HK2.out.trans hk3)
    clear hk3 HK2 TR
    go_wp2_with fail
    with_reducible refine Calls.mono (HT.out _ HK3.out) ?_
    rintro e w4 ⟨rfl, h4⟩
    have H4 := Lib.hid h4
    clear h4 HT HK3
    go_wp2_with fail
    go_ret
    exact ⟨rfl, H4.out⟩
/-- What a trimmed one is. -/
theorem sane_tr (x : Bx) : Sane (trX x) := by
  show 0 ≤ (if (7 : Int) = 1 then x.f.len else 0) ∧ (if (7 : Int) = 1 then x.f.len else 0) ≤ 1000000
  rw [if_neg (by decide)]
  decide
theorem nb_tr (x : Bx) : szI (nb (trX x)) = 26 := by
  show min (max (26 + (if (7 : Int) = 1 then x.f.len else 0)) 0) 1073741824 = 26
  rw [if_neg (by decide)]
  decide
theorem rd_tr (w : World) (x : Bx) : Rd w (trX x) := ⟨⟨none, 0, rfl, Nat.le_refl _, Or.inl rfl, fun _ => rfl⟩, by show (0 : Nat) ≤ _; decide⟩
theorem prI_tr (x : Bx) : prI (trX x) = 7 := by unfold prI trX; rfl
/-- What a Put answers: 1, 2 or 3; what it leaves. -/
theorem put_cy (h : PS w0 b room most trim ls cr now nxt F w) {x : Bx} (hr : Rd w x) (hs : Sane x) (hk : x.f.kind = 11) (hc : (cr.length : Int) < most) (hl : cr.length < 100000) :
    Calls Try.prog 6 #[.pointer (some ⟨b, 0, none⟩), bv x] w fun e w' => e = .returned (.int .i64 1) ∧ ∃ s c F', PS w0 b room most trim ls (cr ++ [⟨x.f, s, c, x.q⟩]) now nxt F' w' ∧ Qu.Next F w F' w' :=
  put_q fun w1 k => (ppush_cy (h.old k) (hr.old k) hs hk hc hl).mono fun e w2 ⟨e1, s, c, F', h1, h2⟩ => ⟨e1, s, c, F', h1, next_in k h2⟩
theorem PS.cell0 (h : PS w0 b room most trim ls cr now nxt F w) : b < w.heap.size ∧ w.cell? ⟨b, 0, none⟩ = some (.bool trim) := by
  obtain ⟨qf, qc, pb, Ff, Fc, hp, rfl⟩ := h
  exact ⟨hp.blk.lt, hp.blk.cell (o := 0) rfl⟩
theorem put_cn (h : PS w0 b room most trim ls cr now nxt F w) {x : Bx} (hr : Rd w x) (hs : Sane x) (hk : x.f.kind = 11) (hc : most ≤ (cr.length : Int)) :
    Calls Try.prog 6 #[.pointer (some ⟨b, 0, none⟩), bv x] w fun e w' => e = .returned (.int .i64 3) ∧ Kept (fun _ => False) w w' :=
  put_d h.cell0.1 (fun w1 k => ppush_cn (h.old k) (hr.old k) hs hk hc) h.cell0.2 (Or.inr (by rw [hk]; decide))
theorem put_fy (h : PS w0 b room most trim ls cr now nxt F w) {x : Bx} (hr : Rd w x) (hs : Sane x) (hk : x.f.kind ≠ 11) {p : Nat} (hp0 : prI x = (p : Nat)) (hc : tot ls 8 + szI (nb x) ≤ room) (hl : (ls p).length < 100000) :
    Calls Try.prog 6 #[.pointer (some ⟨b, 0, none⟩), bv x] w fun e w' => e = .returned (.int .i64 1) ∧ ∃ s c F', PS w0 b room most trim (upd ls p (ls p ++ [⟨x.f, s, c, x.q⟩])) cr now nxt F' w' ∧ Qu.Next F w F' w' :=
  put_q fun w1 k => (ppush_fy (h.old k) (hr.old k) hs hk hp0 hc hl).mono fun e w2 ⟨e1, s, c, F', h1, h2⟩ => ⟨e1, s, c, F', h1, next_in k h2⟩
theorem put_fn (h : PS w0 b room most trim ls cr now nxt F w) {x : Bx} (hr : Rd w x) (hs : Sane x) (hk : x.f.kind ≠ 11) (hc : room < tot ls 8 + szI (nb x)) (ht : trim = false ∨ x.f.kind ≠ 1) :
    Calls Try.prog 6 #[.pointer (some ⟨b, 0, none⟩), bv x] w fun e w' => e = .returned (.int .i64 3) ∧ Kept (fun _ => False) w w' :=
  put_d h.cell0.1 (fun w1 k => ppush_fn (h.old k) (hr.old k) hs hk hc) h.cell0.2 ht
theorem put_ty (h : PS w0 b room most true ls cr now nxt F w) {x : Bx} (hr : Rd w x) (hs : Sane x) (hk : x.f.kind = 1) (hc : room < tot ls 8 + szI (nb x)) (hc2 : tot ls 8 + 26 ≤ room) (hl : (ls 7).length < 100000) :
    Calls Try.prog 6 #[.pointer (some ⟨b, 0, none⟩), bv x] w fun e w' => e = .returned (.int .i64 2) ∧ ∃ s c F', PS w0 b room most true (upd ls 7 (ls 7 ++ [⟨(trX x).f, s, c, x.q⟩])) cr now nxt F' w' ∧ Qu.Next F w F' w' :=
  put_t (r := true) h.cell0.1 (fun w1 k => ppush_fn (h.old k) (hr.old k) hs (by rw [hk]; decide) hc)
    (fun w1 k => (ppush_fy (h.old k) (rd_tr w1 x) (sane_tr x) (show (7 : Int) ≠ 11 by decide) (p := 7) (prI_tr x) (by rw [nb_tr]; exact hc2) hl).mono fun e w2 ⟨e1, s, c, F', h1, h2⟩ => ⟨e1, s, c, F', h1, next_in k h2⟩) h.cell0.2 hk
theorem put_tn (h : PS w0 b room most true ls cr now nxt F w) {x : Bx} (hr : Rd w x) (hs : Sane x) (hk : x.f.kind = 1) (hc : room < tot ls 8 + szI (nb x)) (hc2 : room < tot ls 8 + 26) :
    Calls Try.prog 6 #[.pointer (some ⟨b, 0, none⟩), bv x] w fun e w' => e = .returned (.int .i64 3) ∧ Kept (fun _ => False) w w' :=
  put_t (r := false) h.cell0.1 (fun w1 k => ppush_fn (h.old k) (hr.old k) hs (by rw [hk]; decide) hc)
    (fun w1 k => (ppush_fn (h.old k) (rd_tr w1 x) (sane_tr x) (show (7 : Int) ≠ 11 by decide) (by rw [nb_tr]; exact hc2)).mono fun e w2 ⟨e1, h2⟩ => ⟨e1, k.trans h2⟩) h.cell0.2 hk
end Go.Proofs.Ytiffnlcpemfmoaa.Po
