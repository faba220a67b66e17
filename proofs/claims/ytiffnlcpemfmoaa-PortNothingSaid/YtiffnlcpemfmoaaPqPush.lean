/- A queue in memory: Push. Conditions: each theorem's own. -/
import Derived.Test.YtiffnlcpemfmoaaPqNew
set_option linter.unusedVariables false
namespace Go.Proofs.Ytiffnlcpemfmoaa.Qu
open Go.RowKit Hp QuM QuN Rw
attribute [local go_sem ↓] Go.wp_at_zero Go.wp_at_succ
/-- No such line. -/
theorem push_arg (q : Option Addr) {p : Int} (hp : ¬ (0 ≤ p ∧ p < 8)) {x : Bx} (hb : Sane x) (w : World) :
    Calls Try.prog 32 #[.pointer q, .int .i64 p, bv x] w fun e w' => e = .returned (.int .i64 1) ∧ Kept (fun _ => False) w w' := by
  obtain ⟨⟨x1, x2, x3, x4, x5, x6, x7, x8, x9, xd⟩, xa, xc, xq⟩ := x
  have IP := Lib.hid fun w => isPrio_any p w
  have hd : decide (0 ≤ p ∧ p < 8) = false := decide_eq_false hp
  rw [hd] at IP
  clear hd hp
  go_enter Try.func32, Try.ntmps32
  go_wp2_with fail
  with_reducible refine Calls.mono (IP.out _) ?_
  rintro e w2 ⟨rfl, rfl⟩
  go_wp2_with fail
  go_ret
  exact ⟨rfl, (Kept.refl _ w).alloc _⟩
/-- Of nothing. -/
theorem push_nil {p : Int} (hp : 0 ≤ p ∧ p < 8) {x : Bx} (hb : Sane x) (w : World) :
    Calls Try.prog 32 #[.pointer none, .int .i64 p, bv x] w fun e w' => e = .returned (.int .i64 4) ∧ Kept (fun _ => False) w w' := by
  obtain ⟨⟨x1, x2, x3, x4, x5, x6, x7, x8, x9, xd⟩, xa, xc, xq⟩ := x
  have IP := Lib.hid fun w => isPrio_any p w
  have hd : decide (0 ≤ p ∧ p < 8) = true := decide_eq_true hp
  rw [hd] at IP
  clear hd hp
  go_enter Try.func32, Try.ntmps32
  go_wp2_with fail
  with_reducible refine Calls.mono (IP.out _) ?_
  rintro e w2 ⟨rfl, rfl⟩
  go_wp2_with fail
  go_ret
  exact ⟨rfl, (Kept.refl _ w).alloc _⟩
set_option maxHeartbeats 4000000 in
/-- There is no room for it. -/
theorem push_full {w0 w : World} {b : Nat} {room : Int} {ls : Nat → List Bx} {F : Nat → Prop} (h : St w0 b room ls F w) {p : Int} (hp : 0 ≤ p ∧ p < 8) {x : Bx} (hb : Sane x) (hx : room < tot ls 8 + szI (nb x)) :
    Calls Try.prog 32 #[.pointer (some ⟨b, 0, none⟩), .int .i64 p, bv x] w fun e w' => e = .returned (.int .i64 4) ∧ Kept (fun _ => False) w w' := by
  obtain ⟨⟨x1, x2, x3, x4, x5, x6, x7, x8, x9, xd⟩, xa, xc, xq⟩ := x
  have IP := Lib.hid fun w => isPrio_any p w
  have hd : decide (0 ≤ p ∧ p < 8) = true := decide_eq_true hp
  rw [hd] at IP
  have BO := Lib.hid fun w => bytesOf_any hb w
  have hz := szI_in (nb ⟨⟨x1, x2, x3, x4, x5, x6, x7, x8, x9, xd⟩, xa, xc, xq⟩)
  have hn := tot_nonneg ls 8
  obtain ⟨h0, hr0, c, vs, fs, h1, h2, h3, h4⟩ := h
  have C0 := Lib.hid fun (w' : World) (hk : Kept (fun _ => False) w w') => (hk.blk h1.blk (fun f => f)).cell h1.c0
  have C1 := Lib.hid fun (w' : World) (hk : Kept (fun _ => False) w w') => (hk.blk h1.blk (fun f => f)).cell h1.c1
  try simp only at hx
  clear hd hp h0 h1 h2 h3 h4 hb
  generalize tot ls 8 = u at *
  generalize szI (nb ⟨⟨x1, x2, x3, x4, x5, x6, x7, x8, x9, xd⟩, xa, xc, xq⟩) = s at *
  have hw1 : IntKind.i64.wrap (room - u) = room - u := by rw [IntKind.wrap_i64]; omega
  have hgt : room - u < s := by omega
  go_enter Try.func32, Try.ntmps32
  go_wp2_with fail
  with_reducible refine Calls.mono (IP.out _) ?_
  rintro e w2 ⟨rfl, rfl⟩
  go_wp2_with fail
  have hB := Blk.new w [.int .i64 x1, .int .i64 x2, .int .i64 x3, .int .i64 x4, .int .u64 (x5 : Int), .int .i64 x6, .int .i64 x7, .int .i64 x8, .int .i64 x9, .slice xa xd.length xc, .int .i64 xq] bT.E
  have hk := (Kept.refl (fun _ => False) w).alloc (.cells [.int .i64 x1, .int .i64 x2, .int .i64 x3, .int .i64 x4, .int .u64 (x5 : Int), .int .i64 x6, .int .i64 x7, .int .i64 x8, .int .i64 x9, .slice xa xd.length xc, .int .i64 xq].toArray bT.E)
  have HK := Lib.hid hk
  dsimp only [List.toArray] at HK
  clear hB hk
  generalize w.alloc (.cells #[.int .i64 x1, .int .i64 x2, .int .i64 x3, .int .i64 x4, .int .u64 (x5 : Int), .int .i64 x6, .int .i64 x7, .int .i64 x8, .int .i64 x9, .slice xa xd.length xc, .int .i64 xq] 28) = w1 at *
  generalize w.heap.size = rb at *
  with_reducible refine Calls.mono (BO.out _) ?_
  rintro e w2 ⟨rfl, hk2⟩
  have HK2 := Lib.hid (HK.out.trans hk2)
  have q0 := C0.out w2 HK2.out
  have q1 := C1.out w2 HK2.out
  clear hk2 HK C0 C1 BO IP
  go_upto_region 8 with fail
  go_quiet (fail)
  go_wp2_with fail
  go_ret
  exact ⟨rfl, HK2.out.drewN _⟩
set_option maxRecDepth 100000 in
set_option maxHeartbeats 8000000 in
/-- It is put behind its line. -/
theorem push_ok {w0 w : World} {b : Nat} {room : Int} {ls : Nat → List Bx} {F : Nat → Prop} (h : St w0 b room ls F w) {p : Nat} {K : Int} (hK : K = (p : Nat)) (hp : p < 8) {x : Bx} (hb : Sane x) (hx : tot ls 8 + szI (nb x) ≤ room) (hl : (ls p).length < 100000) :
    Calls Try.prog 32 #[.pointer (some ⟨b, 0, none⟩), .int .i64 K, bv x] w fun e w' => e = .returned (.int .i64 0) ∧ ∃ F', St w0 b room (upd ls p (ls p ++ [x])) F' w' ∧ Next F w F' w' := by
  subst hK
  obtain ⟨⟨x1, x2, x3, x4, x5, x6, x7, x8, x9, xd⟩, xa, xc, xq⟩ := x
  have IP := Lib.hid fun w => isPrio_any (p : Nat) w
  have hd : decide (0 ≤ (p : Int) ∧ (p : Int) < 8) = true := decide_eq_true (by omega)
  rw [hd] at IP
  have BO := Lib.hid fun w => bytesOf_any hb w
  have hz := szI_in (nb ⟨⟨x1, x2, x3, x4, x5, x6, x7, x8, x9, xd⟩, xa, xc, xq⟩)
  have hn := tot_nonneg ls 8
  have htot : tot (upd ls p (ls p ++ [(⟨⟨x1, x2, x3, x4, x5, x6, x7, x8, x9, xd⟩, xa, xc, xq⟩ : Bx)])) 8 = tot ls 8 + szI (nb ⟨⟨x1, x2, x3, x4, x5, x6, x7, x8, x9, xd⟩, xa, xc, xq⟩) := by
    rw [tot_upd hp, sumB_append]
    show tot ls 8 - sumB (ls p) + (sumB (ls p) + (szI (nb ⟨⟨x1, x2, x3, x4, x5, x6, x7, x8, x9, xd⟩, xa, xc, xq⟩) + 0)) = _
    omega
  have HH := Lib.hid h
  obtain ⟨h0, hr0, c, vs, fs, h1, h2, h3, h4⟩ := h
  have H1 := Lib.hid h1
  have H2 := Lib.hid h2
  have H3 := Lib.hid h3
  have H4 := Lib.hid h4
  have C0 := Lib.hid fun (w' : World) (hk : Kept (fun _ => False) w w') => (hk.blk h1.blk (fun f => f)).cell h1.c0
  have C1 := Lib.hid fun (w' : World) (hk : Kept (fun _ => False) w w') => (hk.blk h1.blk (fun f => f)).cell h1.c1
  have PU := Lib.hid fun (w' : World) (hk : Kept (fun _ => False) w w') =>
    (show Calls Try.prog 43 #[.pointer (some ⟨b, 2 + p * 3, none⟩), .agg #[.int .i64 x1, .int .i64 x2, .int .i64 x3, .int .i64 x4, .int .u64 (x5 : Int), .int .i64 x6, .int .i64 x7, .int .i64 x8, .int .i64 x9, .slice xa xd.length xc, .int .i64 xq, .int .i64 (szI (nb ⟨⟨x1, x2, x3, x4, x5, x6, x7, x8, x9, xd⟩, xa, xc, xq⟩))]] w' (PushP w' b (2 + p * 3) c tQ (vs p) ((ls p).map it ++ [((⟨⟨x1, x2, x3, x4, x5, x6, x7, x8, x9, xd⟩, xa, xc, xq⟩, szI (nb ⟨⟨x1, x2, x3, x4, x5, x6, x7, x8, x9, xd⟩, xa, xc, xq⟩)) : It)])) from
      push_any (hk.blk h1.blk (fun f => f)) (h1.cv p hp) (h1.cf p hp) (by rw [List.length_map]; exact h1.cn p hp) tQ_ne ((h1.ring p hp).old hk) (by rw [List.length_map]; omega) ((⟨⟨x1, x2, x3, x4, x5, x6, x7, x8, x9, xd⟩, xa, xc, xq⟩, szI (nb ⟨⟨x1, x2, x3, x4, x5, x6, x7, x8, x9, xd⟩, xa, xc, xq⟩)) : It))
  have hblt := h1.blk.lt
  have HLM : Hid (((ls p).map it ++ [((⟨⟨x1, x2, x3, x4, x5, x6, x7, x8, x9, xd⟩, xa, xc, xq⟩, szI (nb ⟨⟨x1, x2, x3, x4, x5, x6, x7, x8, x9, xd⟩, xa, xc, xq⟩)) : It)]) = (ls p ++ [(⟨⟨x1, x2, x3, x4, x5, x6, x7, x8, x9, xd⟩, xa, xc, xq⟩ : Bx)]).map it) := Lib.hid (by rw [List.map_append]; rfl)
  try simp only at hx
  clear hd h0 h1 h2 h3 h4 hb
  obtain ⟨LL, hLL⟩ : ∃ LL, ((ls p).map it ++ [((⟨⟨x1, x2, x3, x4, x5, x6, x7, x8, x9, xd⟩, xa, xc, xq⟩, szI (nb ⟨⟨x1, x2, x3, x4, x5, x6, x7, x8, x9, xd⟩, xa, xc, xq⟩)) : It)]) = LL := ⟨_, rfl⟩
  rw [hLL] at PU HLM
  clear hLL
  have HT := Lib.hid htot
  clear htot
  obtain ⟨u, hu⟩ : ∃ u, tot ls 8 = u := ⟨_, rfl⟩
  have HU := Lib.hid hu
  rw [hu] at hx hn hr0 C1 HT
  clear hu
  generalize szI (nb ⟨⟨x1, x2, x3, x4, x5, x6, x7, x8, x9, xd⟩, xa, xc, xq⟩) = s at *
  have hw1 : IntKind.i64.wrap (room - u) = room - u := by rw [IntKind.wrap_i64]; omega
  have hw2 : IntKind.i64.wrap (u + s) = u + s := by rw [IntKind.wrap_i64]; omega
  have hgt : ¬ room - u < s := by omega
  go_enter Try.func32, Try.ntmps32
  go_wp2_with fail
  with_reducible refine Calls.mono (IP.out _) ?_
  rintro e w2 ⟨rfl, rfl⟩
  go_wp2_with fail
  have hB := Blk.new w [.int .i64 x1, .int .i64 x2, .int .i64 x3, .int .i64 x4, .int .u64 (x5 : Int), .int .i64 x6, .int .i64 x7, .int .i64 x8, .int .i64 x9, .slice xa xd.length xc, .int .i64 xq] bT.E
  have hk := (Kept.refl (fun _ => False) w).alloc (.cells [.int .i64 x1, .int .i64 x2, .int .i64 x3, .int .i64 x4, .int .u64 (x5 : Int), .int .i64 x6, .int .i64 x7, .int .i64 x8, .int .i64 x9, .slice xa xd.length xc, .int .i64 xq].toArray bT.E)
  have HK := Lib.hid hk
  have HB := Lib.hid hB
  dsimp only [List.toArray] at HK HB
  clear hB hk
  generalize w.alloc (.cells #[.int .i64 x1, .int .i64 x2, .int .i64 x3, .int .i64 x4, .int .u64 (x5 : Int), .int .i64 x6, .int .i64 x7, .int .i64 x8, .int .i64 x9, .slice xa xd.length xc, .int .i64 xq] 28) = w1 at *
  obtain ⟨rb, hrb⟩ : ∃ rb, w.heap.size = rb := ⟨_, rfl⟩
  rw [hrb] at HB
  simp only [hrb]
  clear hrb
  with_reducible refine Calls.mono (BO.out _) ?_
  rintro e w2 ⟨rfl, hk2⟩
  have HK2 := Lib.hid (HK.out.trans hk2)
  have HB2 := Lib.hid (hk2.blk HB.out (fun f => f))
  have q0 := C0.out w2 HK2.out
  have q1 := C1.out w2 HK2.out
  clear hk2 HK C0 BO IP HB
  go_upto_region 8 with fail
  go_quiet (fail)
  go_wp2_with fail
  generalize hw3 : w2.drewN nq = w3
  have HK3 : Hid (Kept (fun _ => False) w w3) := by subst hw3; exact Lib.hid (HK2.out.drewN _)
  have HB3 : Hid (Blk w3 rb [.int .i64 x1, .int .i64 x2, .int .i64 x3, .int .i64 x4, .int .u64 (x5 : Int), .int .i64 x6, .int .i64 x7, .int .i64 x8, .int .i64 x9, .slice xa xd.length xc, .int .i64 xq] bT.E) := by subst hw3; exact HB2
  clear hw3 HK2 HB2 q0 q1
  have r0 := HB3.out.cell (o := 0) rfl
  have r1 := HB3.out.cell (o := 1) rfl
  have r2 := HB3.out.cell (o := 2) rfl
  have r3 := HB3.out.cell (o := 3) rfl
  have r4 := HB3.out.cell (o := 4) rfl
  have r5 := HB3.out.cell (o := 5) rfl
  have r6 := HB3.out.cell (o := 6) rfl
  have r7 := HB3.out.cell (o := 7) rfl
  have r8 := HB3.out.cell (o := 8) rfl
  have r9 := HB3.out.cell (o := 9) rfl
  have r10 := HB3.out.cell (o := 10) rfl
  go_region_with (first | (go_at_call 43; (with_reducible refine Calls.mono (PU.out _ (by first | exact HK3.out | exact HK3.out.drew)) ?_); rintro e w4 ⟨rfl, v', f', hB4, hR4, ho4, hk4⟩))
  all_goals
    have k4 : Kept (fun i => i = b ∨ (vs p).ownBlock = some i) w w4 := by
      have k3 : Kept (fun i => i = b ∨ (vs p).ownBlock = some i) w w3.drew := HK3.out.drew.mono (fun _ _ f => f.elim)
      first | exact k3.trans hk4 | exact (HK3.out.mono (fun _ _ f => f.elim)).trans hk4
    have ho4' : ∀ g, v'.ownBlock = some g → (vs p).ownBlock = some g ∨ w.heap.size ≤ g := fun g e => (ho4 g e).imp id (fun h => Nat.le_trans HK3.out.size h)
    have Q4 := QuV.turn H1.out hp (L' := ls p ++ [(⟨⟨x1, x2, x3, x4, x5, x6, x7, x8, x9, xd⟩, xa, xc, xq⟩ : Bx)]) hB4 (by rw [HLM.out, List.length_map]) (by rw [← HLM.out]; exact hR4) ho4' k4
    have R : Hid (∀ w5 : World, Kept (fun _ => False) w4 w5 → (∃ F', St w0 b room (upd ls p (ls p ++ [(⟨⟨x1, x2, x3, x4, x5, x6, x7, x8, x9, xd⟩, xa, xc, xq⟩ : Bx)])) F' (w5.setCell ⟨b, 1, none⟩ (.int .i64 (u + s))) ∧ Next F w F' (w5.setCell ⟨b, 1, none⟩ (.int .i64 (u + s))))) := by
      refine Lib.hid fun w5 k5 => ?_
      have Q5 := (Q4.old k5).use (u + s)
      rw [← HT.out] at Q5 ⊢
      refine St.nx HH.out ?_ (by rw [HT.out]; exact hx) Q5 ?_
      · refine ((k4.mono (fun i _ e => e.elim (fun e => e ▸ H2.out) (H3.out p i hp))).trans (k5.mono (fun _ _ f => f.elim))).trans ((Kept.one w5 b 1 _).mono (fun i _ e => e ▸ H2.out))
      · intro k g hk hg
        by_cases e : k = p
        · subst e
          rw [upd_self] at hg
          exact (ho4' g hg).imp (H3.out k g hk) id
        · rw [upd_ne vs v' e] at hg
          exact Or.inl (H3.out k g hk hg)
    have t1 := Q4.blk.cell Q4.c1
    have f1 := Q4.blk.frozen 1
    have t1' := Q4.blk.drew.cell Q4.c1
    have f1' := Q4.blk.drew.frozen 1
    rw [HU.out] at t1 t1'
    clear Q4 k4 ho4' ho4 hB4 hR4 hk4 PU r0 r1 r2 r3 r4 r5 r6 r7 r8 r9 r10 C1
    go_wp2_with fail
    go_ret
    first | exact ⟨rfl, R.out _ (Kept.refl _ w4)⟩ | exact ⟨rfl, R.out _ (Kept.refl _ w4).drew⟩
end Go.Proofs.Ytiffnlcpemfmoaa.Qu
