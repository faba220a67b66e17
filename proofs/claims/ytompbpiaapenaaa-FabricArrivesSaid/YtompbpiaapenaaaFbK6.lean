/- A queue in memory: what is taken out, looked at, told. Conditions: each theorem's own. -/
import Derived.Test.YtompbpiaapenaaaFbK5
set_option linter.unusedVariables false
set_option linter.unusedSimpArgs false
namespace Go.Proofs.Ytompbpiaapenaaa.Qu
open Go.RowKit Hp QuM QuN Rw
attribute [local go_sem ↓] Go.wp_at_zero Go.wp_at_succ
/-- None. -/
abbrev zB : Bx := ⟨⟨0, 0, 0, 0, 0, 0, 0, 0, 0, []⟩, none, 0, 0⟩
theorem map_erase (L : List Bx) (k : Nat) : (L.map it).eraseIdx k = (L.eraseIdx k).map it := by
  induction L generalizing k with
  | nil => rfl
  | cons x L ih =>
    cases k with
    | zero => rfl
    | succ k => rw [List.map_cons, List.eraseIdx_cons_succ, List.eraseIdx_cons_succ, List.map_cons, ih]
set_option maxRecDepth 100000 in
set_option maxHeartbeats 8000000 in
theorem qtake_any {w0 w : World} {b : Nat} {room : Int} {ls : Nat → List Bx} {F : Nat → Prop} (h : St w0 b room ls F w) {p k : Nat} {P K : Int} (hP : P = (p : Nat)) (hK : K = (k : Nat)) (hp : p < 8) {x : Bx} (hx : (ls p)[k]? = some x) (hl : (ls p).length ≤ 100000) :
    Calls Try.prog 80 #[.pointer (some ⟨b, 0, none⟩), .int .i64 P, .int .i64 K] w fun e w' => e = .returned (bv x) ∧ ∃ F', St w0 b room (upd ls p ((ls p).eraseIdx k)) F' w' ∧ Next F w F' w' := by
  subst hP
  subst hK
  obtain ⟨⟨x1, x2, x3, x4, x5, x6, x7, x8, x9, xd⟩, xa, xc, xq⟩ := x
  have hz := szI_in (nb ⟨⟨x1, x2, x3, x4, x5, x6, x7, x8, x9, xd⟩, xa, xc, xq⟩)
  have hn := tot_nonneg ls 8
  have htot : tot (upd ls p ((ls p).eraseIdx k)) 8 = tot ls 8 - szI (nb ⟨⟨x1, x2, x3, x4, x5, x6, x7, x8, x9, xd⟩, xa, xc, xq⟩) := by
    rw [tot_upd hp, sumB_erase hx]
    show tot ls 8 - sumB (ls p) + (sumB (ls p) - szI (nb ⟨⟨x1, x2, x3, x4, x5, x6, x7, x8, x9, xd⟩, xa, xc, xq⟩)) = _
    omega
  have hle : szI (nb ⟨⟨x1, x2, x3, x4, x5, x6, x7, x8, x9, xd⟩, xa, xc, xq⟩) ≤ tot ls 8 := by have := tot_nonneg (upd ls p ((ls p).eraseIdx k)) 8; omega
  have HH := Lib.hid h
  obtain ⟨h0, hr0, c, vs, fs, h1, h2, h3, h4⟩ := h
  have H1 := Lib.hid h1
  have H2 := Lib.hid h2
  have H3 := Lib.hid h3
  have TK := Lib.hid fun (w' : World) (hk : Kept (fun _ => False) w w') =>
    (show Calls Try.prog 104 #[.pointer (some ⟨b, 2 + p * 3, none⟩), .int .i64 (k : Nat)] w' (TakeP w' b (2 + p * 3) c tQ (vs p) (((ls p).map it).eraseIdx k) ((⟨⟨x1, x2, x3, x4, x5, x6, x7, x8, x9, xd⟩, xa, xc, xq⟩, szI (nb ⟨⟨x1, x2, x3, x4, x5, x6, x7, x8, x9, xd⟩, xa, xc, xq⟩)) : It)) from
      take_any (hk.blk h1.blk (fun f => f)) (h1.cv p hp) (h1.cf p hp) (by rw [List.length_map]; exact h1.cn p hp) tQ_ne ((h1.ring p hp).old hk) (by rw [List.length_map]; omega) (x := ((⟨⟨x1, x2, x3, x4, x5, x6, x7, x8, x9, xd⟩, xa, xc, xq⟩, szI (nb ⟨⟨x1, x2, x3, x4, x5, x6, x7, x8, x9, xd⟩, xa, xc, xq⟩)) : It)) (by rw [List.getElem?_map, hx]; rfl) rfl)
  rw [map_erase] at TK
  have hblt := h1.blk.lt
  have HT := Lib.hid htot
  have hp' : (p : Int) < 8 := by omega
  clear h0 h1 h2 h3 h4 htot hx hl
  obtain ⟨L', hL'⟩ : ∃ L', (ls p).eraseIdx k = L' := ⟨_, rfl⟩
  rw [hL'] at TK HT
  rw [hL']
  clear hL'
  obtain ⟨u, hu⟩ : ∃ u, tot ls 8 = u := ⟨_, rfl⟩
  have HU := Lib.hid hu
  rw [hu] at hn hr0 hle HT
  clear hu
  generalize szI (nb ⟨⟨x1, x2, x3, x4, x5, x6, x7, x8, x9, xd⟩, xa, xc, xq⟩) = s at *
  have hw2 : IntKind.i64.wrap (u - s) = u - s := by rw [IntKind.wrap_i64]; omega
  have hB1 := Blk.new w [.int .i64 0, .int .i64 0, .int .i64 0, .int .i64 0, .int .u64 0, .int .i64 0, .int .i64 0, .int .i64 0, .int .i64 0, .slice none 0 0, .int .i64 0] bT.E
  have hk1 : Kept (fun _ => False) w (w.alloc (.cells [.int .i64 0, .int .i64 0, .int .i64 0, .int .i64 0, .int .u64 0, .int .i64 0, .int .i64 0, .int .i64 0, .int .i64 0, .slice none 0 0, .int .i64 0].toArray bT.E)) := (Kept.refl _ w).alloc _
  have HB1 := Lib.hid hB1
  have HK1 := Lib.hid hk1
  dsimp only [List.toArray] at HB1 HK1
  clear hB1 hk1
  go_enter Try.func80, Try.ntmps80
  go_upto_region 1 with fail
  generalize w.alloc (.cells #[.int .i64 0, .int .i64 0, .int .i64 0, .int .i64 0, .int .u64 0, .int .i64 0, .int .i64 0, .int .i64 0, .int .i64 0, .slice none 0 0, .int .i64 0] 40) = w1 at *
  obtain ⟨rb, hrb⟩ : ∃ rb, w.heap.size = rb := ⟨_, rfl⟩
  rw [hrb] at HB1
  simp only [hrb]
  have HRB := Lib.hid hrb
  have hrbb : rb ≠ b := by omega
  clear hrb
  go_wp2_with fail
  with_reducible refine Calls.mono (TK.out _ HK1.out) ?_
  rintro e w2 ⟨rfl, v', f', hB2, hR2, ho2, hk2⟩
  have HRV : ∀ g, (vs p).ownBlock = some g → g ≠ rb := fun g e e2 => by have := ((H1.out.ring p hp).lt g e).1; have := HRB.out; omega
  have hr2 := hk2.blk HB1.out (fun e => e.elim hrbb (fun e => HRV _ e rfl))
  have k2 : Kept (fun i => i = b ∨ (vs p).ownBlock = some i) w w2 := (HK1.out.mono (fun _ _ f => f.elim)).trans hk2
  have ho2' : ∀ g, v'.ownBlock = some g → (vs p).ownBlock = some g ∨ w.heap.size ≤ g := fun g e => (ho2 g e).imp id (fun h => Nat.le_trans HK1.out.size h)
  have Q2 := Lib.hid (QuV.turn H1.out hp (L' := L') hB2 (by rw [List.length_map]) hR2 ho2' k2)
  rw [HU.out] at Q2
  have HK2 := Lib.hid k2
  have HO2 := Lib.hid ho2'
  have HR2 := Lib.hid hr2
  clear hB2 hR2 ho2 hk2 ho2' k2 hr2 TK HB1
  have hB3 := Blk.new w2 [.int .i64 x1, .int .i64 x2, .int .i64 x3, .int .i64 x4, .int .u64 (x5 : Int), .int .i64 x6, .int .i64 x7, .int .i64 x8, .int .i64 x9, .slice xa xd.length xc, .int .i64 xq, .int .i64 s] iT.E
  have hk3 : Kept (fun _ => False) w2 (w2.alloc (.cells [.int .i64 x1, .int .i64 x2, .int .i64 x3, .int .i64 x4, .int .u64 (x5 : Int), .int .i64 x6, .int .i64 x7, .int .i64 x8, .int .i64 x9, .slice xa xd.length xc, .int .i64 xq, .int .i64 s].toArray iT.E)) := (Kept.refl _ w2).alloc _
  have Q3 := Lib.hid (Q2.out.old hk3)
  have HR3 := Lib.hid (hk3.blk HR2.out (fun f => f))
  have HK3 := Lib.hid (HK2.out.trans (hk3.mono (fun _ _ f => f.elim)))
  have HOB := Lib.hid hB3
  dsimp only [List.toArray] at Q3 HR3 HK3 HOB
  have hob1 := HR2.out.lt
  have hob2 := Q2.out.blk.lt
  clear hB3 hk3 Q2 HR2 HK2
  go_upto_region 2 with fail
  generalize w2.alloc (.cells #[.int .i64 x1, .int .i64 x2, .int .i64 x3, .int .i64 x4, .int .u64 (x5 : Int), .int .i64 x6, .int .i64 x7, .int .i64 x8, .int .i64 x9, .slice xa xd.length xc, .int .i64 xq, .int .i64 s] 157) = w3 at *
  obtain ⟨ob, hob⟩ : ∃ ob, w2.heap.size = ob := ⟨_, rfl⟩
  rw [hob] at HOB
  simp only [hob]
  have hobb : ob ≠ b := by omega
  have hobr : ob ≠ rb := by omega
  clear hob
  have q1 := Q3.out.blk.cell Q3.out.c1
  have f1 := Q3.out.blk.frozen 1
  have o0 := HOB.out.cell (o := 0) rfl
  have o1 := HOB.out.cell (o := 1) rfl
  have o2 := HOB.out.cell (o := 2) rfl
  have o3 := HOB.out.cell (o := 3) rfl
  have o4 := HOB.out.cell (o := 4) rfl
  have o5 := HOB.out.cell (o := 5) rfl
  have o6 := HOB.out.cell (o := 6) rfl
  have o7 := HOB.out.cell (o := 7) rfl
  have o8 := HOB.out.cell (o := 8) rfl
  have o9 := HOB.out.cell (o := 9) rfl
  have o10 := HOB.out.cell (o := 10) rfl
  have o11 := HOB.out.cell (o := 11) rfl
  go_region_with (fail)
  all_goals
    have Q5 := (Q3.out.use (u - s)).old (Kept.refl (fun _ => False) _).drew
    have k35 : Kept (fun i => i = b) w3 (w3.setCell ⟨b, 1, none⟩ (.int .i64 (u - s))).drew := (Kept.one w3 b 1 _).drew
    have hr5 := k35.blk HR3.out (fun e => hrbb e)
    have ho5 := k35.blk HOB.out (fun e => hobb e)
    have k05 := HK3.out.trans (k35.mono (fun _ _ e => Or.inl e))
    clear q1 f1 o0 o1 o2 o3 o4 o5 o6 o7 o8 o9 o10 o11
    generalize (w3.setCell ⟨b, 1, none⟩ (.int .i64 (u - s))).drew = w5 at *
    have o0 := ho5.cell (o := 0) rfl
    have o1 := ho5.cell (o := 1) rfl
    have o2 := ho5.cell (o := 2) rfl
    have o3 := ho5.cell (o := 3) rfl
    have o4 := ho5.cell (o := 4) rfl
    have o5 := ho5.cell (o := 5) rfl
    have o6 := ho5.cell (o := 6) rfl
    have o7 := ho5.cell (o := 7) rfl
    have o8 := ho5.cell (o := 8) rfl
    have o9 := ho5.cell (o := 9) rfl
    have o10 := ho5.cell (o := 10) rfl
    have e0 := hr5.cell (o := 0) rfl
    have e1 := hr5.cell (o := 1) rfl
    have e2 := hr5.cell (o := 2) rfl
    have e3 := hr5.cell (o := 3) rfl
    have e4 := hr5.cell (o := 4) rfl
    have e5 := hr5.cell (o := 5) rfl
    have e6 := hr5.cell (o := 6) rfl
    have e7 := hr5.cell (o := 7) rfl
    have e8 := hr5.cell (o := 8) rfl
    have e9 := hr5.cell (o := 9) rfl
    have e10 := hr5.cell (o := 10) rfl
    have fz0 := hr5.frozen 0
    have fz1 := hr5.frozen 1
    have fz2 := hr5.frozen 2
    have fz3 := hr5.frozen 3
    have fz4 := hr5.frozen 4
    have fz5 := hr5.frozen 5
    have fz6 := hr5.frozen 6
    have fz7 := hr5.frozen 7
    have fz8 := hr5.frozen 8
    have fz9 := hr5.frozen 9
    have fz10 := hr5.frozen 10
    have hr6 := ((((((((((hr5.set 0 (.int .i64 x1)).set 1 (.int .i64 x2)).set 2 (.int .i64 x3)).set 3 (.int .i64 x4)).set 4 (.int .u64 (x5 : Int))).set 5 (.int .i64 x6)).set 6 (.int .i64 x7)).set 7 (.int .i64 x8)).set 8 (.int .i64 x9)).set 9 (.slice xa xd.length xc)).set 10 (.int .i64 xq)
    have k56 : Kept (fun i => i = rb) w5 (((((((((((w5.setCell ⟨rb, 0, none⟩ (.int .i64 x1)).setCell ⟨rb, 1, none⟩ (.int .i64 x2)).setCell ⟨rb, 2, none⟩ (.int .i64 x3)).setCell ⟨rb, 3, none⟩ (.int .i64 x4)).setCell ⟨rb, 4, none⟩ (.int .u64 (x5 : Int))).setCell ⟨rb, 5, none⟩ (.int .i64 x6)).setCell ⟨rb, 6, none⟩ (.int .i64 x7)).setCell ⟨rb, 7, none⟩ (.int .i64 x8)).setCell ⟨rb, 8, none⟩ (.int .i64 x9)).setCell ⟨rb, 9, none⟩ (.slice xa xd.length xc)).setCell ⟨rb, 10, none⟩ (.int .i64 xq)) :=
      (((((((((((Kept.refl (fun i => i = rb) w5).set (b := rb) (fun _ => rfl) _ _).set (b := rb) (fun _ => rfl) _ _).set (b := rb) (fun _ => rfl) _ _).set (b := rb) (fun _ => rfl) _ _).set (b := rb) (fun _ => rfl) _ _).set (b := rb) (fun _ => rfl) _ _).set (b := rb) (fun _ => rfl) _ _).set (b := rb) (fun _ => rfl) _ _).set (b := rb) (fun _ => rfl) _ _).set (b := rb) (fun _ => rfl) _ _).set (b := rb) (fun _ => rfl) _ _
    have Q6 := Q5.kept k56 (fun e => hrbb e.symm) (fun j g hj hg e => by
      have e2 : g = rb := e
      subst e2
      obtain ⟨_, c', h⟩ := (Q5.ring j hj).lt g hg
      exact absurd (h.inj hr5).2 (by decide))
    rw [← HT.out] at Q6
    have R : Hid (∃ F', St w0 b room (upd ls p L') F' (((((((((((w5.setCell ⟨rb, 0, none⟩ (.int .i64 x1)).setCell ⟨rb, 1, none⟩ (.int .i64 x2)).setCell ⟨rb, 2, none⟩ (.int .i64 x3)).setCell ⟨rb, 3, none⟩ (.int .i64 x4)).setCell ⟨rb, 4, none⟩ (.int .u64 (x5 : Int))).setCell ⟨rb, 5, none⟩ (.int .i64 x6)).setCell ⟨rb, 6, none⟩ (.int .i64 x7)).setCell ⟨rb, 7, none⟩ (.int .i64 x8)).setCell ⟨rb, 8, none⟩ (.int .i64 x9)).setCell ⟨rb, 9, none⟩ (.slice xa xd.length xc)).setCell ⟨rb, 10, none⟩ (.int .i64 xq)) ∧ Next F w F' (((((((((((w5.setCell ⟨rb, 0, none⟩ (.int .i64 x1)).setCell ⟨rb, 1, none⟩ (.int .i64 x2)).setCell ⟨rb, 2, none⟩ (.int .i64 x3)).setCell ⟨rb, 3, none⟩ (.int .i64 x4)).setCell ⟨rb, 4, none⟩ (.int .u64 (x5 : Int))).setCell ⟨rb, 5, none⟩ (.int .i64 x6)).setCell ⟨rb, 6, none⟩ (.int .i64 x7)).setCell ⟨rb, 7, none⟩ (.int .i64 x8)).setCell ⟨rb, 8, none⟩ (.int .i64 x9)).setCell ⟨rb, 9, none⟩ (.slice xa xd.length xc)).setCell ⟨rb, 10, none⟩ (.int .i64 xq))) := by
      refine Lib.hid (St.nx HH.out ?_ (by rw [HT.out]; omega) Q6 ?_)
      · refine (k05.mono (G := F) (fun i _ e => e.elim (fun e => e ▸ H2.out) (H3.out p i hp))).trans' k56 (fun i hi e => ?_)
        have := HRB.out
        omega
      · intro j g hj hg
        by_cases e : j = p
        · subst e
          rw [upd_self] at hg
          exact (HO2.out g hg).imp (H3.out j g hj) id
        · rw [upd_ne vs v' e] at hg
          exact Or.inl (H3.out j g hj hg)
    have z0 := hr6.cell (o := 0) rfl
    have z1 := hr6.cell (o := 1) rfl
    have z2 := hr6.cell (o := 2) rfl
    have z3 := hr6.cell (o := 3) rfl
    have z4 := hr6.cell (o := 4) rfl
    have z5 := hr6.cell (o := 5) rfl
    have z6 := hr6.cell (o := 6) rfl
    have z7 := hr6.cell (o := 7) rfl
    have z8 := hr6.cell (o := 8) rfl
    have z9 := hr6.cell (o := 9) rfl
    have z10 := hr6.cell (o := 10) rfl
    clear Q5 Q6 k05 k35 k56 hr5 ho5 hr6 Q3 HR3 HK3 HOB
    go_wp2_with fail
    exact bodyPost_ret (v := bv (⟨⟨x1, x2, x3, x4, x5, x6, x7, x8, x9, xd⟩, xa, xc, xq⟩ : Bx)) (by simp [results, Try.results80, go_sem, z0, z1, z2, z3, z4, z5, z6, z7, z8, z9, z10]) rfl ⟨rfl, R.out⟩
/-- The first one of all, as it would go. -/
def fst8 (ls : Nat → List Bx) : Option (Nat × Bx × List Bx) :=
  match top ls 8 with
  | none => none
  | some p => match ls p with
    | [] => none
    | x :: R => some (p, x, R)
theorem fst8_some {ls : Nat → List Bx} {p : Nat} {x : Bx} {R : List Bx} (h : fst8 ls = some (p, x, R)) : top ls 8 = some p ∧ p < 8 ∧ ls p = x :: R := by
  unfold fst8 at h
  split at h
  · cases h
  · rename_i q hq
    split at h
    · cases h
    · rename_i y S hS
      cases h
      exact ⟨hq, (top_some hq).1, hS⟩
theorem fst8_none {ls : Nat → List Bx} (h : fst8 ls = none) : top ls 8 = none := by
  unfold fst8 at h
  split at h
  · assumption
  · rename_i q hq
    split at h
    · rename_i hS
      exact absurd hS (top_some hq).2.1
    · cases h
theorem highest_none {w0 w : World} {b : Nat} {room : Int} {ls : Nat → List Bx} {F : Nat → Prop} (h : St w0 b room ls F w) (ht : top ls 8 = none) :
    Calls Try.prog 79 #[.pointer (some ⟨b, 0, none⟩)] w fun e w' => e = .returned (.tuple #[.int .i64 0, .bool false]) ∧ w = w' := by
  have := highest_any h
  rw [ht] at this
  exact this
theorem highest_some {w0 w : World} {b : Nat} {room : Int} {ls : Nat → List Bx} {F : Nat → Prop} (h : St w0 b room ls F w) {p : Nat} (ht : top ls 8 = some p) :
    Calls Try.prog 79 #[.pointer (some ⟨b, 0, none⟩)] w fun e w' => e = .returned (.tuple #[.int .i64 (p : Nat), .bool true]) ∧ w = w' := by
  have := highest_any h
  rw [ht] at this
  exact this
theorem highest_nil (w : World) : Calls Try.prog 79 #[.pointer none] w fun e w' => e = .returned (.tuple #[.int .i64 0, .bool false]) ∧ w = w' := by
  go_enter Try.func79, Try.ntmps79
  go_wp2_with fail
  exact bodyPost_ret (v := .tuple #[.int .i64 0, .bool false]) (by simp [results, Try.results79, go_sem]) rfl ⟨rfl, rfl⟩
theorem pop_off {q : Option Addr} {w : World} (hG : ∀ w', Kept (fun _ => False) w w' → Calls Try.prog 79 #[.pointer q] w' fun e w'' => e = .returned (.tuple #[.int .i64 0, .bool false]) ∧ w' = w'') :
    Calls Try.prog 50 #[.pointer q] w fun e w' => e = .returned (.tuple #[bv zB, .int .i64 0, .bool false]) ∧ Kept (fun _ => False) w w' := by
  have HG := Lib.hid hG
  have hB1 := Blk.new w [.int .i64 0, .int .i64 0, .int .i64 0, .int .i64 0, .int .u64 0, .int .i64 0, .int .i64 0, .int .i64 0, .int .i64 0, .slice none 0 0, .int .i64 0] bT.E
  have hk1 : Kept (fun _ => False) w (w.alloc (.cells [.int .i64 0, .int .i64 0, .int .i64 0, .int .i64 0, .int .u64 0, .int .i64 0, .int .i64 0, .int .i64 0, .int .i64 0, .slice none 0 0, .int .i64 0].toArray bT.E)) := (Kept.refl _ w).alloc _
  have HB1 := Lib.hid hB1
  have HK1 := Lib.hid hk1
  dsimp only [List.toArray] at HB1 HK1
  clear hB1 hk1 hG
  go_enter Try.func50, Try.ntmps50
  go_upto_region 1 with fail
  generalize w.alloc (.cells #[.int .i64 0, .int .i64 0, .int .i64 0, .int .i64 0, .int .u64 0, .int .i64 0, .int .i64 0, .int .i64 0, .int .i64 0, .slice none 0 0, .int .i64 0] 40) = w1 at *
  obtain ⟨rb, hrb⟩ : ∃ rb, w.heap.size = rb := ⟨_, rfl⟩
  rw [hrb] at HB1
  simp only [hrb]
  have HRB := Lib.hid hrb
  clear hrb
  go_wp2_with fail
  with_reducible refine Calls.mono (HG.out _ HK1.out) ?_
  rintro e w2 ⟨rfl, rfl⟩
  have hB2 := Blk.new w1 [.int .i64 0, .int .i64 0, .int .i64 0, .int .i64 0, .int .u64 0, .int .i64 0, .int .i64 0, .int .i64 0, .int .i64 0, .slice none 0 0, .int .i64 0] bT.E
  have hk2 : Kept (fun _ => False) w1 (w1.alloc (.cells [.int .i64 0, .int .i64 0, .int .i64 0, .int .i64 0, .int .u64 0, .int .i64 0, .int .i64 0, .int .i64 0, .int .i64 0, .slice none 0 0, .int .i64 0].toArray bT.E)) := (Kept.refl _ w1).alloc _
  have hr2 := hk2.blk HB1.out (fun f => f)
  have HK2 := Lib.hid (HK1.out.trans hk2)
  dsimp only [List.toArray] at hB2 hr2 HK2
  go_upto_region 4 with fail
  generalize w1.alloc (.cells #[.int .i64 0, .int .i64 0, .int .i64 0, .int .i64 0, .int .u64 0, .int .i64 0, .int .i64 0, .int .i64 0, .int .i64 0, .slice none 0 0, .int .i64 0] 40) = w2 at *
  generalize w1.heap.size = zb at *
  have t0 := hB2.cell (o := 0) rfl
  have t1 := hB2.cell (o := 1) rfl
  have t2 := hB2.cell (o := 2) rfl
  have t3 := hB2.cell (o := 3) rfl
  have t4 := hB2.cell (o := 4) rfl
  have t5 := hB2.cell (o := 5) rfl
  have t6 := hB2.cell (o := 6) rfl
  have t7 := hB2.cell (o := 7) rfl
  have t8 := hB2.cell (o := 8) rfl
  have t9 := hB2.cell (o := 9) rfl
  have t10 := hB2.cell (o := 10) rfl
  have e0 := hr2.cell (o := 0) rfl
  have e1 := hr2.cell (o := 1) rfl
  have e2 := hr2.cell (o := 2) rfl
  have e3 := hr2.cell (o := 3) rfl
  have e4 := hr2.cell (o := 4) rfl
  have e5 := hr2.cell (o := 5) rfl
  have e6 := hr2.cell (o := 6) rfl
  have e7 := hr2.cell (o := 7) rfl
  have e8 := hr2.cell (o := 8) rfl
  have e9 := hr2.cell (o := 9) rfl
  have e10 := hr2.cell (o := 10) rfl
  have fz0 := hr2.frozen 0
  have fz1 := hr2.frozen 1
  have fz2 := hr2.frozen 2
  have fz3 := hr2.frozen 3
  have fz4 := hr2.frozen 4
  have fz5 := hr2.frozen 5
  have fz6 := hr2.frozen 6
  have fz7 := hr2.frozen 7
  have fz8 := hr2.frozen 8
  have fz9 := hr2.frozen 9
  have fz10 := hr2.frozen 10
  have hr3 := ((((((((((hr2.set 0 (.int .i64 0)).set 1 (.int .i64 0)).set 2 (.int .i64 0)).set 3 (.int .i64 0)).set 4 (.int .u64 0)).set 5 (.int .i64 0)).set 6 (.int .i64 0)).set 7 (.int .i64 0)).set 8 (.int .i64 0)).set 9 (.slice none 0 0)).set 10 (.int .i64 0)
  have z0 := hr3.cell (o := 0) rfl
  have z1 := hr3.cell (o := 1) rfl
  have z2 := hr3.cell (o := 2) rfl
  have z3 := hr3.cell (o := 3) rfl
  have z4 := hr3.cell (o := 4) rfl
  have z5 := hr3.cell (o := 5) rfl
  have z6 := hr3.cell (o := 6) rfl
  have z7 := hr3.cell (o := 7) rfl
  have z8 := hr3.cell (o := 8) rfl
  have z9 := hr3.cell (o := 9) rfl
  have z10 := hr3.cell (o := 10) rfl
  have R : Hid (Kept (fun _ => False) w (((((((((((w2.setCell ⟨rb, 0, none⟩ (.int .i64 0)).setCell ⟨rb, 1, none⟩ (.int .i64 0)).setCell ⟨rb, 2, none⟩ (.int .i64 0)).setCell ⟨rb, 3, none⟩ (.int .i64 0)).setCell ⟨rb, 4, none⟩ (.int .u64 0)).setCell ⟨rb, 5, none⟩ (.int .i64 0)).setCell ⟨rb, 6, none⟩ (.int .i64 0)).setCell ⟨rb, 7, none⟩ (.int .i64 0)).setCell ⟨rb, 8, none⟩ (.int .i64 0)).setCell ⟨rb, 9, none⟩ (.slice none 0 0)).setCell ⟨rb, 10, none⟩ (.int .i64 0))) :=
    Lib.hid (((((((((((HK2.out.set (b := rb) (fun h => by have := HRB.out; omega) _ _).set (b := rb) (fun h => by have := HRB.out; omega) _ _).set (b := rb) (fun h => by have := HRB.out; omega) _ _).set (b := rb) (fun h => by have := HRB.out; omega) _ _).set (b := rb) (fun h => by have := HRB.out; omega) _ _).set (b := rb) (fun h => by have := HRB.out; omega) _ _).set (b := rb) (fun h => by have := HRB.out; omega) _ _).set (b := rb) (fun h => by have := HRB.out; omega) _ _).set (b := rb) (fun h => by have := HRB.out; omega) _ _).set (b := rb) (fun h => by have := HRB.out; omega) _ _).set (b := rb) (fun h => by have := HRB.out; omega) _ _)
  clear hB2 hk2 hr2 hr3 HG
  go_wp2_with fail
  exact bodyPost_ret (v := .tuple #[bv zB, .int .i64 0, .bool false]) (by simp [results, Try.results50, go_sem, z0, z1, z2, z3, z4, z5, z6, z7, z8, z9, z10]) rfl ⟨rfl, R.out⟩
theorem pop_none {w0 w : World} {b : Nat} {room : Int} {ls : Nat → List Bx} {F : Nat → Prop} (h : St w0 b room ls F w) (ht : top ls 8 = none) :
    Calls Try.prog 50 #[.pointer (some ⟨b, 0, none⟩)] w fun e w' => e = .returned (.tuple #[bv zB, .int .i64 0, .bool false]) ∧ Kept (fun _ => False) w w' :=
  pop_off fun w' hk => highest_none (h.old hk) ht
theorem pop_nil (w : World) :
    Calls Try.prog 50 #[.pointer none] w fun e w' => e = .returned (.tuple #[bv zB, .int .i64 0, .bool false]) ∧ Kept (fun _ => False) w w' :=
  pop_off fun w' hk => highest_nil w'
set_option maxHeartbeats 4000000 in
theorem pop_some {w0 w : World} {b : Nat} {room : Int} {ls : Nat → List Bx} {F : Nat → Prop} (h : St w0 b room ls F w) {p : Nat} (ht : top ls 8 = some p) {x : Bx} {L' : List Bx} (hx : ls p = x :: L') (hl : (ls p).length ≤ 100000) :
    Calls Try.prog 50 #[.pointer (some ⟨b, 0, none⟩)] w fun e w' => e = .returned (.tuple #[bv x, .int .i64 (p : Nat), .bool true]) ∧ ∃ F', St w0 b room (upd ls p L') F' w' ∧ Next F w F' w' := by
  obtain ⟨⟨x1, x2, x3, x4, x5, x6, x7, x8, x9, xd⟩, xa, xc, xq⟩ := x
  have hp := (top_some ht).1
  have HG := Lib.hid fun (w' : World) (hk : Kept (fun _ => False) w w') => highest_some (h.old hk) ht
  have TK := Lib.hid fun (w' : World) (hk : Kept (fun _ => False) w w') => qtake_any (k := 0) (K := 0) (P := (p : Nat)) (h.old hk) rfl rfl hp (x := (⟨⟨x1, x2, x3, x4, x5, x6, x7, x8, x9, xd⟩, xa, xc, xq⟩ : Bx)) (by rw [hx]; rfl) hl
  rw [show (ls p).eraseIdx 0 = L' by rw [hx]; rfl] at TK
  have H0 := Lib.hid h
  have hB1 := Blk.new w [.int .i64 0, .int .i64 0, .int .i64 0, .int .i64 0, .int .u64 0, .int .i64 0, .int .i64 0, .int .i64 0, .int .i64 0, .slice none 0 0, .int .i64 0] bT.E
  have hk1 : Kept (fun _ => False) w (w.alloc (.cells [.int .i64 0, .int .i64 0, .int .i64 0, .int .i64 0, .int .u64 0, .int .i64 0, .int .i64 0, .int .i64 0, .int .i64 0, .slice none 0 0, .int .i64 0].toArray bT.E)) := (Kept.refl _ w).alloc _
  have HB1 := Lib.hid hB1
  have HK1 := Lib.hid hk1
  dsimp only [List.toArray] at HB1 HK1
  clear hB1 hk1 hx hl ht h
  go_enter Try.func50, Try.ntmps50
  go_upto_region 1 with fail
  generalize w.alloc (.cells #[.int .i64 0, .int .i64 0, .int .i64 0, .int .i64 0, .int .u64 0, .int .i64 0, .int .i64 0, .int .i64 0, .int .i64 0, .slice none 0 0, .int .i64 0] 40) = w1 at *
  obtain ⟨rb, hrb⟩ : ∃ rb, w.heap.size = rb := ⟨_, rfl⟩
  rw [hrb] at HB1
  simp only [hrb]
  have HRB := Lib.hid hrb
  clear hrb
  go_wp2_with fail
  with_reducible refine Calls.mono (HG.out _ HK1.out) ?_
  rintro e w2 ⟨rfl, rfl⟩
  go_wp2_with fail
  with_reducible refine Calls.mono (TK.out _ HK1.out) ?_
  rintro e w2 ⟨rfl, F', hS2, hN2⟩
  have hrF : ¬ F rb := fun e => by have := (H0.out.own rb e).2; have := HRB.out; omega
  have hr2 := hN2.1.blk HB1.out hrF
  have hrF' : ¬ F' rb := fun e => (hN2.2 rb e).elim hrF (fun h => by have := HB1.out.lt; omega)
  have e0 := hr2.cell (o := 0) rfl
  have e1 := hr2.cell (o := 1) rfl
  have e2 := hr2.cell (o := 2) rfl
  have e3 := hr2.cell (o := 3) rfl
  have e4 := hr2.cell (o := 4) rfl
  have e5 := hr2.cell (o := 5) rfl
  have e6 := hr2.cell (o := 6) rfl
  have e7 := hr2.cell (o := 7) rfl
  have e8 := hr2.cell (o := 8) rfl
  have e9 := hr2.cell (o := 9) rfl
  have e10 := hr2.cell (o := 10) rfl
  have fz0 := hr2.frozen 0
  have fz1 := hr2.frozen 1
  have fz2 := hr2.frozen 2
  have fz3 := hr2.frozen 3
  have fz4 := hr2.frozen 4
  have fz5 := hr2.frozen 5
  have fz6 := hr2.frozen 6
  have fz7 := hr2.frozen 7
  have fz8 := hr2.frozen 8
  have fz9 := hr2.frozen 9
  have fz10 := hr2.frozen 10
  have hr3 := ((((((((((hr2.set 0 (.int .i64 x1)).set 1 (.int .i64 x2)).set 2 (.int .i64 x3)).set 3 (.int .i64 x4)).set 4 (.int .u64 (x5 : Int))).set 5 (.int .i64 x6)).set 6 (.int .i64 x7)).set 7 (.int .i64 x8)).set 8 (.int .i64 x9)).set 9 (.slice xa xd.length xc)).set 10 (.int .i64 xq)
  have z0 := hr3.cell (o := 0) rfl
  have z1 := hr3.cell (o := 1) rfl
  have z2 := hr3.cell (o := 2) rfl
  have z3 := hr3.cell (o := 3) rfl
  have z4 := hr3.cell (o := 4) rfl
  have z5 := hr3.cell (o := 5) rfl
  have z6 := hr3.cell (o := 6) rfl
  have z7 := hr3.cell (o := 7) rfl
  have z8 := hr3.cell (o := 8) rfl
  have z9 := hr3.cell (o := 9) rfl
  have z10 := hr3.cell (o := 10) rfl
  have k3 : Kept (fun i => i = rb) w2 (((((((((((w2.setCell ⟨rb, 0, none⟩ (.int .i64 x1)).setCell ⟨rb, 1, none⟩ (.int .i64 x2)).setCell ⟨rb, 2, none⟩ (.int .i64 x3)).setCell ⟨rb, 3, none⟩ (.int .i64 x4)).setCell ⟨rb, 4, none⟩ (.int .u64 (x5 : Int))).setCell ⟨rb, 5, none⟩ (.int .i64 x6)).setCell ⟨rb, 6, none⟩ (.int .i64 x7)).setCell ⟨rb, 7, none⟩ (.int .i64 x8)).setCell ⟨rb, 8, none⟩ (.int .i64 x9)).setCell ⟨rb, 9, none⟩ (.slice xa xd.length xc)).setCell ⟨rb, 10, none⟩ (.int .i64 xq)) :=
    (((((((((((Kept.refl (fun i => i = rb) w2).set (b := rb) (fun _ => rfl) _ _).set (b := rb) (fun _ => rfl) _ _).set (b := rb) (fun _ => rfl) _ _).set (b := rb) (fun _ => rfl) _ _).set (b := rb) (fun _ => rfl) _ _).set (b := rb) (fun _ => rfl) _ _).set (b := rb) (fun _ => rfl) _ _).set (b := rb) (fun _ => rfl) _ _).set (b := rb) (fun _ => rfl) _ _).set (b := rb) (fun _ => rfl) _ _).set (b := rb) (fun _ => rfl) _ _
  have R : Hid (∃ F', St w0 b room (upd ls p L') F' (((((((((((w2.setCell ⟨rb, 0, none⟩ (.int .i64 x1)).setCell ⟨rb, 1, none⟩ (.int .i64 x2)).setCell ⟨rb, 2, none⟩ (.int .i64 x3)).setCell ⟨rb, 3, none⟩ (.int .i64 x4)).setCell ⟨rb, 4, none⟩ (.int .u64 (x5 : Int))).setCell ⟨rb, 5, none⟩ (.int .i64 x6)).setCell ⟨rb, 6, none⟩ (.int .i64 x7)).setCell ⟨rb, 7, none⟩ (.int .i64 x8)).setCell ⟨rb, 8, none⟩ (.int .i64 x9)).setCell ⟨rb, 9, none⟩ (.slice xa xd.length xc)).setCell ⟨rb, 10, none⟩ (.int .i64 xq)) ∧ Next F w F' (((((((((((w2.setCell ⟨rb, 0, none⟩ (.int .i64 x1)).setCell ⟨rb, 1, none⟩ (.int .i64 x2)).setCell ⟨rb, 2, none⟩ (.int .i64 x3)).setCell ⟨rb, 3, none⟩ (.int .i64 x4)).setCell ⟨rb, 4, none⟩ (.int .u64 (x5 : Int))).setCell ⟨rb, 5, none⟩ (.int .i64 x6)).setCell ⟨rb, 6, none⟩ (.int .i64 x7)).setCell ⟨rb, 7, none⟩ (.int .i64 x8)).setCell ⟨rb, 8, none⟩ (.int .i64 x9)).setCell ⟨rb, 9, none⟩ (.slice xa xd.length xc)).setCell ⟨rb, 10, none⟩ (.int .i64 xq))) := by
    refine Lib.hid ⟨F', hS2.far k3 (fun i e f => hrF' (e ▸ f)) (fun i e => by subst e; have := H0.out.1.size; have := HRB.out; omega), ?_, fun i hi => (hN2.2 i hi).imp id (fun h => Nat.le_trans HK1.out.size h)⟩
    exact ((HK1.out.mono (fun _ _ f => f.elim)).trans hN2.1).trans' k3 (fun i hi e => by have := HRB.out; omega)
  clear hS2 hN2 hr2 hr3 k3 HG TK HB1
  go_wp2_with fail
  exact bodyPost_ret (v := .tuple #[bv (⟨⟨x1, x2, x3, x4, x5, x6, x7, x8, x9, xd⟩, xa, xc, xq⟩ : Bx), .int .i64 (p : Nat), .bool true]) (by simp [results, Try.results50, go_sem, z0, z1, z2, z3, z4, z5, z6, z7, z8, z9, z10]) rfl ⟨rfl, R.out⟩
end Go.Proofs.Ytompbpiaapenaaa.Qu

/- A queue in memory: Peek, Line, Remove. Conditions: each theorem's own. -/
namespace Go.Proofs.Ytompbpiaapenaaa.Qu
open Go.RowKit Hp QuM QuN Rw
attribute [local go_sem ↓] Go.wp_at_zero Go.wp_at_succ
/-- No such line, or nothing. -/
theorem line_no {q : Option Addr} {p : Int} (h : q = none ∨ ¬ (0 ≤ p ∧ p < 8)) (w : World) :
    Calls Try.prog 85 #[.pointer q, .int .i64 p] w fun e w' => e = .returned (.slice none 0 0) ∧ w = w' := by
  by_cases hq : q = none
  · subst hq
    go_enter Try.func85, Try.ntmps85
    go_wp2_with fail
    go_ret
    exact ⟨rfl, rfl⟩
  · obtain ⟨a, rfl⟩ := Option.ne_none_iff_exists'.1 hq
    have IP := Lib.hid fun w => isPrio_any p w
    rw [decide_eq_false (h.resolve_left hq)] at IP
    clear h hq
    go_enter Try.func85, Try.ntmps85
    go_wp2_with fail
    with_reducible refine Calls.mono (IP.out _) ?_
    rintro e w2 ⟨rfl, rfl⟩
    go_wp2_with fail
    go_ret
    exact ⟨rfl, rfl⟩
theorem line_yes {w0 w : World} {b : Nat} {room : Int} {ls : Nat → List Bx} {F : Nat → Prop} (h : St w0 b room ls F w) {p : Nat} {K : Int} (hK : K = (p : Nat)) (hp : p < 8) (hl : (ls p).length ≤ 100000) :
    Calls Try.prog 85 #[.pointer (some ⟨b, 0, none⟩), .int .i64 K] w fun e w' => ∃ v', e = .returned v' ∧ Row bT w' w.heap.size v' (ls p) ∧ Kept (fun _ => False) w w' := by
  subst hK
  have IP := Lib.hid fun w => isPrio_any (p : Int) w
  rw [decide_eq_true (show 0 ≤ (p : Int) ∧ (p : Int) < 8 by omega)] at IP
  obtain ⟨h0, hr0, c, vs, fs, h1, h2, h3, h4⟩ := h
  have LS := list_any h1.blk (h1.cv p hp) (h1.cf p hp) (by rw [List.length_map]; exact h1.cn p hp) (h1.ring p hp) (by rw [List.length_map]; omega)
  rw [map_bx] at LS
  have LS := Lib.hid LS
  have hp' : (p : Int) < 8 := by omega
  clear h0 hr0 h1 h2 h3 h4
  go_enter Try.func85, Try.ntmps85
  go_wp2_with fail
  with_reducible refine Calls.mono (IP.out _) ?_
  rintro e w2 ⟨rfl, rfl⟩
  go_wp2_with fail
  with_reducible refine Calls.mono LS.out ?_
  rintro e w2 ⟨v', rfl, hr, hk⟩
  have HR := Lib.hid hr
  clear hr
  go_wp2_with fail
  go_ret
  exact ⟨_, rfl, HR.out, hk⟩
end Go.Proofs.Ytompbpiaapenaaa.Qu

