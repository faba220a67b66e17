/- The document's own fabric: Take. Conditions: each theorem's own. -/
import Derived.Test.YtpogpibjkolioaaGreatFpK31
import Derived.Test.YtpogpibjkolioaaGreatFpK18
set_option linter.unusedVariables false
set_option linter.unusedSimpArgs false
namespace Go.Proofs.YtpogpibjkolioaaGreat.Fc
open Go.RowKit Hp QuM Rw Qu Po NumM NumC FbM TpM Tp Go.Proofs.YtpogpibjkolioaaGreat.Fb Rf
attribute [local go_sem ↓] Go.wp_at_zero Go.wp_at_succ
variable {w0 w w' w'' : World} {K : Cf} {N N' : Mo} {X X' : Nat → Prop} {a : Ar} {mb : Nat}
theorem rc_of {a' : Ar} (h : Rb w0 K N X a w) (h7 : Rb w0 K N' X a' w') (e : a'.mb = a.mb) (hW : Wr X w w') : Rc w0 K X a.mb w N' w' :=
 ⟨⟨a', e, h7.more (X' := gro X w w') (fun i hi => Or.inl hi) (gro_b h.xb h.since.size hW.size)⟩, hW⟩
theorem Rb.setI (h : Rb w0 K N X a w) {j : Nat} (hj : j < K.hn) {v' : Value} {L' : List Bx} (hr : Ro.Row fT w v' L') (hd : ∀ x ∈ L', Rok w0 x) (hv : ∀ g, v'.ownBlock = some g → X g) :
  Rb w0 K { N with I := upd N.I j L' } X { a with iv := upd a.iv j v' } (w.setCell ⟨a.ib, j, none⟩ v') := by
 have k : Kept (fun i => i = a.ib) w (w.setCell ⟨a.ib, j, none⟩ v') := Kept.one w a.ib j _
 obtain ⟨c1, h1, h2⟩ := h.prow
 obtain ⟨c2, h3, h4⟩ := h.irow
 have ne : ∀ {i : Nat} {D : List Value} {T : TypeId}, Blk w i D T → T ≠ tFs → ¬ i = a.ib := fun hD hT e => by subst e; exact hT (hD.inj h3).2
 have hm := h.xb _ h.xs.2.2.2
 have hne : ∀ {v : Value} {l : List Bx}, Ro.Row fT w v l → ∀ g, v.ownBlock = some g → ¬ g = a.ib := fun hr g hg => by obtain ⟨D, hD⟩ := frow_blk hr hg; exact ne hD (by decide)
 refine ⟨h.cf, h.since.trans' k (fun i hi e => by omega), fun i hi => ⟨(h.xb i hi).1, Nat.lt_of_lt_of_le (h.xb i hi).2 k.size⟩, k.blk h.blk (ne h.blk (by decide)), k.blk h.mv (ne h.mv (by decide)), ⟨c1, k.blk h1 (ne h1 (by decide)), h2⟩, ⟨_, h3.set j v', fun i hi => ?_⟩, fun p hp => ?_, fun i hi => ?_, fun i x hi hx => ?_, h.inj, h.xs, fun i g hi hg => ?_, h.few⟩
 ·by_cases e : i = j
  ·subst e
   show (c2.set i v')[i]? = some (upd a.iv i v' i)
   rw [upd_self, List.getElem?_set_self (List.getElem?_eq_some_iff.1 (h4 i hi)).1]
  ·show (c2.set j v')[i]? = some (upd a.iv j v' i)
   rw [upd_ne _ _ e, List.getElem?_set_ne (fun e2 => e e2.symm)]; exact h4 i hi
 ·obtain ⟨R, h5, h6⟩ := h.prt p hp
  refine ⟨R, h5.far k (fun i e1 e2 => ?_) (fun i e1 => by omega), h6⟩
  subst e1
  obtain ⟨_, _, _, vs, vc, h7, rfl⟩ := h5
  rcases e2 with e | ⟨k, hk, e⟩ | e
  ·exact absurd (e ▸ h3 |>.inj h7.blk).2 (by decide)
  ·rcases h7.row k hk with ⟨q, _⟩ | ⟨g', o, cap, cur, q, h8⟩
   ·rw [q] at e; cases e
   ·rw [q] at e; cases e; exact absurd (h3.inj h8.blk).2 (by decide)
  ·rcases h7.rowc with ⟨q, _⟩ | ⟨g', o, cap, cur, q, h8⟩
   ·rw [q] at e; cases e
   ·rw [q] at e; cases e; exact absurd (h3.inj h8.blk).2 (by decide)
 ·show Ro.Row fT _ (upd a.iv j v' i) (upd N.I j L' i)
  by_cases e : i = j
  ·subst e; rw [upd_self, upd_self]; exact hr.kept k (hne hr)
  ·rw [upd_ne _ _ e, upd_ne _ _ e]; exact (h.inb i hi).kept k (hne (h.inb i hi))
 ·change x ∈ upd N.I j L' i at hx
  by_cases e : i = j
  ·subst e; rw [upd_self] at hx; exact hd x hx
  ·rw [upd_ne _ _ e] at hx; exact h.dat i x hi hx
 ·change (upd a.iv j v' i).ownBlock = some g at hg
  by_cases e : i = j
  ·subst e; rw [upd_self] at hg; exact hv g hg
  ·rw [upd_ne _ _ e] at hg; exact h.xi i g hi hg
theorem fro_cells {w : World} {g o cap : Nat} {cur : List Value} {l : List Bx} (h : Ro.Lies fT w g o cap cur l) {i : Nat} {x : Bx} (hi : l[i]? = some x) :
  w.cell? ⟨g, o + i * 10, none⟩ = some (.int .i64 x.f.kind) ∧ w.cell? ⟨g, o + i * 10 + 1, none⟩ = some (.int .i64 x.f.src) ∧ w.cell? ⟨g, o + i * 10 + 2, none⟩ = some (.int .i64 x.f.dst) ∧ w.cell? ⟨g, o + i * 10 + 3, none⟩ = some (.int .i64 x.f.prio) ∧ w.cell? ⟨g, o + i * 10 + 4, none⟩ = some (.int .u64 (x.f.msg : Int)) ∧ w.cell? ⟨g, o + i * 10 + 5, none⟩ = some (.int .i64 x.f.off) ∧ w.cell? ⟨g, o + i * 10 + 6, none⟩ = some (.int .i64 x.f.len) ∧ w.cell? ⟨g, o + i * 10 + 7, none⟩ = some (.int .i64 x.f.total) ∧ w.cell? ⟨g, o + i * 10 + 8, none⟩ = some (.int .i64 x.f.num) ∧ w.cell? ⟨g, o + i * 10 + 9, none⟩ = some (.slice x.s x.f.data.length x.c) := by
 have c : ∀ (j : Nat) (u : Value), (fT.enc x)[j]? = some u → w.cell? ⟨g, o + i * 10 + j, none⟩ = some u := fun j u hu => by have := h.cell (t := fT) hi hu; exact this
 exact ⟨c 0 _ rfl, c 1 _ rfl, c 2 _ rfl, c 3 _ rfl, c 4 _ rfl, c 5 _ rfl, c 6 _ rfl, c 7 _ rfl, c 8 _ rfl, c 9 _ rfl⟩
theorem fro_tail {w : World} {a : Option Addr} {cc : Nat} {x : Bx} {L : List Bx} (h : Ro.Row fT w (.slice a (L.length + 1) cc) (x :: L)) :
  Ro.Row fT w (.slice (if cc = 1 then a else a.map (fun z => z.add 10)) L.length (cc - 1)) L ∧ ∀ g, (Value.slice (if cc = 1 then a else a.map (fun z => z.add 10)) L.length (cc - 1)).ownBlock = some g → (Value.slice a (L.length + 1) cc).ownBlock = some g := by
 rcases h with ⟨e, h⟩ | ⟨g, o, cap, cur, e, h2⟩
 ·cases h
 ·cases e
  have hle := h2.le
  rw [List.length_cons] at hle
  by_cases e : cc = 1
  ·rw [if_pos e]
   have hL : L = [] := List.length_eq_zero_iff.1 (by omega)
   subst hL
   subst e
   exact ⟨h2.cut_all, fun g hg => hg⟩
  ·rw [if_neg e]
   have := h2.cut (n := 1) (by rw [List.length_cons]; omega)
   simp only [Option.map_some, Go.WideShapes.add_plain]
   exact ⟨by simpa using this, fun g hg => hg⟩
theorem fro_head {w : World} {v : Value} {x : Bx} {L : List Bx} (h : Ro.Row fT w v (x :: L)) : ∃ g o cc cur, v = .slice (some ⟨g, o, none⟩) (L.length + 1) cc ∧ L.length + 1 ≤ cc ∧ Ro.Lies fT w g o cc cur (x :: L) := by
 rcases h with ⟨e, h⟩ | ⟨g, o, cap, cur, e, h2⟩
 ·cases h
 ·exact ⟨g, o, cap, cur, e, by have := h2.le; rwa [List.length_cons] at this, h2⟩
set_option maxRecDepth 100000 in
set_option maxHeartbeats 8000000 in
theorem rb_take_no (h : RB w0 K N X mb w) {J : Int} (hj : (J < 0 ∨ K.H ≤ J) ∨ ∃ j : Nat, J = j ∧ j < K.hn ∧ N.I j = []) :
  Calls Tryz.prog 13 #[ptr mb, .int .i64 J] w fun e w' => e = .returned (.tuple #[fv zF, .bool false]) ∧ Kept (fun _ => False) w w' := by
 obtain ⟨a, rfl, h⟩ := h
 have hH := h.cf.hn
 have h8 := h.cf.le
 have hcase : J < 0 ∨ (decide (J < 0) = false ∧ K.H ≤ J) ∨ (decide (J < 0) = false ∧ decide (K.H ≤ J) = false ∧ ∃ j : Nat, J = j ∧ j < K.hn ∧ N.I j = []) := by
  rcases hj with (hj | hj) | ⟨j, rfl, h1, h2⟩
  ·exact Or.inl hj
  ·by_cases h0 : J < 0
   ·exact Or.inl h0
   ·exact Or.inr (Or.inl ⟨by rw [decide_eq_false_iff_not]; exact h0, hj⟩)
  ·exact Or.inr (Or.inr ⟨by rw [decide_eq_false_iff_not]; omega, by rw [decide_eq_false_iff_not]; omega, j, rfl, h1, h2⟩)
 have HH := Lib.hid h
 clear h hj
 rcases hcase with h1 | ⟨h1, h2⟩ | ⟨h1, h2, j, rfl, hj, hI⟩
 all_goals
  go_enter Tryz.func13, Tryz.ntmps13
  go_upto_region 1 with fail
  have hO := Blk.new w [.int .i64 0, .int .i64 0, .int .i64 0, .int .i64 0, .int .u64 0, .int .i64 0, .int .i64 0, .int .i64 0, .int .i64 0, .slice none 0 0] 35
  have hk1 := (Kept.refl (fun _ => False) w).alloc (.cells [.int .i64 0, .int .i64 0, .int .i64 0, .int .i64 0, .int .u64 0, .int .i64 0, .int .i64 0, .int .i64 0, .int .i64 0, .slice none 0 0].toArray 35)
  dsimp only [List.toArray] at hO hk1
  generalize w.alloc (.cells #[.int .i64 0, .int .i64 0, .int .i64 0, .int .i64 0, .int .u64 0, .int .i64 0, .int .i64 0, .int .i64 0, .int .i64 0, .slice none 0 0] 35) = w1 at *
  obtain ⟨rb, hrb⟩ : ∃ rb, w.heap.size = rb := ⟨_, rfl⟩
  rw [hrb] at hO
  simp only [hrb]
  have HRB := Lib.hid hrb
  have H1 := HH.out.old hk1
  have c0 := H1.blk.cell (o := 0) rfl
  have c2 := H1.blk.cell (o := 2) rfl
  have m0 := Blk.cell (o := 0) H1.mv rfl
 ·skip
  obtain ⟨n0, n1, n2, n3, n4, n5, n6, n7, n8, n9⟩ := cs10 hO
  obtain ⟨fz0, fz1, fz2, fz3, fz4, fz5, fz6, fz7, fz8, fz9⟩ := fz10 hO
  have hO6 := set10_blk hO rfl zF
  have k6 := set10_kept w1 rb zF
  have HK6 : Hid (Kept (fun _ => False) w (set10 w1 rb zF)) := Lib.hid (hk1.trans' k6 (fun i hi e => by have h9 : i = rb := e; have := HRB.out; omega))
  unfold set10 at HK6 hO6
  dsimp only [List.length_nil, Int.natCast_zero] at HK6 hO6
  obtain ⟨z0, z1, z2, z3, z4, z5, z6, z7, z8, z9⟩ := cs10 hO6
  clear hO hO6 k6 hk1 H1 hrb
  go_wp2_with fail
  exact bodyPost_ret (v := .tuple #[fv zF, .bool false]) (by simp [results, Tryz.results13, go_sem, z0, z1, z2, z3, z4, z5, z6, z7, z8, z9]) rfl ⟨rfl, HK6.out⟩
 ·skip
  obtain ⟨n0, n1, n2, n3, n4, n5, n6, n7, n8, n9⟩ := cs10 hO
  obtain ⟨fz0, fz1, fz2, fz3, fz4, fz5, fz6, fz7, fz8, fz9⟩ := fz10 hO
  have hO6 := set10_blk hO rfl zF
  have k6 := set10_kept w1 rb zF
  have HK6 : Hid (Kept (fun _ => False) w (set10 w1 rb zF)) := Lib.hid (hk1.trans' k6 (fun i hi e => by have h9 : i = rb := e; have := HRB.out; omega))
  unfold set10 at HK6 hO6
  dsimp only [List.length_nil, Int.natCast_zero] at HK6 hO6
  obtain ⟨z0, z1, z2, z3, z4, z5, z6, z7, z8, z9⟩ := cs10 hO6
  clear hO hO6 k6 hk1 H1 hrb
  go_wp2_with fail
  exact bodyPost_ret (v := .tuple #[fv zF, .bool false]) (by simp [results, Tryz.results13, go_sem, z0, z1, z2, z3, z4, z5, z6, z7, z8, z9]) rfl ⟨rfl, HK6.out⟩
 ·have i0 := H1.inb_at hj
  have hr := H1.inb j hj
  rw [hI] at hr
  obtain ⟨av, cv, hv, _⟩ := hr.slice
  rw [hv] at i0
  have i0 : w1.cell? ⟨a.ib, j, none⟩ = some (.slice av 0 cv) := i0
  have hj' : (j : Int) < (K.hn : Int) := by omega
  have hj0 : (0 : Int) ≤ (j : Int) := by omega
  clear hr hv hH
  obtain ⟨n0, n1, n2, n3, n4, n5, n6, n7, n8, n9⟩ := cs10 hO
  obtain ⟨fz0, fz1, fz2, fz3, fz4, fz5, fz6, fz7, fz8, fz9⟩ := fz10 hO
  have hO6 := set10_blk hO rfl zF
  have k6 := set10_kept w1 rb zF
  have HK6 : Hid (Kept (fun _ => False) w (set10 w1 rb zF)) := Lib.hid (hk1.trans' k6 (fun i hi e => by have h9 : i = rb := e; have := HRB.out; omega))
  unfold set10 at HK6 hO6
  dsimp only [List.length_nil, Int.natCast_zero] at HK6 hO6
  obtain ⟨z0, z1, z2, z3, z4, z5, z6, z7, z8, z9⟩ := cs10 hO6
  clear hO hO6 k6 hk1 H1 hrb
  go_wp2_with fail
  exact bodyPost_ret (v := .tuple #[fv zF, .bool false]) (by simp [results, Tryz.results13, go_sem, z0, z1, z2, z3, z4, z5, z6, z7, z8, z9]) rfl ⟨rfl, HK6.out⟩
set_option maxRecDepth 100000 in
set_option maxHeartbeats 8000000 in
theorem rb_take_yes (h : RB w0 K N X mb w) {j : Nat} (hj : j < K.hn) {x : Bx} {L : List Bx} (hI : N.I j = x :: L) (hl : (N.I j).length ≤ 100000) :
  Calls Tryz.prog 13 #[ptr mb, .int .i64 (j : Nat)] w fun e w' => e = .returned (.tuple #[fv x, .bool true]) ∧ Rok w0 x ∧ Rc w0 K X mb w { N with I := upd N.I j L } w' := by
 obtain ⟨a, rfl, h⟩ := h
 have HRok := Lib.hid (h.dat j x hj (by rw [hI]; exact List.mem_cons_self))
 have HSub := Lib.hid (fun (y : Bx) (hy : y ∈ L) => h.dat j y hj (by rw [hI]; exact List.mem_cons_of_mem _ hy))
 have hH := h.cf.hn
 have g0 : decide ((j : Int) < 0) = false := by rw [decide_eq_false_iff_not]; omega
 have g1 : decide (K.H ≤ (j : Int)) = false := by rw [decide_eq_false_iff_not]; omega
 have hj' : (j : Int) < (K.hn : Int) := by omega
 have hj0 : (0 : Int) ≤ (j : Int) := by omega
 have hr := h.inb j hj
 rw [hI] at hr hl
 rw [List.length_cons] at hl
 obtain ⟨g, o, c9, cur, hvv, hle9, hL9⟩ := fro_head hr
 have hr2 := hr
 rw [hvv] at hr2
 have TL := Lib.hid (fro_tail hr2)
 simp only [Option.map_some, Go.WideShapes.add_plain] at TL
 have hlr : L.length + 1 - 1 = L.length := by omega
 have hl2 : 1 ≤ L.length + 1 := by omega
 have hgl := hL9.blk.lt
 have HL9 := Lib.hid hL9
 have HVV := Lib.hid hvv
 have HX4 := Lib.hid (fun g' (hg : (a.iv j).ownBlock = some g') => h.xi j g' hj hg)
 have HH := Lib.hid h
 clear hr hr2 hL9 h hI hH hvv
 obtain ⟨ln, hln⟩ : ∃ ln, L.length + 1 = ln := ⟨_, rfl⟩
 have HLN := Lib.hid hln
 rw [hln] at hl hle9 hlr hl2 HVV
 have hln0 : ((ln : Int) == 0) = false := by rw [beq_eq_false_iff_ne]; omega
 have hlnp : (0 : Int) < (ln : Int) := by omega
 have hl1 : (1 : Int) ≤ (ln : Int) := by omega
 have hc1 : (1 : Int) ≤ (c9 : Int) := by omega
 have hc2 : 1 ≤ c9 := by omega
 have TL1 : Hid (∀ w', Kept (fun _ => False) w w' → Ro.Row fT w' (.slice (if c9 = 1 then some ⟨g, o, none⟩ else some ⟨g, o + 10, none⟩) (ln - 1) (c9 - 1)) L) := Lib.hid fun w' k => by have := TL.out.1.old k; rw [← hlr] at this; exact this
 have TL2 : Hid (∀ g', (Value.slice (if c9 = 1 then some ⟨g, o, none⟩ else some ⟨g, o + 10, none⟩) (ln - 1) (c9 - 1)).ownBlock = some g' → X g') := Lib.hid fun g' hg => HX4.out g' (by rw [HVV.out, ← HLN.out]; exact TL.out.2 g' (by rw [← hlr]; exact hg))
 clear hln hlr TL HX4
 obtain ⟨⟨x1, x2, x3, x4, x5, x6, x7, x8, x9, xd⟩, xa, xc, xq⟩ := x
 go_enter Tryz.func13, Tryz.ntmps13
 go_upto_region 1 with fail
 have hO := Blk.new w [.int .i64 0, .int .i64 0, .int .i64 0, .int .i64 0, .int .u64 0, .int .i64 0, .int .i64 0, .int .i64 0, .int .i64 0, .slice none 0 0] 35
 have hk1 := (Kept.refl (fun _ => False) w).alloc (.cells [.int .i64 0, .int .i64 0, .int .i64 0, .int .i64 0, .int .u64 0, .int .i64 0, .int .i64 0, .int .i64 0, .int .i64 0, .slice none 0 0].toArray 35)
 dsimp only [List.toArray] at hO hk1
 generalize w.alloc (.cells #[.int .i64 0, .int .i64 0, .int .i64 0, .int .i64 0, .int .u64 0, .int .i64 0, .int .i64 0, .int .i64 0, .int .i64 0, .slice none 0 0] 35) = w1 at *
 obtain ⟨rb, hrb⟩ : ∃ rb, w.heap.size = rb := ⟨_, rfl⟩
 rw [hrb] at hO hgl
 simp only [hrb]
 have HRB := Lib.hid hrb
 have HO := Lib.hid hO
 have HK1 := Lib.hid hk1
 have H1 := Lib.hid (HH.out.old hk1)
 have c0 := H1.out.blk.cell (o := 0) rfl
 have c2 := H1.out.blk.cell (o := 2) rfl
 have m0 := Blk.cell (o := 0) H1.out.mv rfl
 have i0 := H1.out.inb_at hj
 rw [HVV.out] at i0
 obtain ⟨d0, d1, d2, d3, d4, d5, d6, d7, d8, d9⟩ := fro_cells (HL9.out.kept hk1 (fun f => f)) (i := 0) rfl
 simp only [Nat.zero_mul, Nat.add_zero] at d0 d1 d2 d3 d4 d5 d6 d7 d8 d9
 clear hrb hO hk1
 go_upto_region 4 with fail
 have hI := Blk.new w1 [.int .i64 x1, .int .i64 x2, .int .i64 x3, .int .i64 x4, .int .u64 (x5 : Int), .int .i64 x6, .int .i64 x7, .int .i64 x8, .int .i64 x9, .slice xa xd.length xc] 35
 have hk3 := (Kept.refl (fun _ => False) w1).alloc (.cells [.int .i64 x1, .int .i64 x2, .int .i64 x3, .int .i64 x4, .int .u64 (x5 : Int), .int .i64 x6, .int .i64 x7, .int .i64 x8, .int .i64 x9, .slice xa xd.length xc].toArray 35)
 dsimp only [List.toArray] at hI hk3
 have HK3 := Lib.hid (HK1.out.trans hk3)
 have H3 := Lib.hid (HH.out.old HK3.out)
 have HO3 := Lib.hid (hk3.blk HO.out (fun f => f))
 have TR3 := Lib.hid (TL1.out _ HK3.out)
 have HI := Lib.hid hI
 have hsz : rb < w1.heap.size := HO.out.lt
 clear hk3 hI c0 c2 m0 i0 d0 d1 d2 d3 d4 d5 d6 d7 d8 d9 H1
 generalize w1.alloc (.cells #[.int .i64 x1, .int .i64 x2, .int .i64 x3, .int .i64 x4, .int .u64 (x5 : Int), .int .i64 x6, .int .i64 x7, .int .i64 x8, .int .i64 x9, .slice xa xd.length xc] 35) = w3 at *
 generalize w1.heap.size = ob at *
 have c2 := H3.out.blk.cell (o := 2) rfl
 have i0 := H3.out.inb_at hj
 rw [HVV.out] at i0
 have fz : w3.frozen? ⟨a.ib, j, none⟩ = false := by obtain ⟨c5, h5, _⟩ := H3.out.irow; exact h5.frozen j
 have hib : a.ib < rb := by have := (HH.out.xb _ HH.out.xs.2.2.2).2; have := HRB.out; omega
 go_wp2_with fail
 go_region_with (fail)
 all_goals
  generalize Value.slice (if c9 = 1 then some ⟨g, o, none⟩ else some ⟨g, o + 10, none⟩) (ln - 1) (c9 - 1) = sv at *
  have k4 : Kept (fun i => i = a.ib) w3 (w3.setCell ⟨a.ib, j, none⟩ sv).drew := (Kept.one w3 a.ib j sv).drew
  have H6 := Lib.hid ((H3.out.setI hj TR3.out HSub.out TL2.out).old (Kept.refl _ _).drew)
  have hO6 := k4.blk HO3.out (by omega)
  have hI6 := k4.blk HI.out (by omega)
  have HK6 := Lib.hid ((HK3.out.mono (fun _ _ f => f.elim)).trans k4)
  clear k4 H3 HO3 HI HK3 TR3 c2 i0 fz
  generalize (w3.setCell ⟨a.ib, j, none⟩ sv).drew = w6 at *
  obtain ⟨i0, i1, i2, i3, i4, i5, i6, i7, i8, i9⟩ := cs10 hI6
  obtain ⟨n0, n1, n2, n3, n4, n5, n6, n7, n8, n9⟩ := cs10 hO6
  obtain ⟨fz0, fz1, fz2, fz3, fz4, fz5, fz6, fz7, fz8, fz9⟩ := fz10 hO6
  have hO7 := set10_blk hO6 rfl ⟨⟨x1, x2, x3, x4, x5, x6, x7, x8, x9, xd⟩, xa, xc, xq⟩
  have k7 := set10_kept w6 rb ⟨⟨x1, x2, x3, x4, x5, x6, x7, x8, x9, xd⟩, xa, xc, xq⟩
  have RES : Hid (Rc w0 K X a.mb w { N with I := upd N.I j L } (set10 w6 rb ⟨⟨x1, x2, x3, x4, x5, x6, x7, x8, x9, xd⟩, xa, xc, xq⟩)) := by
   have h7 := H6.out.kept k7 (fun i e f => by have := (HH.out.xb i f).2; have := HRB.out; omega) (fun i e => by have := HH.out.since.size; have := HRB.out; omega)
   have hK7 := HK6.out.trans' k7 (fun i hi e => by have := HRB.out; omega)
   obtain ⟨c5, h5, _⟩ := HH.out.irow
   exact Lib.hid (rc_of HH.out h7 rfl ⟨_, hK7, fun i e => by subst e; exact HH.out.xs.2.2.2, fun i e _ => by subst e; exact ⟨_, _, h5, by decide⟩⟩)
  unfold set10 at RES hO7
  dsimp only at RES hO7
  obtain ⟨z0, z1, z2, z3, z4, z5, z6, z7, z8, z9⟩ := cs10 hO7
  clear hI6 hO6 hO7 k7
  go_wp2_with fail
  exact bodyPost_ret (v := .tuple #[fv ⟨⟨x1, x2, x3, x4, x5, x6, x7, x8, x9, xd⟩, xa, xc, xq⟩, .bool true]) (by simp [results, Tryz.results13, go_sem, z0, z1, z2, z3, z4, z5, z6, z7, z8, z9]) rfl ⟨rfl, HRok.out, RES.out⟩
end Go.Proofs.YtpogpibjkolioaaGreat.Fc

